/-
  What the laws over bytes of objects have in common. No conditions beyond what is written in each statement.
-/
import Derived.Test.YtnobgmdknalpdaaLReg
import Derived.Test.YtnobgmdknalpdaaBack
import Derived.Test.YtnobgmdknalpdaaNode1
import Derived.Test.YtnobgmdknalpdaaConv
import Derived.Test.YtnobgmdknalpdaaGet12
import Derived.Lib.ConvBytes
set_option linter.unusedSimpArgs false
set_option linter.unusedVariables false
namespace Go.Proofs.Ytnobgmdknalpdaa
open Go.RowKit

def AllB (l : List Value) : Prop := ∀ v ∈ l, ∃ x, v = .int .u8 x ∧ 0 ≤ x ∧ x ≤ 255
theorem allB_word (x : Nat) : AllB (wbytes x) := by
  intro v hv
  unfold wbytes at hv
  rw [List.mem_map] at hv
  obtain ⟨k, _, rfl⟩ := hv
  refine ⟨wbyteI x k, rfl, ?_, ?_⟩ <;> unfold wbyteI <;> omega
theorem AllB.app {a b : List Value} (ha : AllB a) (hb : AllB b) : AllB (a ++ b) := fun v hv => (List.mem_append.1 hv).elim (ha v) (hb v)
theorem AllB.flat {α : Type} {f : α → List Value} {l : List α} (h : ∀ x, AllB (f x)) : AllB (l.flatMap f) := fun v hv => by
  obtain ⟨x, _, hx⟩ := List.mem_flatMap.1 hv
  exact h x v hx
theorem allB_list {α : Type} {f : α → List Value} {l : List α} (h : ∀ x, AllB (f x)) : AllB (lbytes f l) := (allB_word _).app (AllB.flat h)
theorem allB_name (s : ByteArray) : AllB (nbytes s) := allB_word _
theorem allB_pair (x : Str2) : AllB (pbytes x) := (allB_name _).app (allB_name _)
theorem allB_tol (x : Tol) : AllB (tbytes x) := ((allB_name _).app (allB_name _)).app (allB_word _)
theorem allB_trm (x : Trm) : AllB (rbytes x) := ((allB_name _).app (allB_word _)).app (allB_list allB_name)
theorem allB_res (a b c : Int) : AllB (resBytes a b c) := ((allB_word _).app (allB_word _)).app (allB_word _)
theorem allB_pod (p : PodD) : AllB (podEnc p) := by
  unfold podEnc
  split
  · exact ((((((((((((((allB_word _).app (allB_name _)).app (allB_word _)).app (allB_word _)).app (allB_res _ _ _)).app (allB_list fun x => allB_word _)).app (allB_list allB_pair)).app (allB_list allB_trm)).app (allB_list allB_tol)).app (allB_name _)).app (allB_list allB_trm)).app (allB_word _)).app (allB_list allB_trm)).app (allB_name _)).app (allB_word _)
  · intro v hv; cases hv
theorem allB_node (p : NodeD) : AllB (nodeEnc p) := by
  unfold nodeEnc
  split
  · exact ((((allB_word _).app (allB_name _)).app (allB_res _ _ _)).app (allB_list allB_pair)).app (allB_list allB_pair)
  · intro v hv; cases hv
theorem AllB.u8 {l : List Value} (h : AllB l) : l = u8s (vI l) := by
  unfold u8s vI
  rw [List.map_map]
  conv => lhs; rw [← List.map_id l]
  apply List.map_congr_left
  intro v hv
  obtain ⟨x, rfl, _⟩ := h v hv
  rfl
theorem AllB.bytes {l : List Value} (h : AllB l) : Bytes (vI l) := by
  intro x hx
  unfold vI at hx
  obtain ⟨v, hv, rfl⟩ := List.mem_map.1 hx
  obtain ⟨y, rfl, h0, h1⟩ := h v hv
  exact ⟨h0, h1⟩
/-- Bytes of one's own: where they lie. -/
theorem own_bytes {w : World} {N : Nat} {v : Value} {bs : List Value} (h : w.ownsRow N 5 1 v bs.length bs) (hb : AllB bs) :
    ∃ a cap, v = .slice a bs.length cap ∧ bs.length ≤ cap ∧ cap ≤ maxLen ∧ AtB w a (vI bs) ∧ PlainA a := by
  obtain ⟨a, cap, e, h1, h2, h3⟩ := bytes_of (vI bs) h hb.u8 (vI_len bs) hb.bytes
  refine ⟨a, cap, e, h1, h2, h3, ?_⟩
  rcases h.2 with ⟨e2, _⟩ | ⟨g, c, cur, e2, _⟩
  · rw [e, Value.slice.injEq] at e2
    exact Or.inl e2.1
  · rw [e, Value.slice.injEq] at e2
    exact Or.inr ⟨g, 0, e2.1⟩
theorem AtB.below {w w1 : World} {a : Option Addr} {l : List Int} (h : AtB w a l) (hb : Below w.heap.size w w1) : AtB w1 a l := fun i hi => by
  obtain ⟨b, off, ha, hlt, c0, h1⟩ := h i hi
  exact ⟨b, off, ha, Nat.lt_of_lt_of_le hlt hb.size, cell_later hb c0, h1⟩
theorem heap_allocC (W : World) (o o' : Obj) : ((W.alloc o).alloc o').heap[W.heap.size]? = some o := by
  rw [Below.heap_alloc _ _ _ (by simp)]
  exact heap_alloc_self W o
theorem heap_allocD (W : World) (o o' : Obj) : ((W.alloc o).alloc o').heap[W.heap.size + 1]? = some o' := by
  have := heap_alloc_self (W.alloc o) o'
  simpa using this
theorem le63b {n c : Nat} (h1 : n ≤ c) (h2 : c ≤ maxLen) : n ≤ 9223372036854775807 := by unfold maxLen at h2; omega
theorem own_some {w : World} {N : Nat} {t : TypeId} {sz : Nat} {a : Option Addr} {n cap : Nat} {xs : List Value} (h : w.ownsRow N t sz (.slice a n cap) n xs) (hn : 0 < n) : ∃ g, a = some ⟨g, 0, none⟩ := by
  rcases h.2 with ⟨_, e⟩ | ⟨g, c, cur, e, _⟩
  · omega
  · rw [Value.slice.injEq] at e
    exact ⟨g, e.1⟩
theorem u8_back {x : Int} (h0 : 0 ≤ x) (h1 : x ≤ 255) : ((UInt8.ofNat x.toNat).toNat : Int) = x := by
  rw [UInt8.toNat_ofNat']
  omega
theorem bytes_new (w : World) (s : ByteArray) (l : List Int) (hb : Bytes l) (hs : strOfNums l = s) (hl : l.length ≤ maxLen) :
    ∃ w' cap, (convert 9 48 (.string s)).run Try.prog w = .ok (.slice (some ⟨w.heap.size, 0, none⟩) l.length cap) w' ∧ l.length ≤ cap ∧ cap ≤ maxLen ∧ AtB w' (some ⟨w.heap.size, 0, none⟩) l ∧ Below w.heap.size w w' := by
  have hz : s.size = l.length := by rw [← hs, strOfNums_size]
  refine ⟨Lib.bytesWorld w 5 s, grownCap w s.size 0 5, ?_, ?_, ?_, ?_, ?_⟩
  · rw [← hz]
    exact Lib.run_convert_string_bytes w _ _ 5 s Try.underlying9 Try.underlying48 Try.underlying5
  · rw [← hz]; exact grownCap_ge _ _ _ _
  · exact grownCap_le_maxLen _ _ _ _ (by omega)
  · intro i hi
    have hm : l.getD i 0 ∈ l := by
      rw [List.getD_eq_getElem?_getD, List.getElem?_eq_getElem hi]
      exact List.getElem_mem hi
    obtain ⟨b0, b1⟩ := hb _ hm
    refine ⟨_, _, rfl, by rw [Lib.bytesWorld_size]; omega, ?_, b0, b1⟩
    rw [Nat.zero_add, Lib.bytesWorld_cell w _ s i (by omega)]
    have e : s.data.toList.getD i 0 = UInt8.ofNat (l.getD i 0).toNat := by
      rw [← hs, strOfNums_data, List.getD_eq_getElem?_getD, List.getElem?_map, List.getElem?_eq_getElem hi, List.getD_eq_getElem?_getD, List.getElem?_eq_getElem hi]
      rfl
    rw [e, u8_back b0 b1]
  · exact ⟨rfl, rfl, rfl, by rw [Lib.bytesWorld_size]; omega, fun k hk => Lib.bytesWorld_at_old w _ s k hk⟩
theorem getPod_nil : getPodR [] = none := by kernel_rfl
abbrev podC (p : PodD) (h : PodH) : Array Value := #[.string p.name, .int .i64 p.uid, .int .i64 p.prio, .int .i64 p.r0, .int .i64 p.r1, .int .i64 p.r2, .slice h.pa p.ports.length h.pc, .slice h.la p.labels.length h.lc, .slice h.sa p.sel.length h.sc,
  .slice h.ta p.tols.length h.tc, .string p.topo, .slice h.aa p.anti.length h.ac, .int .i64 p.skew, .slice h.ea p.even.length h.ec, .string p.node, .int .i64 p.term]
abbrev nodeC (p : NodeD) (h : NodeH) : Array Value := #[.string p.name, .int .i64 p.r0, .int .i64 p.r1, .int .i64 p.r2, .slice h.la p.labels.length h.lc, .slice h.ta p.taints.length h.tc]
theorem two_later {w0 W W' : World} {A B : Nat} {cA cB : Array Value} (h : Below w0.heap.size w0 W ∧ (∀ o, W.cell? ⟨A, o, none⟩ = cA[o]?) ∧ (∀ o, W.cell? ⟨B, o, none⟩ = cB[o]?)) (hb : Below W.heap.size W W') (hA : A < w0.heap.size) (hB : B < w0.heap.size) :
    Below w0.heap.size w0 W' ∧ (∀ o, W'.cell? ⟨A, o, none⟩ = cA[o]?) ∧ (∀ o, W'.cell? ⟨B, o, none⟩ = cB[o]?) :=
  ⟨h.1.trans (hb.mono h.1.size), fun o => (hb.cell (p := ⟨A, o, none⟩) (Nat.lt_of_lt_of_le hA h.1.size)).trans (h.2.1 o), fun o => (hb.cell (p := ⟨B, o, none⟩) (Nat.lt_of_lt_of_le hB h.1.size)).trans (h.2.2 o)⟩
end Go.Proofs.Ytnobgmdknalpdaa
