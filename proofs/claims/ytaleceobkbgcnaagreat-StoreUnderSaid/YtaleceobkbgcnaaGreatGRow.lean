/-
  What all laws' rows have in common. No conditions beyond what is written in each statement.
-/
import Derived.Test.YtaleceobkbgcnaaGreatRows
import Derived.Test.YtaleceobkbgcnaaGreatOpen0
import Derived.Test.YtaleceobkbgcnaaGreatBeg2
import Derived.Test.YtaleceobkbgcnaaGreatGLogA
import Derived.SizedLaws
import Derived.Lib.SmallJoins
set_option linter.unusedSimpArgs false
set_option linter.unusedVariables false
namespace Go.Proofs.YtaleceobkbgcnaaGreat
open Go.ChangeShapes Go.WideShapes Go.ChangeAt Go.RowKit

theorem own0 : ownKnob Tryz.prog.godebug = none := by kernel_rfl
theorem laid0 : laidOutB Tryz.prog = true := by kernel_rfl
/-- All arguments read behind the call as they did, where nothing old has turned. -/
theorem trodAll_below {H : Type} {enc : TypeId × Value → H} {W W' : World} (hb : Below W.heap.size W W') : ∀ {ts : List TypeId} {vs : List Value} {ds : List (DataW H)} {ps : List MemPlace},
    (∀ t ∈ ts, Tryz.prog.readableRec t = true ∧ t < Tryz.prog.types.size) → DataW.TrodAll enc Tryz.prog W 0 (fun _ => true) true ts vs ds ps → (∀ x ∈ ps, x.block < W.heap.size) →
    DataW.TrodAll enc Tryz.prog W' 0 (fun b => decide (b < W.heap.size)) true ts vs ds ps := by
  intro ts
  induction ts with
  | nil =>
    intro vs ds ps _ h _
    obtain ⟨rfl, rfl, rfl⟩ := trodAll_nil h
    simp [DataW.TrodAll]
  | cons t ts ih =>
    intro vs ds ps hr h hl
    obtain ⟨v, vs', d, ds', p, q, rfl, rfl, rfl, h0, h1⟩ := trodAll_cons h
    have r0 := hr t (by simp)
    exact ⟨p, q, Below.trod laid0 r0.1 r0.2 h0 hb (fun x hx => hl x (by simp [hx])), ih (fun t ht => hr t (by simp [ht])) h1 (fun x hx => hl x (by simp [hx])), rfl⟩
theorem readable {ts : List TypeId} (h : (ts.all fun t => Tryz.prog.readableRec t && decide (t < Tryz.prog.types.size)) = true) : ∀ t ∈ ts, Tryz.prog.readableRec t = true ∧ t < Tryz.prog.types.size := by
  intro t ht
  simpa using List.all_eq_true.1 h t ht

variable {H : Type} {enc : TypeId × Value → H} {W : World} {base : Nat}
set_option maxRecDepth 100000 in
theorem okWide_arr {r : Reach} {t e : TypeId} {n : Nat} {v : Value} (ht : Tryz.prog.underlying t = some (.array n e)) (h : Value.okWide Tryz.prog W r base t v) : ∃ cs, v = .agg cs := by
  simp only [Value.okWide, ht] at h
  obtain ⟨cs, h1, _⟩ := h
  exact ⟨cs, h1⟩
set_option maxRecDepth 100000 in
/-- An argument that is an amount. -/
theorem open_res {v : Value} {d : DataW H} {p : List MemPlace} (hv : Value.okWide Tryz.prog W .any base 210 v) (h : DataW.Trod enc Tryz.prog W 0 (fun _ => true) true 210 v d p) : ∃ a b c : Int, v = res a b c := by
  obtain ⟨fuel, hf⟩ := h
  obtain ⟨cs, rfl⟩ := okWide_arr Tryz.underlying210 hv
  obtain ⟨a, b, c, e, _⟩ := open_res_el hf
  refine ⟨a, b, c, ?_⟩
  have e2 : cs.toList = [.int .i64 a, .int .i64 b, .int .i64 c] := by simpa [Value.cells] using e
  rw [show cs = #[.int .i64 a, .int .i64 b, .int .i64 c] from Array.toList_inj.mp (by rw [e2])]
set_option maxRecDepth 100000 in
theorem arg_pairs {v : Value} {d : DataW H} {p : List MemPlace} (hv : Value.okWide Tryz.prog W .any base 213 v) (h : DataW.Trod enc Tryz.prog W 0 (fun _ => true) true 213 v d p) :
    ∃ (a : Option Addr) (l : List Str2) (cap : Nat), v = .slice a l.length cap ∧ l.length ≤ cap ∧ cap ≤ maxLen ∧ (a = none → cap = 0) ∧ At2 W a l ∧ ∀ i, i < l.length → (l.getD i e2).1.size ≤ maxLen ∧ (l.getD i e2).2.size ≤ maxLen := by
  obtain ⟨a0, n0, c0, rfl⟩ := okWide_slice Tryz.underlying213 hv
  obtain ⟨fuel, hf⟩ := h
  obtain ⟨a, l, cap, e, h1, h2, hn, h3, h4⟩ := open_pairs hf
  simp [Value.cells] at e
  obtain ⟨rfl, rfl, rfl⟩ := e
  exact ⟨_, l, _, rfl, h1, h2, hn, h3, h4⟩
set_option maxRecDepth 100000 in
theorem arg_taints {v : Value} {d : DataW H} {p : List MemPlace} (hv : Value.okWide Tryz.prog W .any base 233 v) (h : DataW.Trod enc Tryz.prog W 0 (fun _ => true) true 233 v d p) :
    ∃ (a : Option Addr) (l : List Str2) (cap : Nat), v = .slice a l.length cap ∧ l.length ≤ cap ∧ cap ≤ maxLen ∧ (a = none → cap = 0) ∧ At2 W a l ∧ ∀ i, i < l.length → (l.getD i e2).1.size ≤ maxLen ∧ (l.getD i e2).2.size ≤ maxLen := by
  obtain ⟨a0, n0, c0, rfl⟩ := okWide_slice Tryz.underlying233 hv
  obtain ⟨fuel, hf⟩ := h
  obtain ⟨a, l, cap, e, h1, h2, hn, h3, h4⟩ := open_taints hf
  simp [Value.cells] at e
  obtain ⟨rfl, rfl, rfl⟩ := e
  exact ⟨_, l, _, rfl, h1, h2, hn, h3, h4⟩
set_option maxRecDepth 100000 in
theorem arg_strs {v : Value} {d : DataW H} {p : List MemPlace} (hv : Value.okWide Tryz.prog W .any base 88 v) (h : DataW.Trod enc Tryz.prog W 0 (fun _ => true) true 88 v d p) :
    ∃ (a : Option Addr) (l : List ByteArray) (cap : Nat), v = .slice a l.length cap ∧ l.length ≤ cap ∧ cap ≤ maxLen ∧ (a = none → cap = 0) ∧ At1 W a l ∧ ∀ i, i < l.length → (l.getD i ByteArray.empty).size ≤ maxLen := by
  obtain ⟨a0, n0, c0, rfl⟩ := okWide_slice Tryz.underlying88 hv
  obtain ⟨fuel, hf⟩ := h
  obtain ⟨a, l, cap, e, h1, h2, hn, h3, h4⟩ := open_strs hf
  simp [Value.cells] at e
  obtain ⟨rfl, rfl, rfl⟩ := e
  exact ⟨_, l, _, rfl, h1, h2, hn, h3, h4⟩
set_option maxRecDepth 100000 in
theorem arg_tolers {v : Value} {d : DataW H} {p : List MemPlace} (hv : Value.okWide Tryz.prog W .any base 215 v) (h : DataW.Trod enc Tryz.prog W 0 (fun _ => true) true 215 v d p) :
    ∃ (a : Option Addr) (l : List Tol) (cap : Nat), v = .slice a l.length cap ∧ l.length ≤ cap ∧ cap ≤ maxLen ∧ (a = none → cap = 0) ∧ AtL W a l ∧ ∀ i, i < l.length → (l.getD i e3).1.size ≤ maxLen ∧ (l.getD i e3).2.1.size ≤ maxLen := by
  obtain ⟨a0, n0, c0, rfl⟩ := okWide_slice Tryz.underlying215 hv
  obtain ⟨fuel, hf⟩ := h
  obtain ⟨a, l, cap, e, h1, h2, hn, h3, h4⟩ := open_tolers hf
  simp [Value.cells] at e
  obtain ⟨rfl, rfl, rfl⟩ := e
  exact ⟨_, l, _, rfl, h1, h2, hn, h3, h4⟩
set_option maxRecDepth 100000 in
theorem arg_terms {v : Value} {d : DataW H} {p : List MemPlace} (hv : Value.okWide Tryz.prog W .any base 214 v) (h : DataW.Trod enc Tryz.prog W 0 (fun _ => true) true 214 v d p) :
    ∃ (a : Option Addr) (l : List Trm) (cap : Nat), v = .slice a l.length cap ∧ l.length ≤ cap ∧ cap ≤ maxLen ∧ (a = none → cap = 0) ∧ AtT W a l ∧ ∀ t ∈ l, SzT t := by
  obtain ⟨a0, n0, c0, rfl⟩ := okWide_slice Tryz.underlying214 hv
  obtain ⟨fuel, hf⟩ := h
  obtain ⟨a, l, cap, e, h1, h2, hn, h3, h4⟩ := open_terms hf
  simp [Value.cells] at e
  obtain ⟨rfl, rfl, rfl⟩ := e
  exact ⟨_, l, _, rfl, h1, h2, hn, h3, h4⟩
set_option maxRecDepth 100000 in
theorem arg_taint {v : Value} {d : DataW H} {p : List MemPlace} (hv : Value.okWide Tryz.prog W .any base 232 v) (h : DataW.Trod enc Tryz.prog W 0 (fun _ => true) true 232 v d p) : ∃ a b : ByteArray, v = .agg #[.string a, .string b] := by
  obtain ⟨fuel, hf⟩ := h
  obtain ⟨cs, rfl, _⟩ := okWide_struct Tryz.underlying232 hv
  obtain ⟨a, b, e, _⟩ := open_taint_el hf
  refine ⟨a, b, ?_⟩
  have e2 : cs.toList = [.string a, .string b] := by simpa [Value.cells] using e
  rw [show cs = #[.string a, .string b] from Array.toList_inj.mp (by rw [e2])]
set_option maxRecDepth 100000 in
theorem arg_pair {v : Value} {d : DataW H} {p : List MemPlace} (hv : Value.okWide Tryz.prog W .any base 230 v) (h : DataW.Trod enc Tryz.prog W 0 (fun _ => true) true 230 v d p) : ∃ a b : ByteArray, v = .agg #[.string a, .string b] := by
  obtain ⟨fuel, hf⟩ := h
  obtain ⟨cs, rfl, _⟩ := okWide_struct Tryz.underlying230 hv
  obtain ⟨a, b, e, _⟩ := open_pair_el hf
  refine ⟨a, b, ?_⟩
  have e2 : cs.toList = [.string a, .string b] := by simpa [Value.cells] using e
  rw [show cs = #[.string a, .string b] from Array.toList_inj.mp (by rw [e2])]
set_option maxRecDepth 100000 in
theorem arg_toler {v : Value} {d : DataW H} {p : List MemPlace} (hv : Value.okWide Tryz.prog W .any base 246 v) (h : DataW.Trod enc Tryz.prog W 0 (fun _ => true) true 246 v d p) : ∃ (a b : ByteArray) (c : Bool), v = .agg #[.string a, .string b, .bool c] := by
  obtain ⟨fuel, hf⟩ := h
  obtain ⟨cs, rfl, _⟩ := okWide_struct Tryz.underlying246 hv
  obtain ⟨a, b, c, e, _⟩ := open_toler_el hf
  refine ⟨a, b, c, ?_⟩
  have e2 : cs.toList = [.string a, .string b, .bool c] := by simpa [Value.cells] using e
  rw [show cs = #[.string a, .string b, .bool c] from Array.toList_inj.mp (by rw [e2])]
end Go.Proofs.YtaleceobkbgcnaaGreat
namespace Go.Proofs.YtaleceobkbgcnaaGreat
open Go.RowKit Go.ChangeShapes Go.WideShapes Go.Deep

theorem list4 {α : Type} {l : List α} (h : l.length = 4) : ∃ a b c d, l = [a, b, c, d] := by
  match l, h with
  | [a, b, c, d], _ => exact ⟨a, b, c, d, rfl⟩
theorem cellsEvent : Tryz.prog.cellsOf 30 = 4 := by kernel_rfl
theorem cellsBytes : Tryz.prog.cellsOf 28 = 1 := by kernel_rfl
theorem bytesEv : Tryz.prog.bytesOf 30 = 56 := by kernel_rfl
theorem bytesU8 : Tryz.prog.bytesOf 5 = 1 := by kernel_rfl
theorem wf_u8' {x : Int} (h : (Lit.int .u8 x).wf = true) : 0 ≤ x ∧ x ≤ 255 := by
  have h2 : (decide (IntKind.min .u8 ≤ x) && decide (x ≤ IntKind.max .u8)) = true := h
  have e : IntKind.max .u8 = 255 := by decide
  have e2 : IntKind.min .u8 = 0 := by decide
  rw [e, e2] at h2
  simpa using h2
theorem wf_i64' {x : Int} (h : (Lit.int .i64 x).wf = true) : -9223372036854775808 ≤ x ∧ x ≤ 9223372036854775807 := by
  have h2 : (decide (IntKind.min .i64 ≤ x) && decide (x ≤ IntKind.max .i64)) = true := h
  have e : IntKind.max .i64 = 9223372036854775807 := by decide
  have e2 : IntKind.min .i64 = -9223372036854775808 := by decide
  rw [e, e2] at h2
  simpa using h2
section
variable {H : Type} {enc : TypeId × Value → H} {w : World} {base : Nat} {sp : Nat → Bool} {held : Bool} {fuel : Nat} {cs : List Value} {x : DataW H × List MemPlace}
/-- What was read takes no more than the form's reach. -/
def Reaches (t : TypeId) (d : DataW H) : Prop := ∀ n ∈ d.weights Tryz.prog t, n ≤ reachBytes
theorem reach_each {ts : List TypeId} {ds : List (DataW H)} (h : (DataW.weightsEach Tryz.prog ts ds).all (· ≤ reachBytes) = true) {j : Nat} {t : TypeId} {d : DataW H} (ht : ts[j]? = some t) (hd : ds[j]? = some d) : Reaches t d := fun n hn => by
  have := List.all_eq_true.1 h _ (DataW.weights_mem_each ht hd n hn)
  simpa using this
theorem reach_part {t : TypeId} {fs : Array Field} {xs : List (DataW H × List MemPlace)} (ht : Tryz.prog.underlying t = some (.struct fs)) (h : Reaches t (.agg (xs.map (·.1)))) {i : Nat} {f : Field} {y : DataW H × List MemPlace} (hf : fs[i]? = some f) (hy : xs[i]? = some y) : Reaches f.type y.1 := fun n hn => h n (by
  simp only [DataW.weights, ht]
  exact DataW.weights_mem_each (j := i) (by simp [hf]) (by simp [hy]) n hn)
theorem weights_all6 {e : TypeId} : ∀ {l : List (DataW H)} {d : DataW H}, d ∈ l → ∀ n ∈ d.weights Tryz.prog e, n ∈ DataW.weightsAll Tryz.prog e l
  | [], d, h, n, hn => by simp at h
  | d0 :: r, d, h, n, hn => by
    simp only [DataW.weightsAll, List.mem_append]
    rcases List.mem_cons.1 h with rfl | h
    · exact Or.inl hn
    · exact Or.inr (weights_all6 h n hn)
theorem reach_len {t e : TypeId} (ht : Tryz.prog.underlying t = some (.slice e)) {a : Option Addr} {len cap : Nat} (h : DataW.trod enc Tryz.prog w base sp held fuel t [.slice a len cap] = some x) (hx : Reaches t x.1) : len * Tryz.prog.bytesOf e ≤ reachBytes := by
  rcases open_slice ht h with ⟨e0, _⟩ | ⟨a', len', cap', m, n, D, Pl, e0, hb, hl, hm, hmm, rfl, _⟩
  · simp at e0
    rw [e0.2.1]; simp
  · simp at e0
    obtain ⟨_, rfl, _⟩ := e0
    have := hx ((len + (m - len)) * Tryz.prog.bytesOf e) (by simp [DataW.weights, ht])
    exact Nat.le_trans (Nat.mul_le_mul_right _ (by omega)) this
/-- The elements of a slice, one by one, each within the reach. -/
theorem open_els6 {t e : TypeId} {S : Nat} (ht : Tryz.prog.underlying t = some (.slice e)) (hS : Tryz.prog.cellsOf e = S) (hpos : 0 < S) (h : DataW.trod enc Tryz.prog w base sp held fuel t cs = some x) (hf : Reaches t x.1) :
    ∃ (a : Option Addr) (len cap : Nat), cs = [.slice a len cap] ∧ (len ≤ cap ∧ cap ≤ maxLen ∧ (a = none → cap = 0)) ∧ len * Tryz.prog.bytesOf e ≤ reachBytes ∧ ∀ i, i < len → ∃ b off, a = some ⟨b, off, none⟩ ∧ b < w.heap.size ∧ ∃ (cs' : List Value) (n : Nat) (y : DataW H × List MemPlace),
      cs'.length = S ∧ (∀ j, j < S → w.cell? ⟨b, off + i * S + j, none⟩ = cs'[j]?) ∧ DataW.trod enc Tryz.prog w base sp held n e cs' = some y ∧ Reaches e y.1 := by
  have h' := h
  rcases open_slice ht h with ⟨rfl, _⟩ | ⟨a, len, cap, m, n, D, Pl, rfl, hb, hl, hm, hmm, rfl, hx⟩
  · exact ⟨none, 0, 0, rfl, ⟨Nat.le_refl _, Nat.zero_le _, fun _ => rfl⟩, by simp, fun i hi => by omega⟩
  · have hlm : len ≤ m := by rw [hmm]; split <;> omega
    have hb0 := reach_len ht h' hf
    rw [hS] at hx
    refine ⟨some a, len, cap, rfl, ⟨hl, hm, (fun h => by cases h)⟩, hb0, fun i hi => ?_⟩
    obtain ⟨b, off, spot⟩ := a
    have hspot : spot = none := by
      obtain ⟨cs0, h1, _⟩ := hx 0 (by omega)
      obtain ⟨_, hlen, hc⟩ := World.cells?_some h1
      have h0 := hc 0 hpos
      rw [List.getElem?_eq_getElem (by omega)] at h0
      simpa [Addr.add] using World.cell?_spot h0
    subst hspot
    obtain ⟨cs', h1, h2⟩ := hx i (by omega)
    obtain ⟨_, hlen, hc⟩ := World.cells?_some h1
    have hcell : ∀ j, j < S → w.cell? ⟨b, off + i * S + j, none⟩ = cs'[j]? := fun j hj => by
      have := hc j hj
      rw [add_add, add_plain, ← Nat.add_assoc] at this
      exact this
    have h0 := hcell 0 hpos
    rw [List.getElem?_eq_getElem (by omega)] at h0
    refine ⟨b, off, rfl, cell_lt h0, cs', n, _, hlen, hcell, h2, fun k hk => hf k ?_⟩
    simp only [DataW.weights, ht, List.mem_cons, List.mem_append]
    exact Or.inr (Or.inl (weights_all6 (List.mem_map.2 ⟨i, List.mem_range.2 hi, rfl⟩) k hk))
theorem open_bytes6 (h : DataW.trod enc Tryz.prog w base sp held fuel 28 cs = some x) (hf : Reaches 28 x.1) :
    ∃ (a : Option Addr) (l : List Int) (cap : Nat), cs = [.slice a l.length cap] ∧ (l.length ≤ cap ∧ cap ≤ maxLen ∧ (a = none → cap = 0)) ∧ AtB w a l ∧ l.length ≤ reachBytes := by
  obtain ⟨a, len, cap, rfl, hc, hb, hx⟩ := open_els6 Tryz.underlying28 cellsU8 (by decide) h hf
  rw [bytesU8, Nat.mul_one] at hb
  obtain ⟨l, rfl, hp⟩ := list_of (p := fun i (s : Int) => (0 ≤ s ∧ s ≤ 255) ∧ ∃ b off, a = some ⟨b, off, none⟩ ∧ b < w.heap.size ∧ w.cell? ⟨b, off + i, none⟩ = some (.int .u8 s)) (0 : Int) (fun i hi => by
    obtain ⟨b, off, ha, hb, cs', n, y, hlen, hc, hy, _⟩ := hx i hi
    obtain ⟨s, rfl, _, z⟩ := DataW.trod_int Tryz.underlying5 hy
    exact ⟨s, wf_u8' z, b, off, ha, hb, by simpa using hc 0 (by decide)⟩)
  refine ⟨a, l, cap, rfl, hc, fun i hi => ?_, hb⟩
  obtain ⟨h1, b, off, ha, hb, hc⟩ := hp i hi
  exact ⟨b, off, ha, hb, hc, h1⟩
/-- An event that came in: its cells. -/
def EvIn (w : World) (x : EvD) (a : Option Addr) (c : Nat) : Prop := AtB w a x.val ∧ (x.val.length ≤ c ∧ c ≤ maxLen ∧ (a = none → c = 0)) ∧ x.val.length ≤ reachBytes ∧ x.key.size ≤ maxLen ∧ -9223372036854775808 ≤ x.rev ∧ x.rev ≤ 9223372036854775807
theorem open_event6 {n : Nat} (h : DataW.trod enc Tryz.prog w base sp held n 30 cs = some x) (hf : Reaches 30 x.1) :
    ∃ (e : EvD) (a : Option Addr) (c : Nat), cs = [.int .i64 e.rev, .string e.key, .slice a e.val.length c, .bool e.gone] ∧ EvIn w e a c := by
  obtain ⟨y0, y1, y2, y3, m, rfl, hl, h0, h1, h2, h3⟩ := Go.Joins.trod_struct4 Tryz.underlying30 h
  have f2 := reach_part (xs := [y0, y1, y2, y3]) (i := 2) Tryz.underlying30 hf rfl rfl
  rw [cellsEvent] at hl
  obtain ⟨c0, c1, c2, c3, rfl⟩ := list4 hl
  dsimp only at h0 h1 h2 h3 f2
  rw [cellsI64] at h0
  rw [cellsStr] at h1
  rw [cellsBytes] at h2
  rw [cellsBool] at h3
  obtain ⟨s0, e0, _, z0⟩ := DataW.trod_int Tryz.underlying2 h0
  obtain ⟨s1, e1, _, z1⟩ := DataW.trod_string Tryz.underlying9 h1
  obtain ⟨va, l, vcap, e2, hc, hat, hb⟩ := open_bytes6 h2 f2
  obtain ⟨s3, e3, _⟩ := DataW.trod_bool Tryz.underlying4 h3
  simp at e0 e1 e2 e3
  subst e0 e1 e2 e3
  exact ⟨⟨_, _, l, _⟩, va, vcap, rfl, hat, hc, hb, z1, wf_i64' z0⟩
theorem open_events6 (h : DataW.trod enc Tryz.prog w base sp held fuel 23 cs = some x) (hf : Reaches 23 x.1) :
    ∃ (a : Option Addr) (l : List EvD) (cap : Nat), cs = [.slice a l.length cap] ∧ (l.length ≤ cap ∧ cap ≤ maxLen ∧ (a = none → cap = 0)) ∧ AtE w a l ∧ l.length * 56 ≤ reachBytes ∧ ∀ e ∈ l, e.val.length ≤ reachBytes ∧ e.key.size ≤ maxLen ∧ -9223372036854775808 ≤ e.rev ∧ e.rev ≤ 9223372036854775807 := by
  obtain ⟨a, len, cap, rfl, hc, hb, hx⟩ := open_els6 Tryz.underlying23 cellsEvent (by decide) h hf
  rw [bytesEv] at hb
  obtain ⟨l, rfl, hp⟩ := (@list_of EvD ⟨v0⟩ len (fun i (s : EvD) => (s.val.length ≤ reachBytes ∧ s.key.size ≤ maxLen ∧ -9223372036854775808 ≤ s.rev ∧ s.rev ≤ 9223372036854775807) ∧ ∃ b off va vc, a = some ⟨b, off, none⟩ ∧ b < w.heap.size ∧ w.cell? ⟨b, off + i * 4, none⟩ = some (.int .i64 s.rev) ∧ w.cell? ⟨b, off + i * 4 + 1, none⟩ = some (.string s.key)
      ∧ w.cell? ⟨b, off + i * 4 + 2, none⟩ = some (.slice va s.val.length vc) ∧ w.cell? ⟨b, off + i * 4 + 3, none⟩ = some (.bool s.gone) ∧ AtB w va s.val ∧ s.val.length ≤ vc ∧ vc ≤ maxLen ∧ (va = none → vc = 0)) v0 (fun i hi => by
    obtain ⟨b, off, ha, hb, cs', n, y, hlen, hc, hy, hfy⟩ := hx i hi
    obtain ⟨e, va, vc, rfl, h1, h2, h3, h4, h5, h6⟩ := open_event6 hy hfy
    exact ⟨e, ⟨h3, h4, h5, h6⟩, b, off, va, vc, ha, hb, by simpa using hc 0 (by decide), by simpa using hc 1 (by decide), by simpa using hc 2 (by decide), by simpa using hc 3 (by decide), h1, h2.1, h2.2.1, h2.2.2⟩))
  refine ⟨a, l, cap, rfl, hc, ⟨?_, fun i hi => (hp i hi).2⟩, hb, mem_getD fun i hi => (hp i hi).1⟩
  have := hc.1
  have := hc.2.1
  unfold maxLen at *
  omega
end
variable {H : Type} {enc : TypeId × Value → H} {W : World} {base : Nat}
set_option maxRecDepth 100000 in
theorem arg_events6 {v : Value} {d : DataW H} {p : List MemPlace} (hv : Value.okWide Tryz.prog W .any base 23 v) (h : DataW.Trod enc Tryz.prog W 0 (fun _ => true) true 23 v d p) (hf : Reaches 23 d) :
    ∃ (a : Option Addr) (l : List EvD) (cap : Nat), v = .slice a l.length cap ∧ (l.length ≤ cap ∧ cap ≤ maxLen ∧ (a = none → cap = 0)) ∧ AtE W a l ∧ l.length * 56 ≤ reachBytes ∧ ∀ e ∈ l, e.val.length ≤ reachBytes ∧ e.key.size ≤ maxLen ∧ -9223372036854775808 ≤ e.rev ∧ e.rev ≤ 9223372036854775807 := by
  obtain ⟨a0, n0, c0, rfl⟩ := okWide_slice Tryz.underlying23 hv
  obtain ⟨fuel, ht⟩ := h
  obtain ⟨a, l, cap, e, h1⟩ := open_events6 ht hf
  simp [Value.cells] at e
  obtain ⟨rfl, rfl, rfl⟩ := e
  exact ⟨_, l, _, rfl, h1⟩
set_option maxRecDepth 100000 in
theorem arg_bytes6 {v : Value} {d : DataW H} {p : List MemPlace} (hv : Value.okWide Tryz.prog W .any base 28 v) (h : DataW.Trod enc Tryz.prog W 0 (fun _ => true) true 28 v d p) (hf : Reaches 28 d) :
    ∃ (a : Option Addr) (l : List Int) (cap : Nat), v = .slice a l.length cap ∧ (l.length ≤ cap ∧ cap ≤ maxLen ∧ (a = none → cap = 0)) ∧ AtB W a l ∧ l.length ≤ reachBytes := by
  obtain ⟨a0, n0, c0, rfl⟩ := okWide_slice Tryz.underlying28 hv
  obtain ⟨fuel, ht⟩ := h
  obtain ⟨a, l, cap, e, h1⟩ := open_bytes6 ht hf
  simp [Value.cells] at e
  obtain ⟨rfl, rfl, rfl⟩ := e
  exact ⟨_, l, _, rfl, h1⟩
/-- Whole numbers in a slice. -/
def AtJ (w : World) (a : Option Addr) (l : List Int) : Prop := ∀ i, i < l.length → ∃ b off, a = some ⟨b, off, none⟩ ∧ b < w.heap.size ∧ w.cell? ⟨b, off + i, none⟩ = some (.int .i64 (l.getD i 0))
theorem AtJ.below {w w1 : World} {a : Option Addr} {l : List Int} (h : AtJ w a l) (hb : Below w.heap.size w w1) : AtJ w1 a l := fun i hi => by
  obtain ⟨b, off, ha, hlt, c⟩ := h i hi
  exact ⟨b, off, ha, Nat.lt_of_lt_of_le hlt hb.size, cell_later hb c⟩
set_option maxRecDepth 100000 in
theorem arg_i64s6 {v : Value} {d : DataW H} {p : List MemPlace} (hv : Value.okWide Tryz.prog W .any base 22 v) (h : DataW.Trod enc Tryz.prog W 0 (fun _ => true) true 22 v d p) :
    ∃ (a : Option Addr) (l : List Int) (cap : Nat), v = .slice a l.length cap ∧ (l.length ≤ cap ∧ cap ≤ maxLen ∧ (a = none → cap = 0)) ∧ AtJ W a l ∧ ∀ x ∈ l, -9223372036854775808 ≤ x ∧ x ≤ 9223372036854775807 := by
  obtain ⟨a0, n0, c0, rfl⟩ := okWide_slice Tryz.underlying22 hv
  obtain ⟨fuel, ht⟩ := h
  obtain ⟨a, len, cap, e, hl, hm, hn, hx⟩ := open_els Tryz.underlying22 cellsI64 (by decide) ht
  simp [Value.cells] at e
  obtain ⟨rfl, rfl, rfl⟩ := e
  obtain ⟨l, rfl, hp⟩ := list_of (p := fun i (s : Int) => (-9223372036854775808 ≤ s ∧ s ≤ 9223372036854775807) ∧ ∃ b off, a0 = some ⟨b, off, none⟩ ∧ b < W.heap.size ∧ W.cell? ⟨b, off + i, none⟩ = some (.int .i64 s)) (0 : Int) (fun i hi => by
    obtain ⟨b, off, ha, hb, cs', n, y, hlen, hc, hy⟩ := hx i hi
    obtain ⟨s, rfl, _, z⟩ := DataW.trod_int Tryz.underlying2 hy
    exact ⟨s, wf_i64' z, b, off, ha, hb, by simpa using hc 0 (by decide)⟩)
  exact ⟨_, l, _, rfl, ⟨hl, hm, hn⟩, fun i hi => (hp i hi).2, mem_getD fun i hi => (hp i hi).1⟩
set_option maxRecDepth 100000 in
theorem arg_ints6 {v : Value} {d : DataW H} {p : List MemPlace} (hv : Value.okWide Tryz.prog W .any base 39 v) (h : DataW.Trod enc Tryz.prog W 0 (fun _ => true) true 39 v d p) :
    ∃ (a : Option Addr) (l : List Int) (cap : Nat), v = .slice a l.length cap ∧ (l.length ≤ cap ∧ cap ≤ maxLen ∧ (a = none → cap = 0)) ∧ AtJ W a l ∧ ∀ x ∈ l, -9223372036854775808 ≤ x ∧ x ≤ 9223372036854775807 := by
  obtain ⟨a0, n0, c0, rfl⟩ := okWide_slice Tryz.underlying39 hv
  obtain ⟨fuel, ht⟩ := h
  obtain ⟨a, len, cap, e, hl, hm, hn, hx⟩ := open_els Tryz.underlying39 cellsInt (by decide) ht
  simp [Value.cells] at e
  obtain ⟨rfl, rfl, rfl⟩ := e
  obtain ⟨l, rfl, hp⟩ := list_of (p := fun i (s : Int) => (-9223372036854775808 ≤ s ∧ s ≤ 9223372036854775807) ∧ ∃ b off, a0 = some ⟨b, off, none⟩ ∧ b < W.heap.size ∧ W.cell? ⟨b, off + i, none⟩ = some (.int .i64 s)) (0 : Int) (fun i hi => by
    obtain ⟨b, off, ha, hb, cs', n, y, hlen, hc, hy⟩ := hx i hi
    obtain ⟨s, rfl, _, z⟩ := DataW.trod_int Tryz.underlying3 hy
    exact ⟨s, wf_i64' z, b, off, ha, hb, by simpa using hc 0 (by decide)⟩)
  exact ⟨_, l, _, rfl, ⟨hl, hm, hn⟩, fun i hi => (hp i hi).2, mem_getD fun i hi => (hp i hi).1⟩
/-- Slices of bytes in a slice. -/
def AtV (w : World) (a : Option Addr) (l : List (List Int)) : Prop := ∀ i, i < l.length → ∃ b off va vc, a = some ⟨b, off, none⟩ ∧ b < w.heap.size ∧ w.cell? ⟨b, off + i, none⟩ = some (.slice va (l.getD i []).length vc) ∧ AtB w va (l.getD i []) ∧ (l.getD i []).length ≤ vc ∧ vc ≤ maxLen ∧ (va = none → vc = 0)
set_option maxRecDepth 100000 in
theorem arg_vals6 {v : Value} {d : DataW H} {p : List MemPlace} (hv : Value.okWide Tryz.prog W .any base 66 v) (h : DataW.Trod enc Tryz.prog W 0 (fun _ => true) true 66 v d p) (hf : Reaches 66 d) :
    ∃ (a : Option Addr) (l : List (List Int)) (cap : Nat), v = .slice a l.length cap ∧ (l.length ≤ cap ∧ cap ≤ maxLen ∧ (a = none → cap = 0)) ∧ AtV W a l := by
  obtain ⟨a0, n0, c0, rfl⟩ := okWide_slice Tryz.underlying66 hv
  obtain ⟨fuel, ht⟩ := h
  obtain ⟨a, len, cap, e, hc, _, hx⟩ := open_els6 Tryz.underlying66 cellsBytes (by decide) ht hf
  simp [Value.cells] at e
  obtain ⟨rfl, rfl, rfl⟩ := e
  obtain ⟨l, rfl, hp⟩ := list_of (p := fun i (s : List Int) => ∃ b off va vc, a0 = some ⟨b, off, none⟩ ∧ b < W.heap.size ∧ W.cell? ⟨b, off + i, none⟩ = some (.slice va s.length vc) ∧ AtB W va s ∧ s.length ≤ vc ∧ vc ≤ maxLen ∧ (va = none → vc = 0)) ([] : List Int) (fun i hi => by
    obtain ⟨b, off, ha, hb, cs', n, y, hlen, hcc, hy, hfy⟩ := hx i hi
    obtain ⟨va, s, vc, rfl, h1, h2, _⟩ := open_bytes6 hy hfy
    exact ⟨s, b, off, va, vc, ha, hb, by simpa using hcc 0 (by decide), h2, h1.1, h1.2.1, h1.2.2⟩)
  exact ⟨_, l, _, rfl, hc, hp⟩
end Go.Proofs.YtaleceobkbgcnaaGreat
