/-
  Appending whole slices, for the laws. No conditions beyond what is written in each statement.
-/
import Derived.Test.YtnobgmdknalpdaaLCut
import Derived.Laws.AppendOwnNone
import Derived.Deep.Slices
set_option linter.unusedSimpArgs false
set_option linter.unusedVariables false
namespace Go.Proofs.Ytnobgmdknalpdaa
open Go.RowKit

/-- A goal at which a walk is to stand still. -/
def Stood (p : Prop) : Prop := p
theorem stand {p : Prop} (h : Stood p) : p := h
theorem infoT2 : (Try.prog.info? 40).map (fun i => (i.zero, i.size, i.bytes)) = some (some (.agg #[.string ⟨#[]⟩, .int .i64 0, .slice none 0 0]), 3, 48) := by kernel_rfl
theorem infoP2 : (Try.prog.info? 36).map (fun i => (i.zero, i.size, i.bytes)) = some (some (.agg #[.string ⟨#[]⟩, .string ⟨#[]⟩]), 2, 32) := by kernel_rfl
theorem infoN2 : (Try.prog.info? 44).map (fun i => (i.zero, i.size, i.bytes)) = some (some (.agg #[.string ⟨#[]⟩, .string ⟨#[]⟩]), 2, 32) := by kernel_rfl
theorem infoL2 : (Try.prog.info? 42).map (fun i => (i.zero, i.size, i.bytes)) = some (some (.agg #[.string ⟨#[]⟩, .string ⟨#[]⟩, .bool false]), 3, 40) := by kernel_rfl
theorem one2 (l : List Str2) : ∀ u ∈ l.flatMap (fun x : Str2 => [Value.string x.1, Value.string x.2]), u.oneCell' = true := by
  intro u hu
  obtain ⟨x, _, hx⟩ := List.mem_flatMap.1 hu
  simp at hx
  rcases hx with rfl | rfl <;> rfl
theorem one3 (l : List Tol) : ∀ u ∈ l.flatMap (fun x : Tol => [Value.string x.1, Value.string x.2.1, Value.bool x.2.2]), u.oneCell' = true := by
  intro u hu
  obtain ⟨x, _, hx⟩ := List.mem_flatMap.1 hu
  simp at hx
  rcases hx with rfl | rfl | rfl <;> rfl
theorem oneT (l : List TrmH) : ∀ u ∈ l.flatMap cellsT, u.oneCell' = true := by
  intro u hu
  obtain ⟨x, _, hx⟩ := List.mem_flatMap.1 hu
  simp [cellsT] at hx
  rcases hx with rfl | rfl | rfl <;> rfl

theorem cell_laterA {w w1 : World} {a : Addr} {v : Value} (hb : Below w.heap.size w w1) (h : w.cell? a = some v) : w1.cell? a = some v :=
  (hb.cell (World.block_lt_of_cell? w a h)).trans h
/-- append(s, x...), whatever slice x is: nil or not. -/
theorem wpList_append_opt {P : Program} {w : World} {ops : Array Oper} {rest : List Oper} {o : Oper} {a : Act} {Q : Exit → Act → World → Prop} (hgd : o.guard = none) (s x : Operand) (t : TypeId)
    (ho : o.op = .call { callee := .builtin .append, args := #[s, x], argTypes := #[t, t] })
    (base : Nat) (e : TypeId) (i : TypeInfo) (z : Value) (size bytes : Nat) (ht : P.underlying t = some (.slice e)) (hi : P.info? e = some i) (hz : i.zero = some z)
    (hsize : i.size = size) (hby : i.bytes = bytes) (hzs : z.cells.size = size) (hsz : 0 < size)
    (v : Value) (n : Nat) (xs : List Value) (hs : a.eval s = v) (hown : w.ownsRow base e size v n xs)
    (ad : Option Addr) (m c : Nat) (news : List Value) (hx : a.eval x = .slice ad m c) (hnone : ad = none → m = 0 ∧ c = 0) (hl : news.length = m * size) (hnews : ∀ b, ad = some b → ∀ j u, news[j]? = some u → w.cell? (b.add j) = some u) (h1 : ∀ u ∈ news, u.oneCell' = true)
    (h63 : n + m ≤ maxLen) (hbytes : (n + m) * bytes ≤ 140737488355328) (hbase : base ≤ w.heap.size)
    (h : ∀ v' w', w'.ownsRow base e size v' (n + m) (xs ++ news) → w.grownBy w' v.ownBlock → wpList P ops Q rest (a.put o.dst v') w') : wpList P ops Q (o :: rest) a w := by
  cases ad with
  | none =>
    obtain ⟨rfl, rfl⟩ := hnone rfl
    have hn : news = [] := List.eq_nil_of_length_eq_zero (by simpa using hl)
    subst hn
    exact wpList_append_own_none hgd s x t ho base e i size ht hi v n xs hs hown hx (h v w (by simpa using hown) (grown_refl _ _))
  | some b =>
    exact wpList_append_own w hgd s x t ho base e i z size bytes ht hi hz hsize hby hzs hsz v n xs hs hown b m c news hx hl (hnews b rfl) h1 h63 hbytes hbase (fun v' w' h2 h3 _ => h v' w' h2 h3)

/-- The cells of a row of elements, one by one. -/
theorem row_cells {α : Type} {w : World} {b off : Nat} {enc : α → List Value} {sz : Nat} (hf : ∀ x, (enc x).length = sz) (hsz : 0 < sz) {l : List α} (d : α)
    (hc : ∀ i, i < l.length → ∀ j, j < sz → w.cell? ⟨b, off + i * sz + j, none⟩ = (enc (l.getD i d))[j]?) : ∀ j u, (l.flatMap enc)[j]? = some u → w.cell? ((⟨b, off, none⟩ : Addr).add j) = some u := by
  intro j u hu
  have hlen : (l.flatMap enc).length = l.length * sz := by
    clear hc hu
    induction l with
    | nil => simp
    | cons x r ih => rw [List.flatMap_cons, List.length_append, hf, ih, List.length_cons, Nat.add_mul]; omega
  have hj : j < l.length * sz := by rw [← hlen]; exact (List.getElem?_eq_some_iff.1 hu).1
  have hi : j / sz < l.length := Nat.div_lt_of_lt_mul (by rw [Nat.mul_comm]; exact hj)
  have hr : j % sz < sz := Nat.mod_lt _ hsz
  have e : j / sz * sz + j % sz = j := by rw [Nat.mul_comm]; exact Nat.div_add_mod j sz
  have h1 := hc (j / sz) hi (j % sz) hr
  have h2 := flat_at (f := enc) (sz := sz) (l := l) (i := j / sz) (j := j % sz) (d := d) hf hi hr
  rw [e, hu] at h2
  rw [Nat.add_assoc, e, ← h2] at h1
  rw [Go.WideShapes.add_plain]
  exact h1
theorem flat_len {α : Type} {enc : α → List Value} {sz : Nat} (hf : ∀ x, (enc x).length = sz) (l : List α) : (l.flatMap enc).length = l.length * sz := by
  induction l with
  | nil => simp
  | cons x r ih => rw [List.flatMap_cons, List.length_append, hf, ih, List.length_cons, Nat.add_mul]; omega

abbrev cells2 (x : Str2) : List Value := [.string x.1, .string x.2]
abbrev cells3 (x : Tol) : List Value := [.string x.1, .string x.2.1, .bool x.2.2]
theorem news2 {w : World} {a : Option Addr} {l : List Str2} (h : At2 w a l) : ∀ b, a = some b → ∀ j u, (l.flatMap cells2)[j]? = some u → w.cell? (b.add j) = some u := by
  intro b hb j u hu
  have hpos : 0 < l.length := by
    rcases Nat.eq_zero_or_pos l.length with e | e
    · rw [List.eq_nil_of_length_eq_zero e] at hu; simp at hu
    · exact e
  obtain ⟨b0, off, rfl, _, _, _⟩ := h 0 hpos
  cases hb
  refine row_cells (enc := cells2) (sz := 2) (fun _ => rfl) (by decide) e2 (fun i hi j hj => ?_) j u hu
  obtain ⟨b', off', ha', _, c0, c1⟩ := h i hi
  simp at ha'
  obtain ⟨rfl, rfl⟩ := ha'
  match j, hj with
  | 0, _ => exact c0
  | 1, _ => exact c1
theorem news3 {w : World} {a : Option Addr} {l : List Tol} (h : AtL w a l) : ∀ b, a = some b → ∀ j u, (l.flatMap cells3)[j]? = some u → w.cell? (b.add j) = some u := by
  intro b hb j u hu
  have hpos : 0 < l.length := by
    rcases Nat.eq_zero_or_pos l.length with e | e
    · rw [List.eq_nil_of_length_eq_zero e] at hu; simp at hu
    · exact e
  obtain ⟨b0, off, rfl, _, _, _⟩ := h.2 0 hpos
  cases hb
  refine row_cells (enc := cells3) (sz := 3) (fun _ => rfl) (by decide) e3 (fun i hi j hj => ?_) j u hu
  obtain ⟨b', off', ha', _, c0, c1, c2⟩ := h.2 i hi
  simp at ha'
  obtain ⟨rfl, rfl⟩ := ha'
  match j, hj with
  | 0, _ => exact c0
  | 1, _ => exact c1
  | 2, _ => exact c2
/-- Terms with where their Vals lie. -/
def HeldT (w : World) (L : List TrmH) : Prop := ∀ x ∈ L, At1 w x.2.1 x.1.vals
theorem HeldT.below {w w1 : World} {L : List TrmH} (h : HeldT w L) (hb : Below w.heap.size w w1) : HeldT w1 L := fun x hx => (h x hx).below hb
theorem HeldT.app {w : World} {L M : List TrmH} (h : HeldT w L) (k : HeldT w M) : HeldT w (L ++ M) := fun x hx => (List.mem_append.1 hx).elim (h x) (k x)
theorem newsT {w : World} {a : Option Addr} {l : List Trm} (h : AtT w a l) : ∃ L : List TrmH, L.map (·.1) = l ∧ HeldT w L ∧ ∀ b, a = some b → ∀ j u, (L.flatMap cellsT)[j]? = some u → w.cell? (b.add j) = some u := by
  obtain ⟨f, hf⟩ := Go.Deep.choose_lt (α := Option Addr × Nat) (n := l.length) (p := fun i y => ∃ b off, a = some ⟨b, off, none⟩ ∧ b < w.heap.size ∧ w.cell? ⟨b, off + i * 3, none⟩ = some (.string (l.getD i t0).key) ∧ w.cell? ⟨b, off + i * 3 + 1, none⟩ = some (.int .i64 (l.getD i t0).kind)
    ∧ w.cell? ⟨b, off + i * 3 + 2, none⟩ = some (.slice y.1 (l.getD i t0).vals.length y.2) ∧ At1 w y.1 (l.getD i t0).vals) (fun i hi => by
      obtain ⟨b, off, va, vcap, r⟩ := h.2 i hi
      exact ⟨(va, vcap), b, off, r⟩)
  have hL : ∀ i, i < l.length → ((List.range l.length).map fun i => ((l.getD i t0, f i) : TrmH)).getD i (t0, none, 0) = (l.getD i t0, f i) := fun i hi => by
    simp [List.getD_eq_getElem?_getD, hi]
  refine ⟨(List.range l.length).map fun i => (l.getD i t0, f i), ?_, ?_, ?_⟩
  · apply List.ext_getElem?
    intro i
    by_cases hi : i < l.length
    · simp [hi, List.getD_eq_getElem?_getD]
    · simp [hi]
  · intro x hx
    obtain ⟨i, hi, rfl⟩ := List.mem_map.1 hx
    obtain ⟨_, _, _, _, _, _, _, hv⟩ := hf i (by simpa using hi)
    exact hv
  · intro b hb j u hu
    have hpos : 0 < l.length := by
      rcases Nat.eq_zero_or_pos l.length with e | e
      · rw [e] at hu; simp at hu
      · exact e
    obtain ⟨b0, off, rfl, _⟩ := hf 0 hpos
    cases hb
    refine row_cells (enc := cellsT) (sz := 3) (fun _ => rfl) (by decide) (t0, none, 0) (fun i hi j hj => ?_) j u hu
    have hi : i < l.length := by simpa using hi
    rw [hL i hi]
    obtain ⟨b', off', ha', _, c0, c1, c2, _⟩ := hf i hi
    simp at ha'
    obtain ⟨rfl, rfl⟩ := ha'
    match j, hj with
    | 0, _ => exact c0
    | 1, _ => exact c1
    | 2, _ => exact c2
/-- A row of the law's own, as a list in memory. -/
theorem own_len {w : World} {N : Nat} {t : TypeId} {sz : Nat} {v : Value} {n : Nat} {xs : List Value} (h : w.ownsRow N t sz v n xs) : ∃ a cap, v = .slice a n cap ∧ n ≤ cap ∧ cap ≤ maxLen ∧ (a = none → cap = 0) := by
  rcases h.2 with ⟨rfl, rfl⟩ | ⟨g, cap, cur, rfl, _, _, h1, h2, _⟩
  · exact ⟨none, 0, rfl, Nat.le_refl _, Nat.zero_le _, fun _ => rfl⟩
  · exact ⟨_, cap, rfl, h1, h2, fun h => by cases h⟩
theorem own_at2 {w : World} {N : Nat} {t : TypeId} {a : Option Addr} {n cap : Nat} {l : List Str2} (h : w.ownsRow N t 2 (.slice a n cap) n (l.flatMap cells2)) (hn : l.length = n) : At2 w a l := by
  subst hn
  exact At2_of (ty := t) (N := N) (cap := cap) h
theorem own_atL {w : World} {N : Nat} {a : Option Addr} {n cap : Nat} {l : List Tol} (h : w.ownsRow N 42 3 (.slice a n cap) n (l.flatMap cells3)) (hn : l.length = n) : AtL w a l := by
  subst hn
  exact AtL_of (N := N) (cap := cap) h (owned_le h)
theorem own_atT {w : World} {N : Nat} {a : Option Addr} {n cap : Nat} {L : List TrmH} (h : w.ownsRow N 40 3 (.slice a n cap) n (L.flatMap cellsT)) (hn : L.length = n) (hv : HeldT w L) : AtT w a (L.map (·.1)) := by
  subst hn
  have hm := owned_le h
  refine ⟨by simpa using hm, fun i hi => ?_⟩
  have hi : i < L.length := by simpa using hi
  obtain ⟨b, rfl, hb, hc⟩ := owned_cells h (j := 0) hi (by show 0 < 3; omega)
  obtain ⟨b', hb', _, hd⟩ := owned_cells h (j := 1) hi (by show 1 < 3; omega)
  obtain ⟨b'', hb'', _, he⟩ := owned_cells h (j := 2) hi (by show 2 < 3; omega)
  simp at hb' hb''
  subst hb'
  subst hb''
  have hg : (L.map (·.1)).getD i t0 = (L.getD i (t0, none, 0)).1 := by simp [List.getD_eq_getElem?_getD, List.getElem?_eq_getElem hi]
  have hmem : L.getD i (t0, none, 0) ∈ L := getD_mem hi
  rw [hg]
  have hv1 := hv _ hmem
  refine ⟨b, 0, (L.getD i (t0, none, 0)).2.1, (L.getD i (t0, none, 0)).2.2, rfl, hb, ?_, ?_, ?_, hv1⟩
  · rw [show 0 + i * 3 = 0 + i * 3 + 0 by omega]
    exact hc.trans (flat_at (f := cellsT) (sz := 3) (j := 0) (l := L) (d := (t0, none, 0)) (fun _ => rfl) hi (by decide))
  · exact hd.trans (flat_at (f := cellsT) (sz := 3) (j := 1) (l := L) (d := (t0, none, 0)) (fun _ => rfl) hi (by decide))
  · exact he.trans (flat_at (f := cellsT) (sz := 3) (j := 2) (l := L) (d := (t0, none, 0)) (fun _ => rfl) hi (by decide))
/-- What an append leaves of old memory. -/
theorem grown_below {w w' : World} {v : Value} {B : Nat} {t : TypeId} {sz n : Nat} {xs : List Value} (hg : w.grownBy w' v.ownBlock) (ho : w.ownsRow B t sz v n xs) (hB : B ≤ w.heap.size) : Below B w w' :=
  (Below.refl _ _).grown hg hB fun k hk => (ho.lt k hk).1
theorem min_cut {x n m : Int} (h : (if n < x then n else x) = m) : min x n = m := by
  rw [← h]
  split <;> omega
theorem own_news {w : World} {B : Nat} {t : TypeId} {sz : Nat} {a : Option Addr} {n cap : Nat} {xs : List Value} (h : w.ownsRow B t sz (.slice a n cap) n xs) : ∀ b, a = some b → ∀ j u, xs[j]? = some u → w.cell? (b.add j) = some u := by
  intro b hb
  subst hb
  rcases h.2 with ⟨e, _⟩ | ⟨g, cap', cur, e, _⟩
  · cases e
  · simp at e
    obtain ⟨rfl, _⟩ := e
    exact h.cells (g := g) rfl
theorem own_below {w w' : World} {B : Nat} {t : TypeId} {sz : Nat} {v : Value} {n : Nat} {xs : List Value} (h : w.ownsRow B t sz v n xs) (hb : Below w.heap.size w w') : w'.ownsRow B t sz v n xs :=
  World.ownsRow.kept (row := none) h ⟨hb.os, hb.tape, hb.output, hb.size, fun k hk _ => hb.block k hk⟩ (by cases hv : v.ownBlock <;> simp)
theorem own_one {w : World} {t : TypeId} {sz : Nat} (cs : Array Value) (hs : cs.size = 1 * sz) : (w.alloc (.cells cs t)).ownsRow w.heap.size t sz (.slice (some ⟨w.heap.size, 0, none⟩) 1 1) 1 cs.toList :=
  World.ownsRow_lit w cs 1 (Nat.le_refl _) (by unfold maxLen; omega) hs
theorem get_v (a : Option Addr) (l : List Str2) (n cap : Nat) (key : ByteArray) (w : World) {v : ByteArray} {ok : Bool} (hn : l.length = n) (h1 : getV l key = v) (h2 : getOk l key = ok) (hl : At2 w a l) (hm : l.length ≤ 9) :
    Calls Try.prog 95 #[.slice a n cap, .string key] w fun e w' => e = .returned (.tuple #[.string v, .bool ok]) ∧ Below w.heap.size w w' := by
  subst hn h1 h2; exact get_any a l cap key w hl (by omega)
theorem may_v2 (a : Option Addr) (l : List Str2) (n cap : Nat) (w : World) {v : Bool} (hn : l.length = n) (h : mayL l = v) (hl : At2 w a l) :
    Calls Try.prog 76 #[.slice a n cap] w fun e w' => e = .returned (.bool v) ∧ Below w.heap.size w w' := by
  subst hn h; exact may_pairs_any a l cap w hl
end Go.Proofs.Ytnobgmdknalpdaa
