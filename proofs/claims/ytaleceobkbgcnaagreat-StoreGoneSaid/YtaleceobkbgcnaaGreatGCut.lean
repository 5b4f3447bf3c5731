/-
  Slices cut to their first few: plain facts for the laws. No conditions beyond what is written in each statement.
-/
import Derived.Test.YtaleceobkbgcnaaGreatBeg2
import Derived.Laws.AppendOwnNone
import Derived.Deep.Slices
import Derived.Deep.AppendLies
import Derived.Deep.RegionHeldLaw
import Derived.Deep.RegionLaw
set_option linter.unusedSimpArgs false
set_option linter.unusedVariables false
namespace Go.Proofs.YtaleceobkbgcnaaGreat
open Go.RowKit

theorem tmod_in (t : Int) {n : Int} (h : 0 < n) : -n < t.tmod n ∧ t.tmod n < n := ⟨Int.lt_tmod_of_pos t h, Int.tmod_lt_of_pos t h⟩
theorem turn_in (t : Int) {n : Int} (h : 0 < n) (h2 : n ≤ 1000000) : 0 ≤ (wrap64 (t.tmod n + n)).tmod n ∧ (wrap64 (t.tmod n + n)).tmod n < n := by
  have b := tmod_in t h
  have e : wrap64 (t.tmod n + n) = t.tmod n + n := IntWalk.wrap64_in _ (by omega)
  rw [e]
  exact ⟨Int.tmod_nonneg _ (by omega), Int.tmod_lt_of_pos _ h⟩
theorem getD_eq {α : Type} {l : List α} {d : α} {k : Nat} (h : k < l.length) : l.getD k d = l[k] := by
  rw [List.getD_eq_getElem?_getD, List.getElem?_eq_getElem h]; rfl
theorem getD_take {α : Type} {l : List α} {n i : Nat} {d : α} (h : i < (l.take n).length) : (l.take n).getD i d = l.getD i d := by
  simp only [List.length_take] at h
  rw [List.getD_eq_getElem?_getD, List.getD_eq_getElem?_getD, List.getElem?_take_of_lt (by omega)]
theorem At1.take {w : World} {a : Option Addr} {l : List ByteArray} (h : At1 w a l) (n : Nat) : At1 w a (l.take n) :=
  ⟨Nat.le_trans (by simp; omega) h.1, fun i hi => by
    obtain ⟨b, off, ha, hb, c⟩ := h.2 i (by simp at hi; omega)
    exact ⟨b, off, ha, hb, by rw [getD_take hi]; exact c⟩⟩
theorem At2.take {w : World} {a : Option Addr} {l : List Str2} (h : At2 w a l) (n : Nat) : At2 w a (l.take n) := fun i hi => by
  obtain ⟨b, off, ha, hb, c⟩ := h i (by simp at hi; omega)
  exact ⟨b, off, ha, hb, by rw [getD_take hi]; exact c⟩
theorem AtL.take {w : World} {a : Option Addr} {l : List Tol} (h : AtL w a l) (n : Nat) : AtL w a (l.take n) :=
  ⟨Nat.le_trans (by simp; omega) h.1, fun i hi => by
    obtain ⟨b, off, ha, hb, c⟩ := h.2 i (by simp at hi; omega)
    exact ⟨b, off, ha, hb, by rw [getD_take hi]; exact c⟩⟩
theorem AtT.take {w : World} {a : Option Addr} {l : List Trm} (h : AtT w a l) (n : Nat) : AtT w a (l.take n) :=
  ⟨Nat.le_trans (by simp; omega) h.1, fun i hi => by
    obtain ⟨b, off, va, vcap, ha, hb, c⟩ := h.2 i (by simp at hi; omega)
    exact ⟨b, off, va, vcap, ha, hb, by rw [getD_take hi]; exact c⟩⟩
/-- A list's first n: what the walk finds for 'min(len(l), n)'. -/
theorem cut_of {α : Type} (l : List α) (n : Nat) : ∃ m : List α, m = l.take n ∧ (if (n : Int) < (l.length : Int) then (n : Int) else (l.length : Int)) = (m.length : Int) ∧ m.length ≤ l.length ∧ m.length ≤ n :=
  ⟨_, rfl, by simp only [List.length_take]; split <;> omega, by simp; omega, by simp; omega⟩

theorem AtT.one {w : World} {N off : Nat} {t : Trm} {va : Option Addr} {vcap : Nat} (hN : N < w.heap.size) (c0 : w.cell? ⟨N, off, none⟩ = some (.string t.key)) (c1 : w.cell? ⟨N, off + 1, none⟩ = some (.int .i64 t.kind)) (c2 : w.cell? ⟨N, off + 2, none⟩ = some (.slice va t.vals.length vcap)) (hv : At1 w va t.vals) : AtT w (some ⟨N, off, none⟩) [t] := by
  refine ⟨by simp, fun i hi => ?_⟩
  obtain rfl : i = 0 := by simp at hi; omega
  exact ⟨N, off, va, vcap, rfl, hN, by simpa using c0, by simpa using c1, by simpa using c2, hv⟩
theorem At1.nil (w : World) : At1 w none [] := ⟨by simp, fun i hi => by simp at hi⟩
theorem AtT.nil (w : World) (a : Option Addr) : AtT w a [] := ⟨by simp, fun i hi => by simp at hi⟩
theorem match_v (ta : Option Addr) (ts : List Trm) (tn tcap : Nat) (a : Option Addr) (l : List Str2) (cap : Nat) (w : World) {v : Bool} (hn : ts.length = tn) (h : matchB ts l = v) (ht : AtT w ta ts) (hl : At2 w a l) (hm : l.length ≤ 6) :
    Calls Tryz.prog 160 #[.slice ta tn tcap, .slice a l.length cap] w fun e w' => e = .returned (.bool v) ∧ Below w.heap.size w w' := by
  subst hn h
  exact match_any ta ts tcap a l cap w ht hl (by omega)
theorem match_1 (key : ByteArray) (kind : Int) (vals : List ByteArray) (l : List Str2) : matchB [⟨key, kind, vals⟩] l = holdsB key kind vals l := by simp [matchB]
end Go.Proofs.YtaleceobkbgcnaaGreat
namespace Go.Proofs.YtaleceobkbgcnaaGreat
open Go.RowKit

/-- A goal at which a walk is to stand still. -/
def Stood (p : Prop) : Prop := p
theorem stand {p : Prop} (h : Stood p) : p := h
theorem infoT2 : (Tryz.prog.info? 244).map (fun i => (i.zero, i.size, i.bytes)) = some (some (.agg #[.string ⟨#[]⟩, .int .i64 0, .slice none 0 0]), 3, 48) := by kernel_rfl
theorem infoP2 : (Tryz.prog.info? 230).map (fun i => (i.zero, i.size, i.bytes)) = some (some (.agg #[.string ⟨#[]⟩, .string ⟨#[]⟩]), 2, 32) := by kernel_rfl
theorem infoN2 : (Tryz.prog.info? 232).map (fun i => (i.zero, i.size, i.bytes)) = some (some (.agg #[.string ⟨#[]⟩, .string ⟨#[]⟩]), 2, 32) := by kernel_rfl
theorem infoL2 : (Tryz.prog.info? 246).map (fun i => (i.zero, i.size, i.bytes)) = some (some (.agg #[.string ⟨#[]⟩, .string ⟨#[]⟩, .bool false]), 3, 40) := by kernel_rfl
theorem one2 (l : List Str2) : ∀ u ∈ l.flatMap (fun x : Str2 => [Value.string x.1, Value.string x.2]), u.oneCell' = true := by
  intro u hu
  obtain ⟨x, _, hx⟩ := List.mem_flatMap.1 hu
  simp at hx
  rcases hx with rfl | rfl <;> rfl
theorem one3 (l : List Tol) : ∀ u ∈ l.flatMap (fun x : Tol => [Value.string x.1, Value.string x.2.1, Value.bool x.2.2]), u.oneCell' = true := by
  intro u hu
  obtain ⟨x, _, hx⟩ := List.mem_flatMap.1 hu
  simp at hx
  rcases hx with rfl | rfl | rfl <;> rfl
theorem oneT (l : List TrmH) : ∀ u ∈ l.flatMap cellsT, u.oneCell' = true := by
  intro u hu
  obtain ⟨x, _, hx⟩ := List.mem_flatMap.1 hu
  simp [cellsT] at hx
  rcases hx with rfl | rfl | rfl <;> rfl

theorem cell_laterA {w w1 : World} {a : Addr} {v : Value} (hb : Below w.heap.size w w1) (h : w.cell? a = some v) : w1.cell? a = some v :=
  (hb.cell (World.block_lt_of_cell? w a h)).trans h
/-- append(s, x...), whatever slice x is: nil or not. -/
theorem wpList_append_opt {P : Program} {w : World} {ops : Array Oper} {rest : List Oper} {o : Oper} {a : Act} {Q : Exit → Act → World → Prop} (hgd : o.guard = none) (s x : Operand) (t : TypeId)
    (ho : o.op = .call { callee := .builtin .append, args := #[s, x], argTypes := #[t, t] })
    (base : Nat) (e : TypeId) (i : TypeInfo) (z : Value) (size bytes : Nat) (ht : P.underlying t = some (.slice e)) (hi : P.info? e = some i) (hz : i.zero = some z)
    (hsize : i.size = size) (hby : i.bytes = bytes) (hzs : z.cells.size = size) (hsz : 0 < size)
    (v : Value) (n : Nat) (xs : List Value) (hs : a.eval s = v) (hown : w.ownsRow base e size v n xs)
    (ad : Option Addr) (m c : Nat) (news : List Value) (hx : a.eval x = .slice ad m c) (hnone : ad = none → m = 0 ∧ c = 0) (hl : news.length = m * size) (hnews : ∀ b, ad = some b → ∀ j u, news[j]? = some u → w.cell? (b.add j) = some u) (h1 : ∀ u ∈ news, u.oneCell' = true)
    (h63 : n + m ≤ maxLen) (hbytes : (n + m) * bytes ≤ 140737488355328) (hbase : base ≤ w.heap.size)
    (h : ∀ v' w', w'.ownsRow base e size v' (n + m) (xs ++ news) → w.grownBy w' v.ownBlock → wpList P ops Q rest (a.put o.dst v') w') : wpList P ops Q (o :: rest) a w := by
  cases ad with
  | none =>
    obtain ⟨rfl, rfl⟩ := hnone rfl
    have hn : news = [] := List.eq_nil_of_length_eq_zero (by simpa using hl)
    subst hn
    exact wpList_append_own_none hgd s x t ho base e i size ht hi v n xs hs hown hx (h v w (by simpa using hown) (grown_refl _ _))
  | some b =>
    exact wpList_append_own w hgd s x t ho base e i z size bytes ht hi hz hsize hby hzs hsz v n xs hs hown b m c news hx hl (hnews b rfl) h1 h63 hbytes hbase (fun v' w' h2 h3 _ => h v' w' h2 h3)

/-- The cells of a row of elements, one by one. -/
theorem row_cells {α : Type} {w : World} {b off : Nat} {enc : α → List Value} {sz : Nat} (hf : ∀ x, (enc x).length = sz) (hsz : 0 < sz) {l : List α} (d : α)
    (hc : ∀ i, i < l.length → ∀ j, j < sz → w.cell? ⟨b, off + i * sz + j, none⟩ = (enc (l.getD i d))[j]?) : ∀ j u, (l.flatMap enc)[j]? = some u → w.cell? ((⟨b, off, none⟩ : Addr).add j) = some u := by
  intro j u hu
  have hlen : (l.flatMap enc).length = l.length * sz := by
    clear hc hu
    induction l with
    | nil => simp
    | cons x r ih => rw [List.flatMap_cons, List.length_append, hf, ih, List.length_cons, Nat.add_mul]; omega
  have hj : j < l.length * sz := by rw [← hlen]; exact (List.getElem?_eq_some_iff.1 hu).1
  have hi : j / sz < l.length := Nat.div_lt_of_lt_mul (by rw [Nat.mul_comm]; exact hj)
  have hr : j % sz < sz := Nat.mod_lt _ hsz
  have e : j / sz * sz + j % sz = j := by rw [Nat.mul_comm]; exact Nat.div_add_mod j sz
  have h1 := hc (j / sz) hi (j % sz) hr
  have h2 := flat_at (f := enc) (sz := sz) (l := l) (i := j / sz) (j := j % sz) (d := d) hf hi hr
  rw [e, hu] at h2
  rw [Nat.add_assoc, e, ← h2] at h1
  rw [Go.WideShapes.add_plain]
  exact h1
theorem flat_len {α : Type} {enc : α → List Value} {sz : Nat} (hf : ∀ x, (enc x).length = sz) (l : List α) : (l.flatMap enc).length = l.length * sz := by
  induction l with
  | nil => simp
  | cons x r ih => rw [List.flatMap_cons, List.length_append, hf, ih, List.length_cons, Nat.add_mul]; omega

abbrev cells2 (x : Str2) : List Value := [.string x.1, .string x.2]
abbrev cells3 (x : Tol) : List Value := [.string x.1, .string x.2.1, .bool x.2.2]
theorem news2 {w : World} {a : Option Addr} {l : List Str2} (h : At2 w a l) : ∀ b, a = some b → ∀ j u, (l.flatMap cells2)[j]? = some u → w.cell? (b.add j) = some u := by
  intro b hb j u hu
  have hpos : 0 < l.length := by
    rcases Nat.eq_zero_or_pos l.length with e | e
    · rw [List.eq_nil_of_length_eq_zero e] at hu; simp at hu
    · exact e
  obtain ⟨b0, off, rfl, _, _, _⟩ := h 0 hpos
  cases hb
  refine row_cells (enc := cells2) (sz := 2) (fun _ => rfl) (by decide) e2 (fun i hi j hj => ?_) j u hu
  obtain ⟨b', off', ha', _, c0, c1⟩ := h i hi
  simp at ha'
  obtain ⟨rfl, rfl⟩ := ha'
  match j, hj with
  | 0, _ => exact c0
  | 1, _ => exact c1
theorem news3 {w : World} {a : Option Addr} {l : List Tol} (h : AtL w a l) : ∀ b, a = some b → ∀ j u, (l.flatMap cells3)[j]? = some u → w.cell? (b.add j) = some u := by
  intro b hb j u hu
  have hpos : 0 < l.length := by
    rcases Nat.eq_zero_or_pos l.length with e | e
    · rw [List.eq_nil_of_length_eq_zero e] at hu; simp at hu
    · exact e
  obtain ⟨b0, off, rfl, _, _, _⟩ := h.2 0 hpos
  cases hb
  refine row_cells (enc := cells3) (sz := 3) (fun _ => rfl) (by decide) e3 (fun i hi j hj => ?_) j u hu
  obtain ⟨b', off', ha', _, c0, c1, c2⟩ := h.2 i hi
  simp at ha'
  obtain ⟨rfl, rfl⟩ := ha'
  match j, hj with
  | 0, _ => exact c0
  | 1, _ => exact c1
  | 2, _ => exact c2
/-- Terms with where their Vals lie. -/
def HeldT (w : World) (L : List TrmH) : Prop := ∀ x ∈ L, At1 w x.2.1 x.1.vals
theorem HeldT.below {w w1 : World} {L : List TrmH} (h : HeldT w L) (hb : Below w.heap.size w w1) : HeldT w1 L := fun x hx => (h x hx).below hb
theorem HeldT.app {w : World} {L M : List TrmH} (h : HeldT w L) (k : HeldT w M) : HeldT w (L ++ M) := fun x hx => (List.mem_append.1 hx).elim (h x) (k x)
theorem newsT {w : World} {a : Option Addr} {l : List Trm} (h : AtT w a l) : ∃ L : List TrmH, L.map (·.1) = l ∧ HeldT w L ∧ ∀ b, a = some b → ∀ j u, (L.flatMap cellsT)[j]? = some u → w.cell? (b.add j) = some u := by
  obtain ⟨f, hf⟩ := Go.Deep.choose_lt (α := Option Addr × Nat) (n := l.length) (p := fun i y => ∃ b off, a = some ⟨b, off, none⟩ ∧ b < w.heap.size ∧ w.cell? ⟨b, off + i * 3, none⟩ = some (.string (l.getD i t0).key) ∧ w.cell? ⟨b, off + i * 3 + 1, none⟩ = some (.int .i64 (l.getD i t0).kind)
    ∧ w.cell? ⟨b, off + i * 3 + 2, none⟩ = some (.slice y.1 (l.getD i t0).vals.length y.2) ∧ At1 w y.1 (l.getD i t0).vals) (fun i hi => by
      obtain ⟨b, off, va, vcap, r⟩ := h.2 i hi
      exact ⟨(va, vcap), b, off, r⟩)
  have hL : ∀ i, i < l.length → ((List.range l.length).map fun i => ((l.getD i t0, f i) : TrmH)).getD i (t0, none, 0) = (l.getD i t0, f i) := fun i hi => by
    simp [List.getD_eq_getElem?_getD, hi]
  refine ⟨(List.range l.length).map fun i => (l.getD i t0, f i), ?_, ?_, ?_⟩
  · apply List.ext_getElem?
    intro i
    by_cases hi : i < l.length
    · simp [hi, List.getD_eq_getElem?_getD]
    · simp [hi]
  · intro x hx
    obtain ⟨i, hi, rfl⟩ := List.mem_map.1 hx
    obtain ⟨_, _, _, _, _, _, _, hv⟩ := hf i (by simpa using hi)
    exact hv
  · intro b hb j u hu
    have hpos : 0 < l.length := by
      rcases Nat.eq_zero_or_pos l.length with e | e
      · rw [e] at hu; simp at hu
      · exact e
    obtain ⟨b0, off, rfl, _⟩ := hf 0 hpos
    cases hb
    refine row_cells (enc := cellsT) (sz := 3) (fun _ => rfl) (by decide) (t0, none, 0) (fun i hi j hj => ?_) j u hu
    have hi : i < l.length := by simpa using hi
    rw [hL i hi]
    obtain ⟨b', off', ha', _, c0, c1, c2, _⟩ := hf i hi
    simp at ha'
    obtain ⟨rfl, rfl⟩ := ha'
    match j, hj with
    | 0, _ => exact c0
    | 1, _ => exact c1
    | 2, _ => exact c2
/-- A row of the law's own, as a list in memory. -/
theorem own_len {w : World} {N : Nat} {t : TypeId} {sz : Nat} {v : Value} {n : Nat} {xs : List Value} (h : w.ownsRow N t sz v n xs) : ∃ a cap, v = .slice a n cap ∧ n ≤ cap ∧ cap ≤ maxLen ∧ (a = none → cap = 0) := by
  rcases h.2 with ⟨rfl, rfl⟩ | ⟨g, cap, cur, rfl, _, _, h1, h2, _⟩
  · exact ⟨none, 0, rfl, Nat.le_refl _, Nat.zero_le _, fun _ => rfl⟩
  · exact ⟨_, cap, rfl, h1, h2, fun h => by cases h⟩
theorem own_at2 {w : World} {N : Nat} {t : TypeId} {a : Option Addr} {n cap : Nat} {l : List Str2} (h : w.ownsRow N t 2 (.slice a n cap) n (l.flatMap cells2)) (hn : l.length = n) : At2 w a l := by
  subst hn
  exact At2_of (ty := t) (N := N) (cap := cap) h
theorem own_atL {w : World} {N : Nat} {a : Option Addr} {n cap : Nat} {l : List Tol} (h : w.ownsRow N 246 3 (.slice a n cap) n (l.flatMap cells3)) (hn : l.length = n) : AtL w a l := by
  subst hn
  exact AtL_of (N := N) (cap := cap) h (owned_le h)
theorem own_atT {w : World} {N : Nat} {a : Option Addr} {n cap : Nat} {L : List TrmH} (h : w.ownsRow N 244 3 (.slice a n cap) n (L.flatMap cellsT)) (hn : L.length = n) (hv : HeldT w L) : AtT w a (L.map (·.1)) := by
  subst hn
  have hm := owned_le h
  refine ⟨by simpa using hm, fun i hi => ?_⟩
  have hi : i < L.length := by simpa using hi
  obtain ⟨b, rfl, hb, hc⟩ := owned_cells h (j := 0) hi (by show 0 < 3; omega)
  obtain ⟨b', hb', _, hd⟩ := owned_cells h (j := 1) hi (by show 1 < 3; omega)
  obtain ⟨b'', hb'', _, he⟩ := owned_cells h (j := 2) hi (by show 2 < 3; omega)
  simp at hb' hb''
  subst hb'
  subst hb''
  have hg : (L.map (·.1)).getD i t0 = (L.getD i (t0, none, 0)).1 := by simp [List.getD_eq_getElem?_getD, List.getElem?_eq_getElem hi]
  have hmem : L.getD i (t0, none, 0) ∈ L := getD_mem hi
  rw [hg]
  have hv1 := hv _ hmem
  refine ⟨b, 0, (L.getD i (t0, none, 0)).2.1, (L.getD i (t0, none, 0)).2.2, rfl, hb, ?_, ?_, ?_, hv1⟩
  · rw [show 0 + i * 3 = 0 + i * 3 + 0 by omega]
    exact hc.trans (flat_at (f := cellsT) (sz := 3) (j := 0) (l := L) (d := (t0, none, 0)) (fun _ => rfl) hi (by decide))
  · exact hd.trans (flat_at (f := cellsT) (sz := 3) (j := 1) (l := L) (d := (t0, none, 0)) (fun _ => rfl) hi (by decide))
  · exact he.trans (flat_at (f := cellsT) (sz := 3) (j := 2) (l := L) (d := (t0, none, 0)) (fun _ => rfl) hi (by decide))
/-- What an append leaves of old memory. -/
theorem grown_below {w w' : World} {v : Value} {B : Nat} {t : TypeId} {sz n : Nat} {xs : List Value} (hg : w.grownBy w' v.ownBlock) (ho : w.ownsRow B t sz v n xs) (hB : B ≤ w.heap.size) : Below B w w' :=
  (Below.refl _ _).grown hg hB fun k hk => (ho.lt k hk).1
theorem min_cut {x n m : Int} (h : (if n < x then n else x) = m) : min x n = m := by
  rw [← h]
  split <;> omega
theorem own_news {w : World} {B : Nat} {t : TypeId} {sz : Nat} {a : Option Addr} {n cap : Nat} {xs : List Value} (h : w.ownsRow B t sz (.slice a n cap) n xs) : ∀ b, a = some b → ∀ j u, xs[j]? = some u → w.cell? (b.add j) = some u := by
  intro b hb
  subst hb
  rcases h.2 with ⟨e, _⟩ | ⟨g, cap', cur, e, _⟩
  · cases e
  · simp at e
    obtain ⟨rfl, _⟩ := e
    exact h.cells (g := g) rfl
theorem own_below {w w' : World} {B : Nat} {t : TypeId} {sz : Nat} {v : Value} {n : Nat} {xs : List Value} (h : w.ownsRow B t sz v n xs) (hb : Below w.heap.size w w') : w'.ownsRow B t sz v n xs :=
  World.ownsRow.kept (row := none) h ⟨hb.os, hb.tape, hb.output, hb.size, fun k hk _ => hb.block k hk⟩ (by cases hv : v.ownBlock <;> simp)
theorem own_one {w : World} {t : TypeId} {sz : Nat} (cs : Array Value) (hs : cs.size = 1 * sz) : (w.alloc (.cells cs t)).ownsRow w.heap.size t sz (.slice (some ⟨w.heap.size, 0, none⟩) 1 1) 1 cs.toList :=
  World.ownsRow_lit w cs 1 (Nat.le_refl _) (by unfold maxLen; omega) hs
theorem get_v (a : Option Addr) (l : List Str2) (n cap : Nat) (key : ByteArray) (w : World) {v : ByteArray} {ok : Bool} (hn : l.length = n) (h1 : getV l key = v) (h2 : getOk l key = ok) (hl : At2 w a l) (hm : l.length ≤ 9) :
    Calls Tryz.prog 230 #[.slice a n cap, .string key] w fun e w' => e = .returned (.tuple #[.string v, .bool ok]) ∧ Below w.heap.size w w' := by
  subst hn h1 h2; exact get_any a l cap key w hl (by omega)
theorem may_v2 (a : Option Addr) (l : List Str2) (n cap : Nat) (w : World) {v : Bool} (hn : l.length = n) (h : mayL l = v) (hl : At2 w a l) :
    Calls Tryz.prog 201 #[.slice a n cap] w fun e w' => e = .returned (.bool v) ∧ Below w.heap.size w w' := by
  subst hn h; exact may_pairs_any a l cap w hl
end Go.Proofs.YtaleceobkbgcnaaGreat
namespace Go.Proofs.YtaleceobkbgcnaaGreat
open Go.RowKit

/-- append(s, x...) at a step of such a region, whatever slice x is. -/
theorem step_append_opt {P : Program} {w : World} {ops : Array Oper} {o : Oper} {a : Act} {K : Act → World → Prop} {Q : Exit → Act → World → Prop} {E : Prop} (hgd : o.guard = none) (s x : Operand) (t : TypeId)
    (ho : o.op = .call { callee := .builtin .append, args := #[s, x], argTypes := #[t, t] })
    (base : Nat) (e : TypeId) (i : TypeInfo) (z : Value) (size bytes : Nat) (ht : P.underlying t = some (.slice e)) (hi : P.info? e = some i) (hz : i.zero = some z)
    (hsize : i.size = size) (hby : i.bytes = bytes) (hzs : z.cells.size = size) (hsz : 0 < size)
    (v : Value) (n : Nat) (xs : List Value) (hs : a.eval s = v) (hown : w.ownsRow base e size v n xs)
    (ad : Option Addr) (m c : Nat) (news : List Value) (hx : a.eval x = .slice ad m c) (hnone : ad = none → m = 0 ∧ c = 0) (hl : news.length = m * size) (hnews : ∀ b, ad = some b → ∀ j u, news[j]? = some u → w.cell? (b.add j) = some u) (h1 : ∀ u ∈ news, u.oneCell' = true)
    (h63 : n + m ≤ maxLen) (hbytes : (n + m) * bytes ≤ 140737488355328) (hbase : base ≤ w.heap.size)
    (h : ∀ v' w', w'.ownsRow base e size v' (n + m) (xs ++ news) → w.grownBy w' v.ownBlock → K (a.put o.dst v') w') :
    if Region.wanted o (yielded ops a.tmps) = true then Oper.wp P o a w K Q else E := by
  have hw : Region.wanted o (yielded ops a.tmps) = true := by simp [Region.wanted, hgd]
  rw [if_pos hw]
  cases ad with
  | none =>
    obtain ⟨rfl, rfl⟩ := hnone rfl
    have hn : news = [] := List.eq_nil_of_length_eq_zero (by simpa using hl)
    subst hn
    have hrun := run_append_owned_none (P := P) (w := w) base t o.type e i size ht hi v n xs hown
    have hk := h v w (by simpa using hown) (grown_refl _ _)
    unfold Oper.wp
    simp [execOp, ho, resolve, invoke, builtin, hs, hx, hrun, Result.andThen]
    exact hk
  | some b =>
    exact wp_append_own w s x t ho base e i z size bytes ht hi hz hsize hby hzs hsz v n xs hs hown b m c news hx hl (hnews b rfl) h1 h63 hbytes hbase (fun v' w' h2 h3 _ => h v' w' h2 h3)
theorem cell_lt' {w : World} {b off : Nat} {v : Value} (h : w.cell? ⟨b, off, none⟩ = some v) : b < w.heap.size := World.block_lt_of_cell? w _ h
/-- What a region keeps: all old memory, three cells, two cells. -/
theorem s3_alloc {w W : World} {b : Nat} {u1 u2 u3 : Value} (h : Below w.heap.size w W ∧ W.cell? ⟨b, 0, none⟩ = some u1 ∧ W.cell? ⟨b, 1, none⟩ = some u2 ∧ W.cell? ⟨b, 2, none⟩ = some u3) (o : Obj) :
    Below w.heap.size w (W.alloc o) ∧ (W.alloc o).cell? ⟨b, 0, none⟩ = some u1 ∧ (W.alloc o).cell? ⟨b, 1, none⟩ = some u2 ∧ (W.alloc o).cell? ⟨b, 2, none⟩ = some u3 := by
  have hb : Below W.heap.size W (W.alloc o) := (Below.refl _ _).alloc (Nat.le_refl _) o
  exact ⟨h.1.trans (hb.mono h.1.size), cell_laterA hb h.2.1, cell_laterA hb h.2.2.1, cell_laterA hb h.2.2.2⟩
theorem s3_later {w W W' : World} {b : Nat} {u1 u2 u3 : Value} (h : Below w.heap.size w W ∧ W.cell? ⟨b, 0, none⟩ = some u1 ∧ W.cell? ⟨b, 1, none⟩ = some u2 ∧ W.cell? ⟨b, 2, none⟩ = some u3) (hb : Below W.heap.size W W') :
    Below w.heap.size w W' ∧ W'.cell? ⟨b, 0, none⟩ = some u1 ∧ W'.cell? ⟨b, 1, none⟩ = some u2 ∧ W'.cell? ⟨b, 2, none⟩ = some u3 :=
  ⟨h.1.trans (hb.mono h.1.size), cell_laterA hb h.2.1, cell_laterA hb h.2.2.1, cell_laterA hb h.2.2.2⟩

theorem s3_grown {w W W' : World} {b : Nat} {u1 u2 u3 : Value} (h : Below w.heap.size w W ∧ W.cell? ⟨b, 0, none⟩ = some u1 ∧ W.cell? ⟨b, 1, none⟩ = some u2 ∧ W.cell? ⟨b, 2, none⟩ = some u3) (hb : Below w.heap.size W W') (hlt : b < w.heap.size) :
    Below w.heap.size w W' ∧ W'.cell? ⟨b, 0, none⟩ = some u1 ∧ W'.cell? ⟨b, 1, none⟩ = some u2 ∧ W'.cell? ⟨b, 2, none⟩ = some u3 :=
  ⟨h.1.trans hb, (hb.cell (p := ⟨b, 0, none⟩) hlt).trans h.2.1, (hb.cell (p := ⟨b, 1, none⟩) hlt).trans h.2.2.1, (hb.cell (p := ⟨b, 2, none⟩) hlt).trans h.2.2.2⟩
theorem s2_alloc {w W : World} {b : Nat} {u1 u2 : Value} (h : Below w.heap.size w W ∧ W.cell? ⟨b, 0, none⟩ = some u1 ∧ W.cell? ⟨b, 1, none⟩ = some u2) (o : Obj) :
    Below w.heap.size w (W.alloc o) ∧ (W.alloc o).cell? ⟨b, 0, none⟩ = some u1 ∧ (W.alloc o).cell? ⟨b, 1, none⟩ = some u2 := by
  have hb : Below W.heap.size W (W.alloc o) := (Below.refl _ _).alloc (Nat.le_refl _) o
  exact ⟨h.1.trans (hb.mono h.1.size), cell_laterA hb h.2.1, cell_laterA hb h.2.2⟩
theorem s2_later {w W W' : World} {b : Nat} {u1 u2 : Value} (h : Below w.heap.size w W ∧ W.cell? ⟨b, 0, none⟩ = some u1 ∧ W.cell? ⟨b, 1, none⟩ = some u2) (hb : Below W.heap.size W W') :
    Below w.heap.size w W' ∧ W'.cell? ⟨b, 0, none⟩ = some u1 ∧ W'.cell? ⟨b, 1, none⟩ = some u2 :=
  ⟨h.1.trans (hb.mono h.1.size), cell_laterA hb h.2.1, cell_laterA hb h.2.2⟩
theorem s2_grown {w W W' : World} {b : Nat} {u1 u2 : Value} (h : Below w.heap.size w W ∧ W.cell? ⟨b, 0, none⟩ = some u1 ∧ W.cell? ⟨b, 1, none⟩ = some u2) (hb : Below w.heap.size W W') (hlt : b < w.heap.size) :
    Below w.heap.size w W' ∧ W'.cell? ⟨b, 0, none⟩ = some u1 ∧ W'.cell? ⟨b, 1, none⟩ = some u2 :=
  ⟨h.1.trans hb, (hb.cell (p := ⟨b, 0, none⟩) hlt).trans h.2.1, (hb.cell (p := ⟨b, 1, none⟩) hlt).trans h.2.2⟩
theorem grown_nil {w w' : World} (hg : w.grownBy w' (Value.slice none 0 0).ownBlock) : Below w.heap.size w w' :=
  (Below.refl _ _).grown hg (Nat.le_refl _) (fun k hk => by simp [Value.ownBlock] at hk)
theorem grown_kept {w w' : World} (hg : w.grownBy w' (Value.slice none 0 0).ownBlock) (k : Nat) (o : Obj) (h : w.heap[k]? = some o) : w'.heap[k]? = some o :=
  (hg.block k (Array.getElem?_eq_some_iff.1 h).1 (by simp [Value.ownBlock])).trans h
end Go.Proofs.YtaleceobkbgcnaaGreat
