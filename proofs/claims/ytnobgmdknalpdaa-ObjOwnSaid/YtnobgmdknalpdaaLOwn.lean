/-
  The law ObjOwn's walk. Its conditions: the sizes of what came in.
-/
import Derived.Test.YtnobgmdknalpdaaLPart1
import Derived.Deep.RegionHeld3
import Derived.Deep.RegionHeldLaw
import Derived.Deep.CutRange
set_option linter.unusedSimpArgs false
set_option linter.unusedVariables false
namespace Go.Proofs.Ytnobgmdknalpdaa
open Go.RowKit

/-- Rows of unlike types lie in unlike blocks. -/
theorem apart_ty {w : World} {N M : Nat} {r s : RowF} (hr : r.In w N) (hs : s.In w M) (h : r.t ≠ s.t) : Apart r s := by
  unfold Apart
  cases hb : r.v.ownBlock with
  | none => exact Or.inl rfl
  | some g =>
    refine Or.inr (fun e => ?_)
    have hT : HasTy w g r.t := by
      rcases hr.2 with ⟨hv, _⟩ | ⟨g', c, cur, hv, _, hg, _⟩
      · rw [hv] at hb; cases hb
      · rw [hv] at hb; cases hb; exact ⟨_, _, hg⟩
    exact own_ne hs hT h e.symm
/-- On the way through a region that copies twice. -/
structure Mid2 (T : TypeId) (z : Array Value) (w1 W : World) (Q M : Option Nat) (Ra Rb : Option (List RowF)) : Prop where
  b : Below w1.heap.size w1 W
  q : ∀ x, Q = some x → w1.heap.size ≤ x ∧ W.heap[x]? = some (.cells z T)
  m : ∀ x, M = some x → w1.heap.size ≤ x ∧ W.heap[x]? = some (.cells z T)
  ne : ∀ x y, Q = some x → M = some y → x ≠ y
  a : ∀ R, Ra = some R → (∀ r ∈ R, r.In W w1.heap.size) ∧ R.Pairwise Apart ∧ ∀ r ∈ R, T ≠ r.t
  c : ∀ R, Rb = some R → (∀ r ∈ R, r.In W w1.heap.size) ∧ R.Pairwise Apart ∧ ∀ r ∈ R, T ≠ r.t
  x : ∀ R S, Ra = some R → Rb = some S → ∀ r ∈ R, ∀ s ∈ S, Apart r s
section
variable {T : TypeId} {z : Array Value} {w1 W W' : World} {Q M : Option Nat} {Ra Rb : Option (List RowF)}
theorem Mid2.start (h : Below w1.heap.size w1 W) : Mid2 T z w1 W none none none none :=
  ⟨h, fun _ e => (by cases e), fun _ e => (by cases e), fun _ _ e => (by cases e), fun _ e => (by cases e), fun _ e => (by cases e), fun _ _ e => (by cases e)⟩
theorem Mid2.later (h : Mid2 T z w1 W Q M Ra Rb) (hb : Below W.heap.size W W') : Mid2 T z w1 W' Q M Ra Rb :=
  ⟨h.b.trans (hb.mono h.b.size), fun x e => ⟨(h.q x e).1, heap_keep hb (h.q x e).2⟩, fun x e => ⟨(h.m x e).1, heap_keep hb (h.m x e).2⟩, h.ne, fun R e => ⟨fun r hr => ((h.a R e).1 r hr).kept hb, (h.a R e).2⟩, fun R e => ⟨fun r hr => ((h.c R e).1 r hr).kept hb, (h.c R e).2⟩, h.x⟩
theorem Mid2.addQ (h : Mid2 T z w1 W none M Ra Rb) : Mid2 T z w1 (W.alloc (.cells z T)) (some W.heap.size) M Ra Rb := by
  have h' := h.later ((Below.refl _ _).alloc (Nat.le_refl _) (.cells z T))
  exact ⟨h'.b, fun x e => by cases e; exact ⟨h.b.size, heap_alloc_self _ _⟩, h'.m, fun x y e1 e2 => by cases e1; exact (Nat.ne_of_lt (Array.getElem?_eq_some_iff.1 (h.m y e2).2).1).symm, h'.a, h'.c, h'.x⟩
theorem Mid2.addM (h : Mid2 T z w1 W Q none Ra Rb) : Mid2 T z w1 (W.alloc (.cells z T)) Q (some W.heap.size) Ra Rb := by
  have h' := h.later ((Below.refl _ _).alloc (Nat.le_refl _) (.cells z T))
  exact ⟨h'.b, h'.q, fun x e => by cases e; exact ⟨h.b.size, heap_alloc_self _ _⟩, fun x y e1 e2 => by cases e2; exact Nat.ne_of_lt (Array.getElem?_eq_some_iff.1 (h.q x e1).2).1, h'.a, h'.c, h'.x⟩
theorem Mid2.addA {R : List RowF} (h : Mid2 T z w1 W Q M none none) (hb : Below W.heap.size W W') (hr : ∀ r ∈ R, r.In W' W.heap.size) (hp : R.Pairwise Apart) (ht : ∀ r ∈ R, T ≠ r.t) : Mid2 T z w1 W' Q M (some R) none := by
  have h' := h.later hb
  exact ⟨h'.b, h'.q, h'.m, h'.ne, fun S e => by cases e; exact ⟨fun r x => (hr r x).low h.b.size, hp, ht⟩, h'.c, fun _ _ _ e => (by cases e)⟩
theorem Mid2.addB {R : List RowF} (h : Mid2 T z w1 W Q M Ra none) (hb : Below W.heap.size W W') (hr : ∀ r ∈ R, r.In W' W.heap.size) (hp : R.Pairwise Apart) (ht : ∀ r ∈ R, T ≠ r.t) : Mid2 T z w1 W' Q M Ra (some R) := by
  have h' := h.later hb
  exact ⟨h'.b, h'.q, h'.m, h'.ne, h'.a, fun S e => by cases e; exact ⟨fun r x => (hr r x).low h.b.size, hp, ht⟩, fun A B e1 e2 r hr' s hs => by cases e2; exact (apart_later ((h.a A e1).1 r hr') (hr s hs) (Nat.le_refl _)).symm⟩
end
/-- Two objects in blocks of their own, and rows of one's own, each apart from the others. -/
structure Ow (T : TypeId) (w1 W : World) (Q M : Nat) (ca cb : Array Value) (R : List RowF) : Prop where
  b : Below w1.heap.size w1 W
  q : W.heap[Q]? = some (.cells ca T)
  m : W.heap[M]? = some (.cells cb T)
  own : ∀ r ∈ R, r.In W w1.heap.size
  ty : ∀ r ∈ R, T ≠ r.t
  ap : R.Pairwise Apart
theorem Mid2.other {T : TypeId} {z : Array Value} {w1 W : World} {Q M : Option Nat} {Ra Rb : Option (List RowF)} (h : Mid2 T z w1 W Q M Ra Rb) {x y : Nat} (hx : Q = some x) (hy : M = some y) (cs : Array Value) : (W.setRow x cs).heap[y]? = some (.cells z T) := by
  rw [setRow_other W x y _ (h.ne x y hx hy).symm]; exact (h.m y hy).2
theorem Mid2.fin {T : TypeId} {z : Array Value} {w1 W : World} {Q M : Nat} {Ra Rb : List RowF} (h : Mid2 T z w1 W (some Q) (some M) (some Ra) (some Rb)) (ca cb : Array Value) : Ow T w1 ((W.setRow Q ca).setRow M cb) Q M ca cb (Ra ++ Rb) := by
  have hq := h.q Q rfl
  have hm := h.m M rfl
  have hne := h.ne Q M rfl rfl
  obtain ⟨ra, pa, ta⟩ := h.a Ra rfl
  obtain ⟨rb, pb, tb⟩ := h.c Rb rfl
  have hT : ∀ r ∈ Ra ++ Rb, T ≠ r.t := fun r hr => (List.mem_append.1 hr).elim (ta r) (tb r)
  have hR : ∀ r ∈ Ra ++ Rb, r.In W w1.heap.size := fun r hr => (List.mem_append.1 hr).elim (ra r) (rb r)
  have tQ : HasTy W Q T := ⟨_, _, hq.2⟩
  have m1 := h.other rfl rfl ca
  have q1 : (W.setRow Q ca).heap[Q]? = some (.cells ca T) := heap_setRow_self hq.2
  refine ⟨Below.setRow (Below.setRow h.b hq.1 _) hm.1 _, ?_, heap_setRow_self m1, rows_setRow (rows_setRow hR hT tQ _) hT ⟨_, _, m1⟩ _, hT, ?_⟩
  · rw [setRow_other _ M Q _ hne]; exact q1
  · rw [List.pairwise_append]; exact ⟨pa, pb, h.x Ra Rb rfl rfl⟩
section
variable {T : TypeId} {w1 W W' : World} {Q M : Nat} {ca cb : Array Value} {R pre post : List RowF} {r r' : RowF}
theorem Ow.later (h : Ow T w1 W Q M ca cb R) (hb : Below W.heap.size W W') : Ow T w1 W' Q M ca cb R :=
  ⟨h.b.trans (hb.mono h.b.size), heap_keep hb h.q, heap_keep hb h.m, fun r x => (h.own r x).kept hb, h.ty, h.ap⟩
theorem ap_same (h : (pre ++ r :: post).Pairwise Apart) (e : r'.v = r.v) : (pre ++ r' :: post).Pairwise Apart := by
  rw [List.pairwise_append, List.pairwise_cons] at *
  obtain ⟨h1, ⟨h2, h3⟩, h4⟩ := h
  refine ⟨h1, ⟨fun s hs => ?_, h3⟩, fun s hs x hx => ?_⟩
  · have := h2 s hs; unfold Apart at *; rw [e]; exact this
  · rcases List.mem_cons.1 hx with rfl | hx
    · have := h4 s hs r (by simp); unfold Apart at *; rw [e]; exact this
    · exact h4 s hs x (by simp [hx])
/-- One cell of a row is written. -/
theorem Ow.store (h : Ow T w1 W Q M ca cb (pre ++ r :: post)) {g : Nat} (hg : r.v.ownBlock = some g) (j : Nat) (u : Value) (ht : r'.t = r.t) (hz : r'.sz = r.sz) (hv : r'.v = r.v) (hn : r'.n = r.n) (hx : r'.xs = r.xs.set j u) : Ow T w1 (W.setCell ⟨g, j, none⟩ u) Q M ca cb (pre ++ r' :: post) := by
  have hr := h.own r (by simp)
  obtain ⟨a, c, ev, _, _, _⟩ := own_len hr
  have ha : a = some ⟨g, 0, none⟩ := by
    rcases hr.2 with ⟨hv', _⟩ | ⟨g', c', cur, hv', _⟩
    · rw [hv'] at hg; cases hg
    · rw [hv'] at hg ev; cases hg; cases ev; rfl
  subst ha
  have hs := hr
  unfold RowF.In at hs
  rw [ev] at hs
  have st := hs.stored j u
  have hgr : W.grownBy (W.setCell ⟨g, j, none⟩ u) r.v.ownBlock := by rw [hg]; exact st.2
  have hne : ∀ x : Nat, (∃ cs, W.heap[x]? = some (.cells cs T)) → x ≠ g := fun x ⟨cs, hx⟩ e => by
    subst e; exact own_ne hr ⟨_, _, hx⟩ (h.ty r (by simp)) hg
  have hlo := (World.ownsRow.lt hr g hg).1
  refine ⟨h.b.setCell hlo u, ?_, ?_, rows_app h.own h.ap hgr ?_, ?_, ap_same h.ap hv⟩
  · rw [heap_setCell_other W ⟨g, j, none⟩ Q u (hne Q ⟨_, h.q⟩)]; exact h.q
  · rw [heap_setCell_other W ⟨g, j, none⟩ M u (hne M ⟨_, h.m⟩)]; exact h.m
  · unfold RowF.In; rw [ht, hz, hv, hn, hx, ev]; exact st.1
  · intro s hs'
    rcases List.mem_append.1 hs' with x | x
    · exact h.ty s (by simp [x])
    · rcases List.mem_cons.1 x with rfl | x
      · rw [ht]; exact h.ty r (by simp)
      · exact h.ty s (by simp [x])
/-- Where an element of a row lies. -/
theorem Ow.cell (h : Ow T w1 W Q M ca cb (pre ++ r :: post)) {a : Option Addr} {c : Nat} (hv : r.v = .slice a r.n c) {i j : Nat} (hi : i < r.n) (hj : j < r.sz) : ∃ g, a = some ⟨g, 0, none⟩ ∧ r.v.ownBlock = some g ∧ g < W.heap.size ∧ W.cell? ⟨g, i * r.sz + j, none⟩ = r.xs[i * r.sz + j]? ∧ ∀ o, W.frozen? ⟨g, o, none⟩ = false := by
  have hr := h.own r (by simp)
  unfold RowF.In at hr
  rw [hv] at hr
  obtain ⟨g, rfl, hb, hc⟩ := owned_cells hr hi hj
  rw [Nat.zero_add] at hc
  exact ⟨g, rfl, by rw [hv]; rfl, hb, hc, fun o => hr.frozenAt o⟩
end
theorem flat_upd {α : Type} {f : α → List Value} {sz : Nat} (hf : ∀ x, (f x).length = sz) (j : Nat) (hj : j < sz) (u : Value) (y : α) : ∀ (l : List α) (i : Nat), i < l.length → (∀ x, l[i]? = some x → f y = (f x).set j u) → (l.flatMap f).set (i * sz + j) u = (l.set i y).flatMap f
  | [], i, hi, _ => by simp at hi
  | x :: r, 0, hi, hy => by
    have := hy x rfl
    simp only [Nat.zero_mul, Nat.zero_add, List.flatMap_cons, List.set_cons_zero, this]
    rw [List.set_append_left _ _ (by rw [hf]; exact hj)]
  | x :: r, i + 1, hi, hy => by
    simp only [List.flatMap_cons, List.set_cons_succ]
    rw [List.set_append_right _ _ (by rw [hf, Nat.add_mul]; omega), hf, show (i + 1) * sz + j - sz = i * sz + j by rw [Nat.add_mul]; omega, flat_upd hf j hj u y r i (by simpa using hi) (fun z hz => hy z (by simpa using hz))]
theorem getD_of {α : Type} {l : List α} {q : Nat} {d x : α} (h : l[q]? = some x) : l.getD q d = x := by rw [List.getD_eq_getElem?_getD, h]; rfl
section
variable {T : TypeId} {w1 W W' : World} {Q M : Nat} {ca cb : Array Value} {R pre post : List RowF} {r r' : RowF} {a : Option Addr} {c q g : Nat}
theorem Ow.sub (h : Ow T w1 W Q M ca cb R) {R' : List RowF} (hs : R'.Sublist R) : Ow T w1 W Q M ca cb R' := ⟨h.b, h.q, h.m, fun r x => h.own r (hs.subset x), fun r x => h.ty r (hs.subset x), h.ap.sublist hs⟩
theorem Ow.drop (h : Ow T w1 W Q M ca cb (pre ++ r :: post)) : Ow T w1 W Q M ca cb (pre ++ post) := h.sub (List.Sublist.append_left (List.sublist_cons_self _ _) _)
theorem Ow.cellI {l : List Int} (h : Ow T w1 W Q M ca cb (pre ++ rowI a c l :: post)) (hq : q < l.length) : ∃ g, a = some ⟨g, 0, none⟩ ∧ (rowI a c l).v.ownBlock = some g ∧ W.cell? ⟨g, q, none⟩ = some (.int .i64 (l.getD q 0)) ∧ ∀ o, W.frozen? ⟨g, o, none⟩ = false := by
  obtain ⟨g, e, hg, _, cc, fz⟩ := h.cell (r := rowI a c l) (a := a) (c := c) rfl (i := q) (j := 0) hq (by show 0 < 1; omega)
  refine ⟨g, e, hg, ?_, fz⟩
  have hf := flat_at (f := fun x : Int => [Value.int .i64 x]) (sz := 1) (fun _ => rfl) (l := l) (i := q) (j := 0) (d := 0) hq (by omega)
  have := cc.trans hf
  simpa [rowI] using this
theorem Ow.setI {l : List Int} (h : Ow T w1 W Q M ca cb (pre ++ rowI a c l :: post)) (hg : (rowI a c l).v.ownBlock = some g) (hq : q < l.length) (y : Int) : Ow T w1 (W.setCell ⟨g, q, none⟩ (.int .i64 y)) Q M ca cb (pre ++ rowI a c (l.set q y) :: post) := by
  have hf := flat_upd (f := fun x : Int => [Value.int .i64 x]) (sz := 1) (fun _ => rfl) 0 (by omega) (.int .i64 y) y l q hq (fun _ _ => rfl)
  exact h.store hg q _ rfl rfl (by simp [rowI]) (by simp [rowI]) (by rw [Nat.mul_one, Nat.add_zero] at hf; exact hf.symm)
theorem Ow.cellP {ty : TypeId} {l : List Str2} (h : Ow T w1 W Q M ca cb (pre ++ rowP ty a c l :: post)) (hq : q < l.length) : ∃ g, a = some ⟨g, 0, none⟩ ∧ (rowP ty a c l).v.ownBlock = some g ∧ W.cell? ⟨g, q * 2, none⟩ = some (.string (l.getD q (⟨#[]⟩, ⟨#[]⟩)).1) ∧ W.cell? ⟨g, q * 2 + 1, none⟩ = some (.string (l.getD q (⟨#[]⟩, ⟨#[]⟩)).2) ∧ ∀ o, W.frozen? ⟨g, o, none⟩ = false := by
  obtain ⟨g, e, hg, _, cc, fz⟩ := h.cell (r := rowP ty a c l) (a := a) (c := c) rfl (i := q) (j := 0) hq (by show 0 < 2; omega)
  obtain ⟨g', e', _, _, cc', _⟩ := h.cell (r := rowP ty a c l) (a := a) (c := c) rfl (i := q) (j := 1) hq (by show 1 < 2; omega)
  obtain rfl : g = g' := by rw [e] at e'; cases e'; rfl
  have hf := flat_at (f := fun x : Str2 => [Value.string x.1, Value.string x.2]) (sz := 2) (fun _ => rfl) (l := l) (i := q) (j := 0) (d := (⟨#[]⟩, ⟨#[]⟩)) hq (by omega)
  have hf' := flat_at (f := fun x : Str2 => [Value.string x.1, Value.string x.2]) (sz := 2) (fun _ => rfl) (l := l) (i := q) (j := 1) (d := (⟨#[]⟩, ⟨#[]⟩)) hq (by omega)
  exact ⟨g, e, hg, cc.trans hf, cc'.trans hf', fz⟩
theorem Ow.setP1 {ty : TypeId} {l : List Str2} (h : Ow T w1 W Q M ca cb (pre ++ rowP ty a c l :: post)) (hg : (rowP ty a c l).v.ownBlock = some g) (hq : q < l.length) (y : ByteArray) : Ow T w1 (W.setCell ⟨g, q * 2 + 1, none⟩ (.string y)) Q M ca cb (pre ++ rowP ty a c (l.set q ((l.getD q (⟨#[]⟩, ⟨#[]⟩)).1, y)) :: post) := by
  have hf := flat_upd (f := fun x : Str2 => [Value.string x.1, Value.string x.2]) (sz := 2) (fun _ => rfl) 1 (by omega) (.string y) ((l.getD q (⟨#[]⟩, ⟨#[]⟩)).1, y) l q hq (fun x hx => by rw [getD_of hx]; rfl)
  exact h.store hg _ _ rfl rfl (by simp [rowP]) (by simp [rowP]) hf.symm
theorem Ow.setP0 {ty : TypeId} {l : List Str2} (h : Ow T w1 W Q M ca cb (pre ++ rowP ty a c l :: post)) (hg : (rowP ty a c l).v.ownBlock = some g) (hq : q < l.length) (y : ByteArray) : Ow T w1 (W.setCell ⟨g, q * 2, none⟩ (.string y)) Q M ca cb (pre ++ rowP ty a c (l.set q (y, (l.getD q (⟨#[]⟩, ⟨#[]⟩)).2)) :: post) := by
  have hf := flat_upd (f := fun x : Str2 => [Value.string x.1, Value.string x.2]) (sz := 2) (fun _ => rfl) 0 (by omega) (.string y) (y, (l.getD q (⟨#[]⟩, ⟨#[]⟩)).2) l q hq (fun x hx => by rw [getD_of hx]; rfl)
  exact h.store hg _ _ rfl rfl (by simp [rowP]) (by simp [rowP]) hf.symm
theorem Ow.cellL {l : List Tol} (h : Ow T w1 W Q M ca cb (pre ++ rowL a c l :: post)) (hq : q < l.length) : ∃ g, a = some ⟨g, 0, none⟩ ∧ (rowL a c l).v.ownBlock = some g ∧ W.cell? ⟨g, q * 3 + 2, none⟩ = some (.bool (l.getD q (⟨#[]⟩, ⟨#[]⟩, false)).2.2) ∧ ∀ o, W.frozen? ⟨g, o, none⟩ = false := by
  obtain ⟨g, e, hg, _, cc, fz⟩ := h.cell (r := rowL a c l) (a := a) (c := c) rfl (i := q) (j := 2) hq (by show 2 < 3; omega)
  have hf := flat_at (f := fun x : Tol => [Value.string x.1, Value.string x.2.1, Value.bool x.2.2]) (sz := 3) (fun _ => rfl) (l := l) (i := q) (j := 2) (d := (⟨#[]⟩, ⟨#[]⟩, false)) hq (by omega)
  exact ⟨g, e, hg, cc.trans hf, fz⟩
theorem Ow.setL {l : List Tol} (h : Ow T w1 W Q M ca cb (pre ++ rowL a c l :: post)) (hg : (rowL a c l).v.ownBlock = some g) (hq : q < l.length) (y : Bool) : Ow T w1 (W.setCell ⟨g, q * 3 + 2, none⟩ (.bool y)) Q M ca cb (pre ++ rowL a c (l.set q ((l.getD q (⟨#[]⟩, ⟨#[]⟩, false)).1, (l.getD q (⟨#[]⟩, ⟨#[]⟩, false)).2.1, y)) :: post) := by
  have hf := flat_upd (f := fun x : Tol => [Value.string x.1, Value.string x.2.1, Value.bool x.2.2]) (sz := 3) (fun _ => rfl) 2 (by omega) (.bool y) ((l.getD q (⟨#[]⟩, ⟨#[]⟩, false)).1, (l.getD q (⟨#[]⟩, ⟨#[]⟩, false)).2.1, y) l q hq (fun x hx => by rw [getD_of hx]; rfl)
  exact h.store hg _ _ rfl rfl (by simp [rowL]) (by simp [rowL]) hf.symm
abbrev rS (x : TrmH) : RowF := rowS x.2.1 x.2.2 x.1.vals
theorem Ow.cellT {L : List TrmH} (h : Ow T w1 W Q M ca cb (pre ++ rowT a c L :: post)) (hq : q < L.length) : ∃ g, a = some ⟨g, 0, none⟩ ∧ (rowT a c L).v.ownBlock = some g ∧ W.cell? ⟨g, q * 3 + 1, none⟩ = some (.int .i64 (L.getD q (t0, none, 0)).1.kind)
    ∧ W.cell? ⟨g, q * 3 + 2, none⟩ = some (.slice (L.getD q (t0, none, 0)).2.1 (L.getD q (t0, none, 0)).1.vals.length (L.getD q (t0, none, 0)).2.2) ∧ ∀ o, W.frozen? ⟨g, o, none⟩ = false := by
  obtain ⟨g, e, hg, _, cc, fz⟩ := h.cell (r := rowT a c L) (a := a) (c := c) rfl (i := q) (j := 1) hq (by show 1 < 3; omega)
  obtain ⟨g', e', _, _, cc', _⟩ := h.cell (r := rowT a c L) (a := a) (c := c) rfl (i := q) (j := 2) hq (by show 2 < 3; omega)
  obtain rfl : g = g' := by rw [e] at e'; cases e'; rfl
  have hf := flat_at (f := cellsT) (sz := 3) (fun _ => rfl) (l := L) (i := q) (j := 1) (d := (t0, none, 0)) hq (by omega)
  have hf' := flat_at (f := cellsT) (sz := 3) (fun _ => rfl) (l := L) (i := q) (j := 2) (d := (t0, none, 0)) hq (by omega)
  exact ⟨g, e, hg, cc.trans hf, cc'.trans hf', fz⟩
theorem map_rS {L : List TrmH} {y : TrmH} (hy : ∀ x, L[q]? = some x → rS y = rS x) : (L.set q y).map rS = L.map rS := by
  apply List.ext_getElem?
  intro i
  rw [List.getElem?_map, List.getElem?_map, List.getElem?_set]
  split
  · rename_i e
    subst e
    split
    · rename_i hlt
      rw [List.getElem?_eq_getElem hlt]
      simp only [Option.map_some, Option.some.injEq]
      exact hy _ (List.getElem?_eq_getElem hlt)
    · rename_i hlt
      rw [List.getElem?_eq_none (by omega)]
  · rfl
theorem Ow.setT {L : List TrmH} (h : Ow T w1 W Q M ca cb (pre ++ (rowsT a c L ++ post))) (hg : (rowT a c L).v.ownBlock = some g) (hq : q < L.length) (y : Int) :
    Ow T w1 (W.setCell ⟨g, q * 3 + 1, none⟩ (.int .i64 y)) Q M ca cb (pre ++ (rowsT a c (L.set q (⟨(L.getD q (t0, none, 0)).1.key, y, (L.getD q (t0, none, 0)).1.vals⟩, (L.getD q (t0, none, 0)).2)) ++ post)) := by
  have h' : Ow T w1 W Q M ca cb (pre ++ rowT a c L :: (L.map rS ++ post)) := h
  have hf := flat_upd (f := cellsT) (sz := 3) (fun _ => rfl) 1 (by omega) (.int .i64 y) (⟨(L.getD q (t0, none, 0)).1.key, y, (L.getD q (t0, none, 0)).1.vals⟩, (L.getD q (t0, none, 0)).2) L q hq (fun x hx => by rw [getD_of hx]; rfl)
  have := h'.store (r' := rowT a c (L.set q (⟨(L.getD q (t0, none, 0)).1.key, y, (L.getD q (t0, none, 0)).1.vals⟩, (L.getD q (t0, none, 0)).2))) hg (q * 3 + 1) (.int .i64 y) rfl rfl (by simp [rowT]) (by simp [rowT]) hf.symm
  rw [← map_rS (q := q) (L := L) (y := (⟨(L.getD q (t0, none, 0)).1.key, y, (L.getD q (t0, none, 0)).1.vals⟩, (L.getD q (t0, none, 0)).2)) (fun x hx => by rw [getD_of hx])] at this
  exact this
theorem rowsT_split {L : List TrmH} {x : TrmH} (hx : L[q]? = some x) : rowsT a c L = (rowT a c L :: (L.take q).map rS) ++ rS x :: (L.drop (q + 1)).map rS := by
  have hq : q < L.length := (List.getElem?_eq_some_iff.1 hx).1
  have e : L = L.take q ++ x :: L.drop (q + 1) := by
    conv => lhs; rw [← List.take_append_drop q L]
    rw [List.drop_eq_getElem_cons hq]
    rw [List.getElem?_eq_getElem hq] at hx
    rw [Option.some.inj hx]
  show rowT a c L :: L.map rS = _
  rw [List.cons_append]
  congr 1
  conv => lhs; rw [e]
  rw [List.map_append, List.map_cons]
theorem rowsT_join {L : List TrmH} {x : TrmH} (hx : L[q]? = some x) {vs : List ByteArray} (hv : vs.length = x.1.vals.length) : rowsT a c (L.set q (⟨x.1.key, x.1.kind, vs⟩, x.2)) = (rowT a c L :: (L.take q).map rS) ++ rowS x.2.1 x.2.2 vs :: (L.drop (q + 1)).map rS := by
  have hq : q < L.length := (List.getElem?_eq_some_iff.1 hx).1
  have hs : (L.set q (⟨x.1.key, x.1.kind, vs⟩, x.2))[q]? = some (⟨x.1.key, x.1.kind, vs⟩, x.2) := by rw [List.getElem?_set]; simp [hq]
  rw [rowsT_split hs, List.take_set_of_le (Nat.le_refl _), List.drop_set_of_lt (by omega)]
  have hT : rowT a c (L.set q (⟨x.1.key, x.1.kind, vs⟩, x.2)) = rowT a c L := by
    have hf := flat_upd (f := cellsT) (sz := 3) (fun _ => rfl) 0 (by omega) (.string x.1.key) ((⟨x.1.key, x.1.kind, vs⟩, x.2) : TrmH) L q hq (fun z hz => by rw [hx] at hz; cases hz; simp [cellsT, hv])
    have hg := flat_upd (f := cellsT) (sz := 3) (fun _ => rfl) 0 (by omega) (.string x.1.key) x L q hq (fun z hz => by rw [hx] at hz; cases hz; simp [cellsT])
    have hid : L.set q x = L := by
      rw [List.getElem?_eq_getElem hq] at hx
      rw [← Option.some.inj hx]; exact List.set_getElem_self hq
    rw [hid] at hg
    simp only [rowT, List.length_set]
    rw [← hf, hg]
  rw [hT]
theorem Ow.cellS {vs : List ByteArray} (h : Ow T w1 W Q M ca cb (pre ++ rowS a c vs :: post)) (hq : q < vs.length) : ∃ g, a = some ⟨g, 0, none⟩ ∧ (rowS a c vs).v.ownBlock = some g ∧ W.cell? ⟨g, q, none⟩ = some (.string (vs.getD q ⟨#[]⟩)) ∧ ∀ o, W.frozen? ⟨g, o, none⟩ = false := by
  obtain ⟨g, e, hg, _, cc, fz⟩ := h.cell (r := rowS a c vs) (a := a) (c := c) rfl (i := q) (j := 0) hq (by show 0 < 1; omega)
  refine ⟨g, e, hg, ?_, fz⟩
  have hf := flat_at (f := fun x : ByteArray => [Value.string x]) (sz := 1) (fun _ => rfl) (l := vs) (i := q) (j := 0) (d := ⟨#[]⟩) hq (by omega)
  have := cc.trans hf
  simpa [rowS] using this
theorem Ow.setS {vs : List ByteArray} (h : Ow T w1 W Q M ca cb (pre ++ rowS a c vs :: post)) (hg : (rowS a c vs).v.ownBlock = some g) (hq : q < vs.length) (y : ByteArray) : Ow T w1 (W.setCell ⟨g, q, none⟩ (.string y)) Q M ca cb (pre ++ rowS a c (vs.set q y) :: post) := by
  have hf := flat_upd (f := fun x : ByteArray => [Value.string x]) (sz := 1) (fun _ => rfl) 0 (by omega) (.string y) y vs q hq (fun _ _ => rfl)
  exact h.store hg q _ rfl rfl (by simp [rowS]) (by simp [rowS]) (by rw [Nat.mul_one, Nat.add_zero] at hf; exact hf.symm)
end
theorem getD_set_ne {α : Type} {l : List α} {q i : Nat} {y d : α} (h : q ≠ i) : (l.set q y).getD i d = l.getD i d := by
  rw [List.getD_eq_getElem?_getD, List.getD_eq_getElem?_getD, List.getElem?_set_ne h]
/-- The list of three lists of terms. -/
def rowN (g : Nat) (xs : List Value) : RowF := ⟨26, 1, .slice (some ⟨g, 0, none⟩) 3 3, 3, xs⟩
theorem Ow.newN {T : TypeId} {w1 W : World} {Q M : Nat} {ca cb : Array Value} {R : List RowF} (h : Ow T w1 W Q M ca cb R) (x y z : Value) (hT : T ≠ 26) : Ow T w1 (W.alloc (.cells #[x, y, z] 26)) Q M ca cb (rowN W.heap.size [x, y, z] :: R) := by
  have h2 := h.later ((Below.refl _ _).alloc (Nat.le_refl _) (.cells #[x, y, z] 26))
  have hn : (rowN W.heap.size [x, y, z]).In (W.alloc (.cells #[x, y, z] 26)) W.heap.size :=
    ⟨rfl, Or.inr ⟨W.heap.size, 3, #[x, y, z], rfl, Nat.le_refl _, heap_alloc_self _ _, Nat.le_refl _, by unfold maxLen; omega, rfl, rfl⟩⟩
  refine ⟨h2.b, h2.q, h2.m, fun r hr => ?_, fun r hr => ?_, ?_⟩
  · rcases List.mem_cons.1 hr with rfl | hr
    · exact hn.low h.b.size
    · exact h2.own r hr
  · rcases List.mem_cons.1 hr with rfl | hr
    · exact hT
    · exact h2.ty r hr
  · rw [List.pairwise_cons]
    exact ⟨fun s hs => apart_later (h.own s hs) hn (Nat.le_refl _), h.ap⟩
theorem sub_rest {N r : RowF} {E A S B : List RowF} : (r :: B).Sublist (N :: ((E ++ (A ++ ([r] ++ S))) ++ B)) := by
  refine List.Sublist.cons _ ?_
  rw [List.append_assoc, List.append_assoc, List.append_assoc]
  exact ((List.sublist_append_right S B).cons_cons r).trans ((List.sublist_append_right A _).trans (List.sublist_append_right E _))
def BT (L : List TrmH) : Prop := ∀ x ∈ L, ∀ v ∈ x.1.vals, v.size ≤ reachBytes
/-- The three lists of terms, those from the j-th on as they were. -/
def TermsAt (w1 W : World) (Q M : Nat) (cq cb : Array Value) (N0 : Nat) (rl : RowF) (Rb : List RowF) (sa aa ea : Option Addr) (sc ac ec n1 n2 n3 j : Nat) : Prop := ∃ Ls La Le : List TrmH, Ls.length = n1 ∧ La.length = n2 ∧ Le.length = n3 ∧ (j ≤ 0 → BT Ls) ∧ (j ≤ 1 → BT La) ∧ (j ≤ 2 → BT Le)
  ∧ Ow 29 w1 W Q M cq cb (rowN N0 [.slice sa n1 sc, .slice aa n2 ac, .slice ea n3 ec] :: ((rowsT ea ec Le ++ (rowsT aa ac La ++ ([rl] ++ rowsT sa sc Ls))) ++ Rb))
theorem TermsAt.open {w1 W : World} {Q M : Nat} {cq cb : Array Value} {N0 : Nat} {rl : RowF} {Rb : List RowF} {sa aa ea : Option Addr} {sc ac ec n1 n2 n3 j : Nat} (h : TermsAt w1 W Q M cq cb N0 rl Rb sa aa ea sc ac ec n1 n2 n3 j) (hj : j < 3) :
    ∃ (a : Option Addr) (c len : Nat) (L : List TrmH) (pre post : List RowF), L.length = len ∧ len ≤ maxLen ∧ BT L ∧ Ow 29 w1 W Q M cq cb (pre ++ (rowsT a c L ++ post)) ∧ W.cell? ⟨N0, j, none⟩ = some (.slice a len c)
      ∧ ∀ L' W', L'.length = len → Ow 29 w1 W' Q M cq cb (pre ++ (rowsT a c L' ++ post)) → TermsAt w1 W' Q M cq cb N0 rl Rb sa aa ea sc ac ec n1 n2 n3 (j + 1) := by
  obtain ⟨Ls, La, Le, h1, h2, h3, b1, b2, b3, ho⟩ := h
  obtain ⟨g, e, _, _, cc, _⟩ := ho.cell (pre := []) (r := rowN N0 [.slice sa n1 sc, .slice aa n2 ac, .slice ea n3 ec]) (a := some ⟨N0, 0, none⟩) (c := 3) rfl (i := j) (j := 0) hj (by show 0 < 1; omega)
  cases e
  have cc : W.cell? ⟨N0, j, none⟩ = [Value.slice sa n1 sc, .slice aa n2 ac, .slice ea n3 ec][j]? := by simpa [rowN] using cc
  have len_ok : ∀ {a : Option Addr} {c : Nat} {L : List TrmH}, (rowT a c L).In W w1.heap.size → L.length ≤ maxLen := fun {a c L} h => by
    obtain ⟨a', c', e, k1, k2, _⟩ := own_len h
    exact Nat.le_trans k1 k2
  have h012 : j = 0 ∨ j = 1 ∨ j = 2 := by omega
  rcases h012 with rfl | rfl | rfl
  · refine ⟨sa, sc, n1, Ls, rowN N0 [.slice sa n1 sc, .slice aa n2 ac, .slice ea n3 ec] :: (rowsT ea ec Le ++ (rowsT aa ac La ++ [rl])), Rb, h1, ?_, b1 (by omega), by simpa [List.append_assoc] using ho, cc, fun L' W' hl ho' => ?_⟩
    · rw [← h1]; exact len_ok (ho.own (rowT sa sc Ls) (by simp [rowsT]))
    · exact ⟨L', La, Le, hl, h2, h3, fun h => by omega, fun h => b2 (by omega), fun h => b3 (by omega), by simpa [List.append_assoc] using ho'⟩
  · refine ⟨aa, ac, n2, La, rowN N0 [.slice sa n1 sc, .slice aa n2 ac, .slice ea n3 ec] :: rowsT ea ec Le, [rl] ++ (rowsT sa sc Ls ++ Rb), h2, ?_, b2 (by omega), by simpa [List.append_assoc] using ho, cc, fun L' W' hl ho' => ?_⟩
    · rw [← h2]; exact len_ok (ho.own (rowT aa ac La) (by simp [rowsT]))
    · exact ⟨Ls, L', Le, h1, hl, h3, fun h => by omega, fun h => by omega, fun h => b3 (by omega), by simpa [List.append_assoc] using ho'⟩
  · refine ⟨ea, ec, n3, Le, [rowN N0 [.slice sa n1 sc, .slice aa n2 ac, .slice ea n3 ec]], rowsT aa ac La ++ ([rl] ++ (rowsT sa sc Ls ++ Rb)), h3, ?_, b3 (by omega), by simpa [List.append_assoc] using ho, cc, fun L' W' hl ho' => ?_⟩
    · rw [← h3]; exact len_ok (ho.own (rowT ea ec Le) (by simp [rowsT]))
    · exact ⟨Ls, La, L', h1, h2, hl, fun h => by omega, fun h => by omega, fun h => by omega, by simpa [List.append_assoc] using ho'⟩
theorem TermsAt.done {w1 W : World} {Q M : Nat} {cq cb : Array Value} {N0 : Nat} {rl : RowF} {Rb : List RowF} {sa aa ea : Option Addr} {sc ac ec n1 n2 n3 j : Nat} (h : TermsAt w1 W Q M cq cb N0 rl Rb sa aa ea sc ac ec n1 n2 n3 j) : Ow 29 w1 W Q M cq cb (rl :: Rb) := by
  obtain ⟨Ls, La, Le, h1, h2, h3, b1, b2, b3, ho⟩ := h
  exact ho.sub sub_rest
theorem BT.of {L : List TrmH} {l : List Trm} (h : L.map (·.1) = l) (hl : ∀ t ∈ l, ∀ v ∈ t.vals, v.size ≤ reachBytes) : BT L := fun x hx => hl x.1 (by rw [← h]; exact List.mem_map.2 ⟨x, hx, rfl⟩)
/-- Those from the q-th on as they were. -/
def BTq (q : Nat) (L : List TrmH) : Prop := ∀ j, q ≤ j → ∀ x, L[j]? = some x → ∀ v ∈ x.1.vals, v.size ≤ reachBytes
theorem BT.q {L : List TrmH} (h : BT L) (q : Nat) : BTq q L := fun j _ x hx => h x (List.mem_of_getElem? hx)
theorem BTq.set {q : Nat} {L : List TrmH} (h : BTq q L) (y : TrmH) : BTq (q + 1) (L.set q y) := fun j hj x hx => by
  rw [List.getElem?_set_ne (by omega)] at hx
  exact h j (by omega) x hx
theorem BTq.set2 {q : Nat} {L : List TrmH} (h : BTq (q + 1) L) (y : TrmH) : BTq (q + 1) (L.set q y) := fun j hj x hx => by
  rw [List.getElem?_set_ne (by omega)] at hx
  exact h j hj x hx
theorem getElem_of {α : Type} {l : List α} {q : Nat} (h : q < l.length) (d : α) : l[q]? = some (l.getD q d) := by rw [List.getD_eq_getElem?_getD, List.getElem?_eq_getElem h]; rfl
theorem hlin {T : TypeId} {w1 W : World} {Q M : Nat} {ca cb : Array Value} {pre post X Z S : List RowF} {r : RowF} (h : Ow T w1 W Q M ca cb ((pre ++ X) ++ r :: (Z ++ post))) (e : S = X ++ r :: Z) : Ow T w1 W Q M ca cb (pre ++ (S ++ post)) := by
  rw [e]; simpa [List.append_assoc] using h

theorem NodeRows.ap {w : World} {N : Nat} {n : NodeD} {g : NodeH} (h : NodeRows w N n g) : (nodeRs n g).Pairwise Apart := by
  have hr := h.rows
  unfold nodeRs at *
  rw [List.pairwise_cons]
  refine ⟨fun s hs => ?_, by simp⟩
  rw [List.mem_singleton] at hs
  subst hs
  exact apart_ty (hr _ (by simp)) (hr _ (by simp)) (by simp [rowP])
/-- How long the texts of a pod and a node are that a copy's are lengthened of. -/
structure Texts (p : PodD) (n : NodeD) : Prop where
  labels : ∀ x ∈ p.labels, x.2.size ≤ reachBytes
  sel : ∀ t ∈ p.sel, ∀ v ∈ t.vals, v.size ≤ reachBytes
  anti : ∀ t ∈ p.anti, ∀ v ∈ t.vals, v.size ≤ reachBytes
  even : ∀ t ∈ p.even, ∀ v ∈ t.vals, v.size ≤ reachBytes
  nlabels : ∀ x ∈ n.labels, x.1.size ≤ reachBytes
  ntaints : ∀ x ∈ n.taints, x.2.size ≤ reachBytes
set_option maxRecDepth 100000 in
set_option maxHeartbeats 4000000 in
theorem objOwn_walk (p : PodD) (h : PodH) (n : NodeD) (g : NodeH) (w : World) (hp : PodIn w p h) (hc : PodC w p h) (hn : NodeIn w n g) (hz : NodeSz n) (ht : Texts p n) :
    Calls Try.prog 3 #[podV p h, nodeV n g] w fun e w' => e = .returned (.bool true) ∧ Below w.heap.size w w' := by
  have HB0 : Hid (Below w.heap.size w ((w.alloc (podBox p h)).alloc (nodeBox n g))) := ((Below.refl _ _).alloc (Nat.le_refl _) _).alloc (by simp) _
  have hcp := hp.at'
  have hcn : NodeAt w n g := hn.at'
  have hcl := hn.lc
  have hct := hn.tc
  go_enter Try.func3, Try.ntmps3
  go_wp2_with fail
  refine (begun_any _).mono ?_
  rintro e w1 ⟨rfl, hb1⟩
  have hA : ∀ o, w1.cell? ⟨w.heap.size, o, none⟩ = (podC p h)[o]? := fun o => (hb1.cell (p := ⟨w.heap.size, o, none⟩) (by simp <;> omega)).trans (by rw [cell_of_obj (heap_allocC w _ _)])
  have hB : ∀ o, w1.cell? ⟨w.heap.size + 1, o, none⟩ = (nodeC n g)[o]? := fun o => (hb1.cell (p := ⟨w.heap.size + 1, o, none⟩) (by simp)).trans (by rw [cell_of_obj (heap_allocD w _ _)])
  have hz1 : w.heap.size + 1 < w1.heap.size := by have := hb1.size; simp at this; omega
  have hbw1 : Below w.heap.size w w1 := HB0.out.trans (hb1.mono HB0.out.size)
  have hc1 : PodC w1 p h := hc.below hbw1
  have hcp1 := hcp.below hbw1
  have hn1 := hcn.below hbw1
  clear hb1 HB0 hc hcn hcp hn hp
  go_upto_region 4 with fail
  have hbd : Below w1.heap.size w1 w1.drew := (Below.refl _ _).drew
  have A1 : ∀ W : World, (Below w1.heap.size w1 W ∧ (∀ o, W.cell? ⟨w.heap.size, o, none⟩ = (podC p h)[o]?) ∧ (∀ o, W.cell? ⟨w.heap.size + 1, o, none⟩ = (nodeC n g)[o]?)) → Calls Try.prog 7 #[podV p h] W (fun e w' => ∃ k, e = .returned (podV p k) ∧ PodNew w' W.heap.size p k ∧ Below W.heap.size W w') := fun W hS => copyPod_any p h W (hc1.below hS.1)
  have HA1 := Lib.hid A1
  clear A1
  go_cut [6, 7] from 19 (fun v6 v7 W => ∃ Q M ka kb Ls La Le Lt Lb Lf, v6 = .pointer (some ⟨Q, 0, none⟩) ∧ v7 = .pointer (some ⟨M, 0, none⟩) ∧ Ow 29 w1 W Q M (podCs p ka) (podCs p kb) (podRows p ka Ls La Le ++ podRows p kb Lt Lb Lf) ∧ Ls.map (·.1) = p.sel ∧ La.map (·.1) = p.anti ∧ Le.map (·.1) = p.even ∧ Lt.map (·.1) = p.sel ∧ Lb.map (·.1) = p.anti ∧ Lf.map (·.1) = p.even)
  case first J K' hJ hK' =>
    as_aux_lemma =>
      refine wp_region_held_drew (S := fun W => Below w1.heap.size w1 W ∧ (∀ o, W.cell? ⟨w.heap.size, o, none⟩ = (podC p h)[o]?) ∧ (∀ o, W.cell? ⟨w.heap.size + 1, o, none⟩ = (nodeC n g)[o]?)) (by kernel_rfl) ⟨hbd, hA, hB⟩ (fun hHeld => ?_)
      have HM : Hid (Mid2 29 zeroCells w1 w1.drew none none none none) := Mid2.start hbd
      refine wpAnyH_take (i := 0) (v := podV p h) rfl (by kernel_rfl) (by kernel_rfl) (by kernel_rfl) (fun _ _ _ h => h) (Or.inl ⟨by rfl, ?_⟩) hHeld ?_
      · intro W hSw
        try dsimp only at hSw
        go_simp
      try simp only [Act.put, List.setIfInBounds_toArray, List.set_cons_zero, List.set_cons_succ]
      refine wpAnyH_take (i := 2) (v := podV p h) rfl (by kernel_rfl) (by kernel_rfl) (by kernel_rfl) (fun _ _ _ h => h) (Or.inl ⟨by rfl, ?_⟩) hHeld ?_
      · intro W hSw
        try dsimp only at hSw
        go_simp
      try simp only [Act.put, List.setIfInBounds_toArray, List.set_cons_zero, List.set_cons_succ]
      generalize hWz : w1.drew = wz at HM hHeld hbd ⊢
      clear hWz hbd
      refine wpAnyH_ready (rs := [1, 4, 5]) (by kernel_rfl) (by simp) ?_
      refine AllReadyH.cons rfl (fun K hK => ?_) ?_
      ·
        go_simp
        go_wp2_with (go_at_call 7; refine Calls.mono (HA1.out _ hHeld) ?_; rintro e wc ⟨k2, rfl, ⟨Ls, La, Le, e1, e2, e3, hr2, hp2⟩, hb2⟩)
        have HMn := Lib.hid (HM.out.addA hb2 hr2 hp2 (fun r h => (podRows_ty r h).1))
        have hSn := two_later hHeld hb2 (by omega) hz1
        clear hr2 hb2
        clear HM hHeld
        have HM := HMn
        clear HMn
        refine hK.out _ _ hSn (fun hHeld => ?_)
        clear hK K hSn
        try simp only [Act.put, List.setIfInBounds_toArray, List.set_cons_zero, List.set_cons_succ]
        refine wpAnyH_ready (rs := [3, 4, 5]) (by kernel_rfl) (by simp) ?_
        refine AllReadyH.cons rfl (fun K hK => ?_) ?_
        ·
          go_simp
          go_wp2_with (go_at_call 7; refine Calls.mono (HA1.out _ hHeld) ?_; rintro e wd ⟨k3, rfl, ⟨Lt, Lb, Lf, f1, f2, f3, hr2, hp2⟩, hb2⟩)
          have HMn := Lib.hid (HM.out.addB hb2 hr2 hp2 (fun r h => (podRows_ty r h).1))
          have hSn := two_later hHeld hb2 (by omega) hz1
          clear hr2 hb2
          clear HM hHeld
          have HM := HMn
          clear HMn
          refine hK.out _ _ hSn (fun hHeld => ?_)
          clear hK K hSn
          try simp only [Act.put, List.setIfInBounds_toArray, List.set_cons_zero, List.set_cons_succ]
          refine wpAnyH_ready (rs := [4, 5]) (by kernel_rfl) (by simp) ?_
          refine AllReadyH.cons rfl (fun K hK => ?_) ?_
          ·
            go_simp
            have HMn := Lib.hid HM.out.addQ
            have hSn := two_alloc hHeld (.cells zeroCells 29) (by omega) hz1
            generalize hWn : World.alloc wd (.cells zeroCells 29) = wq at HMn hSn ⊢
            clear hWn
            clear HM hHeld
            have HM := HMn
            clear HMn
            refine hK.out _ _ hSn (fun hHeld => ?_)
            clear hK K hSn
            try simp only [Act.put, List.setIfInBounds_toArray, List.set_cons_zero, List.set_cons_succ]
            refine wpAnyH_ready (rs := [5]) (by kernel_rfl) (by simp) ?_
            refine AllReadyH.cons rfl (fun K hK => ?_) ?_
            ·
              go_simp
              have HMn := Lib.hid HM.out.addM
              have hSn := two_alloc hHeld (.cells zeroCells 29) (by omega) hz1
              generalize hWn : World.alloc wq (.cells zeroCells 29) = wm at HMn hSn ⊢
              clear hWn
              clear HM hHeld
              have HM := HMn
              clear HMn
              refine hK.out _ _ hSn (fun hHeld => ?_)
              clear hK K hSn
              try simp only [Act.put, List.setIfInBounds_toArray, List.set_cons_zero, List.set_cons_succ]
              refine wpAnyH_ready (rs := [6]) (by kernel_rfl) (by simp) ?_
              refine AllReadyH.cons rfl (fun K hK => ?_) ?_
              ·
                refine step_store_row rfl 29 (.tmp 6) (.tmp 23) rfl rfl _ (podCs p k2) rfl rfl 29 zeroCells (HM.out.q _ rfl).2 (by kernel_rfl) rfl (by kernel_rfl) ?_
                have hSn := two_row hHeld _ (podCs p k2) (HM.out.q _ rfl).1 (by omega) hz1
                refine hK.out _ _ hSn (fun hHeld2 => ?_)
                clear hK K hSn hHeld
                refine wpAnyH_ready (rs := [7]) (by kernel_rfl) (by simp) ?_
                refine AllReadyH.cons rfl (fun K hK => ?_) ?_
                ·
                  refine step_store_row rfl 29 (.tmp 7) (.tmp 25) rfl rfl _ (podCs p k3) rfl rfl 29 zeroCells (HM.out.other rfl rfl _) (by kernel_rfl) rfl (by kernel_rfl) ?_
                  have hSn := two_row hHeld2 _ (podCs p k3) (HM.out.m _ rfl).1 (by omega) hz1
                  refine hK.out _ _ hSn (fun _ => ?_)
                  clear hK K hSn hHeld2
                  refine wpAnyH_done (by kernel_rfl) ?_ _
                  show K' _ _
                  refine hK' _ _ (Met.intro (hJ _ _ ?_))
                  (repeat apply Exists.intro)
                  refine ⟨?rel, rfl⟩
                  case rel => exact ⟨_, _, k2, k3, Ls, La, Le, Lt, Lb, Lf, rfl, rfl, HM.out.fin _ _, e1, e2, e3, f1, f2, f3⟩
                exact AllReadyH.nil
              exact AllReadyH.nil
            exact AllReadyH.nil
          refine AllReadyH.cons rfl (fun K hK => ?_) ?_
          ·
            go_simp
            have HMn := Lib.hid HM.out.addM
            have hSn := two_alloc hHeld (.cells zeroCells 29) (by omega) hz1
            generalize hWn : World.alloc wd (.cells zeroCells 29) = wm at HMn hSn ⊢
            clear hWn
            clear HM hHeld
            have HM := HMn
            clear HMn
            refine hK.out _ _ hSn (fun hHeld => ?_)
            clear hK K hSn
            try simp only [Act.put, List.setIfInBounds_toArray, List.set_cons_zero, List.set_cons_succ]
            refine wpAnyH_ready (rs := [4]) (by kernel_rfl) (by simp) ?_
            refine AllReadyH.cons rfl (fun K hK => ?_) ?_
            ·
              go_simp
              have HMn := Lib.hid HM.out.addQ
              have hSn := two_alloc hHeld (.cells zeroCells 29) (by omega) hz1
              generalize hWn : World.alloc wm (.cells zeroCells 29) = wq at HMn hSn ⊢
              clear hWn
              clear HM hHeld
              have HM := HMn
              clear HMn
              refine hK.out _ _ hSn (fun hHeld => ?_)
              clear hK K hSn
              try simp only [Act.put, List.setIfInBounds_toArray, List.set_cons_zero, List.set_cons_succ]
              refine wpAnyH_ready (rs := [6]) (by kernel_rfl) (by simp) ?_
              refine AllReadyH.cons rfl (fun K hK => ?_) ?_
              ·
                refine step_store_row rfl 29 (.tmp 6) (.tmp 23) rfl rfl _ (podCs p k2) rfl rfl 29 zeroCells (HM.out.q _ rfl).2 (by kernel_rfl) rfl (by kernel_rfl) ?_
                have hSn := two_row hHeld _ (podCs p k2) (HM.out.q _ rfl).1 (by omega) hz1
                refine hK.out _ _ hSn (fun hHeld2 => ?_)
                clear hK K hSn hHeld
                refine wpAnyH_ready (rs := [7]) (by kernel_rfl) (by simp) ?_
                refine AllReadyH.cons rfl (fun K hK => ?_) ?_
                ·
                  refine step_store_row rfl 29 (.tmp 7) (.tmp 25) rfl rfl _ (podCs p k3) rfl rfl 29 zeroCells (HM.out.other rfl rfl _) (by kernel_rfl) rfl (by kernel_rfl) ?_
                  have hSn := two_row hHeld2 _ (podCs p k3) (HM.out.m _ rfl).1 (by omega) hz1
                  refine hK.out _ _ hSn (fun _ => ?_)
                  clear hK K hSn hHeld2
                  refine wpAnyH_done (by kernel_rfl) ?_ _
                  show K' _ _
                  refine hK' _ _ (Met.intro (hJ _ _ ?_))
                  (repeat apply Exists.intro)
                  refine ⟨?rel, rfl⟩
                  case rel => exact ⟨_, _, k2, k3, Ls, La, Le, Lt, Lb, Lf, rfl, rfl, HM.out.fin _ _, e1, e2, e3, f1, f2, f3⟩
                exact AllReadyH.nil
              exact AllReadyH.nil
            exact AllReadyH.nil
          exact AllReadyH.nil
        refine AllReadyH.cons rfl (fun K hK => ?_) ?_
        ·
          go_simp
          have HMn := Lib.hid HM.out.addQ
          have hSn := two_alloc hHeld (.cells zeroCells 29) (by omega) hz1
          generalize hWn : World.alloc wc (.cells zeroCells 29) = wq at HMn hSn ⊢
          clear hWn
          clear HM hHeld
          have HM := HMn
          clear HMn
          refine hK.out _ _ hSn (fun hHeld => ?_)
          clear hK K hSn
          try simp only [Act.put, List.setIfInBounds_toArray, List.set_cons_zero, List.set_cons_succ]
          refine wpAnyH_ready (rs := [3, 5]) (by kernel_rfl) (by simp) ?_
          refine AllReadyH.cons rfl (fun K hK => ?_) ?_
          ·
            go_simp
            go_wp2_with (go_at_call 7; refine Calls.mono (HA1.out _ hHeld) ?_; rintro e wd ⟨k3, rfl, ⟨Lt, Lb, Lf, f1, f2, f3, hr2, hp2⟩, hb2⟩)
            have HMn := Lib.hid (HM.out.addB hb2 hr2 hp2 (fun r h => (podRows_ty r h).1))
            have hSn := two_later hHeld hb2 (by omega) hz1
            clear hr2 hb2
            clear HM hHeld
            have HM := HMn
            clear HMn
            refine hK.out _ _ hSn (fun hHeld => ?_)
            clear hK K hSn
            try simp only [Act.put, List.setIfInBounds_toArray, List.set_cons_zero, List.set_cons_succ]
            refine wpAnyH_ready (rs := [5]) (by kernel_rfl) (by simp) ?_
            refine AllReadyH.cons rfl (fun K hK => ?_) ?_
            ·
              go_simp
              have HMn := Lib.hid HM.out.addM
              have hSn := two_alloc hHeld (.cells zeroCells 29) (by omega) hz1
              generalize hWn : World.alloc wd (.cells zeroCells 29) = wm at HMn hSn ⊢
              clear hWn
              clear HM hHeld
              have HM := HMn
              clear HMn
              refine hK.out _ _ hSn (fun hHeld => ?_)
              clear hK K hSn
              try simp only [Act.put, List.setIfInBounds_toArray, List.set_cons_zero, List.set_cons_succ]
              refine wpAnyH_ready (rs := [6]) (by kernel_rfl) (by simp) ?_
              refine AllReadyH.cons rfl (fun K hK => ?_) ?_
              ·
                refine step_store_row rfl 29 (.tmp 6) (.tmp 23) rfl rfl _ (podCs p k2) rfl rfl 29 zeroCells (HM.out.q _ rfl).2 (by kernel_rfl) rfl (by kernel_rfl) ?_
                have hSn := two_row hHeld _ (podCs p k2) (HM.out.q _ rfl).1 (by omega) hz1
                refine hK.out _ _ hSn (fun hHeld2 => ?_)
                clear hK K hSn hHeld
                refine wpAnyH_ready (rs := [7]) (by kernel_rfl) (by simp) ?_
                refine AllReadyH.cons rfl (fun K hK => ?_) ?_
                ·
                  refine step_store_row rfl 29 (.tmp 7) (.tmp 25) rfl rfl _ (podCs p k3) rfl rfl 29 zeroCells (HM.out.other rfl rfl _) (by kernel_rfl) rfl (by kernel_rfl) ?_
                  have hSn := two_row hHeld2 _ (podCs p k3) (HM.out.m _ rfl).1 (by omega) hz1
                  refine hK.out _ _ hSn (fun _ => ?_)
                  clear hK K hSn hHeld2
                  refine wpAnyH_done (by kernel_rfl) ?_ _
                  show K' _ _
                  refine hK' _ _ (Met.intro (hJ _ _ ?_))
                  (repeat apply Exists.intro)
                  refine ⟨?rel, rfl⟩
                  case rel => exact ⟨_, _, k2, k3, Ls, La, Le, Lt, Lb, Lf, rfl, rfl, HM.out.fin _ _, e1, e2, e3, f1, f2, f3⟩
                exact AllReadyH.nil
              exact AllReadyH.nil
            exact AllReadyH.nil
          refine AllReadyH.cons rfl (fun K hK => ?_) ?_
          ·
            go_simp
            have HMn := Lib.hid HM.out.addM
            have hSn := two_alloc hHeld (.cells zeroCells 29) (by omega) hz1
            generalize hWn : World.alloc wq (.cells zeroCells 29) = wm at HMn hSn ⊢
            clear hWn
            clear HM hHeld
            have HM := HMn
            clear HMn
            refine hK.out _ _ hSn (fun hHeld => ?_)
            clear hK K hSn
            try simp only [Act.put, List.setIfInBounds_toArray, List.set_cons_zero, List.set_cons_succ]
            refine wpAnyH_ready (rs := [3]) (by kernel_rfl) (by simp) ?_
            refine AllReadyH.cons rfl (fun K hK => ?_) ?_
            ·
              go_simp
              go_wp2_with (go_at_call 7; refine Calls.mono (HA1.out _ hHeld) ?_; rintro e wd ⟨k3, rfl, ⟨Lt, Lb, Lf, f1, f2, f3, hr2, hp2⟩, hb2⟩)
              have HMn := Lib.hid (HM.out.addB hb2 hr2 hp2 (fun r h => (podRows_ty r h).1))
              have hSn := two_later hHeld hb2 (by omega) hz1
              clear hr2 hb2
              clear HM hHeld
              have HM := HMn
              clear HMn
              refine hK.out _ _ hSn (fun hHeld => ?_)
              clear hK K hSn
              try simp only [Act.put, List.setIfInBounds_toArray, List.set_cons_zero, List.set_cons_succ]
              refine wpAnyH_ready (rs := [6]) (by kernel_rfl) (by simp) ?_
              refine AllReadyH.cons rfl (fun K hK => ?_) ?_
              ·
                refine step_store_row rfl 29 (.tmp 6) (.tmp 23) rfl rfl _ (podCs p k2) rfl rfl 29 zeroCells (HM.out.q _ rfl).2 (by kernel_rfl) rfl (by kernel_rfl) ?_
                have hSn := two_row hHeld _ (podCs p k2) (HM.out.q _ rfl).1 (by omega) hz1
                refine hK.out _ _ hSn (fun hHeld2 => ?_)
                clear hK K hSn hHeld
                refine wpAnyH_ready (rs := [7]) (by kernel_rfl) (by simp) ?_
                refine AllReadyH.cons rfl (fun K hK => ?_) ?_
                ·
                  refine step_store_row rfl 29 (.tmp 7) (.tmp 25) rfl rfl _ (podCs p k3) rfl rfl 29 zeroCells (HM.out.other rfl rfl _) (by kernel_rfl) rfl (by kernel_rfl) ?_
                  have hSn := two_row hHeld2 _ (podCs p k3) (HM.out.m _ rfl).1 (by omega) hz1
                  refine hK.out _ _ hSn (fun _ => ?_)
                  clear hK K hSn hHeld2
                  refine wpAnyH_done (by kernel_rfl) ?_ _
                  show K' _ _
                  refine hK' _ _ (Met.intro (hJ _ _ ?_))
                  (repeat apply Exists.intro)
                  refine ⟨?rel, rfl⟩
                  case rel => exact ⟨_, _, k2, k3, Ls, La, Le, Lt, Lb, Lf, rfl, rfl, HM.out.fin _ _, e1, e2, e3, f1, f2, f3⟩
                exact AllReadyH.nil
              exact AllReadyH.nil
            exact AllReadyH.nil
          exact AllReadyH.nil
        refine AllReadyH.cons rfl (fun K hK => ?_) ?_
        ·
          go_simp
          have HMn := Lib.hid HM.out.addM
          have hSn := two_alloc hHeld (.cells zeroCells 29) (by omega) hz1
          generalize hWn : World.alloc wc (.cells zeroCells 29) = wm at HMn hSn ⊢
          clear hWn
          clear HM hHeld
          have HM := HMn
          clear HMn
          refine hK.out _ _ hSn (fun hHeld => ?_)
          clear hK K hSn
          try simp only [Act.put, List.setIfInBounds_toArray, List.set_cons_zero, List.set_cons_succ]
          refine wpAnyH_ready (rs := [3, 4]) (by kernel_rfl) (by simp) ?_
          refine AllReadyH.cons rfl (fun K hK => ?_) ?_
          ·
            go_simp
            go_wp2_with (go_at_call 7; refine Calls.mono (HA1.out _ hHeld) ?_; rintro e wd ⟨k3, rfl, ⟨Lt, Lb, Lf, f1, f2, f3, hr2, hp2⟩, hb2⟩)
            have HMn := Lib.hid (HM.out.addB hb2 hr2 hp2 (fun r h => (podRows_ty r h).1))
            have hSn := two_later hHeld hb2 (by omega) hz1
            clear hr2 hb2
            clear HM hHeld
            have HM := HMn
            clear HMn
            refine hK.out _ _ hSn (fun hHeld => ?_)
            clear hK K hSn
            try simp only [Act.put, List.setIfInBounds_toArray, List.set_cons_zero, List.set_cons_succ]
            refine wpAnyH_ready (rs := [4]) (by kernel_rfl) (by simp) ?_
            refine AllReadyH.cons rfl (fun K hK => ?_) ?_
            ·
              go_simp
              have HMn := Lib.hid HM.out.addQ
              have hSn := two_alloc hHeld (.cells zeroCells 29) (by omega) hz1
              generalize hWn : World.alloc wd (.cells zeroCells 29) = wq at HMn hSn ⊢
              clear hWn
              clear HM hHeld
              have HM := HMn
              clear HMn
              refine hK.out _ _ hSn (fun hHeld => ?_)
              clear hK K hSn
              try simp only [Act.put, List.setIfInBounds_toArray, List.set_cons_zero, List.set_cons_succ]
              refine wpAnyH_ready (rs := [6]) (by kernel_rfl) (by simp) ?_
              refine AllReadyH.cons rfl (fun K hK => ?_) ?_
              ·
                refine step_store_row rfl 29 (.tmp 6) (.tmp 23) rfl rfl _ (podCs p k2) rfl rfl 29 zeroCells (HM.out.q _ rfl).2 (by kernel_rfl) rfl (by kernel_rfl) ?_
                have hSn := two_row hHeld _ (podCs p k2) (HM.out.q _ rfl).1 (by omega) hz1
                refine hK.out _ _ hSn (fun hHeld2 => ?_)
                clear hK K hSn hHeld
                refine wpAnyH_ready (rs := [7]) (by kernel_rfl) (by simp) ?_
                refine AllReadyH.cons rfl (fun K hK => ?_) ?_
                ·
                  refine step_store_row rfl 29 (.tmp 7) (.tmp 25) rfl rfl _ (podCs p k3) rfl rfl 29 zeroCells (HM.out.other rfl rfl _) (by kernel_rfl) rfl (by kernel_rfl) ?_
                  have hSn := two_row hHeld2 _ (podCs p k3) (HM.out.m _ rfl).1 (by omega) hz1
                  refine hK.out _ _ hSn (fun _ => ?_)
                  clear hK K hSn hHeld2
                  refine wpAnyH_done (by kernel_rfl) ?_ _
                  show K' _ _
                  refine hK' _ _ (Met.intro (hJ _ _ ?_))
                  (repeat apply Exists.intro)
                  refine ⟨?rel, rfl⟩
                  case rel => exact ⟨_, _, k2, k3, Ls, La, Le, Lt, Lb, Lf, rfl, rfl, HM.out.fin _ _, e1, e2, e3, f1, f2, f3⟩
                exact AllReadyH.nil
              exact AllReadyH.nil
            exact AllReadyH.nil
          refine AllReadyH.cons rfl (fun K hK => ?_) ?_
          ·
            go_simp
            have HMn := Lib.hid HM.out.addQ
            have hSn := two_alloc hHeld (.cells zeroCells 29) (by omega) hz1
            generalize hWn : World.alloc wm (.cells zeroCells 29) = wq at HMn hSn ⊢
            clear hWn
            clear HM hHeld
            have HM := HMn
            clear HMn
            refine hK.out _ _ hSn (fun hHeld => ?_)
            clear hK K hSn
            try simp only [Act.put, List.setIfInBounds_toArray, List.set_cons_zero, List.set_cons_succ]
            refine wpAnyH_ready (rs := [3]) (by kernel_rfl) (by simp) ?_
            refine AllReadyH.cons rfl (fun K hK => ?_) ?_
            ·
              go_simp
              go_wp2_with (go_at_call 7; refine Calls.mono (HA1.out _ hHeld) ?_; rintro e wd ⟨k3, rfl, ⟨Lt, Lb, Lf, f1, f2, f3, hr2, hp2⟩, hb2⟩)
              have HMn := Lib.hid (HM.out.addB hb2 hr2 hp2 (fun r h => (podRows_ty r h).1))
              have hSn := two_later hHeld hb2 (by omega) hz1
              clear hr2 hb2
              clear HM hHeld
              have HM := HMn
              clear HMn
              refine hK.out _ _ hSn (fun hHeld => ?_)
              clear hK K hSn
              try simp only [Act.put, List.setIfInBounds_toArray, List.set_cons_zero, List.set_cons_succ]
              refine wpAnyH_ready (rs := [6]) (by kernel_rfl) (by simp) ?_
              refine AllReadyH.cons rfl (fun K hK => ?_) ?_
              ·
                refine step_store_row rfl 29 (.tmp 6) (.tmp 23) rfl rfl _ (podCs p k2) rfl rfl 29 zeroCells (HM.out.q _ rfl).2 (by kernel_rfl) rfl (by kernel_rfl) ?_
                have hSn := two_row hHeld _ (podCs p k2) (HM.out.q _ rfl).1 (by omega) hz1
                refine hK.out _ _ hSn (fun hHeld2 => ?_)
                clear hK K hSn hHeld
                refine wpAnyH_ready (rs := [7]) (by kernel_rfl) (by simp) ?_
                refine AllReadyH.cons rfl (fun K hK => ?_) ?_
                ·
                  refine step_store_row rfl 29 (.tmp 7) (.tmp 25) rfl rfl _ (podCs p k3) rfl rfl 29 zeroCells (HM.out.other rfl rfl _) (by kernel_rfl) rfl (by kernel_rfl) ?_
                  have hSn := two_row hHeld2 _ (podCs p k3) (HM.out.m _ rfl).1 (by omega) hz1
                  refine hK.out _ _ hSn (fun _ => ?_)
                  clear hK K hSn hHeld2
                  refine wpAnyH_done (by kernel_rfl) ?_ _
                  show K' _ _
                  refine hK' _ _ (Met.intro (hJ _ _ ?_))
                  (repeat apply Exists.intro)
                  refine ⟨?rel, rfl⟩
                  case rel => exact ⟨_, _, k2, k3, Ls, La, Le, Lt, Lb, Lf, rfl, rfl, HM.out.fin _ _, e1, e2, e3, f1, f2, f3⟩
                exact AllReadyH.nil
              exact AllReadyH.nil
            exact AllReadyH.nil
          exact AllReadyH.nil
        exact AllReadyH.nil
      refine AllReadyH.cons rfl (fun K hK => ?_) ?_
      ·
        go_simp
        have HMn := Lib.hid HM.out.addQ
        have hSn := two_alloc hHeld (.cells zeroCells 29) (by omega) hz1
        generalize hWn : World.alloc wz (.cells zeroCells 29) = wq at HMn hSn ⊢
        clear hWn
        clear HM hHeld
        have HM := HMn
        clear HMn
        refine hK.out _ _ hSn (fun hHeld => ?_)
        clear hK K hSn
        try simp only [Act.put, List.setIfInBounds_toArray, List.set_cons_zero, List.set_cons_succ]
        refine wpAnyH_ready (rs := [1, 5]) (by kernel_rfl) (by simp) ?_
        refine AllReadyH.cons rfl (fun K hK => ?_) ?_
        ·
          go_simp
          go_wp2_with (go_at_call 7; refine Calls.mono (HA1.out _ hHeld) ?_; rintro e wc ⟨k2, rfl, ⟨Ls, La, Le, e1, e2, e3, hr2, hp2⟩, hb2⟩)
          have HMn := Lib.hid (HM.out.addA hb2 hr2 hp2 (fun r h => (podRows_ty r h).1))
          have hSn := two_later hHeld hb2 (by omega) hz1
          clear hr2 hb2
          clear HM hHeld
          have HM := HMn
          clear HMn
          refine hK.out _ _ hSn (fun hHeld => ?_)
          clear hK K hSn
          try simp only [Act.put, List.setIfInBounds_toArray, List.set_cons_zero, List.set_cons_succ]
          refine wpAnyH_ready (rs := [3, 5]) (by kernel_rfl) (by simp) ?_
          refine AllReadyH.cons rfl (fun K hK => ?_) ?_
          ·
            go_simp
            go_wp2_with (go_at_call 7; refine Calls.mono (HA1.out _ hHeld) ?_; rintro e wd ⟨k3, rfl, ⟨Lt, Lb, Lf, f1, f2, f3, hr2, hp2⟩, hb2⟩)
            have HMn := Lib.hid (HM.out.addB hb2 hr2 hp2 (fun r h => (podRows_ty r h).1))
            have hSn := two_later hHeld hb2 (by omega) hz1
            clear hr2 hb2
            clear HM hHeld
            have HM := HMn
            clear HMn
            refine hK.out _ _ hSn (fun hHeld => ?_)
            clear hK K hSn
            try simp only [Act.put, List.setIfInBounds_toArray, List.set_cons_zero, List.set_cons_succ]
            refine wpAnyH_ready (rs := [5]) (by kernel_rfl) (by simp) ?_
            refine AllReadyH.cons rfl (fun K hK => ?_) ?_
            ·
              go_simp
              have HMn := Lib.hid HM.out.addM
              have hSn := two_alloc hHeld (.cells zeroCells 29) (by omega) hz1
              generalize hWn : World.alloc wd (.cells zeroCells 29) = wm at HMn hSn ⊢
              clear hWn
              clear HM hHeld
              have HM := HMn
              clear HMn
              refine hK.out _ _ hSn (fun hHeld => ?_)
              clear hK K hSn
              try simp only [Act.put, List.setIfInBounds_toArray, List.set_cons_zero, List.set_cons_succ]
              refine wpAnyH_ready (rs := [6]) (by kernel_rfl) (by simp) ?_
              refine AllReadyH.cons rfl (fun K hK => ?_) ?_
              ·
                refine step_store_row rfl 29 (.tmp 6) (.tmp 23) rfl rfl _ (podCs p k2) rfl rfl 29 zeroCells (HM.out.q _ rfl).2 (by kernel_rfl) rfl (by kernel_rfl) ?_
                have hSn := two_row hHeld _ (podCs p k2) (HM.out.q _ rfl).1 (by omega) hz1
                refine hK.out _ _ hSn (fun hHeld2 => ?_)
                clear hK K hSn hHeld
                refine wpAnyH_ready (rs := [7]) (by kernel_rfl) (by simp) ?_
                refine AllReadyH.cons rfl (fun K hK => ?_) ?_
                ·
                  refine step_store_row rfl 29 (.tmp 7) (.tmp 25) rfl rfl _ (podCs p k3) rfl rfl 29 zeroCells (HM.out.other rfl rfl _) (by kernel_rfl) rfl (by kernel_rfl) ?_
                  have hSn := two_row hHeld2 _ (podCs p k3) (HM.out.m _ rfl).1 (by omega) hz1
                  refine hK.out _ _ hSn (fun _ => ?_)
                  clear hK K hSn hHeld2
                  refine wpAnyH_done (by kernel_rfl) ?_ _
                  show K' _ _
                  refine hK' _ _ (Met.intro (hJ _ _ ?_))
                  (repeat apply Exists.intro)
                  refine ⟨?rel, rfl⟩
                  case rel => exact ⟨_, _, k2, k3, Ls, La, Le, Lt, Lb, Lf, rfl, rfl, HM.out.fin _ _, e1, e2, e3, f1, f2, f3⟩
                exact AllReadyH.nil
              exact AllReadyH.nil
            exact AllReadyH.nil
          refine AllReadyH.cons rfl (fun K hK => ?_) ?_
          ·
            go_simp
            have HMn := Lib.hid HM.out.addM
            have hSn := two_alloc hHeld (.cells zeroCells 29) (by omega) hz1
            generalize hWn : World.alloc wc (.cells zeroCells 29) = wm at HMn hSn ⊢
            clear hWn
            clear HM hHeld
            have HM := HMn
            clear HMn
            refine hK.out _ _ hSn (fun hHeld => ?_)
            clear hK K hSn
            try simp only [Act.put, List.setIfInBounds_toArray, List.set_cons_zero, List.set_cons_succ]
            refine wpAnyH_ready (rs := [3]) (by kernel_rfl) (by simp) ?_
            refine AllReadyH.cons rfl (fun K hK => ?_) ?_
            ·
              go_simp
              go_wp2_with (go_at_call 7; refine Calls.mono (HA1.out _ hHeld) ?_; rintro e wd ⟨k3, rfl, ⟨Lt, Lb, Lf, f1, f2, f3, hr2, hp2⟩, hb2⟩)
              have HMn := Lib.hid (HM.out.addB hb2 hr2 hp2 (fun r h => (podRows_ty r h).1))
              have hSn := two_later hHeld hb2 (by omega) hz1
              clear hr2 hb2
              clear HM hHeld
              have HM := HMn
              clear HMn
              refine hK.out _ _ hSn (fun hHeld => ?_)
              clear hK K hSn
              try simp only [Act.put, List.setIfInBounds_toArray, List.set_cons_zero, List.set_cons_succ]
              refine wpAnyH_ready (rs := [6]) (by kernel_rfl) (by simp) ?_
              refine AllReadyH.cons rfl (fun K hK => ?_) ?_
              ·
                refine step_store_row rfl 29 (.tmp 6) (.tmp 23) rfl rfl _ (podCs p k2) rfl rfl 29 zeroCells (HM.out.q _ rfl).2 (by kernel_rfl) rfl (by kernel_rfl) ?_
                have hSn := two_row hHeld _ (podCs p k2) (HM.out.q _ rfl).1 (by omega) hz1
                refine hK.out _ _ hSn (fun hHeld2 => ?_)
                clear hK K hSn hHeld
                refine wpAnyH_ready (rs := [7]) (by kernel_rfl) (by simp) ?_
                refine AllReadyH.cons rfl (fun K hK => ?_) ?_
                ·
                  refine step_store_row rfl 29 (.tmp 7) (.tmp 25) rfl rfl _ (podCs p k3) rfl rfl 29 zeroCells (HM.out.other rfl rfl _) (by kernel_rfl) rfl (by kernel_rfl) ?_
                  have hSn := two_row hHeld2 _ (podCs p k3) (HM.out.m _ rfl).1 (by omega) hz1
                  refine hK.out _ _ hSn (fun _ => ?_)
                  clear hK K hSn hHeld2
                  refine wpAnyH_done (by kernel_rfl) ?_ _
                  show K' _ _
                  refine hK' _ _ (Met.intro (hJ _ _ ?_))
                  (repeat apply Exists.intro)
                  refine ⟨?rel, rfl⟩
                  case rel => exact ⟨_, _, k2, k3, Ls, La, Le, Lt, Lb, Lf, rfl, rfl, HM.out.fin _ _, e1, e2, e3, f1, f2, f3⟩
                exact AllReadyH.nil
              exact AllReadyH.nil
            exact AllReadyH.nil
          exact AllReadyH.nil
        refine AllReadyH.cons rfl (fun K hK => ?_) ?_
        ·
          go_simp
          have HMn := Lib.hid HM.out.addM
          have hSn := two_alloc hHeld (.cells zeroCells 29) (by omega) hz1
          generalize hWn : World.alloc wq (.cells zeroCells 29) = wm at HMn hSn ⊢
          clear hWn
          clear HM hHeld
          have HM := HMn
          clear HMn
          refine hK.out _ _ hSn (fun hHeld => ?_)
          clear hK K hSn
          try simp only [Act.put, List.setIfInBounds_toArray, List.set_cons_zero, List.set_cons_succ]
          refine wpAnyH_ready (rs := [1]) (by kernel_rfl) (by simp) ?_
          refine AllReadyH.cons rfl (fun K hK => ?_) ?_
          ·
            go_simp
            go_wp2_with (go_at_call 7; refine Calls.mono (HA1.out _ hHeld) ?_; rintro e wc ⟨k2, rfl, ⟨Ls, La, Le, e1, e2, e3, hr2, hp2⟩, hb2⟩)
            have HMn := Lib.hid (HM.out.addA hb2 hr2 hp2 (fun r h => (podRows_ty r h).1))
            have hSn := two_later hHeld hb2 (by omega) hz1
            clear hr2 hb2
            clear HM hHeld
            have HM := HMn
            clear HMn
            refine hK.out _ _ hSn (fun hHeld => ?_)
            clear hK K hSn
            try simp only [Act.put, List.setIfInBounds_toArray, List.set_cons_zero, List.set_cons_succ]
            refine wpAnyH_ready (rs := [3]) (by kernel_rfl) (by simp) ?_
            refine AllReadyH.cons rfl (fun K hK => ?_) ?_
            ·
              go_simp
              go_wp2_with (go_at_call 7; refine Calls.mono (HA1.out _ hHeld) ?_; rintro e wd ⟨k3, rfl, ⟨Lt, Lb, Lf, f1, f2, f3, hr2, hp2⟩, hb2⟩)
              have HMn := Lib.hid (HM.out.addB hb2 hr2 hp2 (fun r h => (podRows_ty r h).1))
              have hSn := two_later hHeld hb2 (by omega) hz1
              clear hr2 hb2
              clear HM hHeld
              have HM := HMn
              clear HMn
              refine hK.out _ _ hSn (fun hHeld => ?_)
              clear hK K hSn
              try simp only [Act.put, List.setIfInBounds_toArray, List.set_cons_zero, List.set_cons_succ]
              refine wpAnyH_ready (rs := [6]) (by kernel_rfl) (by simp) ?_
              refine AllReadyH.cons rfl (fun K hK => ?_) ?_
              ·
                refine step_store_row rfl 29 (.tmp 6) (.tmp 23) rfl rfl _ (podCs p k2) rfl rfl 29 zeroCells (HM.out.q _ rfl).2 (by kernel_rfl) rfl (by kernel_rfl) ?_
                have hSn := two_row hHeld _ (podCs p k2) (HM.out.q _ rfl).1 (by omega) hz1
                refine hK.out _ _ hSn (fun hHeld2 => ?_)
                clear hK K hSn hHeld
                refine wpAnyH_ready (rs := [7]) (by kernel_rfl) (by simp) ?_
                refine AllReadyH.cons rfl (fun K hK => ?_) ?_
                ·
                  refine step_store_row rfl 29 (.tmp 7) (.tmp 25) rfl rfl _ (podCs p k3) rfl rfl 29 zeroCells (HM.out.other rfl rfl _) (by kernel_rfl) rfl (by kernel_rfl) ?_
                  have hSn := two_row hHeld2 _ (podCs p k3) (HM.out.m _ rfl).1 (by omega) hz1
                  refine hK.out _ _ hSn (fun _ => ?_)
                  clear hK K hSn hHeld2
                  refine wpAnyH_done (by kernel_rfl) ?_ _
                  show K' _ _
                  refine hK' _ _ (Met.intro (hJ _ _ ?_))
                  (repeat apply Exists.intro)
                  refine ⟨?rel, rfl⟩
                  case rel => exact ⟨_, _, k2, k3, Ls, La, Le, Lt, Lb, Lf, rfl, rfl, HM.out.fin _ _, e1, e2, e3, f1, f2, f3⟩
                exact AllReadyH.nil
              exact AllReadyH.nil
            exact AllReadyH.nil
          exact AllReadyH.nil
        exact AllReadyH.nil
      refine AllReadyH.cons rfl (fun K hK => ?_) ?_
      ·
        go_simp
        have HMn := Lib.hid HM.out.addM
        have hSn := two_alloc hHeld (.cells zeroCells 29) (by omega) hz1
        generalize hWn : World.alloc wz (.cells zeroCells 29) = wm at HMn hSn ⊢
        clear hWn
        clear HM hHeld
        have HM := HMn
        clear HMn
        refine hK.out _ _ hSn (fun hHeld => ?_)
        clear hK K hSn
        try simp only [Act.put, List.setIfInBounds_toArray, List.set_cons_zero, List.set_cons_succ]
        refine wpAnyH_ready (rs := [1, 4]) (by kernel_rfl) (by simp) ?_
        refine AllReadyH.cons rfl (fun K hK => ?_) ?_
        ·
          go_simp
          go_wp2_with (go_at_call 7; refine Calls.mono (HA1.out _ hHeld) ?_; rintro e wc ⟨k2, rfl, ⟨Ls, La, Le, e1, e2, e3, hr2, hp2⟩, hb2⟩)
          have HMn := Lib.hid (HM.out.addA hb2 hr2 hp2 (fun r h => (podRows_ty r h).1))
          have hSn := two_later hHeld hb2 (by omega) hz1
          clear hr2 hb2
          clear HM hHeld
          have HM := HMn
          clear HMn
          refine hK.out _ _ hSn (fun hHeld => ?_)
          clear hK K hSn
          try simp only [Act.put, List.setIfInBounds_toArray, List.set_cons_zero, List.set_cons_succ]
          refine wpAnyH_ready (rs := [3, 4]) (by kernel_rfl) (by simp) ?_
          refine AllReadyH.cons rfl (fun K hK => ?_) ?_
          ·
            go_simp
            go_wp2_with (go_at_call 7; refine Calls.mono (HA1.out _ hHeld) ?_; rintro e wd ⟨k3, rfl, ⟨Lt, Lb, Lf, f1, f2, f3, hr2, hp2⟩, hb2⟩)
            have HMn := Lib.hid (HM.out.addB hb2 hr2 hp2 (fun r h => (podRows_ty r h).1))
            have hSn := two_later hHeld hb2 (by omega) hz1
            clear hr2 hb2
            clear HM hHeld
            have HM := HMn
            clear HMn
            refine hK.out _ _ hSn (fun hHeld => ?_)
            clear hK K hSn
            try simp only [Act.put, List.setIfInBounds_toArray, List.set_cons_zero, List.set_cons_succ]
            refine wpAnyH_ready (rs := [4]) (by kernel_rfl) (by simp) ?_
            refine AllReadyH.cons rfl (fun K hK => ?_) ?_
            ·
              go_simp
              have HMn := Lib.hid HM.out.addQ
              have hSn := two_alloc hHeld (.cells zeroCells 29) (by omega) hz1
              generalize hWn : World.alloc wd (.cells zeroCells 29) = wq at HMn hSn ⊢
              clear hWn
              clear HM hHeld
              have HM := HMn
              clear HMn
              refine hK.out _ _ hSn (fun hHeld => ?_)
              clear hK K hSn
              try simp only [Act.put, List.setIfInBounds_toArray, List.set_cons_zero, List.set_cons_succ]
              refine wpAnyH_ready (rs := [6]) (by kernel_rfl) (by simp) ?_
              refine AllReadyH.cons rfl (fun K hK => ?_) ?_
              ·
                refine step_store_row rfl 29 (.tmp 6) (.tmp 23) rfl rfl _ (podCs p k2) rfl rfl 29 zeroCells (HM.out.q _ rfl).2 (by kernel_rfl) rfl (by kernel_rfl) ?_
                have hSn := two_row hHeld _ (podCs p k2) (HM.out.q _ rfl).1 (by omega) hz1
                refine hK.out _ _ hSn (fun hHeld2 => ?_)
                clear hK K hSn hHeld
                refine wpAnyH_ready (rs := [7]) (by kernel_rfl) (by simp) ?_
                refine AllReadyH.cons rfl (fun K hK => ?_) ?_
                ·
                  refine step_store_row rfl 29 (.tmp 7) (.tmp 25) rfl rfl _ (podCs p k3) rfl rfl 29 zeroCells (HM.out.other rfl rfl _) (by kernel_rfl) rfl (by kernel_rfl) ?_
                  have hSn := two_row hHeld2 _ (podCs p k3) (HM.out.m _ rfl).1 (by omega) hz1
                  refine hK.out _ _ hSn (fun _ => ?_)
                  clear hK K hSn hHeld2
                  refine wpAnyH_done (by kernel_rfl) ?_ _
                  show K' _ _
                  refine hK' _ _ (Met.intro (hJ _ _ ?_))
                  (repeat apply Exists.intro)
                  refine ⟨?rel, rfl⟩
                  case rel => exact ⟨_, _, k2, k3, Ls, La, Le, Lt, Lb, Lf, rfl, rfl, HM.out.fin _ _, e1, e2, e3, f1, f2, f3⟩
                exact AllReadyH.nil
              exact AllReadyH.nil
            exact AllReadyH.nil
          refine AllReadyH.cons rfl (fun K hK => ?_) ?_
          ·
            go_simp
            have HMn := Lib.hid HM.out.addQ
            have hSn := two_alloc hHeld (.cells zeroCells 29) (by omega) hz1
            generalize hWn : World.alloc wc (.cells zeroCells 29) = wq at HMn hSn ⊢
            clear hWn
            clear HM hHeld
            have HM := HMn
            clear HMn
            refine hK.out _ _ hSn (fun hHeld => ?_)
            clear hK K hSn
            try simp only [Act.put, List.setIfInBounds_toArray, List.set_cons_zero, List.set_cons_succ]
            refine wpAnyH_ready (rs := [3]) (by kernel_rfl) (by simp) ?_
            refine AllReadyH.cons rfl (fun K hK => ?_) ?_
            ·
              go_simp
              go_wp2_with (go_at_call 7; refine Calls.mono (HA1.out _ hHeld) ?_; rintro e wd ⟨k3, rfl, ⟨Lt, Lb, Lf, f1, f2, f3, hr2, hp2⟩, hb2⟩)
              have HMn := Lib.hid (HM.out.addB hb2 hr2 hp2 (fun r h => (podRows_ty r h).1))
              have hSn := two_later hHeld hb2 (by omega) hz1
              clear hr2 hb2
              clear HM hHeld
              have HM := HMn
              clear HMn
              refine hK.out _ _ hSn (fun hHeld => ?_)
              clear hK K hSn
              try simp only [Act.put, List.setIfInBounds_toArray, List.set_cons_zero, List.set_cons_succ]
              refine wpAnyH_ready (rs := [6]) (by kernel_rfl) (by simp) ?_
              refine AllReadyH.cons rfl (fun K hK => ?_) ?_
              ·
                refine step_store_row rfl 29 (.tmp 6) (.tmp 23) rfl rfl _ (podCs p k2) rfl rfl 29 zeroCells (HM.out.q _ rfl).2 (by kernel_rfl) rfl (by kernel_rfl) ?_
                have hSn := two_row hHeld _ (podCs p k2) (HM.out.q _ rfl).1 (by omega) hz1
                refine hK.out _ _ hSn (fun hHeld2 => ?_)
                clear hK K hSn hHeld
                refine wpAnyH_ready (rs := [7]) (by kernel_rfl) (by simp) ?_
                refine AllReadyH.cons rfl (fun K hK => ?_) ?_
                ·
                  refine step_store_row rfl 29 (.tmp 7) (.tmp 25) rfl rfl _ (podCs p k3) rfl rfl 29 zeroCells (HM.out.other rfl rfl _) (by kernel_rfl) rfl (by kernel_rfl) ?_
                  have hSn := two_row hHeld2 _ (podCs p k3) (HM.out.m _ rfl).1 (by omega) hz1
                  refine hK.out _ _ hSn (fun _ => ?_)
                  clear hK K hSn hHeld2
                  refine wpAnyH_done (by kernel_rfl) ?_ _
                  show K' _ _
                  refine hK' _ _ (Met.intro (hJ _ _ ?_))
                  (repeat apply Exists.intro)
                  refine ⟨?rel, rfl⟩
                  case rel => exact ⟨_, _, k2, k3, Ls, La, Le, Lt, Lb, Lf, rfl, rfl, HM.out.fin _ _, e1, e2, e3, f1, f2, f3⟩
                exact AllReadyH.nil
              exact AllReadyH.nil
            exact AllReadyH.nil
          exact AllReadyH.nil
        refine AllReadyH.cons rfl (fun K hK => ?_) ?_
        ·
          go_simp
          have HMn := Lib.hid HM.out.addQ
          have hSn := two_alloc hHeld (.cells zeroCells 29) (by omega) hz1
          generalize hWn : World.alloc wm (.cells zeroCells 29) = wq at HMn hSn ⊢
          clear hWn
          clear HM hHeld
          have HM := HMn
          clear HMn
          refine hK.out _ _ hSn (fun hHeld => ?_)
          clear hK K hSn
          try simp only [Act.put, List.setIfInBounds_toArray, List.set_cons_zero, List.set_cons_succ]
          refine wpAnyH_ready (rs := [1]) (by kernel_rfl) (by simp) ?_
          refine AllReadyH.cons rfl (fun K hK => ?_) ?_
          ·
            go_simp
            go_wp2_with (go_at_call 7; refine Calls.mono (HA1.out _ hHeld) ?_; rintro e wc ⟨k2, rfl, ⟨Ls, La, Le, e1, e2, e3, hr2, hp2⟩, hb2⟩)
            have HMn := Lib.hid (HM.out.addA hb2 hr2 hp2 (fun r h => (podRows_ty r h).1))
            have hSn := two_later hHeld hb2 (by omega) hz1
            clear hr2 hb2
            clear HM hHeld
            have HM := HMn
            clear HMn
            refine hK.out _ _ hSn (fun hHeld => ?_)
            clear hK K hSn
            try simp only [Act.put, List.setIfInBounds_toArray, List.set_cons_zero, List.set_cons_succ]
            refine wpAnyH_ready (rs := [3]) (by kernel_rfl) (by simp) ?_
            refine AllReadyH.cons rfl (fun K hK => ?_) ?_
            ·
              go_simp
              go_wp2_with (go_at_call 7; refine Calls.mono (HA1.out _ hHeld) ?_; rintro e wd ⟨k3, rfl, ⟨Lt, Lb, Lf, f1, f2, f3, hr2, hp2⟩, hb2⟩)
              have HMn := Lib.hid (HM.out.addB hb2 hr2 hp2 (fun r h => (podRows_ty r h).1))
              have hSn := two_later hHeld hb2 (by omega) hz1
              clear hr2 hb2
              clear HM hHeld
              have HM := HMn
              clear HMn
              refine hK.out _ _ hSn (fun hHeld => ?_)
              clear hK K hSn
              try simp only [Act.put, List.setIfInBounds_toArray, List.set_cons_zero, List.set_cons_succ]
              refine wpAnyH_ready (rs := [6]) (by kernel_rfl) (by simp) ?_
              refine AllReadyH.cons rfl (fun K hK => ?_) ?_
              ·
                refine step_store_row rfl 29 (.tmp 6) (.tmp 23) rfl rfl _ (podCs p k2) rfl rfl 29 zeroCells (HM.out.q _ rfl).2 (by kernel_rfl) rfl (by kernel_rfl) ?_
                have hSn := two_row hHeld _ (podCs p k2) (HM.out.q _ rfl).1 (by omega) hz1
                refine hK.out _ _ hSn (fun hHeld2 => ?_)
                clear hK K hSn hHeld
                refine wpAnyH_ready (rs := [7]) (by kernel_rfl) (by simp) ?_
                refine AllReadyH.cons rfl (fun K hK => ?_) ?_
                ·
                  refine step_store_row rfl 29 (.tmp 7) (.tmp 25) rfl rfl _ (podCs p k3) rfl rfl 29 zeroCells (HM.out.other rfl rfl _) (by kernel_rfl) rfl (by kernel_rfl) ?_
                  have hSn := two_row hHeld2 _ (podCs p k3) (HM.out.m _ rfl).1 (by omega) hz1
                  refine hK.out _ _ hSn (fun _ => ?_)
                  clear hK K hSn hHeld2
                  refine wpAnyH_done (by kernel_rfl) ?_ _
                  show K' _ _
                  refine hK' _ _ (Met.intro (hJ _ _ ?_))
                  (repeat apply Exists.intro)
                  refine ⟨?rel, rfl⟩
                  case rel => exact ⟨_, _, k2, k3, Ls, La, Le, Lt, Lb, Lf, rfl, rfl, HM.out.fin _ _, e1, e2, e3, f1, f2, f3⟩
                exact AllReadyH.nil
              exact AllReadyH.nil
            exact AllReadyH.nil
          exact AllReadyH.nil
        exact AllReadyH.nil
      exact AllReadyH.nil
  case rest =>
    obtain ⟨Q, M, ⟨pa, pc, la, lc, sa, sc, ta, tc, aa, ac, ea, ec⟩, kb, Ls, La, Le, Lt, Lb, Lf, rfl, rfl, hO, e1, e2, e3, f1, f2, f3⟩ := hcut
    obtain ⟨Rb, hRb⟩ : ∃ x, podRows p kb Lt Lb Lf = x := ⟨_, rfl⟩
    obtain ⟨cb, hcb⟩ : ∃ x, podCs p kb = x := ⟨_, rfl⟩
    rw [hRb, hcb] at hO
    clear HA1 hbd
    obtain ⟨D1, hD1⟩ : ∃ x, rowsT ea ec Le ++ (rowsT aa ac La ++ ([rowL ta tc p.tols] ++ (rowsT sa sc Ls ++ [rowP 36 la lc p.labels]))) = x := ⟨_, rfl⟩
    have hO2 : Ow 29 w1 wc Q M (podCs p ⟨pa, pc, la, lc, sa, sc, ta, tc, aa, ac, ea, ec⟩) cb (D1 ++ rowI pa pc p.ports :: Rb) := by
      rw [← hD1]; simpa [podRows] using hO
    have HO := Lib.hid hO2
    clear hO hO2
    go_step
    go_step
    go_cut [] from 19 (fun W => Hid (Ow 29 w1 W Q M (podCs p ⟨pa, pc, la, lc, sa, sc, ta, tc, aa, ac, ea, ec⟩) cb (D1 ++ Rb)))
    case first J K' hJ hK' =>
     as_aux_lemma =>
      have cQ := fun o => cell_of_obj HO.out.q o
      have n63 := Nat.le_trans hc1.ports.2.1.1 hc1.ports.2.1.2.1
      unfold maxLen at n63
      go_wp2_with fail
      clear cQ
      go_loopw [29] (fun i W => ∃ q : Nat, q ≤ p.ports.length ∧ i = .int .i64 q ∧ ∃ l : List Int, l.length = p.ports.length ∧ Hid (Ow 29 w1 W Q M (podCs p ⟨pa, pc, la, lc, sa, sc, ta, tc, aa, ac, ea, ec⟩) cb (D1 ++ rowI pa pc l :: Rb))) (fun i _ => p.ports.length - (intOf i).toNat)
      case atStart => exact ⟨0, Nat.zero_le _, rfl, p.ports, rfl, HO⟩
      case round =>
        clear HO
        obtain ⟨q, hq, rfl, l, hl, HO⟩ := hrel
        by_cases hlq : q < p.ports.length
        · obtain ⟨g1, rfl, hg, cc, fz⟩ := HO.out.cellI (q := q) (by omega)
          have cQ := fun o => cell_of_obj HO.out.q o
          have hst := Lib.hid (fun y => HO.out.setI hg (q := q) (by omega) y)
          clear HO hg
          generalize l.getD q 0 = u at cc
          go_wp2
          go_roundw
          case rel => exact ⟨q + 1, by omega, by go_num, _, by rw [List.length_set]; exact hl, hst.out _⟩
          case measure => simp [intOf]; omega
        · go_wp2
          go_meet
          case rel => exact HO.out.drop
    case rest =>
      obtain ⟨D2, hD2⟩ : ∃ x, rowsT ea ec Le ++ (rowsT aa ac La ++ ([rowL ta tc p.tols] ++ rowsT sa sc Ls)) = x := ⟨_, rfl⟩
      have hO2 : Ow 29 w1 wc Q M (podCs p ⟨pa, pc, la, lc, sa, sc, ta, tc, aa, ac, ea, ec⟩) cb (D2 ++ rowP 36 la lc p.labels :: Rb) := by
        have hx := hcut.out
        rw [← hD1] at hx
        rw [← hD2]; simpa using hx
      clear HO hcut hD1
      have HO := Lib.hid hO2
      clear hO2
      go_step
      go_step
      go_cut [] from 19 (fun W => Hid (Ow 29 w1 W Q M (podCs p ⟨pa, pc, la, lc, sa, sc, ta, tc, aa, ac, ea, ec⟩) cb (D2 ++ Rb)))
      case first J K' hJ hK' =>
       as_aux_lemma =>
        have cQ := fun o => cell_of_obj HO.out.q o
        have n63 := Nat.le_trans hc1.labels.2.1.1 hc1.labels.2.1.2.1
        unfold maxLen at n63
        have hr : reachBytes ≤ 140737488351232 := by decide
        go_wp2_with fail
        clear cQ
        go_loopw [43] (fun i W => ∃ q : Nat, q ≤ p.labels.length ∧ i = .int .i64 q ∧ ∃ l : List Str2, l.length = p.labels.length ∧ Hid (∀ j, q ≤ j → j < l.length → (l.getD j (⟨#[]⟩, ⟨#[]⟩)).2.size ≤ reachBytes) ∧ Hid (Ow 29 w1 W Q M (podCs p ⟨pa, pc, la, lc, sa, sc, ta, tc, aa, ac, ea, ec⟩) cb (D2 ++ rowP 36 la lc l :: Rb))) (fun i _ => p.labels.length - (intOf i).toNat)
        case atStart => exact ⟨0, Nat.zero_le _, rfl, p.labels, rfl, fun j _ hj => ht.labels _ (getD_mem hj), HO⟩
        case round =>
          clear HO
          obtain ⟨q, hq, rfl, l, hl, HS, HO⟩ := hrel
          by_cases hlq : q < p.labels.length
          · obtain ⟨g1, rfl, hg, _, cc, fz⟩ := HO.out.cellP (q := q) (by omega)
            have cQ := fun o => cell_of_obj HO.out.q o
            have hst := Lib.hid (fun y => HO.out.setP1 hg (q := q) (by omega) y)
            have hsz := HS.out q (Nat.le_refl _) (by omega)
            have HS2 : Hid (∀ y, ∀ j, q + 1 ≤ j → j < (l.set q y).length → ((l.set q y).getD j (⟨#[]⟩, ⟨#[]⟩)).2.size ≤ reachBytes) := fun y j h1 h2 => by
              rw [getD_set_ne (by omega)]; exact HS.out j (by omega) (by rw [List.length_set] at h2; exact h2)
            clear HO hg HS
            generalize l.getD q (⟨#[]⟩, ⟨#[]⟩) = u at *
            obtain ⟨u1, u2⟩ := u
            have hcat : ¬ 9223372036854775807 < u2.size + 1 := by
              have hsz : u2.size ≤ reachBytes := hsz
              omega
            go_wp2
            go_roundw
            case rel => exact ⟨q + 1, by omega, by go_num, _, by rw [List.length_set]; exact hl, HS2.out _, hst.out _⟩
            case measure => simp [intOf]; omega
          · go_wp2
            go_meet
            case rel => exact HO.out.drop
      case rest =>
        have hO2 := hcut.out
        rw [← hD2] at hO2
        clear HO hcut
        have HN := Lib.hid (hO2.newN (.slice sa p.sel.length sc) (.slice aa p.anti.length ac) (.slice ea p.even.length ec) (by decide))
        have HO := Lib.hid hO2
        have l1 : Ls.length = p.sel.length := by rw [← e1, List.length_map]
        have l2 : La.length = p.anti.length := by rw [← e2, List.length_map]
        have l3 : Le.length = p.even.length := by rw [← e3, List.length_map]
        have HT0 : Hid (TermsAt w1 (wc.alloc (.cells #[.slice sa p.sel.length sc, .slice aa p.anti.length ac, .slice ea p.even.length ec] 26)) Q M (podCs p ⟨pa, pc, la, lc, sa, sc, ta, tc, aa, ac, ea, ec⟩) cb wc.heap.size (rowL ta tc p.tols) Rb sa aa ea sc ac ec p.sel.length p.anti.length p.even.length 0) :=
          ⟨Ls, La, Le, l1, l2, l3, fun _ => BT.of e1 ht.sel, fun _ => BT.of e2 ht.anti, fun _ => BT.of e3 ht.even, HN.out⟩
        clear hO2 hD2 HN l1 l2 l3
        go_step
        go_step
        go_cut [] from 19 (fun W => Hid (Ow 29 w1 W Q M (podCs p ⟨pa, pc, la, lc, sa, sc, ta, tc, aa, ac, ea, ec⟩) cb (rowL ta tc p.tols :: Rb)))
        case first J K' hJ hK' =>
         as_aux_lemma =>
          have cQ := fun o => cell_of_obj HO.out.q o
          clear HO
          go_wp2_with fail
          clear cQ
          generalize wc.heap.size = N0 at HT0 ⊢
          go_loopw [64] (fun i W => ∃ j : Nat, j ≤ 3 ∧ i = .int .i64 j ∧ Hid (TermsAt w1 W Q M (podCs p ⟨pa, pc, la, lc, sa, sc, ta, tc, aa, ac, ea, ec⟩) cb N0 (rowL ta tc p.tols) Rb sa aa ea sc ac ec p.sel.length p.anti.length p.even.length j)) (fun i _ => 3 - (intOf i).toNat)
          case atStart => exact ⟨0, by omega, rfl, HT0⟩
          case round =>
            clear HT0
            obtain ⟨j, hj, rfl, HT⟩ := hrel
            by_cases hj3 : j < 3
            · obtain ⟨a, c, len, L, pre, post, hlen, n63, hBT, hO, cN, hnext⟩ := HT.out.open hj3
              unfold maxLen at n63
              have HO := Lib.hid hO
              have HX := Lib.hid hnext
              have HB := Lib.hid (hBT.q 0)
              clear hO hnext HT hBT
              go_wp2_with fail
              clear cN
              go_loopw [70] (fun i W => ∃ q : Nat, q ≤ len ∧ i = .int .i64 q ∧ ∃ L' : List TrmH, L'.length = len ∧ Hid (BTq q L') ∧ Hid (Ow 29 w1 W Q M (podCs p ⟨pa, pc, la, lc, sa, sc, ta, tc, aa, ac, ea, ec⟩) cb (pre ++ (rowsT a c L' ++ post)))) (fun i _ => len - (intOf i).toNat)
              case atStart => exact ⟨0, Nat.zero_le _, rfl, L, hlen, HB, HO⟩
              case round =>
                clear HO HB hlen
                obtain ⟨q, hq, rfl, L', hlen, HB, HO⟩ := hrel
                by_cases hlq : q < len
                · obtain ⟨g1, rfl, hg, c1, c2, fz⟩ := Ow.cellT (L := L') (q := q) (pre := pre) (post := L'.map rS ++ post) HO.out (by omega)
                  have hst0 := fun y => HO.out.setT hg (q := q) (by omega) y
                  have hx := getElem_of (q := q) (l := L') (by omega) (t0, none, 0)
                  have hB1 := HB.out q (Nat.le_refl _) _ hx
                  generalize L'.getD q (t0, none, 0) = x at c1 c2 hst0 hx hB1
                  obtain ⟨⟨key, kind, vals⟩, va, vc⟩ := x
                  dsimp only at c1 c2 hst0 hB1
                  have hst1 := hst0 (wrap64 (kind + 1))
                  have hBq := HB.out.set (⟨key, wrap64 (kind + 1), vals⟩, va, vc)
                  have hx1 : (L'.set q (⟨key, wrap64 (kind + 1), vals⟩, va, vc))[q]? = some (⟨key, wrap64 (kind + 1), vals⟩, va, vc) := by
                    rw [List.getElem?_set]
                    simp; omega
                  have hl1 : (L'.set q (⟨key, wrap64 (kind + 1), vals⟩, va, vc)).length = len := by rw [List.length_set]; exact hlen
                  generalize L'.set q (⟨key, wrap64 (kind + 1), vals⟩, va, vc) = L1 at hst1 hBq hx1 hl1
                  rw [rowsT_split hx1] at hst1
                  have hst2 : Ow 29 w1 (wr.setCell ⟨g1, q * 3 + 1, none⟩ (.int .i64 (wrap64 (kind + 1)))) Q M (podCs p ⟨pa, pc, la, lc, sa, sc, ta, tc, aa, ac, ea, ec⟩) cb ((pre ++ (rowT (some ⟨g1, 0, none⟩) c L1 :: (L1.take q).map rS)) ++ rowS va vc vals :: ((L1.drop (q + 1)).map rS ++ post)) := by
                    simpa [List.append_assoc] using hst1
                  have n5 : vals.length ≤ maxLen := by
                    obtain ⟨a', c', e, k1, k2, _⟩ := own_len (hst2.own (rowS va vc vals) (by simp))
                    exact Nat.le_trans k1 k2
                  unfold maxLen at n5
                  have HV := Lib.hid hst2
                  have HBQ := Lib.hid hBq
                  have HB1 := Lib.hid hB1
                  have HX1 := Lib.hid hx1
                  clear hst0 hst1 hst2 HO HB hg hx hlen hBq hB1 hx1
                  go_wp2_with fail
                  clear c1 c2 fz
                  generalize wr.setCell ⟨g1, q * 3 + 1, none⟩ (.int .i64 (wrap64 (kind + 1))) = W2 at HV ⊢
                  go_loopw [87] (fun i W => ∃ k : Nat, k ≤ vals.length ∧ i = .int .i64 k ∧ ∃ vs : List ByteArray, vs.length = vals.length ∧ Hid (∀ j, k ≤ j → j < vs.length → (vs.getD j ⟨#[]⟩).size ≤ reachBytes) ∧ Hid (Ow 29 w1 W Q M (podCs p ⟨pa, pc, la, lc, sa, sc, ta, tc, aa, ac, ea, ec⟩) cb ((pre ++ (rowT (some ⟨g1, 0, none⟩) c L1 :: (L1.take q).map rS)) ++ rowS va vc vs :: ((L1.drop (q + 1)).map rS ++ post)))) (fun i _ => vals.length - (intOf i).toNat)
                  case atStart => exact ⟨0, Nat.zero_le _, rfl, vals, rfl, fun j _ hj => HB1.out _ (getD_mem hj), HV⟩
                  case round =>
                    clear HV
                    obtain ⟨k, hk, rfl, vs, hvl, HS, HV⟩ := hrel
                    by_cases hlk : k < vals.length
                    · obtain ⟨g2, rfl, hg2, cc, fz2⟩ := HV.out.cellS (q := k) (by omega)
                      obtain ⟨g3, e3', _, d1, d2, fz3⟩ := Ow.cellT (L := L1) (a := some ⟨g1, 0, none⟩) (c := c) (q := q) (pre := pre) (post := (L1.take q).map rS ++ rowS (some ⟨g2, 0, none⟩) vc vs :: ((L1.drop (q + 1)).map rS ++ post)) (by have := HV.out; simpa [List.append_assoc] using this) (by omega)
                      cases e3'
                      rw [getD_of HX1.out] at d2
                      dsimp only at d2
                      have hst5 := Lib.hid (fun y => HV.out.setS hg2 (q := k) (by omega) y)
                      have hsz := HS.out k (Nat.le_refl _) (by omega)
                      have HS2 : Hid (∀ y, ∀ j, k + 1 ≤ j → j < (vs.set k y).length → ((vs.set k y).getD j ⟨#[]⟩).size ≤ reachBytes) := fun y j h1 h2 => by
                        rw [getD_set_ne (by omega)]; exact HS.out j (by omega) (by rw [List.length_set] at h2; exact h2)
                      clear HV hg2 HS d1
                      generalize vs.getD k ⟨#[]⟩ = u at *
                      have hcat : ¬ 9223372036854775807 < u.size + 1 := by
                        have hr : reachBytes ≤ 140737488351232 := by decide
                        omega
                      go_wp2
                      go_roundw
                      case rel => exact ⟨k + 1, by omega, by go_num, _, by rw [List.length_set]; exact hvl, HS2.out _, hst5.out _⟩
                      case measure => simp [intOf]; omega
                    · have hj5 := HV.out
                      have hjn := rowsT_join (a := some ⟨g1, 0, none⟩) (c := c) HX1.out hvl
                      dsimp only at hjn
                      have hj6 := Lib.hid (hlin hj5 hjn)
                      clear hj5 hjn HV
                      go_wp2
                      go_roundw
                      case rel => exact ⟨q + 1, by omega, by go_num, _, by rw [List.length_set]; exact hl1, HBQ.out.set2 _, hj6.out⟩
                      case measure => simp [intOf]; omega
                · go_wp2
                  go_roundw
                  case rel => exact ⟨j + 1, by omega, by go_num, HX.out _ _ hlen HO.out⟩
                  case measure => simp [intOf]; omega
            · go_wp2
              go_meet
              case rel => exact HT.out.done
        case rest =>
          clear HO HT0
          have HO := hcut
          clear hcut
          go_step
          go_step
          go_cut [] from 19 (fun W => Hid (Ow 29 w1 W Q M (podCs p ⟨pa, pc, la, lc, sa, sc, ta, tc, aa, ac, ea, ec⟩) cb Rb))
          case first J K' hJ hK' =>
           as_aux_lemma =>
            have cQ := fun o => cell_of_obj HO.out.q o
            have n63 := Nat.le_trans hc1.tols.2.1.1 hc1.tols.2.1.2.1
            unfold maxLen at n63
            go_wp2_with fail
            clear cQ
            go_loopw [106] (fun i W => ∃ q : Nat, q ≤ p.tols.length ∧ i = .int .i64 q ∧ ∃ l : List Tol, l.length = p.tols.length ∧ Hid (Ow 29 w1 W Q M (podCs p ⟨pa, pc, la, lc, sa, sc, ta, tc, aa, ac, ea, ec⟩) cb (rowL ta tc l :: Rb))) (fun i _ => p.tols.length - (intOf i).toNat)
            case atStart => exact ⟨0, Nat.zero_le _, rfl, p.tols, rfl, HO⟩
            case round =>
              clear HO
              obtain ⟨q, hq, rfl, l, hl, HO⟩ := hrel
              by_cases hlq : q < p.tols.length
              · obtain ⟨g1, rfl, hg, cc, fz⟩ := Ow.cellL (pre := []) (q := q) HO.out (by omega)
                have cQ := fun o => cell_of_obj HO.out.q o
                have hst := Lib.hid (fun y => Ow.setL (pre := []) (HO.out.later ((Below.refl _ _).drew)) hg (q := q) (by omega) y)
                clear HO hg
                generalize l.getD q (⟨#[]⟩, ⟨#[]⟩, false) = u at cc hst
                obtain ⟨u1, u2, u3⟩ := u
                dsimp only at cc hst
                go_wp2_with fail
                go_region
                all_goals
                  go_wp2_with fail
                  go_roundw
                  case rel => exact ⟨q + 1, by omega, by go_num, _, by rw [List.length_set]; exact hl, hst.out _⟩
                  case measure => simp [intOf]; omega
              · go_wp2
                go_meet
                case rel => exact Ow.drop (pre := []) HO.out
          case rest =>
            have HP := hcut
            clear HO hcut
            obtain ⟨w2, hw2⟩ : ∃ x, x = wc := ⟨_, rfl⟩
            rw [← hw2] at HP ⊢
            clear hw2
            have hb12 := HP.out.b
            have hA2 : ∀ o, w2.cell? ⟨w.heap.size, o, none⟩ = (podC p h)[o]? := fun o => (hb12.cell (p := ⟨w.heap.size, o, none⟩) (Nat.lt_of_succ_lt hz1)).trans (hA o)
            have hB2 : ∀ o, w2.cell? ⟨w.heap.size + 1, o, none⟩ = (nodeC n g)[o]? := fun o => (hb12.cell (p := ⟨w.heap.size + 1, o, none⟩) hz1).trans (hB o)
            have hz2 : w.heap.size + 1 < w2.heap.size := Nat.lt_of_lt_of_le hz1 hb12.size
            have hbw2 : Below w.heap.size w w2 := hbw1.trans (hb12.mono hbw1.size)
            have hcp2 := hcp1.below hb12
            have hn2 := hn1.below hb12
            have hpo : PodOwn w2 w1.heap.size p kb := ⟨Lt, Lb, Lf, f1, f2, f3, by rw [hRb]; exact HP.out.own⟩
            have hqm : w2.heap[M]? = some (.cells (podCs p kb) 29) := by rw [hcb]; exact HP.out.m
            have hpa := hpo.at
            clear hA hB hz1 hbw1 hc1 hcp1 hn1 HP hb12 e1 e2 e3 hRb hcb f1 f2 f3 hpo
            have hz1 := hz2
            clear hz2
            go_upto_region 34 with fail
            have hbd : Below w2.heap.size w2 w2.drew := (Below.refl _ _).drew
            have A1 : ∀ W : World, (Below w2.heap.size w2 W ∧ (∀ o, W.cell? ⟨w.heap.size, o, none⟩ = (podC p h)[o]?) ∧ (∀ o, W.cell? ⟨w.heap.size + 1, o, none⟩ = (nodeC n g)[o]?)) → Calls Try.prog 8 #[nodeV n g] W (fun e w' => ∃ k, e = .returned (nodeV n k) ∧ NodeRows w' W.heap.size n k ∧ Below W.heap.size W w') := fun W hS => copyNode_any n g W (hn2.below hS.1) hcl hct hz
            have HA1 := Lib.hid A1
            clear A1
            go_cut [15, 16] from 19 (fun v15 v16 W => ∃ C D gc gd, v15 = .pointer (some ⟨C, 0, none⟩) ∧ v16 = .pointer (some ⟨D, 0, none⟩) ∧ Ow 32 w2 W C D (nodeC n gc) (nodeC n gd) (nodeRs n gc ++ nodeRs n gd))
            case first J K' hJ hK' =>
             as_aux_lemma =>
              refine wp_region_held_drew (S := fun W => Below w2.heap.size w2 W ∧ (∀ o, W.cell? ⟨w.heap.size, o, none⟩ = (podC p h)[o]?) ∧ (∀ o, W.cell? ⟨w.heap.size + 1, o, none⟩ = (nodeC n g)[o]?)) (by kernel_rfl) ⟨hbd, hA2, hB2⟩ (fun hHeld => ?_)
              have HM : Hid (Mid2 32 zeroNode w2 w2.drew none none none none) := Mid2.start hbd
              refine wpAnyH_take (i := 0) (v := nodeV n g) rfl (by kernel_rfl) (by kernel_rfl) (by kernel_rfl) (fun _ _ _ h => h) (Or.inl ⟨by rfl, ?_⟩) hHeld ?_
              · intro W hSw
                try dsimp only at hSw
                go_simp
              try simp only [Act.put, List.setIfInBounds_toArray, List.set_cons_zero, List.set_cons_succ]
              refine wpAnyH_take (i := 2) (v := nodeV n g) rfl (by kernel_rfl) (by kernel_rfl) (by kernel_rfl) (fun _ _ _ h => h) (Or.inl ⟨by rfl, ?_⟩) hHeld ?_
              · intro W hSw
                try dsimp only at hSw
                go_simp
              try simp only [Act.put, List.setIfInBounds_toArray, List.set_cons_zero, List.set_cons_succ]
              generalize hWz : w2.drew = wz at HM hHeld hbd ⊢
              clear hWz hbd
              refine wpAnyH_ready (rs := [1, 4, 5]) (by kernel_rfl) (by simp) ?_
              refine AllReadyH.cons rfl (fun K hK => ?_) ?_
              ·
                go_simp
                go_wp2_with (go_at_call 8; refine Calls.mono (HA1.out _ hHeld) ?_; rintro e wc ⟨k2, rfl, hr2, hb2⟩)
                have HMn := Lib.hid (HM.out.addA hb2 hr2.rows hr2.ap (fun r h => (nodeRs_ty r h).2))
                have hSn := two_later hHeld hb2 (by omega) hz1
                clear hr2 hb2
                clear HM hHeld
                have HM := HMn
                clear HMn
                refine hK.out _ _ hSn (fun hHeld => ?_)
                clear hK K hSn
                try simp only [Act.put, List.setIfInBounds_toArray, List.set_cons_zero, List.set_cons_succ]
                refine wpAnyH_ready (rs := [3, 4, 5]) (by kernel_rfl) (by simp) ?_
                refine AllReadyH.cons rfl (fun K hK => ?_) ?_
                ·
                  go_simp
                  go_wp2_with (go_at_call 8; refine Calls.mono (HA1.out _ hHeld) ?_; rintro e wd ⟨k3, rfl, hr2, hb2⟩)
                  have HMn := Lib.hid (HM.out.addB hb2 hr2.rows hr2.ap (fun r h => (nodeRs_ty r h).2))
                  have hSn := two_later hHeld hb2 (by omega) hz1
                  clear hr2 hb2
                  clear HM hHeld
                  have HM := HMn
                  clear HMn
                  refine hK.out _ _ hSn (fun hHeld => ?_)
                  clear hK K hSn
                  try simp only [Act.put, List.setIfInBounds_toArray, List.set_cons_zero, List.set_cons_succ]
                  refine wpAnyH_ready (rs := [4, 5]) (by kernel_rfl) (by simp) ?_
                  refine AllReadyH.cons rfl (fun K hK => ?_) ?_
                  ·
                    go_simp
                    have HMn := Lib.hid HM.out.addQ
                    have hSn := two_alloc hHeld (.cells zeroNode 32) (by omega) hz1
                    generalize hWn : World.alloc wd (.cells zeroNode 32) = wq at HMn hSn ⊢
                    clear hWn
                    clear HM hHeld
                    have HM := HMn
                    clear HMn
                    refine hK.out _ _ hSn (fun hHeld => ?_)
                    clear hK K hSn
                    try simp only [Act.put, List.setIfInBounds_toArray, List.set_cons_zero, List.set_cons_succ]
                    refine wpAnyH_ready (rs := [5]) (by kernel_rfl) (by simp) ?_
                    refine AllReadyH.cons rfl (fun K hK => ?_) ?_
                    ·
                      go_simp
                      have HMn := Lib.hid HM.out.addM
                      have hSn := two_alloc hHeld (.cells zeroNode 32) (by omega) hz1
                      generalize hWn : World.alloc wq (.cells zeroNode 32) = wm at HMn hSn ⊢
                      clear hWn
                      clear HM hHeld
                      have HM := HMn
                      clear HMn
                      refine hK.out _ _ hSn (fun hHeld => ?_)
                      clear hK K hSn
                      try simp only [Act.put, List.setIfInBounds_toArray, List.set_cons_zero, List.set_cons_succ]
                      refine wpAnyH_ready (rs := [6]) (by kernel_rfl) (by simp) ?_
                      refine AllReadyH.cons rfl (fun K hK => ?_) ?_
                      ·
                        refine step_store_row rfl 32 (.tmp 15) (.tmp 123) rfl rfl _ (nodeC n k2) rfl rfl 32 zeroNode (HM.out.q _ rfl).2 (by kernel_rfl) rfl (by kernel_rfl) ?_
                        have hSn := two_row hHeld _ (nodeC n k2) (HM.out.q _ rfl).1 (by omega) hz1
                        refine hK.out _ _ hSn (fun hHeld2 => ?_)
                        clear hK K hSn hHeld
                        refine wpAnyH_ready (rs := [7]) (by kernel_rfl) (by simp) ?_
                        refine AllReadyH.cons rfl (fun K hK => ?_) ?_
                        ·
                          refine step_store_row rfl 32 (.tmp 16) (.tmp 125) rfl rfl _ (nodeC n k3) rfl rfl 32 zeroNode (HM.out.other rfl rfl _) (by kernel_rfl) rfl (by kernel_rfl) ?_
                          have hSn := two_row hHeld2 _ (nodeC n k3) (HM.out.m _ rfl).1 (by omega) hz1
                          refine hK.out _ _ hSn (fun _ => ?_)
                          clear hK K hSn hHeld2
                          refine wpAnyH_done (by kernel_rfl) ?_ _
                          show K' _ _
                          refine hK' _ _ (Met.intro (hJ _ _ ?_))
                          (repeat apply Exists.intro)
                          refine ⟨?rel, rfl⟩
                          case rel => exact ⟨_, _, k2, k3, rfl, rfl, HM.out.fin _ _⟩
                        exact AllReadyH.nil
                      exact AllReadyH.nil
                    exact AllReadyH.nil
                  refine AllReadyH.cons rfl (fun K hK => ?_) ?_
                  ·
                    go_simp
                    have HMn := Lib.hid HM.out.addM
                    have hSn := two_alloc hHeld (.cells zeroNode 32) (by omega) hz1
                    generalize hWn : World.alloc wd (.cells zeroNode 32) = wm at HMn hSn ⊢
                    clear hWn
                    clear HM hHeld
                    have HM := HMn
                    clear HMn
                    refine hK.out _ _ hSn (fun hHeld => ?_)
                    clear hK K hSn
                    try simp only [Act.put, List.setIfInBounds_toArray, List.set_cons_zero, List.set_cons_succ]
                    refine wpAnyH_ready (rs := [4]) (by kernel_rfl) (by simp) ?_
                    refine AllReadyH.cons rfl (fun K hK => ?_) ?_
                    ·
                      go_simp
                      have HMn := Lib.hid HM.out.addQ
                      have hSn := two_alloc hHeld (.cells zeroNode 32) (by omega) hz1
                      generalize hWn : World.alloc wm (.cells zeroNode 32) = wq at HMn hSn ⊢
                      clear hWn
                      clear HM hHeld
                      have HM := HMn
                      clear HMn
                      refine hK.out _ _ hSn (fun hHeld => ?_)
                      clear hK K hSn
                      try simp only [Act.put, List.setIfInBounds_toArray, List.set_cons_zero, List.set_cons_succ]
                      refine wpAnyH_ready (rs := [6]) (by kernel_rfl) (by simp) ?_
                      refine AllReadyH.cons rfl (fun K hK => ?_) ?_
                      ·
                        refine step_store_row rfl 32 (.tmp 15) (.tmp 123) rfl rfl _ (nodeC n k2) rfl rfl 32 zeroNode (HM.out.q _ rfl).2 (by kernel_rfl) rfl (by kernel_rfl) ?_
                        have hSn := two_row hHeld _ (nodeC n k2) (HM.out.q _ rfl).1 (by omega) hz1
                        refine hK.out _ _ hSn (fun hHeld2 => ?_)
                        clear hK K hSn hHeld
                        refine wpAnyH_ready (rs := [7]) (by kernel_rfl) (by simp) ?_
                        refine AllReadyH.cons rfl (fun K hK => ?_) ?_
                        ·
                          refine step_store_row rfl 32 (.tmp 16) (.tmp 125) rfl rfl _ (nodeC n k3) rfl rfl 32 zeroNode (HM.out.other rfl rfl _) (by kernel_rfl) rfl (by kernel_rfl) ?_
                          have hSn := two_row hHeld2 _ (nodeC n k3) (HM.out.m _ rfl).1 (by omega) hz1
                          refine hK.out _ _ hSn (fun _ => ?_)
                          clear hK K hSn hHeld2
                          refine wpAnyH_done (by kernel_rfl) ?_ _
                          show K' _ _
                          refine hK' _ _ (Met.intro (hJ _ _ ?_))
                          (repeat apply Exists.intro)
                          refine ⟨?rel, rfl⟩
                          case rel => exact ⟨_, _, k2, k3, rfl, rfl, HM.out.fin _ _⟩
                        exact AllReadyH.nil
                      exact AllReadyH.nil
                    exact AllReadyH.nil
                  exact AllReadyH.nil
                refine AllReadyH.cons rfl (fun K hK => ?_) ?_
                ·
                  go_simp
                  have HMn := Lib.hid HM.out.addQ
                  have hSn := two_alloc hHeld (.cells zeroNode 32) (by omega) hz1
                  generalize hWn : World.alloc wc (.cells zeroNode 32) = wq at HMn hSn ⊢
                  clear hWn
                  clear HM hHeld
                  have HM := HMn
                  clear HMn
                  refine hK.out _ _ hSn (fun hHeld => ?_)
                  clear hK K hSn
                  try simp only [Act.put, List.setIfInBounds_toArray, List.set_cons_zero, List.set_cons_succ]
                  refine wpAnyH_ready (rs := [3, 5]) (by kernel_rfl) (by simp) ?_
                  refine AllReadyH.cons rfl (fun K hK => ?_) ?_
                  ·
                    go_simp
                    go_wp2_with (go_at_call 8; refine Calls.mono (HA1.out _ hHeld) ?_; rintro e wd ⟨k3, rfl, hr2, hb2⟩)
                    have HMn := Lib.hid (HM.out.addB hb2 hr2.rows hr2.ap (fun r h => (nodeRs_ty r h).2))
                    have hSn := two_later hHeld hb2 (by omega) hz1
                    clear hr2 hb2
                    clear HM hHeld
                    have HM := HMn
                    clear HMn
                    refine hK.out _ _ hSn (fun hHeld => ?_)
                    clear hK K hSn
                    try simp only [Act.put, List.setIfInBounds_toArray, List.set_cons_zero, List.set_cons_succ]
                    refine wpAnyH_ready (rs := [5]) (by kernel_rfl) (by simp) ?_
                    refine AllReadyH.cons rfl (fun K hK => ?_) ?_
                    ·
                      go_simp
                      have HMn := Lib.hid HM.out.addM
                      have hSn := two_alloc hHeld (.cells zeroNode 32) (by omega) hz1
                      generalize hWn : World.alloc wd (.cells zeroNode 32) = wm at HMn hSn ⊢
                      clear hWn
                      clear HM hHeld
                      have HM := HMn
                      clear HMn
                      refine hK.out _ _ hSn (fun hHeld => ?_)
                      clear hK K hSn
                      try simp only [Act.put, List.setIfInBounds_toArray, List.set_cons_zero, List.set_cons_succ]
                      refine wpAnyH_ready (rs := [6]) (by kernel_rfl) (by simp) ?_
                      refine AllReadyH.cons rfl (fun K hK => ?_) ?_
                      ·
                        refine step_store_row rfl 32 (.tmp 15) (.tmp 123) rfl rfl _ (nodeC n k2) rfl rfl 32 zeroNode (HM.out.q _ rfl).2 (by kernel_rfl) rfl (by kernel_rfl) ?_
                        have hSn := two_row hHeld _ (nodeC n k2) (HM.out.q _ rfl).1 (by omega) hz1
                        refine hK.out _ _ hSn (fun hHeld2 => ?_)
                        clear hK K hSn hHeld
                        refine wpAnyH_ready (rs := [7]) (by kernel_rfl) (by simp) ?_
                        refine AllReadyH.cons rfl (fun K hK => ?_) ?_
                        ·
                          refine step_store_row rfl 32 (.tmp 16) (.tmp 125) rfl rfl _ (nodeC n k3) rfl rfl 32 zeroNode (HM.out.other rfl rfl _) (by kernel_rfl) rfl (by kernel_rfl) ?_
                          have hSn := two_row hHeld2 _ (nodeC n k3) (HM.out.m _ rfl).1 (by omega) hz1
                          refine hK.out _ _ hSn (fun _ => ?_)
                          clear hK K hSn hHeld2
                          refine wpAnyH_done (by kernel_rfl) ?_ _
                          show K' _ _
                          refine hK' _ _ (Met.intro (hJ _ _ ?_))
                          (repeat apply Exists.intro)
                          refine ⟨?rel, rfl⟩
                          case rel => exact ⟨_, _, k2, k3, rfl, rfl, HM.out.fin _ _⟩
                        exact AllReadyH.nil
                      exact AllReadyH.nil
                    exact AllReadyH.nil
                  refine AllReadyH.cons rfl (fun K hK => ?_) ?_
                  ·
                    go_simp
                    have HMn := Lib.hid HM.out.addM
                    have hSn := two_alloc hHeld (.cells zeroNode 32) (by omega) hz1
                    generalize hWn : World.alloc wq (.cells zeroNode 32) = wm at HMn hSn ⊢
                    clear hWn
                    clear HM hHeld
                    have HM := HMn
                    clear HMn
                    refine hK.out _ _ hSn (fun hHeld => ?_)
                    clear hK K hSn
                    try simp only [Act.put, List.setIfInBounds_toArray, List.set_cons_zero, List.set_cons_succ]
                    refine wpAnyH_ready (rs := [3]) (by kernel_rfl) (by simp) ?_
                    refine AllReadyH.cons rfl (fun K hK => ?_) ?_
                    ·
                      go_simp
                      go_wp2_with (go_at_call 8; refine Calls.mono (HA1.out _ hHeld) ?_; rintro e wd ⟨k3, rfl, hr2, hb2⟩)
                      have HMn := Lib.hid (HM.out.addB hb2 hr2.rows hr2.ap (fun r h => (nodeRs_ty r h).2))
                      have hSn := two_later hHeld hb2 (by omega) hz1
                      clear hr2 hb2
                      clear HM hHeld
                      have HM := HMn
                      clear HMn
                      refine hK.out _ _ hSn (fun hHeld => ?_)
                      clear hK K hSn
                      try simp only [Act.put, List.setIfInBounds_toArray, List.set_cons_zero, List.set_cons_succ]
                      refine wpAnyH_ready (rs := [6]) (by kernel_rfl) (by simp) ?_
                      refine AllReadyH.cons rfl (fun K hK => ?_) ?_
                      ·
                        refine step_store_row rfl 32 (.tmp 15) (.tmp 123) rfl rfl _ (nodeC n k2) rfl rfl 32 zeroNode (HM.out.q _ rfl).2 (by kernel_rfl) rfl (by kernel_rfl) ?_
                        have hSn := two_row hHeld _ (nodeC n k2) (HM.out.q _ rfl).1 (by omega) hz1
                        refine hK.out _ _ hSn (fun hHeld2 => ?_)
                        clear hK K hSn hHeld
                        refine wpAnyH_ready (rs := [7]) (by kernel_rfl) (by simp) ?_
                        refine AllReadyH.cons rfl (fun K hK => ?_) ?_
                        ·
                          refine step_store_row rfl 32 (.tmp 16) (.tmp 125) rfl rfl _ (nodeC n k3) rfl rfl 32 zeroNode (HM.out.other rfl rfl _) (by kernel_rfl) rfl (by kernel_rfl) ?_
                          have hSn := two_row hHeld2 _ (nodeC n k3) (HM.out.m _ rfl).1 (by omega) hz1
                          refine hK.out _ _ hSn (fun _ => ?_)
                          clear hK K hSn hHeld2
                          refine wpAnyH_done (by kernel_rfl) ?_ _
                          show K' _ _
                          refine hK' _ _ (Met.intro (hJ _ _ ?_))
                          (repeat apply Exists.intro)
                          refine ⟨?rel, rfl⟩
                          case rel => exact ⟨_, _, k2, k3, rfl, rfl, HM.out.fin _ _⟩
                        exact AllReadyH.nil
                      exact AllReadyH.nil
                    exact AllReadyH.nil
                  exact AllReadyH.nil
                refine AllReadyH.cons rfl (fun K hK => ?_) ?_
                ·
                  go_simp
                  have HMn := Lib.hid HM.out.addM
                  have hSn := two_alloc hHeld (.cells zeroNode 32) (by omega) hz1
                  generalize hWn : World.alloc wc (.cells zeroNode 32) = wm at HMn hSn ⊢
                  clear hWn
                  clear HM hHeld
                  have HM := HMn
                  clear HMn
                  refine hK.out _ _ hSn (fun hHeld => ?_)
                  clear hK K hSn
                  try simp only [Act.put, List.setIfInBounds_toArray, List.set_cons_zero, List.set_cons_succ]
                  refine wpAnyH_ready (rs := [3, 4]) (by kernel_rfl) (by simp) ?_
                  refine AllReadyH.cons rfl (fun K hK => ?_) ?_
                  ·
                    go_simp
                    go_wp2_with (go_at_call 8; refine Calls.mono (HA1.out _ hHeld) ?_; rintro e wd ⟨k3, rfl, hr2, hb2⟩)
                    have HMn := Lib.hid (HM.out.addB hb2 hr2.rows hr2.ap (fun r h => (nodeRs_ty r h).2))
                    have hSn := two_later hHeld hb2 (by omega) hz1
                    clear hr2 hb2
                    clear HM hHeld
                    have HM := HMn
                    clear HMn
                    refine hK.out _ _ hSn (fun hHeld => ?_)
                    clear hK K hSn
                    try simp only [Act.put, List.setIfInBounds_toArray, List.set_cons_zero, List.set_cons_succ]
                    refine wpAnyH_ready (rs := [4]) (by kernel_rfl) (by simp) ?_
                    refine AllReadyH.cons rfl (fun K hK => ?_) ?_
                    ·
                      go_simp
                      have HMn := Lib.hid HM.out.addQ
                      have hSn := two_alloc hHeld (.cells zeroNode 32) (by omega) hz1
                      generalize hWn : World.alloc wd (.cells zeroNode 32) = wq at HMn hSn ⊢
                      clear hWn
                      clear HM hHeld
                      have HM := HMn
                      clear HMn
                      refine hK.out _ _ hSn (fun hHeld => ?_)
                      clear hK K hSn
                      try simp only [Act.put, List.setIfInBounds_toArray, List.set_cons_zero, List.set_cons_succ]
                      refine wpAnyH_ready (rs := [6]) (by kernel_rfl) (by simp) ?_
                      refine AllReadyH.cons rfl (fun K hK => ?_) ?_
                      ·
                        refine step_store_row rfl 32 (.tmp 15) (.tmp 123) rfl rfl _ (nodeC n k2) rfl rfl 32 zeroNode (HM.out.q _ rfl).2 (by kernel_rfl) rfl (by kernel_rfl) ?_
                        have hSn := two_row hHeld _ (nodeC n k2) (HM.out.q _ rfl).1 (by omega) hz1
                        refine hK.out _ _ hSn (fun hHeld2 => ?_)
                        clear hK K hSn hHeld
                        refine wpAnyH_ready (rs := [7]) (by kernel_rfl) (by simp) ?_
                        refine AllReadyH.cons rfl (fun K hK => ?_) ?_
                        ·
                          refine step_store_row rfl 32 (.tmp 16) (.tmp 125) rfl rfl _ (nodeC n k3) rfl rfl 32 zeroNode (HM.out.other rfl rfl _) (by kernel_rfl) rfl (by kernel_rfl) ?_
                          have hSn := two_row hHeld2 _ (nodeC n k3) (HM.out.m _ rfl).1 (by omega) hz1
                          refine hK.out _ _ hSn (fun _ => ?_)
                          clear hK K hSn hHeld2
                          refine wpAnyH_done (by kernel_rfl) ?_ _
                          show K' _ _
                          refine hK' _ _ (Met.intro (hJ _ _ ?_))
                          (repeat apply Exists.intro)
                          refine ⟨?rel, rfl⟩
                          case rel => exact ⟨_, _, k2, k3, rfl, rfl, HM.out.fin _ _⟩
                        exact AllReadyH.nil
                      exact AllReadyH.nil
                    exact AllReadyH.nil
                  refine AllReadyH.cons rfl (fun K hK => ?_) ?_
                  ·
                    go_simp
                    have HMn := Lib.hid HM.out.addQ
                    have hSn := two_alloc hHeld (.cells zeroNode 32) (by omega) hz1
                    generalize hWn : World.alloc wm (.cells zeroNode 32) = wq at HMn hSn ⊢
                    clear hWn
                    clear HM hHeld
                    have HM := HMn
                    clear HMn
                    refine hK.out _ _ hSn (fun hHeld => ?_)
                    clear hK K hSn
                    try simp only [Act.put, List.setIfInBounds_toArray, List.set_cons_zero, List.set_cons_succ]
                    refine wpAnyH_ready (rs := [3]) (by kernel_rfl) (by simp) ?_
                    refine AllReadyH.cons rfl (fun K hK => ?_) ?_
                    ·
                      go_simp
                      go_wp2_with (go_at_call 8; refine Calls.mono (HA1.out _ hHeld) ?_; rintro e wd ⟨k3, rfl, hr2, hb2⟩)
                      have HMn := Lib.hid (HM.out.addB hb2 hr2.rows hr2.ap (fun r h => (nodeRs_ty r h).2))
                      have hSn := two_later hHeld hb2 (by omega) hz1
                      clear hr2 hb2
                      clear HM hHeld
                      have HM := HMn
                      clear HMn
                      refine hK.out _ _ hSn (fun hHeld => ?_)
                      clear hK K hSn
                      try simp only [Act.put, List.setIfInBounds_toArray, List.set_cons_zero, List.set_cons_succ]
                      refine wpAnyH_ready (rs := [6]) (by kernel_rfl) (by simp) ?_
                      refine AllReadyH.cons rfl (fun K hK => ?_) ?_
                      ·
                        refine step_store_row rfl 32 (.tmp 15) (.tmp 123) rfl rfl _ (nodeC n k2) rfl rfl 32 zeroNode (HM.out.q _ rfl).2 (by kernel_rfl) rfl (by kernel_rfl) ?_
                        have hSn := two_row hHeld _ (nodeC n k2) (HM.out.q _ rfl).1 (by omega) hz1
                        refine hK.out _ _ hSn (fun hHeld2 => ?_)
                        clear hK K hSn hHeld
                        refine wpAnyH_ready (rs := [7]) (by kernel_rfl) (by simp) ?_
                        refine AllReadyH.cons rfl (fun K hK => ?_) ?_
                        ·
                          refine step_store_row rfl 32 (.tmp 16) (.tmp 125) rfl rfl _ (nodeC n k3) rfl rfl 32 zeroNode (HM.out.other rfl rfl _) (by kernel_rfl) rfl (by kernel_rfl) ?_
                          have hSn := two_row hHeld2 _ (nodeC n k3) (HM.out.m _ rfl).1 (by omega) hz1
                          refine hK.out _ _ hSn (fun _ => ?_)
                          clear hK K hSn hHeld2
                          refine wpAnyH_done (by kernel_rfl) ?_ _
                          show K' _ _
                          refine hK' _ _ (Met.intro (hJ _ _ ?_))
                          (repeat apply Exists.intro)
                          refine ⟨?rel, rfl⟩
                          case rel => exact ⟨_, _, k2, k3, rfl, rfl, HM.out.fin _ _⟩
                        exact AllReadyH.nil
                      exact AllReadyH.nil
                    exact AllReadyH.nil
                  exact AllReadyH.nil
                exact AllReadyH.nil
              refine AllReadyH.cons rfl (fun K hK => ?_) ?_
              ·
                go_simp
                have HMn := Lib.hid HM.out.addQ
                have hSn := two_alloc hHeld (.cells zeroNode 32) (by omega) hz1
                generalize hWn : World.alloc wz (.cells zeroNode 32) = wq at HMn hSn ⊢
                clear hWn
                clear HM hHeld
                have HM := HMn
                clear HMn
                refine hK.out _ _ hSn (fun hHeld => ?_)
                clear hK K hSn
                try simp only [Act.put, List.setIfInBounds_toArray, List.set_cons_zero, List.set_cons_succ]
                refine wpAnyH_ready (rs := [1, 5]) (by kernel_rfl) (by simp) ?_
                refine AllReadyH.cons rfl (fun K hK => ?_) ?_
                ·
                  go_simp
                  go_wp2_with (go_at_call 8; refine Calls.mono (HA1.out _ hHeld) ?_; rintro e wc ⟨k2, rfl, hr2, hb2⟩)
                  have HMn := Lib.hid (HM.out.addA hb2 hr2.rows hr2.ap (fun r h => (nodeRs_ty r h).2))
                  have hSn := two_later hHeld hb2 (by omega) hz1
                  clear hr2 hb2
                  clear HM hHeld
                  have HM := HMn
                  clear HMn
                  refine hK.out _ _ hSn (fun hHeld => ?_)
                  clear hK K hSn
                  try simp only [Act.put, List.setIfInBounds_toArray, List.set_cons_zero, List.set_cons_succ]
                  refine wpAnyH_ready (rs := [3, 5]) (by kernel_rfl) (by simp) ?_
                  refine AllReadyH.cons rfl (fun K hK => ?_) ?_
                  ·
                    go_simp
                    go_wp2_with (go_at_call 8; refine Calls.mono (HA1.out _ hHeld) ?_; rintro e wd ⟨k3, rfl, hr2, hb2⟩)
                    have HMn := Lib.hid (HM.out.addB hb2 hr2.rows hr2.ap (fun r h => (nodeRs_ty r h).2))
                    have hSn := two_later hHeld hb2 (by omega) hz1
                    clear hr2 hb2
                    clear HM hHeld
                    have HM := HMn
                    clear HMn
                    refine hK.out _ _ hSn (fun hHeld => ?_)
                    clear hK K hSn
                    try simp only [Act.put, List.setIfInBounds_toArray, List.set_cons_zero, List.set_cons_succ]
                    refine wpAnyH_ready (rs := [5]) (by kernel_rfl) (by simp) ?_
                    refine AllReadyH.cons rfl (fun K hK => ?_) ?_
                    ·
                      go_simp
                      have HMn := Lib.hid HM.out.addM
                      have hSn := two_alloc hHeld (.cells zeroNode 32) (by omega) hz1
                      generalize hWn : World.alloc wd (.cells zeroNode 32) = wm at HMn hSn ⊢
                      clear hWn
                      clear HM hHeld
                      have HM := HMn
                      clear HMn
                      refine hK.out _ _ hSn (fun hHeld => ?_)
                      clear hK K hSn
                      try simp only [Act.put, List.setIfInBounds_toArray, List.set_cons_zero, List.set_cons_succ]
                      refine wpAnyH_ready (rs := [6]) (by kernel_rfl) (by simp) ?_
                      refine AllReadyH.cons rfl (fun K hK => ?_) ?_
                      ·
                        refine step_store_row rfl 32 (.tmp 15) (.tmp 123) rfl rfl _ (nodeC n k2) rfl rfl 32 zeroNode (HM.out.q _ rfl).2 (by kernel_rfl) rfl (by kernel_rfl) ?_
                        have hSn := two_row hHeld _ (nodeC n k2) (HM.out.q _ rfl).1 (by omega) hz1
                        refine hK.out _ _ hSn (fun hHeld2 => ?_)
                        clear hK K hSn hHeld
                        refine wpAnyH_ready (rs := [7]) (by kernel_rfl) (by simp) ?_
                        refine AllReadyH.cons rfl (fun K hK => ?_) ?_
                        ·
                          refine step_store_row rfl 32 (.tmp 16) (.tmp 125) rfl rfl _ (nodeC n k3) rfl rfl 32 zeroNode (HM.out.other rfl rfl _) (by kernel_rfl) rfl (by kernel_rfl) ?_
                          have hSn := two_row hHeld2 _ (nodeC n k3) (HM.out.m _ rfl).1 (by omega) hz1
                          refine hK.out _ _ hSn (fun _ => ?_)
                          clear hK K hSn hHeld2
                          refine wpAnyH_done (by kernel_rfl) ?_ _
                          show K' _ _
                          refine hK' _ _ (Met.intro (hJ _ _ ?_))
                          (repeat apply Exists.intro)
                          refine ⟨?rel, rfl⟩
                          case rel => exact ⟨_, _, k2, k3, rfl, rfl, HM.out.fin _ _⟩
                        exact AllReadyH.nil
                      exact AllReadyH.nil
                    exact AllReadyH.nil
                  refine AllReadyH.cons rfl (fun K hK => ?_) ?_
                  ·
                    go_simp
                    have HMn := Lib.hid HM.out.addM
                    have hSn := two_alloc hHeld (.cells zeroNode 32) (by omega) hz1
                    generalize hWn : World.alloc wc (.cells zeroNode 32) = wm at HMn hSn ⊢
                    clear hWn
                    clear HM hHeld
                    have HM := HMn
                    clear HMn
                    refine hK.out _ _ hSn (fun hHeld => ?_)
                    clear hK K hSn
                    try simp only [Act.put, List.setIfInBounds_toArray, List.set_cons_zero, List.set_cons_succ]
                    refine wpAnyH_ready (rs := [3]) (by kernel_rfl) (by simp) ?_
                    refine AllReadyH.cons rfl (fun K hK => ?_) ?_
                    ·
                      go_simp
                      go_wp2_with (go_at_call 8; refine Calls.mono (HA1.out _ hHeld) ?_; rintro e wd ⟨k3, rfl, hr2, hb2⟩)
                      have HMn := Lib.hid (HM.out.addB hb2 hr2.rows hr2.ap (fun r h => (nodeRs_ty r h).2))
                      have hSn := two_later hHeld hb2 (by omega) hz1
                      clear hr2 hb2
                      clear HM hHeld
                      have HM := HMn
                      clear HMn
                      refine hK.out _ _ hSn (fun hHeld => ?_)
                      clear hK K hSn
                      try simp only [Act.put, List.setIfInBounds_toArray, List.set_cons_zero, List.set_cons_succ]
                      refine wpAnyH_ready (rs := [6]) (by kernel_rfl) (by simp) ?_
                      refine AllReadyH.cons rfl (fun K hK => ?_) ?_
                      ·
                        refine step_store_row rfl 32 (.tmp 15) (.tmp 123) rfl rfl _ (nodeC n k2) rfl rfl 32 zeroNode (HM.out.q _ rfl).2 (by kernel_rfl) rfl (by kernel_rfl) ?_
                        have hSn := two_row hHeld _ (nodeC n k2) (HM.out.q _ rfl).1 (by omega) hz1
                        refine hK.out _ _ hSn (fun hHeld2 => ?_)
                        clear hK K hSn hHeld
                        refine wpAnyH_ready (rs := [7]) (by kernel_rfl) (by simp) ?_
                        refine AllReadyH.cons rfl (fun K hK => ?_) ?_
                        ·
                          refine step_store_row rfl 32 (.tmp 16) (.tmp 125) rfl rfl _ (nodeC n k3) rfl rfl 32 zeroNode (HM.out.other rfl rfl _) (by kernel_rfl) rfl (by kernel_rfl) ?_
                          have hSn := two_row hHeld2 _ (nodeC n k3) (HM.out.m _ rfl).1 (by omega) hz1
                          refine hK.out _ _ hSn (fun _ => ?_)
                          clear hK K hSn hHeld2
                          refine wpAnyH_done (by kernel_rfl) ?_ _
                          show K' _ _
                          refine hK' _ _ (Met.intro (hJ _ _ ?_))
                          (repeat apply Exists.intro)
                          refine ⟨?rel, rfl⟩
                          case rel => exact ⟨_, _, k2, k3, rfl, rfl, HM.out.fin _ _⟩
                        exact AllReadyH.nil
                      exact AllReadyH.nil
                    exact AllReadyH.nil
                  exact AllReadyH.nil
                refine AllReadyH.cons rfl (fun K hK => ?_) ?_
                ·
                  go_simp
                  have HMn := Lib.hid HM.out.addM
                  have hSn := two_alloc hHeld (.cells zeroNode 32) (by omega) hz1
                  generalize hWn : World.alloc wq (.cells zeroNode 32) = wm at HMn hSn ⊢
                  clear hWn
                  clear HM hHeld
                  have HM := HMn
                  clear HMn
                  refine hK.out _ _ hSn (fun hHeld => ?_)
                  clear hK K hSn
                  try simp only [Act.put, List.setIfInBounds_toArray, List.set_cons_zero, List.set_cons_succ]
                  refine wpAnyH_ready (rs := [1]) (by kernel_rfl) (by simp) ?_
                  refine AllReadyH.cons rfl (fun K hK => ?_) ?_
                  ·
                    go_simp
                    go_wp2_with (go_at_call 8; refine Calls.mono (HA1.out _ hHeld) ?_; rintro e wc ⟨k2, rfl, hr2, hb2⟩)
                    have HMn := Lib.hid (HM.out.addA hb2 hr2.rows hr2.ap (fun r h => (nodeRs_ty r h).2))
                    have hSn := two_later hHeld hb2 (by omega) hz1
                    clear hr2 hb2
                    clear HM hHeld
                    have HM := HMn
                    clear HMn
                    refine hK.out _ _ hSn (fun hHeld => ?_)
                    clear hK K hSn
                    try simp only [Act.put, List.setIfInBounds_toArray, List.set_cons_zero, List.set_cons_succ]
                    refine wpAnyH_ready (rs := [3]) (by kernel_rfl) (by simp) ?_
                    refine AllReadyH.cons rfl (fun K hK => ?_) ?_
                    ·
                      go_simp
                      go_wp2_with (go_at_call 8; refine Calls.mono (HA1.out _ hHeld) ?_; rintro e wd ⟨k3, rfl, hr2, hb2⟩)
                      have HMn := Lib.hid (HM.out.addB hb2 hr2.rows hr2.ap (fun r h => (nodeRs_ty r h).2))
                      have hSn := two_later hHeld hb2 (by omega) hz1
                      clear hr2 hb2
                      clear HM hHeld
                      have HM := HMn
                      clear HMn
                      refine hK.out _ _ hSn (fun hHeld => ?_)
                      clear hK K hSn
                      try simp only [Act.put, List.setIfInBounds_toArray, List.set_cons_zero, List.set_cons_succ]
                      refine wpAnyH_ready (rs := [6]) (by kernel_rfl) (by simp) ?_
                      refine AllReadyH.cons rfl (fun K hK => ?_) ?_
                      ·
                        refine step_store_row rfl 32 (.tmp 15) (.tmp 123) rfl rfl _ (nodeC n k2) rfl rfl 32 zeroNode (HM.out.q _ rfl).2 (by kernel_rfl) rfl (by kernel_rfl) ?_
                        have hSn := two_row hHeld _ (nodeC n k2) (HM.out.q _ rfl).1 (by omega) hz1
                        refine hK.out _ _ hSn (fun hHeld2 => ?_)
                        clear hK K hSn hHeld
                        refine wpAnyH_ready (rs := [7]) (by kernel_rfl) (by simp) ?_
                        refine AllReadyH.cons rfl (fun K hK => ?_) ?_
                        ·
                          refine step_store_row rfl 32 (.tmp 16) (.tmp 125) rfl rfl _ (nodeC n k3) rfl rfl 32 zeroNode (HM.out.other rfl rfl _) (by kernel_rfl) rfl (by kernel_rfl) ?_
                          have hSn := two_row hHeld2 _ (nodeC n k3) (HM.out.m _ rfl).1 (by omega) hz1
                          refine hK.out _ _ hSn (fun _ => ?_)
                          clear hK K hSn hHeld2
                          refine wpAnyH_done (by kernel_rfl) ?_ _
                          show K' _ _
                          refine hK' _ _ (Met.intro (hJ _ _ ?_))
                          (repeat apply Exists.intro)
                          refine ⟨?rel, rfl⟩
                          case rel => exact ⟨_, _, k2, k3, rfl, rfl, HM.out.fin _ _⟩
                        exact AllReadyH.nil
                      exact AllReadyH.nil
                    exact AllReadyH.nil
                  exact AllReadyH.nil
                exact AllReadyH.nil
              refine AllReadyH.cons rfl (fun K hK => ?_) ?_
              ·
                go_simp
                have HMn := Lib.hid HM.out.addM
                have hSn := two_alloc hHeld (.cells zeroNode 32) (by omega) hz1
                generalize hWn : World.alloc wz (.cells zeroNode 32) = wm at HMn hSn ⊢
                clear hWn
                clear HM hHeld
                have HM := HMn
                clear HMn
                refine hK.out _ _ hSn (fun hHeld => ?_)
                clear hK K hSn
                try simp only [Act.put, List.setIfInBounds_toArray, List.set_cons_zero, List.set_cons_succ]
                refine wpAnyH_ready (rs := [1, 4]) (by kernel_rfl) (by simp) ?_
                refine AllReadyH.cons rfl (fun K hK => ?_) ?_
                ·
                  go_simp
                  go_wp2_with (go_at_call 8; refine Calls.mono (HA1.out _ hHeld) ?_; rintro e wc ⟨k2, rfl, hr2, hb2⟩)
                  have HMn := Lib.hid (HM.out.addA hb2 hr2.rows hr2.ap (fun r h => (nodeRs_ty r h).2))
                  have hSn := two_later hHeld hb2 (by omega) hz1
                  clear hr2 hb2
                  clear HM hHeld
                  have HM := HMn
                  clear HMn
                  refine hK.out _ _ hSn (fun hHeld => ?_)
                  clear hK K hSn
                  try simp only [Act.put, List.setIfInBounds_toArray, List.set_cons_zero, List.set_cons_succ]
                  refine wpAnyH_ready (rs := [3, 4]) (by kernel_rfl) (by simp) ?_
                  refine AllReadyH.cons rfl (fun K hK => ?_) ?_
                  ·
                    go_simp
                    go_wp2_with (go_at_call 8; refine Calls.mono (HA1.out _ hHeld) ?_; rintro e wd ⟨k3, rfl, hr2, hb2⟩)
                    have HMn := Lib.hid (HM.out.addB hb2 hr2.rows hr2.ap (fun r h => (nodeRs_ty r h).2))
                    have hSn := two_later hHeld hb2 (by omega) hz1
                    clear hr2 hb2
                    clear HM hHeld
                    have HM := HMn
                    clear HMn
                    refine hK.out _ _ hSn (fun hHeld => ?_)
                    clear hK K hSn
                    try simp only [Act.put, List.setIfInBounds_toArray, List.set_cons_zero, List.set_cons_succ]
                    refine wpAnyH_ready (rs := [4]) (by kernel_rfl) (by simp) ?_
                    refine AllReadyH.cons rfl (fun K hK => ?_) ?_
                    ·
                      go_simp
                      have HMn := Lib.hid HM.out.addQ
                      have hSn := two_alloc hHeld (.cells zeroNode 32) (by omega) hz1
                      generalize hWn : World.alloc wd (.cells zeroNode 32) = wq at HMn hSn ⊢
                      clear hWn
                      clear HM hHeld
                      have HM := HMn
                      clear HMn
                      refine hK.out _ _ hSn (fun hHeld => ?_)
                      clear hK K hSn
                      try simp only [Act.put, List.setIfInBounds_toArray, List.set_cons_zero, List.set_cons_succ]
                      refine wpAnyH_ready (rs := [6]) (by kernel_rfl) (by simp) ?_
                      refine AllReadyH.cons rfl (fun K hK => ?_) ?_
                      ·
                        refine step_store_row rfl 32 (.tmp 15) (.tmp 123) rfl rfl _ (nodeC n k2) rfl rfl 32 zeroNode (HM.out.q _ rfl).2 (by kernel_rfl) rfl (by kernel_rfl) ?_
                        have hSn := two_row hHeld _ (nodeC n k2) (HM.out.q _ rfl).1 (by omega) hz1
                        refine hK.out _ _ hSn (fun hHeld2 => ?_)
                        clear hK K hSn hHeld
                        refine wpAnyH_ready (rs := [7]) (by kernel_rfl) (by simp) ?_
                        refine AllReadyH.cons rfl (fun K hK => ?_) ?_
                        ·
                          refine step_store_row rfl 32 (.tmp 16) (.tmp 125) rfl rfl _ (nodeC n k3) rfl rfl 32 zeroNode (HM.out.other rfl rfl _) (by kernel_rfl) rfl (by kernel_rfl) ?_
                          have hSn := two_row hHeld2 _ (nodeC n k3) (HM.out.m _ rfl).1 (by omega) hz1
                          refine hK.out _ _ hSn (fun _ => ?_)
                          clear hK K hSn hHeld2
                          refine wpAnyH_done (by kernel_rfl) ?_ _
                          show K' _ _
                          refine hK' _ _ (Met.intro (hJ _ _ ?_))
                          (repeat apply Exists.intro)
                          refine ⟨?rel, rfl⟩
                          case rel => exact ⟨_, _, k2, k3, rfl, rfl, HM.out.fin _ _⟩
                        exact AllReadyH.nil
                      exact AllReadyH.nil
                    exact AllReadyH.nil
                  refine AllReadyH.cons rfl (fun K hK => ?_) ?_
                  ·
                    go_simp
                    have HMn := Lib.hid HM.out.addQ
                    have hSn := two_alloc hHeld (.cells zeroNode 32) (by omega) hz1
                    generalize hWn : World.alloc wc (.cells zeroNode 32) = wq at HMn hSn ⊢
                    clear hWn
                    clear HM hHeld
                    have HM := HMn
                    clear HMn
                    refine hK.out _ _ hSn (fun hHeld => ?_)
                    clear hK K hSn
                    try simp only [Act.put, List.setIfInBounds_toArray, List.set_cons_zero, List.set_cons_succ]
                    refine wpAnyH_ready (rs := [3]) (by kernel_rfl) (by simp) ?_
                    refine AllReadyH.cons rfl (fun K hK => ?_) ?_
                    ·
                      go_simp
                      go_wp2_with (go_at_call 8; refine Calls.mono (HA1.out _ hHeld) ?_; rintro e wd ⟨k3, rfl, hr2, hb2⟩)
                      have HMn := Lib.hid (HM.out.addB hb2 hr2.rows hr2.ap (fun r h => (nodeRs_ty r h).2))
                      have hSn := two_later hHeld hb2 (by omega) hz1
                      clear hr2 hb2
                      clear HM hHeld
                      have HM := HMn
                      clear HMn
                      refine hK.out _ _ hSn (fun hHeld => ?_)
                      clear hK K hSn
                      try simp only [Act.put, List.setIfInBounds_toArray, List.set_cons_zero, List.set_cons_succ]
                      refine wpAnyH_ready (rs := [6]) (by kernel_rfl) (by simp) ?_
                      refine AllReadyH.cons rfl (fun K hK => ?_) ?_
                      ·
                        refine step_store_row rfl 32 (.tmp 15) (.tmp 123) rfl rfl _ (nodeC n k2) rfl rfl 32 zeroNode (HM.out.q _ rfl).2 (by kernel_rfl) rfl (by kernel_rfl) ?_
                        have hSn := two_row hHeld _ (nodeC n k2) (HM.out.q _ rfl).1 (by omega) hz1
                        refine hK.out _ _ hSn (fun hHeld2 => ?_)
                        clear hK K hSn hHeld
                        refine wpAnyH_ready (rs := [7]) (by kernel_rfl) (by simp) ?_
                        refine AllReadyH.cons rfl (fun K hK => ?_) ?_
                        ·
                          refine step_store_row rfl 32 (.tmp 16) (.tmp 125) rfl rfl _ (nodeC n k3) rfl rfl 32 zeroNode (HM.out.other rfl rfl _) (by kernel_rfl) rfl (by kernel_rfl) ?_
                          have hSn := two_row hHeld2 _ (nodeC n k3) (HM.out.m _ rfl).1 (by omega) hz1
                          refine hK.out _ _ hSn (fun _ => ?_)
                          clear hK K hSn hHeld2
                          refine wpAnyH_done (by kernel_rfl) ?_ _
                          show K' _ _
                          refine hK' _ _ (Met.intro (hJ _ _ ?_))
                          (repeat apply Exists.intro)
                          refine ⟨?rel, rfl⟩
                          case rel => exact ⟨_, _, k2, k3, rfl, rfl, HM.out.fin _ _⟩
                        exact AllReadyH.nil
                      exact AllReadyH.nil
                    exact AllReadyH.nil
                  exact AllReadyH.nil
                refine AllReadyH.cons rfl (fun K hK => ?_) ?_
                ·
                  go_simp
                  have HMn := Lib.hid HM.out.addQ
                  have hSn := two_alloc hHeld (.cells zeroNode 32) (by omega) hz1
                  generalize hWn : World.alloc wm (.cells zeroNode 32) = wq at HMn hSn ⊢
                  clear hWn
                  clear HM hHeld
                  have HM := HMn
                  clear HMn
                  refine hK.out _ _ hSn (fun hHeld => ?_)
                  clear hK K hSn
                  try simp only [Act.put, List.setIfInBounds_toArray, List.set_cons_zero, List.set_cons_succ]
                  refine wpAnyH_ready (rs := [1]) (by kernel_rfl) (by simp) ?_
                  refine AllReadyH.cons rfl (fun K hK => ?_) ?_
                  ·
                    go_simp
                    go_wp2_with (go_at_call 8; refine Calls.mono (HA1.out _ hHeld) ?_; rintro e wc ⟨k2, rfl, hr2, hb2⟩)
                    have HMn := Lib.hid (HM.out.addA hb2 hr2.rows hr2.ap (fun r h => (nodeRs_ty r h).2))
                    have hSn := two_later hHeld hb2 (by omega) hz1
                    clear hr2 hb2
                    clear HM hHeld
                    have HM := HMn
                    clear HMn
                    refine hK.out _ _ hSn (fun hHeld => ?_)
                    clear hK K hSn
                    try simp only [Act.put, List.setIfInBounds_toArray, List.set_cons_zero, List.set_cons_succ]
                    refine wpAnyH_ready (rs := [3]) (by kernel_rfl) (by simp) ?_
                    refine AllReadyH.cons rfl (fun K hK => ?_) ?_
                    ·
                      go_simp
                      go_wp2_with (go_at_call 8; refine Calls.mono (HA1.out _ hHeld) ?_; rintro e wd ⟨k3, rfl, hr2, hb2⟩)
                      have HMn := Lib.hid (HM.out.addB hb2 hr2.rows hr2.ap (fun r h => (nodeRs_ty r h).2))
                      have hSn := two_later hHeld hb2 (by omega) hz1
                      clear hr2 hb2
                      clear HM hHeld
                      have HM := HMn
                      clear HMn
                      refine hK.out _ _ hSn (fun hHeld => ?_)
                      clear hK K hSn
                      try simp only [Act.put, List.setIfInBounds_toArray, List.set_cons_zero, List.set_cons_succ]
                      refine wpAnyH_ready (rs := [6]) (by kernel_rfl) (by simp) ?_
                      refine AllReadyH.cons rfl (fun K hK => ?_) ?_
                      ·
                        refine step_store_row rfl 32 (.tmp 15) (.tmp 123) rfl rfl _ (nodeC n k2) rfl rfl 32 zeroNode (HM.out.q _ rfl).2 (by kernel_rfl) rfl (by kernel_rfl) ?_
                        have hSn := two_row hHeld _ (nodeC n k2) (HM.out.q _ rfl).1 (by omega) hz1
                        refine hK.out _ _ hSn (fun hHeld2 => ?_)
                        clear hK K hSn hHeld
                        refine wpAnyH_ready (rs := [7]) (by kernel_rfl) (by simp) ?_
                        refine AllReadyH.cons rfl (fun K hK => ?_) ?_
                        ·
                          refine step_store_row rfl 32 (.tmp 16) (.tmp 125) rfl rfl _ (nodeC n k3) rfl rfl 32 zeroNode (HM.out.other rfl rfl _) (by kernel_rfl) rfl (by kernel_rfl) ?_
                          have hSn := two_row hHeld2 _ (nodeC n k3) (HM.out.m _ rfl).1 (by omega) hz1
                          refine hK.out _ _ hSn (fun _ => ?_)
                          clear hK K hSn hHeld2
                          refine wpAnyH_done (by kernel_rfl) ?_ _
                          show K' _ _
                          refine hK' _ _ (Met.intro (hJ _ _ ?_))
                          (repeat apply Exists.intro)
                          refine ⟨?rel, rfl⟩
                          case rel => exact ⟨_, _, k2, k3, rfl, rfl, HM.out.fin _ _⟩
                        exact AllReadyH.nil
                      exact AllReadyH.nil
                    exact AllReadyH.nil
                  exact AllReadyH.nil
                exact AllReadyH.nil
              exact AllReadyH.nil
            case rest =>
              obtain ⟨C, D, ⟨xa, xc, ya, yc⟩, gd, rfl, rfl, hO⟩ := hcut
              have hcl63 := Nat.le_trans hcl.1 hcl.2.1
              have hct63 := Nat.le_trans hct.1 hct.2.1
              unfold maxLen at hcl63 hct63
              have HO : Hid (Ow 32 w2 wc C D (nodeC n ⟨xa, xc, ya, yc⟩) (nodeC n gd) (rowP 36 xa xc n.labels :: (rowP 44 ya yc n.taints :: nodeRs n gd))) := hO
              clear hO HA1 hbd
              go_step
              go_step
              go_cut [] from 19 (fun W => Hid (Ow 32 w2 W C D (nodeC n ⟨xa, xc, ya, yc⟩) (nodeC n gd) (rowP 44 ya yc n.taints :: nodeRs n gd)))
              case first J K' hJ hK' =>
               as_aux_lemma =>
                have cQ := fun o => cell_of_obj HO.out.q o
                have hr : reachBytes ≤ 140737488351232 := by decide
                go_wp2_with fail
                clear cQ
                go_loopw [129] (fun i W => ∃ q : Nat, q ≤ n.labels.length ∧ i = .int .i64 q ∧ ∃ l : List Str2, l.length = n.labels.length ∧ Hid (∀ j, q ≤ j → j < l.length → (l.getD j (⟨#[]⟩, ⟨#[]⟩)).1.size ≤ reachBytes) ∧ Hid (Ow 32 w2 W C D (nodeC n ⟨xa, xc, ya, yc⟩) (nodeC n gd) (rowP 36 xa xc l :: (rowP 44 ya yc n.taints :: nodeRs n gd)))) (fun i _ => n.labels.length - (intOf i).toNat)
                case atStart => exact ⟨0, Nat.zero_le _, rfl, n.labels, rfl, fun j _ hj => ht.nlabels _ (getD_mem hj), HO⟩
                case round =>
                  clear HO
                  obtain ⟨q, hq, rfl, l, hl, HS, HO⟩ := hrel
                  by_cases hlq : q < n.labels.length
                  · obtain ⟨g1, rfl, hg, cc, _, fz⟩ := Ow.cellP (pre := []) (q := q) HO.out (by omega)
                    have cQ := fun o => cell_of_obj HO.out.q o
                    have hst := Lib.hid (fun y => Ow.setP0 (pre := []) HO.out hg (q := q) (by omega) y)
                    have hsz := HS.out q (Nat.le_refl _) (by omega)
                    have HS2 : Hid (∀ y, ∀ j, q + 1 ≤ j → j < (l.set q y).length → ((l.set q y).getD j (⟨#[]⟩, ⟨#[]⟩)).1.size ≤ reachBytes) := fun y j h1 h2 => by
                      rw [getD_set_ne (by omega)]; exact HS.out j (by omega) (by rw [List.length_set] at h2; exact h2)
                    clear HO hg HS
                    generalize l.getD q (⟨#[]⟩, ⟨#[]⟩) = u at *
                    obtain ⟨u1, u2⟩ := u
                    have hcat : ¬ 9223372036854775807 < u1.size + 1 := by
                      have hsz : u1.size ≤ reachBytes := hsz
                      omega
                    go_wp2
                    go_roundw
                    case rel => exact ⟨q + 1, by omega, by go_num, _, by rw [List.length_set]; exact hl, HS2.out _, hst.out _⟩
                    case measure => simp [intOf]; omega
                  · go_wp2
                    go_meet
                    case rel => exact Ow.drop (pre := []) HO.out
              case rest =>
                clear HO
                have HO := hcut
                clear hcut
                go_step
                go_step
                go_cut [] from 19 (fun W => Hid (Ow 32 w2 W C D (nodeC n ⟨xa, xc, ya, yc⟩) (nodeC n gd) (nodeRs n gd)))
                case first J K' hJ hK' =>
                 as_aux_lemma =>
                  have cQ := fun o => cell_of_obj HO.out.q o
                  have hr : reachBytes ≤ 140737488351232 := by decide
                  go_wp2_with fail
                  clear cQ
                  go_loopw [145] (fun i W => ∃ q : Nat, q ≤ n.taints.length ∧ i = .int .i64 q ∧ ∃ l : List Str2, l.length = n.taints.length ∧ Hid (∀ j, q ≤ j → j < l.length → (l.getD j (⟨#[]⟩, ⟨#[]⟩)).2.size ≤ reachBytes) ∧ Hid (Ow 32 w2 W C D (nodeC n ⟨xa, xc, ya, yc⟩) (nodeC n gd) (rowP 44 ya yc l :: nodeRs n gd))) (fun i _ => n.taints.length - (intOf i).toNat)
                  case atStart => exact ⟨0, Nat.zero_le _, rfl, n.taints, rfl, fun j _ hj => ht.ntaints _ (getD_mem hj), HO⟩
                  case round =>
                    clear HO
                    obtain ⟨q, hq, rfl, l, hl, HS, HO⟩ := hrel
                    by_cases hlq : q < n.taints.length
                    · obtain ⟨g1, rfl, hg, _, cc, fz⟩ := Ow.cellP (pre := []) (q := q) HO.out (by omega)
                      have cQ := fun o => cell_of_obj HO.out.q o
                      have hst := Lib.hid (fun y => Ow.setP1 (pre := []) HO.out hg (q := q) (by omega) y)
                      have hsz := HS.out q (Nat.le_refl _) (by omega)
                      have HS2 : Hid (∀ y, ∀ j, q + 1 ≤ j → j < (l.set q y).length → ((l.set q y).getD j (⟨#[]⟩, ⟨#[]⟩)).2.size ≤ reachBytes) := fun y j h1 h2 => by
                        rw [getD_set_ne (by omega)]; exact HS.out j (by omega) (by rw [List.length_set] at h2; exact h2)
                      clear HO hg HS
                      generalize l.getD q (⟨#[]⟩, ⟨#[]⟩) = u at *
                      obtain ⟨u1, u2⟩ := u
                      have hcat : ¬ 9223372036854775807 < u2.size + 1 := by
                        have hsz : u2.size ≤ reachBytes := hsz
                        omega
                      go_wp2
                      go_roundw
                      case rel => exact ⟨q + 1, by omega, by go_num, _, by rw [List.length_set]; exact hl, HS2.out _, hst.out _⟩
                      case measure => simp [intOf]; omega
                    · go_wp2
                      go_meet
                      case rel => exact Ow.drop (pre := []) HO.out
                case rest =>
                 as_aux_lemma =>
                  clear HO
                  have HO := hcut
                  clear hcut
                  have hb2 := HO.out.b
                  have cA := fun o => (hb2.cell (p := ⟨w.heap.size, o, none⟩) (Nat.lt_of_succ_lt hz1)).trans (hA2 o)
                  have cB := fun o => (hb2.cell (p := ⟨w.heap.size + 1, o, none⟩) hz1).trans (hB2 o)
                  have cM := fun o => cell_of_obj (heap_keep hb2 hqm) o
                  have cD := fun o => cell_of_obj HO.out.m o
                  have hlt : w.heap.size + 1 < wc.heap.size := Nat.lt_of_lt_of_le hz1 hb2.size
                  have hbw3 : Below w.heap.size w wc := hbw2.trans (hb2.mono hbw2.size)
                  have T1 := eqPod_me p
                  have T2 := eqNode_self n
                  have P1 := hcp2.below hb2
                  have P2 := hpa.below hb2
                  have N1 := hn2.below hb2
                  have HD := HO.out.m
                  have N2 : NodeAt wc n gd := (NodeRows.of HO.out.own).at
                  clear HO hA2 hB2 hqm hcp2 hpa hn2 hb2 hbw2 ht hcl hct
                  go_wp2_with fail
                  refine Calls.mono (eqPod_any p p h kb _ P1 P2) ?_
                  rintro e w4 ⟨he, hb4⟩
                  rw [T1] at he
                  subst he
                  have dB := fun o => (hb4.cell (p := ⟨w.heap.size + 1, o, none⟩) hlt).trans (cB o)
                  have dD := fun o => cell_of_obj (heap_keep hb4 HD) o
                  have N3 := N1.below hb4
                  have N4 := N2.below hb4
                  have hbw4 : Below w.heap.size w w4 := hbw3.trans (hb4.mono hbw3.size)
                  clear cA cB cM cD P1 P2 N1 N2 HD hb4 hbw3
                  go_wp2_with fail
                  refine Calls.mono (eqNode_any n n g gd _ N3 N4) ?_
                  rintro e w5 ⟨he, hb5⟩
                  rw [T2] at he
                  subst he
                  have hbw5 : Below w.heap.size w w5 := hbw4.trans (hb5.mono hbw4.size)
                  go_wp2
                  go_ret
                  exact ⟨rfl, hbw5⟩
end Go.Proofs.Ytnobgmdknalpdaa
