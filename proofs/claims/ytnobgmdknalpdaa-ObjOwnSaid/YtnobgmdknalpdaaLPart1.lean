/-
  Equal pods and nodes; a region that copies a pod and a node in any order; a pod in a block of its own of which one list has grown by one. No conditions beyond what is written in each statement.
-/
import Derived.Test.YtnobgmdknalpdaaOpen2
import Derived.Test.YtnobgmdknalpdaaEqN
import Derived.Test.YtnobgmdknalpdaaLAgain0
import Derived.Test.YtnobgmdknalpdaaLApp
import Derived.Test.YtnobgmdknalpdaaBeg2
import Derived.Deep.Onto
set_option linter.unusedSimpArgs false
set_option linter.unusedVariables false
namespace Go.Proofs.Ytnobgmdknalpdaa
open Go.RowKit

theorem eqL_eq {α : Type} {eq : α → α → Bool} (h : ∀ x y, eq x y = true → x = y) : ∀ l m, eqL eq l m = true → l = m
  | [], [], _ => rfl
  | x :: r, y :: s, e => by
    rw [eqL, Bool.and_eq_true] at e
    rw [h x y e.1, eqL_eq h r s e.2]
  | [], y :: s, e => by simp [eqL] at e
  | x :: r, [], e => by simp [eqL] at e
theorem eqT_eq (x y : Trm) (h : eqT x y = true) : x = y := by
  unfold eqT at h
  simp only [Bool.and_eq_true, decide_eq_true_eq] at h
  obtain ⟨a, b, c⟩ := x
  obtain ⟨d, e, f⟩ := y
  obtain ⟨⟨h1, h2⟩, h3⟩ := h
  simp only at h1 h2 h3
  rw [h1, h2, eqL_eq (fun x y e => by simpa [eqS] using e) _ _ h3]
theorem eqP_eq (x y : Str2) (h : eqP x y = true) : x = y := by
  unfold eqP at h
  simp only [Bool.and_eq_true, decide_eq_true_eq] at h
  exact Prod.ext h.1 h.2
theorem eqK_eq (x y : Tol) (h : eqK x y = true) : x = y := by
  unfold eqK at h
  simp only [Bool.and_eq_true, decide_eq_true_eq] at h
  exact Prod.ext h.1.1 (Prod.ext h.1.2 h.2)
theorem eqPod_eq {p q : PodD} (h : eqPodB p q = true) : p = q := by
  unfold eqPodB eqRB at h
  simp only [Bool.and_eq_true, decide_eq_true_eq, beq_iff_eq] at h
  obtain ⟨⟨⟨⟨⟨⟨⟨⟨⟨⟨⟨⟨⟨h1, h2⟩, h3⟩, ⟨h4, h5⟩, h6⟩, h7⟩, h8⟩, h9⟩, h10⟩, h11⟩, h12⟩, h13⟩, h14⟩, h15⟩, h16⟩ := h
  have e7 := eqL_eq (fun x y e => by simpa [eqI] using e) _ _ h7
  have e8 := eqL_eq eqP_eq _ _ h8
  have e9 := eqL_eq eqT_eq _ _ h9
  have e10 := eqL_eq eqK_eq _ _ h10
  have e12 := eqL_eq eqT_eq _ _ h12
  have e14 := eqL_eq eqT_eq _ _ h14
  cases p; cases q
  simp only at *
  subst h1 h2 h3 h4 h5 h6 e7 e8 e9 e10 h11 e12 h13 e14 h15 h16
  rfl
theorem eqNode_eq {p q : NodeD} (h : eqNodeB p q = true) : p = q := by
  unfold eqNodeB eqRB at h
  simp only [Bool.and_eq_true, decide_eq_true_eq] at h
  obtain ⟨⟨⟨h1, ⟨h4, h5⟩, h6⟩, h7⟩, h8⟩ := h
  have e7 := eqL_eq eqP_eq _ _ h7
  have e8 := eqL_eq eqP_eq _ _ h8
  cases p; cases q
  simp only at *
  subst h1 h4 h5 h6 e7 e8
  rfl
theorem eqPod_no {p q : PodD} (h : p ≠ q) : eqPodB p q = false ∧ eqPodB q p = false := by
  refine ⟨?_, ?_⟩
  · cases e : eqPodB p q
    · rfl
    · exact absurd (eqPod_eq e) h
  · cases e : eqPodB q p
    · rfl
    · exact absurd (eqPod_eq e).symm h
theorem eqNode_no {p q : NodeD} (h : p ≠ q) : eqNodeB p q = false := by
  cases e : eqNodeB p q
  · rfl
  · exact absurd (eqNode_eq e) h
theorem eqNode_self (p : NodeD) : eqNodeB p p = true := by
  have e : ∀ l : List Str2, eqL eqP l l = true := by
    intro l
    induction l with
    | nil => rfl
    | cons x r ih => rw [eqL, ih]; simp [eqP]
  unfold eqNodeB eqRB
  rw [e, e]
  simp
theorem eqL_me {α : Type} {eq : α → α → Bool} (h : ∀ x, eq x x = true) : ∀ l, eqL eq l l = true
  | [] => rfl
  | x :: r => by rw [eqL, h x, eqL_me h r]; rfl
theorem eqT_me (t : Trm) : eqT t t = true := by
  unfold eqT
  rw [eqL_me (fun x => by simp [eqS])]
  simp
theorem eqPod_me (p : PodD) : eqPodB p p = true := by
  unfold eqPodB eqRB
  rw [eqL_me (fun x => by simp [eqI]), eqL_me (fun x => by simp [eqP]), eqL_me eqT_me, eqL_me (fun x => by simp [eqK]), eqL_me eqT_me, eqL_me eqT_me]
  simp

/-- A node's block of zeros. -/
abbrev zeroNode : Array Value := #[.string ⟨#[]⟩, .int .i64 0, .int .i64 0, .int .i64 0, .slice none 0 0, .slice none 0 0]
theorem step_store_row {ops : Array Oper} {o : Oper} {a : Act} {w : World} {K : Act → World → Prop} {Q : Exit → Act → World → Prop} {E : Prop} (hgd : o.guard = none) (ty : TypeId) (x y : Operand) (ho : o.op = .store ty x y) (hd : o.dst = none)
    (g : Nat) (cells : Array Value) (hx : a.eval x = .pointer (some ⟨g, 0, none⟩)) (hy : a.eval y = .agg cells)
    (t : TypeId) (old : Array Value) (hg : w.heap[g]? = some (.cells old t (0, 0))) (hi : (Try.prog.info? ty).map (·.size) = some cells.size)
    (hold : old.size = cells.size) (h1 : cells.all (·.oneCell') = true) (h : K a (w.setRow g cells)) : if Region.wanted o (yielded ops a.tmps) = true then Oper.wp Try.prog o a w K Q else E := by
  have hw : Region.wanted o (yielded ops a.tmps) = true := by simp [Region.wanted, hgd]
  rw [if_pos hw]
  refine wp_store_row ty x y ho g cells hx hy t old hg hi hold h1 ?_
  rw [hd]
  exact h
theorem PodC.below {w w1 : World} {p : PodD} {h : PodH} (hp : PodC w p h) (hb : Below w.heap.size w w1) : PodC w1 p h :=
  ⟨⟨hp.ports.1.below hb, hp.ports.2⟩, ⟨hp.labels.1.below hb, hp.labels.2⟩, hp.sel.below hb, ⟨hp.tols.1.below hb, hp.tols.2⟩, hp.anti.below hb, hp.even.below hb⟩
theorem RowF.In.low {r : RowF} {w : World} {N M : Nat} (h : r.In w N) (hb : M ≤ N) : r.In w M := World.ownsRow.mono h hb
theorem PodNew.low {w : World} {N M : Nat} {p : PodD} {h : PodH} (hn : PodNew w N p h) (hb : M ≤ N) : PodNew w M p h := by
  obtain ⟨Ls, La, Le, e1, e2, e3, hr, hp⟩ := hn
  exact ⟨Ls, La, Le, e1, e2, e3, fun r h => (hr r h).low hb, hp⟩
theorem PodNew.later {w w' : World} {N : Nat} {p : PodD} {h : PodH} (hn : PodNew w N p h) (hb : Below w.heap.size w w') : PodNew w' N p h := by
  obtain ⟨Ls, La, Le, e1, e2, e3, hr, hp⟩ := hn
  exact ⟨Ls, La, Le, e1, e2, e3, fun r h => (hr r h).kept hb, hp⟩
theorem NodeRows.low {w : World} {N M : Nat} {p : NodeD} {h : NodeH} (hn : NodeRows w N p h) (hb : M ≤ N) : NodeRows w M p h := ⟨World.ownsRow.mono hn.1 hb, World.ownsRow.mono hn.2 hb⟩
theorem NodeRows.later {w w' : World} {N : Nat} {p : NodeD} {h : NodeH} (hn : NodeRows w N p h) (hb : Below w.heap.size w w') : NodeRows w' N p h := ⟨own_below hn.1 hb, own_below hn.2 hb⟩
def nodeRs (n : NodeD) (g : NodeH) : List RowF := [rowP 36 g.la g.lc n.labels, rowP 44 g.ta g.tc n.taints]
theorem NodeRows.rows {w : World} {N : Nat} {n : NodeD} {g : NodeH} (h : NodeRows w N n g) : ∀ s ∈ nodeRs n g, s.In w N := by
  intro s hs
  simp only [nodeRs, List.mem_cons, List.not_mem_nil, or_false] at hs
  rcases hs with rfl | rfl
  · exact h.1
  · exact h.2
theorem NodeRows.of {w : World} {N : Nat} {n : NodeD} {g : NodeH} (h : ∀ s ∈ nodeRs n g, s.In w N) : NodeRows w N n g := ⟨h (rowP 36 g.la g.lc n.labels) (by simp [nodeRs]), h (rowP 44 g.ta g.tc n.taints) (by simp [nodeRs])⟩
theorem nodeRs_ty {n : NodeD} {g : NodeH} : ∀ r ∈ nodeRs n g, 29 ≠ r.t ∧ 32 ≠ r.t := by
  intro r hr
  simp only [nodeRs, List.mem_cons, List.not_mem_nil, or_false] at hr
  rcases hr with rfl | rfl
  all_goals (refine ⟨?_, ?_⟩ <;> (intro e; simp [rowP] at e))
/-- A pod's copy, and a node's made behind it. -/
def PodNewX (w : World) (N : Nat) (p : PodD) (h : PodH) (n : NodeD) (k3 : Option NodeH) : Prop := ∃ Ls La Le, Ls.map (·.1) = p.sel ∧ La.map (·.1) = p.anti ∧ Le.map (·.1) = p.even ∧ (∀ r ∈ podRows p h Ls La Le, r.In w N) ∧ (podRows p h Ls La Le).Pairwise Apart
  ∧ ∀ g, k3 = some g → ∀ s ∈ nodeRs n g, ∀ r ∈ podRows p h Ls La Le, Apart s r
/-- On the way: what stands so far. -/
structure Mid (w1 W : World) (Q M : Option Nat) (p : PodD) (k2 : Option PodH) (n : NodeD) (k3 : Option NodeH) : Prop where
  b : Below w1.heap.size w1 W
  q : ∀ x, Q = some x → w1.heap.size ≤ x ∧ W.heap[x]? = some (.cells zeroCells 29)
  m : ∀ x, M = some x → w1.heap.size ≤ x ∧ W.heap[x]? = some (.cells zeroNode 32)
  c : ∀ k, k2 = some k → PodNewX W w1.heap.size p k n k3
  d : ∀ k, k3 = some k → NodeRows W w1.heap.size n k
section
variable {w1 W W' : World} {Q M : Option Nat} {p : PodD} {k2 : Option PodH} {n : NodeD} {k3 : Option NodeH}
theorem heap_keep {W W' : World} (hb : Below W.heap.size W W') {x : Nat} {o : Obj} (h : W.heap[x]? = some o) : W'.heap[x]? = some o := (hb.block x (Array.getElem?_eq_some_iff.1 h).1).trans h
theorem PodNewX.later {w w' : World} {N : Nat} {p : PodD} {h : PodH} {n : NodeD} {k3 : Option NodeH} (hn : PodNewX w N p h n k3) (hb : Below w.heap.size w w') : PodNewX w' N p h n k3 := by
  obtain ⟨Ls, La, Le, e1, e2, e3, hr, hp⟩ := hn
  exact ⟨Ls, La, Le, e1, e2, e3, fun r h => (hr r h).kept hb, hp⟩
theorem Mid.later (h : Mid w1 W Q M p k2 n k3) (hb : Below W.heap.size W W') : Mid w1 W' Q M p k2 n k3 :=
  ⟨h.b.trans (hb.mono h.b.size), fun x e => ⟨(h.q x e).1, heap_keep hb (h.q x e).2⟩, fun x e => ⟨(h.m x e).1, heap_keep hb (h.m x e).2⟩, fun k e => (h.c k e).later hb, fun k e => (h.d k e).later hb⟩
theorem Mid.addQ (h : Mid w1 W none M p k2 n k3) : Mid w1 (W.alloc (.cells zeroCells 29)) (some W.heap.size) M p k2 n k3 := by
  have h' := h.later ((Below.refl _ _).alloc (Nat.le_refl _) (.cells zeroCells 29))
  exact ⟨h'.b, fun x e => by cases e; exact ⟨h.b.size, heap_alloc_self _ _⟩, h'.m, h'.c, h'.d⟩
theorem Mid.addM (h : Mid w1 W Q none p k2 n k3) : Mid w1 (W.alloc (.cells zeroNode 32)) Q (some W.heap.size) p k2 n k3 := by
  have h' := h.later ((Below.refl _ _).alloc (Nat.le_refl _) (.cells zeroNode 32))
  exact ⟨h'.b, h'.q, fun x e => by cases e; exact ⟨h.b.size, heap_alloc_self _ _⟩, h'.c, h'.d⟩
theorem Mid.addC {k : PodH} (h : Mid w1 W Q M p none n none) (hb : Below W.heap.size W W') (hn : PodNew W' W.heap.size p k) : Mid w1 W' Q M p (some k) n none := by
  have h' := h.later hb
  obtain ⟨Ls, La, Le, e1, e2, e3, hr, hp⟩ := hn.low h.b.size
  exact ⟨h'.b, h'.q, h'.m, fun x e => by cases e; exact ⟨Ls, La, Le, e1, e2, e3, hr, hp, fun g e => by cases e⟩, h'.d⟩
theorem Mid.addD {g : NodeH} (h : Mid w1 W Q M p k2 n none) (hb : Below W.heap.size W W') (hn : NodeRows W' W.heap.size n g) : Mid w1 W' Q M p k2 n (some g) := by
  have h' := h.later hb
  refine ⟨h'.b, h'.q, h'.m, fun k e => ?_, fun x e => by cases e; exact hn.low h.b.size⟩
  obtain ⟨Ls, La, Le, e1, e2, e3, hr, hp, _⟩ := h.c k e
  exact ⟨Ls, La, Le, e1, e2, e3, fun r h => (hr r h).kept hb, hp, fun g e s hs r hr' => by cases e; exact apart_later (hr r hr') (hn.rows s hs) (Nat.le_refl _)⟩
end
theorem Mid.other {w1 W : World} {Q M : Option Nat} {p : PodD} {k2 : Option PodH} {n : NodeD} {k3 : Option NodeH} (h : Mid w1 W Q M p k2 n k3) {x y : Nat} (hx : Q = some x) (hy : M = some y) (cs : Array Value) : (W.setRow x cs).heap[y]? = some (.cells zeroNode 32) := by
  have hq := (h.q x hx).2
  have hm := (h.m y hy).2
  have hne : y ≠ x := fun e => by rw [e] at hm; have := hm.symm.trans hq; simp at this
  rw [setRow_other W x y _ hne]; exact hm
theorem two_row {w0 W : World} {A B : Nat} {cA cB : Array Value} (h : Below w0.heap.size w0 W ∧ (∀ o, W.cell? ⟨A, o, none⟩ = cA[o]?) ∧ (∀ o, W.cell? ⟨B, o, none⟩ = cB[o]?)) (g : Nat) (cs : Array Value) (hg : w0.heap.size ≤ g) (hA : A < w0.heap.size) (hB : B < w0.heap.size) :
    Below w0.heap.size w0 (W.setRow g cs) ∧ (∀ o, (W.setRow g cs).cell? ⟨A, o, none⟩ = cA[o]?) ∧ (∀ o, (W.setRow g cs).cell? ⟨B, o, none⟩ = cB[o]?) :=
  have hb : Below g W (W.setRow g cs) := Below.setRow (Below.refl _ _) (Nat.le_refl _) cs
  ⟨Below.setRow h.1 hg cs, fun o => (hb.cell (p := ⟨A, o, none⟩) (Nat.lt_of_lt_of_le hA hg)).trans (h.2.1 o), fun o => (hb.cell (p := ⟨B, o, none⟩) (Nat.lt_of_lt_of_le hB hg)).trans (h.2.2 o)⟩
theorem two_alloc {w0 W : World} {A B : Nat} {cA cB : Array Value} (h : Below w0.heap.size w0 W ∧ (∀ o, W.cell? ⟨A, o, none⟩ = cA[o]?) ∧ (∀ o, W.cell? ⟨B, o, none⟩ = cB[o]?)) (x : Obj) (hA : A < w0.heap.size) (hB : B < w0.heap.size) :
    Below w0.heap.size w0 (W.alloc x) ∧ (∀ o, (W.alloc x).cell? ⟨A, o, none⟩ = cA[o]?) ∧ (∀ o, (W.alloc x).cell? ⟨B, o, none⟩ = cB[o]?) := two_later h ((Below.refl _ _).alloc (Nat.le_refl _) x) hA hB
theorem rows_setRow {w : World} {N A : Nat} {t : TypeId} {rs : List RowF} (hr : ∀ r ∈ rs, r.In w N) (ht : ∀ r ∈ rs, t ≠ r.t) (hA : HasTy w A t) (cs : Array Value) : ∀ r ∈ rs, r.In (w.setRow A cs) N := fun r h => World.ownsRow.kept (hr r h) (grown_setRow w A cs) (Or.inr (own_ne (hr r h) hA (ht r h)))
theorem rows_setCell {w : World} {N A : Nat} {t : TypeId} {rs : List RowF} (hr : ∀ r ∈ rs, r.In w N) (ht : ∀ r ∈ rs, t ≠ r.t) (hA : HasTy w A t) (j : Nat) (v : Value) : ∀ r ∈ rs, r.In (w.setCell ⟨A, j, none⟩ v) N := fun r h => World.ownsRow.kept (hr r h) (grown_set w A j v) (Or.inr (own_ne (hr r h) hA (ht r h)))
theorem heap_setRow_self {W : World} {A : Nat} {old cs : Array Value} {t : TypeId} (h : W.heap[A]? = some (.cells old t)) : (W.setRow A cs).heap[A]? = some (.cells cs t) := by
  have hlt := (Array.getElem?_eq_some_iff.1 h).1
  simp only [World.setRow, Array.getElem?_modify, h, if_pos]
  rfl
/-- Behind the region: a pod, a node, and their lists. -/
structure Fi (w1 V : World) (Q M : Nat) (p : PodD) (k : PodH) (n : NodeD) (g : NodeH) (Ls La Le : List TrmH) : Prop where
  b : Below w1.heap.size w1 V
  lq : w1.heap.size ≤ Q
  lm : w1.heap.size ≤ M
  q : V.heap[Q]? = some (.cells (podCs p k) 29)
  m : V.heap[M]? = some (.cells (nodeC n g) 32)
  e1 : Ls.map (·.1) = p.sel
  e2 : La.map (·.1) = p.anti
  e3 : Le.map (·.1) = p.even
  own : ∀ r ∈ podRows p k Ls La Le, r.In V w1.heap.size
  ap : (podRows p k Ls La Le).Pairwise Apart
  d : ∀ s ∈ nodeRs n g, s.In V w1.heap.size
  nd : ∀ s ∈ nodeRs n g, ∀ r ∈ podRows p k Ls La Le, Apart s r
theorem Mid.fin {w1 W : World} {Q M : Nat} {p : PodD} {k : PodH} {n : NodeD} {g : NodeH} (h : Mid w1 W (some Q) (some M) p (some k) n (some g)) : ∃ Ls La Le, Fi w1 ((W.setRow Q (podCs p k)).setRow M (nodeC n g)) Q M p k n g Ls La Le := by
  obtain ⟨Ls, La, Le, e1, e2, e3, hr, hp, hx⟩ := h.c k rfl
  have hq := h.q Q rfl
  have hm := h.m M rfl
  have hne : M ≠ Q := fun e => by rw [e] at hm; have := hm.2.symm.trans hq.2; simp at this
  have hd := (h.d g rfl).rows
  have tQ : HasTy W Q 29 := ⟨_, _, hq.2⟩
  have m1 : (W.setRow Q (podCs p k)).heap[M]? = some (.cells zeroNode 32) := by rw [setRow_other W Q M _ hne]; exact hm.2
  have q1 : (W.setRow Q (podCs p k)).heap[Q]? = some (.cells (podCs p k) 29) := heap_setRow_self hq.2
  have tM : HasTy (W.setRow Q (podCs p k)) M 32 := ⟨_, _, m1⟩
  refine ⟨Ls, La, Le, Below.setRow (Below.setRow h.b hq.1 _) hm.1 _, hq.1, hm.1, ?_, heap_setRow_self m1, e1, e2, e3, ?_, hp, ?_, hx g rfl⟩
  · rw [setRow_other _ M Q _ (Ne.symm hne)]; exact q1
  · exact rows_setRow (rows_setRow hr (fun r h => (podRows_ty r h).1) tQ _) (fun r h => (podRows_ty r h).2) tM _
  · exact rows_setRow (rows_setRow hd (fun r h => (nodeRs_ty r h).1) tQ _) (fun r h => (nodeRs_ty r h).2) tM _
theorem Fi.later {w1 V V' : World} {Q M : Nat} {p : PodD} {k : PodH} {n : NodeD} {g : NodeH} {Ls La Le : List TrmH} (h : Fi w1 V Q M p k n g Ls La Le) (hb : Below V.heap.size V V') : Fi w1 V' Q M p k n g Ls La Le :=
  ⟨h.b.trans (hb.mono h.b.size), h.lq, h.lm, heap_keep hb h.q, heap_keep hb h.m, h.e1, h.e2, h.e3, fun r x => (h.own r x).kept hb, h.ap, fun r x => (h.d r x).kept hb, h.nd⟩
/-- Behind a change of the pod: it stands in its block but for a few cells. -/
structure Fj (w1 V : World) (Q M : Nat) (cq : Array Value) (p : PodD) (k : PodH) (n : NodeD) (g : NodeH) : Prop where
  b : Below w1.heap.size w1 V
  lq : w1.heap.size ≤ Q
  lm : w1.heap.size ≤ M
  q : V.heap[Q]? = some (.cells cq 29)
  m : V.heap[M]? = some (.cells (nodeC n g) 32)
  own : PodOwn V w1.heap.size p k
  d : ∀ s ∈ nodeRs n g, s.In V w1.heap.size
theorem Fi.toJ {w1 V : World} {Q M : Nat} {p : PodD} {k : PodH} {n : NodeD} {g : NodeH} {Ls La Le : List TrmH} (h : Fi w1 V Q M p k n g Ls La Le) : Fj w1 V Q M (podCs p k) p k n g := ⟨h.b, h.lq, h.lm, h.q, h.m, ⟨Ls, La, Le, h.e1, h.e2, h.e3, h.own⟩, h.d⟩
theorem Fj.set {w1 V : World} {Q M : Nat} {cq : Array Value} {p : PodD} {k : PodH} {n : NodeD} {g : NodeH} (h : Fj w1 V Q M cq p k n g) (j : Nat) (v : Value) : Fj w1 (V.setCell ⟨Q, j, none⟩ v) Q M (cq.setIfInBounds j v) p k n g := by
  obtain ⟨Ls, La, Le, e1, e2, e3, hr⟩ := h.own
  have tQ : HasTy V Q 29 := ⟨_, _, h.q⟩
  have hne : M ≠ Q := fun e => by have := h.m; rw [e] at this; have := this.symm.trans h.q; simp at this
  exact ⟨h.b.setCell h.lq _, h.lq, h.lm, obj_setN h.q rfl, by rw [heap_setCell_other V ⟨Q, j, none⟩ M v hne]; exact h.m, ⟨Ls, La, Le, e1, e2, e3, rows_setCell hr (fun r h => (podRows_ty r h).1) tQ _ _⟩, rows_setCell h.d (fun r h => (nodeRs_ty r h).1) tQ _ _⟩
/-- One list of a pod has grown. -/
theorem rows_app {W W' : World} {N : Nat} {pre post : List RowF} {r r' : RowF} (own : ∀ s ∈ pre ++ r :: post, s.In W N) (ap : (pre ++ r :: post).Pairwise Apart) (hg : W.grownBy W' r.v.ownBlock) (ho : r'.In W' N) : ∀ s ∈ pre ++ r' :: post, s.In W' N := by
  intro s hs
  rw [List.pairwise_append] at ap
  obtain ⟨_, a2, a3⟩ := ap
  rw [List.pairwise_cons] at a2
  rcases List.mem_append.1 hs with h | h
  · exact World.ownsRow.kept (own s (List.mem_append.2 (Or.inl h))) hg (a3 s h r (by simp))
  · rcases List.mem_cons.1 h with rfl | h
    · exact ho
    · exact World.ownsRow.kept (own s (by simp [h])) hg (a2.1 s h).symm
theorem Fi.app {w1 V V' : World} {Q M : Nat} {p p' : PodD} {k k' : PodH} {n : NodeD} {g : NodeH} {Ls La Le : List TrmH} (h : Fi w1 V Q M p k n g Ls La Le) {r : RowF} (hr : r ∈ podRows p k Ls La Le) (hg : V.grownBy V' r.v.ownBlock) (hb : Below w1.heap.size w1 V') (ho : PodOwn V' w1.heap.size p' k') : Fj w1 V' Q M (podCs p k) p' k' n g := by
  have hQ := h.q
  have hM := h.m
  refine ⟨hb, h.lq, h.lm, (hg.block Q (Array.getElem?_eq_some_iff.1 hQ).1 (Ne.symm (own_ne (h.own r hr) ⟨_, _, hQ⟩ (podRows_ty r hr).1))).trans hQ, (hg.block M (Array.getElem?_eq_some_iff.1 hM).1 (Ne.symm (own_ne (h.own r hr) ⟨_, _, hM⟩ (podRows_ty r hr).2))).trans hM, ho, fun s hs => World.ownsRow.kept (h.d s hs) hg (h.nd s hs r hr)⟩

theorem Fi.grow {w1 V V' : World} {Q M : Nat} {p p' : PodD} {k k' : PodH} {n : NodeD} {g : NodeH} {Ls La Le : List TrmH} (h : Fi w1 V Q M p k n g Ls La Le) {pre post : List RowF} {r r' : RowF} (e : podRows p k Ls La Le = pre ++ r :: post) (hg : V.grownBy V' r.v.ownBlock) (hr' : r'.In V' w1.heap.size)
    (Ls' La' Le' : List TrmH) (e1 : Ls'.map (·.1) = p'.sel) (e2 : La'.map (·.1) = p'.anti) (e3 : Le'.map (·.1) = p'.even) (hs : ∀ s ∈ podRows p' k' Ls' La' Le', s ∈ pre ++ r' :: post ∨ s.In V' w1.heap.size) : Fj w1 V' Q M (podCs p k) p' k' n g := by
  have hm : r ∈ podRows p k Ls La Le := by rw [e]; simp
  have hb : Below w1.heap.size w1 V' := h.b.trans (grown_below hg (h.own r hm) h.b.size)
  have own := h.own
  have ap := h.ap
  rw [e] at own ap
  exact h.app hm hg hb ⟨Ls', La', Le', e1, e2, e3, fun s x => (hs s x).elim (rows_app own ap hg hr' s) id⟩
theorem Fj.to {w1 V : World} {Q M : Nat} {cq cq' : Array Value} {p p' : PodD} {k k' : PodH} {n : NodeD} {g : NodeH} (h : Fj w1 V Q M cq p k n g) (e : cq = cq') (ho : PodOwn V w1.heap.size p k → PodOwn V w1.heap.size p' k') : Fj w1 V Q M cq' p' k' n g := ⟨h.b, h.lq, h.lm, by rw [← e]; exact h.q, h.m, ho h.own, h.d⟩
theorem nilS (w : World) (N : Nat) : (rowS none 0 []).In w N := World.ownsRow_nil _ _ _ _
section
variable {w1 V V' : World} {Q M : Nat} {p : PodD} {k : PodH} {n : NodeD} {g : NodeH} {Ls La Le : List TrmH} {a' : Option Addr} {c' : Nat}
theorem Fi.ports (h : Fi w1 V Q M p k n g Ls La Le) (x : Int) (hg : V.grownBy V' (rowI k.pa k.pc p.ports).v.ownBlock) (ho : (rowI a' c' (p.ports ++ [x])).In V' w1.heap.size) : Fj w1 V' Q M (podCs p k) { p with ports := p.ports ++ [x] } { k with pa := a', pc := c' } n g :=
  h.grow (pre := rowsT k.ea k.ec Le ++ (rowsT k.aa k.ac La ++ ([rowL k.ta k.tc p.tols] ++ (rowsT k.sa k.sc Ls ++ [rowP 36 k.la k.lc p.labels])))) (post := []) (by simp [podRows]) hg ho Ls La Le h.e1 h.e2 h.e3 (fun s hs => Or.inl (by simpa [podRows] using hs))
theorem Fi.labels (h : Fi w1 V Q M p k n g Ls La Le) (x : Str2) (hg : V.grownBy V' (rowP 36 k.la k.lc p.labels).v.ownBlock) (ho : (rowP 36 a' c' (p.labels ++ [x])).In V' w1.heap.size) : Fj w1 V' Q M (podCs p k) { p with labels := p.labels ++ [x] } { k with la := a', lc := c' } n g :=
  h.grow (pre := rowsT k.ea k.ec Le ++ (rowsT k.aa k.ac La ++ ([rowL k.ta k.tc p.tols] ++ rowsT k.sa k.sc Ls))) (post := [rowI k.pa k.pc p.ports]) (by simp [podRows]) hg ho Ls La Le h.e1 h.e2 h.e3 (fun s hs => Or.inl (by simpa [podRows] using hs))
theorem Fi.tols (h : Fi w1 V Q M p k n g Ls La Le) (x : Tol) (hg : V.grownBy V' (rowL k.ta k.tc p.tols).v.ownBlock) (ho : (rowL a' c' (p.tols ++ [x])).In V' w1.heap.size) : Fj w1 V' Q M (podCs p k) { p with tols := p.tols ++ [x] } { k with ta := a', tc := c' } n g :=
  h.grow (pre := rowsT k.ea k.ec Le ++ rowsT k.aa k.ac La) (post := rowsT k.sa k.sc Ls ++ ([rowP 36 k.la k.lc p.labels] ++ [rowI k.pa k.pc p.ports])) (by simp [podRows]) hg ho Ls La Le h.e1 h.e2 h.e3 (fun s hs => Or.inl (by simpa [podRows] using hs))
theorem mem_grow {a : Option Addr} {c : Nat} {L : List TrmH} {t : Trm} {s : RowF} {w : World} {N : Nat} (ht : t.vals = []) (h : s ∈ rowsT a c (L ++ [(t, none, 0)])) : s = rowT a c (L ++ [(t, none, 0)]) ∨ s ∈ L.map (fun x => rowS x.2.1 x.2.2 x.1.vals) ∨ s.In w N := by
  simp only [rowsT, List.mem_cons, List.map_append, List.mem_append, List.map_cons, List.map_nil, List.not_mem_nil, or_false] at h
  rcases h with h | h | h
  · exact Or.inl h
  · exact Or.inr (Or.inl h)
  · subst h
    simp only [ht]
    exact Or.inr (Or.inr (nilS w N))
theorem Fi.sel (h : Fi w1 V Q M p k n g Ls La Le) (t : Trm) (ht : t.vals = []) (hg : V.grownBy V' (rowT k.sa k.sc Ls).v.ownBlock) (ho : (rowT a' c' (Ls ++ [(t, none, 0)])).In V' w1.heap.size) : Fj w1 V' Q M (podCs p k) { p with sel := p.sel ++ [t] } { k with sa := a', sc := c' } n g :=
  h.grow (pre := rowsT k.ea k.ec Le ++ (rowsT k.aa k.ac La ++ [rowL k.ta k.tc p.tols])) (post := Ls.map (fun x => rowS x.2.1 x.2.2 x.1.vals) ++ ([rowP 36 k.la k.lc p.labels] ++ [rowI k.pa k.pc p.ports])) (by simp [podRows, rowsT]) hg ho (Ls ++ [(t, none, 0)]) La Le (by simp [h.e1]) h.e2 h.e3 (fun s hs => by
    simp only [podRows, List.mem_append, List.append_nil] at hs
    rcases hs with hs | hs | hs | hs | hs | hs
    · exact Or.inl (by simp [hs])
    · exact Or.inl (by simp [hs])
    · exact Or.inl (by simp at hs; simp [hs])
    · rcases mem_grow (w := V') (N := w1.heap.size) ht hs with rfl | hs | hs
      · exact Or.inl (by simp)
      · exact Or.inl (List.mem_append.2 (Or.inr (List.mem_cons.2 (Or.inr (List.mem_append.2 (Or.inl hs))))))
      · exact Or.inr hs
    · exact Or.inl (by simp at hs; simp [hs])
    · exact Or.inl (by simp at hs; simp [hs]))
theorem Fi.anti (h : Fi w1 V Q M p k n g Ls La Le) (t : Trm) (ht : t.vals = []) (hg : V.grownBy V' (rowT k.aa k.ac La).v.ownBlock) (ho : (rowT a' c' (La ++ [(t, none, 0)])).In V' w1.heap.size) : Fj w1 V' Q M (podCs p k) { p with anti := p.anti ++ [t] } { k with aa := a', ac := c' } n g :=
  h.grow (pre := rowsT k.ea k.ec Le) (post := La.map (fun x => rowS x.2.1 x.2.2 x.1.vals) ++ ([rowL k.ta k.tc p.tols] ++ (rowsT k.sa k.sc Ls ++ ([rowP 36 k.la k.lc p.labels] ++ [rowI k.pa k.pc p.ports])))) (by simp [podRows, rowsT]) hg ho Ls (La ++ [(t, none, 0)]) Le h.e1 (by simp [h.e2]) h.e3 (fun s hs => by
    simp only [podRows, List.mem_append, List.append_nil] at hs
    rcases hs with hs | hs | hs | hs | hs | hs
    · exact Or.inl (by simp [hs])
    · rcases mem_grow (w := V') (N := w1.heap.size) ht hs with rfl | hs | hs
      · exact Or.inl (by simp)
      · exact Or.inl (List.mem_append.2 (Or.inr (List.mem_cons.2 (Or.inr (List.mem_append.2 (Or.inl hs))))))
      · exact Or.inr hs
    · exact Or.inl (by simp at hs; simp [hs])
    · exact Or.inl (by simp [hs])
    · exact Or.inl (by simp at hs; simp [hs])
    · exact Or.inl (by simp at hs; simp [hs]))
theorem Fi.even (h : Fi w1 V Q M p k n g Ls La Le) (t : Trm) (ht : t.vals = []) (hg : V.grownBy V' (rowT k.ea k.ec Le).v.ownBlock) (ho : (rowT a' c' (Le ++ [(t, none, 0)])).In V' w1.heap.size) : Fj w1 V' Q M (podCs p k) { p with even := p.even ++ [t] } { k with ea := a', ec := c' } n g :=
  h.grow (pre := []) (post := Le.map (fun x => rowS x.2.1 x.2.2 x.1.vals) ++ (rowsT k.aa k.ac La ++ ([rowL k.ta k.tc p.tols] ++ (rowsT k.sa k.sc Ls ++ ([rowP 36 k.la k.lc p.labels] ++ [rowI k.pa k.pc p.ports]))))) (by simp [podRows, rowsT]) hg ho Ls La (Le ++ [(t, none, 0)]) h.e1 h.e2 (by simp [h.e3]) (fun s hs => by
    simp only [podRows, List.mem_append, List.append_nil] at hs
    rcases hs with hs | hs | hs | hs | hs | hs
    · rcases mem_grow (w := V') (N := w1.heap.size) ht hs with rfl | hs | hs
      · exact Or.inl (by simp)
      · exact Or.inl (List.mem_append.2 (Or.inr (List.mem_cons.2 (Or.inr (List.mem_append.2 (Or.inl hs))))))
      · exact Or.inr hs
    · exact Or.inl (by simp [hs])
    · exact Or.inl (by simp at hs; simp [hs])
    · exact Or.inl (by simp [hs])
    · exact Or.inl (by simp at hs; simp [hs])
    · exact Or.inl (by simp at hs; simp [hs]))
end
theorem infoI5 : (Try.prog.info? 3).map (fun i => (i.zero, i.size, i.bytes)) = some (some (.int .i64 0), 1, 8) := by kernel_rfl
theorem infoP5 : (Try.prog.info? 36).map (fun i => (i.zero, i.size, i.bytes)) = some (some (.agg #[.string ⟨#[]⟩, .string ⟨#[]⟩]), 2, 32) := by kernel_rfl
theorem infoL5 : (Try.prog.info? 42).map (fun i => (i.zero, i.size, i.bytes)) = some (some (.agg #[.string ⟨#[]⟩, .string ⟨#[]⟩, .bool false]), 3, 40) := by kernel_rfl
theorem infoT5 : (Try.prog.info? 40).map (fun i => (i.zero, i.size, i.bytes)) = some (some (.agg #[.string ⟨#[]⟩, .int .i64 0, .slice none 0 0]), 3, 48) := by kernel_rfl
theorem ne_inc {x : Int} : x ≠ wrap64 (x + 1) := by
  unfold wrap64; omega
theorem ne_app {α : Type} {l : List α} {x : α} : l ≠ l ++ [x] := fun e => by have := congrArg List.length e; simp at this
theorem ne_str {s t : ByteArray} (h : t.size = 1) : s ≠ s ++ t := fun e => by have := congrArg ByteArray.size e; rw [ByteArray.size_append] at this; omega
/-- What the last line of the law asks of its world. -/
structure End (w W : World) (Q M : Nat) (p : PodD) (h : PodH) (q : PodD) (k : PodH) (n : NodeD) (g : NodeH) (n' : NodeD) (m : NodeH) : Prop where
  ca : ∀ o, W.cell? ⟨w.heap.size, o, none⟩ = (podC p h)[o]?
  cb : ∀ o, W.cell? ⟨w.heap.size + 1, o, none⟩ = (nodeC n g)[o]?
  lt : w.heap.size + 1 < W.heap.size
  hq : W.heap[Q]? = some (.cells (podCs q k) 29)
  hm : W.heap[M]? = some (.cells (nodeC n' m) 32)
  ap : PodAt W p h
  qp : PodAt W q k
  bn : NodeAt W n g
  mn : NodeAt W n' m
theorem End.later {w W W' : World} {Q M : Nat} {p q : PodD} {h k : PodH} {n n' : NodeD} {g m : NodeH} (e : End w W Q M p h q k n g n' m) (hb : Below W.heap.size W W') : End w W' Q M p h q k n g n' m :=
  ⟨fun o => (hb.cell (p := ⟨w.heap.size, o, none⟩) (Nat.lt_of_succ_lt e.lt)).trans (e.ca o), fun o => (hb.cell (p := ⟨w.heap.size + 1, o, none⟩) e.lt).trans (e.cb o), Nat.lt_of_lt_of_le e.lt hb.size, heap_keep hb e.hq, heap_keep hb e.hm, e.ap.below hb, e.qp.below hb, e.bn.below hb, e.mn.below hb⟩
theorem Fj.toEnd {w w1 W : World} {Q M : Nat} {p q : PodD} {h k : PodH} {n : NodeD} {g m : NodeH} (hF : Fj w1 W Q M (podCs q k) q k n m) (hA : ∀ o, w1.cell? ⟨w.heap.size, o, none⟩ = (podC p h)[o]?) (hB : ∀ o, w1.cell? ⟨w.heap.size + 1, o, none⟩ = (nodeC n g)[o]?) (hz : w.heap.size + 1 < w1.heap.size)
    (hp : PodAt w1 p h) (hn : NodeAt w1 n g) (r : Int) : End w (W.setCell ⟨M, 3, none⟩ (.int .i64 r)) Q M p h q k n g { n with r2 := r } m := by
  have hb : Below w1.heap.size w1 (W.setCell ⟨M, 3, none⟩ (.int .i64 r)) := hF.b.setCell hF.lm _
  have tM : HasTy W M 32 := ⟨_, _, hF.m⟩
  have hne : Q ≠ M := fun e => by have := hF.q; rw [e] at this; have := this.symm.trans hF.m; simp at this
  obtain ⟨Ls, La, Le, e1, e2, e3, hr⟩ := hF.own
  have hr2 := rows_setCell hr (fun r h => (podRows_ty r h).2) tM 3 (.int .i64 r)
  have hd2 := rows_setCell hF.d (fun r h => (nodeRs_ty r h).2) tM 3 (.int .i64 r)
  have hno : NodeAt (W.setCell ⟨M, 3, none⟩ (.int .i64 r)) n m := (NodeRows.of hd2).at
  refine ⟨fun o => (hb.cell (p := ⟨w.heap.size, o, none⟩) (Nat.lt_of_succ_lt hz)).trans (hA o), fun o => (hb.cell (p := ⟨w.heap.size + 1, o, none⟩) hz).trans (hB o), Nat.lt_of_lt_of_le hz hb.size, ?_, obj_setN hF.m rfl, hp.below hb, (show PodOwn _ w1.heap.size q k from ⟨Ls, La, Le, e1, e2, e3, hr2⟩).at, hn.below hb, ⟨hno.labels, hno.labn, hno.taints, hno.tain⟩⟩
  rw [heap_setCell_other W ⟨M, 3, none⟩ Q _ hne]; exact hF.q
end Go.Proofs.Ytnobgmdknalpdaa
