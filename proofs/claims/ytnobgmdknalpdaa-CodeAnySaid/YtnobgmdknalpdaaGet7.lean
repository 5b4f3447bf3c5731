/-
  The contracts of package code: how terms and lists of them are read. No conditions beyond what is written in each statement.
-/
import Derived.Test.YtnobgmdknalpdaaGet6
set_option linter.unusedSimpArgs false
set_option linter.unusedVariables false
namespace Go.Proofs.Ytnobgmdknalpdaa
open Go.RowKit

def gTerm (st : RS) : Trm × RS :=
  let a := gName st
  let b := gNum a.2
  let c := gList gName b.2
  (⟨a.1, b.1, c.1⟩, c.2)
abbrev strCells (l : List ByteArray) : List Value := l.flatMap (fun x : ByteArray => [Value.string x])
/-- What a call that reads a term tells: its Vals lie in new memory. -/
def TermPost (w0 w : World) (R : Nat) (g : Trm × RS) (e : Ending) (w' : World) : Prop :=
  ∃ a cap, e = .returned (trm g.1.key g.1.kind a g.1.vals.length cap) ∧ w'.ownsRow w.heap.size 9 1 (.slice a g.1.vals.length cap) g.1.vals.length (strCells g.1.vals) ∧ Rd w0 w' R g.2.1 g.2.2 ∧ w.grownBy w' (some R)
theorem owns_form {w : World} {base : Nat} {e : TypeId} {size : Nat} {v : Value} {n : Nat} {xs : List Value} (h : w.ownsRow base e size v n xs) : ∃ a cap, v = .slice a n cap := by
  rcases h.2 with ⟨rfl, rfl⟩ | ⟨g, cap, cur, rfl, _⟩
  · exact ⟨none, 0, rfl⟩
  · exact ⟨_, cap, rfl⟩

/-- Block A holds cells of type t. -/
def HasTy (w : World) (A : Nat) (t : TypeId) : Prop := ∃ cs fr, w.heap[A]? = some (.cells cs t fr)
theorem HasTy.set {w : World} {A : Nat} {t : TypeId} (h : HasTy w A t) (B j : Nat) (v : Value) : HasTy (w.setCell ⟨B, j, none⟩ v) A t := by
  obtain ⟨cs, fr, h⟩ := h
  by_cases e : A = B
  · subst e; exact ⟨_, fr, obj_setN h rfl⟩
  · exact ⟨cs, fr, by rw [Below.heap_setCell _ _ _ _ e]; exact h⟩
theorem own_ne {w : World} {base : Nat} {e t : TypeId} {size : Nat} {v : Value} {n : Nat} {xs : List Value} {A : Nat} (h : w.ownsRow base e size v n xs) (hA : HasTy w A t) (hne : t ≠ e) : v.ownBlock ≠ some A := by
  intro hb
  obtain ⟨cs, fr, hA⟩ := hA
  rcases h.2 with ⟨rfl, _⟩ | ⟨g, cap, cur, rfl, _, hg, _⟩
  · simp [Value.ownBlock] at hb
  · simp [Value.ownBlock] at hb
    subst hb
    rw [hA] at hg
    simp at hg
    exact hne hg.2.1
theorem own_set {w : World} {base : Nat} {e t : TypeId} {size : Nat} {v : Value} {n : Nat} {xs : List Value} {A j : Nat} {u : Value} (h : w.ownsRow base e size v n xs) (hA : HasTy w A t) (hne : t ≠ e) : (w.setCell ⟨A, j, none⟩ u).ownsRow base e size v n xs :=
  h.kept (grown_set w A j u) (Or.inr (own_ne h hA hne))

set_option maxRecDepth 100000 in
set_option maxHeartbeats 1000000 in
theorem getTerm_any (R : Nat) (st : RS) (w0 w : World) (hr : Rd w0 w R st.1 st.2) :
    Calls Try.prog 61 #[.pointer (some ⟨R, 0, none⟩)] w (TermPost w0 w R (gTerm st)) := by
  have hRw := hr.lt
  have hold := hr.old
  have hsz := hr.below.size
  have HR := Lib.hid hr
  clear hr
  go_enter Try.func61, Try.ntmps61
  have H := Lib.hid (And.intro (((Fr.refl w.heap.size R w).alloc (Nat.le_refl _) (.cells #[.string ⟨#[]⟩, .int .i64 0, .slice none 0 0] 40)).alloc (by simp) (.cells #[.string ⟨#[]⟩, .int .i64 0, .slice none 0 0] 40)) (And.intro ((HR.out.alloc (.cells #[.string ⟨#[]⟩, .int .i64 0, .slice none 0 0] 40)).alloc (.cells #[.string ⟨#[]⟩, .int .i64 0, .slice none 0 0] 40)) (And.intro (alloc2_first w (.cells #[.string ⟨#[]⟩, .int .i64 0, .slice none 0 0] 40) (.cells #[.string ⟨#[]⟩, .int .i64 0, .slice none 0 0] 40)) (alloc2_second w (.cells #[.string ⟨#[]⟩, .int .i64 0, .slice none 0 0] 40) (.cells #[.string ⟨#[]⟩, .int .i64 0, .slice none 0 0] 40)))))
  go_wp2_with fail
  try clear cB fB
  refine Calls.mono (getName_any R st w0 _ H.out.2.1) ?_
  rintro e w1 ⟨rfl, hr1, hg1⟩
  have hz1 := hg1.size
  simp at hz1
  have kA := (hg1.block w.heap.size (by simp <;> omega) (fun e => by cases e; omega)).trans H.out.2.2.1
  have kB := (hg1.block (w.heap.size + 1) (by simp <;> omega) (fun e => by cases e; omega)).trans H.out.2.2.2
  have fr := (H.out.1.grown (by simp <;> omega) hg1).set (A := w.heap.size + 1) (by omega) 0 (.string (gName st).1)
  have rr := hr1.grown (grown_set w1 (w.heap.size + 1) 0 (.string (gName st).1)) (by omega) (by omega)
  have kA' := (Below.heap_setCell w1 ⟨w.heap.size + 1, 0, none⟩ (.string (gName st).1) w.heap.size (by simp)).trans kA
  have kB' := obj_setN (j := 0) (v := (.string (gName st).1)) kB rfl
  simp at kB'
  have cB := cell_of_obj kB 0
  have fB := free_of_obj kB 0
  simp at cB
  clear H
  have H := Lib.hid (And.intro fr (And.intro rr (And.intro kA' kB')))
  clear kA kB fr rr kA' kB' hr1 hg1
  go_wp2_with fail
  try clear cB fB
  refine Calls.mono (getNumI_any R (gName st).2 w0 _ H.out.2.1) ?_
  rintro e w2 ⟨rfl, hr2, hg2⟩
  have hz2 := hg2.size
  simp at hz2
  have kA := (hg2.block w.heap.size (by simp <;> omega) (fun e => by cases e; omega)).trans H.out.2.2.1
  have kB := (hg2.block (w.heap.size + 1) (by simp <;> omega) (fun e => by cases e; omega)).trans H.out.2.2.2
  have fr := (H.out.1.grown (by simp <;> omega) hg2).set (A := w.heap.size + 1) (by omega) 1 (.int .i64 (gNum (gName st).2).1)
  have rr := hr2.grown (grown_set w2 (w.heap.size + 1) 1 (.int .i64 (gNum (gName st).2).1)) (by omega) (by omega)
  have kA' := (Below.heap_setCell w2 ⟨w.heap.size + 1, 1, none⟩ (.int .i64 (gNum (gName st).2).1) w.heap.size (by simp)).trans kA
  have kB' := obj_setN (j := 1) (v := (.int .i64 (gNum (gName st).2).1)) kB rfl
  simp at kB'
  have cB := cell_of_obj kB 1
  have fB := free_of_obj kB 1
  simp at cB
  clear H
  have H := Lib.hid (And.intro fr (And.intro rr (And.intro kA' kB')))
  clear kA kB fr rr kA' kB' hr2 hg2
  go_wp2_with fail
  clear cB fB
  refine (getListS_any R (gNum (gName st).2).2 w0 _ H.out.2.1).mono ?_
  rintro e w3 ⟨v, rfl, hown, hr3, hg3⟩
  obtain ⟨a, cap, rfl⟩ := owns_form hown
  have hz3 := hg3.size
  simp at hz3
  have kA := (hg3.block w.heap.size (by simp <;> omega) (fun e => by cases e; omega)).trans H.out.2.2.1
  have kB := (hg3.block (w.heap.size + 1) (by simp <;> omega) (fun e => by cases e; omega)).trans H.out.2.2.2
  have f2 := H.out.1.grown (by simp <;> omega) hg3
  have cA0 := cell_of_obj kA 0
  have cA1 := cell_of_obj kA 1
  have cA2 := cell_of_obj kA 2
  have fA0 := free_of_obj kA 0
  have fA1 := free_of_obj kA 1
  have fA2 := free_of_obj kA 2
  have cB0 := cell_of_obj kB 0
  have cB1 := cell_of_obj kB 1
  have cB2 := cell_of_obj kB 2
  have fB2 := free_of_obj kB 2
  simp at cA0 cA1 cA2 cB0 cB1 cB2
  have H2 := Lib.hid (And.intro f2 (And.intro hr3 (And.intro kA (And.intro kB hown))))
  clear hr3 hg3 kA kB f2 H hown
  go_wp2
  refine bodyPost_ret (v := trm (gTerm st).1.key (gTerm st).1.kind a (gTerm st).1.vals.length cap) (by simp [results, Try.results61, go_sem, cA0, cA1, cA2, gTerm]) rfl ⟨a, cap, rfl, ?_, ?_, ?_⟩
  · have ho := H2.out.2.2.2.2.mono (base' := w.heap.size) (by simp <;> omega)
    have tA : HasTy w3 w.heap.size 40 := ⟨_, _, H2.out.2.2.1⟩
    have tB : HasTy w3 (w.heap.size + 1) 40 := ⟨_, _, H2.out.2.2.2.1⟩
    have s1 := own_set (u := .slice a (gTerm st).1.vals.length cap) (j := 2) ho tB (by decide)
    have t1 := tA.set (w.heap.size + 1) 2 (.slice a (gTerm st).1.vals.length cap)
    have s2 := own_set (u := .string (gTerm st).1.key) (j := 0) s1 t1 (by decide)
    have t2 := t1.set w.heap.size 0 (.string (gTerm st).1.key)
    have s3 := own_set (u := .int .i64 (gTerm st).1.kind) (j := 1) s2 t2 (by decide)
    have t3 := t2.set w.heap.size 1 (.int .i64 (gTerm st).1.kind)
    exact own_set (u := .slice a (gTerm st).1.vals.length cap) (j := 2) s3 t3 (by decide)
  · exact (((H2.out.2.1.grown (grown_set _ _ _ _) (by omega) (by omega)).grown (grown_set _ _ _ _) (by omega) (by omega)).grown (grown_set _ _ _ _) (by omega) (by omega)).grown (grown_set _ _ _ _) (by omega) (by omega)
  · exact ((((H2.out.1.set (A := w.heap.size + 1) (by omega) _ _).set (A := w.heap.size) (Nat.le_refl _) _ _).set (A := w.heap.size) (Nat.le_refl _) _ _).set (A := w.heap.size) (Nat.le_refl _) _ _).out
end Go.Proofs.Ytnobgmdknalpdaa
