/-
  The contracts of package code: how taints, tolerations and amounts are read. No conditions beyond what is written in each statement.
-/
import Derived.Test.YtnobgmdknalpdaaGet4
set_option linter.unusedSimpArgs false
set_option linter.unusedVariables false
namespace Go.Proofs.Ytnobgmdknalpdaa
open Go.RowKit

def gToler (st : RS) : Tol × RS :=
  let a := gName st
  let b := gName a.2
  let c := gFlag b.2
  ((a.1, b.1, c.1), c.2)

set_option maxRecDepth 100000 in
set_option maxHeartbeats 1000000 in
theorem getToler_any (R : Nat) (st : RS) (w0 w : World) (hr : Rd w0 w R st.1 st.2) :
    Calls Try.prog 63 #[.pointer (some ⟨R, 0, none⟩)] w (GetPost w0 w R (tol (gToler st).1) (gToler st).2) := by
  have hRw := hr.lt
  have hold := hr.old
  have hsz := hr.below.size
  have HR := Lib.hid hr
  clear hr
  go_enter Try.func63, Try.ntmps63
  have H := Lib.hid (And.intro (((Fr.refl w.heap.size R w).alloc (Nat.le_refl _) (.cells #[.string ⟨#[]⟩, .string ⟨#[]⟩, .bool false] 42)).alloc (by simp) (.cells #[.string ⟨#[]⟩, .string ⟨#[]⟩, .bool false] 42)) (And.intro ((HR.out.alloc (.cells #[.string ⟨#[]⟩, .string ⟨#[]⟩, .bool false] 42)).alloc (.cells #[.string ⟨#[]⟩, .string ⟨#[]⟩, .bool false] 42)) (And.intro (alloc2_first w (.cells #[.string ⟨#[]⟩, .string ⟨#[]⟩, .bool false] 42) (.cells #[.string ⟨#[]⟩, .string ⟨#[]⟩, .bool false] 42)) (alloc2_second w (.cells #[.string ⟨#[]⟩, .string ⟨#[]⟩, .bool false] 42) (.cells #[.string ⟨#[]⟩, .string ⟨#[]⟩, .bool false] 42)))))
  go_wp2_with fail
  try clear cB fB
  refine Calls.mono (getName_any R st w0 _ H.out.2.1) ?_
  rintro e w1 ⟨rfl, hr1, hg1⟩
  have hz1 := hg1.size
  simp at hz1
  have kA := (hg1.block w.heap.size (by simp <;> omega) (fun e => by cases e; omega)).trans H.out.2.2.1
  have kB := (hg1.block (w.heap.size + 1) (by simp <;> omega) (fun e => by cases e; omega)).trans H.out.2.2.2
  have fr := (H.out.1.grown (by simp <;> omega) hg1).set (A := w.heap.size + 1) (by omega) 0 (.string (gName st).1)
  have rr := hr1.grown (grown_set w1 (w.heap.size + 1) 0 (.string (gName st).1)) (by omega) (by omega)
  have kA' := (Below.heap_setCell w1 ⟨w.heap.size + 1, 0, none⟩ (.string (gName st).1) w.heap.size (by simp)).trans kA
  have kB' := obj_setN (j := 0) (v := (.string (gName st).1)) kB rfl
  simp at kB'
  have cB := cell_of_obj kB 0
  have fB := free_of_obj kB 0
  simp at cB
  clear H
  have H := Lib.hid (And.intro fr (And.intro rr (And.intro kA' kB')))
  clear kA kB fr rr kA' kB' hr1 hg1
  go_wp2_with fail
  try clear cB fB
  refine Calls.mono (getName_any R (gName st).2 w0 _ H.out.2.1) ?_
  rintro e w2 ⟨rfl, hr2, hg2⟩
  have hz2 := hg2.size
  simp at hz2
  have kA := (hg2.block w.heap.size (by simp <;> omega) (fun e => by cases e; omega)).trans H.out.2.2.1
  have kB := (hg2.block (w.heap.size + 1) (by simp <;> omega) (fun e => by cases e; omega)).trans H.out.2.2.2
  have fr := (H.out.1.grown (by simp <;> omega) hg2).set (A := w.heap.size + 1) (by omega) 1 (.string (gName (gName st).2).1)
  have rr := hr2.grown (grown_set w2 (w.heap.size + 1) 1 (.string (gName (gName st).2).1)) (by omega) (by omega)
  have kA' := (Below.heap_setCell w2 ⟨w.heap.size + 1, 1, none⟩ (.string (gName (gName st).2).1) w.heap.size (by simp)).trans kA
  have kB' := obj_setN (j := 1) (v := (.string (gName (gName st).2).1)) kB rfl
  simp at kB'
  have cB := cell_of_obj kB 1
  have fB := free_of_obj kB 1
  simp at cB
  clear H
  have H := Lib.hid (And.intro fr (And.intro rr (And.intro kA' kB')))
  clear kA kB fr rr kA' kB' hr2 hg2
  go_wp2_with fail
  clear cB fB
  refine Calls.mono (getFlag_any R (gName (gName st).2).2 w0 _ H.out.2.1) ?_
  rintro e w3 ⟨rfl, hr3, hg3⟩
  have hz3 := hg3.size
  simp at hz3
  have kA := (hg3.block w.heap.size (by simp <;> omega) (fun e => by cases e; omega)).trans H.out.2.2.1
  have kB := (hg3.block (w.heap.size + 1) (by simp <;> omega) (fun e => by cases e; omega)).trans H.out.2.2.2
  have fB := free_of_obj kB 2
  have f2 := H.out.1.grown (by simp <;> omega) hg3
  have cA0 := cell_of_obj kA 0
  have cA1 := cell_of_obj kA 1
  have cA2 := cell_of_obj kA 2
  have fA0 := free_of_obj kA 0
  have fA1 := free_of_obj kA 1
  have fA2 := free_of_obj kA 2
  have cB0 := cell_of_obj kB 0
  have cB1 := cell_of_obj kB 1
  have cB2 := cell_of_obj kB 2
  simp at cA0 cA1 cA2 cB0 cB1 cB2
  have H2 := Lib.hid (And.intro f2 hr3)
  clear hr3 hg3 kA kB f2 H
  go_wp2
  refine bodyPost_ret (v := tol (gToler st).1) (by simp [results, Try.results63, go_sem, cA0, cA1, cA2, gToler]) rfl ⟨rfl, ?_, ?_⟩
  · exact (((H2.out.2.grown (grown_set _ _ _ _) (by omega) (by omega)).grown (grown_set _ _ _ _) (by omega) (by omega)).grown (grown_set _ _ _ _) (by omega) (by omega)).grown (grown_set _ _ _ _) (by omega) (by omega)
  · exact ((((H2.out.1.set (A := w.heap.size + 1) (by omega) _ _).set (A := w.heap.size) (Nat.le_refl _) _ _).set (A := w.heap.size) (Nat.le_refl _) _ _).set (A := w.heap.size) (Nat.le_refl _) _ _).out

def gRes (st : RS) : (Int × Int × Int) × RS :=
  let a := gNum st
  let b := gNum a.2
  let c := gNum b.2
  ((a.1, b.1, c.1), c.2)

set_option maxRecDepth 100000 in
set_option maxHeartbeats 1000000 in
theorem getRes_any (R : Nat) (st : RS) (w0 w : World) (hr : Rd w0 w R st.1 st.2) :
    Calls Try.prog 56 #[.pointer (some ⟨R, 0, none⟩)] w (GetPost w0 w R (res (gRes st).1.1 (gRes st).1.2.1 (gRes st).1.2.2) (gRes st).2) := by
  have hRw := hr.lt
  have hold := hr.old
  have hsz := hr.below.size
  have HR := Lib.hid hr
  clear hr
  go_enter Try.func56, Try.ntmps56
  go_wp2
  refine wp_loop_rounds 4 ?_
  rw [rounds_succ]
  have H := Lib.hid (And.intro (((Fr.refl w.heap.size R w).alloc (Nat.le_refl _) (box3 0 0 0)).alloc (by simp) (box3 0 0 0)) (And.intro ((HR.out.alloc (box3 0 0 0)).alloc (box3 0 0 0)) (And.intro (alloc2_first w (box3 0 0 0) (box3 0 0 0)) (alloc2_second w (box3 0 0 0) (box3 0 0 0)))))
  go_wp2_with fail
  try clear cB fB
  refine Calls.mono (getNumL_any R st w0 _ H.out.2.1) ?_
  rintro e w1 ⟨rfl, hr1, hg1⟩
  have hz1 := hg1.size
  simp at hz1
  have kA := (hg1.block w.heap.size (by simp <;> omega) (fun e => by cases e; omega)).trans H.out.2.2.1
  have kB := (hg1.block (w.heap.size + 1) (by simp <;> omega) (fun e => by cases e; omega)).trans H.out.2.2.2
  have fr := (H.out.1.grown (by simp <;> omega) hg1).set (A := w.heap.size + 1) (by omega) 0 (.int .i64 (gNum st).1)
  have rr := hr1.grown (grown_set w1 (w.heap.size + 1) 0 (.int .i64 (gNum st).1)) (by omega) (by omega)
  have kA' := (Below.heap_setCell w1 ⟨w.heap.size + 1, 0, none⟩ (.int .i64 (gNum st).1) w.heap.size (by simp)).trans kA
  have kB' := obj_setN (j := 0) (v := (.int .i64 (gNum st).1)) kB rfl
  simp at kB'
  have cB := cell_of_obj kB 0
  have fB := free_of_obj kB 0
  simp at cB
  clear H
  have H := Lib.hid (And.intro fr (And.intro rr (And.intro kA' kB')))
  clear kA kB fr rr kA' kB' hr1 hg1
  go_wp2_with fail
  rw [rounds_succ]
  go_wp2_with fail
  try clear cB fB
  refine Calls.mono (getNumL_any R (gNum st).2 w0 _ H.out.2.1) ?_
  rintro e w2 ⟨rfl, hr2, hg2⟩
  have hz2 := hg2.size
  simp at hz2
  have kA := (hg2.block w.heap.size (by simp <;> omega) (fun e => by cases e; omega)).trans H.out.2.2.1
  have kB := (hg2.block (w.heap.size + 1) (by simp <;> omega) (fun e => by cases e; omega)).trans H.out.2.2.2
  have fr := (H.out.1.grown (by simp <;> omega) hg2).set (A := w.heap.size + 1) (by omega) 1 (.int .i64 (gNum (gNum st).2).1)
  have rr := hr2.grown (grown_set w2 (w.heap.size + 1) 1 (.int .i64 (gNum (gNum st).2).1)) (by omega) (by omega)
  have kA' := (Below.heap_setCell w2 ⟨w.heap.size + 1, 1, none⟩ (.int .i64 (gNum (gNum st).2).1) w.heap.size (by simp)).trans kA
  have kB' := obj_setN (j := 1) (v := (.int .i64 (gNum (gNum st).2).1)) kB rfl
  simp at kB'
  have cB := cell_of_obj kB 1
  have fB := free_of_obj kB 1
  simp at cB
  clear H
  have H := Lib.hid (And.intro fr (And.intro rr (And.intro kA' kB')))
  clear kA kB fr rr kA' kB' hr2 hg2
  go_wp2_with fail
  rw [rounds_succ]
  go_wp2_with fail
  clear cB fB
  refine Calls.mono (getNumL_any R (gNum (gNum st).2).2 w0 _ H.out.2.1) ?_
  rintro e w3 ⟨rfl, hr3, hg3⟩
  have hz3 := hg3.size
  simp at hz3
  have kA := (hg3.block w.heap.size (by simp <;> omega) (fun e => by cases e; omega)).trans H.out.2.2.1
  have kB := (hg3.block (w.heap.size + 1) (by simp <;> omega) (fun e => by cases e; omega)).trans H.out.2.2.2
  have fB := free_of_obj kB 2
  have f2 := H.out.1.grown (by simp <;> omega) hg3
  have cA0 := cell_of_obj kA 0
  have cA1 := cell_of_obj kA 1
  have cA2 := cell_of_obj kA 2
  have fA0 := free_of_obj kA 0
  have fA1 := free_of_obj kA 1
  have fA2 := free_of_obj kA 2
  have cB0 := cell_of_obj kB 0
  have cB1 := cell_of_obj kB 1
  have cB2 := cell_of_obj kB 2
  simp at cA0 cA1 cA2 cB0 cB1 cB2
  have H2 := Lib.hid (And.intro f2 hr3)
  clear hr3 hg3 kA kB f2 H
  go_wp2_with fail
  rw [rounds_succ]
  go_wp2
  refine bodyPost_ret (v := res (gRes st).1.1 (gRes st).1.2.1 (gRes st).1.2.2) (by simp [results, Try.results56, go_sem, cA0, cA1, cA2, gRes]) rfl ⟨rfl, ?_, ?_⟩
  · exact (((H2.out.2.grown (grown_set _ _ _ _) (by omega) (by omega)).grown (grown_set _ _ _ _) (by omega) (by omega)).grown (grown_set _ _ _ _) (by omega) (by omega)).grown (grown_set _ _ _ _) (by omega) (by omega)
  · exact ((((H2.out.1.set (A := w.heap.size + 1) (by omega) _ _).set (A := w.heap.size) (Nat.le_refl _) _ _).set (A := w.heap.size) (Nat.le_refl _) _ _).set (A := w.heap.size) (Nat.le_refl _) _ _).out
end Go.Proofs.Ytnobgmdknalpdaa
