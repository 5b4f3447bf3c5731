/-
  The contracts of package code: how labels, taints, tolerations and amounts are read. No conditions beyond what is written in each statement.
-/
import Derived.Test.YtnobgmdknalpdaaGet3
set_option linter.unusedSimpArgs false
set_option linter.unusedVariables false
namespace Go.Proofs.Ytnobgmdknalpdaa
open Go.RowKit

/-- Below block N all but block R is as it was. -/
structure Fr (N R : Nat) (w w' : World) : Prop where
  os : w'.os = w.os
  tape : w'.tape = w.tape
  output : w'.output = w.output
  size : w.heap.size ≤ w'.heap.size
  block : ∀ j, j < N → j ≠ R → w'.heap[j]? = w.heap[j]?
theorem Fr.refl (N R : Nat) (w : World) : Fr N R w w := ⟨rfl, rfl, rfl, Nat.le_refl _, fun _ _ _ => rfl⟩
theorem Fr.trans {N R : Nat} {a b c : World} (h : Fr N R a b) (k : Fr N R b c) : Fr N R a c :=
  ⟨k.os.trans h.os, k.tape.trans h.tape, k.output.trans h.output, Nat.le_trans h.size k.size, fun j hj hr => (k.block j hj hr).trans (h.block j hj hr)⟩
theorem Fr.alloc {N R : Nat} {a w : World} (h : Fr N R a w) (hN : N ≤ w.heap.size) (o : Obj) : Fr N R a (w.alloc o) :=
  h.trans ⟨rfl, rfl, rfl, by simp, fun j hj _ => Below.heap_alloc _ _ _ (by omega)⟩
theorem Fr.set {N R : Nat} {a w : World} (h : Fr N R a w) {A : Nat} (hA : N ≤ A) (j : Nat) (v : Value) : Fr N R a (w.setCell ⟨A, j, none⟩ v) :=
  h.trans ⟨rfl, rfl, rfl, by simp [World.setCell], fun i hi _ => Below.heap_setCell _ _ _ _ (by show i ≠ A; omega)⟩
theorem Fr.setR {N R : Nat} {a w : World} (h : Fr N R a w) (j : Nat) (v : Value) : Fr N R a (w.setCell ⟨R, j, none⟩ v) :=
  h.trans ⟨rfl, rfl, rfl, by simp [World.setCell], fun i _ hi => Below.heap_setCell _ _ _ _ hi⟩
theorem Fr.grown {N R : Nat} {a w w' : World} (h : Fr N R a w) (hN : N ≤ w.heap.size) (hg : w.grownBy w' (some R)) : Fr N R a w' :=
  h.trans ⟨hg.os, hg.tape, hg.output, hg.size, fun j hj hr => hg.block j (by omega) (fun e => hr (Option.some.inj e))⟩
theorem Fr.own {N R : Nat} {a w w' : World} {v : Value} (h : Fr N R a w) (hN : N ≤ w.heap.size) (hg : w.grownBy w' v.ownBlock) (hv : ∀ k, v.ownBlock = some k → N ≤ k) : Fr N R a w' :=
  h.trans ⟨hg.os, hg.tape, hg.output, hg.size, fun j hj _ => hg.block j (by omega) (fun e => by have := hv j e.symm; omega)⟩
theorem Fr.out {R : Nat} {w w' : World} (h : Fr w.heap.size R w w') : w.grownBy w' (some R) := ⟨h.os, h.tape, h.output, h.size, fun j hj hr => h.block j hj (fun e => hr (by rw [e]))⟩
theorem alloc_size (w : World) (o : Obj) : (w.alloc o).heap.size = w.heap.size + 1 := by simp
theorem alloc2_first (w : World) (o o' : Obj) : ((w.alloc o).alloc o').heap[w.heap.size]? = some o := by
  rw [Below.heap_alloc _ _ _ (by simp)]; exact heap_alloc_self _ _
theorem alloc2_second (w : World) (o o' : Obj) : ((w.alloc o).alloc o').heap[w.heap.size + 1]? = some o' := by
  rw [← alloc_size w o]; exact heap_alloc_self _ _

/-- What a call that reads something tells. -/
def GetPost (w0 w : World) (R : Nat) (v : Value) (st : RS) (e : Ending) (w' : World) : Prop := e = .returned v ∧ Rd w0 w' R st.1 st.2 ∧ w.grownBy w' (some R)

def gPair (st : RS) : Str2 × RS := (((gName st).1, (gName (gName st).2).1), (gName (gName st).2).2)

set_option maxRecDepth 100000 in
set_option maxHeartbeats 1000000 in
theorem getPair_any (R : Nat) (st : RS) (w0 w : World) (hr : Rd w0 w R st.1 st.2) :
    Calls Try.prog 59 #[.pointer (some ⟨R, 0, none⟩)] w (GetPost w0 w R (str2 (gPair st).1) (gPair st).2) := by
  have hRw := hr.lt
  have hold := hr.old
  have hsz := hr.below.size
  have HR := Lib.hid hr
  clear hr
  go_enter Try.func59, Try.ntmps59
  go_wp2_with fail
  refine (getName_any R st w0 _ ((HR.out.alloc _).alloc _)).mono ?_
  rintro e w1 ⟨rfl, hr1, hg1⟩
  have hz1 := hg1.size
  simp at hz1
  have kA := (hg1.block w.heap.size (by simp <;> omega) (fun e => by cases e; omega)).trans (alloc2_first w _ _)
  have kB := (hg1.block (w.heap.size + 1) (by simp <;> omega) (fun e => by cases e; omega)).trans (alloc2_second w _ _)
  have f1 := ((((Fr.refl w.heap.size R w).alloc (Nat.le_refl _) _).alloc (by simp) _).grown (by simp; omega) hg1).set (A := w.heap.size + 1) (by omega) 0 (.string (gName st).1)
  have r1 := hr1.grown (grown_set w1 (w.heap.size + 1) 0 (.string (gName st).1)) (by omega) (by omega)
  have kA1 := (Below.heap_setCell w1 ⟨w.heap.size + 1, 0, none⟩ (.string (gName st).1) w.heap.size (by simp)).trans kA
  have kB1 := obj_set0 (v := .string (gName st).1) kB
  have cB := cell_of_obj kB 0
  have fB := free_of_obj kB 0
  simp at cB
  have H := Lib.hid (And.intro f1 (And.intro r1 (And.intro kA1 kB1)))
  clear hr1 hg1 kA kB f1 r1 kA1 kB1
  go_wp2_with fail
  refine (getName_any R (gName st).2 w0 _ H.out.2.1).mono ?_
  rintro e w2 ⟨rfl, hr2, hg2⟩
  have hz2 := hg2.size
  simp at hz2
  have kA := (hg2.block w.heap.size (by simp; omega) (fun e => by cases e; omega)).trans H.out.2.2.1
  have kB := (hg2.block (w.heap.size + 1) (by simp; omega) (fun e => by cases e; omega)).trans H.out.2.2.2
  have f2 := H.out.1.grown (by simp; omega) hg2
  have cA0 := cell_of_obj kA 0
  have cA1 := cell_of_obj kA 1
  have fA0 := free_of_obj kA 0
  have fA1 := free_of_obj kA 1
  have cB0 := cell_of_obj kB 0
  have cB1 := cell_of_obj kB 1
  have fB1 := free_of_obj kB 1
  simp at cA0 cA1 cB0 cB1
  have H2 := Lib.hid (And.intro f2 hr2)
  clear hr2 hg2 kA kB f2 H cB fB
  go_wp2
  refine bodyPost_ret (v := str2 (gPair st).1) (by simp [results, Try.results59, go_sem, cA0, cA1, gPair]) rfl ⟨rfl, ?_, ?_⟩
  · exact ((H2.out.2.grown (grown_set _ _ _ _) (by omega) (by omega)).grown (grown_set _ _ _ _) (by omega) (by omega)).grown (grown_set _ _ _ _) (by omega) (by omega)
  · exact (((H2.out.1.set (A := w.heap.size + 1) (by omega) _ _).set (A := w.heap.size) (Nat.le_refl _) _ _).set (A := w.heap.size) (Nat.le_refl _) _ _).out
end Go.Proofs.Ytnobgmdknalpdaa
