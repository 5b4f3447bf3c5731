/-
  The law QtyFits's walk. No conditions beyond what is written in each statement.
-/
import Derived.Test.YtnimplldkambhaaLTurn2
set_option linter.unusedSimpArgs false
set_option linter.unusedVariables false
namespace Go.Proofs.Ytnimplldkambhaa
open Go.RowKit

theorem fits_v (a b c x y z : Int) (w : World) {v : Bool} (h : fitsB a b c x y z = v) :
    Calls Try.prog 18 #[res a b c, res x y z] w fun e w' => e = .returned (.bool v) ∧ Below w.heap.size w w' := by
  refine (fits_x a b c x y z w).mono ?_
  rintro e w' ⟨rfl, n, rfl⟩
  exact ⟨ret_bool h, (by (repeat (with_reducible first | exact Below.refl _ _ | refine Below.alloc ?_ ?_ _ | refine Below.setCell ?_ ?_ _ | refine Below.drew ?_ | refine below_drewN ?_ _)); all_goals (simp <;> omega))⟩
theorem sub_no (a b c x y z : Int) (w : World) (h : subB a b c x y z = false) :
    Calls Try.prog 17 #[res a b c, res x y z] w fun e w' => e = .returned (.tuple #[res 0 0 0, .bool false]) ∧ Below w.heap.size w w' := by
  refine (sub_any a b c x y z w).mono ?_
  rintro e w' ⟨rfl, hb⟩
  exact ⟨(sub_end_no h).symm, hb⟩
theorem sub_facts {a0 a1 a2 b0 b1 b2 : Int} (h : subB b0 b1 b2 a0 a1 a2 = true) :
    addB (b0 - a0) (b1 - a1) (b2 - a2) a0 a1 a2 = true ∧ fitsB (b0 - a0) (b1 - a1) (b2 - a2) b0 b1 b2 = true := by
  unfold subB fitsB withinB far at h
  unfold addB fitsB withinB far
  simp only [Bool.and_eq_true, decide_eq_true_eq] at h ⊢
  omega
set_option maxHeartbeats 400000 in
theorem fine_v (a b c : Int) (w : World) {v : Bool} (h : withinB a b c 4611686018427387904 = v) :
    Calls Try.prog 56 #[res a b c] w fun e w' => e = .returned (.bool v) ∧ Below w.heap.size w w' := by
  have i0 := ix0 a b c
  have i1 := ix1 a b c
  have i2 := ix2 a b c
  subst h
  go_enter Try.func56, Try.ntmps56
  go_wp2
  refine wp_loop_rounds 4 ?_
  repeat any_goals (rw [rounds_succ]; go_wp2; try (go_quiet (fail); go_wp2))
  all_goals (go_ret; refine ⟨ret_bool ?_, (by (repeat (with_reducible first | exact Below.refl _ _ | refine Below.alloc ?_ ?_ _ | refine Below.setCell ?_ ?_ _ | refine Below.drew ?_ | refine below_drewN ?_ _)); all_goals (simp <;> omega))⟩; unfold withinB; first | exact (decide_eq_false (by omega)).symm | exact (decide_eq_true (by omega)).symm)

set_option maxRecDepth 100000 in
set_option maxHeartbeats 4000000 in
theorem qtyFits_1 (a0 a1 a2 b0 b1 b2 c0 c1 c2 : Int) (w : World) (hF1 : fitsB a0 a1 a2 b0 b1 b2 = false) :
    Calls Try.prog 14 #[res a0 a1 a2, res b0 b1 b2, res c0 c1 c2] w fun e w' => e = .returned (.bool true) ∧ Below w.heap.size w w' := by
  have hS : subB b0 b1 b2 a0 a1 a2 = false := by unfold subB; rw [hF1]; simp
  go_enter Try.func14, Try.ntmps14
  go_wp2_with fail
  refine (begun_any _).mono ?_
  rintro e w1 ⟨rfl, hb1⟩
  have hA1 : ∀ o, w1.cell? ⟨w.heap.size, o, none⟩ = (((w.alloc (box3 a0 a1 a2)).alloc (box3 b0 b1 b2)).alloc (box3 c0 c1 c2)).cell? ⟨w.heap.size, o, none⟩ := fun o => hb1.cell (p := ⟨w.heap.size, o, none⟩) (by simp; omega)
  have hB1 : ∀ o, w1.cell? ⟨w.heap.size + 1, o, none⟩ = (((w.alloc (box3 a0 a1 a2)).alloc (box3 b0 b1 b2)).alloc (box3 c0 c1 c2)).cell? ⟨w.heap.size + 1, o, none⟩ := fun o => hb1.cell (p := ⟨w.heap.size + 1, o, none⟩) (by simp)
  have hC1 : ∀ o, w1.cell? ⟨w.heap.size + 1 + 1, o, none⟩ = (((w.alloc (box3 a0 a1 a2)).alloc (box3 b0 b1 b2)).alloc (box3 c0 c1 c2)).cell? ⟨w.heap.size + 1 + 1, o, none⟩ := fun o => hb1.cell (p := ⟨w.heap.size + 1 + 1, o, none⟩) (by simp)
  have hz1 : w.heap.size + 1 + 1 < w1.heap.size := by have := hb1.size; simp at this; omega
  have hbw1 : Below w.heap.size w w1 := (((((Below.refl _ _).alloc (Nat.le_refl _) _).alloc (by simp) _).alloc (by simp; omega) _)).trans (hb1.mono (by simp; omega))
  have hi1 : w.heap.size < w1.heap.size := by omega
  have hj1 : w.heap.size + 1 < w1.heap.size := by omega
  clear hb1
  go_wp2_with fail
  refine Calls.mono (fits_v _ _ _ _ _ _ _ hF1) ?_
  rintro e w4 ⟨rfl, hb4⟩
  have hX4 : Below w1.heap.size w1 w4 := by first | exact hb4 | exact ((Below.refl _ _).alloc (Nat.le_refl _) _).trans (hb4.mono (by simp)) | exact (((Below.refl _ _).alloc (Nat.le_refl _) _).alloc (by simp) _).trans (hb4.mono (by simp; omega))
  have hY4 := hX4
  clear hb4
  have hA4 : ∀ o, w4.cell? ⟨w.heap.size, o, none⟩ = (((w.alloc (box3 a0 a1 a2)).alloc (box3 b0 b1 b2)).alloc (box3 c0 c1 c2)).cell? ⟨w.heap.size, o, none⟩ := fun o => (hX4.cell (p := ⟨w.heap.size, o, none⟩) (by simp; omega)).trans (hA1 o)
  have hB4 : ∀ o, w4.cell? ⟨w.heap.size + 1, o, none⟩ = (((w.alloc (box3 a0 a1 a2)).alloc (box3 b0 b1 b2)).alloc (box3 c0 c1 c2)).cell? ⟨w.heap.size + 1, o, none⟩ := fun o => (hX4.cell (p := ⟨w.heap.size + 1, o, none⟩) (by simp; omega)).trans (hB1 o)
  have hC4 : ∀ o, w4.cell? ⟨w.heap.size + 1 + 1, o, none⟩ = (((w.alloc (box3 a0 a1 a2)).alloc (box3 b0 b1 b2)).alloc (box3 c0 c1 c2)).cell? ⟨w.heap.size + 1 + 1, o, none⟩ := fun o => (hX4.cell (p := ⟨w.heap.size + 1 + 1, o, none⟩) (by simp; omega)).trans (hC1 o)
  have hz4 : w.heap.size + 1 + 1 < w4.heap.size := Nat.lt_of_lt_of_le hz1 hX4.size
  have hi4 : w.heap.size < w4.heap.size := by omega
  have hj4 : w.heap.size + 1 < w4.heap.size := by omega
  have hbw4 : Below w.heap.size w w4 := hbw1.trans (hX4.mono (by omega))
  clear hX4 hA1 hB1 hC1 hbw1 hz1 hi1 hj1
  go_wp2_with fail
  refine Calls.mono (sub_no _ _ _ _ _ _ _ hS) ?_
  rintro e w5 ⟨rfl, hb5⟩
  have hX5 : Below w4.heap.size w4 w5 := by first | exact hb5 | exact ((Below.refl _ _).alloc (Nat.le_refl _) _).trans (hb5.mono (by simp)) | exact (((Below.refl _ _).alloc (Nat.le_refl _) _).alloc (by simp) _).trans (hb5.mono (by simp; omega))
  have hY5 := hX5
  clear hb5
  have hA5 : ∀ o, w5.cell? ⟨w.heap.size, o, none⟩ = (((w.alloc (box3 a0 a1 a2)).alloc (box3 b0 b1 b2)).alloc (box3 c0 c1 c2)).cell? ⟨w.heap.size, o, none⟩ := fun o => (hX5.cell (p := ⟨w.heap.size, o, none⟩) (by simp; omega)).trans (hA4 o)
  have hB5 : ∀ o, w5.cell? ⟨w.heap.size + 1, o, none⟩ = (((w.alloc (box3 a0 a1 a2)).alloc (box3 b0 b1 b2)).alloc (box3 c0 c1 c2)).cell? ⟨w.heap.size + 1, o, none⟩ := fun o => (hX5.cell (p := ⟨w.heap.size + 1, o, none⟩) (by simp; omega)).trans (hB4 o)
  have hC5 : ∀ o, w5.cell? ⟨w.heap.size + 1 + 1, o, none⟩ = (((w.alloc (box3 a0 a1 a2)).alloc (box3 b0 b1 b2)).alloc (box3 c0 c1 c2)).cell? ⟨w.heap.size + 1 + 1, o, none⟩ := fun o => (hX5.cell (p := ⟨w.heap.size + 1 + 1, o, none⟩) (by simp; omega)).trans (hC4 o)
  have hz5 : w.heap.size + 1 + 1 < w5.heap.size := Nat.lt_of_lt_of_le hz4 hX5.size
  have hi5 : w.heap.size < w5.heap.size := by omega
  have hj5 : w.heap.size + 1 < w5.heap.size := by omega
  have hbw5 : Below w.heap.size w w5 := hbw4.trans (hX5.mono (by omega))
  clear hX5 hA4 hB4 hC4 hbw4 hz4 hi4 hj4
  have gd := guardR
  have he : ∀ w : World, (Op.equalIn 10000 23 (res 0 0 0) (res 0 0 0)).run Try.prog w = .ok true w := fun w => eq_R 0 0 0 0 0 0 w
  go_wp2_with fail
  refine Calls.mono (fits_v _ _ _ _ _ _ _ hF1) ?_
  rintro e w6 ⟨rfl, hb6⟩
  have hX6 : Below w5.heap.size w5 w6 := by first | exact hb6 | exact ((Below.refl _ _).alloc (Nat.le_refl _) _).trans (hb6.mono (by simp)) | exact (((Below.refl _ _).alloc (Nat.le_refl _) _).alloc (by simp) _).trans (hb6.mono (by simp; omega))
  have hY6 := hX6
  clear hb6
  have hA6 : ∀ o, w6.cell? ⟨w.heap.size, o, none⟩ = (((w.alloc (box3 a0 a1 a2)).alloc (box3 b0 b1 b2)).alloc (box3 c0 c1 c2)).cell? ⟨w.heap.size, o, none⟩ := fun o => (hX6.cell (p := ⟨w.heap.size, o, none⟩) (by simp; omega)).trans (hA5 o)
  have hB6 : ∀ o, w6.cell? ⟨w.heap.size + 1, o, none⟩ = (((w.alloc (box3 a0 a1 a2)).alloc (box3 b0 b1 b2)).alloc (box3 c0 c1 c2)).cell? ⟨w.heap.size + 1, o, none⟩ := fun o => (hX6.cell (p := ⟨w.heap.size + 1, o, none⟩) (by simp; omega)).trans (hB5 o)
  have hC6 : ∀ o, w6.cell? ⟨w.heap.size + 1 + 1, o, none⟩ = (((w.alloc (box3 a0 a1 a2)).alloc (box3 b0 b1 b2)).alloc (box3 c0 c1 c2)).cell? ⟨w.heap.size + 1 + 1, o, none⟩ := fun o => (hX6.cell (p := ⟨w.heap.size + 1 + 1, o, none⟩) (by simp; omega)).trans (hC5 o)
  have hz6 : w.heap.size + 1 + 1 < w6.heap.size := Nat.lt_of_lt_of_le hz5 hX6.size
  have hi6 : w.heap.size < w6.heap.size := by omega
  have hj6 : w.heap.size + 1 < w6.heap.size := by omega
  have hbw6 : Below w.heap.size w w6 := hbw5.trans (hX6.mono (by omega))
  clear hX6 hA5 hB5 hC5 hbw5 hz5 hi5 hj5
  go_wp2
  go_ret
  exact ⟨rfl, (by first | exact hbw6 | exact hbw6.alloc hbw6.size _ | exact (hbw6.alloc hbw6.size _).alloc (by have := hbw6.size; simp; omega) _)⟩

set_option maxRecDepth 100000 in
set_option maxHeartbeats 4000000 in
theorem qtyFits_2 (a0 a1 a2 b0 b1 b2 c0 c1 c2 : Int) (w : World) (hF1 : fitsB a0 a1 a2 b0 b1 b2 = true) (hF2 : fitsB b0 b1 b2 c0 c1 c2 = false) :
    Calls Try.prog 14 #[res a0 a1 a2, res b0 b1 b2, res c0 c1 c2] w fun e w' => e = .returned (.bool true) ∧ Below w.heap.size w w' := by
  go_enter Try.func14, Try.ntmps14
  go_wp2_with fail
  refine (begun_any _).mono ?_
  rintro e w1 ⟨rfl, hb1⟩
  have hA1 : ∀ o, w1.cell? ⟨w.heap.size, o, none⟩ = (((w.alloc (box3 a0 a1 a2)).alloc (box3 b0 b1 b2)).alloc (box3 c0 c1 c2)).cell? ⟨w.heap.size, o, none⟩ := fun o => hb1.cell (p := ⟨w.heap.size, o, none⟩) (by simp; omega)
  have hB1 : ∀ o, w1.cell? ⟨w.heap.size + 1, o, none⟩ = (((w.alloc (box3 a0 a1 a2)).alloc (box3 b0 b1 b2)).alloc (box3 c0 c1 c2)).cell? ⟨w.heap.size + 1, o, none⟩ := fun o => hb1.cell (p := ⟨w.heap.size + 1, o, none⟩) (by simp)
  have hC1 : ∀ o, w1.cell? ⟨w.heap.size + 1 + 1, o, none⟩ = (((w.alloc (box3 a0 a1 a2)).alloc (box3 b0 b1 b2)).alloc (box3 c0 c1 c2)).cell? ⟨w.heap.size + 1 + 1, o, none⟩ := fun o => hb1.cell (p := ⟨w.heap.size + 1 + 1, o, none⟩) (by simp)
  have hz1 : w.heap.size + 1 + 1 < w1.heap.size := by have := hb1.size; simp at this; omega
  have hbw1 : Below w.heap.size w w1 := (((((Below.refl _ _).alloc (Nat.le_refl _) _).alloc (by simp) _).alloc (by simp; omega) _)).trans (hb1.mono (by simp; omega))
  have hi1 : w.heap.size < w1.heap.size := by omega
  have hj1 : w.heap.size + 1 < w1.heap.size := by omega
  clear hb1
  go_wp2_with fail
  refine Calls.mono (fits_v _ _ _ _ _ _ _ hF1) ?_
  rintro e w2 ⟨rfl, hb2⟩
  have hX2 : Below w1.heap.size w1 w2 := by first | exact hb2 | exact ((Below.refl _ _).alloc (Nat.le_refl _) _).trans (hb2.mono (by simp)) | exact (((Below.refl _ _).alloc (Nat.le_refl _) _).alloc (by simp) _).trans (hb2.mono (by simp; omega))
  have hY2 := hX2
  clear hb2
  have hA2 : ∀ o, w2.cell? ⟨w.heap.size, o, none⟩ = (((w.alloc (box3 a0 a1 a2)).alloc (box3 b0 b1 b2)).alloc (box3 c0 c1 c2)).cell? ⟨w.heap.size, o, none⟩ := fun o => (hX2.cell (p := ⟨w.heap.size, o, none⟩) (by simp; omega)).trans (hA1 o)
  have hB2 : ∀ o, w2.cell? ⟨w.heap.size + 1, o, none⟩ = (((w.alloc (box3 a0 a1 a2)).alloc (box3 b0 b1 b2)).alloc (box3 c0 c1 c2)).cell? ⟨w.heap.size + 1, o, none⟩ := fun o => (hX2.cell (p := ⟨w.heap.size + 1, o, none⟩) (by simp; omega)).trans (hB1 o)
  have hC2 : ∀ o, w2.cell? ⟨w.heap.size + 1 + 1, o, none⟩ = (((w.alloc (box3 a0 a1 a2)).alloc (box3 b0 b1 b2)).alloc (box3 c0 c1 c2)).cell? ⟨w.heap.size + 1 + 1, o, none⟩ := fun o => (hX2.cell (p := ⟨w.heap.size + 1 + 1, o, none⟩) (by simp; omega)).trans (hC1 o)
  have hz2 : w.heap.size + 1 + 1 < w2.heap.size := Nat.lt_of_lt_of_le hz1 hX2.size
  have hi2 : w.heap.size < w2.heap.size := by omega
  have hj2 : w.heap.size + 1 < w2.heap.size := by omega
  have hbw2 : Below w.heap.size w w2 := hbw1.trans (hX2.mono (by omega))
  clear hX2 hA1 hB1 hC1 hbw1 hz1 hi1 hj1
  go_wp2_with fail
  refine Calls.mono (fits_v _ _ _ _ _ _ _ hF2) ?_
  rintro e w4 ⟨rfl, hb4⟩
  have hX4 : Below w2.heap.size w2 w4 := by first | exact hb4 | exact ((Below.refl _ _).alloc (Nat.le_refl _) _).trans (hb4.mono (by simp)) | exact (((Below.refl _ _).alloc (Nat.le_refl _) _).alloc (by simp) _).trans (hb4.mono (by simp; omega))
  have hY4 := hX4
  clear hb4
  have hA4 : ∀ o, w4.cell? ⟨w.heap.size, o, none⟩ = (((w.alloc (box3 a0 a1 a2)).alloc (box3 b0 b1 b2)).alloc (box3 c0 c1 c2)).cell? ⟨w.heap.size, o, none⟩ := fun o => (hX4.cell (p := ⟨w.heap.size, o, none⟩) (by simp; omega)).trans (hA2 o)
  have hB4 : ∀ o, w4.cell? ⟨w.heap.size + 1, o, none⟩ = (((w.alloc (box3 a0 a1 a2)).alloc (box3 b0 b1 b2)).alloc (box3 c0 c1 c2)).cell? ⟨w.heap.size + 1, o, none⟩ := fun o => (hX4.cell (p := ⟨w.heap.size + 1, o, none⟩) (by simp; omega)).trans (hB2 o)
  have hC4 : ∀ o, w4.cell? ⟨w.heap.size + 1 + 1, o, none⟩ = (((w.alloc (box3 a0 a1 a2)).alloc (box3 b0 b1 b2)).alloc (box3 c0 c1 c2)).cell? ⟨w.heap.size + 1 + 1, o, none⟩ := fun o => (hX4.cell (p := ⟨w.heap.size + 1 + 1, o, none⟩) (by simp; omega)).trans (hC2 o)
  have hz4 : w.heap.size + 1 + 1 < w4.heap.size := Nat.lt_of_lt_of_le hz2 hX4.size
  have hi4 : w.heap.size < w4.heap.size := by omega
  have hj4 : w.heap.size + 1 < w4.heap.size := by omega
  have hbw4 : Below w.heap.size w w4 := hbw2.trans (hX4.mono (by omega))
  clear hX4 hA2 hB2 hC2 hbw2 hz2 hi2 hj2
  cases hS : subB b0 b1 b2 a0 a1 a2
  · cases hW : withinB a0 a1 a2 4611686018427387904
    · go_wp2_with fail
      refine Calls.mono (sub_no _ _ _ _ _ _ _ hS) ?_
      rintro e w5 ⟨rfl, hb5⟩
      have hX5 : Below w4.heap.size w4 w5 := by first | exact hb5 | exact ((Below.refl _ _).alloc (Nat.le_refl _) _).trans (hb5.mono (by simp)) | exact (((Below.refl _ _).alloc (Nat.le_refl _) _).alloc (by simp) _).trans (hb5.mono (by simp; omega))
      have hY5 := hX5
      clear hb5
      have hA5 : ∀ o, w5.cell? ⟨w.heap.size, o, none⟩ = (((w.alloc (box3 a0 a1 a2)).alloc (box3 b0 b1 b2)).alloc (box3 c0 c1 c2)).cell? ⟨w.heap.size, o, none⟩ := fun o => (hX5.cell (p := ⟨w.heap.size, o, none⟩) (by simp; omega)).trans (hA4 o)
      have hB5 : ∀ o, w5.cell? ⟨w.heap.size + 1, o, none⟩ = (((w.alloc (box3 a0 a1 a2)).alloc (box3 b0 b1 b2)).alloc (box3 c0 c1 c2)).cell? ⟨w.heap.size + 1, o, none⟩ := fun o => (hX5.cell (p := ⟨w.heap.size + 1, o, none⟩) (by simp; omega)).trans (hB4 o)
      have hC5 : ∀ o, w5.cell? ⟨w.heap.size + 1 + 1, o, none⟩ = (((w.alloc (box3 a0 a1 a2)).alloc (box3 b0 b1 b2)).alloc (box3 c0 c1 c2)).cell? ⟨w.heap.size + 1 + 1, o, none⟩ := fun o => (hX5.cell (p := ⟨w.heap.size + 1 + 1, o, none⟩) (by simp; omega)).trans (hC4 o)
      have hz5 : w.heap.size + 1 + 1 < w5.heap.size := Nat.lt_of_lt_of_le hz4 hX5.size
      have hi5 : w.heap.size < w5.heap.size := by omega
      have hj5 : w.heap.size + 1 < w5.heap.size := by omega
      have hbw5 : Below w.heap.size w w5 := hbw4.trans (hX5.mono (by omega))
      clear hX5 hA4 hB4 hC4 hbw4 hz4 hi4 hj4
      have gd := guardR
      have he : ∀ w : World, (Op.equalIn 10000 23 (res 0 0 0) (res 0 0 0)).run Try.prog w = .ok true w := fun w => eq_R 0 0 0 0 0 0 w
      go_wp2_with fail
      refine Calls.mono (fits_v _ _ _ _ _ _ _ hF1) ?_
      rintro e w6 ⟨rfl, hb6⟩
      have hX6 : Below w5.heap.size w5 w6 := by first | exact hb6 | exact ((Below.refl _ _).alloc (Nat.le_refl _) _).trans (hb6.mono (by simp)) | exact (((Below.refl _ _).alloc (Nat.le_refl _) _).alloc (by simp) _).trans (hb6.mono (by simp; omega))
      have hY6 := hX6
      clear hb6
      have hA6 : ∀ o, w6.cell? ⟨w.heap.size, o, none⟩ = (((w.alloc (box3 a0 a1 a2)).alloc (box3 b0 b1 b2)).alloc (box3 c0 c1 c2)).cell? ⟨w.heap.size, o, none⟩ := fun o => (hX6.cell (p := ⟨w.heap.size, o, none⟩) (by simp; omega)).trans (hA5 o)
      have hB6 : ∀ o, w6.cell? ⟨w.heap.size + 1, o, none⟩ = (((w.alloc (box3 a0 a1 a2)).alloc (box3 b0 b1 b2)).alloc (box3 c0 c1 c2)).cell? ⟨w.heap.size + 1, o, none⟩ := fun o => (hX6.cell (p := ⟨w.heap.size + 1, o, none⟩) (by simp; omega)).trans (hB5 o)
      have hC6 : ∀ o, w6.cell? ⟨w.heap.size + 1 + 1, o, none⟩ = (((w.alloc (box3 a0 a1 a2)).alloc (box3 b0 b1 b2)).alloc (box3 c0 c1 c2)).cell? ⟨w.heap.size + 1 + 1, o, none⟩ := fun o => (hX6.cell (p := ⟨w.heap.size + 1 + 1, o, none⟩) (by simp; omega)).trans (hC5 o)
      have hz6 : w.heap.size + 1 + 1 < w6.heap.size := Nat.lt_of_lt_of_le hz5 hX6.size
      have hi6 : w.heap.size < w6.heap.size := by omega
      have hj6 : w.heap.size + 1 < w6.heap.size := by omega
      have hbw6 : Below w.heap.size w w6 := hbw5.trans (hX6.mono (by omega))
      clear hX6 hA5 hB5 hC5 hbw5 hz5 hi5 hj5
      go_wp2_with fail
      refine Calls.mono (fine_v _ _ _ _ hW) ?_
      rintro e w7 ⟨rfl, hb7⟩
      have hX7 : Below w6.heap.size w6 w7 := by first | exact hb7 | exact ((Below.refl _ _).alloc (Nat.le_refl _) _).trans (hb7.mono (by simp)) | exact (((Below.refl _ _).alloc (Nat.le_refl _) _).alloc (by simp) _).trans (hb7.mono (by simp; omega))
      have hY7 := hX7
      clear hb7
      have hA7 : ∀ o, w7.cell? ⟨w.heap.size, o, none⟩ = (((w.alloc (box3 a0 a1 a2)).alloc (box3 b0 b1 b2)).alloc (box3 c0 c1 c2)).cell? ⟨w.heap.size, o, none⟩ := fun o => (hX7.cell (p := ⟨w.heap.size, o, none⟩) (by simp; omega)).trans (hA6 o)
      have hB7 : ∀ o, w7.cell? ⟨w.heap.size + 1, o, none⟩ = (((w.alloc (box3 a0 a1 a2)).alloc (box3 b0 b1 b2)).alloc (box3 c0 c1 c2)).cell? ⟨w.heap.size + 1, o, none⟩ := fun o => (hX7.cell (p := ⟨w.heap.size + 1, o, none⟩) (by simp; omega)).trans (hB6 o)
      have hC7 : ∀ o, w7.cell? ⟨w.heap.size + 1 + 1, o, none⟩ = (((w.alloc (box3 a0 a1 a2)).alloc (box3 b0 b1 b2)).alloc (box3 c0 c1 c2)).cell? ⟨w.heap.size + 1 + 1, o, none⟩ := fun o => (hX7.cell (p := ⟨w.heap.size + 1 + 1, o, none⟩) (by simp; omega)).trans (hC6 o)
      have hz7 : w.heap.size + 1 + 1 < w7.heap.size := Nat.lt_of_lt_of_le hz6 hX7.size
      have hi7 : w.heap.size < w7.heap.size := by omega
      have hj7 : w.heap.size + 1 < w7.heap.size := by omega
      have hbw7 : Below w.heap.size w w7 := hbw6.trans (hX7.mono (by omega))
      clear hX7 hA6 hB6 hC6 hbw6 hz6 hi6 hj6
      go_wp2
      go_ret
      exact ⟨rfl, (by first | exact hbw7 | exact hbw7.alloc hbw7.size _ | exact (hbw7.alloc hbw7.size _).alloc (by have := hbw7.size; simp; omega) _)⟩
    · have hW2 : withinB b0 b1 b2 4611686018427387904 = false := by unfold subB far at hS; rw [hF1, hW] at hS; simpa using hS
      go_wp2_with fail
      refine Calls.mono (sub_no _ _ _ _ _ _ _ hS) ?_
      rintro e w5 ⟨rfl, hb5⟩
      have hX5 : Below w4.heap.size w4 w5 := by first | exact hb5 | exact ((Below.refl _ _).alloc (Nat.le_refl _) _).trans (hb5.mono (by simp)) | exact (((Below.refl _ _).alloc (Nat.le_refl _) _).alloc (by simp) _).trans (hb5.mono (by simp; omega))
      have hY5 := hX5
      clear hb5
      have hA5 : ∀ o, w5.cell? ⟨w.heap.size, o, none⟩ = (((w.alloc (box3 a0 a1 a2)).alloc (box3 b0 b1 b2)).alloc (box3 c0 c1 c2)).cell? ⟨w.heap.size, o, none⟩ := fun o => (hX5.cell (p := ⟨w.heap.size, o, none⟩) (by simp; omega)).trans (hA4 o)
      have hB5 : ∀ o, w5.cell? ⟨w.heap.size + 1, o, none⟩ = (((w.alloc (box3 a0 a1 a2)).alloc (box3 b0 b1 b2)).alloc (box3 c0 c1 c2)).cell? ⟨w.heap.size + 1, o, none⟩ := fun o => (hX5.cell (p := ⟨w.heap.size + 1, o, none⟩) (by simp; omega)).trans (hB4 o)
      have hC5 : ∀ o, w5.cell? ⟨w.heap.size + 1 + 1, o, none⟩ = (((w.alloc (box3 a0 a1 a2)).alloc (box3 b0 b1 b2)).alloc (box3 c0 c1 c2)).cell? ⟨w.heap.size + 1 + 1, o, none⟩ := fun o => (hX5.cell (p := ⟨w.heap.size + 1 + 1, o, none⟩) (by simp; omega)).trans (hC4 o)
      have hz5 : w.heap.size + 1 + 1 < w5.heap.size := Nat.lt_of_lt_of_le hz4 hX5.size
      have hi5 : w.heap.size < w5.heap.size := by omega
      have hj5 : w.heap.size + 1 < w5.heap.size := by omega
      have hbw5 : Below w.heap.size w w5 := hbw4.trans (hX5.mono (by omega))
      clear hX5 hA4 hB4 hC4 hbw4 hz4 hi4 hj4
      have gd := guardR
      have he : ∀ w : World, (Op.equalIn 10000 23 (res 0 0 0) (res 0 0 0)).run Try.prog w = .ok true w := fun w => eq_R 0 0 0 0 0 0 w
      go_wp2_with fail
      refine Calls.mono (fits_v _ _ _ _ _ _ _ hF1) ?_
      rintro e w6 ⟨rfl, hb6⟩
      have hX6 : Below w5.heap.size w5 w6 := by first | exact hb6 | exact ((Below.refl _ _).alloc (Nat.le_refl _) _).trans (hb6.mono (by simp)) | exact (((Below.refl _ _).alloc (Nat.le_refl _) _).alloc (by simp) _).trans (hb6.mono (by simp; omega))
      have hY6 := hX6
      clear hb6
      have hA6 : ∀ o, w6.cell? ⟨w.heap.size, o, none⟩ = (((w.alloc (box3 a0 a1 a2)).alloc (box3 b0 b1 b2)).alloc (box3 c0 c1 c2)).cell? ⟨w.heap.size, o, none⟩ := fun o => (hX6.cell (p := ⟨w.heap.size, o, none⟩) (by simp; omega)).trans (hA5 o)
      have hB6 : ∀ o, w6.cell? ⟨w.heap.size + 1, o, none⟩ = (((w.alloc (box3 a0 a1 a2)).alloc (box3 b0 b1 b2)).alloc (box3 c0 c1 c2)).cell? ⟨w.heap.size + 1, o, none⟩ := fun o => (hX6.cell (p := ⟨w.heap.size + 1, o, none⟩) (by simp; omega)).trans (hB5 o)
      have hC6 : ∀ o, w6.cell? ⟨w.heap.size + 1 + 1, o, none⟩ = (((w.alloc (box3 a0 a1 a2)).alloc (box3 b0 b1 b2)).alloc (box3 c0 c1 c2)).cell? ⟨w.heap.size + 1 + 1, o, none⟩ := fun o => (hX6.cell (p := ⟨w.heap.size + 1 + 1, o, none⟩) (by simp; omega)).trans (hC5 o)
      have hz6 : w.heap.size + 1 + 1 < w6.heap.size := Nat.lt_of_lt_of_le hz5 hX6.size
      have hi6 : w.heap.size < w6.heap.size := by omega
      have hj6 : w.heap.size + 1 < w6.heap.size := by omega
      have hbw6 : Below w.heap.size w w6 := hbw5.trans (hX6.mono (by omega))
      clear hX6 hA5 hB5 hC5 hbw5 hz5 hi5 hj5
      go_wp2_with fail
      refine Calls.mono (fine_v _ _ _ _ hW) ?_
      rintro e w7 ⟨rfl, hb7⟩
      have hX7 : Below w6.heap.size w6 w7 := by first | exact hb7 | exact ((Below.refl _ _).alloc (Nat.le_refl _) _).trans (hb7.mono (by simp)) | exact (((Below.refl _ _).alloc (Nat.le_refl _) _).alloc (by simp) _).trans (hb7.mono (by simp; omega))
      have hY7 := hX7
      clear hb7
      have hA7 : ∀ o, w7.cell? ⟨w.heap.size, o, none⟩ = (((w.alloc (box3 a0 a1 a2)).alloc (box3 b0 b1 b2)).alloc (box3 c0 c1 c2)).cell? ⟨w.heap.size, o, none⟩ := fun o => (hX7.cell (p := ⟨w.heap.size, o, none⟩) (by simp; omega)).trans (hA6 o)
      have hB7 : ∀ o, w7.cell? ⟨w.heap.size + 1, o, none⟩ = (((w.alloc (box3 a0 a1 a2)).alloc (box3 b0 b1 b2)).alloc (box3 c0 c1 c2)).cell? ⟨w.heap.size + 1, o, none⟩ := fun o => (hX7.cell (p := ⟨w.heap.size + 1, o, none⟩) (by simp; omega)).trans (hB6 o)
      have hC7 : ∀ o, w7.cell? ⟨w.heap.size + 1 + 1, o, none⟩ = (((w.alloc (box3 a0 a1 a2)).alloc (box3 b0 b1 b2)).alloc (box3 c0 c1 c2)).cell? ⟨w.heap.size + 1 + 1, o, none⟩ := fun o => (hX7.cell (p := ⟨w.heap.size + 1 + 1, o, none⟩) (by simp; omega)).trans (hC6 o)
      have hz7 : w.heap.size + 1 + 1 < w7.heap.size := Nat.lt_of_lt_of_le hz6 hX7.size
      have hi7 : w.heap.size < w7.heap.size := by omega
      have hj7 : w.heap.size + 1 < w7.heap.size := by omega
      have hbw7 : Below w.heap.size w w7 := hbw6.trans (hX7.mono (by omega))
      clear hX7 hA6 hB6 hC6 hbw6 hz6 hi6 hj6
      go_wp2_with fail
      refine Calls.mono (fine_v _ _ _ _ hW2) ?_
      rintro e w8 ⟨rfl, hb8⟩
      have hX8 : Below w7.heap.size w7 w8 := by first | exact hb8 | exact ((Below.refl _ _).alloc (Nat.le_refl _) _).trans (hb8.mono (by simp)) | exact (((Below.refl _ _).alloc (Nat.le_refl _) _).alloc (by simp) _).trans (hb8.mono (by simp; omega))
      have hY8 := hX8
      clear hb8
      have hA8 : ∀ o, w8.cell? ⟨w.heap.size, o, none⟩ = (((w.alloc (box3 a0 a1 a2)).alloc (box3 b0 b1 b2)).alloc (box3 c0 c1 c2)).cell? ⟨w.heap.size, o, none⟩ := fun o => (hX8.cell (p := ⟨w.heap.size, o, none⟩) (by simp; omega)).trans (hA7 o)
      have hB8 : ∀ o, w8.cell? ⟨w.heap.size + 1, o, none⟩ = (((w.alloc (box3 a0 a1 a2)).alloc (box3 b0 b1 b2)).alloc (box3 c0 c1 c2)).cell? ⟨w.heap.size + 1, o, none⟩ := fun o => (hX8.cell (p := ⟨w.heap.size + 1, o, none⟩) (by simp; omega)).trans (hB7 o)
      have hC8 : ∀ o, w8.cell? ⟨w.heap.size + 1 + 1, o, none⟩ = (((w.alloc (box3 a0 a1 a2)).alloc (box3 b0 b1 b2)).alloc (box3 c0 c1 c2)).cell? ⟨w.heap.size + 1 + 1, o, none⟩ := fun o => (hX8.cell (p := ⟨w.heap.size + 1 + 1, o, none⟩) (by simp; omega)).trans (hC7 o)
      have hz8 : w.heap.size + 1 + 1 < w8.heap.size := Nat.lt_of_lt_of_le hz7 hX8.size
      have hi8 : w.heap.size < w8.heap.size := by omega
      have hj8 : w.heap.size + 1 < w8.heap.size := by omega
      have hbw8 : Below w.heap.size w w8 := hbw7.trans (hX8.mono (by omega))
      clear hX8 hA7 hB7 hC7 hbw7 hz7 hi7 hj7
      go_wp2
      go_ret
      exact ⟨rfl, (by first | exact hbw8 | exact hbw8.alloc hbw8.size _ | exact (hbw8.alloc hbw8.size _).alloc (by have := hbw8.size; simp; omega) _)⟩
  · obtain ⟨f1, f2⟩ := sub_facts hS
    go_wp2_with fail
    refine Calls.mono (sub_yes _ _ _ _ _ _ _ hS) ?_
    rintro e w5 ⟨rfl, hb5⟩
    have hX5 : Below w4.heap.size w4 w5 := by first | exact hb5 | exact ((Below.refl _ _).alloc (Nat.le_refl _) _).trans (hb5.mono (by simp)) | exact (((Below.refl _ _).alloc (Nat.le_refl _) _).alloc (by simp) _).trans (hb5.mono (by simp; omega))
    have hY5 := hX5
    clear hb5
    have hA5 : ∀ o, w5.cell? ⟨w.heap.size, o, none⟩ = (((w.alloc (box3 a0 a1 a2)).alloc (box3 b0 b1 b2)).alloc (box3 c0 c1 c2)).cell? ⟨w.heap.size, o, none⟩ := fun o => (hX5.cell (p := ⟨w.heap.size, o, none⟩) (by simp; omega)).trans (hA4 o)
    have hB5 : ∀ o, w5.cell? ⟨w.heap.size + 1, o, none⟩ = (((w.alloc (box3 a0 a1 a2)).alloc (box3 b0 b1 b2)).alloc (box3 c0 c1 c2)).cell? ⟨w.heap.size + 1, o, none⟩ := fun o => (hX5.cell (p := ⟨w.heap.size + 1, o, none⟩) (by simp; omega)).trans (hB4 o)
    have hC5 : ∀ o, w5.cell? ⟨w.heap.size + 1 + 1, o, none⟩ = (((w.alloc (box3 a0 a1 a2)).alloc (box3 b0 b1 b2)).alloc (box3 c0 c1 c2)).cell? ⟨w.heap.size + 1 + 1, o, none⟩ := fun o => (hX5.cell (p := ⟨w.heap.size + 1 + 1, o, none⟩) (by simp; omega)).trans (hC4 o)
    have hz5 : w.heap.size + 1 + 1 < w5.heap.size := Nat.lt_of_lt_of_le hz4 hX5.size
    have hi5 : w.heap.size < w5.heap.size := by omega
    have hj5 : w.heap.size + 1 < w5.heap.size := by omega
    have hbw5 : Below w.heap.size w w5 := hbw4.trans (hX5.mono (by omega))
    clear hX5 hA4 hB4 hC4 hbw4 hz4 hi4 hj4
    go_wp2_with fail
    refine Calls.mono (add_yes _ _ _ _ _ _ _ f1) ?_
    rintro e w6 ⟨rfl, hb6⟩
    have hX6 : Below w5.heap.size w5 w6 := ((Below.refl _ _).alloc (Nat.le_refl _) _).trans (hb6.mono (by simp))
    have hS6 : ∀ o, w6.cell? ⟨w5.heap.size, o, none⟩ = (w5.alloc (box3 (b0 - a0) (b1 - a1) (b2 - a2))).cell? ⟨w5.heap.size, o, none⟩ := fun o => hb6.cell (p := ⟨w5.heap.size, o, none⟩) (by simp)
    have hy6 : w5.heap.size < w6.heap.size := by have := hb6.size; simp at this; omega
    clear hb6
    have hA6 : ∀ o, w6.cell? ⟨w.heap.size, o, none⟩ = (((w.alloc (box3 a0 a1 a2)).alloc (box3 b0 b1 b2)).alloc (box3 c0 c1 c2)).cell? ⟨w.heap.size, o, none⟩ := fun o => (hX6.cell (p := ⟨w.heap.size, o, none⟩) (by simp; omega)).trans (hA5 o)
    have hB6 : ∀ o, w6.cell? ⟨w.heap.size + 1, o, none⟩ = (((w.alloc (box3 a0 a1 a2)).alloc (box3 b0 b1 b2)).alloc (box3 c0 c1 c2)).cell? ⟨w.heap.size + 1, o, none⟩ := fun o => (hX6.cell (p := ⟨w.heap.size + 1, o, none⟩) (by simp; omega)).trans (hB5 o)
    have hC6 : ∀ o, w6.cell? ⟨w.heap.size + 1 + 1, o, none⟩ = (((w.alloc (box3 a0 a1 a2)).alloc (box3 b0 b1 b2)).alloc (box3 c0 c1 c2)).cell? ⟨w.heap.size + 1 + 1, o, none⟩ := fun o => (hX6.cell (p := ⟨w.heap.size + 1 + 1, o, none⟩) (by simp; omega)).trans (hC5 o)
    have hz6 : w.heap.size + 1 + 1 < w6.heap.size := Nat.lt_of_lt_of_le hz5 hX6.size
    have hi6 : w.heap.size < w6.heap.size := by omega
    have hj6 : w.heap.size + 1 < w6.heap.size := by omega
    have hbw6 : Below w.heap.size w w6 := hbw5.trans (hX6.mono (by omega))
    clear hX6 hA5 hB5 hC5 hbw5 hz5 hi5 hj5
    have gd := guardR
    have he : ∀ w : World, (Op.equalIn 10000 23 (res b0 b1 b2) (res b0 b1 b2)).run Try.prog w = .ok true w := fun w => by rw [eq_R, show eqRB b0 b1 b2 b0 b1 b2 = true by simp [eqRB]]
    go_wp2_with fail
    refine Calls.mono (fits_v _ _ _ _ _ _ _ hF1) ?_
    rintro e w7 ⟨rfl, hb7⟩
    have hX7 : Below w6.heap.size w6 w7 := ((Below.refl _ _).alloc (Nat.le_refl _) _).trans (hb7.mono (by simp))
    have hS7 : ∀ o, w7.cell? ⟨w5.heap.size, o, none⟩ = (w5.alloc (box3 (b0 - a0) (b1 - a1) (b2 - a2))).cell? ⟨w5.heap.size, o, none⟩ := fun o => (hX7.cell (p := ⟨w5.heap.size, o, none⟩) hy6).trans (hS6 o)
    have hy7 : w5.heap.size < w7.heap.size := Nat.lt_of_lt_of_le hy6 hX7.size
    clear hb7 hS6 hy6 he gd
    have hA7 : ∀ o, w7.cell? ⟨w.heap.size, o, none⟩ = (((w.alloc (box3 a0 a1 a2)).alloc (box3 b0 b1 b2)).alloc (box3 c0 c1 c2)).cell? ⟨w.heap.size, o, none⟩ := fun o => (hX7.cell (p := ⟨w.heap.size, o, none⟩) (by simp; omega)).trans (hA6 o)
    have hB7 : ∀ o, w7.cell? ⟨w.heap.size + 1, o, none⟩ = (((w.alloc (box3 a0 a1 a2)).alloc (box3 b0 b1 b2)).alloc (box3 c0 c1 c2)).cell? ⟨w.heap.size + 1, o, none⟩ := fun o => (hX7.cell (p := ⟨w.heap.size + 1, o, none⟩) (by simp; omega)).trans (hB6 o)
    have hC7 : ∀ o, w7.cell? ⟨w.heap.size + 1 + 1, o, none⟩ = (((w.alloc (box3 a0 a1 a2)).alloc (box3 b0 b1 b2)).alloc (box3 c0 c1 c2)).cell? ⟨w.heap.size + 1 + 1, o, none⟩ := fun o => (hX7.cell (p := ⟨w.heap.size + 1 + 1, o, none⟩) (by simp; omega)).trans (hC6 o)
    have hz7 : w.heap.size + 1 + 1 < w7.heap.size := Nat.lt_of_lt_of_le hz6 hX7.size
    have hi7 : w.heap.size < w7.heap.size := by omega
    have hj7 : w.heap.size + 1 < w7.heap.size := by omega
    have hbw7 : Below w.heap.size w w7 := hbw6.trans (hX7.mono (by omega))
    clear hX7 hA6 hB6 hC6 hbw6 hz6 hi6 hj6
    go_wp2_with fail
    refine Calls.mono (fits_v _ _ _ _ _ _ _ f2) ?_
    rintro e w8 ⟨rfl, hb8⟩
    have hX8 : Below w7.heap.size w7 w8 := by first | exact hb8 | exact ((Below.refl _ _).alloc (Nat.le_refl _) _).trans (hb8.mono (by simp)) | exact (((Below.refl _ _).alloc (Nat.le_refl _) _).alloc (by simp) _).trans (hb8.mono (by simp; omega))
    have hY8 := hX8
    clear hb8
    have hA8 : ∀ o, w8.cell? ⟨w.heap.size, o, none⟩ = (((w.alloc (box3 a0 a1 a2)).alloc (box3 b0 b1 b2)).alloc (box3 c0 c1 c2)).cell? ⟨w.heap.size, o, none⟩ := fun o => (hX8.cell (p := ⟨w.heap.size, o, none⟩) (by simp; omega)).trans (hA7 o)
    have hB8 : ∀ o, w8.cell? ⟨w.heap.size + 1, o, none⟩ = (((w.alloc (box3 a0 a1 a2)).alloc (box3 b0 b1 b2)).alloc (box3 c0 c1 c2)).cell? ⟨w.heap.size + 1, o, none⟩ := fun o => (hX8.cell (p := ⟨w.heap.size + 1, o, none⟩) (by simp; omega)).trans (hB7 o)
    have hC8 : ∀ o, w8.cell? ⟨w.heap.size + 1 + 1, o, none⟩ = (((w.alloc (box3 a0 a1 a2)).alloc (box3 b0 b1 b2)).alloc (box3 c0 c1 c2)).cell? ⟨w.heap.size + 1 + 1, o, none⟩ := fun o => (hX8.cell (p := ⟨w.heap.size + 1 + 1, o, none⟩) (by simp; omega)).trans (hC7 o)
    have hz8 : w.heap.size + 1 + 1 < w8.heap.size := Nat.lt_of_lt_of_le hz7 hX8.size
    have hi8 : w.heap.size < w8.heap.size := by omega
    have hj8 : w.heap.size + 1 < w8.heap.size := by omega
    have hbw8 : Below w.heap.size w w8 := hbw7.trans (hX8.mono (by omega))
    clear hX8 hA7 hB7 hC7 hbw7 hz7 hi7 hj7
    go_wp2
    go_ret
    exact ⟨rfl, (by first | exact hbw8 | exact hbw8.alloc hbw8.size _ | exact (hbw8.alloc hbw8.size _).alloc (by have := hbw8.size; simp; omega) _)⟩

set_option maxRecDepth 100000 in
set_option maxHeartbeats 4000000 in
theorem qtyFits_3 (a0 a1 a2 b0 b1 b2 c0 c1 c2 : Int) (w : World) (hF1 : fitsB a0 a1 a2 b0 b1 b2 = true) (hF2 : fitsB b0 b1 b2 c0 c1 c2 = true) :
    Calls Try.prog 14 #[res a0 a1 a2, res b0 b1 b2, res c0 c1 c2] w fun e w' => e = .returned (.bool true) ∧ Below w.heap.size w w' := by
  have hF3 : fitsB a0 a1 a2 c0 c1 c2 = true := by
    unfold fitsB at hF1 hF2 ⊢
    simp only [decide_eq_true_eq] at hF1 hF2 ⊢
    omega
  go_enter Try.func14, Try.ntmps14
  go_wp2_with fail
  refine (begun_any _).mono ?_
  rintro e w1 ⟨rfl, hb1⟩
  have hA1 : ∀ o, w1.cell? ⟨w.heap.size, o, none⟩ = (((w.alloc (box3 a0 a1 a2)).alloc (box3 b0 b1 b2)).alloc (box3 c0 c1 c2)).cell? ⟨w.heap.size, o, none⟩ := fun o => hb1.cell (p := ⟨w.heap.size, o, none⟩) (by simp; omega)
  have hB1 : ∀ o, w1.cell? ⟨w.heap.size + 1, o, none⟩ = (((w.alloc (box3 a0 a1 a2)).alloc (box3 b0 b1 b2)).alloc (box3 c0 c1 c2)).cell? ⟨w.heap.size + 1, o, none⟩ := fun o => hb1.cell (p := ⟨w.heap.size + 1, o, none⟩) (by simp)
  have hC1 : ∀ o, w1.cell? ⟨w.heap.size + 1 + 1, o, none⟩ = (((w.alloc (box3 a0 a1 a2)).alloc (box3 b0 b1 b2)).alloc (box3 c0 c1 c2)).cell? ⟨w.heap.size + 1 + 1, o, none⟩ := fun o => hb1.cell (p := ⟨w.heap.size + 1 + 1, o, none⟩) (by simp)
  have hz1 : w.heap.size + 1 + 1 < w1.heap.size := by have := hb1.size; simp at this; omega
  have hbw1 : Below w.heap.size w w1 := (((((Below.refl _ _).alloc (Nat.le_refl _) _).alloc (by simp) _).alloc (by simp; omega) _)).trans (hb1.mono (by simp; omega))
  have hi1 : w.heap.size < w1.heap.size := by omega
  have hj1 : w.heap.size + 1 < w1.heap.size := by omega
  clear hb1
  go_wp2_with fail
  refine Calls.mono (fits_v _ _ _ _ _ _ _ hF1) ?_
  rintro e w2 ⟨rfl, hb2⟩
  have hX2 : Below w1.heap.size w1 w2 := by first | exact hb2 | exact ((Below.refl _ _).alloc (Nat.le_refl _) _).trans (hb2.mono (by simp)) | exact (((Below.refl _ _).alloc (Nat.le_refl _) _).alloc (by simp) _).trans (hb2.mono (by simp; omega))
  have hY2 := hX2
  clear hb2
  have hA2 : ∀ o, w2.cell? ⟨w.heap.size, o, none⟩ = (((w.alloc (box3 a0 a1 a2)).alloc (box3 b0 b1 b2)).alloc (box3 c0 c1 c2)).cell? ⟨w.heap.size, o, none⟩ := fun o => (hX2.cell (p := ⟨w.heap.size, o, none⟩) (by simp; omega)).trans (hA1 o)
  have hB2 : ∀ o, w2.cell? ⟨w.heap.size + 1, o, none⟩ = (((w.alloc (box3 a0 a1 a2)).alloc (box3 b0 b1 b2)).alloc (box3 c0 c1 c2)).cell? ⟨w.heap.size + 1, o, none⟩ := fun o => (hX2.cell (p := ⟨w.heap.size + 1, o, none⟩) (by simp; omega)).trans (hB1 o)
  have hC2 : ∀ o, w2.cell? ⟨w.heap.size + 1 + 1, o, none⟩ = (((w.alloc (box3 a0 a1 a2)).alloc (box3 b0 b1 b2)).alloc (box3 c0 c1 c2)).cell? ⟨w.heap.size + 1 + 1, o, none⟩ := fun o => (hX2.cell (p := ⟨w.heap.size + 1 + 1, o, none⟩) (by simp; omega)).trans (hC1 o)
  have hz2 : w.heap.size + 1 + 1 < w2.heap.size := Nat.lt_of_lt_of_le hz1 hX2.size
  have hi2 : w.heap.size < w2.heap.size := by omega
  have hj2 : w.heap.size + 1 < w2.heap.size := by omega
  have hbw2 : Below w.heap.size w w2 := hbw1.trans (hX2.mono (by omega))
  clear hX2 hA1 hB1 hC1 hbw1 hz1 hi1 hj1
  go_wp2_with fail
  refine Calls.mono (fits_v _ _ _ _ _ _ _ hF2) ?_
  rintro e w3 ⟨rfl, hb3⟩
  have hX3 : Below w2.heap.size w2 w3 := by first | exact hb3 | exact ((Below.refl _ _).alloc (Nat.le_refl _) _).trans (hb3.mono (by simp)) | exact (((Below.refl _ _).alloc (Nat.le_refl _) _).alloc (by simp) _).trans (hb3.mono (by simp; omega))
  have hY3 := hX3
  clear hb3
  have hA3 : ∀ o, w3.cell? ⟨w.heap.size, o, none⟩ = (((w.alloc (box3 a0 a1 a2)).alloc (box3 b0 b1 b2)).alloc (box3 c0 c1 c2)).cell? ⟨w.heap.size, o, none⟩ := fun o => (hX3.cell (p := ⟨w.heap.size, o, none⟩) (by simp; omega)).trans (hA2 o)
  have hB3 : ∀ o, w3.cell? ⟨w.heap.size + 1, o, none⟩ = (((w.alloc (box3 a0 a1 a2)).alloc (box3 b0 b1 b2)).alloc (box3 c0 c1 c2)).cell? ⟨w.heap.size + 1, o, none⟩ := fun o => (hX3.cell (p := ⟨w.heap.size + 1, o, none⟩) (by simp; omega)).trans (hB2 o)
  have hC3 : ∀ o, w3.cell? ⟨w.heap.size + 1 + 1, o, none⟩ = (((w.alloc (box3 a0 a1 a2)).alloc (box3 b0 b1 b2)).alloc (box3 c0 c1 c2)).cell? ⟨w.heap.size + 1 + 1, o, none⟩ := fun o => (hX3.cell (p := ⟨w.heap.size + 1 + 1, o, none⟩) (by simp; omega)).trans (hC2 o)
  have hz3 : w.heap.size + 1 + 1 < w3.heap.size := Nat.lt_of_lt_of_le hz2 hX3.size
  have hi3 : w.heap.size < w3.heap.size := by omega
  have hj3 : w.heap.size + 1 < w3.heap.size := by omega
  have hbw3 : Below w.heap.size w w3 := hbw2.trans (hX3.mono (by omega))
  clear hX3 hA2 hB2 hC2 hbw2 hz2 hi2 hj2
  go_wp2_with fail
  refine Calls.mono (fits_v _ _ _ _ _ _ _ hF3) ?_
  rintro e w4 ⟨rfl, hb4⟩
  have hX4 : Below w3.heap.size w3 w4 := by first | exact hb4 | exact ((Below.refl _ _).alloc (Nat.le_refl _) _).trans (hb4.mono (by simp)) | exact (((Below.refl _ _).alloc (Nat.le_refl _) _).alloc (by simp) _).trans (hb4.mono (by simp; omega))
  have hY4 := hX4
  clear hb4
  have hA4 : ∀ o, w4.cell? ⟨w.heap.size, o, none⟩ = (((w.alloc (box3 a0 a1 a2)).alloc (box3 b0 b1 b2)).alloc (box3 c0 c1 c2)).cell? ⟨w.heap.size, o, none⟩ := fun o => (hX4.cell (p := ⟨w.heap.size, o, none⟩) (by simp; omega)).trans (hA3 o)
  have hB4 : ∀ o, w4.cell? ⟨w.heap.size + 1, o, none⟩ = (((w.alloc (box3 a0 a1 a2)).alloc (box3 b0 b1 b2)).alloc (box3 c0 c1 c2)).cell? ⟨w.heap.size + 1, o, none⟩ := fun o => (hX4.cell (p := ⟨w.heap.size + 1, o, none⟩) (by simp; omega)).trans (hB3 o)
  have hC4 : ∀ o, w4.cell? ⟨w.heap.size + 1 + 1, o, none⟩ = (((w.alloc (box3 a0 a1 a2)).alloc (box3 b0 b1 b2)).alloc (box3 c0 c1 c2)).cell? ⟨w.heap.size + 1 + 1, o, none⟩ := fun o => (hX4.cell (p := ⟨w.heap.size + 1 + 1, o, none⟩) (by simp; omega)).trans (hC3 o)
  have hz4 : w.heap.size + 1 + 1 < w4.heap.size := Nat.lt_of_lt_of_le hz3 hX4.size
  have hi4 : w.heap.size < w4.heap.size := by omega
  have hj4 : w.heap.size + 1 < w4.heap.size := by omega
  have hbw4 : Below w.heap.size w w4 := hbw3.trans (hX4.mono (by omega))
  clear hX4 hA3 hB3 hC3 hbw3 hz3 hi3 hj3
  cases hS : subB b0 b1 b2 a0 a1 a2
  · cases hW : withinB a0 a1 a2 4611686018427387904
    · go_wp2_with fail
      refine Calls.mono (sub_no _ _ _ _ _ _ _ hS) ?_
      rintro e w5 ⟨rfl, hb5⟩
      have hX5 : Below w4.heap.size w4 w5 := by first | exact hb5 | exact ((Below.refl _ _).alloc (Nat.le_refl _) _).trans (hb5.mono (by simp)) | exact (((Below.refl _ _).alloc (Nat.le_refl _) _).alloc (by simp) _).trans (hb5.mono (by simp; omega))
      have hY5 := hX5
      clear hb5
      have hA5 : ∀ o, w5.cell? ⟨w.heap.size, o, none⟩ = (((w.alloc (box3 a0 a1 a2)).alloc (box3 b0 b1 b2)).alloc (box3 c0 c1 c2)).cell? ⟨w.heap.size, o, none⟩ := fun o => (hX5.cell (p := ⟨w.heap.size, o, none⟩) (by simp; omega)).trans (hA4 o)
      have hB5 : ∀ o, w5.cell? ⟨w.heap.size + 1, o, none⟩ = (((w.alloc (box3 a0 a1 a2)).alloc (box3 b0 b1 b2)).alloc (box3 c0 c1 c2)).cell? ⟨w.heap.size + 1, o, none⟩ := fun o => (hX5.cell (p := ⟨w.heap.size + 1, o, none⟩) (by simp; omega)).trans (hB4 o)
      have hC5 : ∀ o, w5.cell? ⟨w.heap.size + 1 + 1, o, none⟩ = (((w.alloc (box3 a0 a1 a2)).alloc (box3 b0 b1 b2)).alloc (box3 c0 c1 c2)).cell? ⟨w.heap.size + 1 + 1, o, none⟩ := fun o => (hX5.cell (p := ⟨w.heap.size + 1 + 1, o, none⟩) (by simp; omega)).trans (hC4 o)
      have hz5 : w.heap.size + 1 + 1 < w5.heap.size := Nat.lt_of_lt_of_le hz4 hX5.size
      have hi5 : w.heap.size < w5.heap.size := by omega
      have hj5 : w.heap.size + 1 < w5.heap.size := by omega
      have hbw5 : Below w.heap.size w w5 := hbw4.trans (hX5.mono (by omega))
      clear hX5 hA4 hB4 hC4 hbw4 hz4 hi4 hj4
      have gd := guardR
      have he : ∀ w : World, (Op.equalIn 10000 23 (res 0 0 0) (res 0 0 0)).run Try.prog w = .ok true w := fun w => eq_R 0 0 0 0 0 0 w
      go_wp2_with fail
      refine Calls.mono (fits_v _ _ _ _ _ _ _ hF1) ?_
      rintro e w6 ⟨rfl, hb6⟩
      have hX6 : Below w5.heap.size w5 w6 := by first | exact hb6 | exact ((Below.refl _ _).alloc (Nat.le_refl _) _).trans (hb6.mono (by simp)) | exact (((Below.refl _ _).alloc (Nat.le_refl _) _).alloc (by simp) _).trans (hb6.mono (by simp; omega))
      have hY6 := hX6
      clear hb6
      have hA6 : ∀ o, w6.cell? ⟨w.heap.size, o, none⟩ = (((w.alloc (box3 a0 a1 a2)).alloc (box3 b0 b1 b2)).alloc (box3 c0 c1 c2)).cell? ⟨w.heap.size, o, none⟩ := fun o => (hX6.cell (p := ⟨w.heap.size, o, none⟩) (by simp; omega)).trans (hA5 o)
      have hB6 : ∀ o, w6.cell? ⟨w.heap.size + 1, o, none⟩ = (((w.alloc (box3 a0 a1 a2)).alloc (box3 b0 b1 b2)).alloc (box3 c0 c1 c2)).cell? ⟨w.heap.size + 1, o, none⟩ := fun o => (hX6.cell (p := ⟨w.heap.size + 1, o, none⟩) (by simp; omega)).trans (hB5 o)
      have hC6 : ∀ o, w6.cell? ⟨w.heap.size + 1 + 1, o, none⟩ = (((w.alloc (box3 a0 a1 a2)).alloc (box3 b0 b1 b2)).alloc (box3 c0 c1 c2)).cell? ⟨w.heap.size + 1 + 1, o, none⟩ := fun o => (hX6.cell (p := ⟨w.heap.size + 1 + 1, o, none⟩) (by simp; omega)).trans (hC5 o)
      have hz6 : w.heap.size + 1 + 1 < w6.heap.size := Nat.lt_of_lt_of_le hz5 hX6.size
      have hi6 : w.heap.size < w6.heap.size := by omega
      have hj6 : w.heap.size + 1 < w6.heap.size := by omega
      have hbw6 : Below w.heap.size w w6 := hbw5.trans (hX6.mono (by omega))
      clear hX6 hA5 hB5 hC5 hbw5 hz5 hi5 hj5
      go_wp2_with fail
      refine Calls.mono (fine_v _ _ _ _ hW) ?_
      rintro e w7 ⟨rfl, hb7⟩
      have hX7 : Below w6.heap.size w6 w7 := by first | exact hb7 | exact ((Below.refl _ _).alloc (Nat.le_refl _) _).trans (hb7.mono (by simp)) | exact (((Below.refl _ _).alloc (Nat.le_refl _) _).alloc (by simp) _).trans (hb7.mono (by simp; omega))
      have hY7 := hX7
      clear hb7
      have hA7 : ∀ o, w7.cell? ⟨w.heap.size, o, none⟩ = (((w.alloc (box3 a0 a1 a2)).alloc (box3 b0 b1 b2)).alloc (box3 c0 c1 c2)).cell? ⟨w.heap.size, o, none⟩ := fun o => (hX7.cell (p := ⟨w.heap.size, o, none⟩) (by simp; omega)).trans (hA6 o)
      have hB7 : ∀ o, w7.cell? ⟨w.heap.size + 1, o, none⟩ = (((w.alloc (box3 a0 a1 a2)).alloc (box3 b0 b1 b2)).alloc (box3 c0 c1 c2)).cell? ⟨w.heap.size + 1, o, none⟩ := fun o => (hX7.cell (p := ⟨w.heap.size + 1, o, none⟩) (by simp; omega)).trans (hB6 o)
      have hC7 : ∀ o, w7.cell? ⟨w.heap.size + 1 + 1, o, none⟩ = (((w.alloc (box3 a0 a1 a2)).alloc (box3 b0 b1 b2)).alloc (box3 c0 c1 c2)).cell? ⟨w.heap.size + 1 + 1, o, none⟩ := fun o => (hX7.cell (p := ⟨w.heap.size + 1 + 1, o, none⟩) (by simp; omega)).trans (hC6 o)
      have hz7 : w.heap.size + 1 + 1 < w7.heap.size := Nat.lt_of_lt_of_le hz6 hX7.size
      have hi7 : w.heap.size < w7.heap.size := by omega
      have hj7 : w.heap.size + 1 < w7.heap.size := by omega
      have hbw7 : Below w.heap.size w w7 := hbw6.trans (hX7.mono (by omega))
      clear hX7 hA6 hB6 hC6 hbw6 hz6 hi6 hj6
      go_wp2
      go_ret
      exact ⟨rfl, (by first | exact hbw7 | exact hbw7.alloc hbw7.size _ | exact (hbw7.alloc hbw7.size _).alloc (by have := hbw7.size; simp; omega) _)⟩
    · have hW2 : withinB b0 b1 b2 4611686018427387904 = false := by unfold subB far at hS; rw [hF1, hW] at hS; simpa using hS
      go_wp2_with fail
      refine Calls.mono (sub_no _ _ _ _ _ _ _ hS) ?_
      rintro e w5 ⟨rfl, hb5⟩
      have hX5 : Below w4.heap.size w4 w5 := by first | exact hb5 | exact ((Below.refl _ _).alloc (Nat.le_refl _) _).trans (hb5.mono (by simp)) | exact (((Below.refl _ _).alloc (Nat.le_refl _) _).alloc (by simp) _).trans (hb5.mono (by simp; omega))
      have hY5 := hX5
      clear hb5
      have hA5 : ∀ o, w5.cell? ⟨w.heap.size, o, none⟩ = (((w.alloc (box3 a0 a1 a2)).alloc (box3 b0 b1 b2)).alloc (box3 c0 c1 c2)).cell? ⟨w.heap.size, o, none⟩ := fun o => (hX5.cell (p := ⟨w.heap.size, o, none⟩) (by simp; omega)).trans (hA4 o)
      have hB5 : ∀ o, w5.cell? ⟨w.heap.size + 1, o, none⟩ = (((w.alloc (box3 a0 a1 a2)).alloc (box3 b0 b1 b2)).alloc (box3 c0 c1 c2)).cell? ⟨w.heap.size + 1, o, none⟩ := fun o => (hX5.cell (p := ⟨w.heap.size + 1, o, none⟩) (by simp; omega)).trans (hB4 o)
      have hC5 : ∀ o, w5.cell? ⟨w.heap.size + 1 + 1, o, none⟩ = (((w.alloc (box3 a0 a1 a2)).alloc (box3 b0 b1 b2)).alloc (box3 c0 c1 c2)).cell? ⟨w.heap.size + 1 + 1, o, none⟩ := fun o => (hX5.cell (p := ⟨w.heap.size + 1 + 1, o, none⟩) (by simp; omega)).trans (hC4 o)
      have hz5 : w.heap.size + 1 + 1 < w5.heap.size := Nat.lt_of_lt_of_le hz4 hX5.size
      have hi5 : w.heap.size < w5.heap.size := by omega
      have hj5 : w.heap.size + 1 < w5.heap.size := by omega
      have hbw5 : Below w.heap.size w w5 := hbw4.trans (hX5.mono (by omega))
      clear hX5 hA4 hB4 hC4 hbw4 hz4 hi4 hj4
      have gd := guardR
      have he : ∀ w : World, (Op.equalIn 10000 23 (res 0 0 0) (res 0 0 0)).run Try.prog w = .ok true w := fun w => eq_R 0 0 0 0 0 0 w
      go_wp2_with fail
      refine Calls.mono (fits_v _ _ _ _ _ _ _ hF1) ?_
      rintro e w6 ⟨rfl, hb6⟩
      have hX6 : Below w5.heap.size w5 w6 := by first | exact hb6 | exact ((Below.refl _ _).alloc (Nat.le_refl _) _).trans (hb6.mono (by simp)) | exact (((Below.refl _ _).alloc (Nat.le_refl _) _).alloc (by simp) _).trans (hb6.mono (by simp; omega))
      have hY6 := hX6
      clear hb6
      have hA6 : ∀ o, w6.cell? ⟨w.heap.size, o, none⟩ = (((w.alloc (box3 a0 a1 a2)).alloc (box3 b0 b1 b2)).alloc (box3 c0 c1 c2)).cell? ⟨w.heap.size, o, none⟩ := fun o => (hX6.cell (p := ⟨w.heap.size, o, none⟩) (by simp; omega)).trans (hA5 o)
      have hB6 : ∀ o, w6.cell? ⟨w.heap.size + 1, o, none⟩ = (((w.alloc (box3 a0 a1 a2)).alloc (box3 b0 b1 b2)).alloc (box3 c0 c1 c2)).cell? ⟨w.heap.size + 1, o, none⟩ := fun o => (hX6.cell (p := ⟨w.heap.size + 1, o, none⟩) (by simp; omega)).trans (hB5 o)
      have hC6 : ∀ o, w6.cell? ⟨w.heap.size + 1 + 1, o, none⟩ = (((w.alloc (box3 a0 a1 a2)).alloc (box3 b0 b1 b2)).alloc (box3 c0 c1 c2)).cell? ⟨w.heap.size + 1 + 1, o, none⟩ := fun o => (hX6.cell (p := ⟨w.heap.size + 1 + 1, o, none⟩) (by simp; omega)).trans (hC5 o)
      have hz6 : w.heap.size + 1 + 1 < w6.heap.size := Nat.lt_of_lt_of_le hz5 hX6.size
      have hi6 : w.heap.size < w6.heap.size := by omega
      have hj6 : w.heap.size + 1 < w6.heap.size := by omega
      have hbw6 : Below w.heap.size w w6 := hbw5.trans (hX6.mono (by omega))
      clear hX6 hA5 hB5 hC5 hbw5 hz5 hi5 hj5
      go_wp2_with fail
      refine Calls.mono (fine_v _ _ _ _ hW) ?_
      rintro e w7 ⟨rfl, hb7⟩
      have hX7 : Below w6.heap.size w6 w7 := by first | exact hb7 | exact ((Below.refl _ _).alloc (Nat.le_refl _) _).trans (hb7.mono (by simp)) | exact (((Below.refl _ _).alloc (Nat.le_refl _) _).alloc (by simp) _).trans (hb7.mono (by simp; omega))
      have hY7 := hX7
      clear hb7
      have hA7 : ∀ o, w7.cell? ⟨w.heap.size, o, none⟩ = (((w.alloc (box3 a0 a1 a2)).alloc (box3 b0 b1 b2)).alloc (box3 c0 c1 c2)).cell? ⟨w.heap.size, o, none⟩ := fun o => (hX7.cell (p := ⟨w.heap.size, o, none⟩) (by simp; omega)).trans (hA6 o)
      have hB7 : ∀ o, w7.cell? ⟨w.heap.size + 1, o, none⟩ = (((w.alloc (box3 a0 a1 a2)).alloc (box3 b0 b1 b2)).alloc (box3 c0 c1 c2)).cell? ⟨w.heap.size + 1, o, none⟩ := fun o => (hX7.cell (p := ⟨w.heap.size + 1, o, none⟩) (by simp; omega)).trans (hB6 o)
      have hC7 : ∀ o, w7.cell? ⟨w.heap.size + 1 + 1, o, none⟩ = (((w.alloc (box3 a0 a1 a2)).alloc (box3 b0 b1 b2)).alloc (box3 c0 c1 c2)).cell? ⟨w.heap.size + 1 + 1, o, none⟩ := fun o => (hX7.cell (p := ⟨w.heap.size + 1 + 1, o, none⟩) (by simp; omega)).trans (hC6 o)
      have hz7 : w.heap.size + 1 + 1 < w7.heap.size := Nat.lt_of_lt_of_le hz6 hX7.size
      have hi7 : w.heap.size < w7.heap.size := by omega
      have hj7 : w.heap.size + 1 < w7.heap.size := by omega
      have hbw7 : Below w.heap.size w w7 := hbw6.trans (hX7.mono (by omega))
      clear hX7 hA6 hB6 hC6 hbw6 hz6 hi6 hj6
      go_wp2_with fail
      refine Calls.mono (fine_v _ _ _ _ hW2) ?_
      rintro e w8 ⟨rfl, hb8⟩
      have hX8 : Below w7.heap.size w7 w8 := by first | exact hb8 | exact ((Below.refl _ _).alloc (Nat.le_refl _) _).trans (hb8.mono (by simp)) | exact (((Below.refl _ _).alloc (Nat.le_refl _) _).alloc (by simp) _).trans (hb8.mono (by simp; omega))
      have hY8 := hX8
      clear hb8
      have hA8 : ∀ o, w8.cell? ⟨w.heap.size, o, none⟩ = (((w.alloc (box3 a0 a1 a2)).alloc (box3 b0 b1 b2)).alloc (box3 c0 c1 c2)).cell? ⟨w.heap.size, o, none⟩ := fun o => (hX8.cell (p := ⟨w.heap.size, o, none⟩) (by simp; omega)).trans (hA7 o)
      have hB8 : ∀ o, w8.cell? ⟨w.heap.size + 1, o, none⟩ = (((w.alloc (box3 a0 a1 a2)).alloc (box3 b0 b1 b2)).alloc (box3 c0 c1 c2)).cell? ⟨w.heap.size + 1, o, none⟩ := fun o => (hX8.cell (p := ⟨w.heap.size + 1, o, none⟩) (by simp; omega)).trans (hB7 o)
      have hC8 : ∀ o, w8.cell? ⟨w.heap.size + 1 + 1, o, none⟩ = (((w.alloc (box3 a0 a1 a2)).alloc (box3 b0 b1 b2)).alloc (box3 c0 c1 c2)).cell? ⟨w.heap.size + 1 + 1, o, none⟩ := fun o => (hX8.cell (p := ⟨w.heap.size + 1 + 1, o, none⟩) (by simp; omega)).trans (hC7 o)
      have hz8 : w.heap.size + 1 + 1 < w8.heap.size := Nat.lt_of_lt_of_le hz7 hX8.size
      have hi8 : w.heap.size < w8.heap.size := by omega
      have hj8 : w.heap.size + 1 < w8.heap.size := by omega
      have hbw8 : Below w.heap.size w w8 := hbw7.trans (hX8.mono (by omega))
      clear hX8 hA7 hB7 hC7 hbw7 hz7 hi7 hj7
      go_wp2
      go_ret
      exact ⟨rfl, (by first | exact hbw8 | exact hbw8.alloc hbw8.size _ | exact (hbw8.alloc hbw8.size _).alloc (by have := hbw8.size; simp; omega) _)⟩
  · obtain ⟨f1, f2⟩ := sub_facts hS
    go_wp2_with fail
    refine Calls.mono (sub_yes _ _ _ _ _ _ _ hS) ?_
    rintro e w5 ⟨rfl, hb5⟩
    have hX5 : Below w4.heap.size w4 w5 := by first | exact hb5 | exact ((Below.refl _ _).alloc (Nat.le_refl _) _).trans (hb5.mono (by simp)) | exact (((Below.refl _ _).alloc (Nat.le_refl _) _).alloc (by simp) _).trans (hb5.mono (by simp; omega))
    have hY5 := hX5
    clear hb5
    have hA5 : ∀ o, w5.cell? ⟨w.heap.size, o, none⟩ = (((w.alloc (box3 a0 a1 a2)).alloc (box3 b0 b1 b2)).alloc (box3 c0 c1 c2)).cell? ⟨w.heap.size, o, none⟩ := fun o => (hX5.cell (p := ⟨w.heap.size, o, none⟩) (by simp; omega)).trans (hA4 o)
    have hB5 : ∀ o, w5.cell? ⟨w.heap.size + 1, o, none⟩ = (((w.alloc (box3 a0 a1 a2)).alloc (box3 b0 b1 b2)).alloc (box3 c0 c1 c2)).cell? ⟨w.heap.size + 1, o, none⟩ := fun o => (hX5.cell (p := ⟨w.heap.size + 1, o, none⟩) (by simp; omega)).trans (hB4 o)
    have hC5 : ∀ o, w5.cell? ⟨w.heap.size + 1 + 1, o, none⟩ = (((w.alloc (box3 a0 a1 a2)).alloc (box3 b0 b1 b2)).alloc (box3 c0 c1 c2)).cell? ⟨w.heap.size + 1 + 1, o, none⟩ := fun o => (hX5.cell (p := ⟨w.heap.size + 1 + 1, o, none⟩) (by simp; omega)).trans (hC4 o)
    have hz5 : w.heap.size + 1 + 1 < w5.heap.size := Nat.lt_of_lt_of_le hz4 hX5.size
    have hi5 : w.heap.size < w5.heap.size := by omega
    have hj5 : w.heap.size + 1 < w5.heap.size := by omega
    have hbw5 : Below w.heap.size w w5 := hbw4.trans (hX5.mono (by omega))
    clear hX5 hA4 hB4 hC4 hbw4 hz4 hi4 hj4
    go_wp2_with fail
    refine Calls.mono (add_yes _ _ _ _ _ _ _ f1) ?_
    rintro e w6 ⟨rfl, hb6⟩
    have hX6 : Below w5.heap.size w5 w6 := ((Below.refl _ _).alloc (Nat.le_refl _) _).trans (hb6.mono (by simp))
    have hS6 : ∀ o, w6.cell? ⟨w5.heap.size, o, none⟩ = (w5.alloc (box3 (b0 - a0) (b1 - a1) (b2 - a2))).cell? ⟨w5.heap.size, o, none⟩ := fun o => hb6.cell (p := ⟨w5.heap.size, o, none⟩) (by simp)
    have hy6 : w5.heap.size < w6.heap.size := by have := hb6.size; simp at this; omega
    clear hb6
    have hA6 : ∀ o, w6.cell? ⟨w.heap.size, o, none⟩ = (((w.alloc (box3 a0 a1 a2)).alloc (box3 b0 b1 b2)).alloc (box3 c0 c1 c2)).cell? ⟨w.heap.size, o, none⟩ := fun o => (hX6.cell (p := ⟨w.heap.size, o, none⟩) (by simp; omega)).trans (hA5 o)
    have hB6 : ∀ o, w6.cell? ⟨w.heap.size + 1, o, none⟩ = (((w.alloc (box3 a0 a1 a2)).alloc (box3 b0 b1 b2)).alloc (box3 c0 c1 c2)).cell? ⟨w.heap.size + 1, o, none⟩ := fun o => (hX6.cell (p := ⟨w.heap.size + 1, o, none⟩) (by simp; omega)).trans (hB5 o)
    have hC6 : ∀ o, w6.cell? ⟨w.heap.size + 1 + 1, o, none⟩ = (((w.alloc (box3 a0 a1 a2)).alloc (box3 b0 b1 b2)).alloc (box3 c0 c1 c2)).cell? ⟨w.heap.size + 1 + 1, o, none⟩ := fun o => (hX6.cell (p := ⟨w.heap.size + 1 + 1, o, none⟩) (by simp; omega)).trans (hC5 o)
    have hz6 : w.heap.size + 1 + 1 < w6.heap.size := Nat.lt_of_lt_of_le hz5 hX6.size
    have hi6 : w.heap.size < w6.heap.size := by omega
    have hj6 : w.heap.size + 1 < w6.heap.size := by omega
    have hbw6 : Below w.heap.size w w6 := hbw5.trans (hX6.mono (by omega))
    clear hX6 hA5 hB5 hC5 hbw5 hz5 hi5 hj5
    have gd := guardR
    have he : ∀ w : World, (Op.equalIn 10000 23 (res b0 b1 b2) (res b0 b1 b2)).run Try.prog w = .ok true w := fun w => by rw [eq_R, show eqRB b0 b1 b2 b0 b1 b2 = true by simp [eqRB]]
    go_wp2_with fail
    refine Calls.mono (fits_v _ _ _ _ _ _ _ hF1) ?_
    rintro e w7 ⟨rfl, hb7⟩
    have hX7 : Below w6.heap.size w6 w7 := ((Below.refl _ _).alloc (Nat.le_refl _) _).trans (hb7.mono (by simp))
    have hS7 : ∀ o, w7.cell? ⟨w5.heap.size, o, none⟩ = (w5.alloc (box3 (b0 - a0) (b1 - a1) (b2 - a2))).cell? ⟨w5.heap.size, o, none⟩ := fun o => (hX7.cell (p := ⟨w5.heap.size, o, none⟩) hy6).trans (hS6 o)
    have hy7 : w5.heap.size < w7.heap.size := Nat.lt_of_lt_of_le hy6 hX7.size
    clear hb7 hS6 hy6 he gd
    have hA7 : ∀ o, w7.cell? ⟨w.heap.size, o, none⟩ = (((w.alloc (box3 a0 a1 a2)).alloc (box3 b0 b1 b2)).alloc (box3 c0 c1 c2)).cell? ⟨w.heap.size, o, none⟩ := fun o => (hX7.cell (p := ⟨w.heap.size, o, none⟩) (by simp; omega)).trans (hA6 o)
    have hB7 : ∀ o, w7.cell? ⟨w.heap.size + 1, o, none⟩ = (((w.alloc (box3 a0 a1 a2)).alloc (box3 b0 b1 b2)).alloc (box3 c0 c1 c2)).cell? ⟨w.heap.size + 1, o, none⟩ := fun o => (hX7.cell (p := ⟨w.heap.size + 1, o, none⟩) (by simp; omega)).trans (hB6 o)
    have hC7 : ∀ o, w7.cell? ⟨w.heap.size + 1 + 1, o, none⟩ = (((w.alloc (box3 a0 a1 a2)).alloc (box3 b0 b1 b2)).alloc (box3 c0 c1 c2)).cell? ⟨w.heap.size + 1 + 1, o, none⟩ := fun o => (hX7.cell (p := ⟨w.heap.size + 1 + 1, o, none⟩) (by simp; omega)).trans (hC6 o)
    have hz7 : w.heap.size + 1 + 1 < w7.heap.size := Nat.lt_of_lt_of_le hz6 hX7.size
    have hi7 : w.heap.size < w7.heap.size := by omega
    have hj7 : w.heap.size + 1 < w7.heap.size := by omega
    have hbw7 : Below w.heap.size w w7 := hbw6.trans (hX7.mono (by omega))
    clear hX7 hA6 hB6 hC6 hbw6 hz6 hi6 hj6
    go_wp2_with fail
    refine Calls.mono (fits_v _ _ _ _ _ _ _ f2) ?_
    rintro e w8 ⟨rfl, hb8⟩
    have hX8 : Below w7.heap.size w7 w8 := by first | exact hb8 | exact ((Below.refl _ _).alloc (Nat.le_refl _) _).trans (hb8.mono (by simp)) | exact (((Below.refl _ _).alloc (Nat.le_refl _) _).alloc (by simp) _).trans (hb8.mono (by simp; omega))
    have hY8 := hX8
    clear hb8
    have hA8 : ∀ o, w8.cell? ⟨w.heap.size, o, none⟩ = (((w.alloc (box3 a0 a1 a2)).alloc (box3 b0 b1 b2)).alloc (box3 c0 c1 c2)).cell? ⟨w.heap.size, o, none⟩ := fun o => (hX8.cell (p := ⟨w.heap.size, o, none⟩) (by simp; omega)).trans (hA7 o)
    have hB8 : ∀ o, w8.cell? ⟨w.heap.size + 1, o, none⟩ = (((w.alloc (box3 a0 a1 a2)).alloc (box3 b0 b1 b2)).alloc (box3 c0 c1 c2)).cell? ⟨w.heap.size + 1, o, none⟩ := fun o => (hX8.cell (p := ⟨w.heap.size + 1, o, none⟩) (by simp; omega)).trans (hB7 o)
    have hC8 : ∀ o, w8.cell? ⟨w.heap.size + 1 + 1, o, none⟩ = (((w.alloc (box3 a0 a1 a2)).alloc (box3 b0 b1 b2)).alloc (box3 c0 c1 c2)).cell? ⟨w.heap.size + 1 + 1, o, none⟩ := fun o => (hX8.cell (p := ⟨w.heap.size + 1 + 1, o, none⟩) (by simp; omega)).trans (hC7 o)
    have hz8 : w.heap.size + 1 + 1 < w8.heap.size := Nat.lt_of_lt_of_le hz7 hX8.size
    have hi8 : w.heap.size < w8.heap.size := by omega
    have hj8 : w.heap.size + 1 < w8.heap.size := by omega
    have hbw8 : Below w.heap.size w w8 := hbw7.trans (hX8.mono (by omega))
    clear hX8 hA7 hB7 hC7 hbw7 hz7 hi7 hj7
    go_wp2
    go_ret
    exact ⟨rfl, (by first | exact hbw8 | exact hbw8.alloc hbw8.size _ | exact (hbw8.alloc hbw8.size _).alloc (by have := hbw8.size; simp; omega) _)⟩

theorem qtyFits_walk (a0 a1 a2 b0 b1 b2 c0 c1 c2 : Int) (w : World) :
    Calls Try.prog 14 #[res a0 a1 a2, res b0 b1 b2, res c0 c1 c2] w fun e w' => e = .returned (.bool true) ∧ Below w.heap.size w w' := by
  cases h : fitsB a0 a1 a2 b0 b1 b2
  · exact qtyFits_1 a0 a1 a2 b0 b1 b2 c0 c1 c2 w h
  cases h2 : fitsB b0 b1 b2 c0 c1 c2
  · exact qtyFits_2 a0 a1 a2 b0 b1 b2 c0 c1 c2 w h h2
  · exact qtyFits_3 a0 a1 a2 b0 b1 b2 c0 c1 c2 w h h2
end Go.Proofs.Ytnimplldkambhaa
