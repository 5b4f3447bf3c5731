/-
  The law QtyTurn's walk where the sum is within reach, and the whole. No conditions beyond what is written in each statement.
-/
import Derived.Test.YtnimplldkambhaaLTurn
set_option linter.unusedSimpArgs false
set_option linter.unusedVariables false
namespace Go.Proofs.Ytnimplldkambhaa
open Go.RowKit

theorem fits_b (a b c x y z : Int) (w : World) (h : fitsB a b c x y z = true) :
    Calls Try.prog 18 #[res a b c, res x y z] w fun e w' => e = .returned (.bool true) ∧ Below w.heap.size w w' := by
  refine (fits_x a b c x y z w).mono ?_
  rintro e w' ⟨rfl, n, rfl⟩
  exact ⟨ret_bool h, (by (repeat (with_reducible first | exact Below.refl _ _ | refine Below.alloc ?_ ?_ _ | refine Below.setCell ?_ ?_ _ | refine Below.drew ?_ | refine below_drewN ?_ _)); all_goals (simp <;> omega))⟩
theorem add_facts {a0 a1 a2 b0 b1 b2 : Int} (h : addB a0 a1 a2 b0 b1 b2 = true) :
    subB (a0 + b0) (a1 + b1) (a2 + b2) b0 b1 b2 = true ∧ fitsB a0 a1 a2 (a0 + b0) (a1 + b1) (a2 + b2) = true ∧ fitsB b0 b1 b2 (a0 + b0) (a1 + b1) (a2 + b2) = true
    ∧ eqRB (a0 + b0) (a1 + b1) (a2 + b2) (b0 + a0) (b1 + a1) (b2 + a2) = true ∧ eqRB (a0 + b0 - b0) (a1 + b1 - b1) (a2 + b2 - b2) a0 a1 a2 = true := by
  unfold addB withinB far at h
  unfold subB fitsB eqRB withinB far
  simp only [Bool.and_eq_true, decide_eq_true_eq] at h ⊢
  omega

set_option maxRecDepth 100000 in
set_option maxHeartbeats 4000000 in
theorem qtyTurn_yes (a0 a1 a2 b0 b1 b2 c0 c1 c2 : Int) (w : World) (hB : addB a0 a1 a2 b0 b1 b2 = true) :
    Calls Try.prog 3 #[res a0 a1 a2, res b0 b1 b2, res c0 c1 c2] w fun e w' => e = .returned (.bool true) ∧ Below w.heap.size w w' := by
  have hB' : addB b0 b1 b2 a0 a1 a2 = true := by rw [← addB_comm]; exact hB
  obtain ⟨K, x0, x1, x2, hs⟩ : ∃ K x0 x1 x2, sumF [(a0, a1, a2), (b0, b1, b2), (c0, c1, c2)] 0 0 0 = (K, x0, x1, x2) := ⟨_, _, _, _, rfl⟩
  obtain ⟨L, y0, y1, y2, ht⟩ : ∃ L y0 y1 y2, sumF [(c0, c1, c2), (b0, b1, b2), (a0, a1, a2)] 0 0 0 = (L, y0, y1, y2) := ⟨_, _, _, _, rfl⟩
  have HKL := Lib.hid (sums_alike hs ht)
  have HS := Lib.hid hs
  have HT := Lib.hid ht
  clear hs ht
  go_enter Try.func3, Try.ntmps3
  go_wp2_with fail
  refine (begun_any _).mono ?_
  rintro e w1 ⟨rfl, hb1⟩
  have hA1 : ∀ o, w1.cell? ⟨w.heap.size, o, none⟩ = (((w.alloc (box3 a0 a1 a2)).alloc (box3 b0 b1 b2)).alloc (box3 c0 c1 c2)).cell? ⟨w.heap.size, o, none⟩ := fun o => hb1.cell (p := ⟨w.heap.size, o, none⟩) (by simp; omega)
  have hB1 : ∀ o, w1.cell? ⟨w.heap.size + 1, o, none⟩ = (((w.alloc (box3 a0 a1 a2)).alloc (box3 b0 b1 b2)).alloc (box3 c0 c1 c2)).cell? ⟨w.heap.size + 1, o, none⟩ := fun o => hb1.cell (p := ⟨w.heap.size + 1, o, none⟩) (by simp)
  have hC1 : ∀ o, w1.cell? ⟨w.heap.size + 1 + 1, o, none⟩ = (((w.alloc (box3 a0 a1 a2)).alloc (box3 b0 b1 b2)).alloc (box3 c0 c1 c2)).cell? ⟨w.heap.size + 1 + 1, o, none⟩ := fun o => hb1.cell (p := ⟨w.heap.size + 1 + 1, o, none⟩) (by simp)
  have hz1 : w.heap.size + 1 + 1 < w1.heap.size := by have := hb1.size; simp at this; omega
  have hbw1 : Below w.heap.size w w1 := (((((Below.refl _ _).alloc (Nat.le_refl _) _).alloc (by simp) _).alloc (by simp; omega) _)).trans (hb1.mono (by simp; omega))
  clear hb1
  go_wp2_with fail
  refine (add_yes _ _ _ _ _ _ _ hB).mono ?_
  rintro e w2 ⟨rfl, hb2⟩
  have hi1 : w.heap.size < w1.heap.size := by omega
  have hj1 : w.heap.size + 1 < w1.heap.size := by omega
  have hX2 := hb2
  have hA2 : ∀ o, w2.cell? ⟨w.heap.size, o, none⟩ = (((w.alloc (box3 a0 a1 a2)).alloc (box3 b0 b1 b2)).alloc (box3 c0 c1 c2)).cell? ⟨w.heap.size, o, none⟩ := fun o => (hX2.cell (p := ⟨w.heap.size, o, none⟩) (by simp; omega)).trans (hA1 o)
  have hB2 : ∀ o, w2.cell? ⟨w.heap.size + 1, o, none⟩ = (((w.alloc (box3 a0 a1 a2)).alloc (box3 b0 b1 b2)).alloc (box3 c0 c1 c2)).cell? ⟨w.heap.size + 1, o, none⟩ := fun o => (hX2.cell (p := ⟨w.heap.size + 1, o, none⟩) (by simp; omega)).trans (hB1 o)
  have hC2 : ∀ o, w2.cell? ⟨w.heap.size + 1 + 1, o, none⟩ = (((w.alloc (box3 a0 a1 a2)).alloc (box3 b0 b1 b2)).alloc (box3 c0 c1 c2)).cell? ⟨w.heap.size + 1 + 1, o, none⟩ := fun o => (hX2.cell (p := ⟨w.heap.size + 1 + 1, o, none⟩) (by simp; omega)).trans (hC1 o)
  have hz2 : w.heap.size + 1 + 1 < w2.heap.size := Nat.lt_of_lt_of_le hz1 hX2.size
  have hi2 : w.heap.size < w2.heap.size := by omega
  have hj2 : w.heap.size + 1 < w2.heap.size := by omega
  have hbw2 : Below w.heap.size w w2 := hbw1.trans (hX2.mono (by omega))
  clear hX2 hA1 hB1 hC1 hbw1 hz1 hi1 hj1
  clear hb2
  go_wp2_with fail
  refine (add_yes _ _ _ _ _ _ _ hB').mono ?_
  rintro e w3 ⟨rfl, hb3⟩
  have hS3 : ∀ o, w3.cell? ⟨w2.heap.size, o, none⟩ = (w2.alloc (box3 (a0 + b0) (a1 + b1) (a2 + b2))).cell? ⟨w2.heap.size, o, none⟩ := fun o => hb3.cell (p := ⟨w2.heap.size, o, none⟩) (by simp)
  have hy3 : w2.heap.size < w3.heap.size := by have := hb3.size; simp at this; omega
  have hX3 : Below w2.heap.size w2 w3 := ((Below.refl _ _).alloc (Nat.le_refl _) _).trans (hb3.mono (by simp))
  clear hb3
  have hA3 : ∀ o, w3.cell? ⟨w.heap.size, o, none⟩ = (((w.alloc (box3 a0 a1 a2)).alloc (box3 b0 b1 b2)).alloc (box3 c0 c1 c2)).cell? ⟨w.heap.size, o, none⟩ := fun o => (hX3.cell (p := ⟨w.heap.size, o, none⟩) (by simp; omega)).trans (hA2 o)
  have hB3 : ∀ o, w3.cell? ⟨w.heap.size + 1, o, none⟩ = (((w.alloc (box3 a0 a1 a2)).alloc (box3 b0 b1 b2)).alloc (box3 c0 c1 c2)).cell? ⟨w.heap.size + 1, o, none⟩ := fun o => (hX3.cell (p := ⟨w.heap.size + 1, o, none⟩) (by simp; omega)).trans (hB2 o)
  have hC3 : ∀ o, w3.cell? ⟨w.heap.size + 1 + 1, o, none⟩ = (((w.alloc (box3 a0 a1 a2)).alloc (box3 b0 b1 b2)).alloc (box3 c0 c1 c2)).cell? ⟨w.heap.size + 1 + 1, o, none⟩ := fun o => (hX3.cell (p := ⟨w.heap.size + 1 + 1, o, none⟩) (by simp; omega)).trans (hC2 o)
  have hz3 : w.heap.size + 1 + 1 < w3.heap.size := Nat.lt_of_lt_of_le hz2 hX3.size
  have hi3 : w.heap.size < w3.heap.size := by omega
  have hj3 : w.heap.size + 1 < w3.heap.size := by omega
  have hbw3 : Below w.heap.size w w3 := hbw2.trans (hX3.mono (by omega))
  clear hX3 hA2 hB2 hC2 hbw2 hz2 hi2 hj2
  have HF := Lib.hid (add_facts hB)
  clear hB hB'
  have gd := guardR
  have he : ∀ w : World, (Op.equalIn 10000 23 (res (a0 + b0) (a1 + b1) (a2 + b2)) (res (b0 + a0) (b1 + a1) (b2 + a2))).run Try.prog w = .ok true w := fun w => by rw [eq_R, HF.out.2.2.2.1]
  go_wp2_with fail
  refine (sub_yes _ _ _ _ _ _ _ HF.out.1).mono ?_
  rintro e w4 ⟨rfl, hb4⟩
  have hX4 : Below w3.heap.size w3 w4 := ((Below.refl _ _).alloc (Nat.le_refl _) _).trans (hb4.mono (by simp))
  have hS4 : ∀ o, w4.cell? ⟨w2.heap.size, o, none⟩ = (w2.alloc (box3 (a0 + b0) (a1 + b1) (a2 + b2))).cell? ⟨w2.heap.size, o, none⟩ := fun o => (hX4.cell (p := ⟨w2.heap.size, o, none⟩) hy3).trans (hS3 o)
  have hy4 : w2.heap.size < w4.heap.size := Nat.lt_of_lt_of_le hy3 hX4.size
  have hA4 : ∀ o, w4.cell? ⟨w.heap.size, o, none⟩ = (((w.alloc (box3 a0 a1 a2)).alloc (box3 b0 b1 b2)).alloc (box3 c0 c1 c2)).cell? ⟨w.heap.size, o, none⟩ := fun o => (hX4.cell (p := ⟨w.heap.size, o, none⟩) (by simp; omega)).trans (hA3 o)
  have hB4 : ∀ o, w4.cell? ⟨w.heap.size + 1, o, none⟩ = (((w.alloc (box3 a0 a1 a2)).alloc (box3 b0 b1 b2)).alloc (box3 c0 c1 c2)).cell? ⟨w.heap.size + 1, o, none⟩ := fun o => (hX4.cell (p := ⟨w.heap.size + 1, o, none⟩) (by simp; omega)).trans (hB3 o)
  have hC4 : ∀ o, w4.cell? ⟨w.heap.size + 1 + 1, o, none⟩ = (((w.alloc (box3 a0 a1 a2)).alloc (box3 b0 b1 b2)).alloc (box3 c0 c1 c2)).cell? ⟨w.heap.size + 1 + 1, o, none⟩ := fun o => (hX4.cell (p := ⟨w.heap.size + 1 + 1, o, none⟩) (by simp; omega)).trans (hC3 o)
  have hz4 : w.heap.size + 1 + 1 < w4.heap.size := Nat.lt_of_lt_of_le hz3 hX4.size
  have hi4 : w.heap.size < w4.heap.size := by omega
  have hj4 : w.heap.size + 1 < w4.heap.size := by omega
  have hbw4 : Below w.heap.size w w4 := hbw3.trans (hX4.mono (by omega))
  clear hX4 hA3 hB3 hC3 hbw3 hz3 hi3 hj3
  clear hb4 hS3 hy3 he
  have he : ∀ w : World, (Op.equalIn 10000 23 (res a0 a1 a2) (res a0 a1 a2)).run Try.prog w = .ok true w := fun w => by rw [eq_R, show eqRB a0 a1 a2 a0 a1 a2 = true by simp [eqRB]]
  go_wp2_with fail
  refine (fits_b _ _ _ _ _ _ _ HF.out.2.1).mono ?_
  rintro e w5 ⟨rfl, hb5⟩
  have hX5 : Below w4.heap.size w4 w5 := ((Below.refl _ _).alloc (Nat.le_refl _) _).trans (hb5.mono (by simp))
  have hS5 : ∀ o, w5.cell? ⟨w2.heap.size, o, none⟩ = (w2.alloc (box3 (a0 + b0) (a1 + b1) (a2 + b2))).cell? ⟨w2.heap.size, o, none⟩ := fun o => (hX5.cell (p := ⟨w2.heap.size, o, none⟩) hy4).trans (hS4 o)
  have hy5 : w2.heap.size < w5.heap.size := Nat.lt_of_lt_of_le hy4 hX5.size
  have hA5 : ∀ o, w5.cell? ⟨w.heap.size, o, none⟩ = (((w.alloc (box3 a0 a1 a2)).alloc (box3 b0 b1 b2)).alloc (box3 c0 c1 c2)).cell? ⟨w.heap.size, o, none⟩ := fun o => (hX5.cell (p := ⟨w.heap.size, o, none⟩) (by simp; omega)).trans (hA4 o)
  have hB5 : ∀ o, w5.cell? ⟨w.heap.size + 1, o, none⟩ = (((w.alloc (box3 a0 a1 a2)).alloc (box3 b0 b1 b2)).alloc (box3 c0 c1 c2)).cell? ⟨w.heap.size + 1, o, none⟩ := fun o => (hX5.cell (p := ⟨w.heap.size + 1, o, none⟩) (by simp; omega)).trans (hB4 o)
  have hC5 : ∀ o, w5.cell? ⟨w.heap.size + 1 + 1, o, none⟩ = (((w.alloc (box3 a0 a1 a2)).alloc (box3 b0 b1 b2)).alloc (box3 c0 c1 c2)).cell? ⟨w.heap.size + 1 + 1, o, none⟩ := fun o => (hX5.cell (p := ⟨w.heap.size + 1 + 1, o, none⟩) (by simp; omega)).trans (hC4 o)
  have hz5 : w.heap.size + 1 + 1 < w5.heap.size := Nat.lt_of_lt_of_le hz4 hX5.size
  have hi5 : w.heap.size < w5.heap.size := by omega
  have hj5 : w.heap.size + 1 < w5.heap.size := by omega
  have hbw5 : Below w.heap.size w w5 := hbw4.trans (hX5.mono (by omega))
  clear hX5 hA4 hB4 hC4 hbw4 hz4 hi4 hj4
  clear hb5 hS4 hy4 he gd
  go_wp2_with fail
  refine (fits_b _ _ _ _ _ _ _ HF.out.2.2.1).mono ?_
  rintro e w6 ⟨rfl, hX6⟩
  have hA6 : ∀ o, w6.cell? ⟨w.heap.size, o, none⟩ = (((w.alloc (box3 a0 a1 a2)).alloc (box3 b0 b1 b2)).alloc (box3 c0 c1 c2)).cell? ⟨w.heap.size, o, none⟩ := fun o => (hX6.cell (p := ⟨w.heap.size, o, none⟩) (by simp; omega)).trans (hA5 o)
  have hB6 : ∀ o, w6.cell? ⟨w.heap.size + 1, o, none⟩ = (((w.alloc (box3 a0 a1 a2)).alloc (box3 b0 b1 b2)).alloc (box3 c0 c1 c2)).cell? ⟨w.heap.size + 1, o, none⟩ := fun o => (hX6.cell (p := ⟨w.heap.size + 1, o, none⟩) (by simp; omega)).trans (hB5 o)
  have hC6 : ∀ o, w6.cell? ⟨w.heap.size + 1 + 1, o, none⟩ = (((w.alloc (box3 a0 a1 a2)).alloc (box3 b0 b1 b2)).alloc (box3 c0 c1 c2)).cell? ⟨w.heap.size + 1 + 1, o, none⟩ := fun o => (hX6.cell (p := ⟨w.heap.size + 1 + 1, o, none⟩) (by simp; omega)).trans (hC5 o)
  have hz6 : w.heap.size + 1 + 1 < w6.heap.size := Nat.lt_of_lt_of_le hz5 hX6.size
  have hi6 : w.heap.size < w6.heap.size := by omega
  have hj6 : w.heap.size + 1 < w6.heap.size := by omega
  have hbw6 : Below w.heap.size w w6 := hbw5.trans (hX6.mono (by omega))
  clear hX6 hA5 hB5 hC5 hbw5 hz5 hi5 hj5
  clear hS5 hy5 HF
  go_wp2_with fail
  have hL6 : ∀ o : Obj, (w6.alloc o).heap[w6.heap.size]? = some o := fun o => heap_alloc_self _ _
  refine (sum_any [(a0, a1, a2), (b0, b1, b2), (c0, c1, c2)] w6.heap.size 0 3 _ (by simp) ?_ (by simp)).mono ?_
  · intro i hi
    match i, hi with
    | 0, _ => exact ⟨cell_of_obj (hL6 _) 0, cell_of_obj (hL6 _) 1, cell_of_obj (hL6 _) 2⟩
    | 1, _ => exact ⟨cell_of_obj (hL6 _) 3, cell_of_obj (hL6 _) 4, cell_of_obj (hL6 _) 5⟩
    | 2, _ => exact ⟨cell_of_obj (hL6 _) 6, cell_of_obj (hL6 _) 7, cell_of_obj (hL6 _) 8⟩
  rintro e w7 ⟨rfl, hb7⟩
  rw [HS.out]
  have hX7 : Below w6.heap.size w6 w7 := ((Below.refl _ _).alloc (Nat.le_refl _) _).trans (hb7.mono (by simp))
  clear hb7 hL6
  have hA7 : ∀ o, w7.cell? ⟨w.heap.size, o, none⟩ = (((w.alloc (box3 a0 a1 a2)).alloc (box3 b0 b1 b2)).alloc (box3 c0 c1 c2)).cell? ⟨w.heap.size, o, none⟩ := fun o => (hX7.cell (p := ⟨w.heap.size, o, none⟩) (by simp; omega)).trans (hA6 o)
  have hB7 : ∀ o, w7.cell? ⟨w.heap.size + 1, o, none⟩ = (((w.alloc (box3 a0 a1 a2)).alloc (box3 b0 b1 b2)).alloc (box3 c0 c1 c2)).cell? ⟨w.heap.size + 1, o, none⟩ := fun o => (hX7.cell (p := ⟨w.heap.size + 1, o, none⟩) (by simp; omega)).trans (hB6 o)
  have hC7 : ∀ o, w7.cell? ⟨w.heap.size + 1 + 1, o, none⟩ = (((w.alloc (box3 a0 a1 a2)).alloc (box3 b0 b1 b2)).alloc (box3 c0 c1 c2)).cell? ⟨w.heap.size + 1 + 1, o, none⟩ := fun o => (hX7.cell (p := ⟨w.heap.size + 1 + 1, o, none⟩) (by simp; omega)).trans (hC6 o)
  have hz7 : w.heap.size + 1 + 1 < w7.heap.size := Nat.lt_of_lt_of_le hz6 hX7.size
  have hi7 : w.heap.size < w7.heap.size := by omega
  have hj7 : w.heap.size + 1 < w7.heap.size := by omega
  have hbw7 : Below w.heap.size w w7 := hbw6.trans (hX7.mono (by omega))
  clear hX7 hA6 hB6 hC6 hbw6 hz6 hi6 hj6
  go_wp2_with fail
  have hL7 : ∀ o o' : Obj, ((w7.alloc o).alloc o').heap[w7.heap.size + 1]? = some o' := fun o o' => by
    rw [show w7.heap.size + 1 = (w7.alloc o).heap.size by simp]
    exact heap_alloc_self _ _
  have hB7' : ∀ o o' : Obj, Below w7.heap.size w7 ((w7.alloc o).alloc o') := fun o o' => ((Below.refl _ _).alloc (Nat.le_refl _) o).alloc (by simp) o'
  refine (sum_any [(c0, c1, c2), (b0, b1, b2), (a0, a1, a2)] (w7.heap.size + 1) 0 3 _ (by simp) ?_ (by simp)).mono ?_
  · intro i hi
    match i, hi with
    | 0, _ => exact ⟨cell_of_obj (hL7 _ _) 0, cell_of_obj (hL7 _ _) 1, cell_of_obj (hL7 _ _) 2⟩
    | 1, _ => exact ⟨cell_of_obj (hL7 _ _) 3, cell_of_obj (hL7 _ _) 4, cell_of_obj (hL7 _ _) 5⟩
    | 2, _ => exact ⟨cell_of_obj (hL7 _ _) 6, cell_of_obj (hL7 _ _) 7, cell_of_obj (hL7 _ _) 8⟩
  rintro e w8 ⟨rfl, hb8⟩
  rw [HT.out]
  have hS8 : ∀ o, w8.cell? ⟨w7.heap.size, o, none⟩ = (w7.alloc (box3 x0 x1 x2)).cell? ⟨w7.heap.size, o, none⟩ := fun o => (hb8.cell (p := ⟨w7.heap.size, o, none⟩) (by simp; omega)).trans (((Below.refl _ _).alloc (Nat.le_refl _) _).cell (p := ⟨w7.heap.size, o, none⟩) (by simp))
  have hX8 : Below w7.heap.size w7 w8 := (hB7' _ _).trans (hb8.mono (by simp; omega))
  have hy8 : w7.heap.size < w8.heap.size := by have := hb8.size; simp at this; omega
  have hbw8 : Below w.heap.size w w8 := hbw7.trans (hX8.mono (by omega))
  clear hb8 hL7 hB7' hX8 hA7 hB7 hC7 hz7 hi7 hj7 hbw7
  cases K
  · go_wp2
    go_ret
    exact ⟨rfl, (by first | exact hbw8 | exact hbw8.alloc hbw8.size _)⟩
  cases L
  · go_wp2
    go_ret
    exact ⟨rfl, (by first | exact hbw8 | exact hbw8.alloc hbw8.size _)⟩
  have gd := guardR
  have he : ∀ w : World, (Op.equalIn 10000 23 (res x0 x1 x2) (res y0 y1 y2)).run Try.prog w = .ok true w := fun w => by rw [eq_R, HKL.out rfl rfl]
  go_wp2
  go_ret
  exact ⟨rfl, (by first | exact hbw8 | exact hbw8.alloc hbw8.size _)⟩

theorem qtyTurn_walk (a0 a1 a2 b0 b1 b2 c0 c1 c2 : Int) (w : World) :
    Calls Try.prog 3 #[res a0 a1 a2, res b0 b1 b2, res c0 c1 c2] w fun e w' => e = .returned (.bool true) ∧ Below w.heap.size w w' := by
  cases h : addB a0 a1 a2 b0 b1 b2
  · exact qtyTurn_no a0 a1 a2 b0 b1 b2 c0 c1 c2 w h
  · exact qtyTurn_yes a0 a1 a2 b0 b1 b2 c0 c1 c2 w h
end Go.Proofs.Ytnimplldkambhaa
