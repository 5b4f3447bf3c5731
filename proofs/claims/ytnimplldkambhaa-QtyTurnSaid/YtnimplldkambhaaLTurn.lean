/-
  The law QtyTurn's walk (under way). No conditions beyond what is written in each statement.
-/
import Derived.Test.YtnimplldkambhaaLQty1
import Derived.Test.YtnimplldkambhaaEq0
import Derived.Test.YtnimplldkambhaaBeg2
set_option linter.unusedSimpArgs false
set_option linter.unusedVariables false
namespace Go.Proofs.Ytnimplldkambhaa
open Go.RowKit

def sum3 (a0 a1 a2 b0 b1 b2 c0 c1 c2 : Int) : Bool := (sumF [(a0, a1, a2), (b0, b1, b2), (c0, c1, c2)] 0 0 0).1
theorem sum3_val {a0 a1 a2 b0 b1 b2 c0 c1 c2 : Int} (h : sum3 a0 a1 a2 b0 b1 b2 c0 c1 c2 = true) :
    sumF [(a0, a1, a2), (b0, b1, b2), (c0, c1, c2)] 0 0 0 = (true, a0 + b0 + c0, a1 + b1 + c1, a2 + b2 + c2) := by
  unfold sum3 at h
  simp only [sumF, Int.zero_add] at h ⊢
  split at h
  · rename_i k1
    rw [if_pos k1]
    split at h
    · rename_i k2
      rw [if_pos k2]
      split at h
      · rename_i k3
        rw [if_pos k3]
      · cases h
    · cases h
  · cases h

theorem sums_alike {a0 a1 a2 b0 b1 b2 c0 c1 c2 x0 x1 x2 y0 y1 y2 : Int} {K L : Bool} (hs : sumF [(a0, a1, a2), (b0, b1, b2), (c0, c1, c2)] 0 0 0 = (K, x0, x1, x2)) (ht : sumF [(c0, c1, c2), (b0, b1, b2), (a0, a1, a2)] 0 0 0 = (L, y0, y1, y2)) :
    K = true → L = true → eqRB x0 x1 x2 y0 y1 y2 = true := by
  intro h1 h2
  have e1 := sum3_val (a0 := a0) (a1 := a1) (a2 := a2) (b0 := b0) (b1 := b1) (b2 := b2) (c0 := c0) (c1 := c1) (c2 := c2) (by unfold sum3; rw [hs]; exact h1)
  have e2 := sum3_val (a0 := c0) (a1 := c1) (a2 := c2) (b0 := b0) (b1 := b1) (b2 := b2) (c0 := a0) (c1 := a1) (c2 := a2) (by unfold sum3; rw [ht]; exact h2)
  rw [hs] at e1
  rw [ht] at e2
  simp only [Prod.mk.injEq] at e1 e2
  unfold eqRB
  simp only [Bool.and_eq_true, decide_eq_true_eq]
  omega

set_option maxRecDepth 100000 in
set_option maxHeartbeats 4000000 in
theorem qtyTurn_no (a0 a1 a2 b0 b1 b2 c0 c1 c2 : Int) (w : World) (hB : addB a0 a1 a2 b0 b1 b2 = false) :
    Calls Try.prog 3 #[res a0 a1 a2, res b0 b1 b2, res c0 c1 c2] w fun e w' => e = .returned (.bool true) ∧ Below w.heap.size w w' := by
  have hB' : addB b0 b1 b2 a0 a1 a2 = false := by rw [← addB_comm]; exact hB
  obtain ⟨K, x0, x1, x2, hs⟩ : ∃ K x0 x1 x2, sumF [(a0, a1, a2), (b0, b1, b2), (c0, c1, c2)] 0 0 0 = (K, x0, x1, x2) := ⟨_, _, _, _, rfl⟩
  obtain ⟨L, y0, y1, y2, ht⟩ : ∃ L y0 y1 y2, sumF [(c0, c1, c2), (b0, b1, b2), (a0, a1, a2)] 0 0 0 = (L, y0, y1, y2) := ⟨_, _, _, _, rfl⟩
  have HKL := Lib.hid (sums_alike hs ht)
  have HS := Lib.hid hs
  have HT := Lib.hid ht
  clear hs ht
  go_enter Try.func3, Try.ntmps3
  go_wp2_with fail
  refine (begun_any _).mono ?_
  rintro e w1 ⟨rfl, hb1⟩
  have hA1 : ∀ o, w1.cell? ⟨w.heap.size, o, none⟩ = (((w.alloc (box3 a0 a1 a2)).alloc (box3 b0 b1 b2)).alloc (box3 c0 c1 c2)).cell? ⟨w.heap.size, o, none⟩ := fun o => hb1.cell (p := ⟨w.heap.size, o, none⟩) (by simp; omega)
  have hB1 : ∀ o, w1.cell? ⟨w.heap.size + 1, o, none⟩ = (((w.alloc (box3 a0 a1 a2)).alloc (box3 b0 b1 b2)).alloc (box3 c0 c1 c2)).cell? ⟨w.heap.size + 1, o, none⟩ := fun o => hb1.cell (p := ⟨w.heap.size + 1, o, none⟩) (by simp)
  have hC1 : ∀ o, w1.cell? ⟨w.heap.size + 1 + 1, o, none⟩ = (((w.alloc (box3 a0 a1 a2)).alloc (box3 b0 b1 b2)).alloc (box3 c0 c1 c2)).cell? ⟨w.heap.size + 1 + 1, o, none⟩ := fun o => hb1.cell (p := ⟨w.heap.size + 1 + 1, o, none⟩) (by simp)
  have hz1 : w.heap.size + 1 + 1 < w1.heap.size := by have := hb1.size; simp at this; omega
  have hbw1 : Below w.heap.size w w1 := (((((Below.refl _ _).alloc (Nat.le_refl _) _).alloc (by simp) _).alloc (by simp; omega) _)).trans (hb1.mono (by simp; omega))
  clear hb1
  go_wp2_with fail
  refine (add_no _ _ _ _ _ _ _ hB).mono ?_
  rintro e w2 ⟨rfl, hb2⟩
  have hi1 : w.heap.size < w1.heap.size := by omega
  have hj1 : w.heap.size + 1 < w1.heap.size := by omega
  have hX2 := hb2
  have hA2 : ∀ o, w2.cell? ⟨w.heap.size, o, none⟩ = (((w.alloc (box3 a0 a1 a2)).alloc (box3 b0 b1 b2)).alloc (box3 c0 c1 c2)).cell? ⟨w.heap.size, o, none⟩ := fun o => (hX2.cell (p := ⟨w.heap.size, o, none⟩) (by simp; omega)).trans (hA1 o)
  have hB2 : ∀ o, w2.cell? ⟨w.heap.size + 1, o, none⟩ = (((w.alloc (box3 a0 a1 a2)).alloc (box3 b0 b1 b2)).alloc (box3 c0 c1 c2)).cell? ⟨w.heap.size + 1, o, none⟩ := fun o => (hX2.cell (p := ⟨w.heap.size + 1, o, none⟩) (by simp; omega)).trans (hB1 o)
  have hC2 : ∀ o, w2.cell? ⟨w.heap.size + 1 + 1, o, none⟩ = (((w.alloc (box3 a0 a1 a2)).alloc (box3 b0 b1 b2)).alloc (box3 c0 c1 c2)).cell? ⟨w.heap.size + 1 + 1, o, none⟩ := fun o => (hX2.cell (p := ⟨w.heap.size + 1 + 1, o, none⟩) (by simp; omega)).trans (hC1 o)
  have hz2 : w.heap.size + 1 + 1 < w2.heap.size := Nat.lt_of_lt_of_le hz1 hX2.size
  have hi2 : w.heap.size < w2.heap.size := by omega
  have hj2 : w.heap.size + 1 < w2.heap.size := by omega
  have hbw2 : Below w.heap.size w w2 := hbw1.trans (hX2.mono (by omega))
  clear hX2 hA1 hB1 hC1 hbw1 hz1 hi1 hj1
  clear hb2
  go_wp2_with fail
  refine (add_no _ _ _ _ _ _ _ hB').mono ?_
  rintro e w3 ⟨rfl, hb3⟩
  have hS3 : ∀ o, w3.cell? ⟨w2.heap.size, o, none⟩ = (w2.alloc (box3 0 0 0)).cell? ⟨w2.heap.size, o, none⟩ := fun o => hb3.cell (p := ⟨w2.heap.size, o, none⟩) (by simp)
  have hy3 : w2.heap.size < w3.heap.size := by have := hb3.size; simp at this; omega
  have hX3 : Below w2.heap.size w2 w3 := ((Below.refl _ _).alloc (Nat.le_refl _) _).trans (hb3.mono (by simp))
  clear hb3
  have hA3 : ∀ o, w3.cell? ⟨w.heap.size, o, none⟩ = (((w.alloc (box3 a0 a1 a2)).alloc (box3 b0 b1 b2)).alloc (box3 c0 c1 c2)).cell? ⟨w.heap.size, o, none⟩ := fun o => (hX3.cell (p := ⟨w.heap.size, o, none⟩) (by simp; omega)).trans (hA2 o)
  have hB3 : ∀ o, w3.cell? ⟨w.heap.size + 1, o, none⟩ = (((w.alloc (box3 a0 a1 a2)).alloc (box3 b0 b1 b2)).alloc (box3 c0 c1 c2)).cell? ⟨w.heap.size + 1, o, none⟩ := fun o => (hX3.cell (p := ⟨w.heap.size + 1, o, none⟩) (by simp; omega)).trans (hB2 o)
  have hC3 : ∀ o, w3.cell? ⟨w.heap.size + 1 + 1, o, none⟩ = (((w.alloc (box3 a0 a1 a2)).alloc (box3 b0 b1 b2)).alloc (box3 c0 c1 c2)).cell? ⟨w.heap.size + 1 + 1, o, none⟩ := fun o => (hX3.cell (p := ⟨w.heap.size + 1 + 1, o, none⟩) (by simp; omega)).trans (hC2 o)
  have hz3 : w.heap.size + 1 + 1 < w3.heap.size := Nat.lt_of_lt_of_le hz2 hX3.size
  have hi3 : w.heap.size < w3.heap.size := by omega
  have hj3 : w.heap.size + 1 < w3.heap.size := by omega
  have hbw3 : Below w.heap.size w w3 := hbw2.trans (hX3.mono (by omega))
  clear hX3 hA2 hB2 hC2 hbw2 hz2 hi2 hj2
  have gd := guardR
  have he : ∀ w : World, (Op.equalIn 10000 23 (res 0 0 0) (res 0 0 0)).run Try.prog w = .ok true w := fun w => eq_R 0 0 0 0 0 0 w
  go_wp2_with fail
  clear gd he hS3 hy3
  have hL3 : ∀ o o' : Obj, ((w3.alloc o).alloc o').heap[w3.heap.size + 1]? = some o' := fun o o' => by
    rw [show w3.heap.size + 1 = (w3.alloc o).heap.size by simp]
    exact heap_alloc_self _ _
  have hB3' : ∀ o o' : Obj, Below w3.heap.size w3 ((w3.alloc o).alloc o') := fun o o' => ((Below.refl _ _).alloc (Nat.le_refl _) o).alloc (by simp) o'
  refine (sum_any [(a0, a1, a2), (b0, b1, b2), (c0, c1, c2)] (w3.heap.size + 1) 0 3 _ (by simp) ?_ (by simp)).mono ?_
  · intro i hi
    match i, hi with
    | 0, _ => exact ⟨cell_of_obj (hL3 _ _) 0, cell_of_obj (hL3 _ _) 1, cell_of_obj (hL3 _ _) 2⟩
    | 1, _ => exact ⟨cell_of_obj (hL3 _ _) 3, cell_of_obj (hL3 _ _) 4, cell_of_obj (hL3 _ _) 5⟩
    | 2, _ => exact ⟨cell_of_obj (hL3 _ _) 6, cell_of_obj (hL3 _ _) 7, cell_of_obj (hL3 _ _) 8⟩
  rintro e w4 ⟨rfl, hb4⟩
  rw [HS.out]
  have hX4 : Below w3.heap.size w3 w4 := (hB3' _ _).trans (hb4.mono (by simp; omega))
  clear hb4 hL3 hB3'
  have hA4 : ∀ o, w4.cell? ⟨w.heap.size, o, none⟩ = (((w.alloc (box3 a0 a1 a2)).alloc (box3 b0 b1 b2)).alloc (box3 c0 c1 c2)).cell? ⟨w.heap.size, o, none⟩ := fun o => (hX4.cell (p := ⟨w.heap.size, o, none⟩) (by simp; omega)).trans (hA3 o)
  have hB4 : ∀ o, w4.cell? ⟨w.heap.size + 1, o, none⟩ = (((w.alloc (box3 a0 a1 a2)).alloc (box3 b0 b1 b2)).alloc (box3 c0 c1 c2)).cell? ⟨w.heap.size + 1, o, none⟩ := fun o => (hX4.cell (p := ⟨w.heap.size + 1, o, none⟩) (by simp; omega)).trans (hB3 o)
  have hC4 : ∀ o, w4.cell? ⟨w.heap.size + 1 + 1, o, none⟩ = (((w.alloc (box3 a0 a1 a2)).alloc (box3 b0 b1 b2)).alloc (box3 c0 c1 c2)).cell? ⟨w.heap.size + 1 + 1, o, none⟩ := fun o => (hX4.cell (p := ⟨w.heap.size + 1 + 1, o, none⟩) (by simp; omega)).trans (hC3 o)
  have hz4 : w.heap.size + 1 + 1 < w4.heap.size := Nat.lt_of_lt_of_le hz3 hX4.size
  have hi4 : w.heap.size < w4.heap.size := by omega
  have hj4 : w.heap.size + 1 < w4.heap.size := by omega
  have hbw4 : Below w.heap.size w w4 := hbw3.trans (hX4.mono (by omega))
  clear hX4 hA3 hB3 hC3 hbw3 hz3 hi3 hj3
  go_wp2_with fail
  have hL4 : ∀ o o' : Obj, ((w4.alloc o).alloc o').heap[w4.heap.size + 1]? = some o' := fun o o' => by
    rw [show w4.heap.size + 1 = (w4.alloc o).heap.size by simp]
    exact heap_alloc_self _ _
  have hB4' : ∀ o o' : Obj, Below w4.heap.size w4 ((w4.alloc o).alloc o') := fun o o' => ((Below.refl _ _).alloc (Nat.le_refl _) o).alloc (by simp) o'
  refine (sum_any [(c0, c1, c2), (b0, b1, b2), (a0, a1, a2)] (w4.heap.size + 1) 0 3 _ (by simp) ?_ (by simp)).mono ?_
  · intro i hi
    match i, hi with
    | 0, _ => exact ⟨cell_of_obj (hL4 _ _) 0, cell_of_obj (hL4 _ _) 1, cell_of_obj (hL4 _ _) 2⟩
    | 1, _ => exact ⟨cell_of_obj (hL4 _ _) 3, cell_of_obj (hL4 _ _) 4, cell_of_obj (hL4 _ _) 5⟩
    | 2, _ => exact ⟨cell_of_obj (hL4 _ _) 6, cell_of_obj (hL4 _ _) 7, cell_of_obj (hL4 _ _) 8⟩
  rintro e w5 ⟨rfl, hb5⟩
  rw [HT.out]
  have hS5 : ∀ o, w5.cell? ⟨w4.heap.size, o, none⟩ = (w4.alloc (box3 x0 x1 x2)).cell? ⟨w4.heap.size, o, none⟩ := fun o => (hb5.cell (p := ⟨w4.heap.size, o, none⟩) (by simp; omega)).trans (((Below.refl _ _).alloc (Nat.le_refl _) _).cell (p := ⟨w4.heap.size, o, none⟩) (by simp))
  have hX5 : Below w4.heap.size w4 w5 := (hB4' _ _).trans (hb5.mono (by simp; omega))
  have hy5 : w4.heap.size < w5.heap.size := by have := hb5.size; simp at this; omega
  have hbw5 : Below w.heap.size w w5 := hbw4.trans (hX5.mono (by omega))
  clear hb5 hL4 hB4' hX5 hA4 hB4 hC4 hz4 hi4 hj4 hbw4
  cases K
  · go_wp2
    go_ret
    exact ⟨rfl, (by first | exact hbw5 | exact hbw5.alloc hbw5.size _)⟩
  cases L
  · go_wp2
    go_ret
    exact ⟨rfl, (by first | exact hbw5 | exact hbw5.alloc hbw5.size _)⟩
  have gd := guardR
  have he : ∀ w : World, (Op.equalIn 10000 23 (res x0 x1 x2) (res y0 y1 y2)).run Try.prog w = .ok true w := fun w => by rw [eq_R, HKL.out rfl rfl]
  go_wp2
  go_ret
  exact ⟨rfl, (by first | exact hbw5 | exact hbw5.alloc hbw5.size _)⟩
end Go.Proofs.Ytnimplldkambhaa
