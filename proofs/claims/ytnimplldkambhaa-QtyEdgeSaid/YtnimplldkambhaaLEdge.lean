/-
  The law QtyEdge's walk. No conditions beyond what is written in each statement.
-/
import Derived.Test.YtnimplldkambhaaLFits
import Derived.Test.YtnimplldkambhaaLCut
set_option linter.unusedSimpArgs false
set_option linter.unusedVariables false
namespace Go.Proofs.Ytnimplldkambhaa
open Go.RowKit

theorem add_v (a b c x y z : Int) (w : World) {v : Bool} (h : addB a b c x y z = v) :
    Calls Try.prog 16 #[res a b c, res x y z] w fun e w' => (∃ i j k, e = .returned (.tuple #[res i j k, .bool v])) ∧ Below w.heap.size w w' := by
  refine (add_any a b c x y z w).mono ?_
  rintro e w' ⟨rfl, hb⟩
  exact ⟨⟨_, _, _, by rw [h]⟩, hb⟩
theorem sub_v (a b c x y z : Int) (w : World) {v : Bool} (h : subB a b c x y z = v) :
    Calls Try.prog 17 #[res a b c, res x y z] w fun e w' => (∃ i j k, e = .returned (.tuple #[res i j k, .bool v])) ∧ Below w.heap.size w w' := by
  refine (sub_any a b c x y z w).mono ?_
  rintro e w' ⟨rfl, hb⟩
  exact ⟨⟨_, _, _, by rw [h]⟩, hb⟩
theorem may_v (a b c : Int) (w : World) {v : Bool} (h : withinB a b c 1000000000 = v) :
    Calls Try.prog 55 #[res a b c] w fun e w' => e = .returned (.bool v) ∧ Below w.heap.size w w' := by
  refine (may_any a b c w).mono ?_
  rintro e w' ⟨rfl, hb⟩
  exact ⟨ret_bool h, hb⟩
def edgeP (a0 a1 a2 b0 b1 b2 c0 c1 c2 : Int) (p q : Bool) : Prop :=
  addB b0 b1 b2 0 0 0 = p ∧ addB b0 b1 b2 c0 c1 c2 = q ∧ subB b0 b1 b2 b0 b1 b2 = p ∧ withinB a0 a1 a2 1000000000 = p ∧ fitsB a0 a1 a2 a0 a1 a2 = true ∧ fitsB 1099511627776 1099511627776 1099511627776 a0 a1 a2 = false
theorem edge_0 (m : Int) (p q : Bool) (m0 : -4 ≤ m) (m1 : m ≤ 4) (hp : p = decide (m ≤ 0)) (hq : q = decide (m < 0)) : edgeP (1000000000 + m) 0 0 (4611686018427387904 + m) 0 0 1 0 0 p q := by
  subst hp hq
  unfold edgeP addB subB fitsB withinB far
  refine ⟨?_, ?_, ?_, ?_, ?_, ?_⟩ <;> first | (rw [Bool.eq_iff_iff]; simp only [Bool.and_eq_true, decide_eq_true_eq, Bool.false_eq_true, iff_false]; omega) | (simp; done) | (simp; omega)
theorem edge_1 (m : Int) (p q : Bool) (m0 : -4 ≤ m) (m1 : m ≤ 4) (hp : p = decide (m ≤ 0)) (hq : q = decide (m < 0)) : edgeP 0 (1000000000 + m) 0 0 (4611686018427387904 + m) 0 0 1 0 p q := by
  subst hp hq
  unfold edgeP addB subB fitsB withinB far
  refine ⟨?_, ?_, ?_, ?_, ?_, ?_⟩ <;> first | (rw [Bool.eq_iff_iff]; simp only [Bool.and_eq_true, decide_eq_true_eq, Bool.false_eq_true, iff_false]; omega) | (simp; done) | (simp; omega)
theorem edge_2 (m : Int) (p q : Bool) (m0 : -4 ≤ m) (m1 : m ≤ 4) (hp : p = decide (m ≤ 0)) (hq : q = decide (m < 0)) : edgeP 0 0 (1000000000 + m) 0 0 (4611686018427387904 + m) 0 0 1 p q := by
  subst hp hq
  unfold edgeP addB subB fitsB withinB far
  refine ⟨?_, ?_, ?_, ?_, ?_, ?_⟩ <;> first | (rw [Bool.eq_iff_iff]; simp only [Bool.and_eq_true, decide_eq_true_eq, Bool.false_eq_true, iff_false]; omega) | (simp; done) | (simp; omega)

set_option maxRecDepth 100000 in
set_option maxHeartbeats 4000000 in
theorem edgeW_0 (t o m : Int) (p q : Bool) (w : World) (hk : (wrap64 (t.tmod 3 + 3)).tmod 3 = 0) (ho : o.tmod 5 = m) (m0 : -4 ≤ m) (m1 : m ≤ 4) (hp : Hid (p = decide (m ≤ 0))) (hq : Hid (q = decide (m < 0))) :
    Calls Try.prog 13 #[.int .i64 t, .int .i64 o] w fun e w' => e = .returned (.bool true) ∧ Below w.heap.size w w' := by
  obtain ⟨f1, f2, f3, f4, f5, f6⟩ := edge_0 m p q m0 m1 hp.out hq.out
  go_enter Try.func13, Try.ntmps13
  go_wp2_with fail
  refine (begun_any _).mono ?_
  rintro e w1 ⟨rfl, hbw1⟩
  go_wp2_with fail
  refine Calls.mono (add_v _ _ _ _ _ _ _ f1) ?_
  rintro e w2 ⟨⟨x, y, z, rfl⟩, hb2⟩
  have hA2 : ∀ o, w2.cell? ⟨w1.heap.size, o, none⟩ = (((w1.alloc (box3 (1000000000 + m) 0 0)).alloc (box3 (4611686018427387904 + m) 0 0)).alloc (box3 1 0 0)).cell? ⟨w1.heap.size, o, none⟩ := fun o => hb2.cell (p := ⟨w1.heap.size, o, none⟩) (by simp; omega)
  have hB2 : ∀ o, w2.cell? ⟨w1.heap.size + 1, o, none⟩ = (((w1.alloc (box3 (1000000000 + m) 0 0)).alloc (box3 (4611686018427387904 + m) 0 0)).alloc (box3 1 0 0)).cell? ⟨w1.heap.size + 1, o, none⟩ := fun o => hb2.cell (p := ⟨w1.heap.size + 1, o, none⟩) (by simp)
  have hC2 : ∀ o, w2.cell? ⟨w1.heap.size + 1 + 1, o, none⟩ = (((w1.alloc (box3 (1000000000 + m) 0 0)).alloc (box3 (4611686018427387904 + m) 0 0)).alloc (box3 1 0 0)).cell? ⟨w1.heap.size + 1 + 1, o, none⟩ := fun o => hb2.cell (p := ⟨w1.heap.size + 1 + 1, o, none⟩) (by simp)
  have hz2 : w1.heap.size + 1 + 1 < w2.heap.size := by have := hb2.size; simp at this; omega
  have hi2 : w1.heap.size < w2.heap.size := by omega
  have hj2 : w1.heap.size + 1 < w2.heap.size := by omega
  have hbw2 : Below w.heap.size w w2 := hbw1.trans (((((Below.refl _ _).alloc (Nat.le_refl _) _).alloc (by simp) _).alloc (by simp; omega) _).trans (hb2.mono (by simp; omega)) |>.mono hbw1.size)
  clear hb2 hbw1
  go_wp2_with fail
  refine Calls.mono (add_v _ _ _ _ _ _ _ f2) ?_
  rintro e w3 ⟨⟨x, y, z, rfl⟩, hb3⟩
  have hX3 : Below w2.heap.size w2 w3 := by first | exact hb3 | exact ((Below.refl _ _).alloc (Nat.le_refl _) _).trans (hb3.mono (by simp)) | exact (((Below.refl _ _).alloc (Nat.le_refl _) _).alloc (by simp) _).trans (hb3.mono (by simp; omega))
  clear hb3
  have hA3 : ∀ o, w3.cell? ⟨w1.heap.size, o, none⟩ = (((w1.alloc (box3 (1000000000 + m) 0 0)).alloc (box3 (4611686018427387904 + m) 0 0)).alloc (box3 1 0 0)).cell? ⟨w1.heap.size, o, none⟩ := fun o => (hX3.cell (p := ⟨w1.heap.size, o, none⟩) (by simp; omega)).trans (hA2 o)
  have hB3 : ∀ o, w3.cell? ⟨w1.heap.size + 1, o, none⟩ = (((w1.alloc (box3 (1000000000 + m) 0 0)).alloc (box3 (4611686018427387904 + m) 0 0)).alloc (box3 1 0 0)).cell? ⟨w1.heap.size + 1, o, none⟩ := fun o => (hX3.cell (p := ⟨w1.heap.size + 1, o, none⟩) (by simp; omega)).trans (hB2 o)
  have hC3 : ∀ o, w3.cell? ⟨w1.heap.size + 1 + 1, o, none⟩ = (((w1.alloc (box3 (1000000000 + m) 0 0)).alloc (box3 (4611686018427387904 + m) 0 0)).alloc (box3 1 0 0)).cell? ⟨w1.heap.size + 1 + 1, o, none⟩ := fun o => (hX3.cell (p := ⟨w1.heap.size + 1 + 1, o, none⟩) (by simp; omega)).trans (hC2 o)
  have hz3 : w1.heap.size + 1 + 1 < w3.heap.size := Nat.lt_of_lt_of_le hz2 hX3.size
  have hi3 : w1.heap.size < w3.heap.size := by omega
  have hj3 : w1.heap.size + 1 < w3.heap.size := by omega
  have hbw3 : Below w.heap.size w w3 := hbw2.trans (hX3.mono (by have := hbw2.size; omega))
  clear hX3 hA2 hB2 hC2 hbw2 hz2 hi2 hj2
  go_wp2_with fail
  refine Calls.mono (sub_v _ _ _ _ _ _ _ f3) ?_
  rintro e w4 ⟨⟨x, y, z, rfl⟩, hb4⟩
  have hX4 : Below w3.heap.size w3 w4 := by first | exact hb4 | exact ((Below.refl _ _).alloc (Nat.le_refl _) _).trans (hb4.mono (by simp)) | exact (((Below.refl _ _).alloc (Nat.le_refl _) _).alloc (by simp) _).trans (hb4.mono (by simp; omega))
  clear hb4
  have hA4 : ∀ o, w4.cell? ⟨w1.heap.size, o, none⟩ = (((w1.alloc (box3 (1000000000 + m) 0 0)).alloc (box3 (4611686018427387904 + m) 0 0)).alloc (box3 1 0 0)).cell? ⟨w1.heap.size, o, none⟩ := fun o => (hX4.cell (p := ⟨w1.heap.size, o, none⟩) (by simp; omega)).trans (hA3 o)
  have hB4 : ∀ o, w4.cell? ⟨w1.heap.size + 1, o, none⟩ = (((w1.alloc (box3 (1000000000 + m) 0 0)).alloc (box3 (4611686018427387904 + m) 0 0)).alloc (box3 1 0 0)).cell? ⟨w1.heap.size + 1, o, none⟩ := fun o => (hX4.cell (p := ⟨w1.heap.size + 1, o, none⟩) (by simp; omega)).trans (hB3 o)
  have hC4 : ∀ o, w4.cell? ⟨w1.heap.size + 1 + 1, o, none⟩ = (((w1.alloc (box3 (1000000000 + m) 0 0)).alloc (box3 (4611686018427387904 + m) 0 0)).alloc (box3 1 0 0)).cell? ⟨w1.heap.size + 1 + 1, o, none⟩ := fun o => (hX4.cell (p := ⟨w1.heap.size + 1 + 1, o, none⟩) (by simp; omega)).trans (hC3 o)
  have hz4 : w1.heap.size + 1 + 1 < w4.heap.size := Nat.lt_of_lt_of_le hz3 hX4.size
  have hi4 : w1.heap.size < w4.heap.size := by omega
  have hj4 : w1.heap.size + 1 < w4.heap.size := by omega
  have hbw4 : Below w.heap.size w w4 := hbw3.trans (hX4.mono (by have := hbw3.size; omega))
  clear hX4 hA3 hB3 hC3 hbw3 hz3 hi3 hj3
  go_wp2_with fail
  refine Calls.mono (may_v _ _ _ _ f4) ?_
  rintro e w5 ⟨rfl, hb5⟩
  have hX5 : Below w4.heap.size w4 w5 := by first | exact hb5 | exact ((Below.refl _ _).alloc (Nat.le_refl _) _).trans (hb5.mono (by simp)) | exact (((Below.refl _ _).alloc (Nat.le_refl _) _).alloc (by simp) _).trans (hb5.mono (by simp; omega))
  clear hb5
  have hA5 : ∀ o, w5.cell? ⟨w1.heap.size, o, none⟩ = (((w1.alloc (box3 (1000000000 + m) 0 0)).alloc (box3 (4611686018427387904 + m) 0 0)).alloc (box3 1 0 0)).cell? ⟨w1.heap.size, o, none⟩ := fun o => (hX5.cell (p := ⟨w1.heap.size, o, none⟩) (by simp; omega)).trans (hA4 o)
  have hB5 : ∀ o, w5.cell? ⟨w1.heap.size + 1, o, none⟩ = (((w1.alloc (box3 (1000000000 + m) 0 0)).alloc (box3 (4611686018427387904 + m) 0 0)).alloc (box3 1 0 0)).cell? ⟨w1.heap.size + 1, o, none⟩ := fun o => (hX5.cell (p := ⟨w1.heap.size + 1, o, none⟩) (by simp; omega)).trans (hB4 o)
  have hC5 : ∀ o, w5.cell? ⟨w1.heap.size + 1 + 1, o, none⟩ = (((w1.alloc (box3 (1000000000 + m) 0 0)).alloc (box3 (4611686018427387904 + m) 0 0)).alloc (box3 1 0 0)).cell? ⟨w1.heap.size + 1 + 1, o, none⟩ := fun o => (hX5.cell (p := ⟨w1.heap.size + 1 + 1, o, none⟩) (by simp; omega)).trans (hC4 o)
  have hz5 : w1.heap.size + 1 + 1 < w5.heap.size := Nat.lt_of_lt_of_le hz4 hX5.size
  have hi5 : w1.heap.size < w5.heap.size := by omega
  have hj5 : w1.heap.size + 1 < w5.heap.size := by omega
  have hbw5 : Below w.heap.size w w5 := hbw4.trans (hX5.mono (by have := hbw4.size; omega))
  clear hX5 hA4 hB4 hC4 hbw4 hz4 hi4 hj4
  go_wp2_with fail
  refine Calls.mono (fits_v _ _ _ _ _ _ _ f5) ?_
  rintro e w6 ⟨rfl, hb6⟩
  have hX6 : Below w5.heap.size w5 w6 := by first | exact hb6 | exact ((Below.refl _ _).alloc (Nat.le_refl _) _).trans (hb6.mono (by simp)) | exact (((Below.refl _ _).alloc (Nat.le_refl _) _).alloc (by simp) _).trans (hb6.mono (by simp; omega))
  clear hb6
  have hA6 : ∀ o, w6.cell? ⟨w1.heap.size, o, none⟩ = (((w1.alloc (box3 (1000000000 + m) 0 0)).alloc (box3 (4611686018427387904 + m) 0 0)).alloc (box3 1 0 0)).cell? ⟨w1.heap.size, o, none⟩ := fun o => (hX6.cell (p := ⟨w1.heap.size, o, none⟩) (by simp; omega)).trans (hA5 o)
  have hB6 : ∀ o, w6.cell? ⟨w1.heap.size + 1, o, none⟩ = (((w1.alloc (box3 (1000000000 + m) 0 0)).alloc (box3 (4611686018427387904 + m) 0 0)).alloc (box3 1 0 0)).cell? ⟨w1.heap.size + 1, o, none⟩ := fun o => (hX6.cell (p := ⟨w1.heap.size + 1, o, none⟩) (by simp; omega)).trans (hB5 o)
  have hC6 : ∀ o, w6.cell? ⟨w1.heap.size + 1 + 1, o, none⟩ = (((w1.alloc (box3 (1000000000 + m) 0 0)).alloc (box3 (4611686018427387904 + m) 0 0)).alloc (box3 1 0 0)).cell? ⟨w1.heap.size + 1 + 1, o, none⟩ := fun o => (hX6.cell (p := ⟨w1.heap.size + 1 + 1, o, none⟩) (by simp; omega)).trans (hC5 o)
  have hz6 : w1.heap.size + 1 + 1 < w6.heap.size := Nat.lt_of_lt_of_le hz5 hX6.size
  have hi6 : w1.heap.size < w6.heap.size := by omega
  have hj6 : w1.heap.size + 1 < w6.heap.size := by omega
  have hbw6 : Below w.heap.size w w6 := hbw5.trans (hX6.mono (by have := hbw5.size; omega))
  clear hX6 hA5 hB5 hC5 hbw5 hz5 hi5 hj5
  go_wp2_with fail
  refine Calls.mono (fits_v _ _ _ _ _ _ _ f6) ?_
  rintro e w7 ⟨rfl, hb7⟩
  have hX7 : Below w6.heap.size w6 w7 := by first | exact hb7 | exact ((Below.refl _ _).alloc (Nat.le_refl _) _).trans (hb7.mono (by simp)) | exact (((Below.refl _ _).alloc (Nat.le_refl _) _).alloc (by simp) _).trans (hb7.mono (by simp; omega))
  clear hb7
  have hA7 : ∀ o, w7.cell? ⟨w1.heap.size, o, none⟩ = (((w1.alloc (box3 (1000000000 + m) 0 0)).alloc (box3 (4611686018427387904 + m) 0 0)).alloc (box3 1 0 0)).cell? ⟨w1.heap.size, o, none⟩ := fun o => (hX7.cell (p := ⟨w1.heap.size, o, none⟩) (by simp; omega)).trans (hA6 o)
  have hB7 : ∀ o, w7.cell? ⟨w1.heap.size + 1, o, none⟩ = (((w1.alloc (box3 (1000000000 + m) 0 0)).alloc (box3 (4611686018427387904 + m) 0 0)).alloc (box3 1 0 0)).cell? ⟨w1.heap.size + 1, o, none⟩ := fun o => (hX7.cell (p := ⟨w1.heap.size + 1, o, none⟩) (by simp; omega)).trans (hB6 o)
  have hC7 : ∀ o, w7.cell? ⟨w1.heap.size + 1 + 1, o, none⟩ = (((w1.alloc (box3 (1000000000 + m) 0 0)).alloc (box3 (4611686018427387904 + m) 0 0)).alloc (box3 1 0 0)).cell? ⟨w1.heap.size + 1 + 1, o, none⟩ := fun o => (hX7.cell (p := ⟨w1.heap.size + 1 + 1, o, none⟩) (by simp; omega)).trans (hC6 o)
  have hz7 : w1.heap.size + 1 + 1 < w7.heap.size := Nat.lt_of_lt_of_le hz6 hX7.size
  have hi7 : w1.heap.size < w7.heap.size := by omega
  have hj7 : w1.heap.size + 1 < w7.heap.size := by omega
  have hbw7 : Below w.heap.size w w7 := hbw6.trans (hX7.mono (by have := hbw6.size; omega))
  clear hX7 hA6 hB6 hC6 hbw6 hz6 hi6 hj6
  go_wp2
  go_ret
  exact ⟨rfl, (by first | exact hbw7 | exact hbw7.alloc hbw7.size _ | exact (hbw7.alloc hbw7.size _).alloc (by have := hbw7.size; simp; omega) _)⟩
set_option maxRecDepth 100000 in
set_option maxHeartbeats 4000000 in
theorem edgeW_1 (t o m : Int) (p q : Bool) (w : World) (hk : (wrap64 (t.tmod 3 + 3)).tmod 3 = 1) (ho : o.tmod 5 = m) (m0 : -4 ≤ m) (m1 : m ≤ 4) (hp : Hid (p = decide (m ≤ 0))) (hq : Hid (q = decide (m < 0))) :
    Calls Try.prog 13 #[.int .i64 t, .int .i64 o] w fun e w' => e = .returned (.bool true) ∧ Below w.heap.size w w' := by
  obtain ⟨f1, f2, f3, f4, f5, f6⟩ := edge_1 m p q m0 m1 hp.out hq.out
  go_enter Try.func13, Try.ntmps13
  go_wp2_with fail
  refine (begun_any _).mono ?_
  rintro e w1 ⟨rfl, hbw1⟩
  go_wp2_with fail
  refine Calls.mono (add_v _ _ _ _ _ _ _ f1) ?_
  rintro e w2 ⟨⟨x, y, z, rfl⟩, hb2⟩
  have hA2 : ∀ o, w2.cell? ⟨w1.heap.size, o, none⟩ = (((w1.alloc (box3 0 (1000000000 + m) 0)).alloc (box3 0 (4611686018427387904 + m) 0)).alloc (box3 0 1 0)).cell? ⟨w1.heap.size, o, none⟩ := fun o => hb2.cell (p := ⟨w1.heap.size, o, none⟩) (by simp; omega)
  have hB2 : ∀ o, w2.cell? ⟨w1.heap.size + 1, o, none⟩ = (((w1.alloc (box3 0 (1000000000 + m) 0)).alloc (box3 0 (4611686018427387904 + m) 0)).alloc (box3 0 1 0)).cell? ⟨w1.heap.size + 1, o, none⟩ := fun o => hb2.cell (p := ⟨w1.heap.size + 1, o, none⟩) (by simp)
  have hC2 : ∀ o, w2.cell? ⟨w1.heap.size + 1 + 1, o, none⟩ = (((w1.alloc (box3 0 (1000000000 + m) 0)).alloc (box3 0 (4611686018427387904 + m) 0)).alloc (box3 0 1 0)).cell? ⟨w1.heap.size + 1 + 1, o, none⟩ := fun o => hb2.cell (p := ⟨w1.heap.size + 1 + 1, o, none⟩) (by simp)
  have hz2 : w1.heap.size + 1 + 1 < w2.heap.size := by have := hb2.size; simp at this; omega
  have hi2 : w1.heap.size < w2.heap.size := by omega
  have hj2 : w1.heap.size + 1 < w2.heap.size := by omega
  have hbw2 : Below w.heap.size w w2 := hbw1.trans (((((Below.refl _ _).alloc (Nat.le_refl _) _).alloc (by simp) _).alloc (by simp; omega) _).trans (hb2.mono (by simp; omega)) |>.mono hbw1.size)
  clear hb2 hbw1
  go_wp2_with fail
  refine Calls.mono (add_v _ _ _ _ _ _ _ f2) ?_
  rintro e w3 ⟨⟨x, y, z, rfl⟩, hb3⟩
  have hX3 : Below w2.heap.size w2 w3 := by first | exact hb3 | exact ((Below.refl _ _).alloc (Nat.le_refl _) _).trans (hb3.mono (by simp)) | exact (((Below.refl _ _).alloc (Nat.le_refl _) _).alloc (by simp) _).trans (hb3.mono (by simp; omega))
  clear hb3
  have hA3 : ∀ o, w3.cell? ⟨w1.heap.size, o, none⟩ = (((w1.alloc (box3 0 (1000000000 + m) 0)).alloc (box3 0 (4611686018427387904 + m) 0)).alloc (box3 0 1 0)).cell? ⟨w1.heap.size, o, none⟩ := fun o => (hX3.cell (p := ⟨w1.heap.size, o, none⟩) (by simp; omega)).trans (hA2 o)
  have hB3 : ∀ o, w3.cell? ⟨w1.heap.size + 1, o, none⟩ = (((w1.alloc (box3 0 (1000000000 + m) 0)).alloc (box3 0 (4611686018427387904 + m) 0)).alloc (box3 0 1 0)).cell? ⟨w1.heap.size + 1, o, none⟩ := fun o => (hX3.cell (p := ⟨w1.heap.size + 1, o, none⟩) (by simp; omega)).trans (hB2 o)
  have hC3 : ∀ o, w3.cell? ⟨w1.heap.size + 1 + 1, o, none⟩ = (((w1.alloc (box3 0 (1000000000 + m) 0)).alloc (box3 0 (4611686018427387904 + m) 0)).alloc (box3 0 1 0)).cell? ⟨w1.heap.size + 1 + 1, o, none⟩ := fun o => (hX3.cell (p := ⟨w1.heap.size + 1 + 1, o, none⟩) (by simp; omega)).trans (hC2 o)
  have hz3 : w1.heap.size + 1 + 1 < w3.heap.size := Nat.lt_of_lt_of_le hz2 hX3.size
  have hi3 : w1.heap.size < w3.heap.size := by omega
  have hj3 : w1.heap.size + 1 < w3.heap.size := by omega
  have hbw3 : Below w.heap.size w w3 := hbw2.trans (hX3.mono (by have := hbw2.size; omega))
  clear hX3 hA2 hB2 hC2 hbw2 hz2 hi2 hj2
  go_wp2_with fail
  refine Calls.mono (sub_v _ _ _ _ _ _ _ f3) ?_
  rintro e w4 ⟨⟨x, y, z, rfl⟩, hb4⟩
  have hX4 : Below w3.heap.size w3 w4 := by first | exact hb4 | exact ((Below.refl _ _).alloc (Nat.le_refl _) _).trans (hb4.mono (by simp)) | exact (((Below.refl _ _).alloc (Nat.le_refl _) _).alloc (by simp) _).trans (hb4.mono (by simp; omega))
  clear hb4
  have hA4 : ∀ o, w4.cell? ⟨w1.heap.size, o, none⟩ = (((w1.alloc (box3 0 (1000000000 + m) 0)).alloc (box3 0 (4611686018427387904 + m) 0)).alloc (box3 0 1 0)).cell? ⟨w1.heap.size, o, none⟩ := fun o => (hX4.cell (p := ⟨w1.heap.size, o, none⟩) (by simp; omega)).trans (hA3 o)
  have hB4 : ∀ o, w4.cell? ⟨w1.heap.size + 1, o, none⟩ = (((w1.alloc (box3 0 (1000000000 + m) 0)).alloc (box3 0 (4611686018427387904 + m) 0)).alloc (box3 0 1 0)).cell? ⟨w1.heap.size + 1, o, none⟩ := fun o => (hX4.cell (p := ⟨w1.heap.size + 1, o, none⟩) (by simp; omega)).trans (hB3 o)
  have hC4 : ∀ o, w4.cell? ⟨w1.heap.size + 1 + 1, o, none⟩ = (((w1.alloc (box3 0 (1000000000 + m) 0)).alloc (box3 0 (4611686018427387904 + m) 0)).alloc (box3 0 1 0)).cell? ⟨w1.heap.size + 1 + 1, o, none⟩ := fun o => (hX4.cell (p := ⟨w1.heap.size + 1 + 1, o, none⟩) (by simp; omega)).trans (hC3 o)
  have hz4 : w1.heap.size + 1 + 1 < w4.heap.size := Nat.lt_of_lt_of_le hz3 hX4.size
  have hi4 : w1.heap.size < w4.heap.size := by omega
  have hj4 : w1.heap.size + 1 < w4.heap.size := by omega
  have hbw4 : Below w.heap.size w w4 := hbw3.trans (hX4.mono (by have := hbw3.size; omega))
  clear hX4 hA3 hB3 hC3 hbw3 hz3 hi3 hj3
  go_wp2_with fail
  refine Calls.mono (may_v _ _ _ _ f4) ?_
  rintro e w5 ⟨rfl, hb5⟩
  have hX5 : Below w4.heap.size w4 w5 := by first | exact hb5 | exact ((Below.refl _ _).alloc (Nat.le_refl _) _).trans (hb5.mono (by simp)) | exact (((Below.refl _ _).alloc (Nat.le_refl _) _).alloc (by simp) _).trans (hb5.mono (by simp; omega))
  clear hb5
  have hA5 : ∀ o, w5.cell? ⟨w1.heap.size, o, none⟩ = (((w1.alloc (box3 0 (1000000000 + m) 0)).alloc (box3 0 (4611686018427387904 + m) 0)).alloc (box3 0 1 0)).cell? ⟨w1.heap.size, o, none⟩ := fun o => (hX5.cell (p := ⟨w1.heap.size, o, none⟩) (by simp; omega)).trans (hA4 o)
  have hB5 : ∀ o, w5.cell? ⟨w1.heap.size + 1, o, none⟩ = (((w1.alloc (box3 0 (1000000000 + m) 0)).alloc (box3 0 (4611686018427387904 + m) 0)).alloc (box3 0 1 0)).cell? ⟨w1.heap.size + 1, o, none⟩ := fun o => (hX5.cell (p := ⟨w1.heap.size + 1, o, none⟩) (by simp; omega)).trans (hB4 o)
  have hC5 : ∀ o, w5.cell? ⟨w1.heap.size + 1 + 1, o, none⟩ = (((w1.alloc (box3 0 (1000000000 + m) 0)).alloc (box3 0 (4611686018427387904 + m) 0)).alloc (box3 0 1 0)).cell? ⟨w1.heap.size + 1 + 1, o, none⟩ := fun o => (hX5.cell (p := ⟨w1.heap.size + 1 + 1, o, none⟩) (by simp; omega)).trans (hC4 o)
  have hz5 : w1.heap.size + 1 + 1 < w5.heap.size := Nat.lt_of_lt_of_le hz4 hX5.size
  have hi5 : w1.heap.size < w5.heap.size := by omega
  have hj5 : w1.heap.size + 1 < w5.heap.size := by omega
  have hbw5 : Below w.heap.size w w5 := hbw4.trans (hX5.mono (by have := hbw4.size; omega))
  clear hX5 hA4 hB4 hC4 hbw4 hz4 hi4 hj4
  go_wp2_with fail
  refine Calls.mono (fits_v _ _ _ _ _ _ _ f5) ?_
  rintro e w6 ⟨rfl, hb6⟩
  have hX6 : Below w5.heap.size w5 w6 := by first | exact hb6 | exact ((Below.refl _ _).alloc (Nat.le_refl _) _).trans (hb6.mono (by simp)) | exact (((Below.refl _ _).alloc (Nat.le_refl _) _).alloc (by simp) _).trans (hb6.mono (by simp; omega))
  clear hb6
  have hA6 : ∀ o, w6.cell? ⟨w1.heap.size, o, none⟩ = (((w1.alloc (box3 0 (1000000000 + m) 0)).alloc (box3 0 (4611686018427387904 + m) 0)).alloc (box3 0 1 0)).cell? ⟨w1.heap.size, o, none⟩ := fun o => (hX6.cell (p := ⟨w1.heap.size, o, none⟩) (by simp; omega)).trans (hA5 o)
  have hB6 : ∀ o, w6.cell? ⟨w1.heap.size + 1, o, none⟩ = (((w1.alloc (box3 0 (1000000000 + m) 0)).alloc (box3 0 (4611686018427387904 + m) 0)).alloc (box3 0 1 0)).cell? ⟨w1.heap.size + 1, o, none⟩ := fun o => (hX6.cell (p := ⟨w1.heap.size + 1, o, none⟩) (by simp; omega)).trans (hB5 o)
  have hC6 : ∀ o, w6.cell? ⟨w1.heap.size + 1 + 1, o, none⟩ = (((w1.alloc (box3 0 (1000000000 + m) 0)).alloc (box3 0 (4611686018427387904 + m) 0)).alloc (box3 0 1 0)).cell? ⟨w1.heap.size + 1 + 1, o, none⟩ := fun o => (hX6.cell (p := ⟨w1.heap.size + 1 + 1, o, none⟩) (by simp; omega)).trans (hC5 o)
  have hz6 : w1.heap.size + 1 + 1 < w6.heap.size := Nat.lt_of_lt_of_le hz5 hX6.size
  have hi6 : w1.heap.size < w6.heap.size := by omega
  have hj6 : w1.heap.size + 1 < w6.heap.size := by omega
  have hbw6 : Below w.heap.size w w6 := hbw5.trans (hX6.mono (by have := hbw5.size; omega))
  clear hX6 hA5 hB5 hC5 hbw5 hz5 hi5 hj5
  go_wp2_with fail
  refine Calls.mono (fits_v _ _ _ _ _ _ _ f6) ?_
  rintro e w7 ⟨rfl, hb7⟩
  have hX7 : Below w6.heap.size w6 w7 := by first | exact hb7 | exact ((Below.refl _ _).alloc (Nat.le_refl _) _).trans (hb7.mono (by simp)) | exact (((Below.refl _ _).alloc (Nat.le_refl _) _).alloc (by simp) _).trans (hb7.mono (by simp; omega))
  clear hb7
  have hA7 : ∀ o, w7.cell? ⟨w1.heap.size, o, none⟩ = (((w1.alloc (box3 0 (1000000000 + m) 0)).alloc (box3 0 (4611686018427387904 + m) 0)).alloc (box3 0 1 0)).cell? ⟨w1.heap.size, o, none⟩ := fun o => (hX7.cell (p := ⟨w1.heap.size, o, none⟩) (by simp; omega)).trans (hA6 o)
  have hB7 : ∀ o, w7.cell? ⟨w1.heap.size + 1, o, none⟩ = (((w1.alloc (box3 0 (1000000000 + m) 0)).alloc (box3 0 (4611686018427387904 + m) 0)).alloc (box3 0 1 0)).cell? ⟨w1.heap.size + 1, o, none⟩ := fun o => (hX7.cell (p := ⟨w1.heap.size + 1, o, none⟩) (by simp; omega)).trans (hB6 o)
  have hC7 : ∀ o, w7.cell? ⟨w1.heap.size + 1 + 1, o, none⟩ = (((w1.alloc (box3 0 (1000000000 + m) 0)).alloc (box3 0 (4611686018427387904 + m) 0)).alloc (box3 0 1 0)).cell? ⟨w1.heap.size + 1 + 1, o, none⟩ := fun o => (hX7.cell (p := ⟨w1.heap.size + 1 + 1, o, none⟩) (by simp; omega)).trans (hC6 o)
  have hz7 : w1.heap.size + 1 + 1 < w7.heap.size := Nat.lt_of_lt_of_le hz6 hX7.size
  have hi7 : w1.heap.size < w7.heap.size := by omega
  have hj7 : w1.heap.size + 1 < w7.heap.size := by omega
  have hbw7 : Below w.heap.size w w7 := hbw6.trans (hX7.mono (by have := hbw6.size; omega))
  clear hX7 hA6 hB6 hC6 hbw6 hz6 hi6 hj6
  go_wp2
  go_ret
  exact ⟨rfl, (by first | exact hbw7 | exact hbw7.alloc hbw7.size _ | exact (hbw7.alloc hbw7.size _).alloc (by have := hbw7.size; simp; omega) _)⟩
set_option maxRecDepth 100000 in
set_option maxHeartbeats 4000000 in
theorem edgeW_2 (t o m : Int) (p q : Bool) (w : World) (hk : (wrap64 (t.tmod 3 + 3)).tmod 3 = 2) (ho : o.tmod 5 = m) (m0 : -4 ≤ m) (m1 : m ≤ 4) (hp : Hid (p = decide (m ≤ 0))) (hq : Hid (q = decide (m < 0))) :
    Calls Try.prog 13 #[.int .i64 t, .int .i64 o] w fun e w' => e = .returned (.bool true) ∧ Below w.heap.size w w' := by
  obtain ⟨f1, f2, f3, f4, f5, f6⟩ := edge_2 m p q m0 m1 hp.out hq.out
  go_enter Try.func13, Try.ntmps13
  go_wp2_with fail
  refine (begun_any _).mono ?_
  rintro e w1 ⟨rfl, hbw1⟩
  go_wp2_with fail
  refine Calls.mono (add_v _ _ _ _ _ _ _ f1) ?_
  rintro e w2 ⟨⟨x, y, z, rfl⟩, hb2⟩
  have hA2 : ∀ o, w2.cell? ⟨w1.heap.size, o, none⟩ = (((w1.alloc (box3 0 0 (1000000000 + m))).alloc (box3 0 0 (4611686018427387904 + m))).alloc (box3 0 0 1)).cell? ⟨w1.heap.size, o, none⟩ := fun o => hb2.cell (p := ⟨w1.heap.size, o, none⟩) (by simp; omega)
  have hB2 : ∀ o, w2.cell? ⟨w1.heap.size + 1, o, none⟩ = (((w1.alloc (box3 0 0 (1000000000 + m))).alloc (box3 0 0 (4611686018427387904 + m))).alloc (box3 0 0 1)).cell? ⟨w1.heap.size + 1, o, none⟩ := fun o => hb2.cell (p := ⟨w1.heap.size + 1, o, none⟩) (by simp)
  have hC2 : ∀ o, w2.cell? ⟨w1.heap.size + 1 + 1, o, none⟩ = (((w1.alloc (box3 0 0 (1000000000 + m))).alloc (box3 0 0 (4611686018427387904 + m))).alloc (box3 0 0 1)).cell? ⟨w1.heap.size + 1 + 1, o, none⟩ := fun o => hb2.cell (p := ⟨w1.heap.size + 1 + 1, o, none⟩) (by simp)
  have hz2 : w1.heap.size + 1 + 1 < w2.heap.size := by have := hb2.size; simp at this; omega
  have hi2 : w1.heap.size < w2.heap.size := by omega
  have hj2 : w1.heap.size + 1 < w2.heap.size := by omega
  have hbw2 : Below w.heap.size w w2 := hbw1.trans (((((Below.refl _ _).alloc (Nat.le_refl _) _).alloc (by simp) _).alloc (by simp; omega) _).trans (hb2.mono (by simp; omega)) |>.mono hbw1.size)
  clear hb2 hbw1
  go_wp2_with fail
  refine Calls.mono (add_v _ _ _ _ _ _ _ f2) ?_
  rintro e w3 ⟨⟨x, y, z, rfl⟩, hb3⟩
  have hX3 : Below w2.heap.size w2 w3 := by first | exact hb3 | exact ((Below.refl _ _).alloc (Nat.le_refl _) _).trans (hb3.mono (by simp)) | exact (((Below.refl _ _).alloc (Nat.le_refl _) _).alloc (by simp) _).trans (hb3.mono (by simp; omega))
  clear hb3
  have hA3 : ∀ o, w3.cell? ⟨w1.heap.size, o, none⟩ = (((w1.alloc (box3 0 0 (1000000000 + m))).alloc (box3 0 0 (4611686018427387904 + m))).alloc (box3 0 0 1)).cell? ⟨w1.heap.size, o, none⟩ := fun o => (hX3.cell (p := ⟨w1.heap.size, o, none⟩) (by simp; omega)).trans (hA2 o)
  have hB3 : ∀ o, w3.cell? ⟨w1.heap.size + 1, o, none⟩ = (((w1.alloc (box3 0 0 (1000000000 + m))).alloc (box3 0 0 (4611686018427387904 + m))).alloc (box3 0 0 1)).cell? ⟨w1.heap.size + 1, o, none⟩ := fun o => (hX3.cell (p := ⟨w1.heap.size + 1, o, none⟩) (by simp; omega)).trans (hB2 o)
  have hC3 : ∀ o, w3.cell? ⟨w1.heap.size + 1 + 1, o, none⟩ = (((w1.alloc (box3 0 0 (1000000000 + m))).alloc (box3 0 0 (4611686018427387904 + m))).alloc (box3 0 0 1)).cell? ⟨w1.heap.size + 1 + 1, o, none⟩ := fun o => (hX3.cell (p := ⟨w1.heap.size + 1 + 1, o, none⟩) (by simp; omega)).trans (hC2 o)
  have hz3 : w1.heap.size + 1 + 1 < w3.heap.size := Nat.lt_of_lt_of_le hz2 hX3.size
  have hi3 : w1.heap.size < w3.heap.size := by omega
  have hj3 : w1.heap.size + 1 < w3.heap.size := by omega
  have hbw3 : Below w.heap.size w w3 := hbw2.trans (hX3.mono (by have := hbw2.size; omega))
  clear hX3 hA2 hB2 hC2 hbw2 hz2 hi2 hj2
  go_wp2_with fail
  refine Calls.mono (sub_v _ _ _ _ _ _ _ f3) ?_
  rintro e w4 ⟨⟨x, y, z, rfl⟩, hb4⟩
  have hX4 : Below w3.heap.size w3 w4 := by first | exact hb4 | exact ((Below.refl _ _).alloc (Nat.le_refl _) _).trans (hb4.mono (by simp)) | exact (((Below.refl _ _).alloc (Nat.le_refl _) _).alloc (by simp) _).trans (hb4.mono (by simp; omega))
  clear hb4
  have hA4 : ∀ o, w4.cell? ⟨w1.heap.size, o, none⟩ = (((w1.alloc (box3 0 0 (1000000000 + m))).alloc (box3 0 0 (4611686018427387904 + m))).alloc (box3 0 0 1)).cell? ⟨w1.heap.size, o, none⟩ := fun o => (hX4.cell (p := ⟨w1.heap.size, o, none⟩) (by simp; omega)).trans (hA3 o)
  have hB4 : ∀ o, w4.cell? ⟨w1.heap.size + 1, o, none⟩ = (((w1.alloc (box3 0 0 (1000000000 + m))).alloc (box3 0 0 (4611686018427387904 + m))).alloc (box3 0 0 1)).cell? ⟨w1.heap.size + 1, o, none⟩ := fun o => (hX4.cell (p := ⟨w1.heap.size + 1, o, none⟩) (by simp; omega)).trans (hB3 o)
  have hC4 : ∀ o, w4.cell? ⟨w1.heap.size + 1 + 1, o, none⟩ = (((w1.alloc (box3 0 0 (1000000000 + m))).alloc (box3 0 0 (4611686018427387904 + m))).alloc (box3 0 0 1)).cell? ⟨w1.heap.size + 1 + 1, o, none⟩ := fun o => (hX4.cell (p := ⟨w1.heap.size + 1 + 1, o, none⟩) (by simp; omega)).trans (hC3 o)
  have hz4 : w1.heap.size + 1 + 1 < w4.heap.size := Nat.lt_of_lt_of_le hz3 hX4.size
  have hi4 : w1.heap.size < w4.heap.size := by omega
  have hj4 : w1.heap.size + 1 < w4.heap.size := by omega
  have hbw4 : Below w.heap.size w w4 := hbw3.trans (hX4.mono (by have := hbw3.size; omega))
  clear hX4 hA3 hB3 hC3 hbw3 hz3 hi3 hj3
  go_wp2_with fail
  refine Calls.mono (may_v _ _ _ _ f4) ?_
  rintro e w5 ⟨rfl, hb5⟩
  have hX5 : Below w4.heap.size w4 w5 := by first | exact hb5 | exact ((Below.refl _ _).alloc (Nat.le_refl _) _).trans (hb5.mono (by simp)) | exact (((Below.refl _ _).alloc (Nat.le_refl _) _).alloc (by simp) _).trans (hb5.mono (by simp; omega))
  clear hb5
  have hA5 : ∀ o, w5.cell? ⟨w1.heap.size, o, none⟩ = (((w1.alloc (box3 0 0 (1000000000 + m))).alloc (box3 0 0 (4611686018427387904 + m))).alloc (box3 0 0 1)).cell? ⟨w1.heap.size, o, none⟩ := fun o => (hX5.cell (p := ⟨w1.heap.size, o, none⟩) (by simp; omega)).trans (hA4 o)
  have hB5 : ∀ o, w5.cell? ⟨w1.heap.size + 1, o, none⟩ = (((w1.alloc (box3 0 0 (1000000000 + m))).alloc (box3 0 0 (4611686018427387904 + m))).alloc (box3 0 0 1)).cell? ⟨w1.heap.size + 1, o, none⟩ := fun o => (hX5.cell (p := ⟨w1.heap.size + 1, o, none⟩) (by simp; omega)).trans (hB4 o)
  have hC5 : ∀ o, w5.cell? ⟨w1.heap.size + 1 + 1, o, none⟩ = (((w1.alloc (box3 0 0 (1000000000 + m))).alloc (box3 0 0 (4611686018427387904 + m))).alloc (box3 0 0 1)).cell? ⟨w1.heap.size + 1 + 1, o, none⟩ := fun o => (hX5.cell (p := ⟨w1.heap.size + 1 + 1, o, none⟩) (by simp; omega)).trans (hC4 o)
  have hz5 : w1.heap.size + 1 + 1 < w5.heap.size := Nat.lt_of_lt_of_le hz4 hX5.size
  have hi5 : w1.heap.size < w5.heap.size := by omega
  have hj5 : w1.heap.size + 1 < w5.heap.size := by omega
  have hbw5 : Below w.heap.size w w5 := hbw4.trans (hX5.mono (by have := hbw4.size; omega))
  clear hX5 hA4 hB4 hC4 hbw4 hz4 hi4 hj4
  go_wp2_with fail
  refine Calls.mono (fits_v _ _ _ _ _ _ _ f5) ?_
  rintro e w6 ⟨rfl, hb6⟩
  have hX6 : Below w5.heap.size w5 w6 := by first | exact hb6 | exact ((Below.refl _ _).alloc (Nat.le_refl _) _).trans (hb6.mono (by simp)) | exact (((Below.refl _ _).alloc (Nat.le_refl _) _).alloc (by simp) _).trans (hb6.mono (by simp; omega))
  clear hb6
  have hA6 : ∀ o, w6.cell? ⟨w1.heap.size, o, none⟩ = (((w1.alloc (box3 0 0 (1000000000 + m))).alloc (box3 0 0 (4611686018427387904 + m))).alloc (box3 0 0 1)).cell? ⟨w1.heap.size, o, none⟩ := fun o => (hX6.cell (p := ⟨w1.heap.size, o, none⟩) (by simp; omega)).trans (hA5 o)
  have hB6 : ∀ o, w6.cell? ⟨w1.heap.size + 1, o, none⟩ = (((w1.alloc (box3 0 0 (1000000000 + m))).alloc (box3 0 0 (4611686018427387904 + m))).alloc (box3 0 0 1)).cell? ⟨w1.heap.size + 1, o, none⟩ := fun o => (hX6.cell (p := ⟨w1.heap.size + 1, o, none⟩) (by simp; omega)).trans (hB5 o)
  have hC6 : ∀ o, w6.cell? ⟨w1.heap.size + 1 + 1, o, none⟩ = (((w1.alloc (box3 0 0 (1000000000 + m))).alloc (box3 0 0 (4611686018427387904 + m))).alloc (box3 0 0 1)).cell? ⟨w1.heap.size + 1 + 1, o, none⟩ := fun o => (hX6.cell (p := ⟨w1.heap.size + 1 + 1, o, none⟩) (by simp; omega)).trans (hC5 o)
  have hz6 : w1.heap.size + 1 + 1 < w6.heap.size := Nat.lt_of_lt_of_le hz5 hX6.size
  have hi6 : w1.heap.size < w6.heap.size := by omega
  have hj6 : w1.heap.size + 1 < w6.heap.size := by omega
  have hbw6 : Below w.heap.size w w6 := hbw5.trans (hX6.mono (by have := hbw5.size; omega))
  clear hX6 hA5 hB5 hC5 hbw5 hz5 hi5 hj5
  go_wp2_with fail
  refine Calls.mono (fits_v _ _ _ _ _ _ _ f6) ?_
  rintro e w7 ⟨rfl, hb7⟩
  have hX7 : Below w6.heap.size w6 w7 := by first | exact hb7 | exact ((Below.refl _ _).alloc (Nat.le_refl _) _).trans (hb7.mono (by simp)) | exact (((Below.refl _ _).alloc (Nat.le_refl _) _).alloc (by simp) _).trans (hb7.mono (by simp; omega))
  clear hb7
  have hA7 : ∀ o, w7.cell? ⟨w1.heap.size, o, none⟩ = (((w1.alloc (box3 0 0 (1000000000 + m))).alloc (box3 0 0 (4611686018427387904 + m))).alloc (box3 0 0 1)).cell? ⟨w1.heap.size, o, none⟩ := fun o => (hX7.cell (p := ⟨w1.heap.size, o, none⟩) (by simp; omega)).trans (hA6 o)
  have hB7 : ∀ o, w7.cell? ⟨w1.heap.size + 1, o, none⟩ = (((w1.alloc (box3 0 0 (1000000000 + m))).alloc (box3 0 0 (4611686018427387904 + m))).alloc (box3 0 0 1)).cell? ⟨w1.heap.size + 1, o, none⟩ := fun o => (hX7.cell (p := ⟨w1.heap.size + 1, o, none⟩) (by simp; omega)).trans (hB6 o)
  have hC7 : ∀ o, w7.cell? ⟨w1.heap.size + 1 + 1, o, none⟩ = (((w1.alloc (box3 0 0 (1000000000 + m))).alloc (box3 0 0 (4611686018427387904 + m))).alloc (box3 0 0 1)).cell? ⟨w1.heap.size + 1 + 1, o, none⟩ := fun o => (hX7.cell (p := ⟨w1.heap.size + 1 + 1, o, none⟩) (by simp; omega)).trans (hC6 o)
  have hz7 : w1.heap.size + 1 + 1 < w7.heap.size := Nat.lt_of_lt_of_le hz6 hX7.size
  have hi7 : w1.heap.size < w7.heap.size := by omega
  have hj7 : w1.heap.size + 1 < w7.heap.size := by omega
  have hbw7 : Below w.heap.size w w7 := hbw6.trans (hX7.mono (by have := hbw6.size; omega))
  clear hX7 hA6 hB6 hC6 hbw6 hz6 hi6 hj6
  go_wp2
  go_ret
  exact ⟨rfl, (by first | exact hbw7 | exact hbw7.alloc hbw7.size _ | exact (hbw7.alloc hbw7.size _).alloc (by have := hbw7.size; simp; omega) _)⟩

theorem qtyEdge_walk (t o : Int) (w : World) :
    Calls Try.prog 13 #[.int .i64 t, .int .i64 o] w fun e w' => e = .returned (.bool true) ∧ Below w.heap.size w w' := by
  have b := turn_in t (n := 3) (by decide) (by decide)
  have c := tmod_in o (n := 5) (by decide)
  have hk : (wrap64 (t.tmod 3 + 3)).tmod 3 = 0 ∨ (wrap64 (t.tmod 3 + 3)).tmod 3 = 1 ∨ (wrap64 (t.tmod 3 + 3)).tmod 3 = 2 := by omega
  rcases hk with h | h | h
  · exact edgeW_0 t o _ _ _ w h rfl (by omega) (by omega) rfl rfl
  · exact edgeW_1 t o _ _ _ w h rfl (by omega) (by omega) rfl rfl
  · exact edgeW_2 t o _ _ _ w h rfl (by omega) (by omega) rfl rfl
end Go.Proofs.Ytnimplldkambhaa
