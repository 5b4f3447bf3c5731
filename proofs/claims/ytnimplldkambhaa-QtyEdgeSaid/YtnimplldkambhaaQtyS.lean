/-
  The contract of qty.Sub. No conditions beyond what is written in each statement.
-/
import Derived.Test.YtnimplldkambhaaQtyF
import Derived.Test.YtnimplldkambhaaQty2
set_option linter.unusedSimpArgs false
set_option linter.unusedVariables false
namespace Go.Proofs.Ytnimplldkambhaa
open Go.RowKit

set_option maxHeartbeats 1000000 in
theorem sub_any (a b c x y z : Int) (w : World) :
    Calls Try.prog 17 #[res a b c, res x y z] w fun e w' => e = .returned (.tuple #[res (subV (subB a b c x y z) a x) (subV (subB a b c x y z) b y) (subV (subB a b c x y z) c z), .bool (subB a b c x y z)]) ∧ Below w.heap.size w w' := by
  by_cases h1 : withinB a b c 4611686018427387904 = true
  · by_cases h2 : withinB x y z 4611686018427387904 = true
    · by_cases h3 : fitsB x y z a b c = true
      · have b1 := within_le h1
        have b2 := within_le h2
        obtain ⟨b11, b12, b13, b14, b15, b16⟩ := b1
        obtain ⟨b21, b22, b23, b24, b25, b26⟩ := b2
        have b3 : x ≤ a ∧ y ≤ b ∧ z ≤ c := of_decide_eq_true h3
        obtain ⟨b31, b32, b33⟩ := b3
        go_enter Try.func17, Try.ntmps17
        go_wp2_with (first | (go_at_call 59; refine (within_x _ _ _ _ _).mono ?_; rintro e w1 ⟨rfl, rfl⟩) | (go_at_call 18; refine (fits_x _ _ _ _ _ _ _).mono ?_; rintro e w1 ⟨rfl, n, rfl⟩))
        refine wp_loop_rounds 4 ?_
        repeat any_goals (rw [rounds_succ]; go_wp2; try (any_goals (go_region; go_wp2)))
        refine bodyPost_ret (v := .tuple #[res (a - x) (b - y) (c - z), .bool true]) (by simp [results, Try.results17, go_sem]) rfl ⟨sub_end_yes (by unfold subB far; rw [h1, h2, h3]; rfl), (by (repeat (with_reducible first | exact Below.refl _ _ | refine Below.alloc ?_ ?_ _ | refine Below.setCell ?_ ?_ _ | refine Below.drew ?_ | refine below_drewN ?_ _)); all_goals (simp <;> omega))⟩
      · go_enter Try.func17, Try.ntmps17
        go_wp2_with (first | (go_at_call 59; refine (within_x _ _ _ _ _).mono ?_; rintro e w1 ⟨rfl, rfl⟩) | (go_at_call 18; refine (fits_x _ _ _ _ _ _ _).mono ?_; rintro e w1 ⟨rfl, n, rfl⟩))
        refine bodyPost_ret (v := .tuple #[res 0 0 0, .bool false]) (by simp [results, Try.results17, go_sem]) rfl ⟨sub_end_no (by unfold subB far; rw [Bool.eq_false_iff.2 h3]; simp), (by (repeat (with_reducible first | exact Below.refl _ _ | refine Below.alloc ?_ ?_ _ | refine Below.setCell ?_ ?_ _ | refine Below.drew ?_ | refine below_drewN ?_ _)); all_goals (simp <;> omega))⟩
    · go_enter Try.func17, Try.ntmps17
      go_wp2_with (go_at_call 59; refine (within_x _ _ _ _ _).mono ?_; rintro e w1 ⟨rfl, rfl⟩)
      refine bodyPost_ret (v := .tuple #[res 0 0 0, .bool false]) (by simp [results, Try.results17, go_sem]) rfl ⟨sub_end_no (by unfold subB far; rw [Bool.eq_false_iff.2 h2]; simp), (by (repeat (with_reducible first | exact Below.refl _ _ | refine Below.alloc ?_ ?_ _ | refine Below.setCell ?_ ?_ _ | refine Below.drew ?_ | refine below_drewN ?_ _)); all_goals (simp <;> omega))⟩
  · go_enter Try.func17, Try.ntmps17
    go_wp2_with (go_at_call 59; refine (within_x _ _ _ _ _).mono ?_; rintro e w1 ⟨rfl, rfl⟩)
    refine bodyPost_ret (v := .tuple #[res 0 0 0, .bool false]) (by simp [results, Try.results17, go_sem]) rfl ⟨sub_end_no (by unfold subB far; rw [Bool.eq_false_iff.2 h1]; simp), (by (repeat (with_reducible first | exact Below.refl _ _ | refine Below.alloc ?_ ?_ _ | refine Below.setCell ?_ ?_ _ | refine Below.drew ?_ | refine below_drewN ?_ _)); all_goals (simp <;> omega))⟩

end Go.Proofs.Ytnimplldkambhaa
