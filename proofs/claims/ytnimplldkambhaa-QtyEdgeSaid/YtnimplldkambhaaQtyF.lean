/-
  The contract of qty.Fits. No conditions beyond what is written in each statement.
-/
import Derived.Test.YtnimplldkambhaaQty
set_option linter.unusedSimpArgs false
set_option linter.unusedVariables false
namespace Go.Proofs.Ytnimplldkambhaa
open Go.RowKit

set_option maxHeartbeats 400000 in
theorem fits_x (a b c x y z : Int) (w : World) :
    Calls Try.prog 18 #[res a b c, res x y z] w fun e w' => e = .returned (.bool (fitsB a b c x y z)) ∧ ∃ n, w' = ((w.alloc (box3 a b c)).alloc (box3 x y z)).drewN n := by
  go_enter Try.func18, Try.ntmps18
  go_wp2
  refine wp_loop_rounds 4 ?_
  repeat any_goals (rw [rounds_succ]; go_wp2; try (go_quiet (fail); go_wp2))
  all_goals (go_ret; refine ⟨ret_bool ?_, _, by first | rfl | (simp only [World.drewN_drewN]; rfl)⟩; unfold fitsB; first | exact (decide_eq_false (by omega)).symm | exact (decide_eq_true (by omega)).symm)

end Go.Proofs.Ytnimplldkambhaa
