/-
  The laws of package qty: a share. No conditions beyond what is written in each statement.
-/
import Derived.Test.YtnimplldkambhaaLQty0
import Derived.Test.YtnimplldkambhaaBeg2
set_option linter.unusedSimpArgs false
set_option linter.unusedVariables false
namespace Go.Proofs.Ytnimplldkambhaa
open Go.RowKit

attribute [local irreducible] shareOf
set_option maxRecDepth 100000 in
set_option maxHeartbeats 4000000 in
theorem qtyShare_walk (part more whole : Int) (w : World) :
    Calls Try.prog 4 #[.int .i64 part, .int .i64 more, .int .i64 whole] w fun e w' => e = .returned (.bool true) ∧ Below w.heap.size w w' := by
  go_enter Try.func4, Try.ntmps4
  go_wp2_with fail
  refine (begun_any w).mono ?_
  rintro e w1 ⟨rfl, hb1⟩
  go_wp2_with (go_at_call 20; refine (share_any _ _ _).mono ?_; rintro e w' ⟨rfl, rfl⟩)
  all_goals (go_ret; refine ⟨ret_bool ?_, hb1⟩; go_light)
  all_goals
    have f1 := share_le (p := part) (wh := whole)
    have f2 := share_out (p := part) (wh := whole)
    have f3 := share_low (p := part) (wh := whole)
    have f4 := share_high (p := part) (wh := whole)
    have f5 := share_mid (p := part) (wh := whole)
    have f6 := share_mono (p := part) (q := more) (wh := whole)
    have f7 := share_high (p := whole) (wh := whole)
    have f8 := share_low (p := 0) (wh := whole)
  all_goals (try simp only [wrap64, Bool.and_eq_true, Bool.or_eq_true, Bool.not_eq_true', decide_eq_true_eq, decide_eq_false_iff_not, beq_iff_eq, bne_iff_ne, Bool.false_eq_true] at *)
  all_goals (try (generalize (shareOf part whole + 1) * whole = X at *; generalize shareOf part whole * whole = Y at *))
  all_goals (try split at *)
  all_goals (try omega)
  all_goals (try (simp_all; done))
  all_goals (try (simp_all; omega))
end Go.Proofs.Ytnimplldkambhaa
