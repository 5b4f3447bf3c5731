/-
  Plain facts of sums. No conditions beyond what is written in each statement.
-/
import Derived.Test.YtnimplldkambhaaQtyS
set_option linter.unusedSimpArgs false
set_option linter.unusedVariables false
namespace Go.Proofs.Ytnimplldkambhaa
open Go.RowKit

theorem addB_comm (a b c x y z : Int) : addB a b c x y z = addB x y z a b c := by
  unfold addB
  rw [Int.add_comm a x, Int.add_comm b y, Int.add_comm c z]
  cases withinB a b c far <;> cases withinB x y z far <;> simp
theorem add_yes (a b c x y z : Int) (w : World) (h : addB a b c x y z = true) :
    Calls Try.prog 16 #[res a b c, res x y z] w fun e w' => e = .returned (.tuple #[res (a + x) (b + y) (c + z), .bool true]) ∧ Below w.heap.size w w' := by
  refine (add_any a b c x y z w).mono ?_
  rintro e w' ⟨rfl, hb⟩
  exact ⟨(add_end_yes h).symm, hb⟩
theorem add_no (a b c x y z : Int) (w : World) (h : addB a b c x y z = false) :
    Calls Try.prog 16 #[res a b c, res x y z] w fun e w' => e = .returned (.tuple #[res 0 0 0, .bool false]) ∧ Below w.heap.size w w' := by
  refine (add_any a b c x y z w).mono ?_
  rintro e w' ⟨rfl, hb⟩
  exact ⟨(add_end_no h).symm, hb⟩
theorem sub_yes (a b c x y z : Int) (w : World) (h : subB a b c x y z = true) :
    Calls Try.prog 17 #[res a b c, res x y z] w fun e w' => e = .returned (.tuple #[res (a - x) (b - y) (c - z), .bool true]) ∧ Below w.heap.size w w' := by
  refine (sub_any a b c x y z w).mono ?_
  rintro e w' ⟨rfl, hb⟩
  exact ⟨(sub_end_yes h).symm, hb⟩
end Go.Proofs.Ytnimplldkambhaa
