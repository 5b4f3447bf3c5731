/-
  A closed fact of the program that all rows ask: which functions may be entered. No conditions.
-/
import Derived.Test.YtaleceobkbgcnaaGreatRows
import Derived.JoinedOf
import Derived.KernelRfl
set_option linter.unusedSimpArgs false
set_option linter.unusedVariables false
namespace Go.Proofs.YtaleceobkbgcnaaGreat
theorem fact_enter : Tryz.prog.mayEnter = true := by kernel_rfl
end Go.Proofs.YtaleceobkbgcnaaGreat
