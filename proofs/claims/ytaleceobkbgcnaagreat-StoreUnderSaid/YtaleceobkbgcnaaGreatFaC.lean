/-
  A closed fact of the program that all rows ask: how it was made. No conditions.
-/
import Derived.Test.YtaleceobkbgcnaaGreatRows
import Derived.JoinedOf
import Derived.KernelRfl
set_option linter.unusedSimpArgs false
set_option linter.unusedVariables false
namespace Go.Proofs.YtaleceobkbgcnaaGreat
theorem fact_make : (Tryz.prog.make == some Rows.logOwnRow.make) = true := by kernel_rfl
end Go.Proofs.YtaleceobkbgcnaaGreat
