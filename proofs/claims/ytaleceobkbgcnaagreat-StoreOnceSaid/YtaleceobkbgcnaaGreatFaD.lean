/-
  Closed facts of the program that all rows ask. No conditions.
-/
import Derived.Test.YtaleceobkbgcnaaGreatFaA
import Derived.Test.YtaleceobkbgcnaaGreatFaB
import Derived.Test.YtaleceobkbgcnaaGreatFaC
set_option linter.unusedSimpArgs false
set_option linter.unusedVariables false
namespace Go.Proofs.YtaleceobkbgcnaaGreat
theorem fact_laid : laidOutB Tryz.prog = true := by kernel_rfl
theorem fact_maps : mapsRowed Tryz.prog = true := by kernel_rfl
theorem fact_stops : (Tryz.prog.stops == []) = true := by kernel_rfl
theorem fact_knobs : (Tryz.prog.stopKnobs == []) = true := by kernel_rfl
theorem fact_heard : Tryz.prog.stopsHeard = true := by kernel_rfl
theorem fact_keys : (Rows.logOwnRow.plainKeys == Tryz.prog.plainKeys) = true := by kernel_rfl
end Go.Proofs.YtaleceobkbgcnaaGreat
