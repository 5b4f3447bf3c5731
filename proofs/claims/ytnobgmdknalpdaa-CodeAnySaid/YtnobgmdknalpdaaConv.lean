/-
  A string of a slice's bytes. No conditions beyond what is written in each statement.
-/
import Derived.Test.YtnobgmdknalpdaaGet1
import Derived.Laws.BytesArg
set_option linter.unusedSimpArgs false
set_option linter.unusedVariables false
namespace Go.Proofs.Ytnobgmdknalpdaa
open Go.RowKit

def PlainA (a : Option Addr) : Prop := a = none ∨ ∃ b off, a = some ⟨b, off, none⟩
theorem conv_b (w : World) (a : Option Addr) (l : List Int) (n cap : Nat) (hn : l.length = n) (hp : PlainA a) (h : AtB w a l) : (convert 48 9 (.slice a n cap)).run Try.prog w = .ok (.string (strOfNums l)) w := by
  subst hn
  rcases hp with rfl | ⟨b, off, rfl⟩
  · have hl : l = [] := by
      cases l with
      | nil => rfl
      | cons x r =>
        obtain ⟨b, off, e, _⟩ := h 0 (by simp)
        cases e
    subst hl
    exact run_convert_bytes_nil w _ 5 Try.underlying48 Try.underlying5 _ _ _ Try.underlying9
  · exact run_convert_bytes_arg w _ 5 Try.underlying48 Try.underlying5 b off l.length cap l rfl (fun i hi => by
      obtain ⟨b', off', e, _, hc, _⟩ := h i hi
      cases e
      exact hc) _ Try.underlying9
end Go.Proofs.Ytnobgmdknalpdaa
