/-
  Plain facts of shares. No conditions beyond what is written in each statement.
-/
import Derived.Test.YtnimplldkambhaaQty2
set_option linter.unusedSimpArgs false
set_option linter.unusedVariables false
namespace Go.Proofs.Ytnimplldkambhaa
open Go.RowKit

theorem share_in {p wh : Int} (h1 : 1 ≤ wh) (h2 : wh ≤ 1000000000) : shareOf p wh = (100 * max 0 (min p wh)) / wh := by
  unfold shareOf; rw [if_neg (by omega)]
theorem share_out {p wh : Int} (h : wh < 1 ∨ 1000000000 < wh) : shareOf p wh = 0 := by
  unfold shareOf; rw [if_pos h]
theorem share_mono {p q wh : Int} (h : p ≤ q) : shareOf p wh ≤ shareOf q wh := by
  by_cases hw : wh < 1 ∨ 1000000000 < wh
  · rw [share_out hw, share_out hw]; omega
  · rw [share_in (by omega) (by omega), share_in (by omega) (by omega)]
    exact Int.ediv_le_ediv (by omega) (by omega)
theorem share_low {p wh : Int} (h1 : 1 ≤ wh) (h2 : wh ≤ 1000000000) (h : p ≤ 0) : shareOf p wh = 0 := by
  rw [share_in h1 h2, show max 0 (min p wh) = 0 by omega]; simp
theorem share_high {p wh : Int} (h1 : 1 ≤ wh) (h2 : wh ≤ 1000000000) (h : wh ≤ p) : shareOf p wh = 100 := by
  rw [share_in h1 h2, show max 0 (min p wh) = wh by omega]; exact Int.mul_ediv_cancel _ (by omega)
theorem share_le {p wh : Int} : 0 ≤ shareOf p wh ∧ shareOf p wh ≤ 100 := by
  by_cases hw : wh < 1 ∨ 1000000000 < wh
  · rw [share_out hw]; omega
  · have a := share_mono (p := min p 0) (q := p) (wh := wh) (by omega)
    have b := share_mono (p := p) (q := max p wh) (wh := wh) (by omega)
    rw [share_low (p := min p 0) (by omega) (by omega) (by omega)] at a
    rw [share_high (p := max p wh) (by omega) (by omega) (by omega)] at b
    exact ⟨a, b⟩
theorem share_mid {p wh : Int} (h1 : 1 ≤ wh) (h2 : wh ≤ 1000000000) (h3 : 0 ≤ p) (h4 : p ≤ wh) : shareOf p wh * wh ≤ 100 * p ∧ 100 * p < (shareOf p wh + 1) * wh ∧ 0 ≤ shareOf p wh * wh ∧ (shareOf p wh + 1) * wh ≤ 101000000000 := by
  have hl := share_le (p := p) (wh := wh)
  have e := share_in (p := p) h1 h2
  rw [show max 0 (min p wh) = p by omega] at e
  have a := Int.ediv_mul_le (100 * p) (show wh ≠ 0 by omega)
  have b := Int.lt_ediv_add_one_mul_self (100 * p) (show 0 < wh by omega)
  rw [← e] at a b
  refine ⟨a, b, Int.mul_nonneg hl.1 (by omega), ?_⟩
  calc (shareOf p wh + 1) * wh ≤ 101 * wh := Int.mul_le_mul_of_nonneg_right (by omega) (by omega)
    _ ≤ 101000000000 := by omega
end Go.Proofs.Ytnimplldkambhaa
