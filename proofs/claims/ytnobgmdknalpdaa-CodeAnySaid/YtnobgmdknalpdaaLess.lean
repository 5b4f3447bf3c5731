/-
  Plain facts of rising labels. No conditions beyond what is written in each statement.
-/
import Derived.Test.YtnobgmdknalpdaaLCut
import Derived.Sort.Walk0
set_option linter.unusedSimpArgs false
set_option linter.unusedVariables false
namespace Go.Proofs.Ytnobgmdknalpdaa
open Go.RowKit

theorem less_lt (a b : ByteArray) : lessB a b = true ↔ a.toList < b.toList := by
  unfold lessB
  rw [bytesLess_eq, decide_eq_true_eq]
theorem less_trans {a b c : ByteArray} (h : lessB a b = true) (k : lessB b c = true) : lessB a c = true := by
  rw [less_lt] at *
  exact List.lt_trans h k
theorem less_irrefl (a : ByteArray) : lessB a a = false := by
  cases h : lessB a a
  · rfl
  · exact absurd ((less_lt a a).1 h) (List.lt_irrefl _)
theorem less_asymm {a b : ByteArray} (h : lessB a b = true) : lessB b a = false := by
  cases k : lessB b a
  · rfl
  · have := less_trans h k
    rw [less_irrefl] at this
    cases this

theorem mayL_spec (l : List Str2) : mayL l = true ↔ l.length ≤ 6 ∧ (∀ x ∈ l, nameL x.1.data.toList = true ∧ nameL x.2.data.toList = true) ∧ l.Pairwise (fun x y => lessB x.1 y.1 = true) := by
  unfold mayL
  simp only [Bool.and_eq_true, decide_eq_true_eq, List.all_eq_true, List.mem_range]
  constructor
  · rintro ⟨h1, h2⟩
    have hs : ∀ k (hk : k < l.length), nameL l[k].1.data.toList = true ∧ nameL l[k].2.data.toList = true ∧ (∀ j (hj : j + 1 = k), lessB (l[j]'(by omega)).1 l[k].1 = true) := fun k hk => by
      have h := h2 k hk
      unfold stepL keyAt valAt at h
      simp only [Bool.and_eq_true, Bool.or_eq_true, decide_eq_true_eq, getD_eq hk] at h
      refine ⟨h.1.1, h.1.2, fun j hj => ?_⟩
      subst hj
      rcases h.2 with e | e
      · omega
      · rw [show j + 1 - 1 = j by omega, getD_eq (by omega)] at e
        exact e
    refine ⟨h1, fun x hx => ?_, ?_⟩
    · obtain ⟨k, hk, rfl⟩ := List.getElem_of_mem hx
      exact ⟨(hs k hk).1, (hs k hk).2.1⟩
    · rw [List.pairwise_iff_getElem]
      intro i j hi hj hij
      induction j with
      | zero => omega
      | succ j ih =>
        have e := (hs (j + 1) hj).2.2 j rfl
        rcases Nat.lt_or_ge i j with h | h
        · exact less_trans (ih (by omega) h) e
        · obtain rfl : i = j := by omega
          exact e
  · rintro ⟨h1, h2, h3⟩
    refine ⟨h1, fun k hk => ?_⟩
    unfold stepL keyAt valAt
    simp only [Bool.and_eq_true, Bool.or_eq_true, decide_eq_true_eq, getD_eq hk]
    have hm := h2 l[k] (List.getElem_mem hk)
    refine ⟨⟨hm.1, hm.2⟩, ?_⟩
    by_cases k0 : k = 0
    · exact Or.inl k0
    · refine Or.inr ?_
      rw [getD_eq (by omega)]
      exact (List.pairwise_iff_getElem.1 h3) (k - 1) k (by omega) hk (by omega)
theorem mayL_twice (key a b : ByteArray) (m : List Str2) : mayL ((key, a) :: (m ++ [(key, b)])) = false := by
  cases h : mayL ((key, a) :: (m ++ [(key, b)]))
  · rfl
  · obtain ⟨_, _, h3⟩ := (mayL_spec _).1 h
    have := (List.pairwise_cons.1 h3).1 (key, b) (by simp)
    rw [less_irrefl] at this
    cases this
end Go.Proofs.Ytnobgmdknalpdaa
