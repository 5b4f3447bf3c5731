/-
  The contracts of the documents' answers (names, texts). No conditions beyond what is written in each statement.
-/
import Derived.Test.YtnimplldkambhabLCut
set_option linter.unusedSimpArgs false
set_option linter.unusedVariables false
namespace Go.Proofs.Ytnimplldkambhab
open Go.RowKit

theorem nameL_no {s : ByteArray} (h : allName s.data.toList = false) : nameL s.data.toList = false := by unfold nameL; rw [h]; simp
theorem nameByte_no {c : Nat} (h : ¬ (97 ≤ c ∧ c ≤ 122 ∨ 48 ≤ c ∧ c ≤ 57 ∨ c = 45)) : nameByte c = false := decide_eq_false h
theorem nameByte_yes {c : Nat} (h : 97 ≤ c ∧ c ≤ 122 ∨ 48 ≤ c ∧ c ≤ 57 ∨ c = 45) : nameByte c = true := decide_eq_true h

set_option maxHeartbeats 1000000 in
theorem refName_any (s : ByteArray) (w : World) (hs : s.size ≤ maxLen) :
    Calls Try.prog 30 #[.string s] w fun e w' => e = .returned (.bool (nameL s.data.toList)) ∧ w' = w := by
  have hs2 := Lib.hid hs
  clear hs
  go_enter Try.func30, Try.ntmps30
  go_wp2_with fail
  go_loop [3] (fun i => ∃ k : Nat, k ≤ s.size ∧ i = .int .i64 k ∧ Hid (allName (s.data.toList.take k) = true)) (fun i => s.size - (intOf i).toNat)
  case atStart => exact ⟨0, Nat.zero_le _, rfl, rfl⟩
  case round =>
    obtain ⟨k, hk, rfl, hall⟩ := hrel
    by_cases hlt : k < s.size
    · have hsn := Lib.hid (allName_snoc s k hlt)
      have hno := Lib.hid (allName_no s k hlt)
      have hwr : wrap64 ((k : Int) + 1) = ((k + 1 : Nat) : Int) := by
        have := hs2.out
        unfold maxLen at this
        rw [IntWalk.wrap64_in _ (by omega)]; rfl
      go_wp2
      all_goals first
        | (go_ret
           refine ⟨ret_bool ?_, rfl⟩
           rw [nameL_no (hno.out (nameByte_no ?_))]
           clear hno hsn hall
           (try simp only [Bool.not_eq_true', Bool.not_eq_false', decide_eq_true_eq, decide_eq_false_iff_not, beq_iff_eq, beq_eq_false_iff_ne, ne_eq] at *)
           omega)
        | (rw [hwr]
           refine ⟨⟨k + 1, by omega, rfl, ?_⟩, by simp only [intOf]; omega⟩
           show _ = _
           rw [hsn.out, hall.out, nameByte_yes ?_]
           · rfl
           clear hno hsn hall
           (try simp only [Bool.not_eq_true', Bool.not_eq_false', decide_eq_true_eq, decide_eq_false_iff_not, beq_iff_eq, beq_eq_false_iff_ne, ne_eq] at *)
           omega)
    · have hk2 : s.data.toList.take k = s.data.toList := List.take_of_length_le (by simp; omega)
      rw [hk2] at hall
      go_wp2
      all_goals (go_ret; refine ⟨ret_bool ?_, rfl⟩; unfold nameL; rw [hall.out, Bool.eq_iff_iff]; simp; try omega)

theorem extract_all {s : ByteArray} {n : Nat} (h : s.size ≤ n) : s.extract 0 n = s := by
  apply ByteArray.ext
  rw [ByteArray.data_extract, Array.extract_eq_self_of_le]
  exact h
theorem text_any (s : ByteArray) (n : Nat) (w : World) (hn : n ≤ 1000) :
    Calls Try.prog 28 #[.string s, .int .i64 n] w fun e w' => e = .returned (.string (s.extract 0 n)) ∧ w' = w := by
  go_enter Try.func28, Try.ntmps28
  go_wp2
  · go_ret
    exact ⟨rfl, rfl⟩
  · go_ret
    rw [extract_all (by omega)]
    exact ⟨rfl, rfl⟩
end Go.Proofs.Ytnimplldkambhab
