/-
  The contracts of package label: names. No conditions beyond what is written in each statement.
-/
import Derived.Test.YtnobgmdknalpdaaBase
set_option linter.unusedSimpArgs false
set_option linter.unusedVariables false
namespace Go.Proofs.Ytnobgmdknalpdaa
open Go.RowKit

def nameByte (c : Nat) : Bool := decide (97 ≤ c ∧ c ≤ 122 ∨ 48 ≤ c ∧ c ≤ 57 ∨ c = 45)
def allName (l : List UInt8) : Bool := l.all fun c => nameByte c.toNat
def nameL (l : List UInt8) : Bool := decide (1 ≤ l.length ∧ l.length ≤ 12) && allName l

set_option maxHeartbeats 400000 in
theorem ofName_any (c : Nat) (w : World) :
    Calls Try.prog 98 #[.int .u8 c] w fun e w' => e = .returned (.bool (nameByte c)) ∧ w' = w := by
  go_enter Try.func98, Try.ntmps98
  go_wp2
  all_goals (go_ret; refine ⟨ret_bool ?_, rfl⟩; rw [Bool.eq_iff_iff]; simp [nameByte]; omega)

theorem allName_snoc (s : ByteArray) (k : Nat) (h : k < s.size) : allName (s.data.toList.take (k + 1)) = (allName (s.data.toList.take k) && nameByte s[k].toNat) := by
  unfold allName
  rw [List.take_succ_eq_append_getElem (by simpa using h), List.all_append]
  simp; rfl
theorem allName_no (s : ByteArray) (k : Nat) (h : k < s.size) (hn : nameByte s[k].toNat = false) : allName s.data.toList = false := by
  unfold allName
  rw [List.all_eq_false]
  exact ⟨s[k], by simp [ByteArray.getElem_eq_getElem_data], by simp [hn]⟩

set_option maxHeartbeats 400000 in
theorem name_any (s : ByteArray) (w : World) :
    Calls Try.prog 73 #[.string s] w fun e w' => e = .returned (.bool (nameL s.data.toList)) ∧ w' = w := by
  go_enter Try.func73, Try.ntmps73
  go_wp2_with fail
  · go_ret
    exact ⟨ret_bool (by unfold nameL; rw [decide_eq_false (by simp; omega)]; rfl), rfl⟩
  · have hlen : 1 ≤ s.size ∧ s.size ≤ 12 := by omega
    obtain ⟨hlen1, hlen2⟩ := hlen
    go_loop [14] (fun i => ∃ k : Nat, k ≤ s.size ∧ i = .int .i64 k ∧ Hid (allName (s.data.toList.take k) = true)) (fun i => s.size - (intOf i).toNat)
    case atStart => exact ⟨0, Nat.zero_le _, rfl, rfl⟩
    case round =>
      obtain ⟨k, hk, rfl, hall⟩ := hrel
      by_cases hlt : k < s.size
      · have hsn := Lib.hid (allName_snoc s k hlt)
        have hno := Lib.hid (allName_no s k hlt)
        cases hc : nameByte s[k].toNat
        · go_wp2_with (go_at_call 98; refine (ofName_any _ _).mono ?_; rintro e w' ⟨rfl, rfl⟩)
          go_ret
          exact ⟨ret_bool (by unfold nameL; rw [hno.out hc]; simp), rfl⟩
        · go_wp2_with (go_at_call 98; refine (ofName_any _ _).mono ?_; rintro e w' ⟨rfl, rfl⟩)
          go_round
          case rel => exact ⟨k + 1, by omega, by go_num, by show _ = true; rw [hsn.out, hall.out, hc]; rfl⟩
          case measure => simp [intOf]; omega
      · go_wp2
        go_ret
        exact ⟨ret_bool (by have h := hall.out; rw [List.take_of_length_le (by simp; omega)] at h; unfold nameL; rw [h, decide_eq_true (by simp; omega)]; rfl), rfl⟩
  · go_ret
    exact ⟨ret_bool (by unfold nameL; rw [decide_eq_false (by simp; omega)]; rfl), rfl⟩
end Go.Proofs.Ytnobgmdknalpdaa
