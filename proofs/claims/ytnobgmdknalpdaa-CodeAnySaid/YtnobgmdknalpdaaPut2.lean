/-
  The contracts of package code: how numbers and names are written. No conditions beyond what is written in each statement.
-/
import Derived.Test.YtnobgmdknalpdaaPut1
import Derived.Deep.DeepFit
set_option linter.unusedSimpArgs false
set_option linter.unusedVariables false
namespace Go.Proofs.Ytnobgmdknalpdaa
open Go.RowKit

theorem wbytes_len (x : Nat) : (wbytes x).length = 8 := by simp [wbytes]

set_option maxRecDepth 100000 in
theorem putNumI_any (x : Int) (v : Value) (n : Nat) (xs : List Value) (B : Nat) (w : World) (h0 : 0 ≤ x) (h1 : Hid (x < 9223372036854775808)) (ho : w.ownsRow B 5 1 v n xs) (hB : B ≤ w.heap.size) (hn : n ≤ 1000000) :
    Calls Try.prog 38 #[v, .int .i64 x] w (PutPost B w (n + 8) (xs ++ wbytes x.toNat)) := by
  obtain ⟨m, rfl⟩ := Int.eq_ofNat_of_zero_le h0
  have hm : Hid (m < 18446744073709551616) := by show m < _; have := h1.out; omega
  have hm1 : IntKind.u64.wrap (m : Int) = m := by rw [IntWalk.u64_in _ (by have := hm.out; omega)]
  clear h1
  go_enter Try.func38, Try.ntmps38
  go_wp2_with fail
  go_fit (putWord_any m v n xs B w hm ho hB hn)
  rintro e w' ⟨v', rfl, ho', hp⟩
  go_wp2
  go_ret
  exact ⟨v', rfl, ho', hp⟩
set_option maxRecDepth 100000 in
theorem putNumL_any (x : Int) (v : Value) (n : Nat) (xs : List Value) (B : Nat) (w : World) (h0 : 0 ≤ x) (h1 : Hid (x < 9223372036854775808)) (ho : w.ownsRow B 5 1 v n xs) (hB : B ≤ w.heap.size) (hn : n ≤ 1000000) :
    Calls Try.prog 40 #[v, .int .i64 x] w (PutPost B w (n + 8) (xs ++ wbytes x.toNat)) := by
  obtain ⟨m, rfl⟩ := Int.eq_ofNat_of_zero_le h0
  have hm : Hid (m < 18446744073709551616) := by show m < _; have := h1.out; omega
  have hm1 : IntKind.u64.wrap (m : Int) = m := by rw [IntWalk.u64_in _ (by have := hm.out; omega)]
  clear h1
  go_enter Try.func40, Try.ntmps40
  go_wp2_with fail
  go_fit (putWord_any m v n xs B w hm ho hB hn)
  rintro e w' ⟨v', rfl, ho', hp⟩
  go_wp2
  go_ret
  exact ⟨v', rfl, ho', hp⟩

/-- The digit of a name's letter; the number of a name. -/
def digitN (c : Nat) : Nat := if 97 ≤ c ∧ c ≤ 122 then c - 96 else if 48 ≤ c ∧ c ≤ 57 then c - 21 else if c = 45 then 37 else 0
def numF (a : Nat) (c : UInt8) : Nat := a * 37 + digitN c.toNat
def numL (l : List UInt8) : Nat := l.foldl numF 0
theorem digitN_le (c : Nat) : digitN c ≤ 37 := by unfold digitN; split <;> (try split) <;> (try split) <;> omega
theorem numL_snoc (s : ByteArray) (k : Nat) (h : k < s.size) : numL (s.data.toList.take (k + 1)) = numL (s.data.toList.take k) * 37 + digitN s[k].toNat := by
  unfold numL
  rw [List.take_succ_eq_append_getElem (by simpa using h), List.foldl_append]
  rfl
theorem foldl_le (l : List UInt8) : ∀ a, l.foldl numF a + 2 ≤ (a + 2) * 37 ^ l.length := by
  induction l with
  | nil => intro a; simp
  | cons c r ih =>
    intro a
    have h1 := ih (numF a c)
    have h2 : numF a c + 2 ≤ (a + 2) * 37 := by unfold numF; have := digitN_le c.toNat; omega
    rw [List.foldl_cons, List.length_cons, Nat.pow_succ, Nat.mul_comm (37 ^ r.length) 37, ← Nat.mul_assoc]
    exact Nat.le_trans h1 (Nat.mul_le_mul_right _ h2)
theorem numL_le (l : List UInt8) (h : l.length ≤ 12) : numL l < 13165904011680070562 := by
  have h1 := foldl_le l 0
  have h2 : 37 ^ l.length ≤ 37 ^ 12 := Nat.pow_le_pow_right (by decide) h
  have h3 : (37 : Nat) ^ 12 = 6582952005840035281 := by decide
  unfold numL
  omega

set_option maxHeartbeats 400000 in
theorem digit_any (c : Nat) (w : World) (hc : nameByte c = true) :
    Calls Try.prog 87 #[.int .u8 c] w fun e w' => e = .returned (.int .u64 (digitN c : Int)) ∧ w' = w := by
  have HC := Lib.hid (of_decide_eq_true hc)
  clear hc
  go_enter Try.func87, Try.ntmps87
  go_wp2
  all_goals
    go_ret
    refine ⟨ret_int ?_, rfl⟩
    go_light
    have h := HC.out
    try simp only [beq_eq_false_iff_ne, beq_iff_eq, ne_eq] at *
    unfold digitN
    (repeat' split) <;> omega

set_option maxRecDepth 100000 in
set_option maxHeartbeats 1000000 in
theorem putName_any (s : ByteArray) (v : Value) (n : Nat) (xs : List Value) (B : Nat) (w : World) (hs : s.size ≤ 12) (ha : allName s.data.toList = true) (ho : w.ownsRow B 5 1 v n xs) (hB : B ≤ w.heap.size) (hn : n ≤ 1000000) :
    Calls Try.prog 39 #[v, .string s] w (PutPost B w (n + 8) (xs ++ wbytes (numL s.data.toList))) := by
  have hall : ∀ k, (h : k < s.size) → nameByte s[k].toNat = true := fun k h => by
    have := List.all_eq_true.1 ha s[k] (by simp [ByteArray.getElem_eq_getElem_data])
    simpa using this
  clear ha
  go_enter Try.func39, Try.ntmps39
  go_wp2
  go_loop [5, 9] (fun t i => ∃ k : Nat, k ≤ s.size ∧ i = .int .i64 k ∧ t = .int .u64 (numL (s.data.toList.take k) : Int)) (fun _ i => s.size - (intOf i).toNat)
  case atStart => exact ⟨0, Nat.zero_le _, rfl, rfl⟩
  case round =>
    obtain ⟨k, hk, rfl, rfl⟩ := hrel
    by_cases hlt : k < s.size
    · have hsn := Lib.hid (numL_snoc s k hlt)
      have hd := digitN_le s[k].toNat
      have hle := Lib.hid (numL_le (s.data.toList.take (k + 1)) (by simp; omega))
      have hc := hall k hlt
      generalize hm : numL (s.data.toList.take k) = m at hsn
      have H1 : Hid (m * 37 + digitN s[k].toNat < 13165904011680070562) := by show _ < _; rw [← hsn.out]; exact hle.out
      have hb0 : 0 ≤ (m : Int) * 37 ∧ (m : Int) * 37 ≤ 13165904011680070562 := by have := H1.out; omega
      have hb1 : 0 ≤ (m : Int) * 37 + (digitN s[k].toNat : Int) ∧ (m : Int) * 37 + (digitN s[k].toNat : Int) ≤ 13165904011680070562 := by have := H1.out; omega
      obtain ⟨b1, b2⟩ := hb0
      obtain ⟨b3, b4⟩ := hb1
      clear hle hall hm
      go_wp2_with (go_at_call 87; refine (digit_any _ _ hc).mono ?_; rintro e w' ⟨rfl, rfl⟩)
      go_round
      case rel => exact ⟨k + 1, by omega, by go_num, by rw [hsn.out]; go_num⟩
      case measure => simp [intOf]; omega
    · have hk2 : s.data.toList.take k = s.data.toList := List.take_of_length_le (by simp; omega)
      rw [hk2]
      have hle := numL_le s.data.toList (by simpa using hs)
      generalize hgm : numL s.data.toList = m at hle
      have HG := Lib.hid hgm
      clear hgm
      have hm : Hid (m < 18446744073709551616) := by show _ < _; omega
      clear hle hk2 hall
      go_wp2_with fail
      refine (putWord_any m v n xs B w hm ho hB hn).mono ?_
      rintro e w' ⟨v', rfl, ho', hp⟩
      go_wp2
      go_ret
      exact ⟨v', rfl, by rw [HG.out]; exact ho', hp⟩
end Go.Proofs.Ytnobgmdknalpdaa
