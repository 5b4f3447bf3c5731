/-
  The contracts of package code: how numbers and flags are read. No conditions beyond what is written in each statement.
-/
import Derived.Test.YtnobgmdknalpdaaGet1
set_option linter.unusedSimpArgs false
set_option linter.unusedVariables false
namespace Go.Proofs.Ytnobgmdknalpdaa
open Go.RowKit

/-- What a reader knows: the bytes that are still to be read; whether something was bad. -/
abbrev RS := List Int × Bool
def gWord (st : RS) : Int × RS := if st.1.length < 8 then (0, st.1, true) else (wordOf (st.1.take 8), st.1.drop 8, st.2)

theorem getWord_any (R : Nat) (st : RS) (w0 w : World) (hr : Rd w0 w R st.1 st.2) :
    Calls Try.prog 91 #[.pointer (some ⟨R, 0, none⟩)] w fun e w' => e = .returned (.int .u64 (gWord st).1) ∧ Rd w0 w' R (gWord st).2.1 (gWord st).2.2 ∧ w.grownBy w' (some R) := by
  unfold gWord
  by_cases h : st.1.length < 8
  · rw [if_pos h]; exact getWord_no R st.1 st.2 w0 w hr h
  · rw [if_neg h]; exact getWord_yes R st.1 st.2 w0 w hr (by omega)

def Bytes (l : List Int) : Prop := ∀ x ∈ l, 0 ≤ x ∧ x ≤ 255
theorem Rd.bytes {w0 w : World} {R : Nat} {l : List Int} {bad : Bool} (h : Rd w0 w R l bad) : Bytes l := fun x hx => by
  obtain ⟨_, _, a, cap, _, _, _, hat⟩ := h
  obtain ⟨k, hk, rfl⟩ := List.getElem_of_mem hx
  obtain ⟨_, _, _, _, _, h1, h2⟩ := hat k hk
  simp only [List.getD_eq_getElem?_getD, List.getElem?_eq_getElem hk, Option.getD_some] at h1 h2
  exact ⟨h1, h2⟩
theorem foldl_word_le (l : List Int) (h : Bytes l) : ∀ x, 0 ≤ x → 0 ≤ l.foldl wordF x ∧ l.foldl wordF x + 1 ≤ (x + 1) * 256 ^ l.length := by
  induction l with
  | nil => intro x hx; simp [hx]
  | cons c r ih =>
    intro x hx
    have hc := h c (by simp)
    obtain ⟨h1, h2⟩ := ih (fun y hy => h y (by simp [hy])) (wordF x c) (by unfold wordF; omega)
    rw [List.foldl_cons, List.length_cons, Int.pow_succ]
    refine ⟨h1, Int.le_trans h2 ?_⟩
    have h3 : wordF x c + 1 ≤ (x + 1) * 256 := by unfold wordF; omega
    have h4 : (0 : Int) ≤ 256 ^ r.length := Int.pow_nonneg (by decide)
    calc (wordF x c + 1) * 256 ^ r.length ≤ ((x + 1) * 256) * 256 ^ r.length := Int.mul_le_mul_of_nonneg_right h3 h4
      _ = (x + 1) * (256 ^ r.length * 256) := by rw [Int.mul_assoc, Int.mul_comm 256]
theorem wordOf_le (l : List Int) (h : Bytes l) (hl : l.length ≤ 8) : 0 ≤ wordOf l ∧ wordOf l < 18446744073709551616 := by
  obtain ⟨h1, h2⟩ := foldl_word_le l h 0 (Int.le_refl _)
  refine ⟨h1, ?_⟩
  have h3 : (256 : Int) ^ l.length ≤ 18446744073709551616 := by
    have : l.length = 0 ∨ l.length = 1 ∨ l.length = 2 ∨ l.length = 3 ∨ l.length = 4 ∨ l.length = 5 ∨ l.length = 6 ∨ l.length = 7 ∨ l.length = 8 := by omega
    rcases this with e | e | e | e | e | e | e | e | e <;> rw [e] <;> decide
  unfold wordOf
  omega
theorem gWord_le {st : RS} (h : Bytes st.1) : 0 ≤ (gWord st).1 ∧ (gWord st).1 < 18446744073709551616 := by
  unfold gWord
  split
  · simp
  · exact wordOf_le _ (fun x hx => h x (List.mem_of_mem_take hx)) (by simp; omega)
theorem gWord_bytes {st : RS} (h : Bytes st.1) : Bytes (gWord st).2.1 := by
  unfold gWord
  split
  · exact h
  · exact fun x hx => h x (List.mem_of_mem_drop hx)

/-- A number: a word from 2^63 on is one below 0. -/
def toI (x : Int) : Int := if x < 9223372036854775808 then x else x - 18446744073709551616
def gNum (st : RS) : Int × RS := (toI (gWord st).1, (gWord st).2)
theorem gNum_val {w0 w : World} {R : Nat} {st : RS} (h : Rd w0 w R st.1 st.2) : wrap64 (gWord st).1 = (gNum st).1 := by
  have h1 := gWord_le h.bytes
  unfold gNum toI
  simp only
  rw [wrap64]
  split <;> omega

set_option maxRecDepth 100000 in
theorem getNumI_any (R : Nat) (st : RS) (w0 w : World) (hr : Rd w0 w R st.1 st.2) :
    Calls Try.prog 55 #[.pointer (some ⟨R, 0, none⟩)] w fun e w' => e = .returned (.int .i64 (gNum st).1) ∧ Rd w0 w' R (gNum st).2.1 (gNum st).2.2 ∧ w.grownBy w' (some R) := by
  have HG := Lib.hid (gNum_val hr)
  go_enter Try.func55, Try.ntmps55
  go_wp2_with fail
  refine (getWord_any R st w0 w hr).mono ?_
  rintro e w' ⟨rfl, hr', hg⟩
  go_wp2
  go_ret
  exact ⟨ret_int HG.out, hr', hg⟩
set_option maxRecDepth 100000 in
theorem getNumL_any (R : Nat) (st : RS) (w0 w : World) (hr : Rd w0 w R st.1 st.2) :
    Calls Try.prog 54 #[.pointer (some ⟨R, 0, none⟩)] w fun e w' => e = .returned (.int .i64 (gNum st).1) ∧ Rd w0 w' R (gNum st).2.1 (gNum st).2.2 ∧ w.grownBy w' (some R) := by
  have HG := Lib.hid (gNum_val hr)
  go_enter Try.func54, Try.ntmps54
  go_wp2_with fail
  refine (getWord_any R st w0 w hr).mono ?_
  rintro e w' ⟨rfl, hr', hg⟩
  go_wp2
  go_ret
  exact ⟨ret_int HG.out, hr', hg⟩

def gFlag (st : RS) : Bool × RS := if (gWord st).1 = 0 then (false, (gWord st).2) else if (gWord st).1 = 1 then (true, (gWord st).2) else (false, ((gWord st).2.1, true))

theorem Rd.setBad {w0 w : World} {R : Nat} {l : List Int} {bad : Bool} (h : Rd w0 w R l bad) : Rd w0 (w.setCell ⟨R, 1, none⟩ (.bool true)) R l true := by
  obtain ⟨ho, hb, a, cap, hobj, hc1, hc2, hat⟩ := h
  exact ⟨ho, hb.trans ((Below.refl _ _).setCell (by simpa using ho) _), a, cap, obj_set1 hobj, hc1, hc2, hat⟩
theorem Rd.cells {w0 w : World} {R : Nat} {l : List Int} {bad : Bool} (h : Rd w0 w R l bad) : (∃ a cap, w.cell? ⟨R, 0, none⟩ = some (.slice a l.length cap)) ∧ w.cell? ⟨R, 1, none⟩ = some (.bool bad) ∧ w.frozen? ⟨R, 0, none⟩ = false ∧ w.frozen? ⟨R, 1, none⟩ = false := by
  obtain ⟨ho, hb, a, cap, hobj, hc1, hc2, hat⟩ := h
  have c0 := cell_of_obj hobj 0
  have c1 := cell_of_obj hobj 1
  simp at c0 c1
  exact ⟨⟨a, cap, c0⟩, c1, free_of_obj hobj 0, free_of_obj hobj 1⟩

set_option maxRecDepth 100000 in
theorem getFlag_any (R : Nat) (st : RS) (w0 w : World) (hr : Rd w0 w R st.1 st.2) :
    Calls Try.prog 93 #[.pointer (some ⟨R, 0, none⟩)] w fun e w' => e = .returned (.bool (gFlag st).1) ∧ Rd w0 w' R (gFlag st).2.1 (gFlag st).2.2 ∧ w.grownBy w' (some R) := by
  go_enter Try.func93, Try.ntmps93
  go_wp2_with fail
  refine (getWord_any R st w0 w hr).mono ?_
  rintro e w1 ⟨rfl, hr1, hg⟩
  obtain ⟨_, c1, _, f1⟩ := hr1.cells
  go_wp2
  · go_ret
    have h : (gWord st).1 = 0 := by simpa using ‹((gWord st).1 == 0) = true›
    unfold gFlag
    rw [if_pos h]
    exact ⟨rfl, hr1, hg⟩
  · go_ret
    have h : ¬ (gWord st).1 = 0 := by simpa using ‹((gWord st).1 == 0) = false›
    have h1 : (gWord st).1 = 1 := by simpa using ‹((gWord st).1 == 1) = true›
    unfold gFlag
    rw [if_neg h, if_pos h1]
    exact ⟨rfl, hr1, hg⟩
  · go_ret
    have h : ¬ (gWord st).1 = 0 := by simpa using ‹((gWord st).1 == 0) = false›
    have h1 : ¬ (gWord st).1 = 1 := by simpa using ‹((gWord st).1 == 1) = false›
    unfold gFlag
    rw [if_neg h, if_neg h1]
    exact ⟨rfl, hr1.setBad, grown_trans hg (grown_set _ _ _ _)⟩
end Go.Proofs.Ytnobgmdknalpdaa
