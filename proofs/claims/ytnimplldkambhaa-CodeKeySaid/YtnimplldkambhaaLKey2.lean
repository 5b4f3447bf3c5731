/-
  The law CodeKey's walk, the other kinds, and the whole. No conditions beyond what is written in each statement.
-/
import Derived.Test.YtnimplldkambhaaLKey
set_option linter.unusedSimpArgs false
set_option linter.unusedVariables false
namespace Go.Proofs.Ytnimplldkambhaa
open Go.RowKit

set_option maxRecDepth 100000 in
set_option maxHeartbeats 8000000 in
theorem codeKey_1n (kind : Int) (n r : ByteArray) (name raw : ByteArray) (w : World) (en : name.extract 0 15 = n) (er : raw.extract 0 20 = r) (hN : nameL n.data.toList = false) :
    Calls Try.prog 11 #[.int .i64 1, .string name, .string raw] w fun e w' => e = .returned (.bool true) ∧ Below w.heap.size w w' := by
  have hn : n.size ≤ 15 := by rw [← en]; exact cut_size name 15
  have hr : r.size ≤ 20 := by rw [← er]; exact cut_size raw 20
  have hnn : n.size ≤ maxLen := by unfold maxLen; omega
  have hk1 := trivial
  go_enter Try.func11, Try.ntmps11
  go_wp2_with fail
  refine (begun_any _).mono ?_
  rintro e w1 ⟨rfl, hbw1⟩
  go_wp2_with fail
  refine Calls.mono (text_v _ 15 _ (by decide) en) ?_
  rintro e w' ⟨rfl, rfl⟩
  go_wp2_with fail
  refine Calls.mono (text_v _ 20 _ (by decide) er) ?_
  rintro e w' ⟨rfl, rfl⟩
  clear en er
  go_wp2_with fail
  refine Calls.mono (refName_v _ _ hN hnn) ?_
  rintro e w' ⟨rfl, rfl⟩
  go_wp2_with fail
  refine Calls.mono (key_v 1 n _ (v := (⟨#[]⟩ : ByteArray)) (by unfold keyOf; rw [if_neg (by decide), if_neg (fun h => by rw [hN] at h; cases h.2), if_neg (fun h => by cases h.1)]) hnn) ?_
  rintro e w' ⟨rfl, rfl⟩
  clear hk1
  have hsz : ∀ a b, (r.extract a b).size ≤ maxLen := fun a b => by simp; unfold maxLen; omega
  clear hn
  rcases raw_is r with ⟨z, t1, hK2, hQ2⟩ | ⟨z, t1, t2, hN2, hK2, hQ2⟩ | ⟨z, t1, t2, hN2, hK2⟩ | ⟨z, t1, ⟨t2, t3⟩, hN2, hK2, hQ2⟩ | ⟨z, t1, ⟨t2, t3⟩, hN2, hK2⟩ | ⟨z, t1, t2, t3, hK2⟩ | ⟨z, t1, hK2⟩
  · go_wp2_with fail
    refine (kind_v _ _ hK2).mono ?_
    rintro e w' ⟨rfl, rfl⟩
    clear hK2
    have HQ := Lib.hid hQ2
    clear hQ2
    go_wp2_with fail
    refine (key_v _ _ _ (HQ.out _) (Nat.zero_le _)).mono ?_
    rintro e w' ⟨rfl, rfl⟩
    go_wp2
    go_ret
    exact ⟨rfl, hbw1⟩
  · go_wp2_with fail
    refine (refName_v _ _ hN2 (hsz _ _)).mono ?_
    rintro e w' ⟨rfl, rfl⟩
    go_wp2_with fail
    refine (kind_v _ _ hK2).mono ?_
    rintro e w' ⟨rfl, rfl⟩
    go_wp2_with fail
    refine (key_v _ _ _ hQ2 (hsz _ _)).mono ?_
    rintro e w' ⟨rfl, rfl⟩
    go_wp2
    go_ret
    exact ⟨rfl, hbw1⟩
  · go_wp2_with fail
    refine (refName_v _ _ hN2 (hsz _ _)).mono ?_
    rintro e w' ⟨rfl, rfl⟩
    go_wp2_with fail
    refine (kind_v _ _ hK2).mono ?_
    rintro e w' ⟨rfl, rfl⟩
    go_wp2
    go_ret
    exact ⟨rfl, hbw1⟩
  · go_wp2_with fail
    refine (refName_v _ _ hN2 (hsz _ _)).mono ?_
    rintro e w' ⟨rfl, rfl⟩
    go_wp2_with fail
    refine (kind_v _ _ hK2).mono ?_
    rintro e w' ⟨rfl, rfl⟩
    go_wp2_with fail
    refine (key_v _ _ _ hQ2 (hsz _ _)).mono ?_
    rintro e w' ⟨rfl, rfl⟩
    go_wp2
    go_ret
    exact ⟨rfl, hbw1⟩
  · go_wp2_with fail
    refine (refName_v _ _ hN2 (hsz _ _)).mono ?_
    rintro e w' ⟨rfl, rfl⟩
    go_wp2_with fail
    refine (kind_v _ _ hK2).mono ?_
    rintro e w' ⟨rfl, rfl⟩
    go_wp2
    go_ret
    exact ⟨rfl, hbw1⟩
  · go_wp2_with fail
    refine (kind_v _ _ hK2).mono ?_
    rintro e w' ⟨rfl, rfl⟩
    go_wp2
    go_ret
    exact ⟨rfl, hbw1⟩
  · go_wp2_with fail
    refine (kind_v _ _ hK2).mono ?_
    rintro e w' ⟨rfl, rfl⟩
    go_wp2
    go_ret
    exact ⟨rfl, hbw1⟩
set_option maxRecDepth 100000 in
set_option maxHeartbeats 8000000 in
theorem codeKey_2n (kind : Int) (n r : ByteArray) (name raw : ByteArray) (w : World) (en : name.extract 0 15 = n) (er : raw.extract 0 20 = r) (hN : nameL n.data.toList = false) :
    Calls Try.prog 11 #[.int .i64 2, .string name, .string raw] w fun e w' => e = .returned (.bool true) ∧ Below w.heap.size w w' := by
  have hn : n.size ≤ 15 := by rw [← en]; exact cut_size name 15
  have hr : r.size ≤ 20 := by rw [← er]; exact cut_size raw 20
  have hnn : n.size ≤ maxLen := by unfold maxLen; omega
  have hk1 := trivial
  go_enter Try.func11, Try.ntmps11
  go_wp2_with fail
  refine (begun_any _).mono ?_
  rintro e w1 ⟨rfl, hbw1⟩
  go_wp2_with fail
  refine Calls.mono (text_v _ 15 _ (by decide) en) ?_
  rintro e w' ⟨rfl, rfl⟩
  go_wp2_with fail
  refine Calls.mono (text_v _ 20 _ (by decide) er) ?_
  rintro e w' ⟨rfl, rfl⟩
  clear en er
  go_wp2_with fail
  refine Calls.mono (refName_v _ _ hN hnn) ?_
  rintro e w' ⟨rfl, rfl⟩
  go_wp2_with fail
  refine Calls.mono (key_v 2 n _ (v := (⟨#[]⟩ : ByteArray)) (by unfold keyOf; rw [if_neg (by decide), if_neg (fun h => by cases h.1), if_neg (fun h => by rw [hN] at h; cases h.2)]) hnn) ?_
  rintro e w' ⟨rfl, rfl⟩
  clear hk1
  have hsz : ∀ a b, (r.extract a b).size ≤ maxLen := fun a b => by simp; unfold maxLen; omega
  clear hn
  rcases raw_is r with ⟨z, t1, hK2, hQ2⟩ | ⟨z, t1, t2, hN2, hK2, hQ2⟩ | ⟨z, t1, t2, hN2, hK2⟩ | ⟨z, t1, ⟨t2, t3⟩, hN2, hK2, hQ2⟩ | ⟨z, t1, ⟨t2, t3⟩, hN2, hK2⟩ | ⟨z, t1, t2, t3, hK2⟩ | ⟨z, t1, hK2⟩
  · go_wp2_with fail
    refine (kind_v _ _ hK2).mono ?_
    rintro e w' ⟨rfl, rfl⟩
    clear hK2
    have HQ := Lib.hid hQ2
    clear hQ2
    go_wp2_with fail
    refine (key_v _ _ _ (HQ.out _) (Nat.zero_le _)).mono ?_
    rintro e w' ⟨rfl, rfl⟩
    go_wp2
    go_ret
    exact ⟨rfl, hbw1⟩
  · go_wp2_with fail
    refine (refName_v _ _ hN2 (hsz _ _)).mono ?_
    rintro e w' ⟨rfl, rfl⟩
    go_wp2_with fail
    refine (kind_v _ _ hK2).mono ?_
    rintro e w' ⟨rfl, rfl⟩
    go_wp2_with fail
    refine (key_v _ _ _ hQ2 (hsz _ _)).mono ?_
    rintro e w' ⟨rfl, rfl⟩
    go_wp2
    go_ret
    exact ⟨rfl, hbw1⟩
  · go_wp2_with fail
    refine (refName_v _ _ hN2 (hsz _ _)).mono ?_
    rintro e w' ⟨rfl, rfl⟩
    go_wp2_with fail
    refine (kind_v _ _ hK2).mono ?_
    rintro e w' ⟨rfl, rfl⟩
    go_wp2
    go_ret
    exact ⟨rfl, hbw1⟩
  · go_wp2_with fail
    refine (refName_v _ _ hN2 (hsz _ _)).mono ?_
    rintro e w' ⟨rfl, rfl⟩
    go_wp2_with fail
    refine (kind_v _ _ hK2).mono ?_
    rintro e w' ⟨rfl, rfl⟩
    go_wp2_with fail
    refine (key_v _ _ _ hQ2 (hsz _ _)).mono ?_
    rintro e w' ⟨rfl, rfl⟩
    go_wp2
    go_ret
    exact ⟨rfl, hbw1⟩
  · go_wp2_with fail
    refine (refName_v _ _ hN2 (hsz _ _)).mono ?_
    rintro e w' ⟨rfl, rfl⟩
    go_wp2_with fail
    refine (kind_v _ _ hK2).mono ?_
    rintro e w' ⟨rfl, rfl⟩
    go_wp2
    go_ret
    exact ⟨rfl, hbw1⟩
  · go_wp2_with fail
    refine (kind_v _ _ hK2).mono ?_
    rintro e w' ⟨rfl, rfl⟩
    go_wp2
    go_ret
    exact ⟨rfl, hbw1⟩
  · go_wp2_with fail
    refine (kind_v _ _ hK2).mono ?_
    rintro e w' ⟨rfl, rfl⟩
    go_wp2
    go_ret
    exact ⟨rfl, hbw1⟩
set_option maxRecDepth 100000 in
set_option maxHeartbeats 8000000 in
theorem codeKey_2y (kind : Int) (n r : ByteArray) (name raw : ByteArray) (w : World) (en : name.extract 0 15 = n) (er : raw.extract 0 20 = r) (hN : nameL n.data.toList = true) :
    Calls Try.prog 11 #[.int .i64 2, .string name, .string raw] w fun e w' => e = .returned (.bool true) ∧ Below w.heap.size w w' := by
  have hn : n.size ≤ 15 := by rw [← en]; exact cut_size name 15
  have hr : r.size ≤ 20 := by rw [← er]; exact cut_size raw 20
  have hnn : n.size ≤ maxLen := by unfold maxLen; omega
  have hk1 : (¬ ((⟨#[110, 47]⟩ : ByteArray) ++ n).toList = []) := app_ne nS n rfl
  go_enter Try.func11, Try.ntmps11
  go_wp2_with fail
  refine (begun_any _).mono ?_
  rintro e w1 ⟨rfl, hbw1⟩
  go_wp2_with fail
  refine Calls.mono (text_v _ 15 _ (by decide) en) ?_
  rintro e w' ⟨rfl, rfl⟩
  go_wp2_with fail
  refine Calls.mono (text_v _ 20 _ (by decide) er) ?_
  rintro e w' ⟨rfl, rfl⟩
  clear en er
  go_wp2_with fail
  refine Calls.mono (refName_v _ _ hN hnn) ?_
  rintro e w' ⟨rfl, rfl⟩
  go_wp2_with fail
  refine Calls.mono (key_v 2 n _ (v := (⟨#[110, 47]⟩ : ByteArray) ++ n) (by unfold keyOf; rw [if_neg (by decide), if_neg (fun h => by cases h.1), if_pos ⟨rfl, hN⟩]; rfl) hnn) ?_
  rintro e w' ⟨rfl, rfl⟩
  go_wp2_with fail
  refine Calls.mono (kind_v _ _ (v := 2) (kind_n hN)) ?_
  rintro e w' ⟨rfl, rfl⟩
  have hsz : ∀ a b, (r.extract a b).size ≤ maxLen := fun a b => by simp; unfold maxLen; omega
  clear hn
  rcases raw_is r with ⟨z, t1, hK2, hQ2⟩ | ⟨z, t1, t2, hN2, hK2, hQ2⟩ | ⟨z, t1, t2, hN2, hK2⟩ | ⟨z, t1, ⟨t2, t3⟩, hN2, hK2, hQ2⟩ | ⟨z, t1, ⟨t2, t3⟩, hN2, hK2⟩ | ⟨z, t1, t2, t3, hK2⟩ | ⟨z, t1, hK2⟩
  · go_wp2_with fail
    refine (kind_v _ _ hK2).mono ?_
    rintro e w' ⟨rfl, rfl⟩
    clear hK2
    have HQ := Lib.hid hQ2
    clear hQ2
    go_wp2_with fail
    refine (key_v _ _ _ (HQ.out _) (Nat.zero_le _)).mono ?_
    rintro e w' ⟨rfl, rfl⟩
    go_wp2
    go_ret
    exact ⟨rfl, hbw1⟩
  · go_wp2_with fail
    refine (refName_v _ _ hN2 (hsz _ _)).mono ?_
    rintro e w' ⟨rfl, rfl⟩
    go_wp2_with fail
    refine (kind_v _ _ hK2).mono ?_
    rintro e w' ⟨rfl, rfl⟩
    go_wp2_with fail
    refine (key_v _ _ _ hQ2 (hsz _ _)).mono ?_
    rintro e w' ⟨rfl, rfl⟩
    go_wp2
    go_ret
    exact ⟨rfl, hbw1⟩
  · go_wp2_with fail
    refine (refName_v _ _ hN2 (hsz _ _)).mono ?_
    rintro e w' ⟨rfl, rfl⟩
    go_wp2_with fail
    refine (kind_v _ _ hK2).mono ?_
    rintro e w' ⟨rfl, rfl⟩
    go_wp2
    go_ret
    exact ⟨rfl, hbw1⟩
  · go_wp2_with fail
    refine (refName_v _ _ hN2 (hsz _ _)).mono ?_
    rintro e w' ⟨rfl, rfl⟩
    go_wp2_with fail
    refine (kind_v _ _ hK2).mono ?_
    rintro e w' ⟨rfl, rfl⟩
    go_wp2_with fail
    refine (key_v _ _ _ hQ2 (hsz _ _)).mono ?_
    rintro e w' ⟨rfl, rfl⟩
    go_wp2
    go_ret
    exact ⟨rfl, hbw1⟩
  · go_wp2_with fail
    refine (refName_v _ _ hN2 (hsz _ _)).mono ?_
    rintro e w' ⟨rfl, rfl⟩
    go_wp2_with fail
    refine (kind_v _ _ hK2).mono ?_
    rintro e w' ⟨rfl, rfl⟩
    go_wp2
    go_ret
    exact ⟨rfl, hbw1⟩
  · go_wp2_with fail
    refine (kind_v _ _ hK2).mono ?_
    rintro e w' ⟨rfl, rfl⟩
    go_wp2
    go_ret
    exact ⟨rfl, hbw1⟩
  · go_wp2_with fail
    refine (kind_v _ _ hK2).mono ?_
    rintro e w' ⟨rfl, rfl⟩
    go_wp2
    go_ret
    exact ⟨rfl, hbw1⟩
set_option maxRecDepth 100000 in
set_option maxHeartbeats 8000000 in
theorem codeKey_o (kind : Int) (n r : ByteArray) (name raw : ByteArray) (w : World) (en : name.extract 0 15 = n) (er : raw.extract 0 20 = r) (hN : kind ≠ 1 ∧ kind ≠ 2 ∧ kind ≠ 3) :
    Calls Try.prog 11 #[.int .i64 kind, .string name, .string raw] w fun e w' => e = .returned (.bool true) ∧ Below w.heap.size w w' := by
  have hn : n.size ≤ 15 := by rw [← en]; exact cut_size name 15
  have hr : r.size ≤ 20 := by rw [← er]; exact cut_size raw 20
  have hnn : n.size ≤ maxLen := by unfold maxLen; omega
  obtain ⟨k1, k2, k3⟩ := hN
  go_enter Try.func11, Try.ntmps11
  go_wp2_with fail
  refine (begun_any _).mono ?_
  rintro e w1 ⟨rfl, hbw1⟩
  go_wp2_with fail
  refine Calls.mono (text_v _ 15 _ (by decide) en) ?_
  rintro e w' ⟨rfl, rfl⟩
  go_wp2_with fail
  refine Calls.mono (text_v _ 20 _ (by decide) er) ?_
  rintro e w' ⟨rfl, rfl⟩
  clear en er
  go_wp2_with fail
  refine Calls.mono (key_v kind n _ (v := (⟨#[]⟩ : ByteArray)) (by unfold keyOf; rw [if_neg k3, if_neg (fun h => k1 h.1), if_neg (fun h => k2 h.1)]) hnn) ?_
  rintro e w' ⟨rfl, rfl⟩
  have hsz : ∀ a b, (r.extract a b).size ≤ maxLen := fun a b => by simp; unfold maxLen; omega
  clear hn
  rcases raw_is r with ⟨z, t1, hK2, hQ2⟩ | ⟨z, t1, t2, hN2, hK2, hQ2⟩ | ⟨z, t1, t2, hN2, hK2⟩ | ⟨z, t1, ⟨t2, t3⟩, hN2, hK2, hQ2⟩ | ⟨z, t1, ⟨t2, t3⟩, hN2, hK2⟩ | ⟨z, t1, t2, t3, hK2⟩ | ⟨z, t1, hK2⟩
  · go_wp2_with fail
    refine (kind_v _ _ hK2).mono ?_
    rintro e w' ⟨rfl, rfl⟩
    clear hK2
    have HQ := Lib.hid hQ2
    clear hQ2
    go_wp2_with fail
    refine (key_v _ _ _ (HQ.out _) (Nat.zero_le _)).mono ?_
    rintro e w' ⟨rfl, rfl⟩
    go_wp2
    go_ret
    exact ⟨rfl, hbw1⟩
  · go_wp2_with fail
    refine (refName_v _ _ hN2 (hsz _ _)).mono ?_
    rintro e w' ⟨rfl, rfl⟩
    go_wp2_with fail
    refine (kind_v _ _ hK2).mono ?_
    rintro e w' ⟨rfl, rfl⟩
    go_wp2_with fail
    refine (key_v _ _ _ hQ2 (hsz _ _)).mono ?_
    rintro e w' ⟨rfl, rfl⟩
    go_wp2
    go_ret
    exact ⟨rfl, hbw1⟩
  · go_wp2_with fail
    refine (refName_v _ _ hN2 (hsz _ _)).mono ?_
    rintro e w' ⟨rfl, rfl⟩
    go_wp2_with fail
    refine (kind_v _ _ hK2).mono ?_
    rintro e w' ⟨rfl, rfl⟩
    go_wp2
    go_ret
    exact ⟨rfl, hbw1⟩
  · go_wp2_with fail
    refine (refName_v _ _ hN2 (hsz _ _)).mono ?_
    rintro e w' ⟨rfl, rfl⟩
    go_wp2_with fail
    refine (kind_v _ _ hK2).mono ?_
    rintro e w' ⟨rfl, rfl⟩
    go_wp2_with fail
    refine (key_v _ _ _ hQ2 (hsz _ _)).mono ?_
    rintro e w' ⟨rfl, rfl⟩
    go_wp2
    go_ret
    exact ⟨rfl, hbw1⟩
  · go_wp2_with fail
    refine (refName_v _ _ hN2 (hsz _ _)).mono ?_
    rintro e w' ⟨rfl, rfl⟩
    go_wp2_with fail
    refine (kind_v _ _ hK2).mono ?_
    rintro e w' ⟨rfl, rfl⟩
    go_wp2
    go_ret
    exact ⟨rfl, hbw1⟩
  · go_wp2_with fail
    refine (kind_v _ _ hK2).mono ?_
    rintro e w' ⟨rfl, rfl⟩
    go_wp2
    go_ret
    exact ⟨rfl, hbw1⟩
  · go_wp2_with fail
    refine (kind_v _ _ hK2).mono ?_
    rintro e w' ⟨rfl, rfl⟩
    go_wp2
    go_ret
    exact ⟨rfl, hbw1⟩

theorem codeKey_walk (kind : Int) (name raw : ByteArray) (w : World) :
    Calls Try.prog 11 #[.int .i64 kind, .string name, .string raw] w fun e w' => e = .returned (.bool true) ∧ Below w.heap.size w w' := by
  by_cases k3 : kind = 3
  · subst k3; exact codeKey_3 0 _ _ name raw w rfl rfl trivial
  by_cases k1 : kind = 1
  · subst k1
    cases h : nameL (name.extract 0 15).data.toList
    · exact codeKey_1n 0 _ _ name raw w rfl rfl h
    · exact codeKey_1y 0 _ _ name raw w rfl rfl h
  by_cases k2 : kind = 2
  · subst k2
    cases h : nameL (name.extract 0 15).data.toList
    · exact codeKey_2n 0 _ _ name raw w rfl rfl h
    · exact codeKey_2y 0 _ _ name raw w rfl rfl h
  · exact codeKey_o kind _ _ name raw w rfl rfl ⟨k1, k2, k3⟩
end Go.Proofs.Ytnimplldkambhaa
