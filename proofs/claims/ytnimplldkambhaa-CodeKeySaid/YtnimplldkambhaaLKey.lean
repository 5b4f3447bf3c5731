/-
  The law CodeKey's walk. No conditions beyond what is written in each statement.
-/
import Derived.Test.YtnimplldkambhaaLKey0
set_option linter.unusedSimpArgs false
set_option linter.unusedVariables false
namespace Go.Proofs.Ytnimplldkambhaa
open Go.RowKit

set_option maxRecDepth 100000 in
set_option maxHeartbeats 8000000 in
theorem codeKey_3 (kind : Int) (n r : ByteArray) (name raw : ByteArray) (w : World) (en : name.extract 0 15 = n) (er : raw.extract 0 20 = r) (hk : True) :
    Calls Try.prog 11 #[.int .i64 3, .string name, .string raw] w fun e w' => e = .returned (.bool true) ∧ Below w.heap.size w w' := by
  have hn : n.size ≤ 15 := by rw [← en]; exact cut_size name 15
  have hr : r.size ≤ 20 := by rw [← er]; exact cut_size raw 20
  have hnn : n.size ≤ maxLen := by unfold maxLen; omega
  have hk1 := lS_list
  go_enter Try.func11, Try.ntmps11
  go_wp2_with fail
  refine (begun_any _).mono ?_
  rintro e w1 ⟨rfl, hbw1⟩
  go_wp2_with fail
  refine Calls.mono (text_v _ 15 _ (by decide) en) ?_
  rintro e w' ⟨rfl, rfl⟩
  go_wp2_with fail
  refine Calls.mono (text_v _ 20 _ (by decide) er) ?_
  rintro e w' ⟨rfl, rfl⟩
  clear en er
  go_wp2_with fail
  refine Calls.mono (key_v 3 n _ (v := lS) (by simp [keyOf]) hnn) ?_
  rintro e w' ⟨rfl, rfl⟩
  go_wp2_with fail
  refine Calls.mono (kind_v _ _ (v := 3) kind_l) ?_
  rintro e w' ⟨rfl, rfl⟩
  clear hk1
  have hsz : ∀ a b, (r.extract a b).size ≤ maxLen := fun a b => by simp; unfold maxLen; omega
  clear hn
  rcases raw_is r with ⟨z, t1, hK2, hQ2⟩ | ⟨z, t1, t2, hN2, hK2, hQ2⟩ | ⟨z, t1, t2, hN2, hK2⟩ | ⟨z, t1, ⟨t2, t3⟩, hN2, hK2, hQ2⟩ | ⟨z, t1, ⟨t2, t3⟩, hN2, hK2⟩ | ⟨z, t1, t2, t3, hK2⟩ | ⟨z, t1, hK2⟩
  · go_wp2_with fail
    refine (kind_v _ _ hK2).mono ?_
    rintro e w' ⟨rfl, rfl⟩
    clear hK2
    have HQ := Lib.hid hQ2
    clear hQ2
    go_wp2_with fail
    refine (key_v _ _ _ (HQ.out _) (Nat.zero_le _)).mono ?_
    rintro e w' ⟨rfl, rfl⟩
    go_wp2
    go_ret
    exact ⟨rfl, hbw1⟩
  · go_wp2_with fail
    refine (refName_v _ _ hN2 (hsz _ _)).mono ?_
    rintro e w' ⟨rfl, rfl⟩
    go_wp2_with fail
    refine (kind_v _ _ hK2).mono ?_
    rintro e w' ⟨rfl, rfl⟩
    go_wp2_with fail
    refine (key_v _ _ _ hQ2 (hsz _ _)).mono ?_
    rintro e w' ⟨rfl, rfl⟩
    go_wp2
    go_ret
    exact ⟨rfl, hbw1⟩
  · go_wp2_with fail
    refine (refName_v _ _ hN2 (hsz _ _)).mono ?_
    rintro e w' ⟨rfl, rfl⟩
    go_wp2_with fail
    refine (kind_v _ _ hK2).mono ?_
    rintro e w' ⟨rfl, rfl⟩
    go_wp2
    go_ret
    exact ⟨rfl, hbw1⟩
  · go_wp2_with fail
    refine (refName_v _ _ hN2 (hsz _ _)).mono ?_
    rintro e w' ⟨rfl, rfl⟩
    go_wp2_with fail
    refine (kind_v _ _ hK2).mono ?_
    rintro e w' ⟨rfl, rfl⟩
    go_wp2_with fail
    refine (key_v _ _ _ hQ2 (hsz _ _)).mono ?_
    rintro e w' ⟨rfl, rfl⟩
    go_wp2
    go_ret
    exact ⟨rfl, hbw1⟩
  · go_wp2_with fail
    refine (refName_v _ _ hN2 (hsz _ _)).mono ?_
    rintro e w' ⟨rfl, rfl⟩
    go_wp2_with fail
    refine (kind_v _ _ hK2).mono ?_
    rintro e w' ⟨rfl, rfl⟩
    go_wp2
    go_ret
    exact ⟨rfl, hbw1⟩
  · go_wp2_with fail
    refine (kind_v _ _ hK2).mono ?_
    rintro e w' ⟨rfl, rfl⟩
    go_wp2
    go_ret
    exact ⟨rfl, hbw1⟩
  · go_wp2_with fail
    refine (kind_v _ _ hK2).mono ?_
    rintro e w' ⟨rfl, rfl⟩
    go_wp2
    go_ret
    exact ⟨rfl, hbw1⟩
set_option maxRecDepth 100000 in
set_option maxHeartbeats 8000000 in
theorem codeKey_1y (kind : Int) (n r : ByteArray) (name raw : ByteArray) (w : World) (en : name.extract 0 15 = n) (er : raw.extract 0 20 = r) (hN : nameL n.data.toList = true) :
    Calls Try.prog 11 #[.int .i64 1, .string name, .string raw] w fun e w' => e = .returned (.bool true) ∧ Below w.heap.size w w' := by
  have hn : n.size ≤ 15 := by rw [← en]; exact cut_size name 15
  have hr : r.size ≤ 20 := by rw [← er]; exact cut_size raw 20
  have hnn : n.size ≤ maxLen := by unfold maxLen; omega
  have hk1 : (¬ ((⟨#[112, 47]⟩ : ByteArray) ++ n).toList = []) := app_ne pS n rfl
  go_enter Try.func11, Try.ntmps11
  go_wp2_with fail
  refine (begun_any _).mono ?_
  rintro e w1 ⟨rfl, hbw1⟩
  go_wp2_with fail
  refine Calls.mono (text_v _ 15 _ (by decide) en) ?_
  rintro e w' ⟨rfl, rfl⟩
  go_wp2_with fail
  refine Calls.mono (text_v _ 20 _ (by decide) er) ?_
  rintro e w' ⟨rfl, rfl⟩
  clear en er
  go_wp2_with fail
  refine Calls.mono (refName_v _ _ hN hnn) ?_
  rintro e w' ⟨rfl, rfl⟩
  go_wp2_with fail
  refine Calls.mono (key_v 1 n _ (v := (⟨#[112, 47]⟩ : ByteArray) ++ n) (by unfold keyOf; rw [if_neg (by decide), if_pos ⟨rfl, hN⟩]; rfl) hnn) ?_
  rintro e w' ⟨rfl, rfl⟩
  go_wp2_with fail
  refine Calls.mono (kind_v _ _ (v := 1) (kind_p hN)) ?_
  rintro e w' ⟨rfl, rfl⟩
  have hsz : ∀ a b, (r.extract a b).size ≤ maxLen := fun a b => by simp; unfold maxLen; omega
  clear hn
  rcases raw_is r with ⟨z, t1, hK2, hQ2⟩ | ⟨z, t1, t2, hN2, hK2, hQ2⟩ | ⟨z, t1, t2, hN2, hK2⟩ | ⟨z, t1, ⟨t2, t3⟩, hN2, hK2, hQ2⟩ | ⟨z, t1, ⟨t2, t3⟩, hN2, hK2⟩ | ⟨z, t1, t2, t3, hK2⟩ | ⟨z, t1, hK2⟩
  · go_wp2_with fail
    refine (kind_v _ _ hK2).mono ?_
    rintro e w' ⟨rfl, rfl⟩
    clear hK2
    have HQ := Lib.hid hQ2
    clear hQ2
    go_wp2_with fail
    refine (key_v _ _ _ (HQ.out _) (Nat.zero_le _)).mono ?_
    rintro e w' ⟨rfl, rfl⟩
    go_wp2
    go_ret
    exact ⟨rfl, hbw1⟩
  · go_wp2_with fail
    refine (refName_v _ _ hN2 (hsz _ _)).mono ?_
    rintro e w' ⟨rfl, rfl⟩
    go_wp2_with fail
    refine (kind_v _ _ hK2).mono ?_
    rintro e w' ⟨rfl, rfl⟩
    go_wp2_with fail
    refine (key_v _ _ _ hQ2 (hsz _ _)).mono ?_
    rintro e w' ⟨rfl, rfl⟩
    go_wp2
    go_ret
    exact ⟨rfl, hbw1⟩
  · go_wp2_with fail
    refine (refName_v _ _ hN2 (hsz _ _)).mono ?_
    rintro e w' ⟨rfl, rfl⟩
    go_wp2_with fail
    refine (kind_v _ _ hK2).mono ?_
    rintro e w' ⟨rfl, rfl⟩
    go_wp2
    go_ret
    exact ⟨rfl, hbw1⟩
  · go_wp2_with fail
    refine (refName_v _ _ hN2 (hsz _ _)).mono ?_
    rintro e w' ⟨rfl, rfl⟩
    go_wp2_with fail
    refine (kind_v _ _ hK2).mono ?_
    rintro e w' ⟨rfl, rfl⟩
    go_wp2_with fail
    refine (key_v _ _ _ hQ2 (hsz _ _)).mono ?_
    rintro e w' ⟨rfl, rfl⟩
    go_wp2
    go_ret
    exact ⟨rfl, hbw1⟩
  · go_wp2_with fail
    refine (refName_v _ _ hN2 (hsz _ _)).mono ?_
    rintro e w' ⟨rfl, rfl⟩
    go_wp2_with fail
    refine (kind_v _ _ hK2).mono ?_
    rintro e w' ⟨rfl, rfl⟩
    go_wp2
    go_ret
    exact ⟨rfl, hbw1⟩
  · go_wp2_with fail
    refine (kind_v _ _ hK2).mono ?_
    rintro e w' ⟨rfl, rfl⟩
    go_wp2
    go_ret
    exact ⟨rfl, hbw1⟩
  · go_wp2_with fail
    refine (kind_v _ _ hK2).mono ?_
    rintro e w' ⟨rfl, rfl⟩
    go_wp2
    go_ret
    exact ⟨rfl, hbw1⟩
end Go.Proofs.Ytnimplldkambhaa
