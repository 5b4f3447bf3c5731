/-
  The law CodeNames's walk. No conditions beyond what is written in each statement.
-/
import Derived.Test.YtnimplldkambhabLKey0
set_option linter.unusedSimpArgs false
set_option linter.unusedVariables false
namespace Go.Proofs.Ytnimplldkambhab
open Go.RowKit

theorem name_v (s : ByteArray) (w : World) {v : Bool} (h : nameL s.data.toList = v) :
    Calls Try.prog 29 #[.string s] w fun e w' => e = .returned (.bool v) ∧ w' = w := by
  subst h; exact name_any s w

set_option maxRecDepth 100000 in
set_option maxHeartbeats 4000000 in
theorem codeNames_no (a b x y : ByteArray) (u v : Bool) (w : World) (ea : a.extract 0 12 = x) (eb : b.extract 0 12 = y) (hx : nameL x.data.toList = u) (hy : nameL y.data.toList = v) (hn : (u && v) = false) :
    Calls Try.prog 11 #[.string a, .string b] w fun e w' => e = .returned (.bool true) ∧ Below w.heap.size w w' := by
  have hxs : x.size ≤ maxLen := by rw [← ea]; exact Nat.le_trans (cut_size a 12) (by unfold maxLen; omega)
  have hys : y.size ≤ maxLen := by rw [← eb]; exact Nat.le_trans (cut_size b 12) (by unfold maxLen; omega)
  cases u
  · clear hn
    cases v
    all_goals
      go_enter Try.func11, Try.ntmps11
      go_wp2_with fail
      refine (begun_any _).mono ?_
      rintro e w1 ⟨rfl, hbw1⟩
      go_wp2_with fail
      refine Calls.mono (text_v _ 12 _ (by decide) ea) ?_
      rintro e w' ⟨rfl, rfl⟩
      go_wp2_with fail
      refine Calls.mono (text_v _ 12 _ (by decide) eb) ?_
      rintro e w' ⟨rfl, rfl⟩
      clear ea eb
      go_wp2_with fail
      refine Calls.mono (name_v _ _ hx) ?_
      rintro e w' ⟨rfl, rfl⟩
      go_wp2_with fail
      refine Calls.mono (name_v _ _ hx) ?_
      rintro e w' ⟨rfl, rfl⟩
      go_wp2_with fail
      refine Calls.mono (refName_v _ _ hx hxs) ?_
      rintro e w' ⟨rfl, rfl⟩
      go_wp2_with fail
      refine Calls.mono (name_v _ _ hy) ?_
      rintro e w' ⟨rfl, rfl⟩
      go_wp2_with fail
      refine Calls.mono (refName_v _ _ hy hys) ?_
      rintro e w' ⟨rfl, rfl⟩
      go_wp2
      go_ret
      exact ⟨rfl, hbw1⟩
  · obtain rfl : v = false := by simpa using hn
    clear hn
    go_enter Try.func11, Try.ntmps11
    go_wp2_with fail
    refine (begun_any _).mono ?_
    rintro e w1 ⟨rfl, hbw1⟩
    go_wp2_with fail
    refine Calls.mono (text_v _ 12 _ (by decide) ea) ?_
    rintro e w' ⟨rfl, rfl⟩
    go_wp2_with fail
    refine Calls.mono (text_v _ 12 _ (by decide) eb) ?_
    rintro e w' ⟨rfl, rfl⟩
    clear ea eb
    go_wp2_with fail
    refine Calls.mono (name_v _ _ hx) ?_
    rintro e w' ⟨rfl, rfl⟩
    go_wp2_with fail
    refine Calls.mono (name_v _ _ hy) ?_
    rintro e w' ⟨rfl, rfl⟩
    go_wp2_with fail
    refine Calls.mono (name_v _ _ hx) ?_
    rintro e w' ⟨rfl, rfl⟩
    go_wp2_with fail
    refine Calls.mono (refName_v _ _ hx hxs) ?_
    rintro e w' ⟨rfl, rfl⟩
    go_wp2_with fail
    refine Calls.mono (name_v _ _ hy) ?_
    rintro e w' ⟨rfl, rfl⟩
    go_wp2_with fail
    refine Calls.mono (refName_v _ _ hy hys) ?_
    rintro e w' ⟨rfl, rfl⟩
    go_wp2
    go_ret
    exact ⟨rfl, hbw1⟩

set_option maxRecDepth 100000 in
set_option maxHeartbeats 4000000 in
theorem codeNames_yes (a b x y P Q N : ByteArray) (s : Bool) (w : World) (ea : a.extract 0 12 = x) (eb : b.extract 0 12 = y) (hx : nameL x.data.toList = true) (hy : nameL y.data.toList = true)
    (k1 : keyOf 1 x = P) (k2 : keyOf 1 y = Q) (k3 : keyOf 2 x = N) (hPN : (P.toList == N.toList) = false) (hPQ : (P.toList == Q.toList) = s) (hxy : (x.toList == y.toList) = s) (hs : P.size = x.size + 2) (ht : P.extract 2 (x.size + 2) = x)
    (q1 : kindOf P = 1) (q2 : kindOf N = 2) :
    Calls Try.prog 11 #[.string a, .string b] w fun e w' => e = .returned (.bool true) ∧ Below w.heap.size w w' := by
  have hx12 : x.size ≤ 12 := by rw [← ea]; exact cut_size a 12
  have hxs : x.size ≤ maxLen := Nat.le_trans hx12 (by unfold maxLen; omega)
  have hys : y.size ≤ maxLen := by rw [← eb]; exact Nat.le_trans (cut_size b 12) (by unfold maxLen; omega)
  have K1 := Lib.hid k1
  have K2 := Lib.hid k2
  have K3 := Lib.hid k3
  have Q1 := Lib.hid q1
  have Q2 := Lib.hid q2
  clear k1 k2 k3 q1 q2
  cases s
  all_goals
    go_enter Try.func11, Try.ntmps11
    go_wp2_with fail
    refine (begun_any _).mono ?_
    rintro e w1 ⟨rfl, hbw1⟩
    go_wp2_with fail
    refine Calls.mono (text_v _ 12 _ (by decide) ea) ?_
    rintro e w' ⟨rfl, rfl⟩
    go_wp2_with fail
    refine Calls.mono (text_v _ 12 _ (by decide) eb) ?_
    rintro e w' ⟨rfl, rfl⟩
    clear ea eb
    go_wp2_with fail
    refine Calls.mono (name_v _ _ hx) ?_
    rintro e w' ⟨rfl, rfl⟩
    go_wp2_with fail
    refine Calls.mono (name_v _ _ hy) ?_
    rintro e w' ⟨rfl, rfl⟩
    go_wp2_with fail
    refine Calls.mono (key_v _ _ _ K1.out hxs) ?_
    rintro e w' ⟨rfl, rfl⟩
    go_wp2_with fail
    refine Calls.mono (key_v _ _ _ K2.out hys) ?_
    rintro e w' ⟨rfl, rfl⟩
    go_wp2_with fail
    refine Calls.mono (key_v _ _ _ K3.out hxs) ?_
    rintro e w' ⟨rfl, rfl⟩
    go_wp2_with fail
    refine Calls.mono (kind_v _ _ Q1.out) ?_
    rintro e w' ⟨rfl, rfl⟩
    go_wp2_with fail
    refine Calls.mono (kind_v _ _ Q2.out) ?_
    rintro e w' ⟨rfl, rfl⟩
    go_wp2_with fail
    refine Calls.mono (key_v 3 x _ (v := lS) (by simp [keyOf]) hxs) ?_
    rintro e w' ⟨rfl, rfl⟩
    go_wp2_with fail
    refine Calls.mono (key_v 3 _ _ (v := lS) (by simp [keyOf]) (Nat.zero_le _)) ?_
    rintro e w' ⟨rfl, rfl⟩
    go_wp2
    go_ret
    exact ⟨rfl, hbw1⟩

theorem codeNames_walk (a b : ByteArray) (w : World) :
    Calls Try.prog 11 #[.string a, .string b] w fun e w' => e = .returned (.bool true) ∧ Below w.heap.size w w' := by
  cases hx : nameL (a.extract 0 12).data.toList
  · exact codeNames_no a b _ _ _ _ w rfl rfl hx rfl rfl
  cases hy : nameL (b.extract 0 12).data.toList
  · exact codeNames_no a b _ _ _ _ w rfl rfl hx hy rfl
  have k1 : ∀ {n : ByteArray}, nameL n.data.toList = true → keyOf 1 n = pS ++ n := fun h => by unfold keyOf; rw [if_neg (by decide), if_pos ⟨rfl, h⟩]
  have k2 : ∀ {n : ByteArray}, nameL n.data.toList = true → keyOf 2 n = nS ++ n := fun h => by unfold keyOf; rw [if_neg (by decide), if_neg (fun h => by cases h.1), if_pos ⟨rfl, h⟩]
  generalize ea : a.extract 0 12 = x at *
  have hz : ∀ n : ByteArray, (pS ++ n).size = n.size + 2 := fun n => by rw [ByteArray.size_append, show pS.size = 2 from rfl]; omega
  refine codeNames_yes a b x (b.extract 0 12) (pS ++ x) (pS ++ b.extract 0 12) (nS ++ x) (decide (x = b.extract 0 12)) w ?_ rfl hx hy (k1 hx) (k1 hy) (k2 hx) ?_ ?_ (toList_beq _ _) (hz x) ?_ (kind_p hx) (kind_n hx)
  · exact ea
  · rw [toList_beq]
    refine decide_eq_false fun e => ?_
    have h1 := hasP_app pS x rfl
    rw [e, no_pn] at h1
    cases h1
  · rw [toList_beq]
    refine decide_eq_decide.2 ⟨fun e => ?_, fun e => by rw [e]⟩
    have h1 := tail_app pS x rfl
    rw [e, tail_app pS _ rfl] at h1
    exact h1.symm
  · have h1 := tail_app pS x rfl
    unfold tailOf at h1
    rw [hz] at h1
    exact h1
end Go.Proofs.Ytnimplldkambhab
