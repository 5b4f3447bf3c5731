/-
  The contracts of the documents' answers: terms that hold. No conditions beyond what is written in each statement.
-/
import Derived.Test.YtnimplldkambhaaRef1
set_option linter.unusedSimpArgs false
set_option linter.unusedVariables false
namespace Go.Proofs.Ytnimplldkambhaa
open Go.RowKit

set_option maxHeartbeats 1000000 in
theorem refLabel_any (a : Option Addr) (l : List Str2) (cap : Nat) (key : ByteArray) (w : World) (hl : At2 w a l) (hm : l.length ≤ 9) :
    Calls Try.prog 23 #[.slice a l.length cap, .string key] w fun e w' => e = .returned (.tuple #[.string (getV l key), .bool (getOk l key)]) ∧ w' = w := by
  go_enter Try.func23, Try.ntmps23
  go_wp2
  go_loop [9] (fun i => ∃ k : Nat, k ≤ l.length ∧ i = .int .i64 k ∧ Hid (getL l key = getL (l.drop k) key)) (fun i => l.length - (intOf i).toNat)
  case atStart => exact ⟨0, Nat.zero_le _, rfl, rfl⟩
  case round =>
    obtain ⟨k, hk, rfl, hget⟩ := hrel
    by_cases hlt : k < l.length
    · obtain ⟨b, off, ha, hb, c0, c1⟩ := hl k hlt
      have hdrop := Lib.hid (getL_drop hlt key)
      clear hl
      subst ha
      generalize hq : l.getD k e2 = q at c0 c1 hdrop
      obtain ⟨q0, q1⟩ := q
      simp only at c0 c1
      clear hq
      go_wp2
      · go_ret2
        have he := eq_of_beq_toList ‹(q0.toList == key.toList) = true›
        have h := hget.out.trans hdrop.out
        rw [if_pos he] at h
        exact ⟨by unfold getV getOk; rw [h]; rfl, rfl⟩
      · go_round
        case rel =>
          have he := ne_of_beq_toList ‹(q0.toList == key.toList) = false›
          have h := hget.out.trans hdrop.out
          rw [if_neg he] at h
          exact ⟨k + 1, by omega, by go_num, h⟩
        case measure => simp [intOf]; omega
    · go_wp2
      go_ret2
      have h := hget.out
      rw [List.drop_eq_nil_of_le (by omega)] at h
      exact ⟨by unfold getV getOk; rw [h]; rfl, rfl⟩
def oneOf (th : Bool) (v : ByteArray) (l : List ByteArray) : Bool := th && memB v l
theorem oneOf_snoc {th : Bool} {v : ByteArray} {l : List ByteArray} {j : Nat} (h : j < l.length) : oneOf th v (l.take (j + 1)) = (oneOf th v (l.take j) || (th && decide (l.getD j ByteArray.empty = v))) := by
  unfold oneOf memB
  rw [List.take_succ_eq_append_getElem h, List.any_append, List.getD_eq_getElem?_getD, List.getElem?_eq_getElem h]
  cases th <;> simp [eq_comm]
theorem holds_one (key : ByteArray) (kind : Int) (vals : List ByteArray) (l : List Str2) :
    holdsB key kind vals l = (if kind = 1 then oneOf (getOk l key) (getV l key) vals else if kind = 2 then !oneOf (getOk l key) (getV l key) vals else if kind = 3 then getOk l key else if kind = 4 then !getOk l key else false) := by
  unfold holdsB oneOf
  cases getOk l key <;> cases memB (getV l key) vals <;> simp

set_option maxRecDepth 100000 in
set_option maxHeartbeats 4000000 in
theorem refMatch_any (ta : Option Addr) (ts : List Trm) (tcap : Nat) (a : Option Addr) (l : List Str2) (cap : Nat) (w : World) (ht : AtT w ta ts) (hl : At2 w a l) (hm : l.length ≤ 9) (hn : ts.length ≤ 9) :
    Calls Try.prog 31 #[.slice ta ts.length tcap, .slice a l.length cap] w fun e w' => e = .returned (.bool (matchB ts l)) ∧ w' = w := by
  obtain ⟨htm, ht⟩ := ht
  have HL := Lib.hid hl
  clear hl htm
  go_enter Try.func31, Try.ntmps31
  go_wp2_with fail
  go_loop [14] (fun i => ∃ k : Nat, k ≤ ts.length ∧ i = .int .i64 k ∧ Hid (matchB ts l = matchB (ts.drop k) l)) (fun i => ts.length - (intOf i).toNat)
  case atStart => exact ⟨0, Nat.zero_le _, rfl, rfl⟩
  case round =>
    obtain ⟨k, hk, rfl, hget⟩ := hrel
    by_cases hlt : k < ts.length
    · obtain ⟨b, off, va, vcap, ha, hb, c0, c1, c2, hv⟩ := ht k hlt
      have hdrop := Lib.hid (matchB_drop hlt l)
      clear ht
      subst ha
      generalize hq : ts.getD k t0 = q at c0 c1 c2 hdrop hv
      obtain ⟨q0, q1, q2⟩ := q
      simp only at c0 c1 c2 hv
      clear hq
      obtain ⟨hvm, hv⟩ := hv
      have hone := Lib.hid (holds_one q0 q1 q2 l)
      go_wp2_with fail
      refine Calls.mono (refLabel_any a l cap q0 _ HL.out hm) ?_
      rintro e w' ⟨rfl, rfl⟩
      generalize getV l q0 = v at hone
      generalize getOk l q0 = th at hone
      go_wp2_with fail
      go_loop [8, 33] (fun u i => ∃ j : Nat, j ≤ q2.length ∧ i = .int .i64 j ∧ u = .bool (oneOf th v (q2.take j))) (fun _ i => q2.length - (intOf i).toNat)
      case atStart => exact ⟨0, Nat.zero_le _, rfl, by simp [oneOf, memB]⟩
      case round =>
        obtain ⟨j, hj, rfl, rfl⟩ := hrel
        by_cases hjt : j < q2.length
        · obtain ⟨b', off', ha', hb', d0⟩ := hv j hjt
          have hsn := Lib.hid (oneOf_snoc (th := th) (v := v) hjt)
          subst ha'
          generalize q2.getD j ByteArray.empty = x at d0 hsn
          generalize oneOf th v (q2.take j) = P at *
          cases P <;> cases th <;> cases hx : (x.toList == v.toList)
          all_goals
            go_wp2
            go_round
            case rel => exact ⟨j + 1, by omega, by go_num, by rw [hsn.out]; rw [toList_beq] at hx; simp [hx]⟩
            case measure => simp [intOf]; omega
        · have hj2 : q2.take j = q2 := List.take_of_length_le (by omega)
          rw [hj2]
          generalize oneOf th v q2 = P at *
          cases P <;> cases th
          all_goals
            go_wp2
            all_goals first
              | (go_ret
                 refine ⟨ret_bool ?_, rfl⟩
                 rw [hget.out, hdrop.out, show holdsB q0 q1 q2 l = false by have h := hone.out; clear hone hget hdrop HL; simp_all]
                 rfl)
              | (refine ⟨⟨k + 1, by omega, by go_num, ?_⟩, by simp [intOf]; omega⟩
                 show _ = _
                 rw [hget.out, hdrop.out, show holdsB q0 q1 q2 l = true by have h := hone.out; clear hone hget hdrop HL; simp_all]
                 rfl)
    · go_wp2
      go_ret
      have h := hget.out
      rw [List.drop_eq_nil_of_le (by omega)] at h
      exact ⟨ret_bool (by rw [h]; rfl), rfl⟩
end Go.Proofs.Ytnimplldkambhaa
