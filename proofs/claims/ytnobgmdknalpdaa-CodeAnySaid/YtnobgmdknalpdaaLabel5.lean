/-
  The contracts of package label: which terms may be. No conditions beyond what is written in each statement.
-/
import Derived.Test.YtnobgmdknalpdaaLabel4
set_option linter.unusedSimpArgs false
set_option linter.unusedVariables false
namespace Go.Proofs.Ytnobgmdknalpdaa
open Go.RowKit

def allNames (l : List ByteArray) : Bool := l.all fun v => nameL v.data.toList
theorem allNames_drop {l : List ByteArray} {k : Nat} (h : k < l.length) : allNames (l.drop k) = (nameL (l.getD k ByteArray.empty).data.toList && allNames (l.drop (k + 1))) := by
  rw [List.drop_eq_getElem_cons h, List.getD_eq_getElem?_getD, List.getElem?_eq_getElem h]; rfl
def valsB (l : List ByteArray) : Bool := decide (1 ≤ l.length ∧ l.length ≤ 6) && allNames l

set_option maxHeartbeats 400000 in
theorem mayVals_any (a : Option Addr) (l : List ByteArray) (cap : Nat) (w : World) (hl : At1 w a l) :
    Calls Try.prog 104 #[.slice a l.length cap] w fun e w' => e = .returned (.bool (valsB l)) ∧ w' = w := by
  obtain ⟨hm, hl⟩ := hl
  go_enter Try.func104, Try.ntmps104
  go_wp2_with fail
  · go_ret
    exact ⟨ret_bool (by unfold valsB; rw [decide_eq_false (by omega)]; rfl), rfl⟩
  · have hlen : 1 ≤ l.length ∧ l.length ≤ 6 := by omega
    have HL := Lib.hid hlen
    clear hlen
    go_loop [15] (fun i => ∃ k : Nat, k ≤ l.length ∧ i = .int .i64 k ∧ Hid (allNames l = allNames (l.drop k))) (fun i => l.length - (intOf i).toNat)
    case atStart => exact ⟨0, Nat.zero_le _, rfl, rfl⟩
    case round =>
      obtain ⟨k, hk, rfl, hget⟩ := hrel
      by_cases hlt : k < l.length
      · obtain ⟨b, off, ha, hb, c0⟩ := hl k hlt
        have hdrop := Lib.hid (allNames_drop hlt)
        clear hl
        subst ha
        generalize hq : l.getD k ByteArray.empty = q at c0 hdrop
        clear hq
        go_wp2_with (go_at_call 73; refine (name_any _ _).mono ?_; rintro e w' ⟨rfl, rfl⟩)
        · go_ret
          have hx : nameL q.data.toList = false := by simpa using ‹(!nameL q.data.toList) = true›
          exact ⟨ret_bool (by unfold valsB; rw [hget.out, hdrop.out, hx]; simp), rfl⟩
        · go_round
          case rel =>
            have hx : nameL q.data.toList = true := by simpa using ‹(!nameL q.data.toList) = false›
            exact ⟨k + 1, by omega, by go_num, by show _ = _; rw [hget.out, hdrop.out, hx]; rfl⟩
          case measure => simp [intOf]; omega
      · go_wp2
        go_ret
        have h := hget.out
        rw [List.drop_eq_nil_of_le (by omega)] at h
        exact ⟨ret_bool (by unfold valsB; rw [h, decide_eq_true HL.out]; rfl), rfl⟩
  · go_ret
    exact ⟨ret_bool (by unfold valsB; rw [decide_eq_false (by omega)]; rfl), rfl⟩

def termB (key : ByteArray) (kind : Int) (vals : List ByteArray) : Bool :=
  nameL key.data.toList && (if kind = 1 ∨ kind = 2 then valsB vals else if kind = 3 ∨ kind = 4 then decide (vals.length = 0) else false)

set_option maxHeartbeats 1000000 in
theorem mayTerm_any (key : ByteArray) (kind : Int) (va : Option Addr) (vals : List ByteArray) (vcap : Nat) (w : World) (hv : At1 w va vals) :
    Calls Try.prog 99 #[trm key kind va vals.length vcap] w fun e w' => e = .returned (.bool (termB key kind vals)) ∧ Below w.heap.size w w' := by
  have hvA : ∀ o : Obj, At1 (w.alloc o) va vals := fun o => hv.below ((Below.refl _ _).alloc (Nat.le_refl _) o)
  go_enter Try.func99, Try.ntmps99
  go_wp2_with (first | (go_at_call 73; refine (name_any _ _).mono ?_; rintro e w' ⟨rfl, rfl⟩) | (go_at_call 104; refine (mayVals_any _ _ _ _ (hvA _)).mono ?_; rintro e w' ⟨rfl, rfl⟩))
  all_goals (go_ret; refine ⟨ret_bool ?_, (by (repeat (with_reducible first | exact Below.refl _ _ | refine Below.alloc ?_ ?_ _ | refine Below.setCell ?_ ?_ _ | refine Below.drew ?_ | refine below_drewN ?_ _)); all_goals (simp <;> omega))⟩; go_light; simp_all [termB]; try (cases vals <;> simp <;> omega))

def termsB (ts : List Trm) : Bool := ts.all fun t => termB t.key t.kind t.vals
theorem termsB_drop {ts : List Trm} {k : Nat} (h : k < ts.length) : termsB (ts.drop k) = (termB (ts.getD k t0).key (ts.getD k t0).kind (ts.getD k t0).vals && termsB (ts.drop (k + 1))) := by
  rw [List.drop_eq_getElem_cons h, List.getD_eq_getElem?_getD, List.getElem?_eq_getElem h]; rfl
def mayT (ts : List Trm) : Bool := decide (ts.length ≤ 6) && termsB ts

set_option maxHeartbeats 1000000 in
theorem mayTerms_any (ta : Option Addr) (ts : List Trm) (tcap : Nat) (w : World) (ht : AtT w ta ts) :
    Calls Try.prog 77 #[.slice ta ts.length tcap] w fun e w' => e = .returned (.bool (mayT ts)) ∧ Below w.heap.size w w' := by
  obtain ⟨htm, ht⟩ := ht
  go_enter Try.func77, Try.ntmps77
  go_wp2
  · go_ret
    exact ⟨ret_bool (by unfold mayT; rw [decide_eq_false (by omega)]; rfl), Below.refl _ _⟩
  · have hm : ts.length ≤ 6 := by omega
    go_loopw [10] (fun i wr => ∃ k : Nat, k ≤ ts.length ∧ i = .int .i64 k ∧ Hid (mayT ts = termsB (ts.drop k)) ∧ Below w.heap.size w wr) (fun i _ => ts.length - (intOf i).toNat)
    case atStart => exact ⟨0, Nat.zero_le _, rfl, by show _ = _; unfold mayT; rw [decide_eq_true hm]; rfl, Below.refl _ _⟩
    case round =>
      obtain ⟨k, hk, rfl, hget, hbel⟩ := hrel
      by_cases hlt : k < ts.length
      · obtain ⟨b, off, va, vcap, ha, hb, d0, d1, d2, hv⟩ := ht k hlt
        have c0 := cell_later hbel d0
        have c1 := cell_later hbel d1
        have c2 := cell_later hbel d2
        have hv1 := hv.below hbel
        have hdrop := Lib.hid (termsB_drop hlt)
        have hvA : ∀ o : Obj, At1 (wr.alloc o) va (ts.getD k t0).vals := fun o => hv1.below ((Below.refl _ _).alloc (Nat.le_refl _) o)
        clear d0 d1 d2 ht hv hv1
        subst ha
        generalize hq : ts.getD k t0 = q at c0 c1 c2 hdrop hvA
        obtain ⟨q0, q1, q2⟩ := q
        simp only at c0 c1 c2 hvA
        clear hq
        go_wp2_with (go_at_call 99; refine (mayTerm_any _ _ _ _ _ _ (hvA _)).mono ?_; rintro e w1 ⟨rfl, hb1⟩)
        · go_ret
          have hx : termB q0 q1 q2 = false := by simpa using ‹(!termB q0 q1 q2) = true›
          exact ⟨ret_bool (by rw [hget.out, hdrop.out, hx]; rfl), (hbel.alloc hbel.size _).trans (hb1.mono (by simp; have := hbel.size; omega))⟩
        · go_roundw
          case rel =>
            have hx : termB q0 q1 q2 = true := by simpa using ‹(!termB q0 q1 q2) = false›
            exact ⟨k + 1, by omega, by go_num, by show _ = _; rw [hget.out, hdrop.out, hx]; rfl, (hbel.alloc hbel.size _).trans (hb1.mono (by simp; have := hbel.size; omega))⟩
          case measure => simp [intOf]; omega
      · go_wp2
        go_ret
        have h := hget.out
        rw [List.drop_eq_nil_of_le (by omega)] at h
        exact ⟨ret_bool (by rw [h]; rfl), hbel⟩
end Go.Proofs.Ytnobgmdknalpdaa
