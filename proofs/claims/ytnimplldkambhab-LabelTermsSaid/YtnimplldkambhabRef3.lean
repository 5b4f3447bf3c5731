/-
  The contracts of the documents' answers: which terms may be. No conditions beyond what is written in each statement.
-/
import Derived.Test.YtnimplldkambhabRef1
import Derived.Test.YtnimplldkambhabOpen0
set_option linter.unusedSimpArgs false
set_option linter.unusedVariables false
namespace Go.Proofs.Ytnimplldkambhab
open Go.RowKit

theorem allNames_no {l : List ByteArray} {j : Nat} (h : j < l.length) (hf : nameL (l.getD j ByteArray.empty).data.toList = false) : allNames l = false := by
  unfold allNames
  rw [List.all_eq_false]
  refine ⟨l[j], List.getElem_mem h, ?_⟩
  rw [getD_eq h] at hf
  simp [hf]
theorem termsB_no {ts : List Trm} {k : Nat} (h : k < ts.length) (hf : termB (ts.getD k t0).key (ts.getD k t0).kind (ts.getD k t0).vals = false) : mayT ts = false := by
  unfold mayT termsB
  rw [show (ts.all fun t => termB t.key t.kind t.vals) = false from List.all_eq_false.2 ⟨ts[k], List.getElem_mem h, by rw [getD_eq h] at hf; simp [hf]⟩]
  simp
/-- What is asked of a term ahead of its Vals. -/
def headB (key : ByteArray) (kind : Int) (n : Nat) : Bool := nameL key.data.toList && decide (1 ≤ kind) && decide (kind ≤ 4) && (if kind ≤ 2 then decide (1 ≤ n ∧ n ≤ 6) else decide (n = 0))
theorem term_head (key : ByteArray) (kind : Int) (vals : List ByteArray) : termB key kind vals = (headB key kind vals.length && allNames vals) := by
  unfold termB headB valsB
  cases nameL key.data.toList
  · simp
  by_cases h1 : kind = 1
  · subst h1; simp
  by_cases h2 : kind = 2
  · subst h2; simp
  by_cases h3 : kind = 3
  · subst h3
    cases vals <;> simp [allNames]
  by_cases h4 : kind = 4
  · subst h4
    cases vals <;> simp [allNames]
  · have : (decide (1 ≤ kind) && decide (kind ≤ 4)) = false := by rw [Bool.and_eq_false_iff, decide_eq_false_iff_not, decide_eq_false_iff_not]; omega
    simp [h1, h2, h3, h4]
    intro a b
    simp [a, b] at this

theorem head_iff {key : ByteArray} {kind : Int} {n : Nat} (hN : nameL key.data.toList = true) : headB key kind n = true ↔ 1 ≤ kind ∧ kind ≤ 4 ∧ ((kind ≤ 2 ∧ 1 ≤ n ∧ n ≤ 6) ∨ (2 < kind ∧ n = 0)) := by
  unfold headB
  rw [hN]
  by_cases h : kind ≤ 2
  · rw [if_pos h]; simp; omega
  · rw [if_neg h]; simp; omega
theorem head_no {key : ByteArray} {kind : Int} {n : Nat} (hN : nameL key.data.toList = true) (h : ¬ (1 ≤ kind ∧ kind ≤ 4 ∧ ((kind ≤ 2 ∧ 1 ≤ n ∧ n ≤ 6) ∨ (2 < kind ∧ n = 0)))) : headB key kind n = false := by
  rw [Bool.eq_false_iff]
  exact fun e => h ((head_iff hN).1 e)

set_option maxRecDepth 100000 in
set_option maxHeartbeats 8000000 in
theorem refMayTerms_any (ta : Option Addr) (ts : List Trm) (tcap : Nat) (w : World) (ht : AtT w ta ts) (hz : ∀ t ∈ ts, SzT t) (hn : ts.length ≤ 9) :
    Calls Try.prog 18 #[.slice ta ts.length tcap] w fun e w' => e = .returned (.bool (mayT ts)) ∧ Below w.heap.size w w' := by
  obtain ⟨htm, ht⟩ := ht
  clear htm
  go_enter Try.func18, Try.ntmps18
  go_wp2_with fail
  go_loopw [9] (fun i wr => ∃ k : Nat, k ≤ ts.length ∧ i = .int .i64 k ∧ Hid (termsB ts = termsB (ts.drop k)) ∧ Below w.heap.size w wr) (fun i _ => ts.length - (intOf i).toNat)
  case atStart => exact ⟨0, Nat.zero_le _, rfl, rfl, Below.refl _ _⟩
  case round =>
    obtain ⟨k, hk, rfl, hget, hbel⟩ := hrel
    by_cases hlt : k < ts.length
    · obtain ⟨b, off, va, vcap, ha, hb, d0, d1, d2, hv⟩ := ht k hlt
      have c0 := cell_later hbel d0
      have c1 := cell_later hbel d1
      have c2 := cell_later hbel d2
      have hv1 := hv.below hbel
      have hvA : ∀ o : Obj, At1 (wr.alloc o) va (ts.getD k t0).vals := fun o => hv1.below ((Below.refl _ _).alloc (Nat.le_refl _) o)
      obtain ⟨z0, z1⟩ := hz (ts.getD k t0) (getD_mem hlt)
      have hdrop := Lib.hid (termsB_drop hlt)
      have hno := Lib.hid (termsB_no hlt)
      have HBW := Lib.hid (fun o : Obj => hbel.alloc hbel.size o)
      clear d0 d1 d2 ht hz hv hv1
      subst ha
      generalize hq : ts.getD k t0 = q at c0 c1 c2 hdrop hvA z0 z1 hno
      obtain ⟨q0, q1, q2⟩ := q
      simp only at c0 c1 c2 hvA z0 z1
      clear hq
      have hth := Lib.hid (term_head q0 q1 q2)
      cases hN : nameL q0.data.toList
      · go_wp2_with fail
        refine Calls.mono (refName_v _ _ hN z0) ?_
        rintro e w' ⟨rfl, rfl⟩
        go_wp2
        go_ret
        exact ⟨ret_bool (hno.out (by rw [hth.out]; unfold headB; rw [hN]; rfl)).symm, HBW.out _⟩
      · go_wp2_with fail
        refine Calls.mono (refName_v _ _ hN z0) ?_
        rintro e w' ⟨rfl, rfl⟩
        go_wp2_with fail
        all_goals first
          | (go_ret
             exact ⟨ret_bool (hno.out (by rw [hth.out, head_no hN (by omega)]; rfl)).symm, HBW.out _⟩)
          | (have hH : headB q0 q1 q2.length = true := (head_iff hN).2 (by omega)
             rw [hH, Bool.true_and] at hth
             have hV := hvA (.cells #[.string q0, .int .i64 q1, .slice va q2.length vcap] 34)
             obtain ⟨hVm, hV⟩ := hV
             go_loop [58] (fun i => ∃ j : Nat, j ≤ q2.length ∧ i = .int .i64 j ∧ Hid (allNames q2 = allNames (q2.drop j))) (fun i => q2.length - (intOf i).toNat)
             case atStart => exact ⟨0, Nat.zero_le _, rfl, rfl⟩
             case round =>
               obtain ⟨j, hj, rfl, hall⟩ := hrel
               by_cases hjt : j < q2.length
               · first
                 | (exfalso; omega)
                 | (obtain ⟨b', off', ha', hb', e0⟩ := hV j hjt
                    have hds := Lib.hid (allNames_drop hjt)
                    have hnn := Lib.hid (allNames_no hjt)
                    have zj := z1 (q2.getD j ByteArray.empty) (getD_mem hjt)
                    subst ha'
                    generalize q2.getD j ByteArray.empty = x at e0 hds hnn zj
                    cases hx : nameL x.data.toList
                    · go_wp2_with fail
                      refine Calls.mono (refName_v _ _ hx zj) ?_
                      rintro e w' ⟨rfl, rfl⟩
                      go_wp2
                      go_ret
                      exact ⟨ret_bool (hno.out (by rw [hth.out]; exact hnn.out hx)).symm, HBW.out _⟩
                    · go_wp2_with fail
                      refine Calls.mono (refName_v _ _ hx zj) ?_
                      rintro e w' ⟨rfl, hw'⟩
                      subst hw'
                      go_wp2
                      go_round
                      case rel => exact ⟨j + 1, by omega, by go_num, by show _ = _; rw [hall.out, hds.out, hx]; rfl⟩
                      case measure => simp [intOf]; omega)
               · have h := hall.out
                 rw [List.drop_eq_nil_of_le (by omega)] at h
                 have hall2 : Hid (termB q0 q1 q2 = true) := by show _ = _; rw [hth.out, h]; rfl
                 go_wp2
                 go_roundw
                 case rel => exact ⟨k + 1, by omega, by go_num, by show _ = _; rw [hget.out, hdrop.out, hall2.out]; rfl, HBW.out _⟩
                 case measure => simp [intOf]; omega)
    · go_wp2
      go_ret
      have h := hget.out
      rw [List.drop_eq_nil_of_le (by omega)] at h
      refine ⟨ret_bool ?_, hbel⟩
      unfold mayT
      rw [h, show termsB [] = true from rfl, Bool.and_true]
      simp
      omega
end Go.Proofs.Ytnimplldkambhab
