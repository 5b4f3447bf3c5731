/-
  The contracts of the documents' answers: taints that are borne. No conditions beyond what is written in each statement.
-/
import Derived.Test.YtnimplldkambhaaRef4
set_option linter.unusedSimpArgs false
set_option linter.unusedVariables false
namespace Go.Proofs.Ytnimplldkambhaa
open Go.RowKit

theorem borne_snoc {l : List Tol} {x : Str2} {j : Nat} (h : j < l.length) : borneB (l.take (j + 1)) x = (borneB (l.take j) x || bearsB (l.getD j e3) x) := by
  unfold borneB
  rw [List.take_succ_eq_append_getElem h, List.any_append, getD_eq h]
  simp
theorem refBears_v (k v : ByteArray) (any : Bool) (xk xv : ByteArray) (w : World) {r : Bool} (h : bearsB (k, v, any) (xk, xv) = r) :
    Calls Try.prog 39 #[.agg #[.string k, .string v, .bool any], .agg #[.string xk, .string xv]] w fun e w' => e = .returned (.bool r) ∧ Below w.heap.size w w' := by
  subst h; exact refBears_any k v any xk xv w

set_option maxRecDepth 100000 in
set_option maxHeartbeats 4000000 in
theorem refBorne_any (la : Option Addr) (tols : List Tol) (lcap : Nat) (ta : Option Addr) (ts : List Str2) (tcap : Nat) (w : World) (hl : AtL w la tols) (ht : At2 w ta ts) (hn : tols.length ≤ 9) (hm : ts.length ≤ 9) :
    Calls Try.prog 37 #[.slice la tols.length lcap, .slice ta ts.length tcap] w fun e w' => e = .returned (.bool (allB tols ts)) ∧ Below w.heap.size w w' := by
  obtain ⟨hlm, hl⟩ := hl
  clear hlm
  go_enter Try.func37, Try.ntmps37
  go_wp2_with fail
  go_loopw [10] (fun i wr => ∃ k : Nat, k ≤ ts.length ∧ i = .int .i64 k ∧ Hid (allB tols ts = (ts.drop k).all fun x => borneB tols x) ∧ Below w.heap.size w wr) (fun i _ => ts.length - (intOf i).toNat)
  case atStart => exact ⟨0, Nat.zero_le _, rfl, rfl, Below.refl _ _⟩
  case round =>
    obtain ⟨k, hk, rfl, hget, hbel⟩ := hrel
    by_cases hlt : k < ts.length
    · obtain ⟨b, off, ha, hb, d0, d1⟩ := ht k hlt
      have hdrop := Lib.hid (all_drop (d := e2) (fun x => borneB tols x) hlt)
      have HB := Lib.hid hbel
      clear ht
      subst ha
      generalize hq : ts.getD k e2 = q at d0 d1 hdrop
      obtain ⟨q0, q1⟩ := q
      simp only at d0 d1
      clear hq hbel
      have D0 := Lib.hid d0
      have D1 := Lib.hid d1
      clear d0 d1
      go_wp2_with fail
      go_loopw [6, 15] (fun u i w2 => ∃ j : Nat, j ≤ tols.length ∧ i = .int .i64 j ∧ u = .bool (borneB (tols.take j) (q0, q1)) ∧ Below w.heap.size w w2) (fun _ i _ => tols.length - (intOf i).toNat)
      case atStart => exact ⟨0, Nat.zero_le _, rfl, by simp [borneB], HB.out⟩
      case round =>
        obtain ⟨j, hj, rfl, rfl, hbe2⟩ := hrel
        by_cases hjt : j < tols.length
        · obtain ⟨b', off', ha', hb', e0, e1, e2⟩ := hl j hjt
          have hsn := Lib.hid (borne_snoc (x := (q0, q1)) hjt)
          have c0 := cell_later hbe2 e0
          have c1 := cell_later hbe2 e1
          have c2 := cell_later hbe2 e2
          have x0 := cell_later hbe2 D0.out
          have x1 := cell_later hbe2 D1.out
          have hb3 := Lib.hid hbe2
          clear e0 e1 e2 hl hbe2 D0 D1
          subst ha'
          generalize hq : tols.getD j e3 = t at c0 c1 c2 hsn
          obtain ⟨t0', t1', t2'⟩ := t
          simp only at c0 c1 c2
          clear hq
          cases hP : borneB (tols.take j) (q0, q1)
          · cases hR : bearsB (t0', t1', t2') (q0, q1)
            all_goals
              rw [hP, hR] at hsn
              have HR := Lib.hid hR
              clear hP hR
              go_wp2_with fail
              go_still_tail 10, (by kernel_rfl)
              change wpList _ _ _ _ _ wr.drew
              go_wp2_with fail
              refine Calls.mono (refBears_v _ _ _ _ _ _ HR.out) ?_
              rintro e w3 ⟨rfl, hb4⟩
              have hb5 : Below w.heap.size w w3 := hb3.out.trans ((((Below.refl wr.heap.size wr).drew).trans (hb4.mono (by simp))).mono hb3.out.size)
              clear hb4
              go_wp2
              go_roundw
              case rel => exact ⟨j + 1, by omega, by go_num, by rw [hsn.out]; rfl, hb5⟩
              case measure => simp [intOf]; omega
          · rw [hP] at hsn
            clear hP
            go_wp2_with fail
            go_quiet (fail)
            go_wp2
            go_roundw
            case rel => exact ⟨j + 1, by omega, by go_num, by rw [hsn.out]; simp, below_drewN hb3.out _⟩
            case measure => simp [intOf]; omega
        · have hj2 : tols.take j = tols := List.take_of_length_le (by omega)
          rw [hj2]
          cases hP : borneB tols (q0, q1)
          · go_wp2
            go_ret
            exact ⟨ret_bool (by rw [hget.out, hdrop.out, hP]; rfl), hbe2⟩
          · go_wp2
            go_roundw
            case rel => exact ⟨k + 1, by omega, by go_num, by show _ = _; rw [hget.out, hdrop.out, hP]; rfl, hbe2⟩
            case measure => simp [intOf]; omega
    · go_wp2
      go_ret
      have h := hget.out
      rw [List.drop_eq_nil_of_le (by omega)] at h
      exact ⟨ret_bool (by rw [h]; rfl), hbel⟩
end Go.Proofs.Ytnimplldkambhaa
