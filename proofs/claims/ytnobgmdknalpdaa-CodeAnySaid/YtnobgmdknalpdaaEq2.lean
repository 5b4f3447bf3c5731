/-
  The contracts of obj's comparisons of terms and pods. No conditions beyond what is written in each statement.
-/
import Derived.Test.YtnobgmdknalpdaaEq1
set_option linter.unusedSimpArgs false
set_option linter.unusedVariables false
namespace Go.Proofs.Ytnobgmdknalpdaa
open Go.RowKit

def eqT (x y : Trm) : Bool := decide (x.key = y.key) && decide (x.kind = y.kind) && eqL eqS x.vals y.vals

set_option maxRecDepth 100000 in
set_option maxHeartbeats 1000000 in
theorem eqTerm_any (x y : Trm) (va vb : Option Addr) (ca cb : Nat) (w : World) (ha : At1 w va x.vals) (hb : At1 w vb y.vals) :
    Calls Try.prog 85 #[trm x.key x.kind va x.vals.length ca, trm y.key y.kind vb y.vals.length cb] w fun e w' => e = .returned (.bool (eqT x y)) ∧ Below w.heap.size w w' := by
  have hA : ∀ o o' : Obj, Below w.heap.size w ((w.alloc o).alloc o') := fun o o' => ((Below.refl _ _).alloc (Nat.le_refl _) o).alloc (by simp) o'
  by_cases h1 : x.key = y.key
  · have h1' : (x.key.toList == y.key.toList) = true := by rw [toList_beq, decide_eq_true h1]
    by_cases h2 : x.kind = y.kind
    · have h2' : (x.kind == y.kind) = true := by simpa using h2
      have H := Lib.hid (And.intro h1 h2)
      clear h1 h2
      go_enter Try.func85, Try.ntmps85
      go_wp2_with fail
      refine (eqListS_any _ _ _ _ _ _ _ (ha.below (hA _ _)) (hb.below (hA _ _))).mono ?_
      rintro e w1 ⟨rfl, hb1⟩
      go_wp2
      go_ret
      exact ⟨ret_bool (by unfold eqT; rw [decide_eq_true H.out.1, decide_eq_true H.out.2]; simp), (hA _ _).trans (hb1.mono (by simp <;> omega))⟩
    · have h2' : (x.kind == y.kind) = false := by simpa using h2
      have H := Lib.hid h2
      clear h1 h2
      go_enter Try.func85, Try.ntmps85
      go_wp2
      go_ret
      exact ⟨ret_bool (by unfold eqT; rw [decide_eq_false H.out]; simp), (by (repeat (with_reducible first | exact Below.refl _ _ | refine Below.alloc ?_ ?_ _ | refine Below.setCell ?_ ?_ _ | refine Below.drew ?_ | refine below_drewN ?_ _)); all_goals (simp <;> omega))⟩
  · have h1' : (x.key.toList == y.key.toList) = false := by rw [toList_beq, decide_eq_false h1]
    have H := Lib.hid h1
    clear h1
    go_enter Try.func85, Try.ntmps85
    go_wp2
    go_ret
    exact ⟨ret_bool (by unfold eqT; rw [decide_eq_false H.out]; simp), (by (repeat (with_reducible first | exact Below.refl _ _ | refine Below.alloc ?_ ?_ _ | refine Below.setCell ?_ ?_ _ | refine Below.drew ?_ | refine below_drewN ?_ _)); all_goals (simp <;> omega))⟩

set_option maxRecDepth 100000 in
set_option maxHeartbeats 1000000 in
theorem eqFunc_any (a : Option Addr) (l : List Trm) (cap : Nat) (b : Option Addr) (m : List Trm) (cap' : Nat) (w : World) (hl : AtT w a l) (hm : AtT w b m) :
    Calls Try.prog 84 #[.slice a l.length cap, .slice b m.length cap', .func (.func 85) #[] #[]] w fun e w' => e = .returned (.bool (eqL eqT l m)) ∧ Below w.heap.size w w' := by
  obtain ⟨hn1, hl⟩ := hl
  obtain ⟨hn2, hm⟩ := hm
  by_cases hlen : l.length = m.length
  rotate_left
  · have h0 : ((l.length : Int) != (m.length : Int)) = true := by simp; omega
    have hne := Lib.hid hlen
    clear hlen
    go_enter Try.func84, Try.ntmps84
    go_wp2
    go_ret
    exact ⟨ret_bool (eqL_len hne.out).symm, Below.refl _ _⟩
  · have h0 : ((l.length : Int) != (m.length : Int)) = false := by simp; omega
    have heq := Lib.hid hlen
    clear hlen
    go_enter Try.func84, Try.ntmps84
    go_wp2
    go_loopw [17] (fun i wr => ∃ k : Nat, k ≤ l.length ∧ i = .int .i64 k ∧ Hid (eqL eqT l m = eqL eqT (l.drop k) (m.drop k)) ∧ Below w.heap.size w wr) (fun i _ => l.length - (intOf i).toNat)
    case atStart => exact ⟨0, Nat.zero_le _, rfl, rfl, Below.refl _ _⟩
    case round =>
      obtain ⟨k, hk, rfl, hget, hbel⟩ := hrel
      by_cases hlt : k < l.length
      · have hlt2 : k < m.length := by have := heq.out; omega
        have hdrop := Lib.hid (eqL_drop (eq := eqT) (d := t0) hlt hlt2)
        obtain ⟨b1, o1, va, ca, ha1, hb1, x0, x1, x2, hva⟩ := hl k hlt
        obtain ⟨b2, o2, vb, cb, ha2, hb2, y0, y1, y2, hvb⟩ := hm k hlt2
        have c0 := cell_later hbel x0
        have c1 := cell_later hbel x1
        have c2 := cell_later hbel x2
        have d0 := cell_later hbel y0
        have d1 := cell_later hbel y1
        have d2 := cell_later hbel y2
        have hA : ∀ o o' : Obj, Below wr.heap.size wr ((wr.alloc o).alloc o') := fun o o' => ((Below.refl _ _).alloc (Nat.le_refl _) o).alloc (by simp) o'
        have hv1 := hva.below hbel
        have hv2 := hvb.below hbel
        have kl : (k : Int) < (l.length : Int) := by omega
        have km : (k : Int) < (m.length : Int) := by omega
        have hbw2 : b2 < wr.heap.size := by have := hbel.size; omega
        subst ha1
        subst ha2
        generalize hq1 : l.getD k t0 = q1 at *
        generalize hq2 : m.getD k t0 = q2 at *
        clear hq1 hq2 hl hm x0 x1 x2 y0 y1 y2 hva hvb
        obtain ⟨q10, q11, q12⟩ := q1
        obtain ⟨q20, q21, q22⟩ := q2
        simp only at c0 c1 c2 d0 d1 d2 hv1 hv2
        go_wp2_with fail
        refine (eqTerm_any ⟨q10, q11, q12⟩ ⟨q20, q21, q22⟩ _ _ _ _ _ (hv1.below (hA _ _)) (hv2.below (hA _ _))).mono ?_
        rintro e w1 ⟨rfl, hb1⟩
        have hbe := hbel.trans (((hA _ _).trans (hb1.mono (by simp <;> omega))).mono hbel.size)
        have HB := Lib.hid hbe
        clear hbe hb1 hbel
        go_wp2
        · go_ret
          have hx : eqT ⟨q10, q11, q12⟩ ⟨q20, q21, q22⟩ = false := by simpa using ‹(!eqT ⟨q10, q11, q12⟩ ⟨q20, q21, q22⟩) = true›
          exact ⟨ret_bool (by rw [hget.out, hdrop.out, hx]; rfl), HB.out⟩
        · go_roundw
          case rel =>
            have hx : eqT ⟨q10, q11, q12⟩ ⟨q20, q21, q22⟩ = true := by simpa using ‹(!eqT ⟨q10, q11, q12⟩ ⟨q20, q21, q22⟩) = false›
            exact ⟨k + 1, by omega, by go_num, by show _ = _; rw [hget.out, hdrop.out, hx]; rfl, HB.out⟩
          case measure => simp [intOf]; omega
      · go_wp2
        go_ret
        have h := hget.out
        rw [List.drop_eq_nil_of_le (by omega), List.drop_eq_nil_of_le (by have := heq.out; omega)] at h
        exact ⟨ret_bool (by rw [h]; rfl), hbel⟩

set_option maxRecDepth 100000 in
theorem eqTerms_any (a : Option Addr) (l : List Trm) (cap : Nat) (b : Option Addr) (m : List Trm) (cap' : Nat) (w : World) (hl : AtT w a l) (hm : AtT w b m) :
    Calls Try.prog 35 #[.slice a l.length cap, .slice b m.length cap'] w fun e w' => e = .returned (.bool (eqL eqT l m)) ∧ Below w.heap.size w w' := by
  go_enter Try.func35, Try.ntmps35
  go_wp2_with fail
  refine (eqFunc_any _ _ _ _ _ _ _ hl hm).mono ?_
  rintro e w1 ⟨rfl, hb1⟩
  go_wp2
  go_ret
  exact ⟨rfl, hb1⟩

end Go.Proofs.Ytnobgmdknalpdaa
