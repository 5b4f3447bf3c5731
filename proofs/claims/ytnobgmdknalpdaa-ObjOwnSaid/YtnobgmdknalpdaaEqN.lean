/-
  The contract of obj.EqNode, with slices.Equal of taints. No conditions beyond what is written in each statement.
-/
import Derived.Test.YtnobgmdknalpdaaEq4
import Derived.Test.YtnobgmdknalpdaaNode1
set_option linter.unusedSimpArgs false
set_option linter.unusedVariables false
namespace Go.Proofs.Ytnobgmdknalpdaa
open Go.RowKit

set_option maxRecDepth 100000 in
set_option maxHeartbeats 1000000 in
theorem eqListN_any (a : Option Addr) (l : List Str2) (cap : Nat) (b : Option Addr) (m : List Str2) (cap' : Nat) (w : World) (hl : At2 w a l) (hm : At2 w b m) (hn1 : l.length ≤ 9223372036854775807) (hn2 : m.length ≤ 9223372036854775807) :
    Calls Try.prog 37 #[.slice a l.length cap, .slice b m.length cap'] w fun e w' => e = .returned (.bool (eqL eqP l m)) ∧ Below w.heap.size w w' := by
  skip
  go_enter Try.func37, Try.ntmps37
  go_wp2
  · go_ret
    have h : ((l.length : Int) != (m.length : Int)) = true := by assumption
    have hne : l.length ≠ m.length := by simp at h; omega
    exact ⟨ret_bool (eqL_len hne).symm, Below.refl _ _⟩
  · have h : ((l.length : Int) != (m.length : Int)) = false := by assumption
    have heq : Hid (l.length = m.length) := by show _ = _; simp at h; omega
    clear h
    go_loopw [13] (fun i wr => ∃ k : Nat, k ≤ l.length ∧ i = .int .i64 k ∧ Hid (eqL eqP l m = eqL eqP (l.drop k) (m.drop k)) ∧ ∃ nd : Nat, wr = w.drewN nd) (fun i _ => l.length - (intOf i).toNat)
    case atStart => exact ⟨0, Nat.zero_le _, rfl, rfl, 0, rfl⟩
    case round =>
      obtain ⟨k, hk, rfl, hget, nd, rfl⟩ := hrel
      by_cases hlt : k < l.length
      · have hlt2 : k < m.length := by have := heq.out; omega
        have hdrop := Lib.hid (eqL_drop (eq := eqP) (d := e2) hlt hlt2)
        obtain ⟨b1, o1, ha1, hb1, c1, d1⟩ := hl k hlt; subst ha1
        obtain ⟨b2, o2, ha2, hb2, c2, d2⟩ := hm k hlt2; subst ha2
        have kl : (k : Int) < (l.length : Int) := by omega
        have km : (k : Int) < (m.length : Int) := by omega
        generalize hq1 : l.getD k e2 = q1 at *
        generalize hq2 : m.getD k e2 = q2 at *
        clear hq1 hq2
        clear hl hm; obtain ⟨q10, q11⟩ := q1; obtain ⟨q20, q21⟩ := q2; simp only at c1 d1 c2 d2; have gd := guardN; have he := eq_N q10 q11 q20 q21
        go_wp2
        go_quiet (fail)
        go_wp2
        · go_ret
          have hx : eqP (q10, q11) (q20, q21) = false := by simpa using ‹(!eqP (q10, q11) (q20, q21)) = true›
          exact ⟨ret_bool (by rw [hget.out, hdrop.out, hx]; rfl), (by (repeat (with_reducible first | exact Below.refl _ _ | refine Below.alloc ?_ ?_ _ | refine Below.setCell ?_ ?_ _ | refine Below.drew ?_ | refine below_drewN ?_ _)); all_goals (simp <;> omega))⟩
        · go_roundw
          case rel =>
            have hx : eqP (q10, q11) (q20, q21) = true := by simpa using ‹(!eqP (q10, q11) (q20, q21)) = false›
            exact ⟨k + 1, by omega, by go_num, by show _ = _; rw [hget.out, hdrop.out, hx]; rfl, _, rfl⟩
          case measure => simp [intOf]; omega
      · go_wp2
        go_ret
        have h := hget.out
        rw [List.drop_eq_nil_of_le (by omega), List.drop_eq_nil_of_le (by have := heq.out; omega)] at h
        exact ⟨ret_bool (by rw [h]; rfl), (by (repeat (with_reducible first | exact Below.refl _ _ | refine Below.alloc ?_ ?_ _ | refine Below.setCell ?_ ?_ _ | refine Below.drew ?_ | refine below_drewN ?_ _)); all_goals (simp <;> omega))⟩

def eqNodeB (p q : NodeD) : Bool := decide (p.name = q.name) && eqRB p.r0 p.r1 p.r2 q.r0 q.r1 q.r2 && eqL eqP p.labels q.labels && eqL eqP p.taints q.taints

set_option maxRecDepth 100000 in
set_option maxHeartbeats 4000000 in
theorem eqNode_any (p q : NodeD) (h k : NodeH) (w : World) (hp : NodeAt w p h) (hq : NodeAt w q k) :
    Calls Try.prog 10 #[nodeV p h, nodeV q k] w fun e w' => e = .returned (.bool (eqNodeB p q)) ∧ Below w.heap.size w w' := by
  cases h1f : decide (p.name = q.name)
  · have h1 : (p.name.toList == q.name.toList) = false := by rw [toList_beq, h1f]
    have G := Lib.hid h1f
    clear h1f
    go_enter Try.func10, Try.ntmps10
    go_wp2
    go_ret
    exact ⟨ret_bool (by unfold eqNodeB; rw [G.out]; rfl), (by (repeat (with_reducible first | exact Below.refl _ _ | refine Below.alloc ?_ ?_ _ | refine Below.setCell ?_ ?_ _ | refine Below.drew ?_ | refine below_drewN ?_ _)); all_goals (simp <;> omega))⟩
  have h1 : (p.name.toList == q.name.toList) = true := by rw [toList_beq, h1f]
  have gd := guardR
  have he := eq_R p.r0 p.r1 p.r2 q.r0 q.r1 q.r2
  cases h4 : eqRB p.r0 p.r1 p.r2 q.r0 q.r1 q.r2
  · have G := Lib.hid (And.intro h1f h4)
    clear h1f
    go_enter Try.func10, Try.ntmps10
    go_wp2
    go_ret
    exact ⟨ret_bool (by unfold eqNodeB; rw [G.out.1, G.out.2]; rfl), (by (repeat (with_reducible first | exact Below.refl _ _ | refine Below.alloc ?_ ?_ _ | refine Below.setCell ?_ ?_ _ | refine Below.drew ?_ | refine below_drewN ?_ _)); all_goals (simp <;> omega))⟩
  have G := Lib.hid (show eqNodeB p q = (eqL eqP p.labels q.labels && eqL eqP p.taints q.taints) by unfold eqNodeB; rw [h1f, h4]; simp)
  clear h1f
  have hbw0 : Below w.heap.size w ((w.alloc (nodeBox p h)).alloc (nodeBox q k)) := ((Below.refl _ _).alloc (Nat.le_refl _) _).alloc (by simp) _
  have hq0 : w.heap.size + 1 < ((w.alloc (nodeBox p h)).alloc (nodeBox q k)).heap.size := by simp
  have H0 := Lib.hid (And.intro hbw0 hq0)
  clear hbw0 hq0
  go_enter Try.func10, Try.ntmps10
  go_wp2_with fail
  obtain ⟨hbw0, hq0⟩ := H0.out
  have hx0 : True := trivial
  have hy0 : True := trivial
  clear H0 h1 h4 gd he
  go_wp2_with fail
  refine Calls.mono (eqListP_any _ _ _ _ _ _ _ (hp.labels.below hbw0) (hq.labels.below hbw0) hp.labn hq.labn) ?_
  rintro e w1 ⟨rfl, hb1⟩
  have hx1 : ∀ o, w1.cell? ⟨w.heap.size, o, none⟩ = ((w.alloc (nodeBox p h)).alloc (nodeBox q k)).cell? ⟨w.heap.size, o, none⟩ := fun o => (hb1.cell (p := ⟨w.heap.size, o, none⟩) (Nat.lt_of_succ_lt hq0)).trans rfl
  have hy1 : ∀ o, w1.cell? ⟨w.heap.size + 1, o, none⟩ = ((w.alloc (nodeBox p h)).alloc (nodeBox q k)).cell? ⟨w.heap.size + 1, o, none⟩ := fun o => (hb1.cell (p := ⟨w.heap.size + 1, o, none⟩) hq0).trans rfl
  have hbw1 : Below w.heap.size w w1 := hbw0.trans (hb1.mono hbw0.size)
  have hq1 : w.heap.size + 1 < w1.heap.size := Nat.lt_of_lt_of_le hq0 hb1.size
  clear hb1 hx0 hy0 hq0
  cases g1 : eqL eqP p.labels q.labels
  · go_wp2
    go_ret
    exact ⟨ret_bool (by rw [G.out, g1]; rfl), hbw1⟩
  clear hbw0
  go_wp2_with fail
  refine Calls.mono (eqListN_any _ _ _ _ _ _ _ (hp.taints.below hbw1) (hq.taints.below hbw1) hp.tain hq.tain) ?_
  rintro e w2 ⟨rfl, hb2⟩
  have hbw2 : Below w.heap.size w w2 := hbw1.trans (hb2.mono hbw1.size)
  go_wp2
  go_ret
  exact ⟨ret_bool (by rw [G.out, g1]; simp), hbw2⟩
end Go.Proofs.Ytnobgmdknalpdaa
