/-
  The reference's comparisons of pods and nodes that are alike. No conditions beyond what is written in each statement.
-/
import Derived.Test.YtnobgmdknalpdaaRef6
set_option linter.unusedSimpArgs false
set_option linter.unusedVariables false
namespace Go.Proofs.Ytnobgmdknalpdaa
open Go.RowKit

set_option maxRecDepth 100000 in
set_option maxHeartbeats 8000000 in
theorem refPod_same (p : PodD) (h k : PodH) (w : World) (hp : PodAt w p h) (hq : PodAt w p k) :
    Calls Try.prog 17 #[podV p h, podV p k] w fun e w' => e = .returned (.bool true) ∧ Below w.heap.size w w' := by
  obtain ⟨pa, pc, la, lc, sa, sc, ta, tc, aa, ac, ea, ec⟩ := h
  obtain ⟨pa', pc', la', lc', sa', sc', ta', tc', aa', ac', ea', ec'⟩ := k
  obtain ⟨p1, p2, p3, p4, p5, p6, p7⟩ := hp
  obtain ⟨q1, q2, q3, q4, q5, q6, q7⟩ := hq
  simp only at p1 p2 p4 p5 p6 p7 q1 q2 q4 q5 q6 q7
  have n1 := p1.1
  have n5 := p5.1
  have bb : Below w.heap.size w ((w.alloc (podBox p ⟨pa, pc, la, lc, sa, sc, ta, tc, aa, ac, ea, ec⟩)).alloc (podBox p ⟨pa', pc', la', lc', sa', sc', ta', tc', aa', ac', ea', ec'⟩)) := ((Below.refl _ _).alloc (Nat.le_refl _) _).alloc (by simp) _
  have HB := Lib.hid bb
  clear bb
  go_enter Try.func17, Try.ntmps17
  go_wp2_with fail
  go_loopw [26] (fun i wr => ∃ k : Nat, k ≤ p.ports.length ∧ i = .int .i64 k ∧ ∃ nd : Nat, wr = ((w.alloc (podBox p ⟨pa, pc, la, lc, sa, sc, ta, tc, aa, ac, ea, ec⟩)).alloc (podBox p ⟨pa', pc', la', lc', sa', sc', ta', tc', aa', ac', ea', ec'⟩)).drewN nd) (fun i _ => p.ports.length - (intOf i).toNat)
  case atStart => exact ⟨0, Nat.zero_le _, rfl, 0, rfl⟩
  case round =>
    obtain ⟨i, hi, rfl, nd, rfl⟩ := hrel
    by_cases hlt : i < p.ports.length
    · obtain ⟨b1, o1, ha1, hb1, c1⟩ := p1.2 i hlt
      obtain ⟨b2, o2, ha2, hb2, c2⟩ := q1.2 i hlt
      have c1 := cell_later HB.out c1
      have c2 := cell_later HB.out c2
      subst ha1 ha2
      have kl : (i : Int) < (p.ports.length : Int) := by omega
      clear p1 q1 p2 p4 p5 p6 p7 q2 q4 q5 q6 q7
      generalize p.ports.getD i 0 = q at *
      go_wp2_with fail
      go_quiet (fail)
      go_wp2
      go_roundw
      case rel => exact ⟨i + 1, by omega, by go_num, _, rfl⟩
      case measure => simp [intOf]; omega
    · clear p1 q1
      go_wp2_with fail
      go_loopw [44] (fun i wr => ∃ k : Nat, k ≤ p.tols.length ∧ i = .int .i64 k ∧ ∃ nd : Nat, wr = ((w.alloc (podBox p ⟨pa, pc, la, lc, sa, sc, ta, tc, aa, ac, ea, ec⟩)).alloc (podBox p ⟨pa', pc', la', lc', sa', sc', ta', tc', aa', ac', ea', ec'⟩)).drewN nd) (fun i _ => p.tols.length - (intOf i).toNat)
      case atStart => exact ⟨0, Nat.zero_le _, rfl, _, rfl⟩
      case round =>
        obtain ⟨j, hj, rfl, nd2, rfl⟩ := hrel
        by_cases hlj : j < p.tols.length
        · obtain ⟨b1, o1, ha1, hb1, c1, d1, f1⟩ := p5.2 j hlj
          obtain ⟨b2, o2, ha2, hb2, c2, d2, f2⟩ := q5.2 j hlj
          have c1 := cell_later HB.out c1
          have d1 := cell_later HB.out d1
          have f1 := cell_later HB.out f1
          have c2 := cell_later HB.out c2
          have d2 := cell_later HB.out d2
          have f2 := cell_later HB.out f2
          subst ha1 ha2
          have kl : (j : Int) < (p.tols.length : Int) := by omega
          clear p2 p4 p5 p6 p7 q2 q4 q5 q6 q7
          generalize p.tols.getD j e3 = q at *
          obtain ⟨q0, q1, q2⟩ := q
          simp only at c1 d1 f1 c2 d2 f2
          have gd := guardL
          have he := eq_L q0 q1 q0 q1 q2 q2
          rw [eqK_self] at he
          go_wp2_with fail
          go_quiet (fail)
          go_wp2
          go_roundw
          case rel => exact ⟨j + 1, by omega, by go_num, _, rfl⟩
          case measure => simp [intOf]; omega
        · clear p5 q5
          generalize hW : ((w.alloc (podBox p ⟨pa, pc, la, lc, sa, sc, ta, tc, aa, ac, ea, ec⟩)).alloc (podBox p ⟨pa', pc', la', lc', sa', sc', ta', tc', aa', ac', ea', ec'⟩)).drewN nd2 = w0
          have hx0 : ∀ o, w0.cell? ⟨w.heap.size, o, none⟩ = (w.alloc (podBox p ⟨pa, pc, la, lc, sa, sc, ta, tc, aa, ac, ea, ec⟩)).cell? ⟨w.heap.size, o, none⟩ := fun o => by rw [← hW]; simp [go_sem]
          have hy0 : ∀ o, w0.cell? ⟨w.heap.size + 1, o, none⟩ = ((w.alloc (podBox p ⟨pa, pc, la, lc, sa, sc, ta, tc, aa, ac, ea, ec⟩)).alloc (podBox p ⟨pa', pc', la', lc', sa', sc', ta', tc', aa', ac', ea', ec'⟩)).cell? ⟨w.heap.size + 1, o, none⟩ := fun o => by rw [← hW]; simp [go_sem]
          have hq0 : w.heap.size + 1 < w0.heap.size := by rw [← hW]; simp
          have hbw0 : Below w.heap.size w w0 := by rw [← hW]; exact below_drewN HB.out _
          clear hW HB
          have gd := guardR
          have he := eq_R p.r0 p.r1 p.r2 p.r0 p.r1 p.r2
          rw [eqRB_self] at he
          go_wp2_with fail
          refine Calls.mono (pairs_same _ _ _ _ _ _ (p2.below hbw0) (q2.below hbw0) p3) ?_
          rintro e w1 ⟨rfl, hb1⟩
          have hx1 := fun o => (hb1.cell (p := ⟨w.heap.size, o, none⟩) (Nat.lt_of_succ_lt hq0)).trans (hx0 o)
          have hy1 := fun o => (hb1.cell (p := ⟨w.heap.size + 1, o, none⟩) hq0).trans (hy0 o)
          have hq1 := Nat.lt_of_lt_of_le hq0 hb1.size
          have hbw1 : Below w.heap.size w w1 := hbw0.trans (hb1.mono hbw0.size)
          clear hb1 hx0 hy0 hq0
          clear gd he
          go_wp2_with fail
          refine Calls.mono (terms_same _ _ _ _ _ _ (p4.below hbw1) (q4.below hbw1)) ?_
          rintro e w2 ⟨rfl, hb2⟩
          have hx2 := fun o => (hb2.cell (p := ⟨w.heap.size, o, none⟩) (Nat.lt_of_succ_lt hq1)).trans (hx1 o)
          have hy2 := fun o => (hb2.cell (p := ⟨w.heap.size + 1, o, none⟩) hq1).trans (hy1 o)
          have hq2 := Nat.lt_of_lt_of_le hq1 hb2.size
          have hbw2 : Below w.heap.size w w2 := hbw1.trans (hb2.mono hbw1.size)
          clear hb2 hx1 hy1 hq1
          go_wp2_with fail
          refine Calls.mono (terms_same _ _ _ _ _ _ (p6.below hbw2) (q6.below hbw2)) ?_
          rintro e w3 ⟨rfl, hb3⟩
          have hx3 := fun o => (hb3.cell (p := ⟨w.heap.size, o, none⟩) (Nat.lt_of_succ_lt hq2)).trans (hx2 o)
          have hy3 := fun o => (hb3.cell (p := ⟨w.heap.size + 1, o, none⟩) hq2).trans (hy2 o)
          have hq3 := Nat.lt_of_lt_of_le hq2 hb3.size
          have hbw3 : Below w.heap.size w w3 := hbw2.trans (hb3.mono hbw2.size)
          clear hb3 hx2 hy2 hq2
          go_wp2_with fail
          refine Calls.mono (terms_same _ _ _ _ _ _ (p7.below hbw3) (q7.below hbw3)) ?_
          rintro e w4 ⟨rfl, hb4⟩
          have hx4 := fun o => (hb4.cell (p := ⟨w.heap.size, o, none⟩) (Nat.lt_of_succ_lt hq3)).trans (hx3 o)
          have hy4 := fun o => (hb4.cell (p := ⟨w.heap.size + 1, o, none⟩) hq3).trans (hy3 o)
          have hq4 := Nat.lt_of_lt_of_le hq3 hb4.size
          have hbw4 : Below w.heap.size w w4 := hbw3.trans (hb4.mono hbw3.size)
          clear hb4 hx3 hy3 hq3
          go_wp2
          go_ret
          exact ⟨rfl, hbw4⟩

set_option maxRecDepth 100000 in
set_option maxHeartbeats 8000000 in
theorem refNode_same (p : NodeD) (h k : NodeH) (w : World) (hp : NodeAt w p h) (hq : NodeAt w p k) :
    Calls Try.prog 18 #[nodeV p h, nodeV p k] w fun e w' => e = .returned (.bool true) ∧ Below w.heap.size w w' := by
  obtain ⟨la, lc, ta, tc⟩ := h
  obtain ⟨la', lc', ta', tc'⟩ := k
  obtain ⟨p1, p2, p3, p4⟩ := hp
  obtain ⟨q1, q2, q3, q4⟩ := hq
  simp only at p1 p3 q1 q3
  have bb : Below w.heap.size w ((w.alloc (nodeBox p ⟨la, lc, ta, tc⟩)).alloc (nodeBox p ⟨la', lc', ta', tc'⟩)) := ((Below.refl _ _).alloc (Nat.le_refl _) _).alloc (by simp) _
  have HB := Lib.hid bb
  clear bb
  go_enter Try.func18, Try.ntmps18
  go_wp2_with fail
  go_loopw [16] (fun i wr => ∃ k : Nat, k ≤ p.taints.length ∧ i = .int .i64 k ∧ ∃ nd : Nat, wr = ((w.alloc (nodeBox p ⟨la, lc, ta, tc⟩)).alloc (nodeBox p ⟨la', lc', ta', tc'⟩)).drewN nd) (fun i _ => p.taints.length - (intOf i).toNat)
  case atStart => exact ⟨0, Nat.zero_le _, rfl, 0, rfl⟩
  case round =>
    obtain ⟨i, hi, rfl, nd, rfl⟩ := hrel
    by_cases hlt : i < p.taints.length
    · obtain ⟨b1, o1, ha1, hb1, c1, d1⟩ := p3 i hlt
      obtain ⟨b2, o2, ha2, hb2, c2, d2⟩ := q3 i hlt
      have c1 := cell_later HB.out c1
      have c2 := cell_later HB.out c2
      have d1 := cell_later HB.out d1
      have d2 := cell_later HB.out d2
      subst ha1 ha2
      have kl : (i : Int) < (p.taints.length : Int) := by omega
      clear p1 q1 p3 q3
      generalize p.taints.getD i e2 = q at *
      obtain ⟨q0, q1⟩ := q
      simp only at c1 d1 c2 d2
      have gd := guardN
      have he := eq_N q0 q1 q0 q1
      rw [eqP_self] at he
      go_wp2_with fail
      go_quiet (fail)
      go_wp2
      go_roundw
      case rel => exact ⟨i + 1, by omega, by go_num, _, rfl⟩
      case measure => simp [intOf]; omega
    · generalize hW : ((w.alloc (nodeBox p ⟨la, lc, ta, tc⟩)).alloc (nodeBox p ⟨la', lc', ta', tc'⟩)).drewN nd = w0
      have hx0 : ∀ o, w0.cell? ⟨w.heap.size, o, none⟩ = (w.alloc (nodeBox p ⟨la, lc, ta, tc⟩)).cell? ⟨w.heap.size, o, none⟩ := fun o => by rw [← hW]; simp [go_sem]
      have hy0 : ∀ o, w0.cell? ⟨w.heap.size + 1, o, none⟩ = ((w.alloc (nodeBox p ⟨la, lc, ta, tc⟩)).alloc (nodeBox p ⟨la', lc', ta', tc'⟩)).cell? ⟨w.heap.size + 1, o, none⟩ := fun o => by rw [← hW]; simp [go_sem]
      have hq0 : w.heap.size + 1 < w0.heap.size := by rw [← hW]; simp
      have hbw0 : Below w.heap.size w w0 := by rw [← hW]; exact below_drewN HB.out _
      clear hW HB
      have gd := guardR
      have he := eq_R p.r0 p.r1 p.r2 p.r0 p.r1 p.r2
      rw [eqRB_self] at he
      go_wp2_with fail
      refine Calls.mono (pairs_same _ _ _ _ _ _ (p1.below hbw0) (q1.below hbw0) p2) ?_
      rintro e w1 ⟨rfl, hb1⟩
      have hx1 := fun o => (hb1.cell (p := ⟨w.heap.size, o, none⟩) (Nat.lt_of_succ_lt hq0)).trans (hx0 o)
      have hy1 := fun o => (hb1.cell (p := ⟨w.heap.size + 1, o, none⟩) hq0).trans (hy0 o)
      have hq1 := Nat.lt_of_lt_of_le hq0 hb1.size
      have hbw1 : Below w.heap.size w w1 := hbw0.trans (hb1.mono hbw0.size)
      clear hb1 hx0 hy0 hq0
      go_wp2
      go_ret
      exact ⟨rfl, hbw1⟩
end Go.Proofs.Ytnobgmdknalpdaa
