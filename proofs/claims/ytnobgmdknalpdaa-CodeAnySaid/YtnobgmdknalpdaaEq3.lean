/-
  The contract of obj.EqPod. No conditions beyond what is written in each statement.
-/
import Derived.Test.YtnobgmdknalpdaaEq2
set_option linter.unusedSimpArgs false
set_option linter.unusedVariables false
namespace Go.Proofs.Ytnobgmdknalpdaa
open Go.RowKit

def eqPodB (p q : PodD) : Bool := decide (p.name = q.name) && (p.uid == q.uid) && (p.prio == q.prio) && eqRB p.r0 p.r1 p.r2 q.r0 q.r1 q.r2 && eqL eqI p.ports q.ports && eqL eqP p.labels q.labels && eqL eqT p.sel q.sel && eqL eqK p.tols q.tols
  && decide (p.topo = q.topo) && eqL eqT p.anti q.anti && (p.skew == q.skew) && eqL eqT p.even q.even && decide (p.node = q.node) && (p.term == q.term)

set_option maxRecDepth 100000 in
set_option maxHeartbeats 4000000 in
theorem eqPod_1 (p q : PodD) (h k : PodH) (w : World) (hf : decide (p.name = q.name) = false) :
    Calls Try.prog 9 #[podV p h, podV q k] w fun e w' => e = .returned (.bool false) ∧ Below w.heap.size w w' := by
  have h1 : (p.name.toList == q.name.toList) = false := by rw [toList_beq, hf]
  clear hf
  go_enter Try.func9, Try.ntmps9
  go_wp2
  go_ret
  exact ⟨rfl, (by (repeat (with_reducible first | exact Below.refl _ _ | refine Below.alloc ?_ ?_ _ | refine Below.setCell ?_ ?_ _ | refine Below.drew ?_ | refine below_drewN ?_ _)); all_goals (simp <;> omega))⟩
set_option maxRecDepth 100000 in
set_option maxHeartbeats 4000000 in
theorem eqPod_2 (p q : PodD) (h k : PodH) (w : World) (h1f : decide (p.name = q.name) = true) (h2 : (p.uid == q.uid) = false) :
    Calls Try.prog 9 #[podV p h, podV q k] w fun e w' => e = .returned (.bool false) ∧ Below w.heap.size w w' := by
  have h1 : (p.name.toList == q.name.toList) = true := by rw [toList_beq, h1f]
  clear h1f
  go_enter Try.func9, Try.ntmps9
  go_wp2
  go_ret
  exact ⟨rfl, (by (repeat (with_reducible first | exact Below.refl _ _ | refine Below.alloc ?_ ?_ _ | refine Below.setCell ?_ ?_ _ | refine Below.drew ?_ | refine below_drewN ?_ _)); all_goals (simp <;> omega))⟩
set_option maxRecDepth 100000 in
set_option maxHeartbeats 4000000 in
theorem eqPod_3 (p q : PodD) (h k : PodH) (w : World) (h1f : decide (p.name = q.name) = true) (h2 : (p.uid == q.uid) = true) (h3 : (p.prio == q.prio) = false) :
    Calls Try.prog 9 #[podV p h, podV q k] w fun e w' => e = .returned (.bool false) ∧ Below w.heap.size w w' := by
  have h1 : (p.name.toList == q.name.toList) = true := by rw [toList_beq, h1f]
  clear h1f
  go_enter Try.func9, Try.ntmps9
  go_wp2
  go_ret
  exact ⟨rfl, (by (repeat (with_reducible first | exact Below.refl _ _ | refine Below.alloc ?_ ?_ _ | refine Below.setCell ?_ ?_ _ | refine Below.drew ?_ | refine below_drewN ?_ _)); all_goals (simp <;> omega))⟩
set_option maxRecDepth 100000 in
set_option maxHeartbeats 4000000 in
theorem eqPod_4 (p q : PodD) (h k : PodH) (w : World) (h1f : decide (p.name = q.name) = true) (h2 : (p.uid == q.uid) = true) (h3 : (p.prio == q.prio) = true) (h4 : eqRB p.r0 p.r1 p.r2 q.r0 q.r1 q.r2 = false) :
    Calls Try.prog 9 #[podV p h, podV q k] w fun e w' => e = .returned (.bool false) ∧ Below w.heap.size w w' := by
  have h1 : (p.name.toList == q.name.toList) = true := by rw [toList_beq, h1f]
  clear h1f
  have gd := guardR
  have he := eq_R p.r0 p.r1 p.r2 q.r0 q.r1 q.r2
  go_enter Try.func9, Try.ntmps9
  go_wp2
  go_ret
  exact ⟨rfl, (by (repeat (with_reducible first | exact Below.refl _ _ | refine Below.alloc ?_ ?_ _ | refine Below.setCell ?_ ?_ _ | refine Below.drew ?_ | refine below_drewN ?_ _)); all_goals (simp <;> omega))⟩
end Go.Proofs.Ytnobgmdknalpdaa
