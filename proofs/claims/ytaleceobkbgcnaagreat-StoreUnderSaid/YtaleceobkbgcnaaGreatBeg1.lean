/-
  The contract of the laws' own pod. No conditions beyond what is written in each statement.
-/
import Derived.Test.YtaleceobkbgcnaaGreatLease
import Derived.Test.YtaleceobkbgcnaaGreatKey
import Derived.Test.YtaleceobkbgcnaaGreatGet12
set_option linter.unusedSimpArgs false
set_option linter.unusedVariables false
namespace Go.Proofs.YtaleceobkbgcnaaGreat
open Go.RowKit

def tA : ByteArray := ⟨#[97]⟩
def tB : ByteArray := ⟨#[98]⟩
def tX : ByteArray := ⟨#[120]⟩
def tApp : ByteArray := ⟨#[97, 112, 112]⟩
def tZone : ByteArray := ⟨#[122, 111, 110, 101]⟩
def someP : PodD := ⟨tA, 7, 3, 2, 3, 0, [80, 443], [(tApp, tX)], [⟨tZone, 1, [tA, tB]⟩], [(⟨#[]⟩, ⟨#[]⟩, true)], tZone, [⟨tApp, 3, []⟩], 2, [], ⟨#[]⟩, 0⟩

def valInt : Value → Int
  | .int _ x => x
  | _ => 0
theorem some_round : getPodR ((podBytes someP).map valInt) = some someP := by kernel_rfl

theorem alloc7 {w W : World} {o0 o1 o2 o3 o4 o5 o6 : Obj} (h : (((((((w.alloc o0).alloc o1).alloc o2).alloc o3).alloc o4).alloc o5).alloc o6) = W) :
    W.heap[w.heap.size]? = some o0 ∧ W.heap[w.heap.size + 1]? = some o1 ∧ W.heap[w.heap.size + 1 + 1]? = some o2 ∧ W.heap[w.heap.size + 1 + 1 + 1]? = some o3 ∧ W.heap[w.heap.size + 1 + 1 + 1 + 1]? = some o4
    ∧ W.heap[w.heap.size + 1 + 1 + 1 + 1 + 1]? = some o5 ∧ W.heap[w.heap.size + 1 + 1 + 1 + 1 + 1 + 1]? = some o6 ∧ W.heap.size = w.heap.size + 7 ∧ Below w.heap.size w W := by
  subst h
  have e : ∀ (v : World) (o : Obj), (v.alloc o).heap = v.heap.push o := fun _ _ => rfl
  refine ⟨?_, ?_, ?_, ?_, ?_, ?_, ?_, ?_, (by (repeat (with_reducible first | exact Below.refl _ _ | refine Below.alloc ?_ ?_ _ | refine Below.setCell ?_ ?_ _ | refine Below.drew ?_ | refine below_drewN ?_ _)); all_goals (simp <;> omega))⟩
  all_goals (simp only [e, Array.getElem?_push, Array.size_push])
  all_goals (repeat' split)
  all_goals (first | rfl | omega | (exfalso; omega) | contradiction | simp_all)
set_option maxRecDepth 100000 in
set_option maxHeartbeats 4000000 in
theorem some_any (w : World) :
    Calls Tryz.prog 154 #[] w fun e w' => ∃ h, e = .returned (podV someP h) ∧ PodAt w' someP h ∧ Below w.heap.size w w' := by
  go_enter Tryz.func154, Tryz.ntmps154
  go_wp2
  generalize hW : (((((((w.alloc _).alloc _).alloc _).alloc _).alloc _).alloc _).alloc _) = W
  obtain ⟨k0, k1, k2, k3, k4, k5, k6, hz, hb⟩ := alloc7 hW
  clear hW
  let h : PodH := ⟨some ⟨w.heap.size + 1, 0, none⟩, 2, some ⟨w.heap.size + 1 + 1, 0, none⟩, 1, some ⟨w.heap.size + 1 + 1 + 1 + 1, 0, none⟩, 1, some ⟨w.heap.size + 1 + 1 + 1 + 1 + 1, 0, none⟩, 1, some ⟨w.heap.size + 1 + 1 + 1 + 1 + 1 + 1, 0, none⟩, 1, none, 0⟩
  refine bodyPost_ret (v := podV someP h) (results_cell_row Tryz.results154 _ _ w.heap.size 217 _ (0, 0) _ rfl k0 Tryz.underlying217 rfl (by kernel_rfl)) rfl ?_
  refine ⟨h, rfl, ?_, hb⟩
  refine ⟨?_, ?_, ?_, ?_, ?_, ?_, ?_⟩
  · refine ⟨by decide, fun i hi => ?_⟩
    match i, hi with
    | 0, _ => exact ⟨_, 0, rfl, by omega, cell_of_obj k1 0⟩
    | 1, _ => exact ⟨_, 0, rfl, by omega, cell_of_obj k1 1⟩
  · intro i hi
    match i, hi with
    | 0, _ => exact ⟨_, 0, rfl, by omega, cell_of_obj k2 0, cell_of_obj k2 1⟩
  · decide
  · refine ⟨by decide, fun i hi => ?_⟩
    match i, hi with
    | 0, _ =>
      refine ⟨_, 0, _, _, rfl, by omega, cell_of_obj k4 0, cell_of_obj k4 1, cell_of_obj k4 2, ?_⟩
      refine ⟨by decide, fun i hi => ?_⟩
      match i, hi with
      | 0, _ => exact ⟨_, 0, rfl, by omega, cell_of_obj k3 0⟩
      | 1, _ => exact ⟨_, 0, rfl, by omega, cell_of_obj k3 1⟩
  · refine ⟨by decide, fun i hi => ?_⟩
    match i, hi with
    | 0, _ => exact ⟨_, 0, rfl, by omega, cell_of_obj k5 0, cell_of_obj k5 1, cell_of_obj k5 2⟩
  · refine ⟨by decide, fun i hi => ?_⟩
    match i, hi with
    | 0, _ =>
      refine ⟨_, 0, none, 0, rfl, by omega, cell_of_obj k6 0, cell_of_obj k6 1, cell_of_obj k6 2, ?_⟩
      exact ⟨by decide, fun i hi => absurd hi (Nat.not_lt_zero i)⟩
  · exact ⟨by decide, fun i hi => absurd hi (Nat.not_lt_zero i)⟩
end Go.Proofs.YtaleceobkbgcnaaGreat
