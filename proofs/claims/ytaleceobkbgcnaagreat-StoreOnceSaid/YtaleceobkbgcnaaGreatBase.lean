/-
  Small facts that all contracts use: equal results, and what a world keeps below a block.
-/
import Derived.Test.YtaleceobkbgcnaaGreatProg
import Derived.WalkKit
import Derived.WalkSpells
import Derived.WalkLawsBesides
import Derived.Deep.Light
import Derived.Deep.QuietTactic
import Derived.BigQuiet
import Derived.StillTailTactics
import Derived.LoopTactic
import Derived.Lib.Hide
set_option linter.unusedSimpArgs false
set_option linter.unusedVariables false
namespace Go.Proofs.YtaleceobkbgcnaaGreat
open Go.RowKit

theorem ret_int {k : IntKind} {a b : Int} (h : a = b) : Ending.returned (.int k a) = .returned (.int k b) := by rw [h]
theorem ret_bool {a b : Bool} (h : a = b) : Ending.returned (.bool a) = .returned (.bool b) := by rw [h]

/-- Old cells and old marks read as before. -/
theorem bcell {W w1 : World} (hb : Below W.heap.size W w1) : (∀ b o, b < W.heap.size → w1.cell? ⟨b, o, none⟩ = W.cell? ⟨b, o, none⟩) ∧ (∀ b o, b < W.heap.size → w1.frozen? ⟨b, o, none⟩ = W.frozen? ⟨b, o, none⟩) :=
  ⟨fun b o h => hb.cell (p := ⟨b, o, none⟩) h, fun b o h => hb.frozen (p := ⟨b, o, none⟩) h⟩

theorem toList_inj {a b : ByteArray} : a.toList = b.toList ↔ a = b := by
  rw [ByteArray.toList_eq, ByteArray.toList_eq]
  exact ⟨fun h => ByteArray.ext (Array.toList_inj.mp h), fun h => by rw [h]⟩
theorem toList_beq (a b : ByteArray) : (a.toList == b.toList) = decide (a = b) := by
  rw [Bool.eq_iff_iff]; simp [toList_inj]
theorem eq_of_beq_toList {a b : ByteArray} (h : (a.toList == b.toList) = true) : a = b := by rw [toList_beq] at h; exact of_decide_eq_true h
theorem ne_of_beq_toList {a b : ByteArray} (h : (a.toList == b.toList) = false) : a ≠ b := by rw [toList_beq] at h; exact of_decide_eq_false h
theorem toList_isEmpty (a : ByteArray) : a.toList.isEmpty = decide (a = ByteArray.empty) := by
  rw [Bool.eq_iff_iff]
  simp only [List.isEmpty_iff, decide_eq_true_eq]
  rw [show ([] : List UInt8) = ByteArray.empty.toList by rw [ByteArray.toList_eq]; rfl]
  exact toList_inj
theorem toList_nil (a : ByteArray) : a.toList = [] ↔ a = ByteArray.empty := by
  rw [show ([] : List UInt8) = ByteArray.empty.toList by rw [ByteArray.toList_eq]; rfl]
  exact toList_inj
theorem all_drop {α : Type} {l : List α} {k : Nat} {d : α} (f : α → Bool) (h : k < l.length) : (l.drop k).all f = (f (l.getD k d) && (l.drop (k + 1)).all f) := by
  rw [List.drop_eq_getElem_cons h, List.getD_eq_getElem?_getD, List.getElem?_eq_getElem h]; rfl
theorem any_drop {α : Type} {l : List α} {k : Nat} {d : α} (f : α → Bool) (h : k < l.length) : (l.drop k).any f = (f (l.getD k d) || (l.drop (k + 1)).any f) := by
  rw [List.drop_eq_getElem_cons h, List.getD_eq_getElem?_getD, List.getElem?_eq_getElem h]; rfl
end Go.Proofs.YtaleceobkbgcnaaGreat
