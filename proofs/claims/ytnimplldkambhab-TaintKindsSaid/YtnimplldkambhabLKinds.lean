/-
  The law TaintKinds's walk. No conditions beyond what is written in each statement.
-/
import Derived.Test.YtnimplldkambhabBeg2
set_option linter.unusedSimpArgs false
set_option linter.unusedVariables false
namespace Go.Proofs.Ytnimplldkambhab
open Go.RowKit

theorem bears_v (k v : ByteArray) (any : Bool) (xk xv : ByteArray) (w : World) {r : Bool} (h : bearsB (k, v, any) (xk, xv) = r) :
    Calls Try.prog 20 #[.agg #[.string k, .string v, .bool any], .agg #[.string xk, .string xv]] w fun e w' => e = .returned (.bool r) ∧ Below w.heap.size w w' := by
  subst h; exact bears_any k v any xk xv w
abbrev boxN (x y : ByteArray) : Obj := .cells #[.string x, .string y] 44

set_option maxRecDepth 100000 in
set_option maxHeartbeats 4000000 in
theorem taintKinds_in (xk xv key val : ByteArray) (p q r : Bool) (w : World) (e1 : (key.toList == []) = p) (e1' : key.toList.isEmpty = p) (e2 : (key.toList == xk.toList) = q) (e3 : (val.toList == xv.toList) = r)
    (b1 : bearsB (⟨#[]⟩, ⟨#[]⟩, true) (xk, xv) = true) (b2 : bearsB (key, ⟨#[]⟩, true) (xk, xv) = (p || q)) (b3 : bearsB (key, val, false) (xk, xv) = ((p || q) && r)) (b4 : bearsB (⟨#[]⟩, val, false) (xk, xv) = r) :
    Calls Try.prog 8 #[.agg #[.string xk, .string xv], .string key, .string val] w fun e w' => e = .returned (.bool true) ∧ Below w.heap.size w w' := by
  cases p <;> cases q <;> cases r
  all_goals
    go_enter Try.func8, Try.ntmps8
    go_wp2_with fail
    refine (begun_any _).mono ?_
    rintro e w1 ⟨rfl, hb1⟩
    have hA1 : ∀ o, w1.cell? ⟨w.heap.size, o, none⟩ = (w.alloc (boxN xk xv)).cell? ⟨w.heap.size, o, none⟩ := fun o => hb1.cell (p := ⟨w.heap.size, o, none⟩) (by simp)
    have hz1 : w.heap.size < w1.heap.size := by have := hb1.size; simp at this; omega
    have hbw1 : Below w.heap.size w w1 := ((Below.refl _ _).alloc (Nat.le_refl _) _).trans (hb1.mono (by simp))
    clear hb1
    go_wp2_with fail
    refine Calls.mono (bears_v _ _ _ _ _ _ b1) ?_
    rintro e w2 ⟨rfl, hX2⟩
    have hA2 : ∀ o, w2.cell? ⟨w.heap.size, o, none⟩ = (w.alloc (boxN xk xv)).cell? ⟨w.heap.size, o, none⟩ := fun o => (hX2.cell (p := ⟨w.heap.size, o, none⟩) hz1).trans (hA1 o)
    have hz2 : w.heap.size < w2.heap.size := Nat.lt_of_lt_of_le hz1 hX2.size
    have hbw2 : Below w.heap.size w w2 := hbw1.trans (hX2.mono (Nat.le_of_lt hz1))
    clear hX2 hA1 hbw1 hz1
    go_wp2_with fail
    refine Calls.mono (bears_v _ _ _ _ _ _ b2) ?_
    rintro e w3 ⟨rfl, hX3⟩
    have hA3 : ∀ o, w3.cell? ⟨w.heap.size, o, none⟩ = (w.alloc (boxN xk xv)).cell? ⟨w.heap.size, o, none⟩ := fun o => (hX3.cell (p := ⟨w.heap.size, o, none⟩) hz2).trans (hA2 o)
    have hz3 : w.heap.size < w3.heap.size := Nat.lt_of_lt_of_le hz2 hX3.size
    have hbw3 : Below w.heap.size w w3 := hbw2.trans (hX3.mono (Nat.le_of_lt hz2))
    clear hX3 hA2 hbw2 hz2
    go_wp2_with fail
    refine Calls.mono (bears_v _ _ _ _ _ _ b3) ?_
    rintro e w4 ⟨rfl, hX4⟩
    have hA4 : ∀ o, w4.cell? ⟨w.heap.size, o, none⟩ = (w.alloc (boxN xk xv)).cell? ⟨w.heap.size, o, none⟩ := fun o => (hX4.cell (p := ⟨w.heap.size, o, none⟩) hz3).trans (hA3 o)
    have hz4 : w.heap.size < w4.heap.size := Nat.lt_of_lt_of_le hz3 hX4.size
    have hbw4 : Below w.heap.size w w4 := hbw3.trans (hX4.mono (Nat.le_of_lt hz3))
    clear hX4 hA3 hbw3 hz3
    go_wp2_with fail
    refine Calls.mono (bears_v _ _ _ _ _ _ b4) ?_
    rintro e w5 ⟨rfl, hX5⟩
    have hA5 : ∀ o, w5.cell? ⟨w.heap.size, o, none⟩ = (w.alloc (boxN xk xv)).cell? ⟨w.heap.size, o, none⟩ := fun o => (hX5.cell (p := ⟨w.heap.size, o, none⟩) hz4).trans (hA4 o)
    have hz5 : w.heap.size < w5.heap.size := Nat.lt_of_lt_of_le hz4 hX5.size
    have hbw5 : Below w.heap.size w w5 := hbw4.trans (hX5.mono (Nat.le_of_lt hz4))
    clear hX5 hA4 hbw4 hz4
    go_wp2
    go_ret
    exact ⟨rfl, hbw5⟩

theorem taintKinds_walk (xk xv key val : ByteArray) (w : World) :
    Calls Try.prog 8 #[.agg #[.string xk, .string xv], .string key, .string val] w fun e w' => e = .returned (.bool true) ∧ Below w.heap.size w w' := by
  have e0 : (⟨#[]⟩ : ByteArray) = ByteArray.empty := rfl
  refine taintKinds_in xk xv key val (decide (key = ByteArray.empty)) (decide (key = xk)) (decide (val = xv)) w ?_ (toList_isEmpty _) (toList_beq _ _) (toList_beq _ _) ?_ ?_ ?_ ?_
  · rw [show ([] : List UInt8) = ByteArray.empty.toList by rw [ByteArray.toList_eq]; rfl, toList_beq]
  all_goals simp [bearsB, e0]
end Go.Proofs.Ytnimplldkambhab
