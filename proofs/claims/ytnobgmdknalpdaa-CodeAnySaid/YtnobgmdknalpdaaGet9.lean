/-
  The contracts of package code: a reader opened, and asked whether all was read. No conditions beyond what is written in each statement.
-/
import Derived.Test.YtnobgmdknalpdaaGet8
set_option linter.unusedSimpArgs false
set_option linter.unusedVariables false
namespace Go.Proofs.Ytnobgmdknalpdaa
open Go.RowKit

def gOpen (kind : Int) (l : List Int) : RS := if (gNum (l, false)).1 = kind then (gNum (l, false)).2 else ((gNum (l, false)).2.1, true)

theorem Rd.mono {w0 w0' w : World} {R : Nat} {l : List Int} {bad : Bool} (h : Rd w0 w R l bad) (hw : w0'.heap.size = w0.heap.size) (hb : Below w0'.heap.size w0' w) (ha : ∀ a, AtB w0 a l → AtB w0' a l) : Rd w0' w R l bad := by
  obtain ⟨ho, _, a, cap, hobj, hc1, hc2, hat⟩ := h
  exact ⟨by omega, hb, a, cap, hobj, hc1, hc2, ha a hat⟩

set_option maxRecDepth 100000 in
set_option maxHeartbeats 1000000 in
theorem open_any (a : Option Addr) (l : List Int) (cap : Nat) (kind : Int) (w : World) (hat : AtB w a l) (hc1 : l.length ≤ cap) (hc2 : cap ≤ maxLen) :
    Calls Try.prog 52 #[.slice a l.length cap, .int .i64 kind] w fun e w' => e = .returned (.pointer (some ⟨w.heap.size, 0, none⟩)) ∧ Rd w w' w.heap.size (gOpen kind l).1 (gOpen kind l).2 ∧ Below w.heap.size w w' ∧ w.heap.size < w'.heap.size := by
  have hrd : Rd w (w.alloc (.cells #[.slice a l.length cap, .bool false] 136)) w.heap.size l false :=
    ⟨Nat.le_refl _, (Below.refl _ _).alloc (Nat.le_refl _) _, a, cap, heap_alloc_self _ _, hc1, hc2, hat⟩
  have HR := Lib.hid hrd
  clear hrd hat hc2
  go_enter Try.func52, Try.ntmps52
  go_wp2_with fail
  refine (getNumI_any w.heap.size (l, false) w _ HR.out).mono ?_
  rintro e w1 ⟨rfl, hr1, hg1⟩
  have hs1 := hg1.size
  simp at hs1
  have hb := hr1.below
  obtain ⟨_, c1, _, f1⟩ := hr1.cells
  by_cases hk : (gNum (l, false)).1 = kind
  · have hk2 : ((gNum (l, false)).1 == kind) = true := by simpa using hk
    have HK := Lib.hid hk
    clear hk
    go_wp2
    go_ret
    refine ⟨rfl, ?_, hb, by omega⟩
    unfold gOpen
    rw [if_pos HK.out]
    exact hr1
  · have hk2 : ((gNum (l, false)).1 == kind) = false := by simpa using hk
    have HK := Lib.hid hk
    clear hk
    go_wp2
    go_ret
    refine ⟨rfl, ?_, hb.trans ((Below.refl _ _).setCell (by simp) _), by simp [World.setCell]; omega⟩
    unfold gOpen
    rw [if_neg HK.out]
    exact hr1.setBad

set_option maxRecDepth 100000 in
theorem whole_any (R : Nat) (st : RS) (w0 w : World) (hr : Rd w0 w R st.1 st.2) :
    Calls Try.prog 64 #[.pointer (some ⟨R, 0, none⟩)] w fun e w' => e = .returned (.bool (!st.2 && decide (st.1.length = 0))) ∧ w' = w := by
  obtain ⟨⟨a, cap, c0⟩, c1, f0, f1⟩ := hr.cells
  obtain ⟨l, bad⟩ := st
  simp only at c0 c1 ⊢
  cases bad
  · go_enter Try.func64, Try.ntmps64
    go_wp2
    go_ret
    refine ⟨ret_bool ?_, rfl⟩
    cases l <;> simp <;> omega
  · go_enter Try.func64, Try.ntmps64
    go_wp2
    go_ret
    exact ⟨rfl, rfl⟩
end Go.Proofs.Ytnobgmdknalpdaa
