/-
  Slices cut to their first few: plain facts for the laws. No conditions beyond what is written in each statement.
-/
import Derived.Test.YtnobgmdknalpdaaBeg2
set_option linter.unusedSimpArgs false
set_option linter.unusedVariables false
namespace Go.Proofs.Ytnobgmdknalpdaa
open Go.RowKit

theorem tmod_in (t : Int) {n : Int} (h : 0 < n) : -n < t.tmod n ∧ t.tmod n < n := ⟨Int.lt_tmod_of_pos t h, Int.tmod_lt_of_pos t h⟩
theorem turn_in (t : Int) {n : Int} (h : 0 < n) (h2 : n ≤ 1000000) : 0 ≤ (wrap64 (t.tmod n + n)).tmod n ∧ (wrap64 (t.tmod n + n)).tmod n < n := by
  have b := tmod_in t h
  have e : wrap64 (t.tmod n + n) = t.tmod n + n := IntWalk.wrap64_in _ (by omega)
  rw [e]
  exact ⟨Int.tmod_nonneg _ (by omega), Int.tmod_lt_of_pos _ h⟩
theorem getD_eq {α : Type} {l : List α} {d : α} {k : Nat} (h : k < l.length) : l.getD k d = l[k] := by
  rw [List.getD_eq_getElem?_getD, List.getElem?_eq_getElem h]; rfl
theorem getD_take {α : Type} {l : List α} {n i : Nat} {d : α} (h : i < (l.take n).length) : (l.take n).getD i d = l.getD i d := by
  simp only [List.length_take] at h
  rw [List.getD_eq_getElem?_getD, List.getD_eq_getElem?_getD, List.getElem?_take_of_lt (by omega)]
theorem At1.take {w : World} {a : Option Addr} {l : List ByteArray} (h : At1 w a l) (n : Nat) : At1 w a (l.take n) :=
  ⟨Nat.le_trans (by simp; omega) h.1, fun i hi => by
    obtain ⟨b, off, ha, hb, c⟩ := h.2 i (by simp at hi; omega)
    exact ⟨b, off, ha, hb, by rw [getD_take hi]; exact c⟩⟩
theorem At2.take {w : World} {a : Option Addr} {l : List Str2} (h : At2 w a l) (n : Nat) : At2 w a (l.take n) := fun i hi => by
  obtain ⟨b, off, ha, hb, c⟩ := h i (by simp at hi; omega)
  exact ⟨b, off, ha, hb, by rw [getD_take hi]; exact c⟩
theorem AtL.take {w : World} {a : Option Addr} {l : List Tol} (h : AtL w a l) (n : Nat) : AtL w a (l.take n) :=
  ⟨Nat.le_trans (by simp; omega) h.1, fun i hi => by
    obtain ⟨b, off, ha, hb, c⟩ := h.2 i (by simp at hi; omega)
    exact ⟨b, off, ha, hb, by rw [getD_take hi]; exact c⟩⟩
theorem AtT.take {w : World} {a : Option Addr} {l : List Trm} (h : AtT w a l) (n : Nat) : AtT w a (l.take n) :=
  ⟨Nat.le_trans (by simp; omega) h.1, fun i hi => by
    obtain ⟨b, off, va, vcap, ha, hb, c⟩ := h.2 i (by simp at hi; omega)
    exact ⟨b, off, va, vcap, ha, hb, by rw [getD_take hi]; exact c⟩⟩
/-- A list's first n: what the walk finds for 'min(len(l), n)'. -/
theorem cut_of {α : Type} (l : List α) (n : Nat) : ∃ m : List α, m = l.take n ∧ (if (n : Int) < (l.length : Int) then (n : Int) else (l.length : Int)) = (m.length : Int) ∧ m.length ≤ l.length ∧ m.length ≤ n :=
  ⟨_, rfl, by simp only [List.length_take]; split <;> omega, by simp; omega, by simp; omega⟩

theorem AtT.one {w : World} {N off : Nat} {t : Trm} {va : Option Addr} {vcap : Nat} (hN : N < w.heap.size) (c0 : w.cell? ⟨N, off, none⟩ = some (.string t.key)) (c1 : w.cell? ⟨N, off + 1, none⟩ = some (.int .i64 t.kind)) (c2 : w.cell? ⟨N, off + 2, none⟩ = some (.slice va t.vals.length vcap)) (hv : At1 w va t.vals) : AtT w (some ⟨N, off, none⟩) [t] := by
  refine ⟨by simp, fun i hi => ?_⟩
  obtain rfl : i = 0 := by simp at hi; omega
  exact ⟨N, off, va, vcap, rfl, hN, by simpa using c0, by simpa using c1, by simpa using c2, hv⟩
theorem At1.nil (w : World) : At1 w none [] := ⟨by simp, fun i hi => by simp at hi⟩
theorem AtT.nil (w : World) (a : Option Addr) : AtT w a [] := ⟨by simp, fun i hi => by simp at hi⟩
theorem match_v (ta : Option Addr) (ts : List Trm) (tn tcap : Nat) (a : Option Addr) (l : List Str2) (cap : Nat) (w : World) {v : Bool} (hn : ts.length = tn) (h : matchB ts l = v) (ht : AtT w ta ts) (hl : At2 w a l) (hm : l.length ≤ 6) :
    Calls Try.prog 23 #[.slice ta tn tcap, .slice a l.length cap] w fun e w' => e = .returned (.bool v) ∧ Below w.heap.size w w' := by
  subst hn h
  exact match_any ta ts tcap a l cap w ht hl (by omega)
theorem match_1 (key : ByteArray) (kind : Int) (vals : List ByteArray) (l : List Str2) : matchB [⟨key, kind, vals⟩] l = holdsB key kind vals l := by simp [matchB]
end Go.Proofs.Ytnobgmdknalpdaa
