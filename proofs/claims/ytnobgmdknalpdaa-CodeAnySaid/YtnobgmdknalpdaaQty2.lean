/-
  The contracts of package qty: Sub and Sum. No conditions beyond what is written in each statement.
-/
import Derived.Test.YtnobgmdknalpdaaQty
set_option linter.unusedSimpArgs false
set_option linter.unusedVariables false
namespace Go.Proofs.Ytnobgmdknalpdaa
open Go.RowKit

def subB (a b c x y z : Int) : Bool := withinB a b c far && withinB x y z far && fitsB x y z a b c
def subV (ok : Bool) (a x : Int) : Int := if ok then a - x else 0
theorem sub_end_no {a b c x y z : Int} (h : subB a b c x y z = false) : Ending.returned (.tuple #[res 0 0 0, .bool false]) = .returned (.tuple #[res (subV (subB a b c x y z) a x) (subV (subB a b c x y z) b y) (subV (subB a b c x y z) c z), .bool (subB a b c x y z)]) := by rw [h]; rfl
theorem sub_end_yes {a b c x y z : Int} (h : subB a b c x y z = true) : Ending.returned (.tuple #[res (a - x) (b - y) (c - z), .bool true]) = .returned (.tuple #[res (subV (subB a b c x y z) a x) (subV (subB a b c x y z) b y) (subV (subB a b c x y z) c z), .bool (subB a b c x y z)]) := by rw [h]; rfl

/-- Sum, plainly: from the left. -/
def sumF : List (Int × Int × Int) → Int → Int → Int → Bool × Int × Int × Int
  | [], a, b, c => (true, a, b, c)
  | (x, y, z) :: r, a, b, c => if addB a b c x y z then sumF r (a + x) (b + y) (c + z) else (false, 0, 0, 0)

/-- The amounts of a list, one behind the other, three cells each. -/
def ResAt (w : World) (b off : Nat) (l : List (Int × Int × Int)) : Prop :=
  ∀ i, i < l.length → w.cell? ⟨b, off + i * 3, none⟩ = some (.int .i64 (l.getD i (0, 0, 0)).1) ∧ w.cell? ⟨b, off + i * 3 + 1, none⟩ = some (.int .i64 (l.getD i (0, 0, 0)).2.1) ∧ w.cell? ⟨b, off + i * 3 + 2, none⟩ = some (.int .i64 (l.getD i (0, 0, 0)).2.2)

theorem sumF_drop {l : List (Int × Int × Int)} {k : Nat} {x y z q0 q1 q2 : Int} (h : k < l.length) (hq : l.getD k (0, 0, 0) = (q0, q1, q2)) :
    sumF (l.drop k) x y z = if addB x y z q0 q1 q2 then sumF (l.drop (k + 1)) (x + q0) (y + q1) (z + q2) else (false, 0, 0, 0) := by
  have e : l[k] = (q0, q1, q2) := by rw [← hq, List.getD_eq_getElem?_getD, List.getElem?_eq_getElem h]; rfl
  rw [List.drop_eq_getElem_cons h, e]; rfl

set_option maxHeartbeats 1000000 in
theorem sum_any (l : List (Int × Int × Int)) (b off cap : Nat) (w : World) (hb : b < w.heap.size) (hl : ResAt w b off l) (hm : l.length ≤ 9223372036854775807) :
    Calls Try.prog 20 #[.slice (some ⟨b, off, none⟩) l.length cap] w fun e w' => e = .returned (.tuple #[res (sumF l 0 0 0).2.1 (sumF l 0 0 0).2.2.1 (sumF l 0 0 0).2.2.2, .bool (sumF l 0 0 0).1]) ∧ Below w.heap.size w w' := by
  go_enter Try.func20, Try.ntmps20
  go_wp2
  go_loopw [11] (fun i wr => ∃ k : Nat, ∃ x y z : Int, k ≤ l.length ∧ i = .int .i64 k ∧ sumF l 0 0 0 = sumF (l.drop k) x y z ∧ Below w.heap.size w wr ∧ w.heap.size + 1 < wr.heap.size
      ∧ wr.cell? ⟨w.heap.size + 1, 0, none⟩ = some (.int .i64 x) ∧ wr.cell? ⟨w.heap.size + 1, 1, none⟩ = some (.int .i64 y) ∧ wr.cell? ⟨w.heap.size + 1, 2, none⟩ = some (.int .i64 z)
      ∧ wr.cell? ⟨w.heap.size, 0, none⟩ = some (.int .i64 0) ∧ wr.cell? ⟨w.heap.size, 1, none⟩ = some (.int .i64 0) ∧ wr.cell? ⟨w.heap.size, 2, none⟩ = some (.int .i64 0)
      ∧ (∀ j, wr.frozen? ⟨w.heap.size, j, none⟩ = false) ∧ (∀ j, wr.frozen? ⟨w.heap.size + 1, j, none⟩ = false)) (fun i _ => l.length - (intOf i).toNat)
  case atStart => 
    refine ⟨0, 0, 0, 0, Nat.zero_le _, rfl, rfl, (by (repeat (with_reducible first | exact Below.refl _ _ | refine Below.alloc ?_ ?_ _ | refine Below.setCell ?_ ?_ _ | refine Below.drew ?_ | refine below_drewN ?_ _)); all_goals (simp <;> omega)), by simp, ?_⟩
    simp [go_sem]
  case round =>
    obtain ⟨k, x, y, z, hk, rfl, hsum, hbel, hsz, c0, c1, c2, r0, r1, r2, f0, f1⟩ := hrel
    by_cases hlt : k < l.length
    · obtain ⟨d0, d1, d2⟩ := hl k hlt
      have e0 := (hbel.cell (p := ⟨b, off + k * 3, none⟩) hb).trans d0
      have e1 := (hbel.cell (p := ⟨b, off + k * 3 + 1, none⟩) hb).trans d1
      have e2 := (hbel.cell (p := ⟨b, off + k * 3 + 2, none⟩) hb).trans d2
      have HS := Lib.hid hsum
      clear hl hsum d0 d1 d2
      generalize hq : l.getD k (0, 0, 0) = q at e0 e1 e2
      obtain ⟨q0, q1, q2⟩ := q
      simp only at e0 e1 e2
      have HQ := Lib.hid hq
      clear hq
      cases hok : addB x y z q0 q1 q2
      · go_wp2_with fail
        refine (add_any _ _ _ _ _ _ _).mono ?_
        rintro e w1 ⟨rfl, hb1⟩
        have hbw : Below wr.heap.size wr w1 := Below.trans (by (repeat (with_reducible first | exact Below.refl _ _ | refine Below.alloc ?_ ?_ _ | refine Below.setCell ?_ ?_ _ | refine Below.drew ?_ | refine below_drewN ?_ _)); all_goals (simp <;> omega)) (hb1.mono (by simp))
        obtain ⟨hc, hf⟩ := bcell hbw
        have hz := hb1.size
        simp at hz
        clear hb1
        have g0 : w.heap.size < w1.heap.size := by omega
        have g1 : w.heap.size + 1 < w1.heap.size := by omega
        have g2 : w.heap.size < wr.heap.size := by omega
        go_wp2
        refine bodyPost_ret (v := .tuple #[res 0 0 0, .bool false]) (by simp [results, Try.results20, go_sem, hc, hf, g0, g1, g2, r0, r1, r2, f0]) rfl ⟨?_, ?_⟩
        · rw [HS.out, sumF_drop hlt HQ.out, hok]; rfl
        · refine hbel.trans ((hbw.mono (by omega)).trans ?_)
          ((repeat (with_reducible first | exact Below.refl _ _ | refine Below.alloc ?_ ?_ _ | refine Below.setCell ?_ ?_ _ | refine Below.drew ?_ | refine below_drewN ?_ _)); all_goals (simp <;> omega))
      · go_wp2_with fail
        refine (add_any _ _ _ _ _ _ _).mono ?_
        rintro e w1 ⟨rfl, hb1⟩
        have hbw : Below wr.heap.size wr w1 := Below.trans (by (repeat (with_reducible first | exact Below.refl _ _ | refine Below.alloc ?_ ?_ _ | refine Below.setCell ?_ ?_ _ | refine Below.drew ?_ | refine below_drewN ?_ _)); all_goals (simp <;> omega)) (hb1.mono (by simp))
        obtain ⟨hc, hf⟩ := bcell hbw
        have hz := hb1.size
        simp at hz
        clear hb1
        have g0 : w.heap.size < w1.heap.size := by omega
        have g1 : w.heap.size + 1 < w1.heap.size := by omega
        have g2 : w.heap.size < wr.heap.size := by omega
        go_wp2
        go_roundw
        case rel =>
          refine ⟨k + 1, x + q0, y + q1, z + q2, by omega, by go_num, ?_, ?_, ?_, ?_⟩
          · rw [HS.out, sumF_drop hlt HQ.out, hok]; rfl
          · refine hbel.trans ((hbw.mono (by omega)).trans ?_)
            ((repeat (with_reducible first | exact Below.refl _ _ | refine Below.alloc ?_ ?_ _ | refine Below.setCell ?_ ?_ _ | refine Below.drew ?_ | refine below_drewN ?_ _)); all_goals (simp <;> omega))
          · simp; omega
          · simp [go_sem, hc, hf, hsz, g0, g1, g2, r0, r1, r2, c0, c1, c2, f0, f1, addV]
        case measure => simp [intOf]; omega
    · go_wp2_with fail
      refine bodyPost_ret (v := .tuple #[res x y z, .bool true]) (by simp [results, Try.results20, go_sem, r0, r1, r2]) rfl ⟨?_, ?_⟩
      · rw [hsum, List.drop_eq_nil_of_le (by omega)]; rfl
      · exact hbel.trans (by (repeat (with_reducible first | exact Below.refl _ _ | refine Below.alloc ?_ ?_ _ | refine Below.setCell ?_ ?_ _ | refine Below.drew ?_ | refine below_drewN ?_ _)); all_goals (simp <;> omega))
end Go.Proofs.Ytnobgmdknalpdaa
