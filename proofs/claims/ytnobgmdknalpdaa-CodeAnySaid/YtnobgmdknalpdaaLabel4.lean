/-
  The contracts of package label: which labels and terms may be. No conditions beyond what is written in each statement.
-/
import Derived.Test.YtnobgmdknalpdaaLabel3
set_option linter.unusedSimpArgs false
set_option linter.unusedVariables false
namespace Go.Proofs.Ytnobgmdknalpdaa
open Go.RowKit

def lessB (a b : ByteArray) : Bool := Op.bytesLess a.toList b.toList
def keyAt (l : List Str2) (k : Nat) : ByteArray := (l.getD k e2).1
def valAt (l : List Str2) (k : Nat) : ByteArray := (l.getD k e2).2
/-- What is asked of the k-th one. -/
def stepL (l : List Str2) (k : Nat) : Bool := nameL (keyAt l k).data.toList && nameL (valAt l k).data.toList && (decide (k = 0) || lessB (keyAt l (k - 1)) (keyAt l k))
def mayL (l : List Str2) : Bool := decide (l.length ≤ 6) && (List.range l.length).all (stepL l)

theorem all_range_succ (f : Nat → Bool) (k : Nat) : (List.range (k + 1)).all f = ((List.range k).all f && f k) := by rw [List.range_succ, List.all_append]; simp
theorem all_range_no {f : Nat → Bool} {k n : Nat} (h : k < n) (hf : f k = false) : (List.range n).all f = false := by rw [List.all_eq_false]; exact ⟨k, by simpa using h, by simp [hf]⟩

set_option maxHeartbeats 1000000 in
theorem may_pairs_any (a : Option Addr) (l : List Str2) (cap : Nat) (w : World) (hl : At2 w a l) :
    Calls Try.prog 76 #[.slice a l.length cap] w fun e w' => e = .returned (.bool (mayL l)) ∧ Below w.heap.size w w' := by
  go_enter Try.func76, Try.ntmps76
  go_wp2
  · go_ret
    exact ⟨ret_bool (by unfold mayL; rw [decide_eq_false (by omega)]; rfl), Below.refl _ _⟩
  · have hm : l.length ≤ 6 := by omega
    go_loopw [10] (fun i wr => ∃ k : Nat, k ≤ l.length ∧ i = .int .i64 k ∧ Hid ((List.range k).all (stepL l) = true) ∧ Below w.heap.size w wr) (fun i _ => l.length - (intOf i).toNat)
    case atStart => exact ⟨0, Nat.zero_le _, rfl, rfl, Below.refl _ _⟩
    case round =>
      obtain ⟨k, hk, rfl, hget, hbel⟩ := hrel
      by_cases hlt : k < l.length
      · obtain ⟨b, off, ha, hb, d0, d1⟩ := hl k hlt
        have c0 := cell_later hbel d0
        have c1 := cell_later hbel d1
        subst ha
        have hno := Lib.hid (fun h : stepL l k = false => all_range_no hlt h)
        have hsu := Lib.hid (all_range_succ (stepL l) k)
        have hst : Hid (stepL l k = (nameL (keyAt l k).data.toList && nameL (valAt l k).data.toList && (decide (k = 0) || lessB (keyAt l (k - 1)) (keyAt l k)))) := rfl
        have hprev : ∀ j, k = j + 1 → wr.cell? ⟨b, off + j * 2, none⟩ = some (.string (keyAt l j)) := fun j hj => by
          obtain ⟨b', off', ha', hb', d0', d1'⟩ := hl j (by omega)
          simp at ha'
          obtain ⟨rfl, rfl⟩ := ha'
          exact cell_later hbel d0'
        change wr.cell? _ = some (.string (keyAt l k)) at c0
        change wr.cell? _ = some (.string (valAt l k)) at c1
        clear d0 d1 hl
        generalize keyAt l k = q0 at c0 hst
        generalize valAt l k = q1 at c1 hst
        cases h0 : nameL q0.data.toList
        · go_wp2_with (go_at_call 73; refine (name_any _ _).mono ?_; rintro e w' ⟨rfl, rfl⟩)
          go_ret
          exact ⟨ret_bool (by unfold mayL; rw [hno.out (by rw [hst.out, h0]; rfl)]; simp), hbel.trans (by (repeat (with_reducible first | exact Below.refl _ _ | refine Below.alloc ?_ ?_ _ | refine Below.drew ?_ | refine below_drewN ?_ _)); all_goals (have := hbel.size; simp <;> omega))⟩
        · cases h1 : nameL q1.data.toList
          · go_wp2_with (go_at_call 73; refine (name_any _ _).mono ?_; rintro e w' ⟨rfl, rfl⟩)
            go_ret
            exact ⟨ret_bool (by unfold mayL; rw [hno.out (by rw [hst.out, h0, h1]; rfl)]; simp), hbel.trans (by (repeat (with_reducible first | exact Below.refl _ _ | refine Below.alloc ?_ ?_ _ | refine Below.drew ?_ | refine below_drewN ?_ _)); all_goals (have := hbel.size; simp <;> omega))⟩
          · by_cases k0 : k = 0
            · subst k0
              simp only [Nat.zero_mul, Nat.add_zero] at c0 c1
              clear hprev
              go_wp2_with (go_at_call 73; refine (name_any _ _).mono ?_; rintro e w' ⟨rfl, rfl⟩)
              go_quiet (fail)
              go_wp2
              go_roundw
              case rel => exact ⟨1, by omega, by go_num, by show _ = _; rw [hsu.out, hget.out, hst.out, h0, h1]; rfl, hbel.trans (by (repeat (with_reducible first | exact Below.refl _ _ | refine Below.alloc ?_ ?_ _ | refine Below.drew ?_ | refine below_drewN ?_ _)); all_goals (have := hbel.size; simp <;> omega))⟩
              case measure => simp [intOf]; omega
            · have p0 := hprev (k - 1) (by omega)
              clear hprev
              generalize keyAt l (k - 1) = p at p0 hst
              have kp : (0 : Int) < (k : Int) := by omega
              have kn : 0 < k := by omega
              have hbb : b < wr.heap.size := by have := hbel.size; omega
              have kw : IntKind.i64.wrap ((k : Int) - 1) = ((k - 1 : Nat) : Int) := by rw [IntWalk.i64_in _ (by omega)]; omega
              have kl : ((k - 1 : Nat) : Int) < (l.length : Int) := by omega
              have kz : (0 : Int) ≤ ((k - 1 : Nat) : Int) := by omega
              go_wp2_with (go_at_call 73; refine (name_any _ _).mono ?_; rintro e w' ⟨rfl, rfl⟩)
              go_quiet (fail)
              go_wp2
              · go_ret
                have hx : lessB p q0 = false := by unfold lessB; simpa using ‹(!Op.bytesLess p.toList q0.toList) = true›
                exact ⟨ret_bool (by unfold mayL; rw [hno.out (by rw [hst.out, h0, h1, hx, decide_eq_false k0]; rfl)]; simp), hbel.trans (by (repeat (with_reducible first | exact Below.refl _ _ | refine Below.alloc ?_ ?_ _ | refine Below.drew ?_ | refine below_drewN ?_ _)); all_goals (have := hbel.size; simp <;> omega))⟩
              · go_roundw
                case rel =>
                  have hx : lessB p q0 = true := by unfold lessB; simpa using ‹(!Op.bytesLess p.toList q0.toList) = false›
                  exact ⟨k + 1, by omega, by go_num, by show _ = _; rw [hsu.out, hget.out, hst.out, h0, h1, hx]; simp, hbel.trans (by (repeat (with_reducible first | exact Below.refl _ _ | refine Below.alloc ?_ ?_ _ | refine Below.drew ?_ | refine below_drewN ?_ _)); all_goals (have := hbel.size; simp <;> omega))⟩
                case measure => simp [intOf]; omega
      · go_wp2
        go_ret
        have h := hget.out
        exact ⟨ret_bool (by unfold mayL; rw [show l.length = k by omega, h, decide_eq_true (by omega)]; rfl), hbel⟩
end Go.Proofs.Ytnobgmdknalpdaa
