/-
  The contracts of package qty: what each of its functions returns, for all arguments. No conditions beyond what is written in each statement.
-/
import Derived.Test.YtnobgmdknalpdaaBase
set_option linter.unusedSimpArgs false
set_option linter.unusedVariables false
namespace Go.Proofs.Ytnobgmdknalpdaa
open Go.RowKit

/-- The share, plainly. -/
def shareOf (p wh : Int) : Int := if wh < 1 ∨ 1000000000 < wh then 0 else (100 * max 0 (min p wh)) / wh

set_option maxHeartbeats 400000 in
theorem share_any (p wh : Int) (w : World) :
    Calls Try.prog 22 #[.int .i64 p, .int .i64 wh] w fun e w' => e = .returned (.int .i64 (shareOf p wh)) ∧ w' = w := by
  go_enter Try.func22, Try.ntmps22
  go_wp2
  · go_ret
    exact ⟨ret_int (by unfold shareOf; rw [if_pos (by omega)]), rfl⟩
  · go_ret
    exact ⟨ret_int (by unfold shareOf; rw [if_neg (by omega), show max 0 (min p wh) = wh by omega]), rfl⟩
  · go_ret
    exact ⟨ret_int (by have h := ‹0 < if wh < p then wh else p›; unfold shareOf; rw [if_neg (by omega), show max 0 (min p wh) = p by omega]), rfl⟩
  · go_ret
    exact ⟨ret_int (by have h := ‹(if wh < p then wh else p) ≤ 0›; unfold shareOf; rw [if_neg (by omega), show max 0 (min p wh) = 0 by omega]; simp), rfl⟩
  · go_ret
    exact ⟨ret_int (by unfold shareOf; rw [if_pos (by omega)]), rfl⟩

/-- An amount of three. -/
abbrev res (a b c : Int) : Value := .agg #[.int .i64 a, .int .i64 b, .int .i64 c]
def withinB (a b c m : Int) : Bool := decide (0 ≤ a ∧ a ≤ m ∧ 0 ≤ b ∧ b ≤ m ∧ 0 ≤ c ∧ c ≤ m)

/-- Reading an array of three by a known index. -/
theorem ix0 (a b c : Int) (w : World) : (Instr.index 23 (res a b c) (.int .i64 0)).run Try.prog w = .ok (.int .i64 a) w := by kernel_rfl
theorem ix1 (a b c : Int) (w : World) : (Instr.index 23 (res a b c) (.int .i64 1)).run Try.prog w = .ok (.int .i64 b) w := by kernel_rfl
theorem ix2 (a b c : Int) (w : World) : (Instr.index 23 (res a b c) (.int .i64 2)).run Try.prog w = .ok (.int .i64 c) w := by kernel_rfl

/-- The box of an amount. -/
abbrev box3 (a b c : Int) : Obj := .cells #[.int .i64 a, .int .i64 b, .int .i64 c] 23

set_option maxHeartbeats 400000 in
theorem within_x (a b c m : Int) (w : World) :
    Calls Try.prog 94 #[res a b c, .int .i64 m] w fun e w' => e = .returned (.bool (withinB a b c m)) ∧ w' = w.alloc (box3 a b c) := by
  have i0 := ix0 a b c
  have i1 := ix1 a b c
  have i2 := ix2 a b c
  go_enter Try.func94, Try.ntmps94
  go_wp2
  refine wp_loop_rounds 4 ?_
  repeat any_goals (rw [rounds_succ]; go_wp2)
  all_goals (go_ret; refine ⟨ret_bool ?_, rfl⟩; unfold withinB; first | exact (decide_eq_false (by omega)).symm | exact (decide_eq_true (by omega)).symm)

theorem within_any (a b c m : Int) (w : World) :
    Calls Try.prog 94 #[res a b c, .int .i64 m] w fun e w' => e = .returned (.bool (withinB a b c m)) ∧ Below w.heap.size w w' :=
  (within_x a b c m w).mono fun _ _ ⟨h, h'⟩ => ⟨h, by subst h'; exact (by (repeat (with_reducible first | exact Below.refl _ _ | refine Below.alloc ?_ ?_ _ | refine Below.setCell ?_ ?_ _ | refine Below.drew ?_ | refine below_drewN ?_ _)); all_goals (simp <;> omega))⟩

set_option maxHeartbeats 400000 in
theorem may_any (a b c : Int) (w : World) :
    Calls Try.prog 74 #[res a b c] w fun e w' => e = .returned (.bool (withinB a b c 1000000000)) ∧ Below w.heap.size w w' := by
  go_enter Try.func74, Try.ntmps74
  go_wp2_with (go_at_call 94; refine (within_x _ _ _ _ _).mono ?_; rintro e w1 ⟨rfl, rfl⟩)
  go_ret
  exact ⟨rfl, (by (repeat (with_reducible first | exact Below.refl _ _ | refine Below.alloc ?_ ?_ _ | refine Below.setCell ?_ ?_ _ | refine Below.drew ?_ | refine below_drewN ?_ _)); all_goals (simp <;> omega))⟩

def fitsB (a b c x y z : Int) : Bool := decide (a ≤ x ∧ b ≤ y ∧ c ≤ z)

def far : Int := 4611686018427387904
def addB (a b c x y z : Int) : Bool := withinB a b c far && withinB x y z far && decide (a + x ≤ far ∧ b + y ≤ far ∧ c + z ≤ far)
def addV (ok : Bool) (a x : Int) : Int := if ok then a + x else 0

theorem within_le {a b c m : Int} (h : withinB a b c m = true) : 0 ≤ a ∧ a ≤ m ∧ 0 ≤ b ∧ b ≤ m ∧ 0 ≤ c ∧ c ≤ m := by
  unfold withinB at h; exact of_decide_eq_true h
theorem addB_no1 {a b c x y z : Int} (h : withinB a b c 4611686018427387904 = false) : addB a b c x y z = false := by unfold addB far; rw [h]; rfl
theorem addB_no2 {a b c x y z : Int} (h : withinB x y z 4611686018427387904 = false) : addB a b c x y z = false := by unfold addB far; rw [h]; simp
theorem addB_no3 {a b c x y z : Int} (h : ¬ (a + x ≤ 4611686018427387904 ∧ b + y ≤ 4611686018427387904 ∧ c + z ≤ 4611686018427387904)) : addB a b c x y z = false := by unfold addB far; rw [decide_eq_false h]; simp
theorem addB_yes {a b c x y z : Int} (h1 : withinB a b c 4611686018427387904 = true) (h2 : withinB x y z 4611686018427387904 = true) (h : a + x ≤ 4611686018427387904 ∧ b + y ≤ 4611686018427387904 ∧ c + z ≤ 4611686018427387904) : addB a b c x y z = true := by unfold addB far; rw [h1, h2, decide_eq_true h]; rfl
/-- What Add tells where it tells false, and where it tells true. -/
theorem add_end_no {a b c x y z : Int} (h : addB a b c x y z = false) : Ending.returned (.tuple #[res 0 0 0, .bool false]) = .returned (.tuple #[res (addV (addB a b c x y z) a x) (addV (addB a b c x y z) b y) (addV (addB a b c x y z) c z), .bool (addB a b c x y z)]) := by rw [h]; rfl
theorem add_end_yes {a b c x y z : Int} (h : addB a b c x y z = true) : Ending.returned (.tuple #[res (a + x) (b + y) (c + z), .bool true]) = .returned (.tuple #[res (addV (addB a b c x y z) a x) (addV (addB a b c x y z) b y) (addV (addB a b c x y z) c z), .bool (addB a b c x y z)]) := by rw [h]; rfl

set_option maxHeartbeats 400000 in
theorem add_any (a b c x y z : Int) (w : World) :
    Calls Try.prog 70 #[res a b c, res x y z] w fun e w' => e = .returned (.tuple #[res (addV (addB a b c x y z) a x) (addV (addB a b c x y z) b y) (addV (addB a b c x y z) c z), .bool (addB a b c x y z)]) ∧ Below w.heap.size w w' := by
  by_cases h1 : withinB a b c 4611686018427387904 = true
  · by_cases h2 : withinB x y z 4611686018427387904 = true
    · have b1 := within_le h1
      have b2 := within_le h2
      obtain ⟨b11, b12, b13, b14, b15, b16⟩ := b1
      obtain ⟨b21, b22, b23, b24, b25, b26⟩ := b2
      go_enter Try.func70, Try.ntmps70
      go_wp2_with (go_at_call 94; refine (within_x _ _ _ _ _).mono ?_; rintro e w1 ⟨rfl, rfl⟩)
      refine wp_loop_rounds 4 ?_
      repeat any_goals (rw [rounds_succ]; go_wp2; try (go_quiet (fail); go_wp2); try (any_goals (go_region; go_wp2)))

      · refine bodyPost_ret (v := .tuple #[res 0 0 0, .bool false]) (by simp [results, Try.results70, go_sem]) rfl ⟨add_end_no (addB_no3 (by omega)), (by (repeat (with_reducible first | exact Below.refl _ _ | refine Below.alloc ?_ ?_ _ | refine Below.setCell ?_ ?_ _ | refine Below.drew ?_ | refine below_drewN ?_ _)); all_goals (simp <;> omega))⟩
      · refine bodyPost_ret (v := .tuple #[res 0 0 0, .bool false]) (by simp [results, Try.results70, go_sem]) rfl ⟨add_end_no (addB_no3 (by omega)), (by (repeat (with_reducible first | exact Below.refl _ _ | refine Below.alloc ?_ ?_ _ | refine Below.setCell ?_ ?_ _ | refine Below.drew ?_ | refine below_drewN ?_ _)); all_goals (simp <;> omega))⟩
      · refine bodyPost_ret (v := .tuple #[res 0 0 0, .bool false]) (by simp [results, Try.results70, go_sem]) rfl ⟨add_end_no (addB_no3 (by omega)), (by (repeat (with_reducible first | exact Below.refl _ _ | refine Below.alloc ?_ ?_ _ | refine Below.setCell ?_ ?_ _ | refine Below.drew ?_ | refine below_drewN ?_ _)); all_goals (simp <;> omega))⟩
      · refine bodyPost_ret (v := .tuple #[res (a + x) (b + y) (c + z), .bool true]) (by simp [results, Try.results70, go_sem]) rfl ⟨add_end_yes (addB_yes h1 h2 (by omega)), (by (repeat (with_reducible first | exact Below.refl _ _ | refine Below.alloc ?_ ?_ _ | refine Below.setCell ?_ ?_ _ | refine Below.drew ?_ | refine below_drewN ?_ _)); all_goals (simp <;> omega))⟩
    · go_enter Try.func70, Try.ntmps70
      go_wp2_with (go_at_call 94; refine (within_x _ _ _ _ _).mono ?_; rintro e w1 ⟨rfl, rfl⟩)
      refine bodyPost_ret (v := .tuple #[res 0 0 0, .bool false]) (by simp [results, Try.results70, go_sem]) rfl ⟨add_end_no (addB_no2 (by simpa using h2)), (by (repeat (with_reducible first | exact Below.refl _ _ | refine Below.alloc ?_ ?_ _ | refine Below.setCell ?_ ?_ _ | refine Below.drew ?_ | refine below_drewN ?_ _)); all_goals (simp <;> omega))⟩
  · go_enter Try.func70, Try.ntmps70
    go_wp2_with (go_at_call 94; refine (within_x _ _ _ _ _).mono ?_; rintro e w1 ⟨rfl, rfl⟩)
    refine bodyPost_ret (v := .tuple #[res 0 0 0, .bool false]) (by simp [results, Try.results70, go_sem]) rfl ⟨add_end_no (addB_no1 (by simpa using h1)), (by (repeat (with_reducible first | exact Below.refl _ _ | refine Below.alloc ?_ ?_ _ | refine Below.setCell ?_ ?_ _ | refine Below.drew ?_ | refine below_drewN ?_ _)); all_goals (simp <;> omega))⟩
end Go.Proofs.Ytnobgmdknalpdaa
