/-
  The contracts of package qty: what each of its functions returns, for all arguments. No conditions beyond what is written in each statement.
-/
import Derived.Test.YtaleceobkbgcnaaGreatBase
set_option linter.unusedSimpArgs false
set_option linter.unusedVariables false
namespace Go.Proofs.YtaleceobkbgcnaaGreat
open Go.RowKit

/-- The share, plainly. -/
def shareOf (p wh : Int) : Int := if wh < 1 ∨ 1000000000 < wh then 0 else (100 * max 0 (min p wh)) / wh

set_option maxHeartbeats 400000 in
theorem share_any (p wh : Int) (w : World) :
    Calls Tryz.prog 159 #[.int .i64 p, .int .i64 wh] w fun e w' => e = .returned (.int .i64 (shareOf p wh)) ∧ w' = w := by
  go_enter Tryz.func159, Tryz.ntmps159
  go_wp2
  · go_ret
    exact ⟨ret_int (by unfold shareOf; rw [if_pos (by omega)]), rfl⟩
  · go_ret
    exact ⟨ret_int (by unfold shareOf; rw [if_neg (by omega), show max 0 (min p wh) = wh by omega]), rfl⟩
  · go_ret
    exact ⟨ret_int (by have h := ‹0 < if wh < p then wh else p›; unfold shareOf; rw [if_neg (by omega), show max 0 (min p wh) = p by omega]), rfl⟩
  · go_ret
    exact ⟨ret_int (by have h := ‹(if wh < p then wh else p) ≤ 0›; unfold shareOf; rw [if_neg (by omega), show max 0 (min p wh) = 0 by omega]; simp), rfl⟩
  · go_ret
    exact ⟨ret_int (by unfold shareOf; rw [if_pos (by omega)]), rfl⟩

/-- An amount of three. -/
abbrev res (a b c : Int) : Value := .agg #[.int .i64 a, .int .i64 b, .int .i64 c]
def withinB (a b c m : Int) : Bool := decide (0 ≤ a ∧ a ≤ m ∧ 0 ≤ b ∧ b ≤ m ∧ 0 ≤ c ∧ c ≤ m)

/-- Reading an array of three by a known index. -/
theorem ix0 (a b c : Int) (w : World) : (Instr.index 210 (res a b c) (.int .i64 0)).run Tryz.prog w = .ok (.int .i64 a) w := by kernel_rfl
theorem ix1 (a b c : Int) (w : World) : (Instr.index 210 (res a b c) (.int .i64 1)).run Tryz.prog w = .ok (.int .i64 b) w := by kernel_rfl
theorem ix2 (a b c : Int) (w : World) : (Instr.index 210 (res a b c) (.int .i64 2)).run Tryz.prog w = .ok (.int .i64 c) w := by kernel_rfl

/-- The box of an amount. -/
abbrev box3 (a b c : Int) : Obj := .cells #[.int .i64 a, .int .i64 b, .int .i64 c] 210

set_option maxHeartbeats 400000 in
theorem within_x (a b c m : Int) (w : World) :
    Calls Tryz.prog 222 #[res a b c, .int .i64 m] w fun e w' => e = .returned (.bool (withinB a b c m)) ∧ w' = w.alloc (box3 a b c) := by
  have i0 := ix0 a b c
  have i1 := ix1 a b c
  have i2 := ix2 a b c
  go_enter Tryz.func222, Tryz.ntmps222
  go_wp2
  refine wp_loop_rounds 4 ?_
  repeat any_goals (rw [rounds_succ]; go_wp2)
  all_goals (go_ret; refine ⟨ret_bool ?_, rfl⟩; unfold withinB; first | exact (decide_eq_false (by omega)).symm | exact (decide_eq_true (by omega)).symm)

theorem within_any (a b c m : Int) (w : World) :
    Calls Tryz.prog 222 #[res a b c, .int .i64 m] w fun e w' => e = .returned (.bool (withinB a b c m)) ∧ Below w.heap.size w w' :=
  (within_x a b c m w).mono fun _ _ ⟨h, h'⟩ => ⟨h, by subst h'; exact (by (repeat (with_reducible first | exact Below.refl _ _ | refine Below.alloc ?_ ?_ _ | refine Below.setCell ?_ ?_ _ | refine Below.drew ?_ | refine below_drewN ?_ _)); all_goals (simp <;> omega))⟩

set_option maxHeartbeats 400000 in
theorem may_any (a b c : Int) (w : World) :
    Calls Tryz.prog 199 #[res a b c] w fun e w' => e = .returned (.bool (withinB a b c 1000000000)) ∧ Below w.heap.size w w' := by
  go_enter Tryz.func199, Tryz.ntmps199
  go_wp2_with (go_at_call 222; refine (within_x _ _ _ _ _).mono ?_; rintro e w1 ⟨rfl, rfl⟩)
  go_ret
  exact ⟨rfl, (by (repeat (with_reducible first | exact Below.refl _ _ | refine Below.alloc ?_ ?_ _ | refine Below.setCell ?_ ?_ _ | refine Below.drew ?_ | refine below_drewN ?_ _)); all_goals (simp <;> omega))⟩

def fitsB (a b c x y z : Int) : Bool := decide (a ≤ x ∧ b ≤ y ∧ c ≤ z)

def far : Int := 4611686018427387904
def addB (a b c x y z : Int) : Bool := withinB a b c far && withinB x y z far && decide (a + x ≤ far ∧ b + y ≤ far ∧ c + z ≤ far)
def addV (ok : Bool) (a x : Int) : Int := if ok then a + x else 0

theorem within_le {a b c m : Int} (h : withinB a b c m = true) : 0 ≤ a ∧ a ≤ m ∧ 0 ≤ b ∧ b ≤ m ∧ 0 ≤ c ∧ c ≤ m := by
  unfold withinB at h; exact of_decide_eq_true h
theorem addB_no1 {a b c x y z : Int} (h : withinB a b c 4611686018427387904 = false) : addB a b c x y z = false := by unfold addB far; rw [h]; rfl
theorem addB_no2 {a b c x y z : Int} (h : withinB x y z 4611686018427387904 = false) : addB a b c x y z = false := by unfold addB far; rw [h]; simp
theorem addB_no3 {a b c x y z : Int} (h : ¬ (a + x ≤ 4611686018427387904 ∧ b + y ≤ 4611686018427387904 ∧ c + z ≤ 4611686018427387904)) : addB a b c x y z = false := by unfold addB far; rw [decide_eq_false h]; simp
theorem addB_yes {a b c x y z : Int} (h1 : withinB a b c 4611686018427387904 = true) (h2 : withinB x y z 4611686018427387904 = true) (h : a + x ≤ 4611686018427387904 ∧ b + y ≤ 4611686018427387904 ∧ c + z ≤ 4611686018427387904) : addB a b c x y z = true := by unfold addB far; rw [h1, h2, decide_eq_true h]; rfl
/-- What Add tells where it tells false, and where it tells true. -/
theorem add_end_no {a b c x y z : Int} (h : addB a b c x y z = false) : Ending.returned (.tuple #[res 0 0 0, .bool false]) = .returned (.tuple #[res (addV (addB a b c x y z) a x) (addV (addB a b c x y z) b y) (addV (addB a b c x y z) c z), .bool (addB a b c x y z)]) := by rw [h]; rfl
theorem add_end_yes {a b c x y z : Int} (h : addB a b c x y z = true) : Ending.returned (.tuple #[res (a + x) (b + y) (c + z), .bool true]) = .returned (.tuple #[res (addV (addB a b c x y z) a x) (addV (addB a b c x y z) b y) (addV (addB a b c x y z) c z), .bool (addB a b c x y z)]) := by rw [h]; rfl

set_option maxHeartbeats 400000 in
theorem add_any (a b c x y z : Int) (w : World) :
    Calls Tryz.prog 170 #[res a b c, res x y z] w fun e w' => e = .returned (.tuple #[res (addV (addB a b c x y z) a x) (addV (addB a b c x y z) b y) (addV (addB a b c x y z) c z), .bool (addB a b c x y z)]) ∧ Below w.heap.size w w' := by
  by_cases h1 : withinB a b c 4611686018427387904 = true
  · by_cases h2 : withinB x y z 4611686018427387904 = true
    · have b1 := within_le h1
      have b2 := within_le h2
      obtain ⟨b11, b12, b13, b14, b15, b16⟩ := b1
      obtain ⟨b21, b22, b23, b24, b25, b26⟩ := b2
      go_enter Tryz.func170, Tryz.ntmps170
      go_wp2_with (go_at_call 222; refine (within_x _ _ _ _ _).mono ?_; rintro e w1 ⟨rfl, rfl⟩)
      refine wp_loop_rounds 4 ?_
      repeat any_goals (rw [rounds_succ]; go_wp2; try (go_quiet (fail); go_wp2); try (any_goals (go_region; go_wp2)))

      · refine bodyPost_ret (v := .tuple #[res 0 0 0, .bool false]) (by simp [results, Tryz.results170, go_sem]) rfl ⟨add_end_no (addB_no3 (by omega)), (by (repeat (with_reducible first | exact Below.refl _ _ | refine Below.alloc ?_ ?_ _ | refine Below.setCell ?_ ?_ _ | refine Below.drew ?_ | refine below_drewN ?_ _)); all_goals (simp <;> omega))⟩
      · refine bodyPost_ret (v := .tuple #[res 0 0 0, .bool false]) (by simp [results, Tryz.results170, go_sem]) rfl ⟨add_end_no (addB_no3 (by omega)), (by (repeat (with_reducible first | exact Below.refl _ _ | refine Below.alloc ?_ ?_ _ | refine Below.setCell ?_ ?_ _ | refine Below.drew ?_ | refine below_drewN ?_ _)); all_goals (simp <;> omega))⟩
      · refine bodyPost_ret (v := .tuple #[res 0 0 0, .bool false]) (by simp [results, Tryz.results170, go_sem]) rfl ⟨add_end_no (addB_no3 (by omega)), (by (repeat (with_reducible first | exact Below.refl _ _ | refine Below.alloc ?_ ?_ _ | refine Below.setCell ?_ ?_ _ | refine Below.drew ?_ | refine below_drewN ?_ _)); all_goals (simp <;> omega))⟩
      · refine bodyPost_ret (v := .tuple #[res (a + x) (b + y) (c + z), .bool true]) (by simp [results, Tryz.results170, go_sem]) rfl ⟨add_end_yes (addB_yes h1 h2 (by omega)), (by (repeat (with_reducible first | exact Below.refl _ _ | refine Below.alloc ?_ ?_ _ | refine Below.setCell ?_ ?_ _ | refine Below.drew ?_ | refine below_drewN ?_ _)); all_goals (simp <;> omega))⟩
    · go_enter Tryz.func170, Tryz.ntmps170
      go_wp2_with (go_at_call 222; refine (within_x _ _ _ _ _).mono ?_; rintro e w1 ⟨rfl, rfl⟩)
      refine bodyPost_ret (v := .tuple #[res 0 0 0, .bool false]) (by simp [results, Tryz.results170, go_sem]) rfl ⟨add_end_no (addB_no2 (by simpa using h2)), (by (repeat (with_reducible first | exact Below.refl _ _ | refine Below.alloc ?_ ?_ _ | refine Below.setCell ?_ ?_ _ | refine Below.drew ?_ | refine below_drewN ?_ _)); all_goals (simp <;> omega))⟩
  · go_enter Tryz.func170, Tryz.ntmps170
    go_wp2_with (go_at_call 222; refine (within_x _ _ _ _ _).mono ?_; rintro e w1 ⟨rfl, rfl⟩)
    refine bodyPost_ret (v := .tuple #[res 0 0 0, .bool false]) (by simp [results, Tryz.results170, go_sem]) rfl ⟨add_end_no (addB_no1 (by simpa using h1)), (by (repeat (with_reducible first | exact Below.refl _ _ | refine Below.alloc ?_ ?_ _ | refine Below.setCell ?_ ?_ _ | refine Below.drew ?_ | refine below_drewN ?_ _)); all_goals (simp <;> omega))⟩
end Go.Proofs.YtaleceobkbgcnaaGreat
namespace Go.Proofs.YtaleceobkbgcnaaGreat
open Go.RowKit

def subB (a b c x y z : Int) : Bool := withinB a b c far && withinB x y z far && fitsB x y z a b c
def subV (ok : Bool) (a x : Int) : Int := if ok then a - x else 0
theorem sub_end_no {a b c x y z : Int} (h : subB a b c x y z = false) : Ending.returned (.tuple #[res 0 0 0, .bool false]) = .returned (.tuple #[res (subV (subB a b c x y z) a x) (subV (subB a b c x y z) b y) (subV (subB a b c x y z) c z), .bool (subB a b c x y z)]) := by rw [h]; rfl
theorem sub_end_yes {a b c x y z : Int} (h : subB a b c x y z = true) : Ending.returned (.tuple #[res (a - x) (b - y) (c - z), .bool true]) = .returned (.tuple #[res (subV (subB a b c x y z) a x) (subV (subB a b c x y z) b y) (subV (subB a b c x y z) c z), .bool (subB a b c x y z)]) := by rw [h]; rfl

/-- Sum, plainly: from the left. -/
def sumF : List (Int × Int × Int) → Int → Int → Int → Bool × Int × Int × Int
  | [], a, b, c => (true, a, b, c)
  | (x, y, z) :: r, a, b, c => if addB a b c x y z then sumF r (a + x) (b + y) (c + z) else (false, 0, 0, 0)

/-- The amounts of a list, one behind the other, three cells each. -/
def ResAt (w : World) (b off : Nat) (l : List (Int × Int × Int)) : Prop :=
  ∀ i, i < l.length → w.cell? ⟨b, off + i * 3, none⟩ = some (.int .i64 (l.getD i (0, 0, 0)).1) ∧ w.cell? ⟨b, off + i * 3 + 1, none⟩ = some (.int .i64 (l.getD i (0, 0, 0)).2.1) ∧ w.cell? ⟨b, off + i * 3 + 2, none⟩ = some (.int .i64 (l.getD i (0, 0, 0)).2.2)

theorem sumF_drop {l : List (Int × Int × Int)} {k : Nat} {x y z q0 q1 q2 : Int} (h : k < l.length) (hq : l.getD k (0, 0, 0) = (q0, q1, q2)) :
    sumF (l.drop k) x y z = if addB x y z q0 q1 q2 then sumF (l.drop (k + 1)) (x + q0) (y + q1) (z + q2) else (false, 0, 0, 0) := by
  have e : l[k] = (q0, q1, q2) := by rw [← hq, List.getD_eq_getElem?_getD, List.getElem?_eq_getElem h]; rfl
  rw [List.drop_eq_getElem_cons h, e]; rfl

set_option maxHeartbeats 1000000 in
theorem sum_any (l : List (Int × Int × Int)) (b off cap : Nat) (w : World) (hb : b < w.heap.size) (hl : ResAt w b off l) (hm : l.length ≤ 9223372036854775807) :
    Calls Tryz.prog 153 #[.slice (some ⟨b, off, none⟩) l.length cap] w fun e w' => e = .returned (.tuple #[res (sumF l 0 0 0).2.1 (sumF l 0 0 0).2.2.1 (sumF l 0 0 0).2.2.2, .bool (sumF l 0 0 0).1]) ∧ Below w.heap.size w w' := by
  go_enter Tryz.func153, Tryz.ntmps153
  go_wp2
  go_loopw [11] (fun i wr => ∃ k : Nat, ∃ x y z : Int, k ≤ l.length ∧ i = .int .i64 k ∧ sumF l 0 0 0 = sumF (l.drop k) x y z ∧ Below w.heap.size w wr ∧ w.heap.size + 1 < wr.heap.size
      ∧ wr.cell? ⟨w.heap.size + 1, 0, none⟩ = some (.int .i64 x) ∧ wr.cell? ⟨w.heap.size + 1, 1, none⟩ = some (.int .i64 y) ∧ wr.cell? ⟨w.heap.size + 1, 2, none⟩ = some (.int .i64 z)
      ∧ wr.cell? ⟨w.heap.size, 0, none⟩ = some (.int .i64 0) ∧ wr.cell? ⟨w.heap.size, 1, none⟩ = some (.int .i64 0) ∧ wr.cell? ⟨w.heap.size, 2, none⟩ = some (.int .i64 0)
      ∧ (∀ j, wr.frozen? ⟨w.heap.size, j, none⟩ = false) ∧ (∀ j, wr.frozen? ⟨w.heap.size + 1, j, none⟩ = false)) (fun i _ => l.length - (intOf i).toNat)
  case atStart => 
    refine ⟨0, 0, 0, 0, Nat.zero_le _, rfl, rfl, (by (repeat (with_reducible first | exact Below.refl _ _ | refine Below.alloc ?_ ?_ _ | refine Below.setCell ?_ ?_ _ | refine Below.drew ?_ | refine below_drewN ?_ _)); all_goals (simp <;> omega)), by simp, ?_⟩
    simp [go_sem]
  case round =>
    obtain ⟨k, x, y, z, hk, rfl, hsum, hbel, hsz, c0, c1, c2, r0, r1, r2, f0, f1⟩ := hrel
    by_cases hlt : k < l.length
    · obtain ⟨d0, d1, d2⟩ := hl k hlt
      have e0 := (hbel.cell (p := ⟨b, off + k * 3, none⟩) hb).trans d0
      have e1 := (hbel.cell (p := ⟨b, off + k * 3 + 1, none⟩) hb).trans d1
      have e2 := (hbel.cell (p := ⟨b, off + k * 3 + 2, none⟩) hb).trans d2
      have HS := Lib.hid hsum
      clear hl hsum d0 d1 d2
      generalize hq : l.getD k (0, 0, 0) = q at e0 e1 e2
      obtain ⟨q0, q1, q2⟩ := q
      simp only at e0 e1 e2
      have HQ := Lib.hid hq
      clear hq
      cases hok : addB x y z q0 q1 q2
      · go_wp2_with fail
        refine (add_any _ _ _ _ _ _ _).mono ?_
        rintro e w1 ⟨rfl, hb1⟩
        have hbw : Below wr.heap.size wr w1 := Below.trans (by (repeat (with_reducible first | exact Below.refl _ _ | refine Below.alloc ?_ ?_ _ | refine Below.setCell ?_ ?_ _ | refine Below.drew ?_ | refine below_drewN ?_ _)); all_goals (simp <;> omega)) (hb1.mono (by simp))
        obtain ⟨hc, hf⟩ := bcell hbw
        have hz := hb1.size
        simp at hz
        clear hb1
        have g0 : w.heap.size < w1.heap.size := by omega
        have g1 : w.heap.size + 1 < w1.heap.size := by omega
        have g2 : w.heap.size < wr.heap.size := by omega
        go_wp2
        refine bodyPost_ret (v := .tuple #[res 0 0 0, .bool false]) (by simp [results, Tryz.results153, go_sem, hc, hf, g0, g1, g2, r0, r1, r2, f0]) rfl ⟨?_, ?_⟩
        · rw [HS.out, sumF_drop hlt HQ.out, hok]; rfl
        · refine hbel.trans ((hbw.mono (by omega)).trans ?_)
          ((repeat (with_reducible first | exact Below.refl _ _ | refine Below.alloc ?_ ?_ _ | refine Below.setCell ?_ ?_ _ | refine Below.drew ?_ | refine below_drewN ?_ _)); all_goals (simp <;> omega))
      · go_wp2_with fail
        refine (add_any _ _ _ _ _ _ _).mono ?_
        rintro e w1 ⟨rfl, hb1⟩
        have hbw : Below wr.heap.size wr w1 := Below.trans (by (repeat (with_reducible first | exact Below.refl _ _ | refine Below.alloc ?_ ?_ _ | refine Below.setCell ?_ ?_ _ | refine Below.drew ?_ | refine below_drewN ?_ _)); all_goals (simp <;> omega)) (hb1.mono (by simp))
        obtain ⟨hc, hf⟩ := bcell hbw
        have hz := hb1.size
        simp at hz
        clear hb1
        have g0 : w.heap.size < w1.heap.size := by omega
        have g1 : w.heap.size + 1 < w1.heap.size := by omega
        have g2 : w.heap.size < wr.heap.size := by omega
        go_wp2
        go_roundw
        case rel =>
          refine ⟨k + 1, x + q0, y + q1, z + q2, by omega, by go_num, ?_, ?_, ?_, ?_⟩
          · rw [HS.out, sumF_drop hlt HQ.out, hok]; rfl
          · refine hbel.trans ((hbw.mono (by omega)).trans ?_)
            ((repeat (with_reducible first | exact Below.refl _ _ | refine Below.alloc ?_ ?_ _ | refine Below.setCell ?_ ?_ _ | refine Below.drew ?_ | refine below_drewN ?_ _)); all_goals (simp <;> omega))
          · simp; omega
          · simp [go_sem, hc, hf, hsz, g0, g1, g2, r0, r1, r2, c0, c1, c2, f0, f1, addV]
        case measure => simp [intOf]; omega
    · go_wp2_with fail
      refine bodyPost_ret (v := .tuple #[res x y z, .bool true]) (by simp [results, Tryz.results153, go_sem, r0, r1, r2]) rfl ⟨?_, ?_⟩
      · rw [hsum, List.drop_eq_nil_of_le (by omega)]; rfl
      · exact hbel.trans (by (repeat (with_reducible first | exact Below.refl _ _ | refine Below.alloc ?_ ?_ _ | refine Below.setCell ?_ ?_ _ | refine Below.drew ?_ | refine below_drewN ?_ _)); all_goals (simp <;> omega))
end Go.Proofs.YtaleceobkbgcnaaGreat
