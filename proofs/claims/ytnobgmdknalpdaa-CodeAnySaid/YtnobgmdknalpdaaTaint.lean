/-
  The contracts of package taint. No conditions beyond what is written in each statement.
-/
import Derived.Test.YtnobgmdknalpdaaLabel5
set_option linter.unusedSimpArgs false
set_option linter.unusedVariables false
namespace Go.Proofs.Ytnobgmdknalpdaa
open Go.RowKit

set_option maxHeartbeats 1000000 in
theorem may_taints_any (a : Option Addr) (l : List Str2) (cap : Nat) (w : World) (hl : At2 w a l) :
    Calls Try.prog 90 #[.slice a l.length cap] w fun e w' => e = .returned (.bool (mayL l)) ∧ Below w.heap.size w w' := by
  go_enter Try.func90, Try.ntmps90
  go_wp2
  · go_ret
    exact ⟨ret_bool (by unfold mayL; rw [decide_eq_false (by omega)]; rfl), Below.refl _ _⟩
  · have hm : l.length ≤ 6 := by omega
    go_loopw [10] (fun i wr => ∃ k : Nat, k ≤ l.length ∧ i = .int .i64 k ∧ Hid ((List.range k).all (stepL l) = true) ∧ Below w.heap.size w wr) (fun i _ => l.length - (intOf i).toNat)
    case atStart => exact ⟨0, Nat.zero_le _, rfl, rfl, Below.refl _ _⟩
    case round =>
      obtain ⟨k, hk, rfl, hget, hbel⟩ := hrel
      by_cases hlt : k < l.length
      · obtain ⟨b, off, ha, hb, d0, d1⟩ := hl k hlt
        have c0 := cell_later hbel d0
        have c1 := cell_later hbel d1
        subst ha
        have hno := Lib.hid (fun h : stepL l k = false => all_range_no hlt h)
        have hsu := Lib.hid (all_range_succ (stepL l) k)
        have hst : Hid (stepL l k = (nameL (keyAt l k).data.toList && nameL (valAt l k).data.toList && (decide (k = 0) || lessB (keyAt l (k - 1)) (keyAt l k)))) := rfl
        have hprev : ∀ j, k = j + 1 → wr.cell? ⟨b, off + j * 2, none⟩ = some (.string (keyAt l j)) := fun j hj => by
          obtain ⟨b', off', ha', hb', d0', d1'⟩ := hl j (by omega)
          simp at ha'
          obtain ⟨rfl, rfl⟩ := ha'
          exact cell_later hbel d0'
        change wr.cell? _ = some (.string (keyAt l k)) at c0
        change wr.cell? _ = some (.string (valAt l k)) at c1
        clear d0 d1 hl
        generalize keyAt l k = q0 at c0 hst
        generalize valAt l k = q1 at c1 hst
        cases h0 : nameL q0.data.toList
        · go_wp2_with (go_at_call 73; refine (name_any _ _).mono ?_; rintro e w' ⟨rfl, rfl⟩)
          go_ret
          exact ⟨ret_bool (by unfold mayL; rw [hno.out (by rw [hst.out, h0]; rfl)]; simp), hbel.trans (by (repeat (with_reducible first | exact Below.refl _ _ | refine Below.alloc ?_ ?_ _ | refine Below.drew ?_ | refine below_drewN ?_ _)); all_goals (have := hbel.size; simp <;> omega))⟩
        · cases h1 : nameL q1.data.toList
          · go_wp2_with (go_at_call 73; refine (name_any _ _).mono ?_; rintro e w' ⟨rfl, rfl⟩)
            go_ret
            exact ⟨ret_bool (by unfold mayL; rw [hno.out (by rw [hst.out, h0, h1]; rfl)]; simp), hbel.trans (by (repeat (with_reducible first | exact Below.refl _ _ | refine Below.alloc ?_ ?_ _ | refine Below.drew ?_ | refine below_drewN ?_ _)); all_goals (have := hbel.size; simp <;> omega))⟩
          · by_cases k0 : k = 0
            · subst k0
              simp only [Nat.zero_mul, Nat.add_zero] at c0 c1
              clear hprev
              go_wp2_with (go_at_call 73; refine (name_any _ _).mono ?_; rintro e w' ⟨rfl, rfl⟩)
              go_quiet (fail)
              go_wp2
              go_roundw
              case rel => exact ⟨1, by omega, by go_num, by show _ = _; rw [hsu.out, hget.out, hst.out, h0, h1]; rfl, hbel.trans (by (repeat (with_reducible first | exact Below.refl _ _ | refine Below.alloc ?_ ?_ _ | refine Below.drew ?_ | refine below_drewN ?_ _)); all_goals (have := hbel.size; simp <;> omega))⟩
              case measure => simp [intOf]; omega
            · have p0 := hprev (k - 1) (by omega)
              clear hprev
              generalize keyAt l (k - 1) = p at p0 hst
              have kp : (0 : Int) < (k : Int) := by omega
              have kn : 0 < k := by omega
              have hbb : b < wr.heap.size := by have := hbel.size; omega
              have kw : IntKind.i64.wrap ((k : Int) - 1) = ((k - 1 : Nat) : Int) := by rw [IntWalk.i64_in _ (by omega)]; omega
              have kl : ((k - 1 : Nat) : Int) < (l.length : Int) := by omega
              have kz : (0 : Int) ≤ ((k - 1 : Nat) : Int) := by omega
              go_wp2_with (go_at_call 73; refine (name_any _ _).mono ?_; rintro e w' ⟨rfl, rfl⟩)
              go_quiet (fail)
              go_wp2
              · go_ret
                have hx : lessB p q0 = false := by unfold lessB; simpa using ‹(!Op.bytesLess p.toList q0.toList) = true›
                exact ⟨ret_bool (by unfold mayL; rw [hno.out (by rw [hst.out, h0, h1, hx, decide_eq_false k0]; rfl)]; simp), hbel.trans (by (repeat (with_reducible first | exact Below.refl _ _ | refine Below.alloc ?_ ?_ _ | refine Below.drew ?_ | refine below_drewN ?_ _)); all_goals (have := hbel.size; simp <;> omega))⟩
              · go_roundw
                case rel =>
                  have hx : lessB p q0 = true := by unfold lessB; simpa using ‹(!Op.bytesLess p.toList q0.toList) = false›
                  exact ⟨k + 1, by omega, by go_num, by show _ = _; rw [hsu.out, hget.out, hst.out, h0, h1, hx]; simp, hbel.trans (by (repeat (with_reducible first | exact Below.refl _ _ | refine Below.alloc ?_ ?_ _ | refine Below.drew ?_ | refine below_drewN ?_ _)); all_goals (have := hbel.size; simp <;> omega))⟩
                case measure => simp [intOf]; omega
      · go_wp2
        go_ret
        have h := hget.out
        exact ⟨ret_bool (by unfold mayL; rw [show l.length = k by omega, h, decide_eq_true (by omega)]; rfl), hbel⟩

/-- A toleration: its Key, its Val, whether of any. -/
abbrev Tol := ByteArray × ByteArray × Bool
def e3 : Tol := (ByteArray.empty, ByteArray.empty, false)
abbrev tol (t : Tol) : Value := .agg #[.string t.1, .string t.2.1, .bool t.2.2]
abbrev str2 (x : Str2) : Value := .agg #[.string x.1, .string x.2]
def bearsB (t : Tol) (x : Str2) : Bool := (decide (t.1 = ByteArray.empty) || decide (t.1 = x.1)) && (t.2.2 || decide (t.2.1 = x.2))

set_option maxHeartbeats 1000000 in
theorem bears_any (k v : ByteArray) (any : Bool) (xk xv : ByteArray) (w : World) :
    Calls Try.prog 97 #[.agg #[.string k, .string v, .bool any], .agg #[.string xk, .string xv]] w fun e w' => e = .returned (.bool (bearsB (k, v, any) (xk, xv))) ∧ Below w.heap.size w w' := by
  cases any
  all_goals
    go_enter Try.func97, Try.ntmps97
    go_wp2
    all_goals (go_ret; refine ⟨ret_bool ?_, (by (repeat (with_reducible first | exact Below.refl _ _ | refine Below.alloc ?_ ?_ _ | refine Below.setCell ?_ ?_ _ | refine Below.drew ?_ | refine below_drewN ?_ _)); all_goals (simp <;> omega))⟩; go_light; simp_all [bearsB, toList_beq, toList_isEmpty, toList_nil])

def tolB (t : Tol) : Bool := (decide (t.1 = ByteArray.empty) || nameL t.1.data.toList) && (if t.2.2 then decide (t.2.1 = ByteArray.empty) else nameL t.2.1.data.toList)

set_option maxHeartbeats 1000000 in
theorem mayTol_any (k v : ByteArray) (any : Bool) (w : World) :
    Calls Try.prog 100 #[.agg #[.string k, .string v, .bool any]] w fun e w' => e = .returned (.bool (tolB (k, v, any))) ∧ Below w.heap.size w w' := by
  cases any
  all_goals
    go_enter Try.func100, Try.ntmps100
    go_wp2_with (go_at_call 73; refine (name_any _ _).mono ?_; rintro e w' ⟨rfl, rfl⟩)
    all_goals (go_ret; refine ⟨ret_bool ?_, (by (repeat (with_reducible first | exact Below.refl _ _ | refine Below.alloc ?_ ?_ _ | refine Below.setCell ?_ ?_ _ | refine Below.drew ?_ | refine below_drewN ?_ _)); all_goals (simp <;> omega))⟩; go_light; simp_all [tolB, toList_isEmpty, toList_nil])

/-- A slice's address leads to a list of tolerations, three cells each, in old memory. -/
def AtL (w : World) (a : Option Addr) (l : List Tol) : Prop :=
  l.length ≤ 9223372036854775807 ∧ ∀ i, i < l.length → ∃ b off, a = some ⟨b, off, none⟩ ∧ b < w.heap.size ∧ w.cell? ⟨b, off + i * 3, none⟩ = some (.string (l.getD i e3).1) ∧ w.cell? ⟨b, off + i * 3 + 1, none⟩ = some (.string (l.getD i e3).2.1) ∧ w.cell? ⟨b, off + i * 3 + 2, none⟩ = some (.bool (l.getD i e3).2.2)

theorem AtL.below {w w1 : World} {a : Option Addr} {l : List Tol} (h : AtL w a l) (hb : Below w.heap.size w w1) : AtL w1 a l := ⟨h.1, fun i hi => by
  obtain ⟨b, off, ha, hlt, c0, c1, c2⟩ := h.2 i hi
  exact ⟨b, off, ha, Nat.lt_of_lt_of_le hlt hb.size, cell_later hb c0, cell_later hb c1, cell_later hb c2⟩⟩

def mayTolsB (l : List Tol) : Bool := decide (l.length ≤ 6) && l.all tolB

set_option maxHeartbeats 1000000 in
theorem mayTols_any (ta : Option Addr) (ts : List Tol) (tcap : Nat) (w : World) (ht : AtL w ta ts) :
    Calls Try.prog 78 #[.slice ta ts.length tcap] w fun e w' => e = .returned (.bool (mayTolsB ts)) ∧ Below w.heap.size w w' := by
  obtain ⟨htm, ht⟩ := ht
  go_enter Try.func78, Try.ntmps78
  go_wp2
  · go_ret
    exact ⟨ret_bool (by unfold mayTolsB; rw [decide_eq_false (by omega)]; rfl), Below.refl _ _⟩
  · have hm : ts.length ≤ 6 := by omega
    go_loopw [10] (fun i wr => ∃ k : Nat, k ≤ ts.length ∧ i = .int .i64 k ∧ Hid (mayTolsB ts = (ts.drop k).all tolB) ∧ Below w.heap.size w wr) (fun i _ => ts.length - (intOf i).toNat)
    case atStart => exact ⟨0, Nat.zero_le _, rfl, by show _ = _; unfold mayTolsB; rw [decide_eq_true hm]; rfl, Below.refl _ _⟩
    case round =>
      obtain ⟨k, hk, rfl, hget, hbel⟩ := hrel
      by_cases hlt : k < ts.length
      · obtain ⟨b, off, ha, hb, d0, d1, d2⟩ := ht k hlt
        have c0 := cell_later hbel d0
        have c1 := cell_later hbel d1
        have c2 := cell_later hbel d2
        have hdrop := Lib.hid (all_drop (d := e3) tolB hlt)
        clear d0 d1 d2 ht
        subst ha
        generalize hq : ts.getD k e3 = q at c0 c1 c2 hdrop
        obtain ⟨q0, q1, q2⟩ := q
        simp only at c0 c1 c2
        clear hq
        go_wp2_with (go_at_call 100; refine (mayTol_any _ _ _ _).mono ?_; rintro e w1 ⟨rfl, hb1⟩)
        · go_ret
          have hx : tolB (q0, q1, q2) = false := by simpa using ‹(!tolB (q0, q1, q2)) = true›
          exact ⟨ret_bool (by rw [hget.out, hdrop.out, hx]; rfl), (hbel.alloc hbel.size _).trans (hb1.mono (by simp; have := hbel.size; omega))⟩
        · go_roundw
          case rel =>
            have hx : tolB (q0, q1, q2) = true := by simpa using ‹(!tolB (q0, q1, q2)) = false›
            exact ⟨k + 1, by omega, by go_num, by show _ = _; rw [hget.out, hdrop.out, hx]; rfl, (hbel.alloc hbel.size _).trans (hb1.mono (by simp; have := hbel.size; omega))⟩
          case measure => simp [intOf]; omega
      · go_wp2
        go_ret
        have h := hget.out
        rw [List.drop_eq_nil_of_le (by omega)] at h
        exact ⟨ret_bool (by rw [h]; rfl), hbel⟩

def borneB (l : List Tol) (x : Str2) : Bool := l.any fun t => bearsB t x

set_option maxHeartbeats 1000000 in
theorem borne_any (ta : Option Addr) (ts : List Tol) (tcap : Nat) (xk xv : ByteArray) (w : World) (ht : AtL w ta ts) :
    Calls Try.prog 72 #[.slice ta ts.length tcap, .agg #[.string xk, .string xv]] w fun e w' => e = .returned (.bool (borneB ts (xk, xv))) ∧ Below w.heap.size w w' := by
  obtain ⟨htm, ht⟩ := ht
  go_enter Try.func72, Try.ntmps72
  go_wp2
  go_loopw [9] (fun i wr => ∃ k : Nat, k ≤ ts.length ∧ i = .int .i64 k ∧ Hid (borneB ts (xk, xv) = (ts.drop k).any fun t => bearsB t (xk, xv)) ∧ Below w.heap.size w wr ∧ w.heap.size < wr.heap.size ∧ wr.cell? ⟨w.heap.size, 0, none⟩ = some (.string xk) ∧ wr.cell? ⟨w.heap.size, 1, none⟩ = some (.string xv)) (fun i _ => ts.length - (intOf i).toNat)
  case atStart => exact ⟨0, Nat.zero_le _, rfl, rfl, (by (repeat (with_reducible first | exact Below.refl _ _ | refine Below.alloc ?_ ?_ _ | refine Below.setCell ?_ ?_ _ | refine Below.drew ?_ | refine below_drewN ?_ _)); all_goals (simp <;> omega)), by simp, by simp, by simp⟩
  case round =>
    obtain ⟨k, hk, rfl, hget, hbel, hsz, x0, x1⟩ := hrel
    by_cases hlt : k < ts.length
    · obtain ⟨b, off, ha, hb, d0, d1, d2⟩ := ht k hlt
      have c0 := cell_later hbel d0
      have c1 := cell_later hbel d1
      have c2 := cell_later hbel d2
      have hdrop := Lib.hid (any_drop (d := e3) (fun t => bearsB t (xk, xv)) hlt)
      clear d0 d1 d2 ht
      subst ha
      generalize hq : ts.getD k e3 = q at c0 c1 c2 hdrop
      obtain ⟨q0, q1, q2⟩ := q
      simp only at c0 c1 c2
      clear hq
      have hbw : ∀ o w1, Below (wr.alloc o).heap.size (wr.alloc o) w1 → Below wr.heap.size wr w1 := fun o w1 h => ((Below.refl _ _).alloc (Nat.le_refl _) o).trans (h.mono (by simp))
      cases hx : bearsB (q0, q1, q2) (xk, xv)
      · go_wp2_with (go_at_call 97; refine (bears_any _ _ _ _ _ _).mono ?_; rintro e w1 ⟨rfl, hb1⟩)
        go_roundw
        case rel =>
          have hb2 := hbw _ _ hb1
          exact ⟨k + 1, by omega, by go_num, by show _ = _; rw [hget.out, hdrop.out, hx]; rfl, hbel.trans (hb2.mono hbel.size), Nat.lt_of_lt_of_le hsz hb2.size, cell_later hb2 x0, cell_later hb2 x1⟩
        case measure => simp [intOf]; omega
      · go_wp2_with (go_at_call 97; refine (bears_any _ _ _ _ _ _).mono ?_; rintro e w1 ⟨rfl, hb1⟩)
        go_ret
        have hb2 := hbw _ _ hb1
        exact ⟨ret_bool (by rw [hget.out, hdrop.out, hx]; rfl), hbel.trans (hb2.mono hbel.size)⟩
    · go_wp2
      go_ret
      have h := hget.out
      rw [List.drop_eq_nil_of_le (by omega)] at h
      exact ⟨ret_bool (by rw [h]; rfl), hbel⟩

def allB (tols : List Tol) (ts : List Str2) : Bool := ts.all fun x => borneB tols x

set_option maxHeartbeats 1000000 in
theorem all_any (la : Option Addr) (tols : List Tol) (lcap : Nat) (ta : Option Addr) (ts : List Str2) (tcap : Nat) (w : World) (hl : AtL w la tols) (ht : At2 w ta ts) (hm : ts.length ≤ 9223372036854775807) :
    Calls Try.prog 24 #[.slice la tols.length lcap, .slice ta ts.length tcap] w fun e w' => e = .returned (.bool (allB tols ts)) ∧ Below w.heap.size w w' := by
  go_enter Try.func24, Try.ntmps24
  go_wp2
  go_loopw [9] (fun i wr => ∃ k : Nat, k ≤ ts.length ∧ i = .int .i64 k ∧ Hid (allB tols ts = (ts.drop k).all fun x => borneB tols x) ∧ Below w.heap.size w wr) (fun i _ => ts.length - (intOf i).toNat)
  case atStart => exact ⟨0, Nat.zero_le _, rfl, rfl, Below.refl _ _⟩
  case round =>
    obtain ⟨k, hk, rfl, hget, hbel⟩ := hrel
    by_cases hlt : k < ts.length
    · obtain ⟨b, off, ha, hb, d0, d1⟩ := ht k hlt
      have c0 := cell_later hbel d0
      have c1 := cell_later hbel d1
      have hl1 := hl.below hbel
      have hlA : ∀ o : Obj, AtL (wr.alloc o) la tols := fun o => hl1.below ((Below.refl _ _).alloc (Nat.le_refl _) o)
      have hdrop := Lib.hid (all_drop (d := e2) (fun x => borneB tols x) hlt)
      clear d0 d1 ht hl hl1
      subst ha
      generalize hq : ts.getD k e2 = q at c0 c1 hdrop
      obtain ⟨q0, q1⟩ := q
      simp only at c0 c1
      clear hq
      go_wp2_with (go_at_call 72; refine (borne_any _ _ _ _ _ _ (hlA _)).mono ?_; rintro e w1 ⟨rfl, hb1⟩)
      · go_ret
        have hx : borneB tols (q0, q1) = false := by simpa using ‹(!borneB tols (q0, q1)) = true›
        exact ⟨ret_bool (by rw [hget.out, hdrop.out, hx]; rfl), (hbel.alloc hbel.size _).trans (hb1.mono (by simp; have := hbel.size; omega))⟩
      · go_roundw
        case rel =>
          have hx : borneB tols (q0, q1) = true := by simpa using ‹(!borneB tols (q0, q1)) = false›
          exact ⟨k + 1, by omega, by go_num, by show _ = _; rw [hget.out, hdrop.out, hx]; rfl, (hbel.alloc hbel.size _).trans (hb1.mono (by simp; have := hbel.size; omega))⟩
        case measure => simp [intOf]; omega
    · go_wp2
      go_ret
      have h := hget.out
      rw [List.drop_eq_nil_of_le (by omega)] at h
      exact ⟨ret_bool (by rw [h]; rfl), hbel⟩
end Go.Proofs.Ytnobgmdknalpdaa
