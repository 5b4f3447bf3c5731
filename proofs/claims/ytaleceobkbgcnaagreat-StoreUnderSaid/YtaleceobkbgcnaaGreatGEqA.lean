/-
  How two structs of package api are held against each other. No conditions beyond what is written in each statement.
-/
import Derived.Test.YtaleceobkbgcnaaGreatObj1
import Derived.ChangeKeysEq
set_option linter.unusedSimpArgs false
set_option linter.unusedVariables false
namespace Go.Proofs.YtaleceobkbgcnaaGreat
open Go.RowKit

def eqP (x y : Str2) : Bool := decide (x.1 = y.1) && decide (x.2 = y.2)
def eqK (x y : Tol) : Bool := decide (x.1 = y.1) && decide (x.2.1 = y.2.1) && decide (x.2.2 = y.2.2)

theorem guardP : Tryz.prog.eqGuardType Tryz.prog.depth 230 = false := by kernel_rfl
theorem structP : Tryz.prog.underlying 230 = some (.struct (Tryz.prog.fieldsOf 230)) := by kernel_rfl
theorem heldP : Tryz.prog.stoodInHeld 230 = false := by kernel_rfl
theorem eq_P (x y z u : ByteArray) (w : World) : (Op.equalIn 10000 230 (.agg #[.string x, .string y]) (.agg #[.string z, .string u])).run Tryz.prog w = .ok (eqP (x, y) (z, u)) w := by
  rw [run_equalIn_agg w 9999 230 _ _ structP heldP]
  have hf := structP.symm.trans Tryz.underlying230
  simp only [Option.some.injEq, TypeDesc.struct.injEq] at hf
  rw [hf]
  go_simp
  unfold eqP
  by_cases h1 : x = z
  · subst h1
    by_cases h2 : y = u
    · subst h2; simp
    · have h2' : ¬ y.toList = u.toList := fun h => h2 (toList_inj.1 h)
      simp [h2, h2']
  · have h1' : ¬ x.toList = z.toList := fun h => h1 (toList_inj.1 h)
    simp [h1, h1']

theorem guardN : Tryz.prog.eqGuardType Tryz.prog.depth 232 = false := by kernel_rfl
theorem structN : Tryz.prog.underlying 232 = some (.struct (Tryz.prog.fieldsOf 232)) := by kernel_rfl
theorem heldN : Tryz.prog.stoodInHeld 232 = false := by kernel_rfl
theorem eq_N (x y z u : ByteArray) (w : World) : (Op.equalIn 10000 232 (.agg #[.string x, .string y]) (.agg #[.string z, .string u])).run Tryz.prog w = .ok (eqP (x, y) (z, u)) w := by
  rw [run_equalIn_agg w 9999 232 _ _ structN heldN]
  have hf := structN.symm.trans Tryz.underlying232
  simp only [Option.some.injEq, TypeDesc.struct.injEq] at hf
  rw [hf]
  go_simp
  unfold eqP
  by_cases h1 : x = z
  · subst h1
    by_cases h2 : y = u
    · subst h2; simp
    · have h2' : ¬ y.toList = u.toList := fun h => h2 (toList_inj.1 h)
      simp [h2, h2']
  · have h1' : ¬ x.toList = z.toList := fun h => h1 (toList_inj.1 h)
    simp [h1, h1']

theorem guardL : Tryz.prog.eqGuardType Tryz.prog.depth 246 = false := by kernel_rfl
theorem structL : Tryz.prog.underlying 246 = some (.struct (Tryz.prog.fieldsOf 246)) := by kernel_rfl
theorem heldL : Tryz.prog.stoodInHeld 246 = false := by kernel_rfl
theorem eq_L (x y z u : ByteArray) (b c : Bool) (w : World) : (Op.equalIn 10000 246 (.agg #[.string x, .string y, .bool b]) (.agg #[.string z, .string u, .bool c])).run Tryz.prog w = .ok (eqK (x, y, b) (z, u, c)) w := by
  rw [run_equalIn_agg w 9999 246 _ _ structL heldL]
  have hf := structL.symm.trans Tryz.underlying246
  simp only [Option.some.injEq, TypeDesc.struct.injEq] at hf
  rw [hf]
  go_simp
  unfold eqK
  by_cases h1 : x = z
  · subst h1
    by_cases h2 : y = u
    · subst h2; cases b <;> cases c <;> simp
    · have h2' : ¬ y.toList = u.toList := fun h => h2 (toList_inj.1 h)
      simp [h2, h2']
  · have h1' : ¬ x.toList = z.toList := fun h => h1 (toList_inj.1 h)
    simp [h1, h1']

def eqRB (a b c x y z : Int) : Bool := decide (a = x) && decide (b = y) && decide (c = z)
theorem guardR : Tryz.prog.eqGuardType Tryz.prog.depth 210 = false := by kernel_rfl
theorem eqPlainI : Tryz.prog.plainKey 2 = true := by kernel_rfl
theorem eqCellsI : Tryz.prog.cellsOf 2 = 1 := by kernel_rfl
theorem eqInfoI : ∃ i, Tryz.prog.info? 2 = some i := by
  have h : (Tryz.prog.info? 2).isSome = true := by kernel_rfl
  exact Option.isSome_iff_exists.1 h
theorem eq_R (a b c x y z : Int) (w : World) : (Op.equalIn 10000 210 (.agg #[.int .i64 a, .int .i64 b, .int .i64 c]) (.agg #[.int .i64 x, .int .i64 y, .int .i64 z])).run Tryz.prog w = .ok (eqRB a b c x y z) w := by
  obtain ⟨i, hi⟩ := eqInfoI
  rw [run_equalIn_array w 9999 _ _ Tryz.underlying210 hi, eqCellsI, show List.range 3 = [0, 1, 2] from rfl]
  simp only [Op.eqItems, Sem.run_bind]
  rw [run_part_plain w eqPlainI (show #[.int .i64 a, .int .i64 b, .int .i64 c][0 * 1]? = some (.int .i64 a) from rfl), Result.andThen_ok]
  rw [run_part_plain w eqPlainI (show #[.int .i64 x, .int .i64 y, .int .i64 z][0 * 1]? = some (.int .i64 x) from rfl), Result.andThen_ok]
  rw [run_equalIn_int w 9998 2 _ _ a x Tryz.underlying2, Result.andThen_ok]
  unfold eqRB
  by_cases h1 : a = x
  rotate_left
  · simp [h1]
  · subst h1
    simp only [beq_self_eq_true, Bool.not_true, Bool.false_eq_true, if_false, Sem.run_bind, decide_true, Bool.true_and]
    rw [run_part_plain w eqPlainI (show #[.int .i64 a, .int .i64 b, .int .i64 c][1 * 1]? = some (.int .i64 b) from rfl), Result.andThen_ok]
    rw [run_part_plain w eqPlainI (show #[.int .i64 a, .int .i64 y, .int .i64 z][1 * 1]? = some (.int .i64 y) from rfl), Result.andThen_ok]
    rw [run_equalIn_int w 9998 2 _ _ b y Tryz.underlying2, Result.andThen_ok]
    by_cases h2 : b = y
    rotate_left
    · simp [h2]
    · subst h2
      simp only [beq_self_eq_true, Bool.not_true, Bool.false_eq_true, if_false, Sem.run_bind, decide_true, Bool.true_and]
      rw [run_part_plain w eqPlainI (show #[.int .i64 a, .int .i64 b, .int .i64 c][2 * 1]? = some (.int .i64 c) from rfl), Result.andThen_ok]
      rw [run_part_plain w eqPlainI (show #[.int .i64 a, .int .i64 b, .int .i64 z][2 * 1]? = some (.int .i64 z) from rfl), Result.andThen_ok]
      rw [run_equalIn_int w 9998 2 _ _ c z Tryz.underlying2, Result.andThen_ok]
      by_cases h3 : c = z
      · simp [h3]
      · simp [h3]
end Go.Proofs.YtaleceobkbgcnaaGreat
namespace Go.Proofs.YtaleceobkbgcnaaGreat
open Go.RowKit

def eqL {α : Type} (eq : α → α → Bool) : List α → List α → Bool
  | [], [] => true
  | x :: r, y :: s => eq x y && eqL eq r s
  | _, _ => false
theorem eqL_len {α : Type} {eq : α → α → Bool} : ∀ {l m : List α}, l.length ≠ m.length → eqL eq l m = false
  | [], [], h => by simp at h
  | x :: r, y :: s, h => by rw [eqL, eqL_len (by simpa using h)]; simp
  | [], y :: s, _ => rfl
  | x :: r, [], _ => rfl
theorem eqL_drop {α : Type} {eq : α → α → Bool} {l m : List α} {k : Nat} {d : α} (h1 : k < l.length) (h2 : k < m.length) : eqL eq (l.drop k) (m.drop k) = (eq (l.getD k d) (m.getD k d) && eqL eq (l.drop (k + 1)) (m.drop (k + 1))) := by
  rw [List.drop_eq_getElem_cons h1, List.drop_eq_getElem_cons h2, List.getD_eq_getElem?_getD, List.getElem?_eq_getElem h1, List.getD_eq_getElem?_getD, List.getElem?_eq_getElem h2]; rfl

def eqI (x y : Int) : Bool := decide (x = y)
set_option maxRecDepth 100000 in
set_option maxHeartbeats 1000000 in
theorem eqListI_any (a : Option Addr) (l : List Int) (cap : Nat) (b : Option Addr) (m : List Int) (cap' : Nat) (w : World) (hl : AtI w a l) (hm : AtI w b m) :
    Calls Tryz.prog 206 #[.slice a l.length cap, .slice b m.length cap'] w fun e w' => e = .returned (.bool (eqL eqI l m)) ∧ Below w.heap.size w w' := by
  obtain ⟨hn1, hl⟩ := hl; obtain ⟨hn2, hm⟩ := hm
  go_enter Tryz.func206, Tryz.ntmps206
  go_wp2
  · go_ret
    have h : ((l.length : Int) != (m.length : Int)) = true := by assumption
    have hne : l.length ≠ m.length := by simp at h; omega
    exact ⟨ret_bool (eqL_len hne).symm, Below.refl _ _⟩
  · have h : ((l.length : Int) != (m.length : Int)) = false := by assumption
    have heq : Hid (l.length = m.length) := by show _ = _; simp at h; omega
    clear h
    go_loopw [13] (fun i wr => ∃ k : Nat, k ≤ l.length ∧ i = .int .i64 k ∧ Hid (eqL eqI l m = eqL eqI (l.drop k) (m.drop k)) ∧ ∃ nd : Nat, wr = w.drewN nd) (fun i _ => l.length - (intOf i).toNat)
    case atStart => exact ⟨0, Nat.zero_le _, rfl, rfl, 0, rfl⟩
    case round =>
      obtain ⟨k, hk, rfl, hget, nd, rfl⟩ := hrel
      by_cases hlt : k < l.length
      · have hlt2 : k < m.length := by have := heq.out; omega
        have hdrop := Lib.hid (eqL_drop (eq := eqI) (d := 0) hlt hlt2)
        obtain ⟨b1, o1, ha1, hb1, c1⟩ := hl k hlt; subst ha1
        obtain ⟨b2, o2, ha2, hb2, c2⟩ := hm k hlt2; subst ha2
        have kl : (k : Int) < (l.length : Int) := by omega
        have km : (k : Int) < (m.length : Int) := by omega
        generalize hq1 : l.getD k 0 = q1 at *
        generalize hq2 : m.getD k 0 = q2 at *
        clear hq1 hq2
        clear hl hm
        go_wp2
        go_quiet (fail)
        go_wp2
        · go_ret
          have hx : eqI q1 q2 = false := by unfold eqI; simpa using ‹(q1 != q2) = true›
          exact ⟨ret_bool (by rw [hget.out, hdrop.out, hx]; rfl), (by (repeat (with_reducible first | exact Below.refl _ _ | refine Below.alloc ?_ ?_ _ | refine Below.setCell ?_ ?_ _ | refine Below.drew ?_ | refine below_drewN ?_ _)); all_goals (simp <;> omega))⟩
        · go_roundw
          case rel =>
            have hx : eqI q1 q2 = true := by unfold eqI; simpa using ‹(q1 != q2) = false›
            exact ⟨k + 1, by omega, by go_num, by show _ = _; rw [hget.out, hdrop.out, hx]; rfl, _, rfl⟩
          case measure => simp [intOf]; omega
      · go_wp2
        go_ret
        have h := hget.out
        rw [List.drop_eq_nil_of_le (by omega), List.drop_eq_nil_of_le (by have := heq.out; omega)] at h
        exact ⟨ret_bool (by rw [h]; rfl), (by (repeat (with_reducible first | exact Below.refl _ _ | refine Below.alloc ?_ ?_ _ | refine Below.setCell ?_ ?_ _ | refine Below.drew ?_ | refine below_drewN ?_ _)); all_goals (simp <;> omega))⟩

def eqS (x y : ByteArray) : Bool := decide (x = y)
set_option maxRecDepth 100000 in
set_option maxHeartbeats 1000000 in
theorem eqListS_any (a : Option Addr) (l : List ByteArray) (cap : Nat) (b : Option Addr) (m : List ByteArray) (cap' : Nat) (w : World) (hl : At1 w a l) (hm : At1 w b m) :
    Calls Tryz.prog 247 #[.slice a l.length cap, .slice b m.length cap'] w fun e w' => e = .returned (.bool (eqL eqS l m)) ∧ Below w.heap.size w w' := by
  obtain ⟨hn1, hl⟩ := hl; obtain ⟨hn2, hm⟩ := hm
  go_enter Tryz.func247, Tryz.ntmps247
  go_wp2
  · go_ret
    have h : ((l.length : Int) != (m.length : Int)) = true := by assumption
    have hne : l.length ≠ m.length := by simp at h; omega
    exact ⟨ret_bool (eqL_len hne).symm, Below.refl _ _⟩
  · have h : ((l.length : Int) != (m.length : Int)) = false := by assumption
    have heq : Hid (l.length = m.length) := by show _ = _; simp at h; omega
    clear h
    go_loopw [13] (fun i wr => ∃ k : Nat, k ≤ l.length ∧ i = .int .i64 k ∧ Hid (eqL eqS l m = eqL eqS (l.drop k) (m.drop k)) ∧ ∃ nd : Nat, wr = w.drewN nd) (fun i _ => l.length - (intOf i).toNat)
    case atStart => exact ⟨0, Nat.zero_le _, rfl, rfl, 0, rfl⟩
    case round =>
      obtain ⟨k, hk, rfl, hget, nd, rfl⟩ := hrel
      by_cases hlt : k < l.length
      · have hlt2 : k < m.length := by have := heq.out; omega
        have hdrop := Lib.hid (eqL_drop (eq := eqS) (d := ByteArray.empty) hlt hlt2)
        obtain ⟨b1, o1, ha1, hb1, c1⟩ := hl k hlt; subst ha1
        obtain ⟨b2, o2, ha2, hb2, c2⟩ := hm k hlt2; subst ha2
        have kl : (k : Int) < (l.length : Int) := by omega
        have km : (k : Int) < (m.length : Int) := by omega
        generalize hq1 : l.getD k ByteArray.empty = q1 at *
        generalize hq2 : m.getD k ByteArray.empty = q2 at *
        clear hq1 hq2
        clear hl hm
        go_wp2
        go_quiet (fail)
        go_wp2
        · go_ret
          have hx : eqS q1 q2 = false := by unfold eqS; simpa [toList_inj] using ‹(!q1.toList == q2.toList) = true›
          exact ⟨ret_bool (by rw [hget.out, hdrop.out, hx]; rfl), (by (repeat (with_reducible first | exact Below.refl _ _ | refine Below.alloc ?_ ?_ _ | refine Below.setCell ?_ ?_ _ | refine Below.drew ?_ | refine below_drewN ?_ _)); all_goals (simp <;> omega))⟩
        · go_roundw
          case rel =>
            have hx : eqS q1 q2 = true := by unfold eqS; simpa [toList_inj] using ‹(!q1.toList == q2.toList) = false›
            exact ⟨k + 1, by omega, by go_num, by show _ = _; rw [hget.out, hdrop.out, hx]; rfl, _, rfl⟩
          case measure => simp [intOf]; omega
      · go_wp2
        go_ret
        have h := hget.out
        rw [List.drop_eq_nil_of_le (by omega), List.drop_eq_nil_of_le (by have := heq.out; omega)] at h
        exact ⟨ret_bool (by rw [h]; rfl), (by (repeat (with_reducible first | exact Below.refl _ _ | refine Below.alloc ?_ ?_ _ | refine Below.setCell ?_ ?_ _ | refine Below.drew ?_ | refine below_drewN ?_ _)); all_goals (simp <;> omega))⟩

set_option maxRecDepth 100000 in
set_option maxHeartbeats 1000000 in
theorem eqListP_any (a : Option Addr) (l : List Str2) (cap : Nat) (b : Option Addr) (m : List Str2) (cap' : Nat) (w : World) (hl : At2 w a l) (hm : At2 w b m) (hn1 : l.length ≤ 9223372036854775807) (hn2 : m.length ≤ 9223372036854775807) :
    Calls Tryz.prog 207 #[.slice a l.length cap, .slice b m.length cap'] w fun e w' => e = .returned (.bool (eqL eqP l m)) ∧ Below w.heap.size w w' := by
  skip
  go_enter Tryz.func207, Tryz.ntmps207
  go_wp2
  · go_ret
    have h : ((l.length : Int) != (m.length : Int)) = true := by assumption
    have hne : l.length ≠ m.length := by simp at h; omega
    exact ⟨ret_bool (eqL_len hne).symm, Below.refl _ _⟩
  · have h : ((l.length : Int) != (m.length : Int)) = false := by assumption
    have heq : Hid (l.length = m.length) := by show _ = _; simp at h; omega
    clear h
    go_loopw [13] (fun i wr => ∃ k : Nat, k ≤ l.length ∧ i = .int .i64 k ∧ Hid (eqL eqP l m = eqL eqP (l.drop k) (m.drop k)) ∧ ∃ nd : Nat, wr = w.drewN nd) (fun i _ => l.length - (intOf i).toNat)
    case atStart => exact ⟨0, Nat.zero_le _, rfl, rfl, 0, rfl⟩
    case round =>
      obtain ⟨k, hk, rfl, hget, nd, rfl⟩ := hrel
      by_cases hlt : k < l.length
      · have hlt2 : k < m.length := by have := heq.out; omega
        have hdrop := Lib.hid (eqL_drop (eq := eqP) (d := e2) hlt hlt2)
        obtain ⟨b1, o1, ha1, hb1, c1, d1⟩ := hl k hlt; subst ha1
        obtain ⟨b2, o2, ha2, hb2, c2, d2⟩ := hm k hlt2; subst ha2
        have kl : (k : Int) < (l.length : Int) := by omega
        have km : (k : Int) < (m.length : Int) := by omega
        generalize hq1 : l.getD k e2 = q1 at *
        generalize hq2 : m.getD k e2 = q2 at *
        clear hq1 hq2
        clear hl hm; obtain ⟨q10, q11⟩ := q1; obtain ⟨q20, q21⟩ := q2; simp only at c1 d1 c2 d2; have gd := guardP; have he := eq_P q10 q11 q20 q21
        go_wp2
        go_quiet (fail)
        go_wp2
        · go_ret
          have hx : eqP (q10, q11) (q20, q21) = false := by simpa using ‹(!eqP (q10, q11) (q20, q21)) = true›
          exact ⟨ret_bool (by rw [hget.out, hdrop.out, hx]; rfl), (by (repeat (with_reducible first | exact Below.refl _ _ | refine Below.alloc ?_ ?_ _ | refine Below.setCell ?_ ?_ _ | refine Below.drew ?_ | refine below_drewN ?_ _)); all_goals (simp <;> omega))⟩
        · go_roundw
          case rel =>
            have hx : eqP (q10, q11) (q20, q21) = true := by simpa using ‹(!eqP (q10, q11) (q20, q21)) = false›
            exact ⟨k + 1, by omega, by go_num, by show _ = _; rw [hget.out, hdrop.out, hx]; rfl, _, rfl⟩
          case measure => simp [intOf]; omega
      · go_wp2
        go_ret
        have h := hget.out
        rw [List.drop_eq_nil_of_le (by omega), List.drop_eq_nil_of_le (by have := heq.out; omega)] at h
        exact ⟨ret_bool (by rw [h]; rfl), (by (repeat (with_reducible first | exact Below.refl _ _ | refine Below.alloc ?_ ?_ _ | refine Below.setCell ?_ ?_ _ | refine Below.drew ?_ | refine below_drewN ?_ _)); all_goals (simp <;> omega))⟩

set_option maxRecDepth 100000 in
set_option maxHeartbeats 1000000 in
theorem eqListL_any (a : Option Addr) (l : List Tol) (cap : Nat) (b : Option Addr) (m : List Tol) (cap' : Nat) (w : World) (hl : AtL w a l) (hm : AtL w b m) :
    Calls Tryz.prog 209 #[.slice a l.length cap, .slice b m.length cap'] w fun e w' => e = .returned (.bool (eqL eqK l m)) ∧ Below w.heap.size w w' := by
  obtain ⟨hn1, hl⟩ := hl; obtain ⟨hn2, hm⟩ := hm
  go_enter Tryz.func209, Tryz.ntmps209
  go_wp2
  · go_ret
    have h : ((l.length : Int) != (m.length : Int)) = true := by assumption
    have hne : l.length ≠ m.length := by simp at h; omega
    exact ⟨ret_bool (eqL_len hne).symm, Below.refl _ _⟩
  · have h : ((l.length : Int) != (m.length : Int)) = false := by assumption
    have heq : Hid (l.length = m.length) := by show _ = _; simp at h; omega
    clear h
    go_loopw [13] (fun i wr => ∃ k : Nat, k ≤ l.length ∧ i = .int .i64 k ∧ Hid (eqL eqK l m = eqL eqK (l.drop k) (m.drop k)) ∧ ∃ nd : Nat, wr = w.drewN nd) (fun i _ => l.length - (intOf i).toNat)
    case atStart => exact ⟨0, Nat.zero_le _, rfl, rfl, 0, rfl⟩
    case round =>
      obtain ⟨k, hk, rfl, hget, nd, rfl⟩ := hrel
      by_cases hlt : k < l.length
      · have hlt2 : k < m.length := by have := heq.out; omega
        have hdrop := Lib.hid (eqL_drop (eq := eqK) (d := e3) hlt hlt2)
        obtain ⟨b1, o1, ha1, hb1, c1, d1, f1⟩ := hl k hlt; subst ha1
        obtain ⟨b2, o2, ha2, hb2, c2, d2, f2⟩ := hm k hlt2; subst ha2
        have kl : (k : Int) < (l.length : Int) := by omega
        have km : (k : Int) < (m.length : Int) := by omega
        generalize hq1 : l.getD k e3 = q1 at *
        generalize hq2 : m.getD k e3 = q2 at *
        clear hq1 hq2
        clear hl hm; obtain ⟨q10, q11, q12⟩ := q1; obtain ⟨q20, q21, q22⟩ := q2; simp only at c1 d1 f1 c2 d2 f2; have gd := guardL; have he := eq_L q10 q11 q20 q21 q12 q22
        go_wp2
        go_quiet (fail)
        go_wp2
        · go_ret
          have hx : eqK (q10, q11, q12) (q20, q21, q22) = false := by simpa using ‹(!eqK (q10, q11, q12) (q20, q21, q22)) = true›
          exact ⟨ret_bool (by rw [hget.out, hdrop.out, hx]; rfl), (by (repeat (with_reducible first | exact Below.refl _ _ | refine Below.alloc ?_ ?_ _ | refine Below.setCell ?_ ?_ _ | refine Below.drew ?_ | refine below_drewN ?_ _)); all_goals (simp <;> omega))⟩
        · go_roundw
          case rel =>
            have hx : eqK (q10, q11, q12) (q20, q21, q22) = true := by simpa using ‹(!eqK (q10, q11, q12) (q20, q21, q22)) = false›
            exact ⟨k + 1, by omega, by go_num, by show _ = _; rw [hget.out, hdrop.out, hx]; rfl, _, rfl⟩
          case measure => simp [intOf]; omega
      · go_wp2
        go_ret
        have h := hget.out
        rw [List.drop_eq_nil_of_le (by omega), List.drop_eq_nil_of_le (by have := heq.out; omega)] at h
        exact ⟨ret_bool (by rw [h]; rfl), (by (repeat (with_reducible first | exact Below.refl _ _ | refine Below.alloc ?_ ?_ _ | refine Below.setCell ?_ ?_ _ | refine Below.drew ?_ | refine below_drewN ?_ _)); all_goals (simp <;> omega))⟩
end Go.Proofs.YtaleceobkbgcnaaGreat
