/-
  How two structs of package api are held against each other. No conditions beyond what is written in each statement.
-/
import Derived.Test.YtnobgmdknalpdaaObj1
import Derived.ChangeKeysEq
set_option linter.unusedSimpArgs false
set_option linter.unusedVariables false
namespace Go.Proofs.Ytnobgmdknalpdaa
open Go.RowKit

def eqP (x y : Str2) : Bool := decide (x.1 = y.1) && decide (x.2 = y.2)
def eqK (x y : Tol) : Bool := decide (x.1 = y.1) && decide (x.2.1 = y.2.1) && decide (x.2.2 = y.2.2)

theorem guardP : Try.prog.eqGuardType Try.prog.depth 36 = false := by kernel_rfl
theorem structP : Try.prog.underlying 36 = some (.struct (Try.prog.fieldsOf 36)) := by kernel_rfl
theorem heldP : Try.prog.stoodInHeld 36 = false := by kernel_rfl
theorem eq_P (x y z u : ByteArray) (w : World) : (Op.equalIn 10000 36 (.agg #[.string x, .string y]) (.agg #[.string z, .string u])).run Try.prog w = .ok (eqP (x, y) (z, u)) w := by
  rw [run_equalIn_agg w 9999 36 _ _ structP heldP]
  have hf := structP.symm.trans Try.underlying36
  simp only [Option.some.injEq, TypeDesc.struct.injEq] at hf
  rw [hf]
  go_simp
  unfold eqP
  by_cases h1 : x = z
  · subst h1
    by_cases h2 : y = u
    · subst h2; simp
    · have h2' : ¬ y.toList = u.toList := fun h => h2 (toList_inj.1 h)
      simp [h2, h2']
  · have h1' : ¬ x.toList = z.toList := fun h => h1 (toList_inj.1 h)
    simp [h1, h1']

theorem guardN : Try.prog.eqGuardType Try.prog.depth 44 = false := by kernel_rfl
theorem structN : Try.prog.underlying 44 = some (.struct (Try.prog.fieldsOf 44)) := by kernel_rfl
theorem heldN : Try.prog.stoodInHeld 44 = false := by kernel_rfl
theorem eq_N (x y z u : ByteArray) (w : World) : (Op.equalIn 10000 44 (.agg #[.string x, .string y]) (.agg #[.string z, .string u])).run Try.prog w = .ok (eqP (x, y) (z, u)) w := by
  rw [run_equalIn_agg w 9999 44 _ _ structN heldN]
  have hf := structN.symm.trans Try.underlying44
  simp only [Option.some.injEq, TypeDesc.struct.injEq] at hf
  rw [hf]
  go_simp
  unfold eqP
  by_cases h1 : x = z
  · subst h1
    by_cases h2 : y = u
    · subst h2; simp
    · have h2' : ¬ y.toList = u.toList := fun h => h2 (toList_inj.1 h)
      simp [h2, h2']
  · have h1' : ¬ x.toList = z.toList := fun h => h1 (toList_inj.1 h)
    simp [h1, h1']

theorem guardL : Try.prog.eqGuardType Try.prog.depth 42 = false := by kernel_rfl
theorem structL : Try.prog.underlying 42 = some (.struct (Try.prog.fieldsOf 42)) := by kernel_rfl
theorem heldL : Try.prog.stoodInHeld 42 = false := by kernel_rfl
theorem eq_L (x y z u : ByteArray) (b c : Bool) (w : World) : (Op.equalIn 10000 42 (.agg #[.string x, .string y, .bool b]) (.agg #[.string z, .string u, .bool c])).run Try.prog w = .ok (eqK (x, y, b) (z, u, c)) w := by
  rw [run_equalIn_agg w 9999 42 _ _ structL heldL]
  have hf := structL.symm.trans Try.underlying42
  simp only [Option.some.injEq, TypeDesc.struct.injEq] at hf
  rw [hf]
  go_simp
  unfold eqK
  by_cases h1 : x = z
  · subst h1
    by_cases h2 : y = u
    · subst h2; cases b <;> cases c <;> simp
    · have h2' : ¬ y.toList = u.toList := fun h => h2 (toList_inj.1 h)
      simp [h2, h2']
  · have h1' : ¬ x.toList = z.toList := fun h => h1 (toList_inj.1 h)
    simp [h1, h1']

def eqRB (a b c x y z : Int) : Bool := decide (a = x) && decide (b = y) && decide (c = z)
theorem guardR : Try.prog.eqGuardType Try.prog.depth 23 = false := by kernel_rfl
theorem eqPlainI : Try.prog.plainKey 2 = true := by kernel_rfl
theorem eqCellsI : Try.prog.cellsOf 2 = 1 := by kernel_rfl
theorem eqInfoI : ∃ i, Try.prog.info? 2 = some i := by
  have h : (Try.prog.info? 2).isSome = true := by kernel_rfl
  exact Option.isSome_iff_exists.1 h
theorem eq_R (a b c x y z : Int) (w : World) : (Op.equalIn 10000 23 (.agg #[.int .i64 a, .int .i64 b, .int .i64 c]) (.agg #[.int .i64 x, .int .i64 y, .int .i64 z])).run Try.prog w = .ok (eqRB a b c x y z) w := by
  obtain ⟨i, hi⟩ := eqInfoI
  rw [run_equalIn_array w 9999 _ _ Try.underlying23 hi, eqCellsI, show List.range 3 = [0, 1, 2] from rfl]
  simp only [Op.eqItems, Sem.run_bind]
  rw [run_part_plain w eqPlainI (show #[.int .i64 a, .int .i64 b, .int .i64 c][0 * 1]? = some (.int .i64 a) from rfl), Result.andThen_ok]
  rw [run_part_plain w eqPlainI (show #[.int .i64 x, .int .i64 y, .int .i64 z][0 * 1]? = some (.int .i64 x) from rfl), Result.andThen_ok]
  rw [run_equalIn_int w 9998 2 _ _ a x Try.underlying2, Result.andThen_ok]
  unfold eqRB
  by_cases h1 : a = x
  rotate_left
  · simp [h1]
  · subst h1
    simp only [beq_self_eq_true, Bool.not_true, Bool.false_eq_true, if_false, Sem.run_bind, decide_true, Bool.true_and]
    rw [run_part_plain w eqPlainI (show #[.int .i64 a, .int .i64 b, .int .i64 c][1 * 1]? = some (.int .i64 b) from rfl), Result.andThen_ok]
    rw [run_part_plain w eqPlainI (show #[.int .i64 a, .int .i64 y, .int .i64 z][1 * 1]? = some (.int .i64 y) from rfl), Result.andThen_ok]
    rw [run_equalIn_int w 9998 2 _ _ b y Try.underlying2, Result.andThen_ok]
    by_cases h2 : b = y
    rotate_left
    · simp [h2]
    · subst h2
      simp only [beq_self_eq_true, Bool.not_true, Bool.false_eq_true, if_false, Sem.run_bind, decide_true, Bool.true_and]
      rw [run_part_plain w eqPlainI (show #[.int .i64 a, .int .i64 b, .int .i64 c][2 * 1]? = some (.int .i64 c) from rfl), Result.andThen_ok]
      rw [run_part_plain w eqPlainI (show #[.int .i64 a, .int .i64 b, .int .i64 z][2 * 1]? = some (.int .i64 z) from rfl), Result.andThen_ok]
      rw [run_equalIn_int w 9998 2 _ _ c z Try.underlying2, Result.andThen_ok]
      by_cases h3 : c = z
      · simp [h3]
      · simp [h3]
end Go.Proofs.Ytnobgmdknalpdaa
