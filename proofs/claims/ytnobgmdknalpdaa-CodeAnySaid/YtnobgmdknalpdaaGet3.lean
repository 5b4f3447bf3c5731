/-
  The contract of code.getName. No conditions beyond what is written in each statement.
-/
import Derived.Test.YtnobgmdknalpdaaGet2
import Derived.Laws.BytesArg
set_option linter.unusedSimpArgs false
set_option linter.unusedVariables false
namespace Go.Proofs.Ytnobgmdknalpdaa
open Go.RowKit

def lettersL : List Int := [97, 98, 99, 100, 101, 102, 103, 104, 105, 106, 107, 108, 109, 110, 111, 112, 113, 114, 115, 116, 117, 118, 119, 120, 121, 122, 48, 49, 50, 51, 52, 53, 54, 55, 56, 57, 45]
/-- The letter of a digit that is not 0. -/
def letterI (x : Int) : Int := lettersL.getD ((x - 1) % 37).toNat 0
def nameN : Nat → Int → List Int
  | 0, _ => []
  | k + 1, x => if x ≤ 0 then [] else nameN k ((x - 1) / 37) ++ [letterI x]
theorem nameN_zero (k : Nat) : nameN k 0 = [] := by cases k <;> simp [nameN]
theorem nameN_succ (k : Nat) (x : Int) (h : 0 < x) : nameN (k + 1) x = nameN k ((x - 1) / 37) ++ [letterI x] := by rw [nameN, if_neg (by omega)]
def gName (st : RS) : ByteArray × RS := (strOfNums (nameN 13 (gWord st).1), (gWord st).2)

theorem Rd.grown {w0 w w1 : World} {R A : Nat} {l : List Int} {bad : Bool} (h : Rd w0 w R l bad) (hg : w.grownBy w1 (some A)) (hne : A ≠ R) (hA : w0.heap.size ≤ A) : Rd w0 w1 R l bad := by
  obtain ⟨ho, hb, a, cap, hobj, hc1, hc2, hat⟩ := h
  have hR : R < w.heap.size := (Array.getElem?_eq_some_iff.1 hobj).1
  exact ⟨ho, hb.grown (row := some A) hg hb.size (fun k hk => by cases hk; exact hA), a, cap, by rw [hg.block R hR (fun e => hne (Option.some.inj e).symm)]; exact hobj, hc1, hc2, hat⟩
theorem Rd.alloc {w0 w : World} {R : Nat} {l : List Int} {bad : Bool} (h : Rd w0 w R l bad) (o : Obj) : Rd w0 (w.alloc o) R l bad := by
  obtain ⟨ho, hb, a, cap, hobj, hc1, hc2, hat⟩ := h
  have hR : R < w.heap.size := (Array.getElem?_eq_some_iff.1 hobj).1
  exact ⟨ho, hb.alloc hb.size _, a, cap, by rw [Below.heap_alloc _ _ _ hR]; exact hobj, hc1, hc2, hat⟩
theorem Rd.lt {w0 w : World} {R : Nat} {l : List Int} {bad : Bool} (h : Rd w0 w R l bad) : R < w.heap.size := by
  obtain ⟨ho, hb, a, cap, hobj, hc1, hc2, hat⟩ := h
  exact (Array.getElem?_eq_some_iff.1 hobj).1

/-- Where a slice of the array's last k begins: at no element the model keeps the array's own address. -/
def atOff (k : Nat) : Nat := if k = 0 then 0 else 13 - k
theorem slice_at (A k : Nat) (h : k ≤ 13) (w : World) : (Instr.sliceAt 137 (.pointer (some ⟨A, 0, none⟩)) (some (.int .i64 (13 - (k : Int)))) none none).run Try.prog w = .ok (.slice (some ⟨A, atOff k, none⟩) k k) w := by
  have hl : Try.prog.arrayLen 137 = 13 := by kernel_rfl
  have hs : (sizeOf (Try.prog.elem 137)).run Try.prog w = .ok 1 w := by kernel_rfl
  have hu : Try.prog.underlying 137 = some (.array (Try.prog.arrayLen 137) (Try.prog.elem 137)) := by kernel_rfl
  rw [run_sliceAt_array_l w 137 ⟨A, 0, none⟩ hu .i64 (13 - (k : Int)) (by omega) (by rw [hl]; omega), hs]
  have e : (13 - (k : Int)).toNat = 13 - k := by omega
  simp only [Result.andThen, slicedAt, hl, e, Nat.mul_one]
  by_cases h0 : k = 0
  · subst h0; rfl
  · rw [if_neg (by omega), show 13 - (13 - k) = k by omega]
    rw [show (⟨A, 0, none⟩ : Addr).add (13 - k) = ⟨A, atOff k, none⟩ by simp [Addr.add, atOff, h0]; omega]

theorem obj_setN {w : World} {A j : Nat} {cs : Array Value} {v v' : Value} {t : TypeId} {fr : Nat × Nat} (h : w.heap[A]? = some (.cells cs t fr)) (hv : v = v') : (w.setCell ⟨A, j, none⟩ v).heap[A]? = some (.cells (cs.setIfInBounds j v') t fr) := by
  subst hv
  simp [World.setCell, Array.getElem?_modify, h]
def lettersS : ByteArray := ⟨#[97, 98, 99, 100, 101, 102, 103, 104, 105, 106, 107, 108, 109, 110, 111, 112, 113, 114, 115, 116, 117, 118, 119, 120, 121, 122, 48, 49, 50, 51, 52, 53, 54, 55, 56, 57, 45]⟩
theorem letter_all : ∀ n : Fin 37, ((lettersS[n.1]'(n.2)).toNat : Int) = lettersL.getD n.1 0 := by decide
theorem letter_val (y : Int) (h1 : 0 ≤ (y - 1) % 37) (h2 : (y - 1) % 37 < 37) (hb : ((y - 1) % 37).toNat < lettersS.size) : Value.int .u8 ((lettersS[((y - 1) % 37).toNat]'hb).toNat : Int) = .int .u8 (letterI y) := by
  unfold letterI
  rw [← letter_all ⟨((y - 1) % 37).toNat, by omega⟩]
  rfl
theorem letter_at (x : Int) (h : 0 < x) : 0 ≤ (x - 1) % 37 ∧ (x - 1) % 37 < 37 := by omega
theorem pow13 (y : Int) (k : Nat) (h0 : 0 < y) (h : y * 37 ^ k ≤ 18446744073709551615) : k < 13 := by
  rcases Nat.lt_or_ge k 13 with hk | hk
  · exact hk
  · exfalso
    obtain ⟨j, rfl⟩ := Nat.exists_eq_add_of_le hk
    rw [Int.pow_add] at h
    have h1 : (1 : Int) ≤ 37 ^ j := by have : (0 : Int) < 37 ^ j := Int.pow_pos (by decide); omega
    have h2 : (37 : Int) ^ 13 = 243569224216081305397 := by decide
    rw [h2] at h
    have h3 : (243569224216081305397 : Int) * 1 ≤ 243569224216081305397 * 37 ^ j := Int.mul_le_mul_of_nonneg_left h1 (by decide)
    have h4 : 1 * (243569224216081305397 * 37 ^ j) ≤ y * (243569224216081305397 * (37 : Int) ^ j) := Int.mul_le_mul_of_nonneg_right (by omega) (by omega)
    omega
theorem le_of_pow (y : Int) (k : Nat) (h0 : 0 ≤ y) (h : y * 37 ^ k ≤ 18446744073709551615) : y ≤ 18446744073709551615 := by
  have h1 : (1 : Int) ≤ 37 ^ k := by have : (0 : Int) < 37 ^ k := Int.pow_pos (by decide); omega
  have h2 : y * 1 ≤ y * 37 ^ k := Int.mul_le_mul_of_nonneg_left h1 h0
  omega
theorem pow_step (y : Int) (k : Nat) (h0 : 0 < y) (h : y * 37 ^ k ≤ 18446744073709551615) : 0 ≤ (y - 1) / 37 ∧ (y - 1) / 37 * 37 ^ (k + 1) ≤ 18446744073709551615 := by
  refine ⟨by omega, ?_⟩
  have h1 : (0 : Int) ≤ 37 ^ k := Int.pow_nonneg (by decide)
  have h2 : (y - 1) / 37 * 37 ≤ y := by omega
  rw [Int.pow_succ, Int.mul_comm (37 ^ k) 37, ← Int.mul_assoc]
  exact Int.le_trans (Int.mul_le_mul_of_nonneg_right h2 h1) h

set_option maxRecDepth 100000 in
set_option maxHeartbeats 1000000 in
theorem getName_any (R : Nat) (st : RS) (w0 w : World) (hr : Rd w0 w R st.1 st.2) :
    Calls Try.prog 53 #[.pointer (some ⟨R, 0, none⟩)] w fun e w' => e = .returned (.string (gName st).1) ∧ Rd w0 w' R (gName st).2.1 (gName st).2.2 ∧ w.grownBy w' (some R) := by
  have HV := Lib.hid (gWord_le hr.bytes)
  have hRw := hr.lt
  have HR := Lib.hid hr
  clear hr
  go_enter Try.func53, Try.ntmps53
  go_wp2_with fail
  refine (getWord_any R st w0 _ (HR.out.alloc _)).mono ?_
  rintro e w1 ⟨rfl, hr1, hg1⟩
  have hA1 : w1.heap[w.heap.size]? = some (.cells (Array.replicate 13 (.int .u8 0)) 137) := by
    rw [hg1.block w.heap.size (by simp) (fun e => by cases e; omega)]
    exact heap_alloc_self _ _
  have HG := Lib.hid (And.intro hr1 hg1)
  clear hr1 hg1
  go_wp2
  go_loopw [4, 5] (fun i x wr => ∃ k : Nat, k ≤ 13 ∧ i = .int .i64 (13 - (k : Int)) ∧ ∃ y : Int, x = .int .u64 y ∧ 0 ≤ y ∧ Hid (y * 37 ^ k ≤ 18446744073709551615) ∧ ∃ (cs : Array Value) (suf : List Int), wr.heap[w.heap.size]? = some (.cells cs 137) ∧ Hid (cs.size = 13)
    ∧ Hid (suf.length = k) ∧ (∀ i, i < k → cs[13 - k + i]? = some (.int .u8 (suf.getD i 0))) ∧ Hid (nameN 13 (gWord st).1 = nameN (13 - k) y ++ suf) ∧ w1.grownBy wr (some w.heap.size)) (fun i _ _ => (intOf i).toNat)
  case atStart => exact ⟨0, by omega, rfl, _, rfl, HV.out.1, by show _ ≤ _; have := HV.out.2; omega, _, [], hA1, rfl, rfl, fun i hi => by omega, by show _ = _; simp, grown_refl _ _⟩
  case round =>
    obtain ⟨k, hk, rfl, y, rfl, hy0, HY, cs, suf, hobj, hcs, hsl, hsc, hnm, hgr⟩ := hrel
    by_cases hp : 0 < y
    · have hk13 := pow13 y k hp HY.out
      have hyle := le_of_pow y k hy0 HY.out
      have HS := Lib.hid (pow_step y k hp HY.out)
      have hl1 := (letter_at y hp).1
      have hl2 := (letter_at y hp).2
      have hq1 := HS.out.1
      have hq2 : (y - 1) / 37 ≤ 18446744073709551615 := by omega
      have hcell := cell_of_obj hobj (13 - k - 1)
      have hfr := free_of_obj hobj (13 - k - 1)
      have hget : ∃ u, cs[13 - k - 1]? = some u := ⟨cs[13 - k - 1]'(by have := hcs.out; omega), Array.getElem?_eq_getElem (by have := hcs.out; omega)⟩
      obtain ⟨u, hu⟩ := hget
      rw [hu] at hcell
      clear hu
      have HO := Lib.hid hobj
      have HC := Lib.hid hsc
      clear hobj hsc hA1
      go_wp2
      go_roundw
      case rel =>
        have hC := HC.out
        have hs := hcs.out
        have hj : 13 - (k + 1) = 13 - k - 1 := by omega
        refine ⟨k + 1, by omega, by go_num, _, rfl, HS.out.1, HS.out.2, cs.setIfInBounds (13 - k - 1) (.int .u8 (letterI y)), letterI y :: suf, obj_setN HO.out (letter_val y hl1 hl2 _), ?_, ?_, ?_, ?_, grown_trans hgr (grown_set _ _ _ _)⟩
        · show _ = _; simp [hs]
        · show _ = _; simp [hsl.out]
        · intro i hi
          rw [hj]
          rcases i with _ | i
          · rw [Nat.add_zero, Array.getElem?_setIfInBounds_self_of_lt (by omega)]; rfl
          · have h := hC i (by omega)
            rw [show 13 - k - 1 + (i + 1) = 13 - k + i by omega, Array.getElem?_setIfInBounds_ne (by omega), h]
            simp
        · show _ = _
          rw [hnm.out, hj, show 13 - k = (13 - k - 1) + 1 by omega, nameN_succ _ _ hp, List.append_assoc]
          rfl
      case measure => simp [intOf]; omega
    · have hcv := run_convert_bytes_arg (P := Try.prog) wr 48 5 Try.underlying48 Try.underlying5 w.heap.size (atOff k) k k suf hsl.out (fun i hi => by
        rw [cell_of_obj hobj]
        have h := hsc i hi
        unfold atOff
        rw [if_neg (by omega)]
        exact h) 9 Try.underlying9
      have hsa := slice_at w.heap.size k hk wr
      go_wp2
      go_ret
      have hx : y = 0 := by omega
      subst hx
      have hn := hnm.out
      rw [nameN_zero, List.nil_append] at hn
      have hr1 := HG.out.1
      have hg1 := HG.out.2
      have hA := HR.out.old
      refine ⟨by unfold gName; rw [hn]; rfl, hr1.grown hgr (by omega) (by have := HR.out.below.size; omega), ⟨hgr.os.trans hg1.os, hgr.tape.trans hg1.tape, hgr.output.trans hg1.output, ?_, fun j hj hjR => ?_⟩⟩
      · have := hg1.size; have := hgr.size; simp at *; omega
      · rw [hgr.block j (by have := hg1.size; simp at this; omega) (fun e => by cases e; omega), hg1.block j (by simp; omega) hjR]
        exact Below.heap_alloc _ _ _ hj
end Go.Proofs.Ytnobgmdknalpdaa
