/-
  Plain facts of keys, for the laws. No conditions beyond what is written in each statement.
-/
import Derived.Test.YtnimplldkambhabRef0
set_option linter.unusedSimpArgs false
set_option linter.unusedVariables false
namespace Go.Proofs.Ytnimplldkambhab
open Go.RowKit

theorem key_v (kind : Int) (name : ByteArray) (w : World) {v : ByteArray} (h : keyOf kind name = v) (hs : name.size ≤ maxLen) :
    Calls Try.prog 31 #[.int .i64 kind, .string name] w fun e w' => e = .returned (.string v) ∧ w' = w := by
  subst h; exact key_any kind name w hs
theorem kind_v (s : ByteArray) (w : World) {v : Int} (h : kindOf s = v) :
    Calls Try.prog 32 #[.string s] w fun e w' => e = .returned (.int .i64 v) ∧ w' = w := by
  subst h; exact kind_any s w
theorem refName_v (s : ByteArray) (w : World) {v : Bool} (h : nameL s.data.toList = v) (hs : s.size ≤ maxLen) :
    Calls Try.prog 30 #[.string s] w fun e w' => e = .returned (.bool v) ∧ w' = w := by
  subst h; exact refName_any s w hs
theorem text_v (s : ByteArray) (n : Nat) (w : World) {v : ByteArray} (hn : n ≤ 1000) (h : s.extract 0 n = v) :
    Calls Try.prog 28 #[.string s, .int .i64 n] w fun e w' => e = .returned (.string v) ∧ w' = w := by
  subst h; exact text_any s n w hn
theorem cut_size (s : ByteArray) (n : Nat) : (s.extract 0 n).size ≤ n := by simp; omega

theorem nameL_len {n : ByteArray} (h : nameL n.data.toList = true) : 1 ≤ n.size ∧ n.size ≤ 12 := by
  unfold nameL at h
  simp only [Bool.and_eq_true, decide_eq_true_eq] at h
  simpa using h.1
theorem hasP_app (p n : ByteArray) (hp : p.size = 2) : hasP (p ++ n) p = true := by
  unfold hasP
  simp only [Bool.and_eq_true, decide_eq_true_eq, ByteArray.size_append]
  refine ⟨by omega, ?_⟩
  apply ByteArray.ext
  rw [ByteArray.data_extract, ByteArray.data_append]
  have : p.data.size = 2 := hp
  simp [Array.extract_append, this]
theorem tail_app (p n : ByteArray) (hp : p.size = 2) : tailOf (p ++ n) = n := by
  unfold tailOf
  apply ByteArray.ext
  rw [ByteArray.data_extract, ByteArray.data_append, ByteArray.size_append]
  have : p.data.size = 2 := hp
  simp only [Array.extract_append, this, hp]
  have h2 : n.data.size = n.size := rfl
  have e1 : n.data.extract (2 - 2) (2 + n.size - 2) = n.data := Array.extract_eq_self_of_le (by omega)
  rw [e1, Array.extract_empty_of_size_le_start (by omega)]
  simp
theorem kind_p {n : ByteArray} (h : nameL n.data.toList = true) : kindOf (pS ++ n) = 1 := by
  have hl := nameL_len h
  unfold kindOf
  rw [if_neg (fun e => by have := congrArg ByteArray.size e; rw [ByteArray.size_append, show pS.size = 2 from rfl, show lS.size = 1 from rfl] at this; omega), hasP_app pS n rfl, tail_app pS n rfl, h]
  rfl
theorem no_pn (n : ByteArray) : hasP (nS ++ n) pS = false := by
  unfold hasP
  rw [Bool.and_eq_false_iff]
  refine Or.inr (decide_eq_false fun e => ?_)
  have := hasP_app nS n rfl
  unfold hasP at this
  simp only [Bool.and_eq_true, decide_eq_true_eq] at this
  rw [this.2] at e
  simp [nS, pS] at e
theorem kind_n {n : ByteArray} (h : nameL n.data.toList = true) : kindOf (nS ++ n) = 2 := by
  have hl := nameL_len h
  unfold kindOf
  rw [if_neg (fun e => by have := congrArg ByteArray.size e; rw [ByteArray.size_append, show nS.size = 2 from rfl, show lS.size = 1 from rfl] at this; omega), no_pn, hasP_app nS n rfl, tail_app nS n rfl, h]
  rfl
theorem kind_l : kindOf lS = 3 := by kernel_rfl
theorem tail_back {r p : ByteArray} (h : hasP r p = true) : p ++ r.extract 2 r.size = r := by
  unfold hasP at h
  simp only [Bool.and_eq_true, decide_eq_true_eq] at h
  rw [← h.2]
  apply ByteArray.ext
  simp only [ByteArray.data_append, ByteArray.data_extract]
  rw [Array.extract_append_extract]
  simp only [Nat.zero_le, Nat.min_eq_left]
  exact Array.extract_eq_self_of_le (by show r.size ≤ _; omega)

/-- Of which kind a raw key is, by what stands in it. -/
def RawIs (r : ByteArray) : Prop :=
  (r.size = 1 ∧ (r.toList == [108]) = true ∧ kindOf r = 3 ∧ (∀ x, keyOf 3 x = r))
  ∨ (2 < r.size ∧ (r.toList == [108]) = false ∧ (r.extract 0 2).toList = [112, 47] ∧ nameL (r.extract 2 r.size).data.toList = true ∧ kindOf r = 1 ∧ keyOf 1 (r.extract 2 r.size) = r)
  ∨ (2 < r.size ∧ (r.toList == [108]) = false ∧ (r.extract 0 2).toList = [112, 47] ∧ nameL (r.extract 2 r.size).data.toList = false ∧ kindOf r = 0)
  ∨ (2 < r.size ∧ (r.toList == [108]) = false ∧ (¬ (r.extract 0 2).toList = [112, 47] ∧ (r.extract 0 2).toList = [110, 47]) ∧ nameL (r.extract 2 r.size).data.toList = true ∧ kindOf r = 2 ∧ keyOf 2 (r.extract 2 r.size) = r)
  ∨ (2 < r.size ∧ (r.toList == [108]) = false ∧ (¬ (r.extract 0 2).toList = [112, 47] ∧ (r.extract 0 2).toList = [110, 47]) ∧ nameL (r.extract 2 r.size).data.toList = false ∧ kindOf r = 0)
  ∨ (2 < r.size ∧ (r.toList == [108]) = false ∧ ¬ (r.extract 0 2).toList = [112, 47] ∧ ¬ (r.extract 0 2).toList = [110, 47] ∧ kindOf r = 0)
  ∨ (r.size ≤ 2 ∧ (r.toList == [108]) = false ∧ kindOf r = 0)

theorem lS_list : lS.toList = [108] := by rw [ByteArray.toList_eq]; rfl
theorem pS_list : pS.toList = [112, 47] := by rw [ByteArray.toList_eq]; rfl
theorem nS_list : nS.toList = [110, 47] := by rw [ByteArray.toList_eq]; rfl
theorem raw_is (r : ByteArray) : RawIs r := by
  unfold RawIs
  rw [← lS_list, ← pS_list, ← nS_list]
  simp only [toList_inj, toList_beq]
  by_cases hl : r = lS
  · subst hl
    exact Or.inl ⟨rfl, by simp, kind_l, fun x => by simp [keyOf]⟩
  refine Or.inr ?_
  have hl2 : decide (r = lS) = false := decide_eq_false hl
  simp only [hl2, true_and]
  by_cases h2 : 2 < r.size
  · by_cases hp : r.extract 0 2 = pS
    · have hP : hasP r pS = true := by unfold hasP; rw [decide_eq_true hp, decide_eq_true (by omega)]; rfl
      cases hn : nameL (r.extract 2 r.size).data.toList
      · refine Or.inr (Or.inl ⟨h2, hp, rfl, ?_⟩)
        have hN : hasP r nS = false := by unfold hasP; rw [hp]; simp [pS, nS]
        unfold kindOf
        rw [if_neg hl, hP, hN]
        show (if (true && nameL (r.extract 2 r.size).data.toList) = true then 1 else _) = 0
        rw [hn]; rfl
      · refine Or.inl ⟨h2, hp, rfl, ?_, ?_⟩
        · unfold kindOf
          rw [if_neg hl, hP]
          show (if (true && nameL (r.extract 2 r.size).data.toList) = true then 1 else _) = 1
          rw [hn]; rfl
        · unfold keyOf
          rw [if_neg (by decide), if_pos ⟨rfl, hn⟩]
          exact tail_back hP
    · have hP : hasP r pS = false := by unfold hasP; rw [decide_eq_false hp]; simp
      by_cases hn2 : r.extract 0 2 = nS
      · have hN : hasP r nS = true := by unfold hasP; rw [decide_eq_true hn2, decide_eq_true (by omega)]; rfl
        cases hn : nameL (r.extract 2 r.size).data.toList
        · refine Or.inr (Or.inr (Or.inr (Or.inl ⟨h2, ⟨hp, hn2⟩, rfl, ?_⟩)))
          unfold kindOf
          rw [if_neg hl, hP, hN]
          show (if (false && _) = true then 1 else if (true && nameL (r.extract 2 r.size).data.toList) = true then 2 else 0) = 0
          rw [hn]; rfl
        · refine Or.inr (Or.inr (Or.inl ⟨h2, ⟨hp, hn2⟩, rfl, ?_, ?_⟩))
          · unfold kindOf
            rw [if_neg hl, hP, hN]
            show (if (false && _) = true then 1 else if (true && nameL (r.extract 2 r.size).data.toList) = true then 2 else 0) = 2
            rw [hn]; rfl
          · unfold keyOf
            rw [if_neg (by decide), if_neg (fun h => by cases h.1), if_pos ⟨rfl, hn⟩]
            exact tail_back hN
      · have hN : hasP r nS = false := by unfold hasP; rw [decide_eq_false hn2]; simp
        refine Or.inr (Or.inr (Or.inr (Or.inr (Or.inl ⟨h2, hp, hn2, ?_⟩))))
        unfold kindOf
        rw [if_neg hl, hP, hN]; rfl
  · refine Or.inr (Or.inr (Or.inr (Or.inr (Or.inr ⟨by omega, ?_⟩))))
    have ht : nameL (tailOf r).data.toList = false := by
      cases h : nameL (tailOf r).data.toList
      · rfl
      · have := nameL_len h
        unfold tailOf at this
        simp at this
        omega
    unfold kindOf
    rw [if_neg hl, ht]
    simp

theorem app_ne (p n : ByteArray) (hp : p.size = 2) : ¬ (p ++ n).toList = [] := by
  rw [toList_nil]
  intro e
  have := congrArg ByteArray.size e
  rw [ByteArray.size_append, hp] at this
  simp at this

end Go.Proofs.Ytnimplldkambhab
