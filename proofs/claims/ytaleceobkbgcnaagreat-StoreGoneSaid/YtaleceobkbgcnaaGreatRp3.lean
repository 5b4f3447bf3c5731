/-
  How answers are read: bytes, numbers, flags, texts, values. No conditions beyond what is written in each statement.
-/
import Derived.Test.YtaleceobkbgcnaaGreatCall10
import Derived.Test.YtaleceobkbgcnaaGreatRp1
set_option linter.unusedSimpArgs false
set_option linter.unusedVariables false
namespace Go.Proofs.YtaleceobkbgcnaaGreat.Rp
open Go.RowKit

/-- A reader at block R: what is still to be read lies in the memory of w0. -/
structure RdC (w0 w : World) (R : Nat) (st : List Int × Bool) : Prop where
  old : w0.heap.size ≤ R
  below : Below w0.heap.size w0 w
  obj : ∃ a cap, w.heap[R]? = some (.cells #[.slice a st.1.length cap, .bool st.2] 171) ∧ st.1.length ≤ cap ∧ cap ≤ maxLen ∧ AtB w0 a st.1 ∧ (a = none → cap = 0)
set_option maxRecDepth 100000 in
set_option maxHeartbeats 1000000 in
theorem take_no (R n : Nat) (l : List Int) (bad : Bool) (w0 w : World) (hr : RdC w0 w R (l, bad)) (h8 : l.length < n) :
    Calls Tryz.prog 144 #[.pointer (some ⟨R, 0, none⟩), .int .i64 n] w fun e w' => e = .returned (.slice none 0 0) ∧ RdC w0 w' R (l, true) ∧ w.grownBy w' (some R) := by
  obtain ⟨ho, hb, a, cap, hobj, hc1, hc2, hat, hno⟩ := hr
  have c0 := cell_of_obj hobj 0
  have c1 := cell_of_obj hobj 1
  simp at c0 c1
  have f1 := free_of_obj hobj 1
  have hi : (l.length : Int) < (n : Int) := by omega
  go_enter Tryz.func144, Tryz.ntmps144
  go_wp2
  go_ret
  exact ⟨rfl, ⟨ho, hb.trans ((Below.refl _ _).setCell (by simpa using ho) _), a, cap, obj_set1 hobj, hc1, hc2, hat, hno⟩, grown_set _ _ _ _⟩
def TakeP (w0 w : World) (R n : Nat) (l : List Int) (st : List Int × Bool) (e : Ending) (w' : World) : Prop := ∃ a c, e = .returned (.slice a n c) ∧ AtB w0 a l ∧ n ≤ c ∧ c ≤ maxLen ∧ (a = none → c = 0) ∧ RdC w0 w' R st ∧ w.grownBy w' (some R)
set_option maxRecDepth 100000 in
set_option maxHeartbeats 1000000 in
theorem take_yes (R n : Nat) (l : List Int) (bad : Bool) (w0 w : World) (hr : RdC w0 w R (l, bad)) (h8 : n ≤ l.length) :
    Calls Tryz.prog 144 #[.pointer (some ⟨R, 0, none⟩), .int .i64 n] w (TakeP w0 w R n (l.take n) (l.drop n, bad)) := by
  obtain ⟨ho, hb, a, cap, hobj, hc1, hc2, hat, hno⟩ := hr
  have c0 := cell_of_obj hobj 0
  have c1 := cell_of_obj hobj 1
  dsimp only at c0 c1 hc1 hat
  simp at c0 c1
  have HOB := Lib.hid hobj
  have HAT := Lib.hid hat
  have HNO := Lib.hid hno
  have f0 := free_of_obj hobj 0
  have hi : ¬ (l.length : Int) < (n : Int) := by omega
  have hi2 : (n : Int) ≤ (l.length : Int) := by omega
  have hk : n ≤ cap := by omega
  unfold maxLen at hc2
  rcases Nat.eq_zero_or_pos l.length with hz | hz
  · obtain rfl : n = 0 := by omega
    go_enter Tryz.func144, Tryz.ntmps144
    go_wp2
    go_ret
    refine ⟨a, cap, rfl, fun i hi => (by simp at hi), Nat.zero_le _, by unfold maxLen; omega, HNO.out, ⟨ho, hb.trans ((Below.refl _ _).setCell (by simpa using ho) _), a, cap, ?_, by simp; omega, by unfold maxLen; omega, by simpa using HAT.out, HNO.out⟩, grown_set _ _ _ _⟩
    show _ = some (Obj.cells #[.slice a l.length cap, .bool bad] 171)
    rw [hz]
    exact obj_set0 HOB.out
  · obtain ⟨b, off, rfl, hbb, _⟩ := hat 0 hz
    clear hat hobj hno
    go_enter Tryz.func144, Tryz.ntmps144
    go_wp2
    · go_ret
      refine ⟨_, _, rfl, HAT.out.take n, by omega, by unfold maxLen; omega, fun h => (by cases h), ⟨ho, hb.trans ((Below.refl _ _).setCell (by simpa using ho) _), _, 0, by rw [List.length_drop]; exact obj_set0 HOB.out, by simp; omega, by decide, fun i hi => (by simp at hi; omega), fun h => (by cases h)⟩, grown_set _ _ _ _⟩
    · go_ret
      refine ⟨_, _, rfl, HAT.out.take n, by omega, by unfold maxLen; omega, fun h => (by cases h), ⟨ho, hb.trans ((Below.refl _ _).setCell (by simpa using ho) _), _, cap - n, by rw [List.length_drop]; exact obj_set0 HOB.out, by simp; omega, by unfold maxLen; omega, HAT.out.drop n, fun h => (by cases h)⟩, grown_set _ _ _ _⟩
set_option maxRecDepth 100000 in
set_option maxHeartbeats 1000000 in
theorem num_yes (R : Nat) (l : List Int) (bad : Bool) (w0 w : World) (hr : RdC w0 w R (l, bad)) (h8 : 8 ≤ l.length) :
    Calls Tryz.prog 103 #[.pointer (some ⟨R, 0, none⟩)] w fun e w' => e = .returned (.int .i64 (wrap64 (wordOf (l.take 8)))) ∧ RdC w0 w' R (l.drop 8, bad) ∧ w.grownBy w' (some R) := by
  go_enter Tryz.func103, Tryz.ntmps103
  go_wp2_with fail
  refine (take_yes R 8 l bad w0 w hr h8).mono ?_
  rintro e w1 ⟨a, c, rfl, hat, hc1, hc2, hno, hr1, hg1⟩
  have hlen : (l.take 8).length = 8 := by rw [List.length_take]; omega
  obtain ⟨b, off, rfl, hbb, _⟩ := hat 0 (by omega)
  have hcell : ∀ k, k < 8 → w1.cell? ⟨b, off + k, none⟩ = some (.int .u8 (l.getD k 0)) ∧ 0 ≤ l.getD k 0 ∧ l.getD k 0 ≤ 255 := fun k hk => by
    obtain ⟨b', off', ha', hb', d0, d1, d2⟩ := hat k (by omega)
    simp at ha'
    obtain ⟨rfl, rfl⟩ := ha'
    have e : (l.take 8).getD k 0 = l.getD k 0 := by simp [List.getD_eq_getElem?_getD, List.getElem?_take_of_lt hk]
    rw [e] at d0 d1 d2
    exact ⟨cell_later hr1.below d0, d1, d2⟩
  unfold maxLen at hc2
  have HR := Lib.hid (And.intro hr1 hg1)
  clear hr1 hg1 hat hr hno
  go_wp2_with fail
  go_loop [3, 9] (fun x i => ∃ k : Nat, k ≤ 8 ∧ i = .int .i64 k ∧ x = .int .u64 (wordOf (l.take k)) ∧ Hid (0 ≤ wordOf (l.take k) ∧ wordOf (l.take k) < 256 ^ k)) (fun _ i => 8 - (intOf i).toNat)
  case atStart => exact ⟨0, by omega, rfl, rfl, by show _ ∧ _; simp [wordOf]⟩
  case round =>
    obtain ⟨k, hk, rfl, rfl, hx⟩ := hrel
    by_cases hlt : k < 8
    · obtain ⟨d0, d1, d2⟩ := hcell k hlt
      have hsn := Lib.hid (wordOf_snoc l k (by omega))
      clear hcell
      generalize l.getD k 0 = c at d0 d1 d2 hsn
      generalize hg : wordOf (l.take k) = x at hx hsn
      have hor := Lib.hid (or_byte x c hx.out.1 (Int.lt_of_lt_of_le hx.out.2 (pow_le k hlt)) d1 d2)
      go_wp2
      go_round
      case rel =>
        refine ⟨k + 1, by omega, by go_num, by rw [hor.out, hsn.out], ?_⟩
        show _ ∧ _
        rw [hsn.out, Int.pow_succ]
        have := hx.out
        omega
      case measure => simp [intOf]; omega
    · obtain rfl : k = 8 := by omega
      go_wp2
      go_ret
      exact ⟨rfl, HR.out.1, HR.out.2⟩
set_option maxRecDepth 100000 in
set_option maxHeartbeats 1000000 in
theorem num_no (R : Nat) (l : List Int) (bad : Bool) (w0 w : World) (hr : RdC w0 w R (l, bad)) (h8 : l.length < 8) :
    Calls Tryz.prog 103 #[.pointer (some ⟨R, 0, none⟩)] w fun e w' => e = .returned (.int .i64 0) ∧ RdC w0 w' R (l, true) ∧ w.grownBy w' (some R) := by
  go_enter Tryz.func103, Tryz.ntmps103
  go_wp2_with fail
  refine (take_no R 8 l bad w0 w hr h8).mono ?_
  rintro e w1 ⟨rfl, hr1, hg1⟩
  go_wp2_with fail
  go_loop [3, 9] (fun x i => x = .int .u64 0 ∧ i = .int .i64 0) (fun _ _ => 0)
  case atStart => exact ⟨rfl, rfl⟩
  case round =>
    obtain ⟨rfl, rfl⟩ := hrel
    go_wp2
    go_ret
    exact ⟨rfl, hr1, hg1⟩
theorem num_any (R : Nat) (st : List Int × Bool) (w0 w : World) (hr : RdC w0 w R st) :
    Calls Tryz.prog 103 #[.pointer (some ⟨R, 0, none⟩)] w fun e w' => e = .returned (.int .i64 (tNum st).1) ∧ RdC w0 w' R (tNum st).2 ∧ w.grownBy w' (some R) := by
  obtain ⟨l, bad⟩ := st
  unfold tNum
  by_cases h8 : l.length < 8
  · simp only [h8, if_true]
    exact num_no R l bad w0 w hr h8
  · simp only [h8, if_false]
    exact num_yes R l bad w0 w hr (by omega)
theorem RdC.setBad {w0 w : World} {R : Nat} {st : List Int × Bool} (h : RdC w0 w R st) : RdC w0 (w.setCell ⟨R, 1, none⟩ (.bool true)) R (st.1, true) := by
  obtain ⟨ho, hb, a, cap, hobj, hc⟩ := h
  exact ⟨ho, hb.trans ((Below.refl _ _).setCell (by simpa using ho) _), a, cap, obj_set1 hobj, hc⟩
set_option maxRecDepth 100000 in
set_option maxHeartbeats 1000000 in
theorem many_any (R most : Nat) (st : List Int × Bool) (w0 w : World) (hr : RdC w0 w R st) (hm : most ≤ 1000000) :
    Calls Tryz.prog 145 #[.pointer (some ⟨R, 0, none⟩), .int .i64 most] w fun e w' => e = .returned (.int .i64 (tMany most st).1) ∧ RdC w0 w' R (tMany most st).2 ∧ w.grownBy w' (some R) := by
  have HT := Lib.hid (rfl : tMany most st = tMany most st)
  by_cases h1 : (tNum st).1 < 0 ∨ (most : Int) < (tNum st).1
  · have e : tMany most st = (0, ((tNum st).2.1, true)) := by unfold tMany; rw [if_pos h1]
    rw [e]
    clear e HT
    go_enter Tryz.func145, Tryz.ntmps145
    go_wp2_with fail
    refine (num_any R st w0 w hr).mono ?_
    rintro e w1 ⟨rfl, hr1, hg1⟩
    have HR := Lib.hid (And.intro hr1.setBad hg1)
    obtain ⟨_, _, a, cap, hobj, _⟩ := hr1
    have c1 := cell_of_obj hobj 1
    simp at c1
    have f1 := free_of_obj hobj 1
    generalize (tNum st).1 = x at *
    clear hobj hg1 hr
    go_wp2_with fail
    all_goals
      try (exfalso; omega)
      go_ret
      exact ⟨rfl, HR.out.1, grown_trans HR.out.2 (grown_set _ _ _ _)⟩
  · have e : tMany most st = ((tNum st).1.toNat, (tNum st).2) := by unfold tMany; rw [if_neg h1]
    rw [e]
    clear e HT
    go_enter Tryz.func145, Tryz.ntmps145
    go_wp2_with fail
    refine (num_any R st w0 w hr).mono ?_
    rintro e w1 ⟨rfl, hr1, hg1⟩
    generalize hx : (tNum st).1 = x at *
    have HX := Lib.hid hx
    clear hx
    have x0 : 0 ≤ x := by omega
    have x1 : x ≤ (most : Int) := by omega
    clear h1
    go_wp2_with fail
    go_ret
    exact ⟨ret_int (by rw [HX.out]; omega), hr1, hg1⟩
theorem flag_any (R : Nat) (st : List Int × Bool) (w0 w : World) (hr : RdC w0 w R st) :
    Calls Tryz.prog 148 #[.pointer (some ⟨R, 0, none⟩)] w fun e w' => e = .returned (.bool (tFlag st).1) ∧ RdC w0 w' R (tFlag st).2 ∧ w.grownBy w' (some R) := by
  go_enter Tryz.func148, Tryz.ntmps148
  go_wp2_with fail
  refine (many_any R 1 st w0 w hr (by omega)).mono ?_
  rintro e w1 ⟨rfl, hr1, hg1⟩
  go_wp2
  go_ret
  refine ⟨ret_bool ?_, hr1, hg1⟩
  unfold tFlag
  rw [Bool.eq_iff_iff]
  simp
  try omega
theorem takeP_any (R n : Nat) (st : List Int × Bool) (w0 w : World) (hr : RdC w0 w R st) :
    Calls Tryz.prog 144 #[.pointer (some ⟨R, 0, none⟩), .int .i64 n] w fun e w' => ∃ a c, e = .returned (.slice a (tTake n st).1.length c) ∧ AtB w0 a (tTake n st).1 ∧ (tTake n st).1.length ≤ c ∧ c ≤ maxLen ∧ (a = none → c = 0) ∧ RdC w0 w' R (tTake n st).2 ∧ w.grownBy w' (some R) := by
  obtain ⟨l, bad⟩ := st
  by_cases h8 : l.length < n
  · have e : tTake n (l, bad) = ([], (l, true)) := by unfold tTake; rw [if_pos h8]
    rw [e]
    refine (take_no R n l bad w0 w hr h8).mono ?_
    rintro e w1 ⟨rfl, hr1, hg1⟩
    exact ⟨none, 0, rfl, fun i hi => (by simp at hi), Nat.le_refl _, Nat.zero_le _, fun _ => rfl, hr1, hg1⟩
  · have e : tTake n (l, bad) = (l.take n, (l.drop n, bad)) := by unfold tTake; rw [if_neg h8]
    have hl : (l.take n).length = n := by rw [List.length_take]; omega
    rw [e]
    refine (take_yes R n l bad w0 w hr (by omega)).mono ?_
    rintro e w1 ⟨a, c, rfl, h1, h2, h3, h4, h5, h6⟩
    exact ⟨a, c, by rw [hl], h1, by rw [hl]; exact h2, h3, h4, h5, h6⟩
set_option maxRecDepth 100000 in
set_option maxHeartbeats 1000000 in
theorem text_any (R most : Nat) (st : List Int × Bool) (w0 w : World) (hr : RdC w0 w R st) (hm : most ≤ 1000000) :
    Calls Tryz.prog 146 #[.pointer (some ⟨R, 0, none⟩), .int .i64 most] w fun e w' => e = .returned (.string (tText most st).1) ∧ RdC w0 w' R (tText most st).2 ∧ w.grownBy w' (some R) := by
  go_enter Tryz.func146, Tryz.ntmps146
  go_wp2_with fail
  refine (many_any R most st w0 w hr hm).mono ?_
  rintro e w1 ⟨rfl, hr1, hg1⟩
  go_wp2_with fail
  refine (takeP_any R _ _ w0 w1 hr1).mono ?_
  rintro e w2 ⟨a, c, rfl, hat, hc1, hc2, hno, hr2, hg2⟩
  have HT : Hid (tText most st = (strOfNums (tTake (tMany most st).1 (tMany most st).2).1, (tTake (tMany most st).1 (tMany most st).2).2)) := rfl
  generalize tTake (tMany most st).1 (tMany most st).2 = y at *
  have hg := grown_trans hg1 hg2
  rcases Nat.eq_zero_or_pos y.1.length with hz | hz
  · have hcv := conv_0 w2 a c
    have hy : y.1 = [] := List.eq_nil_of_length_eq_zero hz
    rw [hz]
    go_wp2
    go_ret
    rw [HT.out, hy]
    exact ⟨rfl, hr2, hg⟩
  · have hcv := conv_b w2 a y.1 y.1.length c rfl (hat.plain hz) (hat.below' hr2.below)
    go_wp2
    go_ret
    rw [HT.out]
    exact ⟨rfl, hr2, hg⟩
/-- Of values that are read only the length and the memory of its own are told. -/
def BytesP (w0 w : World) (R : Nat) (l : List Int) (st : List Int × Bool) (e : Ending) (w' : World) : Prop := ∃ v, e = .returned v ∧ w'.ownsRow w.heap.size 5 1 v l.length (u8s l) ∧ RdC w0 w' R st ∧ w.grownBy w' (some R)
set_option maxRecDepth 100000 in
set_option maxHeartbeats 1000000 in
theorem bytes_any (R most : Nat) (st : List Int × Bool) (w0 w : World) (hr : RdC w0 w R st) (hm : most ≤ 1000000) (hl : st.1.length ≤ 140737488355328) (hR : R < w.heap.size) :
    Calls Tryz.prog 147 #[.pointer (some ⟨R, 0, none⟩), .int .i64 most] w (BytesP w0 w R (tBytes most st).1 (tBytes most st).2) := by
  obtain ⟨i0, hi, hz0, hz1, hz2⟩ := info_parts infoB8
  go_enter Tryz.func147, Tryz.ntmps147
  go_wp2_with fail
  refine (many_any R most st w0 w hr hm).mono ?_
  rintro e w1 ⟨rfl, hr1, hg1⟩
  have hle : (tBytes most st).1.length ≤ 1000000 := by
    have h1 : (tMany most st).1 ≤ most := by
      unfold tMany
      split <;> simp <;> omega
    unfold tBytes tTake
    split
    · simp
    · simp only [List.length_take]; omega
  go_wp2_with fail
  refine (takeP_any R _ _ w0 w1 hr1).mono ?_
  rintro e w2 ⟨a, c, rfl, hat, hc1, hc2, hno, hr2, hg2⟩
  have hg := grown_trans hg1 hg2
  have hat2 := hat.below' hr2.below
  have HT : Hid (tBytes most st = tTake (tMany most st).1 (tMany most st).2) := rfl
  rw [HT.out] at hle
  generalize tTake (tMany most st).1 (tMany most st).2 = y at *
  have hsz := hg.size
  go_wp2_with (at_builtin; refine wpList_append_opt rfl _ _ 28 rfl w.heap.size 5 i0 _ 1 1 Tryz.underlying28 hi hz0 hz1 hz2 rfl (by decide) (.slice none 0 0) 0 [] rfl (World.ownsRow_nil _ _ 5 1) a y.1.length c (u8s y.1) rfl (fun h => ⟨by have := hno h; omega, hno h⟩) (by unfold u8s; rw [List.length_map, Nat.mul_one]) (atB_news' hat2) (by intro u hu; unfold u8s at hu; obtain ⟨z, _, rfl⟩ := List.mem_map.1 hu; rfl) (by rw [Nat.zero_add]; unfold maxLen; omega) (by omega) hsz ?_; intro v3 w3 ho3 hg3)
  rw [Nat.zero_add, List.nil_append] at ho3
  go_ret
  rw [HT.out]
  obtain ⟨q1, q2, a', c', hobj, q3⟩ := hr2
  have hk := (hg3.block R (Array.getElem?_eq_some_iff.1 hobj).1 (by simp [Value.ownBlock])).trans hobj
  refine ⟨v3, rfl, ho3, ⟨q1, q2.trans ((grown_below hg3 (World.ownsRow_nil _ w2.heap.size 5 1) (Nat.le_refl _)).mono (by have := q2.size; omega)), a', c', hk, q3⟩, grown_trans hg ⟨hg3.os, hg3.tape, hg3.output, hg3.size, fun k hk2 hne => hg3.block k hk2 (by simp [Value.ownBlock])⟩⟩
theorem RdC.kept {w0 w w' : World} {R : Nat} {st : List Int × Bool} (h : RdC w0 w R st) (hb : Below w0.heap.size w w') (hR : w'.heap[R]? = w.heap[R]?) : RdC w0 w' R st := by
  obtain ⟨ho, hb0, a, cap, hobj, hc⟩ := h
  exact ⟨ho, hb0.trans hb, a, cap, hR.trans hobj, hc⟩
theorem RdC.lt {w0 w : World} {R : Nat} {st : List Int × Bool} (h : RdC w0 w R st) : R < w.heap.size := by
  obtain ⟨_, _, a, cap, hobj, _⟩ := h
  exact (Array.getElem?_eq_some_iff.1 hobj).1
theorem RdC.alloc {w0 w : World} {R : Nat} {st : List Int × Bool} (h : RdC w0 w R st) (o : Obj) : RdC w0 (w.alloc o) R st :=
  h.kept ((Below.refl _ _).alloc (Nat.le_trans h.old (Nat.le_of_lt h.lt)) o) (heap_alloc_old w o h.lt)
theorem RdC.set {w0 w : World} {R A j : Nat} {v : Value} {st : List Int × Bool} (h : RdC w0 w R st) (hA : R < A) : RdC w0 (w.setCell ⟨A, j, none⟩ v) R st :=
  h.kept ((Below.refl _ _).setCell (by have := h.old; show _ ≤ A; omega) _) (heap_setCell_other w ⟨A, j, none⟩ R v (by show R ≠ A; omega))
theorem RdC.row {w0 w : World} {R A : Nat} {cs : Array Value} {st : List Int × Bool} (h : RdC w0 w R st) (hA : R < A) : RdC w0 (w.setRow A cs) R st :=
  h.kept (Below.setRow (Below.refl _ _) (by have := h.old; omega) _) (setRow_other w A R cs (by omega))
theorem RdC.own {w0 w w' : World} {R : Nat} {st : List Int × Bool} {v : Value} (h : RdC w0 w R st) (hg : w.grownBy w' v.ownBlock) (h1 : ∀ j, v.ownBlock = some j → w0.heap.size ≤ j) (h2 : ∀ j, v.ownBlock = some j → j ≠ R) : RdC w0 w' R st := by
  obtain ⟨ho, hb, a, cap, hobj, hc⟩ := h
  have hR : R < w.heap.size := (Array.getElem?_eq_some_iff.1 hobj).1
  exact ⟨ho, hb.grown hg hb.size h1, a, cap, by rw [hg.block R hR (fun e => h2 R e.symm rfl)]; exact hobj, hc⟩
/-- What a call that reads a list tells: a list of its own, and each element's own memory. -/
def ElsP {α ε : Type} (w0 w : World) (R : Nat) (t : TypeId) (sz : Nat) (cells : ε → List Value) (dat : ε → α) (own : World → Nat → ε → Prop) (g : List α × (List Int × Bool)) (e : Ending) (w' : World) : Prop :=
  ∃ (v : Value) (l : List ε), e = .returned v ∧ l.map dat = g.1 ∧ w'.ownsRow w.heap.size t sz v l.length (l.flatMap cells) ∧ (∀ x ∈ l, own w' w.heap.size x) ∧ RdC w0 w' R g.2 ∧ w.grownBy w' (some R)
theorem callWhole_any (R : Nat) (st : List Int × Bool) (w0 w : World) (hr : RdC w0 w R st) :
    Calls Tryz.prog 108 #[.pointer (some ⟨R, 0, none⟩)] w fun e w' => e = .returned (.bool (!st.2 && decide (st.1.length = 0))) ∧ w' = w := by
  obtain ⟨_, _, a, cap, hobj, _, hc2, _, _⟩ := hr
  obtain ⟨l, bad⟩ := st
  have c0 := cell_of_obj hobj 0
  have c1 := cell_of_obj hobj 1
  simp at c0 c1
  cases bad
  · go_enter Tryz.func108, Tryz.ntmps108
    go_wp2
    go_ret
    refine ⟨ret_bool ?_, rfl⟩
    cases l <;> simp <;> omega
  · go_enter Tryz.func108, Tryz.ntmps108
    go_wp2
    go_ret
    exact ⟨ret_bool (by simp), rfl⟩
end Go.Proofs.YtaleceobkbgcnaaGreat.Rp
