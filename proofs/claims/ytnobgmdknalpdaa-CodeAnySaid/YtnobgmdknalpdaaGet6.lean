/-
  The contracts of package code: how lists are read. No conditions beyond what is written in each statement.
-/
import Derived.Test.YtnobgmdknalpdaaGet5
set_option linter.unusedSimpArgs false
set_option linter.unusedVariables false
namespace Go.Proofs.Ytnobgmdknalpdaa
open Go.RowKit

def gMany {α : Type} (get : RS → α × RS) : Nat → RS → List α × RS
  | 0, st => ([], st)
  | n + 1, st => ((get st).1 :: (gMany get n (get st).2).1, (gMany get n (get st).2).2)
def gList {α : Type} (get : RS → α × RS) (st : RS) : List α × RS := if 6 < (gWord st).1 then ([], ((gWord st).2.1, true)) else gMany get (gWord st).1.toNat (gWord st).2
/-- What a call that reads a list tells: a list of its own. -/
def ListPost {α : Type} (w0 w : World) (R : Nat) (t : TypeId) (sz : Nat) (cells : α → List Value) (g : List α × RS) (e : Ending) (w' : World) : Prop :=
  ∃ v, e = .returned v ∧ w'.ownsRow w.heap.size t sz v g.1.length (g.1.flatMap cells) ∧ Rd w0 w' R g.2.1 g.2.2 ∧ w.grownBy w' (some R)
theorem new_cells (w : World) (c : Array Value) (t : TypeId) : ∀ (j : Nat) (u : Value), c.toList[j]? = some u → (w.alloc (.cells c t)).cell? ((⟨w.heap.size, 0, none⟩ : Addr).add j) = some u := fun j u h => by
  have e : (⟨w.heap.size, 0, none⟩ : Addr).add j = ⟨w.heap.size, j, none⟩ := by simp [Addr.add]; omega
  rw [e, cell_of_obj (heap_alloc_self w _)]
  simpa using h
theorem rd_own {w0 w w' : World} {R : Nat} {l : List Int} {bad : Bool} {v : Value} (h : Rd w0 w R l bad) (hg : w.grownBy w' v.ownBlock) (h1 : ∀ j, v.ownBlock = some j → w0.heap.size ≤ j) (h2 : ∀ j, v.ownBlock = some j → j ≠ R) : Rd w0 w' R l bad := by
  obtain ⟨ho, hb, a, cap, hobj, hc1, hc2, hat⟩ := h
  have hR : R < w.heap.size := (Array.getElem?_eq_some_iff.1 hobj).1
  exact ⟨ho, hb.grown hg hb.size h1, a, cap, by rw [hg.block R hR (fun e => h2 R e.symm rfl)]; exact hobj, hc1, hc2, hat⟩

theorem infoI : (Try.prog.info? 3).map (fun i => (i.zero, i.size, i.bytes)) = some (some (.int .i64 0), 1, 8) := by kernel_rfl
set_option maxRecDepth 100000 in
set_option maxHeartbeats 1000000 in
theorem getListI_any (R : Nat) (st : RS) (w0 w : World) (hr : Rd w0 w R st.1 st.2) :
    Calls Try.prog 57 #[.pointer (some ⟨R, 0, none⟩), .func (.func 55) #[] #[]] w (ListPost w0 w R 3 1 (fun x : Int => [Value.int .i64 x]) (gList gNum st)) := by
  obtain ⟨i0, hi, hz0, hz1, hz2⟩ := info_parts infoI
  have HI := Lib.hid (And.intro hi (And.intro hz0 (And.intro hz1 hz2)))
  clear hi hz0 hz1 hz2
  have hRw := hr.lt
  have hold := hr.old
  have hsz := hr.below.size
  have HR := Lib.hid hr
  clear hr
  have hlen : ∀ x : Int, ((fun x : Int => [Value.int .i64 x]) x).length = 1 := fun x => rfl
  have HW := Lib.hid (gWord_le HR.out.bytes)
  go_enter Try.func57, Try.ntmps57
  go_wp2_with fail
  refine (getWord_any R st w0 _ HR.out).mono ?_
  rintro e w1 ⟨rfl, hr1, hg1⟩
  by_cases h6 : 6 < (gWord st).1
  · obtain ⟨_, c1, _, f1⟩ := hr1.cells
    go_wp2
    go_ret
    refine ⟨_, rfl, ?_, ?_, ?_⟩
    · unfold gList; rw [if_pos h6]; exact World.ownsRow_nil _ _ _ _
    · unfold gList; rw [if_pos h6]; exact hr1.setBad
    · exact grown_trans hg1 (grown_set _ _ _ _)
  · have hg0 : gList gNum st = gMany gNum (gWord st).1.toNat (gWord st).2 := by unfold gList; rw [if_neg h6]
    have HG0 := Lib.hid hg0
    have hm : ∃ m : Nat, (gWord st).1 = (m : Int) ∧ m ≤ 6 := ⟨(gWord st).1.toNat, by have := HW.out.1; omega, by have := HW.out.1; omega⟩
    obtain ⟨m, hm1, hm2⟩ := hm
    rw [hm1] at h6
    rw [hm1]
    have HM := Lib.hid hm1
    have hs1 := hg1.size
    have f1 := (Fr.refl w.heap.size R w).grown (Nat.le_refl _) hg1
    have H1 := Lib.hid (And.intro hr1 f1)
    clear hm1 hg0 hr1 hg1 f1 h6
    go_wp2
    go_loopw [6, 15] (fun u i wr => ∃ k : Nat, k ≤ m ∧ i = .int .u64 k ∧ ∃ (l : List Int) (s : RS), Hid (l.length = k) ∧ wr.ownsRow w.heap.size 3 1 u k (l.flatMap (fun x : Int => [Value.int .i64 x])) ∧ Rd w0 wr R s.1 s.2 ∧ Fr w.heap.size R w wr
        ∧ Hid (gMany gNum m (gWord st).2 = (l ++ (gMany gNum (m - k) s).1, (gMany gNum (m - k) s).2))) (fun _ i _ => m - (intOf i).toNat)
    case atStart => exact ⟨0, Nat.zero_le _, rfl, [], (gWord st).2, rfl, World.ownsRow_nil _ _ _ _, H1.out.1, H1.out.2, rfl⟩
    case round =>
      obtain ⟨k, hk, rfl, l, s, hl, hown, hrd, hfr, hmany⟩ := hrel
      by_cases hlt : k < m
      · have hfs := hfr.size
        go_wp2_with fail
        refine Calls.mono (getNumI_any R s w0 _ hrd) ?_
        rintro e w2 ⟨rfl, hr2, hg2⟩
        have hs2 := hg2.size
        have hown2 := hown.kept hg2 (Or.inr (fun e => by have := (hown.lt R e).1; omega))
        have hfr2 := hfr.grown (by omega) hg2
        have hl1 : k + 1 ≤ maxLen := by unfold maxLen; omega
        have hl2 : (k + 1) * 8 ≤ 140737488355328 := by omega
        have hB2 : w.heap.size ≤ w2.heap.size + 1 := by omega
        clear hrd hown hfr hg2
        go_wp2_with (at_builtin; refine wpList_append_own _ rfl (.tmp 17) (.tmp 21) 24 rfl w.heap.size 3 i0 (.int .i64 0) 1 8 Try.underlying24 HI.out.1 HI.out.2.1 HI.out.2.2.1 HI.out.2.2.2 rfl (by decide) _ k (l.flatMap (fun x : Int => [Value.int .i64 x])) rfl (hown2.alloc _) ⟨w2.heap.size, 0, none⟩ 1 1 ((fun x : Int => [Value.int .i64 x]) (gNum s).1) rfl (hlen _) (new_cells _ _ _) (by simp [Value.oneCell']) hl1 hl2 (by simp; exact hB2) ?_; intro v' w3 hown' hgrow hnil)
        go_roundw
        case rel =>
          have hN : ∀ j, (Value.ownBlock _) = some j → w.heap.size ≤ j := fun j hj => (hown2.lt j hj).1
          have hfr3 := (hfr2.alloc (by omega) _).own (by simp; omega) hgrow hN
          refine ⟨k + 1, by omega, by go_num, l ++ [(gNum s).1], (gNum s).2, by show _ = _; simp [hl.out], by simpa using hown', ?_, hfr3, ?_⟩
          · exact rd_own (hr2.alloc _) hgrow (fun j hj => by have := hN j hj; omega) (fun j hj => by have := hN j hj; omega)
          · show _ = _
            rw [hmany.out, show m - k = (m - (k + 1)) + 1 by omega]
            simp [gMany]
        case measure => simp [intOf]; omega
      · obtain rfl : k = m := by omega
        go_wp2
        go_ret
        have hmm := hmany.out
        rw [Nat.sub_self] at hmm
        have hg : gList gNum st = (l, s) := by rw [HG0.out, HM.out, Int.toNat_natCast, hmm]; simp [gMany]
        refine ⟨_, rfl, ?_, ?_, hfr.out⟩
        · rw [hg, hl.out]; exact hown
        · rw [hg]; exact hrd

theorem infoS : (Try.prog.info? 9).map (fun i => (i.zero, i.size, i.bytes)) = some (some (.string ⟨#[]⟩), 1, 16) := by kernel_rfl
set_option maxRecDepth 100000 in
set_option maxHeartbeats 1000000 in
theorem getListS_any (R : Nat) (st : RS) (w0 w : World) (hr : Rd w0 w R st.1 st.2) :
    Calls Try.prog 92 #[.pointer (some ⟨R, 0, none⟩), .func (.func 53) #[] #[]] w (ListPost w0 w R 9 1 (fun x : ByteArray => [Value.string x]) (gList gName st)) := by
  obtain ⟨i0, hi, hz0, hz1, hz2⟩ := info_parts infoS
  have HI := Lib.hid (And.intro hi (And.intro hz0 (And.intro hz1 hz2)))
  clear hi hz0 hz1 hz2
  have hRw := hr.lt
  have hold := hr.old
  have hsz := hr.below.size
  have HR := Lib.hid hr
  clear hr
  have hlen : ∀ x : ByteArray, ((fun x : ByteArray => [Value.string x]) x).length = 1 := fun x => rfl
  have HW := Lib.hid (gWord_le HR.out.bytes)
  go_enter Try.func92, Try.ntmps92
  go_wp2_with fail
  refine (getWord_any R st w0 _ HR.out).mono ?_
  rintro e w1 ⟨rfl, hr1, hg1⟩
  by_cases h6 : 6 < (gWord st).1
  · obtain ⟨_, c1, _, f1⟩ := hr1.cells
    go_wp2
    go_ret
    refine ⟨_, rfl, ?_, ?_, ?_⟩
    · unfold gList; rw [if_pos h6]; exact World.ownsRow_nil _ _ _ _
    · unfold gList; rw [if_pos h6]; exact hr1.setBad
    · exact grown_trans hg1 (grown_set _ _ _ _)
  · have hg0 : gList gName st = gMany gName (gWord st).1.toNat (gWord st).2 := by unfold gList; rw [if_neg h6]
    have HG0 := Lib.hid hg0
    have hm : ∃ m : Nat, (gWord st).1 = (m : Int) ∧ m ≤ 6 := ⟨(gWord st).1.toNat, by have := HW.out.1; omega, by have := HW.out.1; omega⟩
    obtain ⟨m, hm1, hm2⟩ := hm
    rw [hm1] at h6
    rw [hm1]
    have HM := Lib.hid hm1
    have hs1 := hg1.size
    have f1 := (Fr.refl w.heap.size R w).grown (Nat.le_refl _) hg1
    have H1 := Lib.hid (And.intro hr1 f1)
    clear hm1 hg0 hr1 hg1 f1 h6
    go_wp2
    go_loopw [6, 15] (fun u i wr => ∃ k : Nat, k ≤ m ∧ i = .int .u64 k ∧ ∃ (l : List ByteArray) (s : RS), Hid (l.length = k) ∧ wr.ownsRow w.heap.size 9 1 u k (l.flatMap (fun x : ByteArray => [Value.string x])) ∧ Rd w0 wr R s.1 s.2 ∧ Fr w.heap.size R w wr
        ∧ Hid (gMany gName m (gWord st).2 = (l ++ (gMany gName (m - k) s).1, (gMany gName (m - k) s).2))) (fun _ i _ => m - (intOf i).toNat)
    case atStart => exact ⟨0, Nat.zero_le _, rfl, [], (gWord st).2, rfl, World.ownsRow_nil _ _ _ _, H1.out.1, H1.out.2, rfl⟩
    case round =>
      obtain ⟨k, hk, rfl, l, s, hl, hown, hrd, hfr, hmany⟩ := hrel
      by_cases hlt : k < m
      · have hfs := hfr.size
        go_wp2_with fail
        refine Calls.mono (getName_any R s w0 _ hrd) ?_
        rintro e w2 ⟨rfl, hr2, hg2⟩
        have hs2 := hg2.size
        have hown2 := hown.kept hg2 (Or.inr (fun e => by have := (hown.lt R e).1; omega))
        have hfr2 := hfr.grown (by omega) hg2
        have hl1 : k + 1 ≤ maxLen := by unfold maxLen; omega
        have hl2 : (k + 1) * 16 ≤ 140737488355328 := by omega
        have hB2 : w.heap.size ≤ w2.heap.size + 1 := by omega
        clear hrd hown hfr hg2
        go_wp2_with (at_builtin; refine wpList_append_own _ rfl (.tmp 17) (.tmp 21) 38 rfl w.heap.size 9 i0 (.string ⟨#[]⟩) 1 16 Try.underlying38 HI.out.1 HI.out.2.1 HI.out.2.2.1 HI.out.2.2.2 rfl (by decide) _ k (l.flatMap (fun x : ByteArray => [Value.string x])) rfl (hown2.alloc _) ⟨w2.heap.size, 0, none⟩ 1 1 ((fun x : ByteArray => [Value.string x]) (gName s).1) rfl (hlen _) (new_cells _ _ _) (by simp [Value.oneCell']) hl1 hl2 (by simp; exact hB2) ?_; intro v' w3 hown' hgrow hnil)
        go_roundw
        case rel =>
          have hN : ∀ j, (Value.ownBlock _) = some j → w.heap.size ≤ j := fun j hj => (hown2.lt j hj).1
          have hfr3 := (hfr2.alloc (by omega) _).own (by simp; omega) hgrow hN
          refine ⟨k + 1, by omega, by go_num, l ++ [(gName s).1], (gName s).2, by show _ = _; simp [hl.out], by simpa using hown', ?_, hfr3, ?_⟩
          · exact rd_own (hr2.alloc _) hgrow (fun j hj => by have := hN j hj; omega) (fun j hj => by have := hN j hj; omega)
          · show _ = _
            rw [hmany.out, show m - k = (m - (k + 1)) + 1 by omega]
            simp [gMany]
        case measure => simp [intOf]; omega
      · obtain rfl : k = m := by omega
        go_wp2
        go_ret
        have hmm := hmany.out
        rw [Nat.sub_self] at hmm
        have hg : gList gName st = (l, s) := by rw [HG0.out, HM.out, Int.toNat_natCast, hmm]; simp [gMany]
        refine ⟨_, rfl, ?_, ?_, hfr.out⟩
        · rw [hg, hl.out]; exact hown
        · rw [hg]; exact hrd

theorem infoP : (Try.prog.info? 36).map (fun i => (i.zero, i.size, i.bytes)) = some (some (.agg #[.string ⟨#[]⟩, .string ⟨#[]⟩]), 2, 32) := by kernel_rfl
set_option maxRecDepth 100000 in
set_option maxHeartbeats 1000000 in
theorem getListP_any (R : Nat) (st : RS) (w0 w : World) (hr : Rd w0 w R st.1 st.2) :
    Calls Try.prog 58 #[.pointer (some ⟨R, 0, none⟩), .func (.func 59) #[] #[]] w (ListPost w0 w R 36 2 (fun x : Str2 => [Value.string x.1, Value.string x.2]) (gList gPair st)) := by
  obtain ⟨i0, hi, hz0, hz1, hz2⟩ := info_parts infoP
  have HI := Lib.hid (And.intro hi (And.intro hz0 (And.intro hz1 hz2)))
  clear hi hz0 hz1 hz2
  have hRw := hr.lt
  have hold := hr.old
  have hsz := hr.below.size
  have HR := Lib.hid hr
  clear hr
  have hlen : ∀ x : Str2, ((fun x : Str2 => [Value.string x.1, Value.string x.2]) x).length = 2 := fun x => rfl
  have HW := Lib.hid (gWord_le HR.out.bytes)
  go_enter Try.func58, Try.ntmps58
  go_wp2_with fail
  refine (getWord_any R st w0 _ HR.out).mono ?_
  rintro e w1 ⟨rfl, hr1, hg1⟩
  by_cases h6 : 6 < (gWord st).1
  · obtain ⟨_, c1, _, f1⟩ := hr1.cells
    go_wp2
    go_ret
    refine ⟨_, rfl, ?_, ?_, ?_⟩
    · unfold gList; rw [if_pos h6]; exact World.ownsRow_nil _ _ _ _
    · unfold gList; rw [if_pos h6]; exact hr1.setBad
    · exact grown_trans hg1 (grown_set _ _ _ _)
  · have hg0 : gList gPair st = gMany gPair (gWord st).1.toNat (gWord st).2 := by unfold gList; rw [if_neg h6]
    have HG0 := Lib.hid hg0
    have hm : ∃ m : Nat, (gWord st).1 = (m : Int) ∧ m ≤ 6 := ⟨(gWord st).1.toNat, by have := HW.out.1; omega, by have := HW.out.1; omega⟩
    obtain ⟨m, hm1, hm2⟩ := hm
    rw [hm1] at h6
    rw [hm1]
    have HM := Lib.hid hm1
    have hs1 := hg1.size
    have f1 := (Fr.refl w.heap.size R w).grown (Nat.le_refl _) hg1
    have H1 := Lib.hid (And.intro hr1 f1)
    clear hm1 hg0 hr1 hg1 f1 h6
    go_wp2
    go_loopw [6, 15] (fun u i wr => ∃ k : Nat, k ≤ m ∧ i = .int .u64 k ∧ ∃ (l : List Str2) (s : RS), Hid (l.length = k) ∧ wr.ownsRow w.heap.size 36 2 u k (l.flatMap (fun x : Str2 => [Value.string x.1, Value.string x.2])) ∧ Rd w0 wr R s.1 s.2 ∧ Fr w.heap.size R w wr
        ∧ Hid (gMany gPair m (gWord st).2 = (l ++ (gMany gPair (m - k) s).1, (gMany gPair (m - k) s).2))) (fun _ i _ => m - (intOf i).toNat)
    case atStart => exact ⟨0, Nat.zero_le _, rfl, [], (gWord st).2, rfl, World.ownsRow_nil _ _ _ _, H1.out.1, H1.out.2, rfl⟩
    case round =>
      obtain ⟨k, hk, rfl, l, s, hl, hown, hrd, hfr, hmany⟩ := hrel
      by_cases hlt : k < m
      · have hfs := hfr.size
        go_wp2_with fail
        refine Calls.mono (getPair_any R s w0 _ hrd) ?_
        rintro e w2 ⟨rfl, hr2, hg2⟩
        have hs2 := hg2.size
        have hown2 := hown.kept hg2 (Or.inr (fun e => by have := (hown.lt R e).1; omega))
        have hfr2 := hfr.grown (by omega) hg2
        have hl1 : k + 1 ≤ maxLen := by unfold maxLen; omega
        have hl2 : (k + 1) * 32 ≤ 140737488355328 := by omega
        have hB2 : w.heap.size ≤ w2.heap.size + 1 := by omega
        clear hrd hown hfr hg2
        go_wp2_with (at_builtin; refine wpList_append_own _ rfl (.tmp 17) (.tmp 21) 25 rfl w.heap.size 36 i0 (.agg #[.string ⟨#[]⟩, .string ⟨#[]⟩]) 2 32 Try.underlying25 HI.out.1 HI.out.2.1 HI.out.2.2.1 HI.out.2.2.2 rfl (by decide) _ k (l.flatMap (fun x : Str2 => [Value.string x.1, Value.string x.2])) rfl (hown2.alloc _) ⟨w2.heap.size, 0, none⟩ 1 1 ((fun x : Str2 => [Value.string x.1, Value.string x.2]) (gPair s).1) rfl (hlen _) (new_cells _ _ _) (by simp [Value.oneCell']) hl1 hl2 (by simp; exact hB2) ?_; intro v' w3 hown' hgrow hnil)
        go_roundw
        case rel =>
          have hN : ∀ j, (Value.ownBlock _) = some j → w.heap.size ≤ j := fun j hj => (hown2.lt j hj).1
          have hfr3 := (hfr2.alloc (by omega) _).own (by simp; omega) hgrow hN
          refine ⟨k + 1, by omega, by go_num, l ++ [(gPair s).1], (gPair s).2, by show _ = _; simp [hl.out], by simpa using hown', ?_, hfr3, ?_⟩
          · exact rd_own (hr2.alloc _) hgrow (fun j hj => by have := hN j hj; omega) (fun j hj => by have := hN j hj; omega)
          · show _ = _
            rw [hmany.out, show m - k = (m - (k + 1)) + 1 by omega]
            simp [gMany]
        case measure => simp [intOf]; omega
      · obtain rfl : k = m := by omega
        go_wp2
        go_ret
        have hmm := hmany.out
        rw [Nat.sub_self] at hmm
        have hg : gList gPair st = (l, s) := by rw [HG0.out, HM.out, Int.toNat_natCast, hmm]; simp [gMany]
        refine ⟨_, rfl, ?_, ?_, hfr.out⟩
        · rw [hg, hl.out]; exact hown
        · rw [hg]; exact hrd


theorem infoL : (Try.prog.info? 42).map (fun i => (i.zero, i.size, i.bytes)) = some (some (.agg #[.string ⟨#[]⟩, .string ⟨#[]⟩, .bool false]), 3, 40) := by kernel_rfl
set_option maxRecDepth 100000 in
set_option maxHeartbeats 1000000 in
theorem getListL_any (R : Nat) (st : RS) (w0 w : World) (hr : Rd w0 w R st.1 st.2) :
    Calls Try.prog 62 #[.pointer (some ⟨R, 0, none⟩), .func (.func 63) #[] #[]] w (ListPost w0 w R 42 3 (fun x : Tol => [Value.string x.1, Value.string x.2.1, Value.bool x.2.2]) (gList gToler st)) := by
  obtain ⟨i0, hi, hz0, hz1, hz2⟩ := info_parts infoL
  have HI := Lib.hid (And.intro hi (And.intro hz0 (And.intro hz1 hz2)))
  clear hi hz0 hz1 hz2
  have hRw := hr.lt
  have hold := hr.old
  have hsz := hr.below.size
  have HR := Lib.hid hr
  clear hr
  have hlen : ∀ x : Tol, ((fun x : Tol => [Value.string x.1, Value.string x.2.1, Value.bool x.2.2]) x).length = 3 := fun x => rfl
  have HW := Lib.hid (gWord_le HR.out.bytes)
  go_enter Try.func62, Try.ntmps62
  go_wp2_with fail
  refine (getWord_any R st w0 _ HR.out).mono ?_
  rintro e w1 ⟨rfl, hr1, hg1⟩
  by_cases h6 : 6 < (gWord st).1
  · obtain ⟨_, c1, _, f1⟩ := hr1.cells
    go_wp2
    go_ret
    refine ⟨_, rfl, ?_, ?_, ?_⟩
    · unfold gList; rw [if_pos h6]; exact World.ownsRow_nil _ _ _ _
    · unfold gList; rw [if_pos h6]; exact hr1.setBad
    · exact grown_trans hg1 (grown_set _ _ _ _)
  · have hg0 : gList gToler st = gMany gToler (gWord st).1.toNat (gWord st).2 := by unfold gList; rw [if_neg h6]
    have HG0 := Lib.hid hg0
    have hm : ∃ m : Nat, (gWord st).1 = (m : Int) ∧ m ≤ 6 := ⟨(gWord st).1.toNat, by have := HW.out.1; omega, by have := HW.out.1; omega⟩
    obtain ⟨m, hm1, hm2⟩ := hm
    rw [hm1] at h6
    rw [hm1]
    have HM := Lib.hid hm1
    have hs1 := hg1.size
    have f1 := (Fr.refl w.heap.size R w).grown (Nat.le_refl _) hg1
    have H1 := Lib.hid (And.intro hr1 f1)
    clear hm1 hg0 hr1 hg1 f1 h6
    go_wp2
    go_loopw [6, 15] (fun u i wr => ∃ k : Nat, k ≤ m ∧ i = .int .u64 k ∧ ∃ (l : List Tol) (s : RS), Hid (l.length = k) ∧ wr.ownsRow w.heap.size 42 3 u k (l.flatMap (fun x : Tol => [Value.string x.1, Value.string x.2.1, Value.bool x.2.2])) ∧ Rd w0 wr R s.1 s.2 ∧ Fr w.heap.size R w wr
        ∧ Hid (gMany gToler m (gWord st).2 = (l ++ (gMany gToler (m - k) s).1, (gMany gToler (m - k) s).2))) (fun _ i _ => m - (intOf i).toNat)
    case atStart => exact ⟨0, Nat.zero_le _, rfl, [], (gWord st).2, rfl, World.ownsRow_nil _ _ _ _, H1.out.1, H1.out.2, rfl⟩
    case round =>
      obtain ⟨k, hk, rfl, l, s, hl, hown, hrd, hfr, hmany⟩ := hrel
      by_cases hlt : k < m
      · have hfs := hfr.size
        go_wp2_with fail
        refine Calls.mono (getToler_any R s w0 _ hrd) ?_
        rintro e w2 ⟨rfl, hr2, hg2⟩
        have hs2 := hg2.size
        have hown2 := hown.kept hg2 (Or.inr (fun e => by have := (hown.lt R e).1; omega))
        have hfr2 := hfr.grown (by omega) hg2
        have hl1 : k + 1 ≤ maxLen := by unfold maxLen; omega
        have hl2 : (k + 1) * 40 ≤ 140737488355328 := by omega
        have hB2 : w.heap.size ≤ w2.heap.size + 1 := by omega
        clear hrd hown hfr hg2
        go_wp2_with (at_builtin; refine wpList_append_own _ rfl (.tmp 17) (.tmp 21) 27 rfl w.heap.size 42 i0 (.agg #[.string ⟨#[]⟩, .string ⟨#[]⟩, .bool false]) 3 40 Try.underlying27 HI.out.1 HI.out.2.1 HI.out.2.2.1 HI.out.2.2.2 rfl (by decide) _ k (l.flatMap (fun x : Tol => [Value.string x.1, Value.string x.2.1, Value.bool x.2.2])) rfl (hown2.alloc _) ⟨w2.heap.size, 0, none⟩ 1 1 ((fun x : Tol => [Value.string x.1, Value.string x.2.1, Value.bool x.2.2]) (gToler s).1) rfl (hlen _) (new_cells _ _ _) (by simp [Value.oneCell']) hl1 hl2 (by simp; exact hB2) ?_; intro v' w3 hown' hgrow hnil)
        go_roundw
        case rel =>
          have hN : ∀ j, (Value.ownBlock _) = some j → w.heap.size ≤ j := fun j hj => (hown2.lt j hj).1
          have hfr3 := (hfr2.alloc (by omega) _).own (by simp; omega) hgrow hN
          refine ⟨k + 1, by omega, by go_num, l ++ [(gToler s).1], (gToler s).2, by show _ = _; simp [hl.out], by simpa using hown', ?_, hfr3, ?_⟩
          · exact rd_own (hr2.alloc _) hgrow (fun j hj => by have := hN j hj; omega) (fun j hj => by have := hN j hj; omega)
          · show _ = _
            rw [hmany.out, show m - k = (m - (k + 1)) + 1 by omega]
            simp [gMany]
        case measure => simp [intOf]; omega
      · obtain rfl : k = m := by omega
        go_wp2
        go_ret
        have hmm := hmany.out
        rw [Nat.sub_self] at hmm
        have hg : gList gToler st = (l, s) := by rw [HG0.out, HM.out, Int.toNat_natCast, hmm]; simp [gMany]
        refine ⟨_, rfl, ?_, ?_, hfr.out⟩
        · rw [hg, hl.out]; exact hown
        · rw [hg]; exact hrd
end Go.Proofs.Ytnobgmdknalpdaa
