/-
  The contracts of package code: how lists are read. No conditions beyond what is written in each statement.
-/
import Derived.Test.YtaleceobkbgcnaaGreatGGetA
set_option linter.unusedSimpArgs false
set_option linter.unusedVariables false
namespace Go.Proofs.YtaleceobkbgcnaaGreat
open Go.RowKit

def gMany {α : Type} (get : RS → α × RS) : Nat → RS → List α × RS
  | 0, st => ([], st)
  | n + 1, st => ((get st).1 :: (gMany get n (get st).2).1, (gMany get n (get st).2).2)
def gList {α : Type} (get : RS → α × RS) (st : RS) : List α × RS := if 6 < (gWord st).1 then ([], ((gWord st).2.1, true)) else gMany get (gWord st).1.toNat (gWord st).2
/-- What a call that reads a list tells: a list of its own. -/
def ListPost {α : Type} (w0 w : World) (R : Nat) (t : TypeId) (sz : Nat) (cells : α → List Value) (g : List α × RS) (e : Ending) (w' : World) : Prop :=
  ∃ v, e = .returned v ∧ w'.ownsRow w.heap.size t sz v g.1.length (g.1.flatMap cells) ∧ Rd w0 w' R g.2.1 g.2.2 ∧ w.grownBy w' (some R)
theorem new_cells (w : World) (c : Array Value) (t : TypeId) : ∀ (j : Nat) (u : Value), c.toList[j]? = some u → (w.alloc (.cells c t)).cell? ((⟨w.heap.size, 0, none⟩ : Addr).add j) = some u := fun j u h => by
  have e : (⟨w.heap.size, 0, none⟩ : Addr).add j = ⟨w.heap.size, j, none⟩ := by simp [Addr.add]; omega
  rw [e, cell_of_obj (heap_alloc_self w _)]
  simpa using h
theorem rd_own {w0 w w' : World} {R : Nat} {l : List Int} {bad : Bool} {v : Value} (h : Rd w0 w R l bad) (hg : w.grownBy w' v.ownBlock) (h1 : ∀ j, v.ownBlock = some j → w0.heap.size ≤ j) (h2 : ∀ j, v.ownBlock = some j → j ≠ R) : Rd w0 w' R l bad := by
  obtain ⟨ho, hb, a, cap, hobj, hc1, hc2, hat⟩ := h
  have hR : R < w.heap.size := (Array.getElem?_eq_some_iff.1 hobj).1
  exact ⟨ho, hb.grown hg hb.size h1, a, cap, by rw [hg.block R hR (fun e => h2 R e.symm rfl)]; exact hobj, hc1, hc2, hat⟩

theorem infoI : (Tryz.prog.info? 3).map (fun i => (i.zero, i.size, i.bytes)) = some (some (.int .i64 0), 1, 8) := by kernel_rfl
set_option maxRecDepth 100000 in
set_option maxHeartbeats 1000000 in
theorem getListI_any (R : Nat) (st : RS) (w0 w : World) (hr : Rd w0 w R st.1 st.2) :
    Calls Tryz.prog 187 #[.pointer (some ⟨R, 0, none⟩), .func (.func 185) #[] #[]] w (ListPost w0 w R 3 1 (fun x : Int => [Value.int .i64 x]) (gList gNum st)) := by
  obtain ⟨i0, hi, hz0, hz1, hz2⟩ := info_parts infoI
  have HI := Lib.hid (And.intro hi (And.intro hz0 (And.intro hz1 hz2)))
  clear hi hz0 hz1 hz2
  have hRw := hr.lt
  have hold := hr.old
  have hsz := hr.below.size
  have HR := Lib.hid hr
  clear hr
  have hlen : ∀ x : Int, ((fun x : Int => [Value.int .i64 x]) x).length = 1 := fun x => rfl
  have HW := Lib.hid (gWord_le HR.out.bytes)
  go_enter Tryz.func187, Tryz.ntmps187
  go_wp2_with fail
  refine (getWord_any R st w0 _ HR.out).mono ?_
  rintro e w1 ⟨rfl, hr1, hg1⟩
  by_cases h6 : 6 < (gWord st).1
  · obtain ⟨_, c1, _, f1⟩ := hr1.cells
    go_wp2
    go_ret
    refine ⟨_, rfl, ?_, ?_, ?_⟩
    · unfold gList; rw [if_pos h6]; exact World.ownsRow_nil _ _ _ _
    · unfold gList; rw [if_pos h6]; exact hr1.setBad
    · exact grown_trans hg1 (grown_set _ _ _ _)
  · have hg0 : gList gNum st = gMany gNum (gWord st).1.toNat (gWord st).2 := by unfold gList; rw [if_neg h6]
    have HG0 := Lib.hid hg0
    have hm : ∃ m : Nat, (gWord st).1 = (m : Int) ∧ m ≤ 6 := ⟨(gWord st).1.toNat, by have := HW.out.1; omega, by have := HW.out.1; omega⟩
    obtain ⟨m, hm1, hm2⟩ := hm
    rw [hm1] at h6
    rw [hm1]
    have HM := Lib.hid hm1
    have hs1 := hg1.size
    have f1 := (Fr.refl w.heap.size R w).grown (Nat.le_refl _) hg1
    have H1 := Lib.hid (And.intro hr1 f1)
    clear hm1 hg0 hr1 hg1 f1 h6
    go_wp2
    go_loopw [6, 15] (fun u i wr => ∃ k : Nat, k ≤ m ∧ i = .int .u64 k ∧ ∃ (l : List Int) (s : RS), Hid (l.length = k) ∧ wr.ownsRow w.heap.size 3 1 u k (l.flatMap (fun x : Int => [Value.int .i64 x])) ∧ Rd w0 wr R s.1 s.2 ∧ Fr w.heap.size R w wr
        ∧ Hid (gMany gNum m (gWord st).2 = (l ++ (gMany gNum (m - k) s).1, (gMany gNum (m - k) s).2))) (fun _ i _ => m - (intOf i).toNat)
    case atStart => exact ⟨0, Nat.zero_le _, rfl, [], (gWord st).2, rfl, World.ownsRow_nil _ _ _ _, H1.out.1, H1.out.2, rfl⟩
    case round =>
      obtain ⟨k, hk, rfl, l, s, hl, hown, hrd, hfr, hmany⟩ := hrel
      by_cases hlt : k < m
      · have hfs := hfr.size
        go_wp2_with fail
        refine Calls.mono (getNumI_any R s w0 _ hrd) ?_
        rintro e w2 ⟨rfl, hr2, hg2⟩
        have hs2 := hg2.size
        have hown2 := hown.kept hg2 (Or.inr (fun e => by have := (hown.lt R e).1; omega))
        have hfr2 := hfr.grown (by omega) hg2
        have hl1 : k + 1 ≤ maxLen := by unfold maxLen; omega
        have hl2 : (k + 1) * 8 ≤ 140737488355328 := by omega
        have hB2 : w.heap.size ≤ w2.heap.size + 1 := by omega
        clear hrd hown hfr hg2
        go_wp2_with (at_builtin; refine wpList_append_own _ rfl (.tmp 17) (.tmp 21) 39 rfl w.heap.size 3 i0 (.int .i64 0) 1 8 Tryz.underlying39 HI.out.1 HI.out.2.1 HI.out.2.2.1 HI.out.2.2.2 rfl (by decide) _ k (l.flatMap (fun x : Int => [Value.int .i64 x])) rfl (hown2.alloc _) ⟨w2.heap.size, 0, none⟩ 1 1 ((fun x : Int => [Value.int .i64 x]) (gNum s).1) rfl (hlen _) (new_cells _ _ _) (by simp [Value.oneCell']) hl1 hl2 (by simp; exact hB2) ?_; intro v' w3 hown' hgrow hnil)
        go_roundw
        case rel =>
          have hN : ∀ j, (Value.ownBlock _) = some j → w.heap.size ≤ j := fun j hj => (hown2.lt j hj).1
          have hfr3 := (hfr2.alloc (by omega) _).own (by simp; omega) hgrow hN
          refine ⟨k + 1, by omega, by go_num, l ++ [(gNum s).1], (gNum s).2, by show _ = _; simp [hl.out], by simpa using hown', ?_, hfr3, ?_⟩
          · exact rd_own (hr2.alloc _) hgrow (fun j hj => by have := hN j hj; omega) (fun j hj => by have := hN j hj; omega)
          · show _ = _
            rw [hmany.out, show m - k = (m - (k + 1)) + 1 by omega]
            simp [gMany]
        case measure => simp [intOf]; omega
      · obtain rfl : k = m := by omega
        go_wp2
        go_ret
        have hmm := hmany.out
        rw [Nat.sub_self] at hmm
        have hg : gList gNum st = (l, s) := by rw [HG0.out, HM.out, Int.toNat_natCast, hmm]; simp [gMany]
        refine ⟨_, rfl, ?_, ?_, hfr.out⟩
        · rw [hg, hl.out]; exact hown
        · rw [hg]; exact hrd

theorem infoS : (Tryz.prog.info? 9).map (fun i => (i.zero, i.size, i.bytes)) = some (some (.string ⟨#[]⟩), 1, 16) := by kernel_rfl
set_option maxRecDepth 100000 in
set_option maxHeartbeats 1000000 in
theorem getListS_any (R : Nat) (st : RS) (w0 w : World) (hr : Rd w0 w R st.1 st.2) :
    Calls Tryz.prog 228 #[.pointer (some ⟨R, 0, none⟩), .func (.func 183) #[] #[]] w (ListPost w0 w R 9 1 (fun x : ByteArray => [Value.string x]) (gList gName st)) := by
  obtain ⟨i0, hi, hz0, hz1, hz2⟩ := info_parts infoS
  have HI := Lib.hid (And.intro hi (And.intro hz0 (And.intro hz1 hz2)))
  clear hi hz0 hz1 hz2
  have hRw := hr.lt
  have hold := hr.old
  have hsz := hr.below.size
  have HR := Lib.hid hr
  clear hr
  have hlen : ∀ x : ByteArray, ((fun x : ByteArray => [Value.string x]) x).length = 1 := fun x => rfl
  have HW := Lib.hid (gWord_le HR.out.bytes)
  go_enter Tryz.func228, Tryz.ntmps228
  go_wp2_with fail
  refine (getWord_any R st w0 _ HR.out).mono ?_
  rintro e w1 ⟨rfl, hr1, hg1⟩
  by_cases h6 : 6 < (gWord st).1
  · obtain ⟨_, c1, _, f1⟩ := hr1.cells
    go_wp2
    go_ret
    refine ⟨_, rfl, ?_, ?_, ?_⟩
    · unfold gList; rw [if_pos h6]; exact World.ownsRow_nil _ _ _ _
    · unfold gList; rw [if_pos h6]; exact hr1.setBad
    · exact grown_trans hg1 (grown_set _ _ _ _)
  · have hg0 : gList gName st = gMany gName (gWord st).1.toNat (gWord st).2 := by unfold gList; rw [if_neg h6]
    have HG0 := Lib.hid hg0
    have hm : ∃ m : Nat, (gWord st).1 = (m : Int) ∧ m ≤ 6 := ⟨(gWord st).1.toNat, by have := HW.out.1; omega, by have := HW.out.1; omega⟩
    obtain ⟨m, hm1, hm2⟩ := hm
    rw [hm1] at h6
    rw [hm1]
    have HM := Lib.hid hm1
    have hs1 := hg1.size
    have f1 := (Fr.refl w.heap.size R w).grown (Nat.le_refl _) hg1
    have H1 := Lib.hid (And.intro hr1 f1)
    clear hm1 hg0 hr1 hg1 f1 h6
    go_wp2
    go_loopw [6, 15] (fun u i wr => ∃ k : Nat, k ≤ m ∧ i = .int .u64 k ∧ ∃ (l : List ByteArray) (s : RS), Hid (l.length = k) ∧ wr.ownsRow w.heap.size 9 1 u k (l.flatMap (fun x : ByteArray => [Value.string x])) ∧ Rd w0 wr R s.1 s.2 ∧ Fr w.heap.size R w wr
        ∧ Hid (gMany gName m (gWord st).2 = (l ++ (gMany gName (m - k) s).1, (gMany gName (m - k) s).2))) (fun _ i _ => m - (intOf i).toNat)
    case atStart => exact ⟨0, Nat.zero_le _, rfl, [], (gWord st).2, rfl, World.ownsRow_nil _ _ _ _, H1.out.1, H1.out.2, rfl⟩
    case round =>
      obtain ⟨k, hk, rfl, l, s, hl, hown, hrd, hfr, hmany⟩ := hrel
      by_cases hlt : k < m
      · have hfs := hfr.size
        go_wp2_with fail
        refine Calls.mono (getName_any R s w0 _ hrd) ?_
        rintro e w2 ⟨rfl, hr2, hg2⟩
        have hs2 := hg2.size
        have hown2 := hown.kept hg2 (Or.inr (fun e => by have := (hown.lt R e).1; omega))
        have hfr2 := hfr.grown (by omega) hg2
        have hl1 : k + 1 ≤ maxLen := by unfold maxLen; omega
        have hl2 : (k + 1) * 16 ≤ 140737488355328 := by omega
        have hB2 : w.heap.size ≤ w2.heap.size + 1 := by omega
        clear hrd hown hfr hg2
        go_wp2_with (at_builtin; refine wpList_append_own _ rfl (.tmp 17) (.tmp 21) 88 rfl w.heap.size 9 i0 (.string ⟨#[]⟩) 1 16 Tryz.underlying88 HI.out.1 HI.out.2.1 HI.out.2.2.1 HI.out.2.2.2 rfl (by decide) _ k (l.flatMap (fun x : ByteArray => [Value.string x])) rfl (hown2.alloc _) ⟨w2.heap.size, 0, none⟩ 1 1 ((fun x : ByteArray => [Value.string x]) (gName s).1) rfl (hlen _) (new_cells _ _ _) (by simp [Value.oneCell']) hl1 hl2 (by simp; exact hB2) ?_; intro v' w3 hown' hgrow hnil)
        go_roundw
        case rel =>
          have hN : ∀ j, (Value.ownBlock _) = some j → w.heap.size ≤ j := fun j hj => (hown2.lt j hj).1
          have hfr3 := (hfr2.alloc (by omega) _).own (by simp; omega) hgrow hN
          refine ⟨k + 1, by omega, by go_num, l ++ [(gName s).1], (gName s).2, by show _ = _; simp [hl.out], by simpa using hown', ?_, hfr3, ?_⟩
          · exact rd_own (hr2.alloc _) hgrow (fun j hj => by have := hN j hj; omega) (fun j hj => by have := hN j hj; omega)
          · show _ = _
            rw [hmany.out, show m - k = (m - (k + 1)) + 1 by omega]
            simp [gMany]
        case measure => simp [intOf]; omega
      · obtain rfl : k = m := by omega
        go_wp2
        go_ret
        have hmm := hmany.out
        rw [Nat.sub_self] at hmm
        have hg : gList gName st = (l, s) := by rw [HG0.out, HM.out, Int.toNat_natCast, hmm]; simp [gMany]
        refine ⟨_, rfl, ?_, ?_, hfr.out⟩
        · rw [hg, hl.out]; exact hown
        · rw [hg]; exact hrd

theorem infoP : (Tryz.prog.info? 230).map (fun i => (i.zero, i.size, i.bytes)) = some (some (.agg #[.string ⟨#[]⟩, .string ⟨#[]⟩]), 2, 32) := by kernel_rfl
set_option maxRecDepth 100000 in
set_option maxHeartbeats 1000000 in
theorem getListP_any (R : Nat) (st : RS) (w0 w : World) (hr : Rd w0 w R st.1 st.2) :
    Calls Tryz.prog 188 #[.pointer (some ⟨R, 0, none⟩), .func (.func 189) #[] #[]] w (ListPost w0 w R 230 2 (fun x : Str2 => [Value.string x.1, Value.string x.2]) (gList gPair st)) := by
  obtain ⟨i0, hi, hz0, hz1, hz2⟩ := info_parts infoP
  have HI := Lib.hid (And.intro hi (And.intro hz0 (And.intro hz1 hz2)))
  clear hi hz0 hz1 hz2
  have hRw := hr.lt
  have hold := hr.old
  have hsz := hr.below.size
  have HR := Lib.hid hr
  clear hr
  have hlen : ∀ x : Str2, ((fun x : Str2 => [Value.string x.1, Value.string x.2]) x).length = 2 := fun x => rfl
  have HW := Lib.hid (gWord_le HR.out.bytes)
  go_enter Tryz.func188, Tryz.ntmps188
  go_wp2_with fail
  refine (getWord_any R st w0 _ HR.out).mono ?_
  rintro e w1 ⟨rfl, hr1, hg1⟩
  by_cases h6 : 6 < (gWord st).1
  · obtain ⟨_, c1, _, f1⟩ := hr1.cells
    go_wp2
    go_ret
    refine ⟨_, rfl, ?_, ?_, ?_⟩
    · unfold gList; rw [if_pos h6]; exact World.ownsRow_nil _ _ _ _
    · unfold gList; rw [if_pos h6]; exact hr1.setBad
    · exact grown_trans hg1 (grown_set _ _ _ _)
  · have hg0 : gList gPair st = gMany gPair (gWord st).1.toNat (gWord st).2 := by unfold gList; rw [if_neg h6]
    have HG0 := Lib.hid hg0
    have hm : ∃ m : Nat, (gWord st).1 = (m : Int) ∧ m ≤ 6 := ⟨(gWord st).1.toNat, by have := HW.out.1; omega, by have := HW.out.1; omega⟩
    obtain ⟨m, hm1, hm2⟩ := hm
    rw [hm1] at h6
    rw [hm1]
    have HM := Lib.hid hm1
    have hs1 := hg1.size
    have f1 := (Fr.refl w.heap.size R w).grown (Nat.le_refl _) hg1
    have H1 := Lib.hid (And.intro hr1 f1)
    clear hm1 hg0 hr1 hg1 f1 h6
    go_wp2
    go_loopw [6, 15] (fun u i wr => ∃ k : Nat, k ≤ m ∧ i = .int .u64 k ∧ ∃ (l : List Str2) (s : RS), Hid (l.length = k) ∧ wr.ownsRow w.heap.size 230 2 u k (l.flatMap (fun x : Str2 => [Value.string x.1, Value.string x.2])) ∧ Rd w0 wr R s.1 s.2 ∧ Fr w.heap.size R w wr
        ∧ Hid (gMany gPair m (gWord st).2 = (l ++ (gMany gPair (m - k) s).1, (gMany gPair (m - k) s).2))) (fun _ i _ => m - (intOf i).toNat)
    case atStart => exact ⟨0, Nat.zero_le _, rfl, [], (gWord st).2, rfl, World.ownsRow_nil _ _ _ _, H1.out.1, H1.out.2, rfl⟩
    case round =>
      obtain ⟨k, hk, rfl, l, s, hl, hown, hrd, hfr, hmany⟩ := hrel
      by_cases hlt : k < m
      · have hfs := hfr.size
        go_wp2_with fail
        refine Calls.mono (getPair_any R s w0 _ hrd) ?_
        rintro e w2 ⟨rfl, hr2, hg2⟩
        have hs2 := hg2.size
        have hown2 := hown.kept hg2 (Or.inr (fun e => by have := (hown.lt R e).1; omega))
        have hfr2 := hfr.grown (by omega) hg2
        have hl1 : k + 1 ≤ maxLen := by unfold maxLen; omega
        have hl2 : (k + 1) * 32 ≤ 140737488355328 := by omega
        have hB2 : w.heap.size ≤ w2.heap.size + 1 := by omega
        clear hrd hown hfr hg2
        go_wp2_with (at_builtin; refine wpList_append_own _ rfl (.tmp 17) (.tmp 21) 213 rfl w.heap.size 230 i0 (.agg #[.string ⟨#[]⟩, .string ⟨#[]⟩]) 2 32 Tryz.underlying213 HI.out.1 HI.out.2.1 HI.out.2.2.1 HI.out.2.2.2 rfl (by decide) _ k (l.flatMap (fun x : Str2 => [Value.string x.1, Value.string x.2])) rfl (hown2.alloc _) ⟨w2.heap.size, 0, none⟩ 1 1 ((fun x : Str2 => [Value.string x.1, Value.string x.2]) (gPair s).1) rfl (hlen _) (new_cells _ _ _) (by simp [Value.oneCell']) hl1 hl2 (by simp; exact hB2) ?_; intro v' w3 hown' hgrow hnil)
        go_roundw
        case rel =>
          have hN : ∀ j, (Value.ownBlock _) = some j → w.heap.size ≤ j := fun j hj => (hown2.lt j hj).1
          have hfr3 := (hfr2.alloc (by omega) _).own (by simp; omega) hgrow hN
          refine ⟨k + 1, by omega, by go_num, l ++ [(gPair s).1], (gPair s).2, by show _ = _; simp [hl.out], by simpa using hown', ?_, hfr3, ?_⟩
          · exact rd_own (hr2.alloc _) hgrow (fun j hj => by have := hN j hj; omega) (fun j hj => by have := hN j hj; omega)
          · show _ = _
            rw [hmany.out, show m - k = (m - (k + 1)) + 1 by omega]
            simp [gMany]
        case measure => simp [intOf]; omega
      · obtain rfl : k = m := by omega
        go_wp2
        go_ret
        have hmm := hmany.out
        rw [Nat.sub_self] at hmm
        have hg : gList gPair st = (l, s) := by rw [HG0.out, HM.out, Int.toNat_natCast, hmm]; simp [gMany]
        refine ⟨_, rfl, ?_, ?_, hfr.out⟩
        · rw [hg, hl.out]; exact hown
        · rw [hg]; exact hrd


theorem infoL : (Tryz.prog.info? 246).map (fun i => (i.zero, i.size, i.bytes)) = some (some (.agg #[.string ⟨#[]⟩, .string ⟨#[]⟩, .bool false]), 3, 40) := by kernel_rfl
set_option maxRecDepth 100000 in
set_option maxHeartbeats 1000000 in
theorem getListL_any (R : Nat) (st : RS) (w0 w : World) (hr : Rd w0 w R st.1 st.2) :
    Calls Tryz.prog 192 #[.pointer (some ⟨R, 0, none⟩), .func (.func 193) #[] #[]] w (ListPost w0 w R 246 3 (fun x : Tol => [Value.string x.1, Value.string x.2.1, Value.bool x.2.2]) (gList gToler st)) := by
  obtain ⟨i0, hi, hz0, hz1, hz2⟩ := info_parts infoL
  have HI := Lib.hid (And.intro hi (And.intro hz0 (And.intro hz1 hz2)))
  clear hi hz0 hz1 hz2
  have hRw := hr.lt
  have hold := hr.old
  have hsz := hr.below.size
  have HR := Lib.hid hr
  clear hr
  have hlen : ∀ x : Tol, ((fun x : Tol => [Value.string x.1, Value.string x.2.1, Value.bool x.2.2]) x).length = 3 := fun x => rfl
  have HW := Lib.hid (gWord_le HR.out.bytes)
  go_enter Tryz.func192, Tryz.ntmps192
  go_wp2_with fail
  refine (getWord_any R st w0 _ HR.out).mono ?_
  rintro e w1 ⟨rfl, hr1, hg1⟩
  by_cases h6 : 6 < (gWord st).1
  · obtain ⟨_, c1, _, f1⟩ := hr1.cells
    go_wp2
    go_ret
    refine ⟨_, rfl, ?_, ?_, ?_⟩
    · unfold gList; rw [if_pos h6]; exact World.ownsRow_nil _ _ _ _
    · unfold gList; rw [if_pos h6]; exact hr1.setBad
    · exact grown_trans hg1 (grown_set _ _ _ _)
  · have hg0 : gList gToler st = gMany gToler (gWord st).1.toNat (gWord st).2 := by unfold gList; rw [if_neg h6]
    have HG0 := Lib.hid hg0
    have hm : ∃ m : Nat, (gWord st).1 = (m : Int) ∧ m ≤ 6 := ⟨(gWord st).1.toNat, by have := HW.out.1; omega, by have := HW.out.1; omega⟩
    obtain ⟨m, hm1, hm2⟩ := hm
    rw [hm1] at h6
    rw [hm1]
    have HM := Lib.hid hm1
    have hs1 := hg1.size
    have f1 := (Fr.refl w.heap.size R w).grown (Nat.le_refl _) hg1
    have H1 := Lib.hid (And.intro hr1 f1)
    clear hm1 hg0 hr1 hg1 f1 h6
    go_wp2
    go_loopw [6, 15] (fun u i wr => ∃ k : Nat, k ≤ m ∧ i = .int .u64 k ∧ ∃ (l : List Tol) (s : RS), Hid (l.length = k) ∧ wr.ownsRow w.heap.size 246 3 u k (l.flatMap (fun x : Tol => [Value.string x.1, Value.string x.2.1, Value.bool x.2.2])) ∧ Rd w0 wr R s.1 s.2 ∧ Fr w.heap.size R w wr
        ∧ Hid (gMany gToler m (gWord st).2 = (l ++ (gMany gToler (m - k) s).1, (gMany gToler (m - k) s).2))) (fun _ i _ => m - (intOf i).toNat)
    case atStart => exact ⟨0, Nat.zero_le _, rfl, [], (gWord st).2, rfl, World.ownsRow_nil _ _ _ _, H1.out.1, H1.out.2, rfl⟩
    case round =>
      obtain ⟨k, hk, rfl, l, s, hl, hown, hrd, hfr, hmany⟩ := hrel
      by_cases hlt : k < m
      · have hfs := hfr.size
        go_wp2_with fail
        refine Calls.mono (getToler_any R s w0 _ hrd) ?_
        rintro e w2 ⟨rfl, hr2, hg2⟩
        have hs2 := hg2.size
        have hown2 := hown.kept hg2 (Or.inr (fun e => by have := (hown.lt R e).1; omega))
        have hfr2 := hfr.grown (by omega) hg2
        have hl1 : k + 1 ≤ maxLen := by unfold maxLen; omega
        have hl2 : (k + 1) * 40 ≤ 140737488355328 := by omega
        have hB2 : w.heap.size ≤ w2.heap.size + 1 := by omega
        clear hrd hown hfr hg2
        go_wp2_with (at_builtin; refine wpList_append_own _ rfl (.tmp 17) (.tmp 21) 215 rfl w.heap.size 246 i0 (.agg #[.string ⟨#[]⟩, .string ⟨#[]⟩, .bool false]) 3 40 Tryz.underlying215 HI.out.1 HI.out.2.1 HI.out.2.2.1 HI.out.2.2.2 rfl (by decide) _ k (l.flatMap (fun x : Tol => [Value.string x.1, Value.string x.2.1, Value.bool x.2.2])) rfl (hown2.alloc _) ⟨w2.heap.size, 0, none⟩ 1 1 ((fun x : Tol => [Value.string x.1, Value.string x.2.1, Value.bool x.2.2]) (gToler s).1) rfl (hlen _) (new_cells _ _ _) (by simp [Value.oneCell']) hl1 hl2 (by simp; exact hB2) ?_; intro v' w3 hown' hgrow hnil)
        go_roundw
        case rel =>
          have hN : ∀ j, (Value.ownBlock _) = some j → w.heap.size ≤ j := fun j hj => (hown2.lt j hj).1
          have hfr3 := (hfr2.alloc (by omega) _).own (by simp; omega) hgrow hN
          refine ⟨k + 1, by omega, by go_num, l ++ [(gToler s).1], (gToler s).2, by show _ = _; simp [hl.out], by simpa using hown', ?_, hfr3, ?_⟩
          · exact rd_own (hr2.alloc _) hgrow (fun j hj => by have := hN j hj; omega) (fun j hj => by have := hN j hj; omega)
          · show _ = _
            rw [hmany.out, show m - k = (m - (k + 1)) + 1 by omega]
            simp [gMany]
        case measure => simp [intOf]; omega
      · obtain rfl : k = m := by omega
        go_wp2
        go_ret
        have hmm := hmany.out
        rw [Nat.sub_self] at hmm
        have hg : gList gToler st = (l, s) := by rw [HG0.out, HM.out, Int.toNat_natCast, hmm]; simp [gMany]
        refine ⟨_, rfl, ?_, ?_, hfr.out⟩
        · rw [hg, hl.out]; exact hown
        · rw [hg]; exact hrd
end Go.Proofs.YtaleceobkbgcnaaGreat
namespace Go.Proofs.YtaleceobkbgcnaaGreat
open Go.RowKit

def gTerm (st : RS) : Trm × RS :=
  let a := gName st
  let b := gNum a.2
  let c := gList gName b.2
  (⟨a.1, b.1, c.1⟩, c.2)
abbrev strCells (l : List ByteArray) : List Value := l.flatMap (fun x : ByteArray => [Value.string x])
/-- What a call that reads a term tells: its Vals lie in new memory. -/
def TermPost (w0 w : World) (R : Nat) (g : Trm × RS) (e : Ending) (w' : World) : Prop :=
  ∃ a cap, e = .returned (trm g.1.key g.1.kind a g.1.vals.length cap) ∧ w'.ownsRow w.heap.size 9 1 (.slice a g.1.vals.length cap) g.1.vals.length (strCells g.1.vals) ∧ Rd w0 w' R g.2.1 g.2.2 ∧ w.grownBy w' (some R)
theorem owns_form {w : World} {base : Nat} {e : TypeId} {size : Nat} {v : Value} {n : Nat} {xs : List Value} (h : w.ownsRow base e size v n xs) : ∃ a cap, v = .slice a n cap := by
  rcases h.2 with ⟨rfl, rfl⟩ | ⟨g, cap, cur, rfl, _⟩
  · exact ⟨none, 0, rfl⟩
  · exact ⟨_, cap, rfl⟩

/-- Block A holds cells of type t. -/
def HasTy (w : World) (A : Nat) (t : TypeId) : Prop := ∃ cs fr, w.heap[A]? = some (.cells cs t fr)
theorem HasTy.set {w : World} {A : Nat} {t : TypeId} (h : HasTy w A t) (B j : Nat) (v : Value) : HasTy (w.setCell ⟨B, j, none⟩ v) A t := by
  obtain ⟨cs, fr, h⟩ := h
  by_cases e : A = B
  · subst e; exact ⟨_, fr, obj_setN h rfl⟩
  · exact ⟨cs, fr, by rw [Below.heap_setCell _ _ _ _ e]; exact h⟩
theorem own_ne {w : World} {base : Nat} {e t : TypeId} {size : Nat} {v : Value} {n : Nat} {xs : List Value} {A : Nat} (h : w.ownsRow base e size v n xs) (hA : HasTy w A t) (hne : t ≠ e) : v.ownBlock ≠ some A := by
  intro hb
  obtain ⟨cs, fr, hA⟩ := hA
  rcases h.2 with ⟨rfl, _⟩ | ⟨g, cap, cur, rfl, _, hg, _⟩
  · simp [Value.ownBlock] at hb
  · simp [Value.ownBlock] at hb
    subst hb
    rw [hA] at hg
    simp at hg
    exact hne hg.2.1
theorem own_set {w : World} {base : Nat} {e t : TypeId} {size : Nat} {v : Value} {n : Nat} {xs : List Value} {A j : Nat} {u : Value} (h : w.ownsRow base e size v n xs) (hA : HasTy w A t) (hne : t ≠ e) : (w.setCell ⟨A, j, none⟩ u).ownsRow base e size v n xs :=
  h.kept (grown_set w A j u) (Or.inr (own_ne h hA hne))

set_option maxRecDepth 100000 in
set_option maxHeartbeats 1000000 in
theorem getTerm_any (R : Nat) (st : RS) (w0 w : World) (hr : Rd w0 w R st.1 st.2) :
    Calls Tryz.prog 191 #[.pointer (some ⟨R, 0, none⟩)] w (TermPost w0 w R (gTerm st)) := by
  have hRw := hr.lt
  have hold := hr.old
  have hsz := hr.below.size
  have HR := Lib.hid hr
  clear hr
  go_enter Tryz.func191, Tryz.ntmps191
  have H := Lib.hid (And.intro (((Fr.refl w.heap.size R w).alloc (Nat.le_refl _) (.cells #[.string ⟨#[]⟩, .int .i64 0, .slice none 0 0] 244)).alloc (by simp) (.cells #[.string ⟨#[]⟩, .int .i64 0, .slice none 0 0] 244)) (And.intro ((HR.out.alloc (.cells #[.string ⟨#[]⟩, .int .i64 0, .slice none 0 0] 244)).alloc (.cells #[.string ⟨#[]⟩, .int .i64 0, .slice none 0 0] 244)) (And.intro (alloc2_first w (.cells #[.string ⟨#[]⟩, .int .i64 0, .slice none 0 0] 244) (.cells #[.string ⟨#[]⟩, .int .i64 0, .slice none 0 0] 244)) (alloc2_second w (.cells #[.string ⟨#[]⟩, .int .i64 0, .slice none 0 0] 244) (.cells #[.string ⟨#[]⟩, .int .i64 0, .slice none 0 0] 244)))))
  go_wp2_with fail
  try clear cB fB
  refine Calls.mono (getName_any R st w0 _ H.out.2.1) ?_
  rintro e w1 ⟨rfl, hr1, hg1⟩
  have hz1 := hg1.size
  simp at hz1
  have kA := (hg1.block w.heap.size (by simp <;> omega) (fun e => by cases e; omega)).trans H.out.2.2.1
  have kB := (hg1.block (w.heap.size + 1) (by simp <;> omega) (fun e => by cases e; omega)).trans H.out.2.2.2
  have fr := (H.out.1.grown (by simp <;> omega) hg1).set (A := w.heap.size + 1) (by omega) 0 (.string (gName st).1)
  have rr := hr1.grown (grown_set w1 (w.heap.size + 1) 0 (.string (gName st).1)) (by omega) (by omega)
  have kA' := (Below.heap_setCell w1 ⟨w.heap.size + 1, 0, none⟩ (.string (gName st).1) w.heap.size (by simp)).trans kA
  have kB' := obj_setN (j := 0) (v := (.string (gName st).1)) kB rfl
  simp at kB'
  have cB := cell_of_obj kB 0
  have fB := free_of_obj kB 0
  simp at cB
  clear H
  have H := Lib.hid (And.intro fr (And.intro rr (And.intro kA' kB')))
  clear kA kB fr rr kA' kB' hr1 hg1
  go_wp2_with fail
  try clear cB fB
  refine Calls.mono (getNumI_any R (gName st).2 w0 _ H.out.2.1) ?_
  rintro e w2 ⟨rfl, hr2, hg2⟩
  have hz2 := hg2.size
  simp at hz2
  have kA := (hg2.block w.heap.size (by simp <;> omega) (fun e => by cases e; omega)).trans H.out.2.2.1
  have kB := (hg2.block (w.heap.size + 1) (by simp <;> omega) (fun e => by cases e; omega)).trans H.out.2.2.2
  have fr := (H.out.1.grown (by simp <;> omega) hg2).set (A := w.heap.size + 1) (by omega) 1 (.int .i64 (gNum (gName st).2).1)
  have rr := hr2.grown (grown_set w2 (w.heap.size + 1) 1 (.int .i64 (gNum (gName st).2).1)) (by omega) (by omega)
  have kA' := (Below.heap_setCell w2 ⟨w.heap.size + 1, 1, none⟩ (.int .i64 (gNum (gName st).2).1) w.heap.size (by simp)).trans kA
  have kB' := obj_setN (j := 1) (v := (.int .i64 (gNum (gName st).2).1)) kB rfl
  simp at kB'
  have cB := cell_of_obj kB 1
  have fB := free_of_obj kB 1
  simp at cB
  clear H
  have H := Lib.hid (And.intro fr (And.intro rr (And.intro kA' kB')))
  clear kA kB fr rr kA' kB' hr2 hg2
  go_wp2_with fail
  clear cB fB
  refine (getListS_any R (gNum (gName st).2).2 w0 _ H.out.2.1).mono ?_
  rintro e w3 ⟨v, rfl, hown, hr3, hg3⟩
  obtain ⟨a, cap, rfl⟩ := owns_form hown
  have hz3 := hg3.size
  simp at hz3
  have kA := (hg3.block w.heap.size (by simp <;> omega) (fun e => by cases e; omega)).trans H.out.2.2.1
  have kB := (hg3.block (w.heap.size + 1) (by simp <;> omega) (fun e => by cases e; omega)).trans H.out.2.2.2
  have f2 := H.out.1.grown (by simp <;> omega) hg3
  have cA0 := cell_of_obj kA 0
  have cA1 := cell_of_obj kA 1
  have cA2 := cell_of_obj kA 2
  have fA0 := free_of_obj kA 0
  have fA1 := free_of_obj kA 1
  have fA2 := free_of_obj kA 2
  have cB0 := cell_of_obj kB 0
  have cB1 := cell_of_obj kB 1
  have cB2 := cell_of_obj kB 2
  have fB2 := free_of_obj kB 2
  simp at cA0 cA1 cA2 cB0 cB1 cB2
  have H2 := Lib.hid (And.intro f2 (And.intro hr3 (And.intro kA (And.intro kB hown))))
  clear hr3 hg3 kA kB f2 H hown
  go_wp2
  refine bodyPost_ret (v := trm (gTerm st).1.key (gTerm st).1.kind a (gTerm st).1.vals.length cap) (by simp [results, Tryz.results191, go_sem, cA0, cA1, cA2, gTerm]) rfl ⟨a, cap, rfl, ?_, ?_, ?_⟩
  · have ho := H2.out.2.2.2.2.mono (base' := w.heap.size) (by simp <;> omega)
    have tA : HasTy w3 w.heap.size 244 := ⟨_, _, H2.out.2.2.1⟩
    have tB : HasTy w3 (w.heap.size + 1) 244 := ⟨_, _, H2.out.2.2.2.1⟩
    have s1 := own_set (u := .slice a (gTerm st).1.vals.length cap) (j := 2) ho tB (by decide)
    have t1 := tA.set (w.heap.size + 1) 2 (.slice a (gTerm st).1.vals.length cap)
    have s2 := own_set (u := .string (gTerm st).1.key) (j := 0) s1 t1 (by decide)
    have t2 := t1.set w.heap.size 0 (.string (gTerm st).1.key)
    have s3 := own_set (u := .int .i64 (gTerm st).1.kind) (j := 1) s2 t2 (by decide)
    have t3 := t2.set w.heap.size 1 (.int .i64 (gTerm st).1.kind)
    exact own_set (u := .slice a (gTerm st).1.vals.length cap) (j := 2) s3 t3 (by decide)
  · exact (((H2.out.2.1.grown (grown_set _ _ _ _) (by omega) (by omega)).grown (grown_set _ _ _ _) (by omega) (by omega)).grown (grown_set _ _ _ _) (by omega) (by omega)).grown (grown_set _ _ _ _) (by omega) (by omega)
  · exact ((((H2.out.1.set (A := w.heap.size + 1) (by omega) _ _).set (A := w.heap.size) (Nat.le_refl _) _ _).set (A := w.heap.size) (Nat.le_refl _) _ _).set (A := w.heap.size) (Nat.le_refl _) _ _).out
end Go.Proofs.YtaleceobkbgcnaaGreat
namespace Go.Proofs.YtaleceobkbgcnaaGreat
open Go.RowKit

/-- A term, and where its Vals lie. -/
abbrev TrmH := Trm × Option Addr × Nat
def cellsT (x : TrmH) : List Value := [.string x.1.key, .int .i64 x.1.kind, .slice x.2.1 x.1.vals.length x.2.2]
def OwnV (w : World) (N : Nat) (x : TrmH) : Prop := w.ownsRow N 9 1 (.slice x.2.1 x.1.vals.length x.2.2) x.1.vals.length (strCells x.1.vals)
theorem own_apart {w : World} {b b' : Nat} {e e' : TypeId} {s s' : Nat} {v v' : Value} {n n' : Nat} {xs xs' : List Value} (h : w.ownsRow b e s v n xs) (h' : w.ownsRow b' e' s' v' n' xs') (hne : e' ≠ e) : v.ownBlock = none ∨ v.ownBlock ≠ v'.ownBlock := by
  cases hb : v.ownBlock with
  | none => exact Or.inl rfl
  | some A =>
    refine Or.inr fun hc => ?_
    rcases h'.2 with ⟨rfl, _⟩ | ⟨g, cap, cur, rfl, _, hg, _⟩
    · simp [Value.ownBlock] at hc
    · simp [Value.ownBlock] at hc
      subst hc
      exact own_ne h ⟨_, _, hg⟩ hne hb
/-- What a call that reads terms tells. -/
def TermsPost (w0 w : World) (R : Nat) (g : List Trm × RS) (e : Ending) (w' : World) : Prop :=
  ∃ (v : Value) (l : List TrmH), e = .returned v ∧ l.map (·.1) = g.1 ∧ w'.ownsRow w.heap.size 244 3 v l.length (l.flatMap cellsT) ∧ (∀ x ∈ l, OwnV w' w.heap.size x) ∧ Rd w0 w' R g.2.1 g.2.2 ∧ w.grownBy w' (some R)

theorem infoT : (Tryz.prog.info? 244).map (fun i => (i.zero, i.size, i.bytes)) = some (some (.agg #[.string ⟨#[]⟩, .int .i64 0, .slice none 0 0]), 3, 48) := by kernel_rfl

set_option maxRecDepth 100000 in
set_option maxHeartbeats 1000000 in
theorem getListT_any (R : Nat) (st : RS) (w0 w : World) (hr : Rd w0 w R st.1 st.2) :
    Calls Tryz.prog 190 #[.pointer (some ⟨R, 0, none⟩), .func (.func 191) #[] #[]] w (TermsPost w0 w R (gList gTerm st)) := by
  obtain ⟨i0, hi, hz0, hz1, hz2⟩ := info_parts infoT
  have HI := Lib.hid (And.intro hi (And.intro hz0 (And.intro hz1 hz2)))
  clear hi hz0 hz1 hz2
  have hRw := hr.lt
  have hold := hr.old
  have hsz := hr.below.size
  have HR := Lib.hid hr
  clear hr
  have hlen : ∀ x : TrmH, (cellsT x).length = 3 := fun x => rfl
  have HW := Lib.hid (gWord_le HR.out.bytes)
  go_enter Tryz.func190, Tryz.ntmps190
  go_wp2_with fail
  refine (getWord_any R st w0 _ HR.out).mono ?_
  rintro e w1 ⟨rfl, hr1, hg1⟩
  by_cases h6 : 6 < (gWord st).1
  · obtain ⟨_, c1, _, f1⟩ := hr1.cells
    go_wp2
    go_ret
    refine ⟨_, [], rfl, ?_, World.ownsRow_nil _ _ _ _, fun x hx => by simp at hx, ?_, ?_⟩
    · unfold gList; rw [if_pos h6]; rfl
    · unfold gList; rw [if_pos h6]; exact hr1.setBad
    · exact grown_trans hg1 (grown_set _ _ _ _)
  · have hg0 : gList gTerm st = gMany gTerm (gWord st).1.toNat (gWord st).2 := by unfold gList; rw [if_neg h6]
    have HG0 := Lib.hid hg0
    have hm : ∃ m : Nat, (gWord st).1 = (m : Int) ∧ m ≤ 6 := ⟨(gWord st).1.toNat, by have := HW.out.1; omega, by have := HW.out.1; omega⟩
    obtain ⟨m, hm1, hm2⟩ := hm
    rw [hm1] at h6
    rw [hm1]
    have HM := Lib.hid hm1
    have hs1 := hg1.size
    have f1 := (Fr.refl w.heap.size R w).grown (Nat.le_refl _) hg1
    have H1 := Lib.hid (And.intro hr1 f1)
    clear hm1 hg0 hr1 hg1 f1 h6
    go_wp2
    go_loopw [6, 15] (fun u i wr => ∃ k : Nat, k ≤ m ∧ i = .int .u64 k ∧ ∃ (l : List TrmH) (s : RS), Hid (l.length = k) ∧ wr.ownsRow w.heap.size 244 3 u k (l.flatMap cellsT) ∧ Hid (∀ x ∈ l, OwnV wr w.heap.size x) ∧ Rd w0 wr R s.1 s.2 ∧ Fr w.heap.size R w wr
        ∧ Hid (gMany gTerm m (gWord st).2 = (l.map (·.1) ++ (gMany gTerm (m - k) s).1, (gMany gTerm (m - k) s).2))) (fun _ i _ => m - (intOf i).toNat)
    case atStart => exact ⟨0, Nat.zero_le _, rfl, [], (gWord st).2, rfl, World.ownsRow_nil _ _ _ _, fun x hx => by simp at hx, H1.out.1, H1.out.2, rfl⟩
    case round =>
      obtain ⟨k, hk, rfl, l, s, hl, hown, hall, hrd, hfr, hmany⟩ := hrel
      by_cases hlt : k < m
      · have hfs := hfr.size
        go_wp2_with fail
        refine (getTerm_any R s w0 _ hrd).mono ?_
        rintro e w2 ⟨a, cap, rfl, hov, hr2, hg2⟩
        have hs2 := hg2.size
        have hown2 := hown.kept hg2 (Or.inr (fun e => by have := (hown.lt R e).1; omega))
        have hall2 : Hid (∀ x ∈ l, OwnV w2 w.heap.size x) := fun x hx => (hall.out x hx).kept hg2 (Or.inr (fun e => by have := ((hall.out x hx).lt R e).1; omega))
        have hov2 : OwnV w2 w.heap.size ((gTerm s).1, a, cap) := hov.mono (by omega)
        have HV := Lib.hid hov2
        have hfr2 := hfr.grown (by omega) hg2
        have hl1 : k + 1 ≤ maxLen := by unfold maxLen; omega
        have hl2 : (k + 1) * 48 ≤ 140737488355328 := by omega
        have hB2 : w.heap.size ≤ w2.heap.size + 1 := by omega
        clear hrd hown hfr hg2 hov hov2 hall
        go_wp2_with (at_builtin; refine wpList_append_own _ rfl (.tmp 17) (.tmp 21) 214 rfl w.heap.size 244 i0 (.agg #[.string ⟨#[]⟩, .int .i64 0, .slice none 0 0]) 3 48 Tryz.underlying214 HI.out.1 HI.out.2.1 HI.out.2.2.1 HI.out.2.2.2 rfl (by decide) _ k (l.flatMap cellsT) rfl (hown2.alloc _) ⟨w2.heap.size, 0, none⟩ 1 1 (cellsT ((gTerm s).1, a, cap)) rfl (hlen _) (new_cells _ _ _) (by simp [cellsT, Value.oneCell']) hl1 hl2 (by simp; exact hB2) ?_; intro v' w3 hown' hgrow hnil)
        go_roundw
        case rel =>
          have hN : ∀ j, (Value.ownBlock _) = some j → w.heap.size ≤ j := fun j hj => (hown2.lt j hj).1
          have hfr3 := (hfr2.alloc (by omega) _).own (by simp; omega) hgrow hN
          refine ⟨k + 1, by omega, by go_num, l ++ [((gTerm s).1, a, cap)], (gTerm s).2, by show _ = _; simp [hl.out], by simpa using hown', ?_, ?_, hfr3, ?_⟩
          · intro x hx
            have hx2 : OwnV w2 w.heap.size x := by
              rcases List.mem_append.1 hx with h | h
              · exact hall2.out x h
              · simp at h; subst h; exact HV.out
            refine World.ownsRow.kept (World.ownsRow.alloc hx2 _) hgrow ?_
            exact own_apart hx2 hown2 (by decide)
          · exact rd_own (hr2.alloc _) hgrow (fun j hj => by have := hN j hj; omega) (fun j hj => by have := hN j hj; omega)
          · show _ = _
            rw [hmany.out, show m - k = (m - (k + 1)) + 1 by omega]
            simp [gMany]
        case measure => simp [intOf]; omega
      · obtain rfl : k = m := by omega
        go_wp2
        go_ret
        have hmm := hmany.out
        rw [Nat.sub_self] at hmm
        have hg : gList gTerm st = (l.map (·.1), s) := by rw [HG0.out, HM.out, Int.toNat_natCast, hmm]; simp [gMany]
        refine ⟨_, l, rfl, by rw [hg], ?_, hall.out, ?_, hfr.out⟩
        · rw [hl.out]; exact hown
        · rw [hg]; exact hrd
end Go.Proofs.YtaleceobkbgcnaaGreat
namespace Go.Proofs.YtaleceobkbgcnaaGreat
open Go.RowKit

def gOpen (kind : Int) (l : List Int) : RS := if (gNum (l, false)).1 = kind then (gNum (l, false)).2 else ((gNum (l, false)).2.1, true)

theorem Rd.mono {w0 w0' w : World} {R : Nat} {l : List Int} {bad : Bool} (h : Rd w0 w R l bad) (hw : w0'.heap.size = w0.heap.size) (hb : Below w0'.heap.size w0' w) (ha : ∀ a, AtB w0 a l → AtB w0' a l) : Rd w0' w R l bad := by
  obtain ⟨ho, _, a, cap, hobj, hc1, hc2, hat⟩ := h
  exact ⟨by omega, hb, a, cap, hobj, hc1, hc2, ha a hat⟩

set_option maxRecDepth 100000 in
set_option maxHeartbeats 1000000 in
theorem open_any (a : Option Addr) (l : List Int) (cap : Nat) (kind : Int) (w : World) (hat : AtB w a l) (hc1 : l.length ≤ cap) (hc2 : cap ≤ maxLen) :
    Calls Tryz.prog 182 #[.slice a l.length cap, .int .i64 kind] w fun e w' => e = .returned (.pointer (some ⟨w.heap.size, 0, none⟩)) ∧ Rd w w' w.heap.size (gOpen kind l).1 (gOpen kind l).2 ∧ Below w.heap.size w w' ∧ w.heap.size < w'.heap.size := by
  have hrd : Rd w (w.alloc (.cells #[.slice a l.length cap, .bool false] 301)) w.heap.size l false :=
    ⟨Nat.le_refl _, (Below.refl _ _).alloc (Nat.le_refl _) _, a, cap, heap_alloc_self _ _, hc1, hc2, hat⟩
  have HR := Lib.hid hrd
  clear hrd hat hc2
  go_enter Tryz.func182, Tryz.ntmps182
  go_wp2_with fail
  refine (getNumI_any w.heap.size (l, false) w _ HR.out).mono ?_
  rintro e w1 ⟨rfl, hr1, hg1⟩
  have hs1 := hg1.size
  simp at hs1
  have hb := hr1.below
  obtain ⟨_, c1, _, f1⟩ := hr1.cells
  by_cases hk : (gNum (l, false)).1 = kind
  · have hk2 : ((gNum (l, false)).1 == kind) = true := by simpa using hk
    have HK := Lib.hid hk
    clear hk
    go_wp2
    go_ret
    refine ⟨rfl, ?_, hb, by omega⟩
    unfold gOpen
    rw [if_pos HK.out]
    exact hr1
  · have hk2 : ((gNum (l, false)).1 == kind) = false := by simpa using hk
    have HK := Lib.hid hk
    clear hk
    go_wp2
    go_ret
    refine ⟨rfl, ?_, hb.trans ((Below.refl _ _).setCell (by simp) _), by simp [World.setCell]; omega⟩
    unfold gOpen
    rw [if_neg HK.out]
    exact hr1.setBad

set_option maxRecDepth 100000 in
theorem whole_any (R : Nat) (st : RS) (w0 w : World) (hr : Rd w0 w R st.1 st.2) :
    Calls Tryz.prog 194 #[.pointer (some ⟨R, 0, none⟩)] w fun e w' => e = .returned (.bool (!st.2 && decide (st.1.length = 0))) ∧ w' = w := by
  obtain ⟨⟨a, cap, c0⟩, c1, f0, f1⟩ := hr.cells
  obtain ⟨l, bad⟩ := st
  simp only at c0 c1 ⊢
  cases bad
  · go_enter Tryz.func194, Tryz.ntmps194
    go_wp2
    go_ret
    refine ⟨ret_bool ?_, rfl⟩
    cases l <;> simp <;> omega
  · go_enter Tryz.func194, Tryz.ntmps194
    go_wp2
    go_ret
    exact ⟨rfl, rfl⟩
end Go.Proofs.YtaleceobkbgcnaaGreat
