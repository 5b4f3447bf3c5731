/-
  The contracts of package code: how taints and lists of them are read. No conditions beyond what is written in each statement.
-/
import Derived.Test.YtnobgmdknalpdaaGet6
set_option linter.unusedSimpArgs false
set_option linter.unusedVariables false
namespace Go.Proofs.Ytnobgmdknalpdaa
open Go.RowKit

set_option maxRecDepth 100000 in
set_option maxHeartbeats 1000000 in
theorem getTaint_any (R : Nat) (st : RS) (w0 w : World) (hr : Rd w0 w R st.1 st.2) :
    Calls Try.prog 66 #[.pointer (some ⟨R, 0, none⟩)] w (GetPost w0 w R (str2 (gPair st).1) (gPair st).2) := by
  have hRw := hr.lt
  have hold := hr.old
  have hsz := hr.below.size
  have HR := Lib.hid hr
  clear hr
  go_enter Try.func66, Try.ntmps66
  go_wp2_with fail
  refine (getPair_any R st w0 _ (HR.out.alloc _)).mono ?_
  rintro e w1 ⟨rfl, hr1, hg1⟩
  have hz1 := hg1.size
  simp at hz1
  have kA := (hg1.block w.heap.size (by simp <;> omega) (fun e => by cases e; omega)).trans (heap_alloc_self w _)
  have f1 := ((Fr.refl w.heap.size R w).alloc (Nat.le_refl _) _).grown (by simp <;> omega) hg1
  have cA0 := cell_of_obj kA 0
  have cA1 := cell_of_obj kA 1
  have fA0 := free_of_obj kA 0
  have fA1 := free_of_obj kA 1
  simp at cA0 cA1
  have H2 := Lib.hid (And.intro f1 hr1)
  clear hr1 hg1 kA f1
  go_wp2
  refine bodyPost_ret (v := str2 (gPair st).1) (by simp [results, Try.results66, go_sem, cA0, cA1]) rfl ⟨rfl, ?_, ?_⟩
  · exact (H2.out.2.grown (grown_set _ _ _ _) (by omega) (by omega)).grown (grown_set _ _ _ _) (by omega) (by omega)
  · exact ((H2.out.1.set (A := w.heap.size) (Nat.le_refl _) _ _).set (A := w.heap.size) (Nat.le_refl _) _ _).out

theorem infoN : (Try.prog.info? 44).map (fun i => (i.zero, i.size, i.bytes)) = some (some (.agg #[.string ⟨#[]⟩, .string ⟨#[]⟩]), 2, 32) := by kernel_rfl
set_option maxRecDepth 100000 in
set_option maxHeartbeats 1000000 in
theorem getListN_any (R : Nat) (st : RS) (w0 w : World) (hr : Rd w0 w R st.1 st.2) :
    Calls Try.prog 65 #[.pointer (some ⟨R, 0, none⟩), .func (.func 66) #[] #[]] w (ListPost w0 w R 44 2 (fun x : Str2 => [Value.string x.1, Value.string x.2]) (gList gPair st)) := by
  obtain ⟨i0, hi, hz0, hz1, hz2⟩ := info_parts infoN
  have HI := Lib.hid (And.intro hi (And.intro hz0 (And.intro hz1 hz2)))
  clear hi hz0 hz1 hz2
  have hRw := hr.lt
  have hold := hr.old
  have hsz := hr.below.size
  have HR := Lib.hid hr
  clear hr
  have hlen : ∀ x : Str2, ((fun x : Str2 => [Value.string x.1, Value.string x.2]) x).length = 2 := fun x => rfl
  have HW := Lib.hid (gWord_le HR.out.bytes)
  go_enter Try.func65, Try.ntmps65
  go_wp2_with fail
  refine (getWord_any R st w0 _ HR.out).mono ?_
  rintro e w1 ⟨rfl, hr1, hg1⟩
  by_cases h6 : 6 < (gWord st).1
  · obtain ⟨_, c1, _, f1⟩ := hr1.cells
    go_wp2
    go_ret
    refine ⟨_, rfl, ?_, ?_, ?_⟩
    · unfold gList; rw [if_pos h6]; exact World.ownsRow_nil _ _ _ _
    · unfold gList; rw [if_pos h6]; exact hr1.setBad
    · exact grown_trans hg1 (grown_set _ _ _ _)
  · have hg0 : gList gPair st = gMany gPair (gWord st).1.toNat (gWord st).2 := by unfold gList; rw [if_neg h6]
    have HG0 := Lib.hid hg0
    have hm : ∃ m : Nat, (gWord st).1 = (m : Int) ∧ m ≤ 6 := ⟨(gWord st).1.toNat, by have := HW.out.1; omega, by have := HW.out.1; omega⟩
    obtain ⟨m, hm1, hm2⟩ := hm
    rw [hm1] at h6
    rw [hm1]
    have HM := Lib.hid hm1
    have hs1 := hg1.size
    have f1 := (Fr.refl w.heap.size R w).grown (Nat.le_refl _) hg1
    have H1 := Lib.hid (And.intro hr1 f1)
    clear hm1 hg0 hr1 hg1 f1 h6
    go_wp2
    go_loopw [6, 15] (fun u i wr => ∃ k : Nat, k ≤ m ∧ i = .int .u64 k ∧ ∃ (l : List Str2) (s : RS), Hid (l.length = k) ∧ wr.ownsRow w.heap.size 44 2 u k (l.flatMap (fun x : Str2 => [Value.string x.1, Value.string x.2])) ∧ Rd w0 wr R s.1 s.2 ∧ Fr w.heap.size R w wr
        ∧ Hid (gMany gPair m (gWord st).2 = (l ++ (gMany gPair (m - k) s).1, (gMany gPair (m - k) s).2))) (fun _ i _ => m - (intOf i).toNat)
    case atStart => exact ⟨0, Nat.zero_le _, rfl, [], (gWord st).2, rfl, World.ownsRow_nil _ _ _ _, H1.out.1, H1.out.2, rfl⟩
    case round =>
      obtain ⟨k, hk, rfl, l, s, hl, hown, hrd, hfr, hmany⟩ := hrel
      by_cases hlt : k < m
      · have hfs := hfr.size
        go_wp2_with fail
        refine Calls.mono (getTaint_any R s w0 _ hrd) ?_
        rintro e w2 ⟨rfl, hr2, hg2⟩
        have hs2 := hg2.size
        have hown2 := hown.kept hg2 (Or.inr (fun e => by have := (hown.lt R e).1; omega))
        have hfr2 := hfr.grown (by omega) hg2
        have hl1 : k + 1 ≤ maxLen := by unfold maxLen; omega
        have hl2 : (k + 1) * 32 ≤ 140737488355328 := by omega
        have hB2 : w.heap.size ≤ w2.heap.size + 1 := by omega
        clear hrd hown hfr hg2
        go_wp2_with (at_builtin; refine wpList_append_own _ rfl (.tmp 17) (.tmp 21) 30 rfl w.heap.size 44 i0 (.agg #[.string ⟨#[]⟩, .string ⟨#[]⟩]) 2 32 Try.underlying30 HI.out.1 HI.out.2.1 HI.out.2.2.1 HI.out.2.2.2 rfl (by decide) _ k (l.flatMap (fun x : Str2 => [Value.string x.1, Value.string x.2])) rfl (hown2.alloc _) ⟨w2.heap.size, 0, none⟩ 1 1 ((fun x : Str2 => [Value.string x.1, Value.string x.2]) (gPair s).1) rfl (hlen _) (new_cells _ _ _) (by simp [Value.oneCell']) hl1 hl2 (by simp; exact hB2) ?_; intro v' w3 hown' hgrow hnil)
        go_roundw
        case rel =>
          have hN : ∀ j, (Value.ownBlock _) = some j → w.heap.size ≤ j := fun j hj => (hown2.lt j hj).1
          have hfr3 := (hfr2.alloc (by omega) _).own (by simp; omega) hgrow hN
          refine ⟨k + 1, by omega, by go_num, l ++ [(gPair s).1], (gPair s).2, by show _ = _; simp [hl.out], by simpa using hown', ?_, hfr3, ?_⟩
          · exact rd_own (hr2.alloc _) hgrow (fun j hj => by have := hN j hj; omega) (fun j hj => by have := hN j hj; omega)
          · show _ = _
            rw [hmany.out, show m - k = (m - (k + 1)) + 1 by omega]
            simp [gMany]
        case measure => simp [intOf]; omega
      · obtain rfl : k = m := by omega
        go_wp2
        go_ret
        have hmm := hmany.out
        rw [Nat.sub_self] at hmm
        have hg : gList gPair st = (l, s) := by rw [HG0.out, HM.out, Int.toNat_natCast, hmm]; simp [gMany]
        refine ⟨_, rfl, ?_, ?_, hfr.out⟩
        · rw [hg, hl.out]; exact hown
        · rw [hg]; exact hrd
end Go.Proofs.Ytnobgmdknalpdaa
