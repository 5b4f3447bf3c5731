/-
  How answers are read: entries, events, lists of them. No conditions beyond what is written in each statement.
-/
import Derived.Test.YtaleceobkbgcnaaGreatRp3
import Derived.Test.YtaleceobkbgcnaaGreatGRpA
import Derived.Test.YtaleceobkbgcnaaGreatSto14
set_option linter.unusedSimpArgs false
set_option linter.unusedVariables false
namespace Go.Proofs.YtaleceobkbgcnaaGreat.Rp
open Go.RowKit

def tEntry (st : List Int × Bool) : EntD × (List Int × Bool) := (⟨(tText 20 st).1, (tNum (tText 20 st).2).1, (tBytes 4000 (tNum (tText 20 st).2).2).1⟩, (tBytes 4000 (tNum (tText 20 st).2).2).2)
def tEvent (st : List Int × Bool) : EvD × (List Int × Bool) := (⟨(tNum st).1, (tText 20 (tNum st).2).1, (tBytes 4000 (tText 20 (tNum st).2).2).1, (tFlag (tBytes 4000 (tText 20 (tNum st).2).2).2).1⟩, (tFlag (tBytes 4000 (tText 20 (tNum st).2).2).2).2)
theorem rest_entry (st : List Int × Bool) : Rest st (tEntry st).2 := by
  have h := rest_bytes 4000 (tNum (tText 20 st).2).2
  generalize hq : tBytes 4000 (tNum (tText 20 st).2).2 = q at h
  have e : (tEntry st).2 = q.2 := by unfold tEntry; dsimp only; rw [hq]
  rw [e]
  exact ((rest_text 20 st).trans (rest_num (tText 20 st).2)).trans h.1
theorem rest_event (st : List Int × Bool) : Rest st (tEvent st).2 := by
  unfold tEvent
  dsimp only
  have h1 := rest_num st
  generalize tNum st = a at h1 ⊢
  have h2 := rest_text 20 a.2
  generalize tText 20 a.2 = b at h2 ⊢
  have h3 := (rest_bytes 4000 b.2).1
  generalize tBytes 4000 b.2 = c at h3 ⊢
  have h4 := rest_flag c.2
  generalize tFlag c.2 = d at h4 ⊢
  exact ((h1.trans h2).trans h3).trans h4
def getEntryG (w0 w : World) (R : Nat) (st : List Int × Bool) (e : Ending) (w' : World) : Prop := ∃ a c, e = .returned (.agg #[.string (tEntry st).1.key, .int .i64 (tEntry st).1.rev, .slice a (tEntry st).1.val.length c]) ∧ ValOwn w' w.heap.size (tEntry st).1.val a c ∧ RdC w0 w' R (tEntry st).2 ∧ w.grownBy w' (some R)
def getEventG (w0 w : World) (R : Nat) (st : List Int × Bool) (e : Ending) (w' : World) : Prop := ∃ a c, e = .returned (.agg #[.int .i64 (tEvent st).1.rev, .string (tEvent st).1.key, .slice a (tEvent st).1.val.length c, .bool (tEvent st).1.gone]) ∧ ValOwn w' w.heap.size (tEvent st).1.val a c ∧ RdC w0 w' R (tEvent st).2 ∧ w.grownBy w' (some R)
set_option maxRecDepth 100000 in
set_option maxHeartbeats 2000000 in
theorem getEntry_any (R : Nat) (st : List Int × Bool) (w0 w : World) (hr : RdC w0 w R st) (hB : Byt st) : Calls Tryz.prog 105 #[.pointer (some ⟨R, 0, none⟩)] w (getEntryG w0 w R st) := by
  have hR := hr.lt
  have H0 := Lib.hid (And.intro (two_of w R (.cells #[.string ⟨#[]⟩, .int .i64 0, .slice none 0 0] 75) (.cells #[.string ⟨#[]⟩, .int .i64 0, .slice none 0 0] 75)) ((hr.alloc (.cells #[.string ⟨#[]⟩, .int .i64 0, .slice none 0 0] 75)).alloc (.cells #[.string ⟨#[]⟩, .int .i64 0, .slice none 0 0] 75)))
  have HT : Hid (tEntry st = (⟨(tText 20 st).1, (tNum (tText 20 st).2).1, (tBytes 4000 (tNum (tText 20 st).2).2).1⟩, (tBytes 4000 (tNum (tText 20 st).2).2).2)) := rfl
  have HBy := Lib.hid hB
  clear hr hB
  go_enter Tryz.func105, Tryz.ntmps105
  go_wp2_with fail
  refine (text_any R 20 st w0 _ H0.out.2 (by omega)).mono ?_
  rintro e w1 ⟨rfl, hr1, hg1⟩
  have HBn := Lib.hid (HBy.out.rest (rest_text 20 st))
  have H1 := Lib.hid (And.intro (H0.out.1.get hR hg1) hr1)
  clear H0 hr1 hg1
  generalize tText 20 st = y1 at *
  obtain ⟨k, s1⟩ := y1
  dsimp only at *
  have HB1 := Lib.hid HBn.out
  clear HBn HBy
  have c1 := cell_of_obj H1.out.1.snd 0
  simp at c1
  have f1 := free_of_obj H1.out.1.snd 0
  go_wp2_with fail
  clear c1 f1
  refine (num_any R s1 w0 _ (H1.out.2.set (by omega))).mono ?_
  rintro e w2 ⟨rfl, hr2, hg2⟩
  have HBn := Lib.hid (HB1.out.rest (rest_num s1))
  have H2 := Lib.hid (And.intro (H1.out.1.set.get hR hg2) hr2)
  clear H1 hr2 hg2
  generalize tNum s1 = y2 at *
  obtain ⟨r, s2⟩ := y2
  dsimp only at *
  have HB2 := Lib.hid HBn.out
  clear HBn HB1
  have c2 := cell_of_obj H2.out.1.snd 1
  simp at c2
  have f2 := free_of_obj H2.out.1.snd 1
  go_wp2_with fail
  clear c2 f2
  have HR3 := Lib.hid (bytes_le 4000 s2)
  have HR4 := Lib.hid (rest_bytes 4000 s2)
  refine (bytes_any R 4000 s2 w0 _ (H2.out.2.set (by omega)) (by omega) HB2.out.1 (by have := H2.out.1.size; simp [World.setCell]; omega)).mono ?_
  rintro e w3 ⟨v3, rfl, ho, hr3, hg3⟩
  have hsz := H2.out.1.size
  obtain ⟨va, vc, rfl, z1, z2, z3⟩ := own_len ho
  have HV := Lib.hid (show ValOwn w3 (w.heap.size + 2) (tBytes 4000 s2).1 va vc from ⟨World.ownsRow.mono ho (by simpa [World.setCell] using hsz), fun y hy => HB2.out.2 y (HR4.out.2 y hy)⟩)
  have HBn := Lib.hid (HB2.out.rest HR4.out.1)
  have H3 := Lib.hid (And.intro (H2.out.1.set.get hR hg3) hr3)
  clear H2 hr3 hg3 ho hsz HR4
  generalize tBytes 4000 s2 = y3 at *
  obtain ⟨l, s3⟩ := y3
  dsimp only at *
  have HB3 := Lib.hid HBn.out
  clear HBn HB2
  have c3 := cell_of_obj H3.out.1.snd 2
  simp at c3
  have f3 := free_of_obj H3.out.1.snd 2
  have d0 := cell_of_obj H3.out.1.snd 0
  have d1 := cell_of_obj H3.out.1.snd 1
  simp at d0 d1
  have HE := Lib.hid (H3.out.1.set (j := 2) (v := .slice va l.length vc))
  go_wp2_with (refine wpList_store_rowTo rfl 75 (.tmp 2) (.tmp 13) rfl rfl w.heap.size #[.string k, .int .i64 r, .slice va l.length vc] rfl rfl 75 #[.string ⟨#[]⟩, .int .i64 0, .slice none 0 0] HE.out.fst (by kernel_rfl) rfl (by kernel_rfl) ?_)
  refine bodyPost_ret (results_cell_row Tryz.results105 _ _ w.heap.size 75 _ (0, 0) _ rfl (setRow_heap _ _ _ _ _ _ HE.out.fst) Tryz.underlying75 rfl (by kernel_rfl)) rfl ?_
  refine ⟨va, vc, by rw [HT.out], ?_, by rw [HT.out]; exact (H3.out.2.set (by omega)).row hR, HE.out.grown _⟩
  rw [HT.out]
  have hv := val_grown (val_set HV.out (j := 2) (v := .slice va l.length vc) (show w.heap.size + 1 < w.heap.size + 2 by omega)) (grown_setRow _ w.heap.size #[.string k, .int .i64 r, .slice va l.length vc]) (by omega)
  exact ⟨World.ownsRow.mono hv.1 (by omega), hv.2⟩
set_option maxRecDepth 100000 in
set_option maxHeartbeats 2000000 in
theorem getEvent_any (R : Nat) (st : List Int × Bool) (w0 w : World) (hr : RdC w0 w R st) (hB : Byt st) : Calls Tryz.prog 107 #[.pointer (some ⟨R, 0, none⟩)] w (getEventG w0 w R st) := by
  have hR := hr.lt
  have H0 := Lib.hid (And.intro (two_of w R (.cells #[.int .i64 0, .string ⟨#[]⟩, .slice none 0 0, .bool false] 30) (.cells #[.int .i64 0, .string ⟨#[]⟩, .slice none 0 0, .bool false] 30)) ((hr.alloc (.cells #[.int .i64 0, .string ⟨#[]⟩, .slice none 0 0, .bool false] 30)).alloc (.cells #[.int .i64 0, .string ⟨#[]⟩, .slice none 0 0, .bool false] 30)))
  have HT : Hid (tEvent st = (⟨(tNum st).1, (tText 20 (tNum st).2).1, (tBytes 4000 (tText 20 (tNum st).2).2).1, (tFlag (tBytes 4000 (tText 20 (tNum st).2).2).2).1⟩, (tFlag (tBytes 4000 (tText 20 (tNum st).2).2).2).2)) := rfl
  have HBy := Lib.hid hB
  clear hr hB
  go_enter Tryz.func107, Tryz.ntmps107
  go_wp2_with fail
  refine (num_any R st w0 _ H0.out.2).mono ?_
  rintro e w1 ⟨rfl, hr1, hg1⟩
  have HBn := Lib.hid (HBy.out.rest (rest_num st))
  have H1 := Lib.hid (And.intro (H0.out.1.get hR hg1) hr1)
  clear H0 hr1 hg1
  generalize tNum st = y1 at *
  obtain ⟨r, s1⟩ := y1
  dsimp only at *
  have HB1 := Lib.hid HBn.out
  clear HBn HBy
  have c1 := cell_of_obj H1.out.1.snd 0
  simp at c1
  have f1 := free_of_obj H1.out.1.snd 0
  go_wp2_with fail
  clear c1 f1
  refine (text_any R 20 s1 w0 _ (H1.out.2.set (by omega)) (by omega)).mono ?_
  rintro e w2 ⟨rfl, hr2, hg2⟩
  have HBn := Lib.hid (HB1.out.rest (rest_text 20 s1))
  have H2 := Lib.hid (And.intro (H1.out.1.set.get hR hg2) hr2)
  clear H1 hr2 hg2
  generalize tText 20 s1 = y2 at *
  obtain ⟨k, s2⟩ := y2
  dsimp only at *
  have HB2 := Lib.hid HBn.out
  clear HBn HB1
  have c2 := cell_of_obj H2.out.1.snd 1
  simp at c2
  have f2 := free_of_obj H2.out.1.snd 1
  go_wp2_with fail
  clear c2 f2
  have HR3 := Lib.hid (bytes_le 4000 s2)
  have HR4 := Lib.hid (rest_bytes 4000 s2)
  refine (bytes_any R 4000 s2 w0 _ (H2.out.2.set (by omega)) (by omega) HB2.out.1 (by have := H2.out.1.size; simp [World.setCell]; omega)).mono ?_
  rintro e w3 ⟨v3, rfl, ho, hr3, hg3⟩
  have hsz := H2.out.1.size
  obtain ⟨va, vc, rfl, z1, z2, z3⟩ := own_len ho
  have HV := Lib.hid (show ValOwn w3 (w.heap.size + 2) (tBytes 4000 s2).1 va vc from ⟨World.ownsRow.mono ho (by simpa [World.setCell] using hsz), fun y hy => HB2.out.2 y (HR4.out.2 y hy)⟩)
  have HBn := Lib.hid (HB2.out.rest HR4.out.1)
  have H3 := Lib.hid (And.intro (H2.out.1.set.get hR hg3) hr3)
  clear H2 hr3 hg3 ho hsz HR4
  generalize tBytes 4000 s2 = y3 at *
  obtain ⟨l, s3⟩ := y3
  dsimp only at *
  have HB3 := Lib.hid HBn.out
  clear HBn HB2
  have c3 := cell_of_obj H3.out.1.snd 2
  simp at c3
  have f3 := free_of_obj H3.out.1.snd 2
  go_wp2_with fail
  clear c3 f3
  refine (flag_any R s3 w0 _ (H3.out.2.set (by omega))).mono ?_
  rintro e w4 ⟨rfl, hr4, hg4⟩
  have HVn := Lib.hid (val_grown (val_set HV.out (j := 2) (v := .slice va l.length vc) (show w.heap.size + 1 < w.heap.size + 2 by omega)) hg4 (by omega))
  clear HV
  have HV := Lib.hid HVn.out
  clear HVn
  have HBn := Lib.hid (HB3.out.rest (rest_flag s3))
  have H4 := Lib.hid (And.intro (H3.out.1.set.get hR hg4) hr4)
  clear H3 hr4 hg4
  generalize tFlag s3 = y4 at *
  obtain ⟨g, s4⟩ := y4
  dsimp only at *
  have HB4 := Lib.hid HBn.out
  clear HBn HB3
  have c4 := cell_of_obj H4.out.1.snd 3
  simp at c4
  have f4 := free_of_obj H4.out.1.snd 3
  have d0 := cell_of_obj H4.out.1.snd 0
  have d1 := cell_of_obj H4.out.1.snd 1
  have d2 := cell_of_obj H4.out.1.snd 2
  simp at d0 d1 d2
  have HE := Lib.hid (H4.out.1.set (j := 3) (v := .bool g))
  go_wp2_with (refine wpList_store_rowTo rfl 30 (.tmp 2) (.tmp 16) rfl rfl w.heap.size #[.int .i64 r, .string k, .slice va l.length vc, .bool g] rfl rfl 30 #[.int .i64 0, .string ⟨#[]⟩, .slice none 0 0, .bool false] HE.out.fst (by kernel_rfl) rfl (by kernel_rfl) ?_)
  refine bodyPost_ret (results_cell_row Tryz.results107 _ _ w.heap.size 30 _ (0, 0) _ rfl (setRow_heap _ _ _ _ _ _ HE.out.fst) Tryz.underlying30 rfl (by kernel_rfl)) rfl ?_
  refine ⟨va, vc, by rw [HT.out], ?_, by rw [HT.out]; exact (H4.out.2.set (by omega)).row hR, HE.out.grown _⟩
  rw [HT.out]
  have hv := val_grown (val_set HV.out (j := 3) (v := .bool g) (show w.heap.size + 1 < w.heap.size + 2 by omega)) (grown_setRow _ w.heap.size #[.int .i64 r, .string k, .slice va l.length vc, .bool g]) (by omega)
  exact ⟨World.ownsRow.mono hv.1 (by omega), hv.2⟩
def cellsN (x : EntH) : List Value := [.string x.1.key, .int .i64 x.1.rev, .slice x.2.1 x.1.val.length x.2.2]
def cellsV (x : EvH) : List Value := [.int .i64 x.1.rev, .string x.1.key, .slice x.2.1 x.1.val.length x.2.2, .bool x.1.gone]
def ownN (w : World) (N : Nat) (x : EntH) : Prop := ValOwn w N x.1.val x.2.1 x.2.2
def ownV (w : World) (N : Nat) (x : EvH) : Prop := ValOwn w N x.1.val x.2.1 x.2.2

theorem infoN9 : (Tryz.prog.info? 75).map (fun i => (i.zero, i.size, i.bytes)) = some (some (.agg #[.string ⟨#[]⟩, .int .i64 0, .slice none 0 0]), 3, 48) := by kernel_rfl
set_option maxRecDepth 100000 in
set_option maxHeartbeats 2000000 in
theorem getEntries_any (R : Nat) (st : List Int × Bool) (w0 w : World) (hr : RdC w0 w R st) (hB : Byt st) :
    Calls Tryz.prog 104 #[.pointer (some ⟨R, 0, none⟩), .int .i64 100, .func (.func 105) #[] #[]] w (ElsP w0 w R 75 3 cellsN (fun x : EntH => x.1) ownN (tList tEntry 100 st)) := by
  obtain ⟨i0, hi, hz0, hz1, hz2⟩ := info_parts infoN9
  have HI := Lib.hid (And.intro hi (And.intro hz0 (And.intro hz1 hz2)))
  clear hi hz0 hz1 hz2
  have hR := hr.lt
  have hO := hr.old
  have hlen : ∀ x : EntH, (cellsN x).length = 3 := fun x => rfl
  have HR := Lib.hid (And.intro hr (And.intro hB (And.intro (rest_many 100 st) (many_le 100 st))))
  have HG : Hid (tList tEntry 100 st = tLoop tEntry (tMany 100 st).1 (tMany 100 st).2) := rfl
  clear hr hB
  go_enter Tryz.func104, Tryz.ntmps104
  go_wp2_with fail
  refine (many_any R 100 st w0 _ HR.out.1 (by omega)).mono ?_
  rintro e w1 ⟨rfl, hr1, hg1⟩
  have hs1 := hg1.size
  have hm2 := HR.out.2.2.2
  have H1 := Lib.hid (And.intro hr1 (And.intro ((Fr.refl w.heap.size R w).grown (Nat.le_refl _) hg1) (HR.out.2.1.rest HR.out.2.2.1)))
  clear hr1 hg1 HR
  generalize tMany 100 st = y at *
  obtain ⟨m, s0⟩ := y
  dsimp only at *
  go_wp2_with fail
  go_loopw [7, 11] (fun u i wr => ∃ k : Nat, k ≤ m ∧ i = .int .i64 k ∧ ∃ (l : List EntH) (s : List Int × Bool), Hid (l.length = k) ∧ wr.ownsRow w.heap.size 75 3 u k (l.flatMap cellsN) ∧ Hid (∀ x ∈ l, ownN wr w.heap.size x) ∧ RdC w0 wr R s ∧ Hid (Byt s) ∧ Fr w.heap.size R w wr
      ∧ Hid (tLoop tEntry m s0 = (l.map (fun x : EntH => x.1) ++ (tLoop tEntry (m - k) s).1, (tLoop tEntry (m - k) s).2))) (fun _ i _ => m - (intOf i).toNat)
  case atStart => exact ⟨0, Nat.zero_le _, rfl, [], s0, rfl, World.ownsRow_nil _ _ _ _, fun x hx => by simp at hx, H1.out.1, H1.out.2.2, H1.out.2.1, rfl⟩
  case round =>
    obtain ⟨k, hk, rfl, l, s, hl, hown, hall, hrd, hby, hfr, hmany⟩ := hrel
    by_cases hlt : k < m
    · have hfs := hfr.size
      go_wp2_with fail
      refine (getEntry_any R s w0 _ hrd hby.out).mono ?_; rintro e w2 ⟨a, cap, rfl, hv0, hr2, hg2⟩; have hov : ownN w2 w.heap.size ((tEntry s).1, a, cap) := ValOwn.mono hv0 (by omega)
      have hs2 := hg2.size
      have hown2 := hown.kept hg2 (Or.inr (fun e => by have := (hown.lt R e).1; omega))
      have hall2 : Hid (∀ x ∈ l, ownN w2 w.heap.size x) := fun x hx => val_grown (hall.out x hx) hg2 (by omega)
      have HV := Lib.hid hov
      have hfr2 := hfr.grown (by omega) hg2
      have hby2 := hby.out.rest (rest_entry s)
      have hl1 : k + 1 ≤ maxLen := by unfold maxLen; omega
      have hl2 : (k + 1) * 48 ≤ 140737488355328 := by omega
      have hB2 : w.heap.size ≤ w2.heap.size + 1 := by omega
      clear hrd hown hfr hg2 hov hall hby
      go_wp2_with (at_builtin; refine stand ?_)
      show wpList _ _ _ _ _ _
      refine wpList_append_own _ rfl _ _ 78 rfl w.heap.size 75 i0 (.agg #[.string ⟨#[]⟩, .int .i64 0, .slice none 0 0]) 3 48 Tryz.underlying78 HI.out.1 HI.out.2.1 HI.out.2.2.1 HI.out.2.2.2 rfl (by decide) _ k (l.flatMap cellsN) rfl (hown2.alloc _) ⟨w2.heap.size, 0, none⟩ 1 1 (cellsN ((tEntry s).1, a, cap)) rfl (hlen _) (new_cells _ _ _) (by simp [cellsN, Value.oneCell']) hl1 hl2 (by simp; exact hB2) ?_
      intro v' w3 hown' hgrow hnil
      have hN : ∀ j, (Value.ownBlock _) = some j → w.heap.size ≤ j := fun j hj => (hown2.lt j hj).1
      have hfr3 := (hfr2.alloc (by omega) _).own (by simp; omega) hgrow hN
      have hrd3 := (hr2.alloc _).own hgrow (fun j hj => by have := hN j hj; omega) (fun j hj => by have := hN j hj; omega)
      have HN := Lib.hid (And.intro hown' (And.intro hfr3 (And.intro hrd3 (show ∀ x ∈ l ++ [((tEntry s).1, a, cap)], ownN w3 w.heap.size x from fun x hx => by
        have hx2 : ownN w2 w.heap.size x := by
          rcases List.mem_append.1 hx with h | h
          · exact hall2.out x h
          · simp at h; subst h; exact HV.out
        exact val_row hx2 hown2 hgrow (by decide)))))
      clear hown' hfr3 hrd3 hfr2 hgrow hN hr2 hown2 hnil
      go_wp2_with fail
      go_roundw
      case rel =>
        refine ⟨k + 1, by omega, by go_num, l ++ [((tEntry s).1, a, cap)], (tEntry s).2, by show _ = _; simp [hl.out], by simpa using HN.out.1, HN.out.2.2.2, HN.out.2.2.1, hby2, HN.out.2.1, ?_⟩
        show _ = _
        rw [hmany.out, show m - k = (m - (k + 1)) + 1 by omega]
        simp [tLoop]
      case measure => simp [intOf]; omega
    · obtain rfl : k = m := by omega
      go_wp2
      go_ret
      have hmm := hmany.out
      rw [Nat.sub_self] at hmm
      have hg : tList tEntry 100 st = (l.map (fun x : EntH => x.1), s) := by rw [HG.out, hmm]; simp [tLoop]
      refine ⟨_, l, rfl, by rw [hg], ?_, hall.out, ?_, hfr.out⟩
      · rw [hl.out]; exact hown
      · rw [hg]; exact hrd
theorem infoV9 : (Tryz.prog.info? 30).map (fun i => (i.zero, i.size, i.bytes)) = some (some (.agg #[.int .i64 0, .string ⟨#[]⟩, .slice none 0 0, .bool false]), 4, 56) := by kernel_rfl
set_option maxRecDepth 100000 in
set_option maxHeartbeats 2000000 in
theorem getEvents_any (R : Nat) (st : List Int × Bool) (w0 w : World) (hr : RdC w0 w R st) (hB : Byt st) :
    Calls Tryz.prog 106 #[.pointer (some ⟨R, 0, none⟩), .int .i64 100, .func (.func 107) #[] #[]] w (ElsP w0 w R 30 4 cellsV (fun x : EvH => x.1) ownV (tList tEvent 100 st)) := by
  obtain ⟨i0, hi, hz0, hz1, hz2⟩ := info_parts infoV9
  have HI := Lib.hid (And.intro hi (And.intro hz0 (And.intro hz1 hz2)))
  clear hi hz0 hz1 hz2
  have hR := hr.lt
  have hO := hr.old
  have hlen : ∀ x : EvH, (cellsV x).length = 4 := fun x => rfl
  have HR := Lib.hid (And.intro hr (And.intro hB (And.intro (rest_many 100 st) (many_le 100 st))))
  have HG : Hid (tList tEvent 100 st = tLoop tEvent (tMany 100 st).1 (tMany 100 st).2) := rfl
  clear hr hB
  go_enter Tryz.func106, Tryz.ntmps106
  go_wp2_with fail
  refine (many_any R 100 st w0 _ HR.out.1 (by omega)).mono ?_
  rintro e w1 ⟨rfl, hr1, hg1⟩
  have hs1 := hg1.size
  have hm2 := HR.out.2.2.2
  have H1 := Lib.hid (And.intro hr1 (And.intro ((Fr.refl w.heap.size R w).grown (Nat.le_refl _) hg1) (HR.out.2.1.rest HR.out.2.2.1)))
  clear hr1 hg1 HR
  generalize tMany 100 st = y at *
  obtain ⟨m, s0⟩ := y
  dsimp only at *
  go_wp2_with fail
  go_loopw [7, 11] (fun u i wr => ∃ k : Nat, k ≤ m ∧ i = .int .i64 k ∧ ∃ (l : List EvH) (s : List Int × Bool), Hid (l.length = k) ∧ wr.ownsRow w.heap.size 30 4 u k (l.flatMap cellsV) ∧ Hid (∀ x ∈ l, ownV wr w.heap.size x) ∧ RdC w0 wr R s ∧ Hid (Byt s) ∧ Fr w.heap.size R w wr
      ∧ Hid (tLoop tEvent m s0 = (l.map (fun x : EvH => x.1) ++ (tLoop tEvent (m - k) s).1, (tLoop tEvent (m - k) s).2))) (fun _ i _ => m - (intOf i).toNat)
  case atStart => exact ⟨0, Nat.zero_le _, rfl, [], s0, rfl, World.ownsRow_nil _ _ _ _, fun x hx => by simp at hx, H1.out.1, H1.out.2.2, H1.out.2.1, rfl⟩
  case round =>
    obtain ⟨k, hk, rfl, l, s, hl, hown, hall, hrd, hby, hfr, hmany⟩ := hrel
    by_cases hlt : k < m
    · have hfs := hfr.size
      go_wp2_with fail
      refine (getEvent_any R s w0 _ hrd hby.out).mono ?_; rintro e w2 ⟨a, cap, rfl, hv0, hr2, hg2⟩; have hov : ownV w2 w.heap.size ((tEvent s).1, a, cap) := ValOwn.mono hv0 (by omega)
      have hs2 := hg2.size
      have hown2 := hown.kept hg2 (Or.inr (fun e => by have := (hown.lt R e).1; omega))
      have hall2 : Hid (∀ x ∈ l, ownV w2 w.heap.size x) := fun x hx => val_grown (hall.out x hx) hg2 (by omega)
      have HV := Lib.hid hov
      have hfr2 := hfr.grown (by omega) hg2
      have hby2 := hby.out.rest (rest_event s)
      have hl1 : k + 1 ≤ maxLen := by unfold maxLen; omega
      have hl2 : (k + 1) * 56 ≤ 140737488355328 := by omega
      have hB2 : w.heap.size ≤ w2.heap.size + 1 := by omega
      clear hrd hown hfr hg2 hov hall hby
      go_wp2_with (at_builtin; refine stand ?_)
      show wpList _ _ _ _ _ _
      refine wpList_append_own _ rfl _ _ 23 rfl w.heap.size 30 i0 (.agg #[.int .i64 0, .string ⟨#[]⟩, .slice none 0 0, .bool false]) 4 56 Tryz.underlying23 HI.out.1 HI.out.2.1 HI.out.2.2.1 HI.out.2.2.2 rfl (by decide) _ k (l.flatMap cellsV) rfl (hown2.alloc _) ⟨w2.heap.size, 0, none⟩ 1 1 (cellsV ((tEvent s).1, a, cap)) rfl (hlen _) (new_cells _ _ _) (by simp [cellsV, Value.oneCell']) hl1 hl2 (by simp; exact hB2) ?_
      intro v' w3 hown' hgrow hnil
      have hN : ∀ j, (Value.ownBlock _) = some j → w.heap.size ≤ j := fun j hj => (hown2.lt j hj).1
      have hfr3 := (hfr2.alloc (by omega) _).own (by simp; omega) hgrow hN
      have hrd3 := (hr2.alloc _).own hgrow (fun j hj => by have := hN j hj; omega) (fun j hj => by have := hN j hj; omega)
      have HN := Lib.hid (And.intro hown' (And.intro hfr3 (And.intro hrd3 (show ∀ x ∈ l ++ [((tEvent s).1, a, cap)], ownV w3 w.heap.size x from fun x hx => by
        have hx2 : ownV w2 w.heap.size x := by
          rcases List.mem_append.1 hx with h | h
          · exact hall2.out x h
          · simp at h; subst h; exact HV.out
        exact val_row hx2 hown2 hgrow (by decide)))))
      clear hown' hfr3 hrd3 hfr2 hgrow hN hr2 hown2 hnil
      go_wp2_with fail
      go_roundw
      case rel =>
        refine ⟨k + 1, by omega, by go_num, l ++ [((tEvent s).1, a, cap)], (tEvent s).2, by show _ = _; simp [hl.out], by simpa using HN.out.1, HN.out.2.2.2, HN.out.2.2.1, hby2, HN.out.2.1, ?_⟩
        show _ = _
        rw [hmany.out, show m - k = (m - (k + 1)) + 1 by omega]
        simp [tLoop]
      case measure => simp [intOf]; omega
    · obtain rfl : k = m := by omega
      go_wp2
      go_ret
      have hmm := hmany.out
      rw [Nat.sub_self] at hmm
      have hg : tList tEvent 100 st = (l.map (fun x : EvH => x.1), s) := by rw [HG.out, hmm]; simp [tLoop]
      refine ⟨_, l, rfl, by rw [hg], ?_, hall.out, ?_, hfr.out⟩
      · rw [hl.out]; exact hown
      · rw [hg]; exact hrd
end Go.Proofs.YtaleceobkbgcnaaGreat.Rp
