/-
  The law StoreOwn's walk. Its condition: the opening sentence.
-/
import Derived.Test.YtaleceobkbgcnaaGreatLawS
import Derived.Test.YtaleceobkbgcnaaGreatGBg
import Derived.BigRegion
set_option linter.unusedSimpArgs false
set_option linter.unusedVariables false
namespace Go.Proofs.YtaleceobkbgcnaaGreat.Rp
open Go.RowKit

set_option maxRecDepth 100000 in
set_option maxHeartbeats 4000000 in
theorem storeOwn_walk (hBG : BegunP) (a : Option Addr) (l : List Int) (cap : Nat) (w : World) (hl : AtB w a l) (h1 : l.length ≤ cap) (h2 : cap ≤ maxLen) (hno : a = none → cap = 0) :
    Calls Tryz.prog 10 #[.slice a l.length cap] w fun e w' => e = .returned (.bool true) ∧ Below w.heap.size w w' := by
  obtain ⟨ml, eml, iml, jml, kml⟩ := cut_of l 20
  have aml := hl.take 20
  rw [← eml] at aml
  have cml : ml.length ≤ cap := by omega
  simp only [Int.cast_ofNat_Int] at iml
  have pml := min_cut iml
  clear eml jml hl h1
  obtain ⟨iB, hi, hz0, hz1, hz2⟩ := info_parts infoB8
  have HI := Lib.hid (And.intro hi (And.intro hz0 (And.intro hz1 hz2)))
  clear hi hz0 hz1 hz2
  go_enter Tryz.func10, Tryz.ntmps10
  go_wp2_with fail
  refine (hBG _).mono ?_
  rintro e w1 ⟨rfl, hb1⟩
  have aml1 := aml.below' hb1
  go_wp2_with (at_builtin; refine stand ?_)
  show wpList _ _ _ _ _ _
  refine wpList_append_opt rfl _ _ 28 rfl w1.heap.size 5 iB _ 1 1 Tryz.underlying28 HI.out.1 HI.out.2.1 HI.out.2.2.1 HI.out.2.2.2 rfl (by decide) (.slice (some ⟨w1.heap.size, 0, none⟩) 1 1) 1 [.int .u8 7] rfl (World.ownsRow_lit w1 #[.int .u8 7] 1 (Nat.le_refl _) (by decide) (show (#[Value.int .u8 1] : Array Value).size = 1 * 1 from rfl)) a ml.length cap (u8s ml) rfl (fun h => by have := hno h; omega) (by unfold u8s; rw [List.length_map, Nat.mul_one]) (atB_news' (aml1.below' ((Below.refl _ _).alloc (Nat.le_refl _) _))) (one_u8s _) (by unfold maxLen; omega) (by omega) (by simp) ?_
  intro v2 w2 o2 g2
  have hb2 : Below w1.heap.size w1 w2 := ((Below.refl _ _).alloc (Nat.le_refl _) _).trans (grown_below g2 (World.ownsRow_lit w1 #[.int .u8 7] 1 (Nat.le_refl _) (by decide) (show (#[Value.int .u8 1] : Array Value).size = 1 * 1 from rfl)) (by simp))
  obtain ⟨V, hV1, hV0, hVr, hVl, hVm⟩ : ∃ V : List Int, w2.ownsRow w1.heap.size 5 1 v2 V.length (u8s V) ∧ V.getD 0 0 = 7 ∧ (∀ y ∈ V, 0 ≤ y ∧ y ≤ 255) ∧ 0 < V.length ∧ V.length ≤ 21 := by
    refine ⟨7 :: ml, ?_, rfl, ?_, by simp, by simp; omega⟩
    · rw [List.length_cons, Nat.add_comm]; exact o2
    · intro y hy
      rcases List.mem_cons.1 hy with rfl | hy
      · decide
      · exact aml.range _ hy
  obtain ⟨a2, c2, rfl, k1, k2, k3⟩ := own_len hV1
  have hV2 := own_atB hV1 hVr
  have hbw2 := hb1.trans (hb2.mono hb1.size)
  have HW := Lib.hid (And.intro hbw2 (And.intro hV2 (And.intro hVr hV0)))
  clear o2 g2 hb2 aml aml1 iml pml cml kml hno hb1 hV1 hbw2 hVr h2 hV0
  go_wp2_with fail
  refine (stoNew_any w2).mono ?_
  rintro e w3 ⟨h, rfl, ha3, hb3, hn3, hlo3, hE3, hH3, hv3⟩
  have H3 := Lib.hid (And.intro ha3 (And.intro hb3 (And.intro hn3 (And.intro hlo3 (And.intro hE3 (And.intro hH3 hv3))))))
  have hz3 := hb3.size
  clear ha3 hb3 hn3 hlo3 hE3 hH3 hv3
  go_wp2_with (at_builtin; refine stand ?_)
  show wpList _ _ _ _ _ _
  refine wpList_append_opt rfl _ _ 28 rfl w3.heap.size 5 iB _ 1 1 Tryz.underlying28 HI.out.1 HI.out.2.1 HI.out.2.2.1 HI.out.2.2.2 rfl (by decide) (.slice none 0 0) 0 [] rfl (World.ownsRow_nil _ _ 5 1) a2 V.length c2 (u8s V) rfl (fun h => by have := k3 h; omega) (by unfold u8s; rw [List.length_map, Nat.mul_one]) (atB_news' (HW.out.2.1.below' H3.out.2.1)) (one_u8s _) (by unfold maxLen; omega) (by omega) (Nat.le_refl _) ?_
  intro v4 w4 o4 g4
  have hb4 : Below w3.heap.size w3 w4 := grown_below g4 (World.ownsRow_nil _ _ 5 1) (Nat.le_refl _)
  rw [Nat.zero_add, List.nil_append] at o4
  obtain ⟨a4, c4, rfl, l1, l2, -⟩ := own_len o4
  obtain ⟨gv, rfl⟩ := own_some' o4 hVl
  have hg0 := (o4.lt gv rfl).1
  have hg1 := (o4.lt gv rfl).2
  have hz4 := hb4.size
  have hk5 := heap_alloc_self w4 (.cells #[.string tA, .slice (some ⟨gv, 0, none⟩) V.length c4, .bool false] 73)
  have hb5 : Below w4.heap.size w4 (w4.alloc (.cells #[.string tA, .slice (some ⟨gv, 0, none⟩) V.length c4, .bool false] 73)) := (Below.refl _ _).alloc (Nat.le_refl _) _
  have hz5 : (w4.alloc (.cells #[.string tA, .slice (some ⟨gv, 0, none⟩) V.length c4, .bool false] 73)).heap.size = w4.heap.size + 1 := by simp
  have o5 := row_turns (S := fun _ => False) o4 (turns_of_below hb5) (fun _ _ h => h)
  have hlt : ∀ k, StoS h k → k < w3.heap.size := H3.out.1.lt
  have ha5 := (H3.out.1.below (hb4.trans (hb5.mono hb4.size))).rebase (B' := w4.heap.size + 1) H3.out.2.2.2.2.1 H3.out.2.2.2.2.2.1 H3.out.2.2.2.2.2.2 (by rw [hz5]; exact Nat.le_refl _)
  have hw5 : WsAt (StoS h) (w4.alloc (.cells #[.string tA, .slice (some ⟨gv, 0, none⟩) V.length c4, .bool false] 73)) (some ⟨w4.heap.size, 0, none⟩) [⟨tA, V, false⟩] := by
    refine ⟨by simp, fun i hi => ?_⟩
    obtain rfl : i = 0 := by simpa using hi
    refine ⟨_, 0, some ⟨gv, 0, none⟩, c4, rfl, l1, l2, fun e => (by cases e), fun w' ht => ?_⟩
    have q := ht.obj hk5 (fun e => by have := hlt _ e; omega)
    have o' := row_turns o5 ht (fun k hk hs => by have := hlt _ hs; have := (o5.lt k hk).1; omega)
    have hs := ht.size
    rw [hz5] at hs
    exact ⟨by omega, cell_of_obj q 0, cell_of_obj q 1, cell_of_obj q 2, own_atB o' HW.out.2.2.1⟩
  have htx := stoTxnDo_any _ (w4.heap.size + 1) h newS none [] 0 (some ⟨w4.heap.size, 0, none⟩) [⟨tA, V, false⟩] 1 ha5 (fun _ _ => ⟨by decide, fun i hi => absurd hi (Nat.not_lt_zero i)⟩) hw5 (Nat.le_refl _) (by decide) (by rw [H3.out.2.2.1]; decide) (by rw [H3.out.2.2.2.2.1]; decide) (by decide)
  have herr : txnErr newS [] [⟨tA, V, false⟩] = 0 := err_put (by decide) (by omega)
  have hrev : txnRev newS [] [⟨tA, V, false⟩] = 1 := by unfold txnRev; rw [if_pos herr]; rfl
  have hfp := first_put (k := tA) (V := V) (by decide) (by omega)
  have H5 := Lib.hid (And.intro (H3.out.2.1.trans ((hb4.trans (hb5.mono hb4.size)).mono H3.out.2.1.size)) (And.intro o5 (And.intro hfp (And.intro herr hrev))))
  clear hb4 hb5 o5 o4 ha5 hw5 hk5 g4 herr hrev hfp
  go_wp2_with fail
  refine htx.mono ?_
  rintro e w6 ⟨rfl, n6, L6, E6, v6, H6, ha6, -, -, hT6, hv6⟩
  rw [H5.out.2.2.2.1, H5.out.2.2.2.2]
  obtain ⟨h6, hS6, ha6, hs6⟩ : ∃ h6 : StoH, h6.S = h.S ∧ StoAt w6 (w4.heap.size + 1) h6 (txnF newS [] [⟨tA, V, false⟩]) ∧ ∀ k, StoS h6 k → k < w3.heap.size ∨ w4.heap.size + 1 ≤ k := by
    refine ⟨{ h with nT := n6, L := L6, E := E6, v := v6, H := H6 }, rfl, ha6, fun k hk => ?_⟩
    rcases hk with hk | hk | hk | hk | hk
    · exact .inl (hlt k (.inl hk))
    · exact .inl (hlt k (.inr (.inl hk)))
    · exact .inl (hlt k (.inr (.inr (.inl hk))))
    · exact .inl (hlt k (.inr (.inr (.inr (.inl hk)))))
    · rcases hv6 with e | ⟨q, e, hq⟩
      · rw [H3.out.2.2.2.2.2.2] at e
        have hk : v6.ownBlock = some k := hk
        rw [e] at hk
        cases hk
      · dsimp only at hk
        rw [e] at hk
        cases hk
        rw [hz5] at hq
        exact .inr hq
  obtain ⟨d1, hfp, ha6⟩ : ∃ d1 : StoD, (d1.E = [⟨tA, 1, V⟩] ∧ d1.log = ⟨64, [⟨1, tA, V, false⟩], 0, 1⟩) ∧ StoAt w6 (w4.heap.size + 1) h6 d1 := ⟨_, H5.out.2.2.1, ha6⟩
  rw [← hS6]
  have hz6 := hT6.size
  rw [hz5] at hz6
  have o6 := row_turns H5.out.2.1 hT6 (fun k hk hs => by have := hlt _ hs; have := (H5.out.2.1.lt k hk).1; omega)
  have b6 := H5.out.1.trans (hT6.below (B := w2.heap.size) H5.out.1.size (fun x hx => H3.out.2.2.2.1.ge H3.out.1 (Nat.le_refl _) x hx))
  have cv := o6.cellAt 0 (by rw [Nat.mul_one]; exact hVl)
  have fv := o6.frozenAt 0
  have hu0 : (u8s V)[0]? = some (.int .u8 7) := by
    unfold u8s
    have := HW.out.2.2.2
    rw [List.getD_eq_getElem?_getD, List.getElem?_eq_getElem hVl] at this
    rw [List.getElem?_map, List.getElem?_eq_getElem hVl]
    simp at this
    simp [this]
  rw [hu0] at cv
  have HU := Lib.hid hu0
  have ha7 := ha6.low (w' := w6.setCell ⟨gv, 0, none⟩ (.int .u8 8)) (turns_setCell (S := fun k => k = gv) ⟨gv, 0, none⟩ rfl _) (fun k hk e => by rcases hs6 k hk with h | h <;> omega) (fun k hk => by subst hk; omega)
  have b7 := b6.setCell (p := ⟨gv, 0, none⟩) (by show w2.heap.size ≤ gv; omega) (.int .u8 8)
  have hup := ha7.up
  have hSlo : w2.heap.size ≤ h6.S := by rw [hS6]; exact H3.out.2.2.2.1.1
  have H7 := Lib.hid (And.intro ha7 (And.intro b7 (And.intro hup (And.intro hfp.1 hfp.2))))
  have hz7 : w6.heap.size ≤ (w6.setCell ⟨gv, 0, none⟩ (.int .u8 8)).heap.size := by simp [World.setCell]
  have kV : (0 : Int) < (V.length : Int) := by omega
  clear htx hT6 o6 b6 hu0 ha6 ha7 b7 hup hfp hs6 hS6 hv6 hlt H5 H3 hz3 hz4
  go_wp2_with fail
  generalize (w6.setCell ⟨gv, 0, none⟩ (.int .u8 8)) = w7 at H7 hz7 ⊢
  clear cv fv
  have hget := stoGet_any w7 _ h6 d1 tA H7.out.1 (by decide)
  refine hget.mono ?_
  rintro e w8 ⟨a8, c8, rfl, hv8, ha8, hT8⟩
  have hgs : getS d1 tA = ⟨tA, 1, V⟩ := by unfold getS; rw [H7.out.2.2.2.1]; rfl
  have hgf : (d1.E.find? (isK tA)).isSome = true := by rw [H7.out.2.2.2.1]; rfl
  rw [hgf, hgs]
  rw [hgs] at hv8
  have HXU : Hid (∀ k, (Value.slice a8 V.length c8).ownBlock = some k → k < w8.heap.size) := fun k hk => (hv8.1.lt k hk).2
  have H8 := Lib.hid (And.intro hv8 (And.intro ha8 hT8))
  have hz8 := hT8.size
  clear hget hv8 ha8 hT8 hgs hgf
  go_wp2_with (refine wpList_store_rowTo rfl 75 (.tmp 8) (.tmp 50) rfl rfl w8.heap.size #[.string tA, .int .i64 1, .slice a8 V.length c8] rfl rfl 75 #[.string ⟨#[]⟩, .int .i64 0, .slice none 0 0] (heap_alloc_self _ _) (by kernel_rfl) rfl (by kernel_rfl) ?_; refine stand ?_)
  show wpList _ _ _ _ _ _
  have k9 : ((w8.alloc (.cells #[.string ⟨#[]⟩, .int .i64 0, .slice none 0 0] 75)).setRow w8.heap.size #[.string tA, .int .i64 1, .slice a8 V.length c8]).heap[w8.heap.size]? = some (.cells #[.string tA, .int .i64 1, .slice a8 V.length c8] 75) := setRow_heap _ _ _ _ _ _ (heap_alloc_self _ _)
  have b9 : Below w8.heap.size w8 ((w8.alloc (.cells #[.string ⟨#[]⟩, .int .i64 0, .slice none 0 0] 75)).setRow w8.heap.size #[.string tA, .int .i64 1, .slice a8 V.length c8]) := Below.setRow ((Below.refl _ _).alloc (Nat.le_refl _) _) (Nat.le_refl _) _
  have zw9 : w8.heap.size < ((w8.alloc (.cells #[.string ⟨#[]⟩, .int .i64 0, .slice none 0 0] 75)).setRow w8.heap.size #[.string tA, .int .i64 1, .slice a8 V.length c8]).heap.size := by simp
  generalize ((w8.alloc (.cells #[.string ⟨#[]⟩, .int .i64 0, .slice none 0 0] 75)).setRow w8.heap.size #[.string tA, .int .i64 1, .slice a8 V.length c8]) = w9 at k9 b9 zw9 ⊢
  have ha9 := H8.out.2.1.below b9
  have hli := stoList_any w9 _ h6 _ ha9 (by show Keyed d1.E; rw [H7.out.2.2.2.1]; exact keyed_one _) (by show ∀ x ∈ d1.E, _; rw [H7.out.2.2.2.1]; intro x hx; rw [List.mem_singleton] at hx; subst hx; show tA.size ≤ 20; decide) (by show d1.E.length ≤ _; rw [H7.out.2.2.2.1]; show (1 : Nat) ≤ 1000000000; decide)
  have H9 := Lib.hid (And.intro k9 b9)
  clear k9 b9 ha9
  go_wp2_with fail
  refine hli.mono ?_
  rintro e w10 ⟨v10, E10, rfl, hE10, hr10, ha10, hT10⟩
  obtain ⟨g10, n10, a10, c10, rfl, hN10, hty10, hvo10, l0, l1', l2'⟩ := told_ent hr10 (x := ⟨tA, 1, V⟩) (hE10.trans H7.out.2.2.2.1)
  have hS7 : h6.S < w7.heap.size := H7.out.2.2.1.s _ (.inl rfl)
  have hz10 := hT10.size
  have tyS : ∀ k, k = h6.S → ∃ t, HasTy w9 k t ∧ t ≠ 5 := fun k hk => by subst hk; exact ⟨_, ⟨_, _, (H8.out.2.1.below H9.out.2).obj⟩, by decide⟩
  have hvx := val_turns (val_turns (S := fun _ => False) H8.out.1 (turns_of_below H9.out.2) (fun _ h => h.elim)) hT10 tyS
  have k10 := hT10.obj H9.out.1 (by show ¬ (_ = _); omega)
  have bS : ∀ x, x = h6.S → w2.heap.size ≤ x := fun x hx => by omega
  have B10 : Below w2.heap.size w2 w10 := (H7.out.2.1.trans (H8.out.2.2.below H7.out.2.1.size bS)).trans ((H9.out.2.mono (by have := H7.out.2.1.size; omega)).trans (hT10.below (by have := H7.out.2.1.size; omega) bS))
  have HLU : Hid (∀ k, (Value.slice a10 V.length c10).ownBlock = some k → k < w10.heap.size) := fun k hk => (hvo10.1.lt k hk).2
  have hwa := stoWatch_any w10 _ h6 _ 0 ha10
  have herf : errF d1.log 0 = 0 := by rw [H7.out.2.2.2.2]; rfl
  have hfrf : fromF d1.log 0 = [⟨1, tA, V, false⟩] := by rw [H7.out.2.2.2.2]; rfl
  have H10 := Lib.hid (And.intro hvx (And.intro k10 (And.intro B10 (And.intro ha10 (And.intro hvo10 (And.intro herf hfrf))))))
  dsimp only at l2'
  have L2 := Lib.hid l2'
  clear hli hE10 hr10 ha10 hT10 hvx k10 B10 tyS hvo10 l0 l1' l2' herf hfrf hty10 H8 H9
  go_wp2_with fail
  refine hwa.mono ?_
  rintro e w11 ⟨v11, E11, rfl, hE11, hr11, ha11, hT11, -⟩
  clear hwa
  rw [show ∀ r x : Int, errF ({ d1 with reads := r } : StoD).log x = errF d1.log x from fun _ _ => rfl]
  rw [H10.out.2.2.2.2.2.1]
  obtain ⟨g11, n11, a11, c11, rfl, hN11, hty11, hvo11, e0, e1, e2, e3, -⟩ := told_one hr11 (x := ⟨1, tA, V, false⟩) (hE11.trans H10.out.2.2.2.2.2.2)
  have hz11 := hT11.size
  have tyS : ∀ k, k = h6.S → ∃ t, HasTy w10 k t ∧ t ≠ 5 := fun k hk => by subst hk; exact ⟨_, ⟨_, _, H10.out.2.2.2.1.obj⟩, by decide⟩
  have hvx := val_turns H10.out.1 hT11 tyS
  have hvl := val_turns H10.out.2.2.2.2.1 hT11 tyS
  have k11 := hT11.obj H10.out.2.1 (by show ¬ (_ = _); omega)
  have l2 := hT11.cell L2.out (by show ¬ (_ = _); dsimp only; omega)
  have B11 := H10.out.2.2.1.trans (hT11.below (by have := H10.out.2.2.1.size; omega) bS)
  have hs11 := HW.out.2.1.below' B11
  have x2 := cell_of_obj k11 2
  simp at x2
  dsimp only at e2
  obtain ⟨gx, rfl⟩ := own_some' hvx.1 hVl
  obtain ⟨gl, rfl⟩ := own_some' hvl.1 hVl
  obtain ⟨ge, rfl⟩ := own_some' hvo11.1 hVl
  have HQ := Lib.hid (And.intro hs11 (And.intro hvx (And.intro hvl (And.intro hvo11 (And.intro ha11 B11)))))
  clear hE11 hr11 ha11 hT11 tyS hvx hvl k11 B11 hs11 hvo11 e0 e1 e3 H10 L2 hty11
  go_wp2_with fail
  refine (refBytes_any _ V c8 a2 V c2 w11 HQ.out.2.1.at.1 HQ.out.1).mono ?_
  rintro e w' ⟨rfl, rfl⟩
  rw [show eqB V V = true from by simp [eqB]]
  go_wp2_with fail
  refine (refBytes_any _ V c10 a2 V c2 w11 HQ.out.2.2.1.at.1 HQ.out.1).mono ?_
  rintro e w' ⟨rfl, rfl⟩
  rw [show eqB V V = true from by simp [eqB]]
  go_wp2_with fail
  refine (refBytes_any _ V c11 a2 V c2 w11 HQ.out.2.2.2.1.at.1 HQ.out.1).mono ?_
  rintro e w' ⟨rfl, rfl⟩
  rw [show eqB V V = true from by simp [eqB]]
  have hgx := (HQ.out.2.1.1.lt gx rfl).1
  have hgl := (HQ.out.2.2.1.1.lt gl rfl).1
  have hge := (HQ.out.2.2.2.1.1.lt ge rfl).1
  have hgx2 := HXU.out gx rfl
  have hgl2 := HLU.out gl rfl
  have cx := HQ.out.2.1.1.cellAt 0 (by rw [Nat.mul_one]; exact hVl)
  have cl := HQ.out.2.2.1.1.cellAt 0 (by rw [Nat.mul_one]; exact hVl)
  have ce := HQ.out.2.2.2.1.1.cellAt 0 (by rw [Nat.mul_one]; exact hVl)
  rw [HU.out] at cx cl ce
  have fx := HQ.out.2.1.1.frozenAt 0
  have fl := HQ.out.2.2.1.1.frozenAt 0
  have fe := HQ.out.2.2.2.1.1.frozenAt 0
  have n1 : ¬ gx = gl := by omega
  have n2 : ¬ gl = gx := by omega
  have n3 : ¬ gx = ge := by omega
  have n4 : ¬ ge = gx := by omega
  have n5 : ¬ gl = ge := by omega
  have n6' : ¬ ge = gl := by omega
  go_wp2_with fail
  go_region
  go_wp2_with fail
  have T12 : Turns (fun k => w7.heap.size ≤ k) w11 (((w11.setCell ⟨gx, 0, none⟩ (.int .u8 1)).setCell ⟨gl, 0, none⟩ (.int .u8 2)).setCell ⟨ge, 0, none⟩ (.int .u8 3)).drew :=
    (((turns_setCell (S := fun k => w7.heap.size ≤ k) ⟨gx, 0, none⟩ hgx _).trans (turns_setCell (S := fun k => w7.heap.size ≤ k) ⟨gl, 0, none⟩ (by show _ ≤ gl; omega) _)).trans (turns_setCell (S := fun k => w7.heap.size ≤ k) ⟨ge, 0, none⟩ (by show _ ≤ ge; omega) _)).trans (turns_of_below ((Below.refl _ _).drew))
  obtain ⟨d2, hE2, hL2, ha12⟩ : ∃ d2 : StoD, d2.E = [⟨tA, 1, V⟩] ∧ d2.log = ⟨64, [⟨1, tA, V, false⟩], 0, 1⟩ ∧ StoAt (((w11.setCell ⟨gx, 0, none⟩ (.int .u8 1)).setCell ⟨gl, 0, none⟩ (.int .u8 2)).setCell ⟨ge, 0, none⟩ (.int .u8 3)).drew (w4.heap.size + 1) h6 d2 := ⟨{ d1 with reads := wrap64 (wrap64 (wrap64 (d1.reads + 1) + 1) + 1) }, H7.out.2.2.2.1, H7.out.2.2.2.2, HQ.out.2.2.2.2.1.high H7.out.2.2.1 T12 (fun k hk => hk)⟩
  have hz0 := H7.out.2.1.size
  have B12 := (((HQ.out.2.2.2.2.2.setCell (p := ⟨gx, 0, none⟩) (by show _ ≤ gx; omega) (.int .u8 1)).setCell (p := ⟨gl, 0, none⟩) (by show _ ≤ gl; omega) (.int .u8 2)).setCell (p := ⟨ge, 0, none⟩) (by show _ ≤ ge; omega) (.int .u8 3)).drew
  clear T12 HQ cx cl ce fx fl fe n1 n2 n3 n4 n5 n6' x2 l2 e2 HXU HLU hgx hgl hge hgx2 hgl2
  generalize (((w11.setCell ⟨gx, 0, none⟩ (.int .u8 1)).setCell ⟨gl, 0, none⟩ (.int .u8 2)).setCell ⟨ge, 0, none⟩ (.int .u8 3)).drew = w12 at ha12 B12 ⊢
  have HD := Lib.hid (And.intro hE2 hL2)
  have HA := Lib.hid (And.intro ha12 B12)
  have hS12 : h6.S < w12.heap.size := ha12.lt _ (.inl rfl)
  have hz12 := B12.size
  clear hE2 hL2 ha12 B12 hN10 hN11 hz8 hz10 hz11 hz0
  refine (stoGet_any w12 _ h6 d2 tA HA.out.1 (by decide)).mono ?_
  rintro e w13 ⟨a13, c13, rfl, hv13, ha13, hT13⟩
  have hgs : getS d2 tA = ⟨tA, 1, V⟩ := by unfold getS; rw [HD.out.1]; rfl
  have hgf : (d2.E.find? (isK tA)).isSome = true := by rw [HD.out.1]; rfl
  rw [hgf, hgs]
  rw [hgs] at hv13
  have H13 := Lib.hid (And.intro hv13 (And.intro ha13 hT13))
  have hz13 := hT13.size
  clear hv13 ha13 hT13 hgs hgf
  go_wp2_with (refine wpList_store_rowTo rfl 75 (.tmp 13) (.tmp 108) rfl rfl w13.heap.size #[.string tA, .int .i64 1, .slice a13 V.length c13] rfl rfl 75 #[.string ⟨#[]⟩, .int .i64 0, .slice none 0 0] (heap_alloc_self _ _) (by kernel_rfl) rfl (by kernel_rfl) ?_; refine stand ?_)
  show wpList _ _ _ _ _ _
  have k14 : ((w13.alloc (.cells #[.string ⟨#[]⟩, .int .i64 0, .slice none 0 0] 75)).setRow w13.heap.size #[.string tA, .int .i64 1, .slice a13 V.length c13]).heap[w13.heap.size]? = some (.cells #[.string tA, .int .i64 1, .slice a13 V.length c13] 75) := setRow_heap _ _ _ _ _ _ (heap_alloc_self _ _)
  have b14 : Below w13.heap.size w13 ((w13.alloc (.cells #[.string ⟨#[]⟩, .int .i64 0, .slice none 0 0] 75)).setRow w13.heap.size #[.string tA, .int .i64 1, .slice a13 V.length c13]) := Below.setRow ((Below.refl _ _).alloc (Nat.le_refl _) _) (Nat.le_refl _) _
  have zw14 : w13.heap.size < ((w13.alloc (.cells #[.string ⟨#[]⟩, .int .i64 0, .slice none 0 0] 75)).setRow w13.heap.size #[.string tA, .int .i64 1, .slice a13 V.length c13]).heap.size := by simp
  generalize ((w13.alloc (.cells #[.string ⟨#[]⟩, .int .i64 0, .slice none 0 0] 75)).setRow w13.heap.size #[.string tA, .int .i64 1, .slice a13 V.length c13]) = w14 at k14 b14 zw14 ⊢
  have ha14 := H13.out.2.1.below b14
  have hli := stoList_any w14 _ h6 _ ha14 (by show Keyed d2.E; rw [HD.out.1]; exact keyed_one _) (by show ∀ x ∈ d2.E, _; rw [HD.out.1]; intro x hx; rw [List.mem_singleton] at hx; subst hx; show tA.size ≤ 20; decide) (by show d2.E.length ≤ _; rw [HD.out.1]; show (1 : Nat) ≤ 1000000000; decide)
  have H14 := Lib.hid (And.intro k14 b14)
  clear k14 b14 ha14
  go_wp2_with fail
  refine hli.mono ?_
  rintro e w15 ⟨v15, E15, rfl, hE15, hr15, ha15, hT15⟩
  obtain ⟨g15, n15, a15, c15, rfl, hN15, hty15, hvo15, l0, l1', l2'⟩ := told_ent hr15 (x := ⟨tA, 1, V⟩) (hE15.trans HD.out.1)
  have hz15 := hT15.size
  have tyS : ∀ k, k = h6.S → ∃ t, HasTy w14 k t ∧ t ≠ 5 := fun k hk => by subst hk; exact ⟨_, ⟨_, _, (H13.out.2.1.below H14.out.2).obj⟩, by decide⟩
  have hvx := val_turns (val_turns (S := fun _ => False) H13.out.1 (turns_of_below H14.out.2) (fun _ h => h.elim)) hT15 tyS
  have k15 := hT15.obj H14.out.1 (by show ¬ (_ = _); omega)
  have B15 : Below w2.heap.size w2 w15 := (HA.out.2.trans (H13.out.2.2.below HA.out.2.size bS)).trans ((H14.out.2.mono (by omega)).trans (hT15.below (by omega) bS))
  have hwa := stoWatch_any w15 _ h6 _ 0 ha15
  have herf : errF d2.log 0 = 0 := by rw [HD.out.2]; rfl
  have hfrf : fromF d2.log 0 = [⟨1, tA, V, false⟩] := by rw [HD.out.2]; rfl
  have H15 := Lib.hid (And.intro hvx (And.intro k15 (And.intro B15 (And.intro ha15 (And.intro hvo15 (And.intro herf hfrf))))))
  dsimp only at l2'
  have L2 := Lib.hid l2'
  clear hli hE15 hr15 ha15 hT15 hvx k15 B15 tyS hvo15 l0 l1' l2' herf hfrf hty15 H13 H14
  go_wp2_with fail
  refine hwa.mono ?_
  rintro e w16 ⟨v16, E16, rfl, hE16, hr16, ha16, hT16, -⟩
  clear hwa
  rw [show ∀ r x : Int, errF ({ d2 with reads := r } : StoD).log x = errF d2.log x from fun _ _ => rfl]
  rw [H15.out.2.2.2.2.2.1]
  obtain ⟨g16, n16, a16, c16, rfl, hN16, hty16, hvo16, e0, e1, e2, e3, -⟩ := told_one hr16 (x := ⟨1, tA, V, false⟩) (hE16.trans H15.out.2.2.2.2.2.2)
  have tyS : ∀ k, k = h6.S → ∃ t, HasTy w15 k t ∧ t ≠ 5 := fun k hk => by subst hk; exact ⟨_, ⟨_, _, H15.out.2.2.2.1.obj⟩, by decide⟩
  have hvx := val_turns H15.out.1 hT16 tyS
  have hvl := val_turns H15.out.2.2.2.2.1 hT16 tyS
  have k16 := hT16.obj H15.out.2.1 (by show ¬ (_ = _); omega)
  have l2 := hT16.cell L2.out (by show ¬ (_ = _); dsimp only; omega)
  have B16 := H15.out.2.2.1.trans (hT16.below (by have := H15.out.2.2.1.size; omega) bS)
  have hs16 := HW.out.2.1.below' B16
  have x2 := cell_of_obj k16 2
  simp at x2
  dsimp only at e2
  have HQ := Lib.hid (And.intro hs16 (And.intro hvx (And.intro hvl (And.intro hvo16 B16))))
  clear hE16 hr16 ha16 hT16 tyS hvx hvl k16 B16 hs16 hvo16 e0 e1 e3 H15 L2 hty16
  go_wp2_with fail
  refine (refBytes_any _ V c13 a2 V c2 w16 HQ.out.2.1.at.1 HQ.out.1).mono ?_
  rintro e w' ⟨rfl, rfl⟩
  rw [show eqB V V = true from by simp [eqB]]
  go_wp2_with fail
  refine (refBytes_any _ V c15 a2 V c2 w16 HQ.out.2.2.1.at.1 HQ.out.1).mono ?_
  rintro e w' ⟨rfl, rfl⟩
  rw [show eqB V V = true from by simp [eqB]]
  go_wp2_with fail
  refine (refBytes_any _ V c16 a2 V c2 w16 HQ.out.2.2.2.1.at.1 HQ.out.1).mono ?_
  rintro e w' ⟨rfl, rfl⟩
  rw [show eqB V V = true from by simp [eqB]]
  go_wp2
  go_ret
  exact ⟨rfl, HW.out.1.trans (HQ.out.2.2.2.2.mono HW.out.1.size)⟩
end Go.Proofs.YtaleceobkbgcnaaGreat.Rp
