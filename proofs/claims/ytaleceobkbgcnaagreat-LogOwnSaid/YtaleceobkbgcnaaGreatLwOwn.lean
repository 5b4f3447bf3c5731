/-
  The law LogOwn's walk. Its condition: the opening sentence.
-/
import Derived.Test.YtaleceobkbgcnaaGreatGLaw
set_option linter.unusedSimpArgs false
set_option linter.unusedVariables false
namespace Go.Proofs.YtaleceobkbgcnaaGreat.Rp
open Go.RowKit

set_option maxRecDepth 100000 in
set_option maxHeartbeats 4000000 in
theorem logOwn_walk (hBG : BegunP) (a : Option Addr) (l : List Int) (cap : Nat) (w : World) (hl : AtB w a l) (h1 : l.length ≤ cap) (h2 : cap ≤ maxLen) (hno : a = none → cap = 0) :
    Calls Tryz.prog 4 #[.slice a l.length cap] w fun e w' => e = .returned (.bool true) ∧ Below w.heap.size w w' := by
  obtain ⟨ml, eml, iml, jml, kml⟩ := cut_of l 20
  have aml := hl.take 20
  rw [← eml] at aml
  have cml : ml.length ≤ cap := by omega
  simp only [Int.cast_ofNat_Int] at iml
  have pml := min_cut iml
  clear eml jml hl h1
  obtain ⟨iB, hi, hz0, hz1, hz2⟩ := info_parts infoB8
  have HI := Lib.hid (And.intro hi (And.intro hz0 (And.intro hz1 hz2)))
  clear hi hz0 hz1 hz2
  go_enter Tryz.func4, Tryz.ntmps4
  go_wp2_with fail
  refine (hBG _).mono ?_
  rintro e w1 ⟨rfl, hb1⟩
  have aml1 := aml.below' hb1
  go_wp2_with (at_builtin; refine stand ?_)
  show wpList _ _ _ _ _ _
  refine wpList_append_opt rfl _ _ 28 rfl w1.heap.size 5 iB _ 1 1 Tryz.underlying28 HI.out.1 HI.out.2.1 HI.out.2.2.1 HI.out.2.2.2 rfl (by decide) (.slice (some ⟨w1.heap.size, 0, none⟩) 1 1) 1 [.int .u8 1] rfl (World.ownsRow_lit w1 #[.int .u8 1] 1 (Nat.le_refl _) (by decide) (show (#[Value.int .u8 1] : Array Value).size = 1 * 1 from rfl)) a ml.length cap (u8s ml) rfl (fun h => by have := hno h; omega) (by unfold u8s; rw [List.length_map, Nat.mul_one]) (atB_news' (aml1.below' ((Below.refl _ _).alloc (Nat.le_refl _) _))) (one_u8s _) (by unfold maxLen; omega) (by omega) (by simp) ?_
  intro v2 w2 o2 g2
  have hb2 : Below w1.heap.size w1 w2 := ((Below.refl _ _).alloc (Nat.le_refl _) _).trans (grown_below g2 (World.ownsRow_lit w1 #[.int .u8 1] 1 (Nat.le_refl _) (by decide) (show (#[Value.int .u8 1] : Array Value).size = 1 * 1 from rfl)) (by simp))
  obtain ⟨V, hV1, hV0, hVr, hVl, hVm⟩ : ∃ V : List Int, w2.ownsRow w1.heap.size 5 1 v2 V.length (u8s V) ∧ V.getD 0 0 = 1 ∧ (∀ y ∈ V, 0 ≤ y ∧ y ≤ 255) ∧ 0 < V.length ∧ V.length ≤ 21 := by
    refine ⟨1 :: ml, ?_, rfl, ?_, by simp, by simp; omega⟩
    · rw [List.length_cons, Nat.add_comm]; exact o2
    · intro y hy
      rcases List.mem_cons.1 hy with rfl | hy
      · decide
      · exact aml.range _ hy
  obtain ⟨a2, c2, rfl, k1, k2, k3⟩ := own_len hV1
  have hV2 := own_atB hV1 hVr
  have hbw2 := hb1.trans (hb2.mono hb1.size)
  have HW := Lib.hid (And.intro hbw2 (And.intro hV2 (And.intro hVr hV0)))
  clear o2 g2 hb2 aml aml1 iml pml cml kml hno hb1 hV1 hbw2 hVr h2 hV0
  go_wp2_with fail
  refine (logNew_any 5 w2).mono ?_
  rintro e w3 ⟨rfl, hw3⟩
  have hL3 : LogAt w3 w2.heap.size w2.heap.size (.slice none 0 0) [] (newD 5) := by subst hw3; exact logAt_new 5 w2 w2.heap.size (Nat.le_refl _)
  have hb3 : Below w2.heap.size w2 w3 := by subst hw3; exact (Below.refl _ _).alloc (Nat.le_refl _) _
  have hz3 : w3.heap.size = w2.heap.size + 1 := by subst hw3; simp
  clear hw3
  go_wp2_with (at_builtin; refine stand ?_)
  show wpList _ _ _ _ _ _
  refine wpList_append_opt rfl _ _ 28 rfl w3.heap.size 5 iB _ 1 1 Tryz.underlying28 HI.out.1 HI.out.2.1 HI.out.2.2.1 HI.out.2.2.2 rfl (by decide) (.slice none 0 0) 0 [] rfl (World.ownsRow_nil _ _ 5 1) a2 V.length c2 (u8s V) rfl (fun h => by have := k3 h; omega) (by unfold u8s; rw [List.length_map, Nat.mul_one]) (atB_news' (HW.out.2.1.below' hb3)) (one_u8s _) (by unfold maxLen; omega) (by omega) (Nat.le_refl _) ?_
  intro v4 w4 o4 g4
  have hb4 : Below w3.heap.size w3 w4 := grown_below g4 (World.ownsRow_nil _ _ 5 1) (Nat.le_refl _)
  rw [Nat.zero_add, List.nil_append] at o4
  obtain ⟨a4, c4, rfl, l1, l2, _⟩ := own_len o4
  obtain ⟨gv, rfl⟩ := own_some' o4 hVl
  have hg0 := (o4.lt gv rfl).1
  have hg1 := (o4.lt gv rfl).2
  have hk5 := heap_alloc_self w4 (.cells #[.int .i64 1, .string ⟨#[107]⟩, .slice (some ⟨gv, 0, none⟩) V.length c4, .bool false] 30)
  have hb5 : Below w4.heap.size w4 (w4.alloc (.cells #[.int .i64 1, .string ⟨#[107]⟩, .slice (some ⟨gv, 0, none⟩) V.length c4, .bool false] 30)) := (Below.refl _ _).alloc (Nat.le_refl _) _
  have hz5 : (w4.alloc (.cells #[.int .i64 1, .string ⟨#[107]⟩, .slice (some ⟨gv, 0, none⟩) V.length c4, .bool false] 30)).heap.size = w4.heap.size + 1 := by simp
  have o5 := row_turns (S := fun _ => False) o4 (turns_of_below hb5) (fun _ _ h => h)
  have hL5 := (hL3.below (hb4.trans (hb5.mono hb4.size))).rebase (B' := w4.heap.size + 1) (by rw [hz5]; exact Nat.le_refl _)
  have hadd := logAdd_any (w4.heap.size + 1) w2.heap.size _ [] (newD 5) (some ⟨w4.heap.size, 0, none⟩) [⟨1, ⟨#[107]⟩, V, false⟩] 1 _ hL5 (by rw [hz5]; exact Nat.le_refl _) (fun w' ht => by
    have hv' := val_turns (B := w3.heap.size) (l := V) ⟨o5, HW.out.2.2.1⟩ ht hL5.raw.tys
    have q := ht.obj hk5 (by rintro (e | e); · omega
                             · cases e)
    have hs := ht.size
    rw [hz5] at hs
    exact ev_at1 (by omega) (cell_of_obj q 0) (cell_of_obj q 1) (cell_of_obj q 2) (cell_of_obj q 3) hv'.at.1 l1 l2 (fun h => by cases h)) (by simp) (by intro x hx; rw [List.mem_singleton] at hx; subst hx; show V.length ≤ _; omega)
  have hb25 : Below w2.heap.size w2 (w4.alloc (.cells #[.int .i64 1, .string ⟨#[107]⟩, .slice (some ⟨gv, 0, none⟩) V.length c4, .bool false] 30)) := hb3.trans ((hb4.trans (hb5.mono hb4.size)).mono hb3.size)
  have hz34 := hb4.size
  have H5 := Lib.hid (And.intro hb25 o5)
  clear hk5 hb5 o5 hL5 hL3 hb3 hb4 o4 g4 hb25
  go_wp2_with fail
  refine hadd.mono ?_
  rintro e w6 ⟨rfl, v6, H6, hL6, hT6, _⟩
  have hfol : followB (newD 5).last [⟨1, ⟨#[107]⟩, V, false⟩] = true := follow_one (show (0 : Int) < 1 by decide)
  rw [hfol]
  rw [addD_room (newD_ok 5) hfol (show ((0 + 1 : Nat) : Int) ≤ 5 by decide)] at hL6
  clear hfol
  obtain ⟨d1, hL6, he1, hf1⟩ : ∃ d1, LogAt w6 (w4.heap.size + 1) w2.heap.size v6 H6 d1 ∧ errF d1 0 = 0 ∧ fromF d1 0 = [⟨1, ⟨#[107]⟩, V, false⟩] := ⟨_, hL6, rfl, rfl⟩
  have HD := Lib.hid (And.intro he1 hf1)
  clear he1 hf1
  have hz6 := hT6.size
  rw [hz5] at hz6
  have o6 := row_turns H5.out.2 hT6 (fun k hk hs => by
    have := (H5.out.2.lt k hk).1
    rcases hs with e | e
    · omega
    · cases e)
  have b6 := H5.out.1.trans (hT6.below (B := w2.heap.size) H5.out.1.size (fun x hx => by
    rcases hx with e | e
    · omega
    · cases e))
  have cv := o6.cellAt 0 (by rw [Nat.mul_one]; exact hVl)
  have fv := o6.frozenAt 0
  have hu0 : (u8s V)[0]? = some (.int .u8 1) := by
    unfold u8s
    have := HW.out.2.2.2
    rw [List.getD_eq_getElem?_getD, List.getElem?_eq_getElem hVl] at this
    rw [List.getElem?_map, List.getElem?_eq_getElem hVl]
    simp at this
    simp [this]
  rw [hu0] at cv
  have HU := Lib.hid hu0
  have H6' := Lib.hid (And.intro hL6 b6)
  clear hadd hT6 o6 H5 hL6 b6 hu0
  have kV : (0 : Int) < (V.length : Int) := by omega
  go_wp2_with fail
  have hL7 := H6'.out.1.low (w' := w6.setCell ⟨gv, 0, none⟩ (.int .u8 2)) (turns_setCell (S := fun k => k = gv) ⟨gv, 0, none⟩ rfl _) (by show ¬ (_ = _); omega) (fun k hk => by subst hk; omega)
  have b7 := H6'.out.2.setCell (p := ⟨gv, 0, none⟩) (by show w2.heap.size ≤ gv; omega) (.int .u8 2)
  generalize (w6.setCell ⟨gv, 0, none⟩ (.int .u8 2)) = w7 at hL7 b7 ⊢
  have H7 := Lib.hid (And.intro hL7 b7)
  clear hL7 b7 H6' cv fv
  refine (from_any _ _ _ _ _ 0 w7 H7.out.1).mono ?_
  rintro e w8 ⟨v8, E8, rfl, hE8, hr8, hb8, _⟩
  rw [HD.out.1]
  obtain ⟨g8, d8, a8, k8, rfl, hN8, hty8, hvo8, e0, e1, e2, e3, hf8⟩ := told_one hr8 (x := ⟨1, ⟨#[107]⟩, V, false⟩) (hE8.trans HD.out.2)
  have z8 := hb8.size
  obtain ⟨gx, rfl⟩ := own_some' hvo8.1 hVl
  have hat8 := hvo8.at.1
  have hs8 := HW.out.2.1.below' (H7.out.2.trans (hb8.mono H7.out.2.size))
  have cx := hvo8.1.cellAt 0 (by rw [Nat.mul_one]; exact hVl)
  rw [HU.out] at cx
  have fx := hvo8.1.frozenAt 0
  have hgx := (hvo8.1.lt gx rfl).1
  have n1 : ¬ gx = g8 := fun e => own_ne hvo8.1 hty8 (by decide) (by rw [← e]; rfl)
  have n2 : ¬ g8 = gx := fun e => n1 e.symm
  dsimp only at e0 e1 e2 e3 hgx
  have HQ := Lib.hid (And.intro hb8 (And.intro hs8 hat8))
  clear hE8 hr8 hvo8 hb8 hs8 hat8 hty8 e0 e3
  go_wp2_with fail
  refine (refBytes_any _ V k8 a2 V c2 w8 HQ.out.2.2 HQ.out.2.1).mono ?_
  rintro e w' ⟨rfl, rfl⟩
  rw [show eqB V V = true from by simp [eqB]]
  go_wp2_with fail
  have b10 := (HQ.out.1.setCell (p := ⟨gx, 0, none⟩) (by show w7.heap.size ≤ gx; omega) (.int .u8 2)).setCell (p := ⟨g8, 1, none⟩) (by show w7.heap.size ≤ g8; omega) (.string ⟨#[111, 116, 104, 101, 114]⟩)
  generalize ((w8.setCell ⟨gx, 0, none⟩ (.int .u8 2)).setCell ⟨g8, 1, none⟩ (.string ⟨#[111, 116, 104, 101, 114]⟩)) = w10 at b10 ⊢
  have H10 := Lib.hid (And.intro (H7.out.1.below b10) (H7.out.2.trans (b10.mono H7.out.2.size)))
  clear b10 cx fx e1 e2 hf8 HQ
  refine (from_any _ _ _ _ _ 0 w10 H10.out.1).mono ?_
  rintro e w11 ⟨v11, E11, rfl, hE11, hr11, hb11, _⟩
  rw [HD.out.1]
  obtain ⟨g11, d11, a11, k11, rfl, hN11, hty11, hvo11, e0, e1, e2, e3, hf11⟩ := told_one hr11 (x := ⟨1, ⟨#[107]⟩, V, false⟩) (hE11.trans HD.out.2)
  dsimp only at e0 e1 e2 e3
  have hat11 := hvo11.at.1
  have fin := H10.out.2.trans (hb11.mono H10.out.2.size)
  have hs11 := HW.out.2.1.below' fin
  have HQ := Lib.hid (And.intro fin (And.intro hs11 hat11))
  clear hE11 hr11 hvo11 hb11 hs11 hat11 fin e0 e3
  go_wp2_with fail
  refine (refBytes_any _ V k11 a2 V c2 w11 HQ.out.2.2 HQ.out.2.1).mono ?_
  rintro e w' ⟨rfl, rfl⟩
  rw [show eqB V V = true from by simp [eqB]]
  go_wp2
  go_ret
  exact ⟨rfl, HW.out.1.trans (HQ.out.1.mono HW.out.1.size)⟩
end Go.Proofs.YtaleceobkbgcnaaGreat.Rp
