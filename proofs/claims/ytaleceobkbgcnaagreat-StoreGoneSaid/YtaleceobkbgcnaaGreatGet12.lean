/-
  The contract of code.GetPod. No conditions beyond what is written in each statement.
-/
import Derived.Test.YtaleceobkbgcnaaGreatGGetC
set_option linter.unusedSimpArgs false
set_option linter.unusedVariables false
namespace Go.Proofs.YtaleceobkbgcnaaGreat
open Go.RowKit

attribute [local irreducible] gWord gNum gName gRes gList gFlag gOpen gPair gToler gTerm

def zeroP : PodD := ⟨⟨#[]⟩, 0, 0, 0, 0, 0, [], [], [], [], ⟨#[]⟩, [], 0, [], ⟨#[]⟩, 0⟩
def zeroH : PodH := ⟨none, 0, none, 0, none, 0, none, 0, none, 0, none, 0⟩
def getPodR (l : List Int) : Option PodD := if (!(gPod (gOpen 1 l)).2.2 && decide ((gPod (gOpen 1 l)).2.1.length = 0)) && podB (gPod (gOpen 1 l)).1 then some (gPod (gOpen 1 l)).1 else none
/-- What GetPod tells: a pod of its own, or zero and false. -/
def GetPodPost (w : World) (r : Option PodD) (e : Ending) (w' : World) : Prop :=
  (∃ p h, r = some p ∧ e = .returned (.tuple #[podV p h, .bool true]) ∧ PodOwn w' w.heap.size p h ∧ Below w.heap.size w w') ∨ (r = none ∧ e = .returned (.tuple #[podV zeroP zeroH, .bool false]) ∧ Below w.heap.size w w')

abbrev zeroCells : Array Value := #[.string ⟨#[]⟩, .int .i64 0, .int .i64 0, .int .i64 0, .int .i64 0, .int .i64 0, .slice none 0 0, .slice none 0 0, .slice none 0 0, .slice none 0 0, .string ⟨#[]⟩, .slice none 0 0, .int .i64 0, .slice none 0 0, .string ⟨#[]⟩, .int .i64 0]

set_option maxRecDepth 100000 in
set_option maxHeartbeats 4000000 in
theorem getPod_any (a : Option Addr) (l : List Int) (cap : Nat) (w : World) (hat : AtB w a l) (hc1 : l.length ≤ cap) (hc2 : cap ≤ maxLen) :
    Calls Tryz.prog 156 #[.slice a l.length cap] w (GetPodPost w (getPodR l)) := by
  have hatA : AtB (w.alloc (.cells zeroCells 217)) a l := fun i hi => by
    obtain ⟨b, off, ha, hb, h1, h2⟩ := hat i hi
    exact ⟨b, off, ha, by simp; omega, cell_later ((Below.refl _ _).alloc (Nat.le_refl _) _) h1, h2⟩
  have HA := Lib.hid (And.intro hatA (And.intro hc1 hc2))
  clear hat hatA hc1 hc2
  go_enter Tryz.func156, Tryz.ntmps156
  go_wp2_with fail
  refine (open_any a l cap 1 _ HA.out.1 HA.out.2.1 HA.out.2.2).mono ?_
  rintro e wb ⟨rfl, hr, hb, hs⟩
  rw [alloc_size] at hr hs
  have hs : w.heap.size + 1 < wb.heap.size := hs
  have S0 : PS 217 w (w.alloc (.cells zeroCells 217)) (wb.alloc (.cells zeroCells 217)) w.heap.size wb.heap.size (w.heap.size + 1) wb.heap.size (gOpen 1 l) zeroCells zeroCells [] :=
    { bel := (((Below.refl _ _).alloc (Nat.le_refl _) _).trans (hb.mono (by simp))).alloc (by omega) _
      rd := hr.alloc _
      a := by rw [Below.heap_alloc _ _ _ (by omega)]; exact (hb.block _ (by simp)).trans (heap_alloc_self _ _)
      b := heap_alloc_self _ _
      own := fun r h => by simp at h
      tys := fun r h => by simp at h
      la := Nat.le_refl _
      lr := by omega
      lb := by omega
      l0b := by simp; omega
      ar := by omega
      br := by omega
      ab := by omega
      rn := hs }
  have H := Lib.hid S0
  have HB := Lib.hid hs
  clear S0 hr hb
  go_wp2_with fail
  try clear cB fB
  refine Calls.mono (getName_any (w.heap.size + 1) (gOpen 1 l) (w.alloc (.cells zeroCells 217)) _ H.out.rd) ?_
  rintro e w1 ⟨rfl, hr1, hg1⟩
  have S := H.out.get hg1 hr1
  clear H hr1 hg1
  have cB := cell_of_obj S.b 0
  have fB := free_of_obj S.b 0
  simp at cB
  have S2 := S.set 0 (.string (gName (gOpen 1 l)).1)
  simp at S2
  have H := Lib.hid S2
  clear S S2
  go_wp2_with fail
  try clear cB fB
  refine Calls.mono (getNumL_any (w.heap.size + 1) (gName (gOpen 1 l)).2 (w.alloc (.cells zeroCells 217)) _ H.out.rd) ?_
  rintro e w2 ⟨rfl, hr2, hg2⟩
  have S := H.out.get hg2 hr2
  clear H hr2 hg2
  have cB := cell_of_obj S.b 1
  have fB := free_of_obj S.b 1
  simp at cB
  have S2 := S.set 1 (.int .i64 (gNum (gName (gOpen 1 l)).2).1)
  simp at S2
  have H := Lib.hid S2
  clear S S2
  go_wp2_with fail
  try clear cB fB
  refine Calls.mono (getNumI_any (w.heap.size + 1) (gNum (gName (gOpen 1 l)).2).2 (w.alloc (.cells zeroCells 217)) _ H.out.rd) ?_
  rintro e w3 ⟨rfl, hr3, hg3⟩
  have S := H.out.get hg3 hr3
  clear H hr3 hg3
  have cB := cell_of_obj S.b 2
  have fB := free_of_obj S.b 2
  simp at cB
  have S2 := S.set 2 (.int .i64 (gNum (gNum (gName (gOpen 1 l)).2).2).1)
  simp at S2
  have H := Lib.hid S2
  clear S S2
  go_wp2_with fail
  try clear cB fB
  refine Calls.mono (getRes_any (w.heap.size + 1) (gNum (gNum (gName (gOpen 1 l)).2).2).2 (w.alloc (.cells zeroCells 217)) _ H.out.rd) ?_
  rintro e w4 ⟨rfl, hr4, hg4⟩
  have S := H.out.get hg4 hr4
  clear H hr4 hg4
  have cB3 := cell_of_obj S.b 3
  have cB4 := cell_of_obj S.b 4
  have cB5 := cell_of_obj S.b 5
  have fB3 := free_of_obj S.b 3
  have fB4 := free_of_obj S.b 4
  have fB5 := free_of_obj S.b 5
  simp at cB3 cB4 cB5
  have S2 := ((S.set 3 (.int .i64 (gRes (gNum (gNum (gName (gOpen 1 l)).2).2).2).1.1)).set 4 (.int .i64 (gRes (gNum (gNum (gName (gOpen 1 l)).2).2).2).1.2.1)).set 5 (.int .i64 (gRes (gNum (gNum (gName (gOpen 1 l)).2).2).2).1.2.2)
  simp at S2
  have H := Lib.hid S2
  clear S S2
  go_wp2_with fail
  try clear cB fB
  refine Calls.mono (getListI_any (w.heap.size + 1) (gRes (gNum (gNum (gName (gOpen 1 l)).2).2).2).2 (w.alloc (.cells zeroCells 217)) _ H.out.rd) ?_
  rintro e w5 ⟨vv, rfl, ho5, hr5, hg5⟩
  obtain ⟨a5, c5, rfl⟩ := owns_form ho5
  have hoo5 := ho5.mono (base' := wb.heap.size) (Nat.le_of_lt (Array.getElem?_eq_some_iff.1 H.out.b).1)
  have S := (H.out.get hg5 hr5).add [rowI a5 c5 (gList gNum (gRes (gNum (gNum (gName (gOpen 1 l)).2).2).2).2).1] (rowI_in hoo5) (rowI_ty _ _ _)
  clear H hr5 hg5 ho5 hoo5
  have cB := cell_of_obj S.b 6
  have fB := free_of_obj S.b 6
  simp at cB
  have S2 := S.set 6 (.slice a5 (gList gNum (gRes (gNum (gNum (gName (gOpen 1 l)).2).2).2).2).1.length c5)
  simp at S2
  have H := Lib.hid S2
  clear S S2
  go_wp2_with fail
  try clear cB fB
  refine Calls.mono (getListP_any (w.heap.size + 1) (gList gNum (gRes (gNum (gNum (gName (gOpen 1 l)).2).2).2).2).2 (w.alloc (.cells zeroCells 217)) _ H.out.rd) ?_
  rintro e w6 ⟨vv, rfl, ho6, hr6, hg6⟩
  obtain ⟨a6, c6, rfl⟩ := owns_form ho6
  have hoo6 := ho6.mono (base' := wb.heap.size) (Nat.le_of_lt (Array.getElem?_eq_some_iff.1 H.out.b).1)
  have S := (H.out.get hg6 hr6).add [rowP 230 a6 c6 (gList gPair (gList gNum (gRes (gNum (gNum (gName (gOpen 1 l)).2).2).2).2).2).1] (rowP_in hoo6) (rowP_ty _ _ _)
  clear H hr6 hg6 ho6 hoo6
  have cB := cell_of_obj S.b 7
  have fB := free_of_obj S.b 7
  simp at cB
  have S2 := S.set 7 (.slice a6 (gList gPair (gList gNum (gRes (gNum (gNum (gName (gOpen 1 l)).2).2).2).2).2).1.length c6)
  simp at S2
  have H := Lib.hid S2
  clear S S2
  go_wp2_with fail
  try clear cB fB
  refine Calls.mono (getListT_any (w.heap.size + 1) (gList gPair (gList gNum (gRes (gNum (gNum (gName (gOpen 1 l)).2).2).2).2).2).2 (w.alloc (.cells zeroCells 217)) _ H.out.rd) ?_
  rintro e w7 ⟨vv, l7, rfl, hm7, ho7, hv7, hr7, hg7⟩
  have hl7 : l7.length = (gList gTerm (gList gPair (gList gNum (gRes (gNum (gNum (gName (gOpen 1 l)).2).2).2).2).2).2).1.length := by rw [← hm7, List.length_map]
  obtain ⟨a7, c7, rfl⟩ := owns_form ho7
  have hoo7 := ho7.mono (base' := wb.heap.size) (Nat.le_of_lt (Array.getElem?_eq_some_iff.1 H.out.b).1)
  have hvv7 : ∀ x ∈ l7, OwnV w7 wb.heap.size x := fun x hx => World.ownsRow.mono (hv7 x hx) (Nat.le_of_lt (Array.getElem?_eq_some_iff.1 H.out.b).1)
  have S := (H.out.get hg7 hr7).add (rowsT a7 c7 l7) (rowsT_in hoo7 hvv7) (rowsT_ty _ _ _)
  rw [hl7]
  have HL7 := Lib.hid (And.intro hm7 hl7)
  clear H hr7 hg7 ho7 hoo7 hv7 hvv7 hm7 hl7
  have cB := cell_of_obj S.b 8
  have fB := free_of_obj S.b 8
  simp at cB
  have S2 := S.set 8 (.slice a7 (gList gTerm (gList gPair (gList gNum (gRes (gNum (gNum (gName (gOpen 1 l)).2).2).2).2).2).2).1.length c7)
  simp at S2
  have H := Lib.hid S2
  clear S S2
  go_wp2_with fail
  try clear cB fB
  refine Calls.mono (getListL_any (w.heap.size + 1) (gList gTerm (gList gPair (gList gNum (gRes (gNum (gNum (gName (gOpen 1 l)).2).2).2).2).2).2).2 (w.alloc (.cells zeroCells 217)) _ H.out.rd) ?_
  rintro e w8 ⟨vv, rfl, ho8, hr8, hg8⟩
  obtain ⟨a8, c8, rfl⟩ := owns_form ho8
  have hoo8 := ho8.mono (base' := wb.heap.size) (Nat.le_of_lt (Array.getElem?_eq_some_iff.1 H.out.b).1)
  have S := (H.out.get hg8 hr8).add [rowL a8 c8 (gList gToler (gList gTerm (gList gPair (gList gNum (gRes (gNum (gNum (gName (gOpen 1 l)).2).2).2).2).2).2).2).1] (rowL_in hoo8) (rowL_ty _ _ _)
  clear H hr8 hg8 ho8 hoo8
  have cB := cell_of_obj S.b 9
  have fB := free_of_obj S.b 9
  simp at cB
  have S2 := S.set 9 (.slice a8 (gList gToler (gList gTerm (gList gPair (gList gNum (gRes (gNum (gNum (gName (gOpen 1 l)).2).2).2).2).2).2).2).1.length c8)
  simp at S2
  have H := Lib.hid S2
  clear S S2
  go_wp2_with fail
  try clear cB fB
  refine Calls.mono (getName_any (w.heap.size + 1) (gList gToler (gList gTerm (gList gPair (gList gNum (gRes (gNum (gNum (gName (gOpen 1 l)).2).2).2).2).2).2).2).2 (w.alloc (.cells zeroCells 217)) _ H.out.rd) ?_
  rintro e w9 ⟨rfl, hr9, hg9⟩
  have S := H.out.get hg9 hr9
  clear H hr9 hg9
  have cB := cell_of_obj S.b 10
  have fB := free_of_obj S.b 10
  simp at cB
  have S2 := S.set 10 (.string (gName (gList gToler (gList gTerm (gList gPair (gList gNum (gRes (gNum (gNum (gName (gOpen 1 l)).2).2).2).2).2).2).2).2).1)
  simp at S2
  have H := Lib.hid S2
  clear S S2
  go_wp2_with fail
  try clear cB fB
  refine Calls.mono (getListT_any (w.heap.size + 1) (gName (gList gToler (gList gTerm (gList gPair (gList gNum (gRes (gNum (gNum (gName (gOpen 1 l)).2).2).2).2).2).2).2).2).2 (w.alloc (.cells zeroCells 217)) _ H.out.rd) ?_
  rintro e w10 ⟨vv, l10, rfl, hm10, ho10, hv10, hr10, hg10⟩
  have hl10 : l10.length = (gList gTerm (gName (gList gToler (gList gTerm (gList gPair (gList gNum (gRes (gNum (gNum (gName (gOpen 1 l)).2).2).2).2).2).2).2).2).2).1.length := by rw [← hm10, List.length_map]
  obtain ⟨a10, c10, rfl⟩ := owns_form ho10
  have hoo10 := ho10.mono (base' := wb.heap.size) (Nat.le_of_lt (Array.getElem?_eq_some_iff.1 H.out.b).1)
  have hvv10 : ∀ x ∈ l10, OwnV w10 wb.heap.size x := fun x hx => World.ownsRow.mono (hv10 x hx) (Nat.le_of_lt (Array.getElem?_eq_some_iff.1 H.out.b).1)
  have S := (H.out.get hg10 hr10).add (rowsT a10 c10 l10) (rowsT_in hoo10 hvv10) (rowsT_ty _ _ _)
  rw [hl10]
  have HL10 := Lib.hid (And.intro hm10 hl10)
  clear H hr10 hg10 ho10 hoo10 hv10 hvv10 hm10 hl10
  have cB := cell_of_obj S.b 11
  have fB := free_of_obj S.b 11
  simp at cB
  have S2 := S.set 11 (.slice a10 (gList gTerm (gName (gList gToler (gList gTerm (gList gPair (gList gNum (gRes (gNum (gNum (gName (gOpen 1 l)).2).2).2).2).2).2).2).2).2).1.length c10)
  simp at S2
  have H := Lib.hid S2
  clear S S2
  go_wp2_with fail
  try clear cB fB
  refine Calls.mono (getNumI_any (w.heap.size + 1) (gList gTerm (gName (gList gToler (gList gTerm (gList gPair (gList gNum (gRes (gNum (gNum (gName (gOpen 1 l)).2).2).2).2).2).2).2).2).2).2 (w.alloc (.cells zeroCells 217)) _ H.out.rd) ?_
  rintro e w11 ⟨rfl, hr11, hg11⟩
  have S := H.out.get hg11 hr11
  clear H hr11 hg11
  have cB := cell_of_obj S.b 12
  have fB := free_of_obj S.b 12
  simp at cB
  have S2 := S.set 12 (.int .i64 (gNum (gList gTerm (gName (gList gToler (gList gTerm (gList gPair (gList gNum (gRes (gNum (gNum (gName (gOpen 1 l)).2).2).2).2).2).2).2).2).2).2).1)
  simp at S2
  have H := Lib.hid S2
  clear S S2
  go_wp2_with fail
  try clear cB fB
  refine Calls.mono (getListT_any (w.heap.size + 1) (gNum (gList gTerm (gName (gList gToler (gList gTerm (gList gPair (gList gNum (gRes (gNum (gNum (gName (gOpen 1 l)).2).2).2).2).2).2).2).2).2).2).2 (w.alloc (.cells zeroCells 217)) _ H.out.rd) ?_
  rintro e w12 ⟨vv, l12, rfl, hm12, ho12, hv12, hr12, hg12⟩
  have hl12 : l12.length = (gList gTerm (gNum (gList gTerm (gName (gList gToler (gList gTerm (gList gPair (gList gNum (gRes (gNum (gNum (gName (gOpen 1 l)).2).2).2).2).2).2).2).2).2).2).2).1.length := by rw [← hm12, List.length_map]
  obtain ⟨a12, c12, rfl⟩ := owns_form ho12
  have hoo12 := ho12.mono (base' := wb.heap.size) (Nat.le_of_lt (Array.getElem?_eq_some_iff.1 H.out.b).1)
  have hvv12 : ∀ x ∈ l12, OwnV w12 wb.heap.size x := fun x hx => World.ownsRow.mono (hv12 x hx) (Nat.le_of_lt (Array.getElem?_eq_some_iff.1 H.out.b).1)
  have S := (H.out.get hg12 hr12).add (rowsT a12 c12 l12) (rowsT_in hoo12 hvv12) (rowsT_ty _ _ _)
  rw [hl12]
  have HL12 := Lib.hid (And.intro hm12 hl12)
  clear H hr12 hg12 ho12 hoo12 hv12 hvv12 hm12 hl12
  have cB := cell_of_obj S.b 13
  have fB := free_of_obj S.b 13
  simp at cB
  have S2 := S.set 13 (.slice a12 (gList gTerm (gNum (gList gTerm (gName (gList gToler (gList gTerm (gList gPair (gList gNum (gRes (gNum (gNum (gName (gOpen 1 l)).2).2).2).2).2).2).2).2).2).2).2).1.length c12)
  simp at S2
  have H := Lib.hid S2
  clear S S2
  go_wp2_with fail
  try clear cB fB
  refine Calls.mono (getName_any (w.heap.size + 1) (gList gTerm (gNum (gList gTerm (gName (gList gToler (gList gTerm (gList gPair (gList gNum (gRes (gNum (gNum (gName (gOpen 1 l)).2).2).2).2).2).2).2).2).2).2).2).2 (w.alloc (.cells zeroCells 217)) _ H.out.rd) ?_
  rintro e w13 ⟨rfl, hr13, hg13⟩
  have S := H.out.get hg13 hr13
  clear H hr13 hg13
  have cB := cell_of_obj S.b 14
  have fB := free_of_obj S.b 14
  simp at cB
  have S2 := S.set 14 (.string (gName (gList gTerm (gNum (gList gTerm (gName (gList gToler (gList gTerm (gList gPair (gList gNum (gRes (gNum (gNum (gName (gOpen 1 l)).2).2).2).2).2).2).2).2).2).2).2).2).1)
  simp at S2
  have H := Lib.hid S2
  clear S S2
  go_wp2_with fail
  try clear cB fB
  refine Calls.mono (getNumL_any (w.heap.size + 1) (gName (gList gTerm (gNum (gList gTerm (gName (gList gToler (gList gTerm (gList gPair (gList gNum (gRes (gNum (gNum (gName (gOpen 1 l)).2).2).2).2).2).2).2).2).2).2).2).2).2 (w.alloc (.cells zeroCells 217)) _ H.out.rd) ?_
  rintro e w14 ⟨rfl, hr14, hg14⟩
  have S := H.out.get hg14 hr14
  clear H hr14 hg14
  have cB := cell_of_obj S.b 15
  have fB := free_of_obj S.b 15
  simp at cB
  have S2 := S.set 15 (.int .i64 (gNum (gName (gList gTerm (gNum (gList gTerm (gName (gList gToler (gList gTerm (gList gPair (gList gNum (gRes (gNum (gNum (gName (gOpen 1 l)).2).2).2).2).2).2).2).2).2).2).2).2).2).1)
  simp at S2
  have H := Lib.hid S2
  clear S S2
  go_wp2_with fail
  clear cB fB cB3 cB4 cB5 fB3 fB4 fB5
  refine (whole_any (w.heap.size + 1) (gNum (gName (gList gTerm (gNum (gList gTerm (gName (gList gToler (gList gTerm (gList gPair (gList gNum (gRes (gNum (gNum (gName (gOpen 1 l)).2).2).2).2).2).2).2).2).2).2).2).2).2).2 (w.alloc (.cells zeroCells 217)) _ H.out.rd).mono ?_
  rintro e w' ⟨rfl, rfl⟩
  have cA := fun j => cell_of_obj H.out.a j
  have fA := fun j => free_of_obj H.out.a j
  have hp : (gPod (gOpen 1 l)).2 = (gNum (gName (gList gTerm (gNum (gList gTerm (gName (gList gToler (gList gTerm (gList gPair (gList gNum (gRes (gNum (gNum (gName (gOpen 1 l)).2).2).2).2).2).2).2).2).2).2).2).2).2).2 := rfl
  cases hw : (!(gNum (gName (gList gTerm (gNum (gList gTerm (gName (gList gToler (gList gTerm (gList gPair (gList gNum (gRes (gNum (gNum (gName (gOpen 1 l)).2).2).2).2).2).2).2).2).2).2).2).2).2).2.2 && decide ((gNum (gName (gList gTerm (gNum (gList gTerm (gName (gList gToler (gList gTerm (gList gPair (gList gNum (gRes (gNum (gNum (gName (gOpen 1 l)).2).2).2).2).2).2).2).2).2).2).2).2).2).2.1.length = 0))
  · have hw' : (!(gPod (gOpen 1 l)).2.2 && decide ((gPod (gOpen 1 l)).2.1.length = 0)) = false := hw
    have hn : getPodR l = none := by unfold getPodR; rw [hw']; rfl
    have HN := Lib.hid hn
    clear hn hw' cA fA
    go_wp2_with (refine wpList_store_rowTo rfl 217 (.tmp 2) (.tmp 58) rfl rfl w.heap.size zeroCells rfl rfl 217 zeroCells H.out.a (by kernel_rfl) rfl (by kernel_rfl) ?_)
    refine bodyPost_ret (v := .tuple #[.agg zeroCells, .bool false]) (results_row2 Tryz.results156 _ _ w.heap.size 217 zeroCells (0, 0) _ rfl (setRow_heap _ _ _ _ _ _ H.out.a) Tryz.underlying217 rfl (by kernel_rfl)) rfl ?_
    exact Or.inr ⟨HN.out, rfl, Below.setRow H.out.bel (Nat.le_refl _) _⟩
  · have hw' : (!(gPod (gOpen 1 l)).2.2 && decide ((gPod (gOpen 1 l)).2.1.length = 0)) = true := hw
    have HW := Lib.hid hw'
    clear hw hw' hp cA fA
    have cB := fun j => cell_of_obj H.out.b j
    have hown : PodOwn _ wb.heap.size (gPod (gOpen 1 l)).1 ⟨a5, c5, a6, c6, a7, c7, a8, c8, a10, c10, a12, c12⟩ := ⟨l7, l10, l12, HL7.out.1, HL10.out.1, HL12.out.1, fun r hr => H.out.own r (by
      have hr' := hr
      simp only [podRows, List.append_assoc, List.append_nil, List.cons_append, List.nil_append] at hr' ⊢
      exact hr')⟩
    have HO := Lib.hid hown
    clear hown
    go_wp2_with fail
    refine (mayPod_any (gPod (gOpen 1 l)).1 ⟨a5, c5, a6, c6, a7, c7, a8, c8, a10, c10, a12, c12⟩ _ HO.out.at).mono ?_
    rintro e wc ⟨rfl, hbc⟩
    have ltA : w.heap.size < _ := (Array.getElem?_eq_some_iff.1 H.out.a).1
    have ltB : wb.heap.size < _ := (Array.getElem?_eq_some_iff.1 H.out.b).1
    have kA := (hbc.block _ ltA).trans H.out.a
    have kB := (hbc.block _ ltB).trans H.out.b
    have hT : HasTy wc w.heap.size 217 := ⟨_, _, kA⟩
    have hbel := H.out.bel.trans (hbc.mono H.out.bel.size)
    have HO2 := Lib.hid (And.intro (HO.out.below hbc) (And.intro hT (And.intro hbel (And.intro kA kB))))
    have hbs := HB.out
    clear cB HO ltA ltB kA kB hT hbel hbc H
    cases hm : podB (gPod (gOpen 1 l)).1
    · have hn : getPodR l = none := by unfold getPodR; rw [HW.out, hm]; rfl
      have HN := Lib.hid hn
      clear hn
      go_wp2_with (refine wpList_store_rowTo rfl 217 (.tmp 2) (.tmp 58) rfl rfl w.heap.size zeroCells rfl rfl 217 zeroCells HO2.out.2.2.2.1 (by kernel_rfl) rfl (by kernel_rfl) ?_)
      refine bodyPost_ret (v := .tuple #[.agg zeroCells, .bool false]) (results_row2 Tryz.results156 _ _ w.heap.size 217 zeroCells (0, 0) _ rfl (setRow_heap _ _ _ _ _ _ HO2.out.2.2.2.1) Tryz.underlying217 rfl (by kernel_rfl)) rfl ?_
      exact Or.inr ⟨HN.out, rfl, Below.setRow HO2.out.2.2.1 (Nat.le_refl _) _⟩
    · have hn : getPodR l = some (gPod (gOpen 1 l)).1 := by unfold getPodR; rw [HW.out, hm]; rfl
      have HN := Lib.hid hn
      clear hn
      go_wp2_with (first | (refine wpList_load_row rfl 217 (.tmp 5) rfl wb.heap.size rfl 217 _ (0, 0) _ HO2.out.2.2.2.2 Tryz.underlying217 rfl (by kernel_rfl) ?_) | (refine wpList_store_rowTo rfl 217 (.tmp 2) (.tmp 59) rfl rfl w.heap.size _ rfl rfl 217 zeroCells HO2.out.2.2.2.1 (by kernel_rfl) rfl (by kernel_rfl) ?_))
      refine bodyPost_ret (v := .tuple #[podV (gPod (gOpen 1 l)).1 ⟨a5, c5, a6, c6, a7, c7, a8, c8, a10, c10, a12, c12⟩, .bool true]) (results_row2 Tryz.results156 _ _ w.heap.size 217 _ (0, 0) _ rfl (setRow_heap _ _ _ _ _ _ HO2.out.2.2.2.1) Tryz.underlying217 rfl (by kernel_rfl)) rfl ?_
      refine Or.inl ⟨_, ⟨a5, c5, a6, c6, a7, c7, a8, c8, a10, c10, a12, c12⟩, HN.out, rfl, ?_, ?_⟩
      · have hb0 : PodBeside wc w.heap.size _ _ w.heap.size := ⟨HO2.out.1.mono (by omega), HO2.out.2.1⟩
        exact hb0.setRow _
      · exact Below.setRow HO2.out.2.2.1 (Nat.le_refl _) _
end Go.Proofs.YtaleceobkbgcnaaGreat
