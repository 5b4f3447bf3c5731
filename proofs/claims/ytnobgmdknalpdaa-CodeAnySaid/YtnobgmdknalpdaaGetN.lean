/-
  The contract of code.GetNode. No conditions beyond what is written in each statement.
-/
import Derived.Test.YtnobgmdknalpdaaGet12
import Derived.Test.YtnobgmdknalpdaaGet6N
import Derived.Test.YtnobgmdknalpdaaNode1
set_option linter.unusedSimpArgs false
set_option linter.unusedVariables false
namespace Go.Proofs.Ytnobgmdknalpdaa
open Go.RowKit

def gNode (st : RS) : NodeD × RS :=
  let a := gName st
  let d := gRes a.2
  let f := gList gPair d.2
  let g := gList gPair f.2
  (⟨a.1, d.1.1, d.1.2.1, d.1.2.2, f.1, g.1⟩, g.2)
def zeroN : NodeD := ⟨⟨#[]⟩, 0, 0, 0, [], []⟩
def zeroNH : NodeH := ⟨none, 0, none, 0⟩
def getNodeR (l : List Int) : Option NodeD := if (!(gNode (gOpen 2 l)).2.2 && decide ((gNode (gOpen 2 l)).2.1.length = 0)) && nodeB (gNode (gOpen 2 l)).1 then some (gNode (gOpen 2 l)).1 else none
def NodeOwn (w : World) (N : Nat) (p : NodeD) (h : NodeH) : Prop := (rowP 36 h.la h.lc p.labels).In w N ∧ (rowP 44 h.ta h.tc p.taints).In w N
theorem NodeOwn.at {w : World} {N : Nat} {p : NodeD} {h : NodeH} (ho : NodeOwn w N p h) : NodeAt w p h := ⟨At2_of ho.1, owned_le ho.1, At2_of ho.2, owned_le ho.2⟩
theorem NodeOwn.below {w w' : World} {N : Nat} {p : NodeD} {h : NodeH} (ho : NodeOwn w N p h) (hb : Below w.heap.size w w') : NodeOwn w' N p h := ⟨ho.1.kept hb, ho.2.kept hb⟩
theorem NodeOwn.mono {w : World} {N N' : Nat} {p : NodeD} {h : NodeH} (ho : NodeOwn w N p h) (hN : N' ≤ N) : NodeOwn w N' p h := ⟨World.ownsRow.mono ho.1 hN, World.ownsRow.mono ho.2 hN⟩
theorem NodeOwn.setRow {w : World} {N : Nat} {p : NodeD} {h : NodeH} {A : Nat} (ho : NodeOwn w N p h) (hA : HasTy w A 32) (cs : Array Value) : NodeOwn (w.setRow A cs) N p h :=
  ⟨World.ownsRow.kept ho.1 (grown_setRow w A cs) (Or.inr (own_ne ho.1 hA (by intro e; simp [rowP] at e))), World.ownsRow.kept ho.2 (grown_setRow w A cs) (Or.inr (own_ne ho.2 hA (by intro e; simp [rowP] at e)))⟩
theorem rowP_tyN (ty : TypeId) (a : Option Addr) (cap : Nat) (l : List Str2) (ht : 32 ≠ ty) : ∀ r ∈ [rowP ty a cap l], 32 ≠ r.t := by
  intro r hr
  simp only [List.mem_cons, List.not_mem_nil, or_false] at hr
  subst hr
  exact ht
theorem rowP_tyP (a : Option Addr) (cap : Nat) (l : List Str2) : ∀ r ∈ [rowP 36 a cap l], 32 ≠ r.t := rowP_tyN _ a cap l (by decide)
theorem rowP_tyT (a : Option Addr) (cap : Nat) (l : List Str2) : ∀ r ∈ [rowP 44 a cap l], 32 ≠ r.t := rowP_tyN _ a cap l (by decide)
/-- What GetNode tells: the node, its lists in new memory, or zero and false. -/
def GetNodePost (w : World) (r : Option NodeD) (e : Ending) (w' : World) : Prop :=
  (∃ p h, r = some p ∧ e = .returned (.tuple #[nodeV p h, .bool true]) ∧ NodeOwn w' w.heap.size p h ∧ Below w.heap.size w w') ∨ (r = none ∧ e = .returned (.tuple #[nodeV zeroN zeroNH, .bool false]) ∧ Below w.heap.size w w')
abbrev zeroNC : Array Value := #[.string ⟨#[]⟩, .int .i64 0, .int .i64 0, .int .i64 0, .slice none 0 0, .slice none 0 0]
attribute [local irreducible] gWord gNum gName gRes gList gFlag gOpen gPair gToler gTerm

set_option maxRecDepth 100000 in
set_option maxHeartbeats 4000000 in
theorem getNode_any (a : Option Addr) (l : List Int) (cap : Nat) (w : World) (hat : AtB w a l) (hc1 : l.length ≤ cap) (hc2 : cap ≤ maxLen) :
    Calls Try.prog 14 #[.slice a l.length cap] w (GetNodePost w (getNodeR l)) := by
  have hatA : AtB (w.alloc (.cells zeroNC 32)) a l := fun i hi => by
    obtain ⟨b, off, ha, hb, h1, h2⟩ := hat i hi
    exact ⟨b, off, ha, by simp; omega, cell_later ((Below.refl _ _).alloc (Nat.le_refl _) _) h1, h2⟩
  have HA := Lib.hid (And.intro hatA (And.intro hc1 hc2))
  clear hat hatA hc1 hc2
  go_enter Try.func14, Try.ntmps14
  go_wp2_with fail
  refine (open_any a l cap 2 _ HA.out.1 HA.out.2.1 HA.out.2.2).mono ?_
  rintro e wb ⟨rfl, hr, hb, hs⟩
  rw [alloc_size] at hr hs
  have hs : w.heap.size + 1 < wb.heap.size := hs
  have S0 : PS 32 w (w.alloc (.cells zeroNC 32)) (wb.alloc (.cells zeroNC 32)) w.heap.size wb.heap.size (w.heap.size + 1) wb.heap.size (gOpen 2 l) zeroNC zeroNC [] :=
    { bel := (((Below.refl _ _).alloc (Nat.le_refl _) _).trans (hb.mono (by simp))).alloc (by omega) _
      rd := hr.alloc _
      a := by rw [Below.heap_alloc _ _ _ (by omega)]; exact (hb.block _ (by simp)).trans (heap_alloc_self _ _)
      b := heap_alloc_self _ _
      own := fun r h => by simp at h
      tys := fun r h => by simp at h
      la := Nat.le_refl _
      lr := by omega
      lb := by omega
      l0b := by simp; omega
      ar := by omega
      br := by omega
      ab := by omega
      rn := hs }
  have H := Lib.hid S0
  have HB := Lib.hid hs
  clear S0 hr hb
  go_wp2_with fail
  try clear cB fB
  refine Calls.mono (getName_any (w.heap.size + 1) (gOpen 2 l) (w.alloc (.cells zeroNC 32)) _ H.out.rd) ?_
  rintro e w1 ⟨rfl, hr1, hg1⟩
  have S := H.out.get hg1 hr1
  clear H hr1 hg1
  have cB := cell_of_obj S.b 0
  have fB := free_of_obj S.b 0
  simp at cB
  have S2 := S.set 0 (.string (gName (gOpen 2 l)).1)
  simp at S2
  have H := Lib.hid S2
  clear S S2
  go_wp2_with fail
  try clear cB fB
  refine Calls.mono (getRes_any (w.heap.size + 1) (gName (gOpen 2 l)).2 (w.alloc (.cells zeroNC 32)) _ H.out.rd) ?_
  rintro e w2 ⟨rfl, hr2, hg2⟩
  have S := H.out.get hg2 hr2
  clear H hr2 hg2
  have cB3 := cell_of_obj S.b 1
  have cB4 := cell_of_obj S.b 2
  have cB5 := cell_of_obj S.b 3
  have fB3 := free_of_obj S.b 1
  have fB4 := free_of_obj S.b 2
  have fB5 := free_of_obj S.b 3
  simp at cB3 cB4 cB5
  have S2 := ((S.set 1 (.int .i64 (gRes (gName (gOpen 2 l)).2).1.1)).set 2 (.int .i64 (gRes (gName (gOpen 2 l)).2).1.2.1)).set 3 (.int .i64 (gRes (gName (gOpen 2 l)).2).1.2.2)
  simp at S2
  have H := Lib.hid S2
  clear S S2
  go_wp2_with fail
  try clear cB fB
  refine Calls.mono (getListP_any (w.heap.size + 1) (gRes (gName (gOpen 2 l)).2).2 (w.alloc (.cells zeroNC 32)) _ H.out.rd) ?_
  rintro e w3 ⟨vv, rfl, ho3, hr3, hg3⟩
  obtain ⟨a3, c3, rfl⟩ := owns_form ho3
  have hoo3 := ho3.mono (base' := wb.heap.size) (Nat.le_of_lt (Array.getElem?_eq_some_iff.1 H.out.b).1)
  have S := (H.out.get hg3 hr3).add [rowP 36 a3 c3 (gList gPair (gRes (gName (gOpen 2 l)).2).2).1] (rowP_in hoo3) (rowP_tyP _ _ _)
  clear H hr3 hg3 ho3 hoo3
  have cB := cell_of_obj S.b 4
  have fB := free_of_obj S.b 4
  simp at cB
  have S2 := S.set 4 (.slice a3 (gList gPair (gRes (gName (gOpen 2 l)).2).2).1.length c3)
  simp at S2
  have H := Lib.hid S2
  clear S S2
  go_wp2_with fail
  try clear cB fB
  refine Calls.mono (getListN_any (w.heap.size + 1) (gList gPair (gRes (gName (gOpen 2 l)).2).2).2 (w.alloc (.cells zeroNC 32)) _ H.out.rd) ?_
  rintro e w4 ⟨vv, rfl, ho4, hr4, hg4⟩
  obtain ⟨a4, c4, rfl⟩ := owns_form ho4
  have hoo4 := ho4.mono (base' := wb.heap.size) (Nat.le_of_lt (Array.getElem?_eq_some_iff.1 H.out.b).1)
  have S := (H.out.get hg4 hr4).add [rowP 44 a4 c4 (gList gPair (gList gPair (gRes (gName (gOpen 2 l)).2).2).2).1] (rowP_in hoo4) (rowP_tyT _ _ _)
  clear H hr4 hg4 ho4 hoo4
  have cB := cell_of_obj S.b 5
  have fB := free_of_obj S.b 5
  simp at cB
  have S2 := S.set 5 (.slice a4 (gList gPair (gList gPair (gRes (gName (gOpen 2 l)).2).2).2).1.length c4)
  simp at S2
  have H := Lib.hid S2
  clear S S2
  go_wp2_with fail
  clear cB fB cB3 cB4 cB5 fB3 fB4 fB5
  refine (whole_any (w.heap.size + 1) (gList gPair (gList gPair (gRes (gName (gOpen 2 l)).2).2).2).2 (w.alloc (.cells zeroNC 32)) _ H.out.rd).mono ?_
  rintro e w' ⟨rfl, rfl⟩
  cases hw : (!(gList gPair (gList gPair (gRes (gName (gOpen 2 l)).2).2).2).2.2 && decide ((gList gPair (gList gPair (gRes (gName (gOpen 2 l)).2).2).2).2.1.length = 0))
  · have hw' : (!(gNode (gOpen 2 l)).2.2 && decide ((gNode (gOpen 2 l)).2.1.length = 0)) = false := hw
    have hn : getNodeR l = none := by unfold getNodeR; rw [hw']; rfl
    have HN := Lib.hid hn
    clear hn hw'
    go_wp2_with (refine wpList_store_rowTo rfl 32 (.tmp 2) (.tmp 28) rfl rfl w.heap.size zeroNC rfl rfl 32 zeroNC H.out.a (by kernel_rfl) rfl (by kernel_rfl) ?_)
    refine bodyPost_ret (v := .tuple #[.agg zeroNC, .bool false]) (results_row2 Try.results14 _ _ w.heap.size 32 zeroNC (0, 0) _ rfl (setRow_heap _ _ _ _ _ _ H.out.a) Try.underlying32 rfl (by kernel_rfl)) rfl ?_
    exact Or.inr ⟨HN.out, rfl, Below.setRow H.out.bel (Nat.le_refl _) _⟩
  · have hw' : (!(gNode (gOpen 2 l)).2.2 && decide ((gNode (gOpen 2 l)).2.1.length = 0)) = true := hw
    have HW := Lib.hid hw'
    clear hw hw'
    have cB := fun j => cell_of_obj H.out.b j
    have hown : NodeOwn _ wb.heap.size (gNode (gOpen 2 l)).1 ⟨a3, c3, a4, c4⟩ := ⟨H.out.own _ (by simp; exact Or.inr rfl), H.out.own _ (by simp; exact Or.inl rfl)⟩
    have HO := Lib.hid hown
    clear hown
    go_wp2_with fail
    refine (mayNode_any (gNode (gOpen 2 l)).1 ⟨a3, c3, a4, c4⟩ _ HO.out.at).mono ?_
    rintro e wc ⟨rfl, hbc⟩
    have ltA : w.heap.size < _ := (Array.getElem?_eq_some_iff.1 H.out.a).1
    have ltB : wb.heap.size < _ := (Array.getElem?_eq_some_iff.1 H.out.b).1
    have kA := (hbc.block _ ltA).trans H.out.a
    have kB := (hbc.block _ ltB).trans H.out.b
    have hT : HasTy wc w.heap.size 32 := ⟨_, _, kA⟩
    have hbel := H.out.bel.trans (hbc.mono H.out.bel.size)
    have HO2 := Lib.hid (And.intro (HO.out.below hbc) (And.intro hT (And.intro hbel (And.intro kA kB))))
    have hbs := HB.out
    clear cB HO ltA ltB kA kB hT hbel hbc H
    cases hm : nodeB (gNode (gOpen 2 l)).1
    · have hn : getNodeR l = none := by unfold getNodeR; rw [HW.out, hm]; rfl
      have HN := Lib.hid hn
      clear hn
      go_wp2_with (refine wpList_store_rowTo rfl 32 (.tmp 2) (.tmp 28) rfl rfl w.heap.size zeroNC rfl rfl 32 zeroNC HO2.out.2.2.2.1 (by kernel_rfl) rfl (by kernel_rfl) ?_)
      refine bodyPost_ret (v := .tuple #[.agg zeroNC, .bool false]) (results_row2 Try.results14 _ _ w.heap.size 32 zeroNC (0, 0) _ rfl (setRow_heap _ _ _ _ _ _ HO2.out.2.2.2.1) Try.underlying32 rfl (by kernel_rfl)) rfl ?_
      exact Or.inr ⟨HN.out, rfl, Below.setRow HO2.out.2.2.1 (Nat.le_refl _) _⟩
    · have hn : getNodeR l = some (gNode (gOpen 2 l)).1 := by unfold getNodeR; rw [HW.out, hm]; rfl
      have HN := Lib.hid hn
      clear hn
      go_wp2_with (first | (refine wpList_load_row rfl 32 (.tmp 5) rfl wb.heap.size rfl 32 _ (0, 0) _ HO2.out.2.2.2.2 Try.underlying32 rfl (by kernel_rfl) ?_) | (refine wpList_store_rowTo rfl 32 (.tmp 2) (.tmp 29) rfl rfl w.heap.size _ rfl rfl 32 zeroNC HO2.out.2.2.2.1 (by kernel_rfl) rfl (by kernel_rfl) ?_))
      refine bodyPost_ret (v := .tuple #[nodeV (gNode (gOpen 2 l)).1 ⟨a3, c3, a4, c4⟩, .bool true]) (results_row2 Try.results14 _ _ w.heap.size 32 _ (0, 0) _ rfl (setRow_heap _ _ _ _ _ _ HO2.out.2.2.2.1) Try.underlying32 rfl (by kernel_rfl)) rfl ?_
      refine Or.inl ⟨_, ⟨a3, c3, a4, c4⟩, HN.out, rfl, ?_, ?_⟩
      · exact (HO2.out.1.mono (by omega)).setRow HO2.out.2.1 _
      · exact Below.setRow HO2.out.2.2.1 (Nat.le_refl _) _
end Go.Proofs.Ytnobgmdknalpdaa
