/-
  The contracts of code.PutLease and code.GetLease. No conditions beyond what is written in each statement.
-/
import Derived.Test.YtaleceobkbgcnaaGreatGGetC
set_option linter.unusedSimpArgs false
set_option linter.unusedVariables false
namespace Go.Proofs.YtaleceobkbgcnaaGreat
open Go.RowKit

def leaseB (h d : Int) : Bool := decide (0 ≤ h ∧ h ≤ 7 ∧ 1 ≤ d ∧ d ≤ 1099511627776)
abbrev leaseV (h d : Int) : Value := .agg #[.int .i64 h, .int .i64 d]

set_option maxHeartbeats 1000000 in
theorem mayLease_any (h d : Int) (w : World) :
    Calls Tryz.prog 195 #[leaseV h d] w fun e w' => e = .returned (.bool (leaseB h d)) ∧ Below w.heap.size w w' := by
  go_enter Tryz.func195, Tryz.ntmps195
  go_wp2
  all_goals (go_ret; refine ⟨ret_bool ?_, (by (repeat (with_reducible first | exact Below.refl _ _ | refine Below.alloc ?_ ?_ _ | refine Below.setCell ?_ ?_ _ | refine Below.drew ?_ | refine below_drewN ?_ _)); all_goals (simp <;> omega))⟩; rw [Bool.eq_iff_iff]; simp [leaseB]; omega)

def leaseEnc (h d : Int) : List Value := if leaseB h d then wbytes 3 ++ wbytes h.toNat ++ wbytes d.toNat else []

set_option maxRecDepth 100000 in
set_option maxHeartbeats 1000000 in
theorem putLease_any (h d : Int) (w : World) :
    Calls Tryz.prog 158 #[leaseV h d] w (EncPost w (leaseEnc h d)) := by
  cases hm : leaseB h d
  · go_enter Tryz.func158, Tryz.ntmps158
    go_wp2_with fail
    refine (mayLease_any h d _).mono ?_
    rintro e w1 ⟨rfl, hb1⟩
    go_wp2
    go_ret
    refine ⟨_, rfl, ?_, ((Below.refl _ _).alloc (Nat.le_refl _) _).trans (hb1.mono (by simp))⟩
    have HM := hm
    unfold leaseEnc
    rw [HM]
    exact World.ownsRow_nil _ _ _ _
  · have hok : okInt h ∧ okInt d := by
      have := of_decide_eq_true hm
      exact ⟨⟨by omega, by omega⟩, ⟨by omega, by omega⟩⟩
    have P := Lib.hid hok
    have HM := Lib.hid hm
    clear hok
    go_enter Tryz.func158, Tryz.ntmps158
    go_wp2_with fail
    refine (mayLease_any h d _).mono ?_
    rintro e wb ⟨rfl, hb1⟩
    have HI : Hid (w.heap.size < wb.heap.size) := by have := hb1.size; simp at this; show _ < _; omega
    have HX : Hid (∀ o, wb.cell? ⟨w.heap.size, o, none⟩ = (w.alloc (.cells #[.int .i64 h, .int .i64 d] 223)).cell? ⟨w.heap.size, o, none⟩) := fun o => hb1.cell (p := ⟨w.heap.size, o, none⟩) (by simp)
    have hbw := ((Below.refl _ _).alloc (Nat.le_refl _) _).trans (hb1.mono (by simp))
    have HB := Lib.hid hbw
    clear hb1 hbw
    have hx0 := HX.out
    have hp0 := Puts.refl wb.heap.size wb
    have ho0 := World.ownsRow_nil wb wb.heap.size 5 1
    go_wp2_with fail
    refine Calls.mono (putNumI_any 3 _ 0 [] wb.heap.size wb (by decide) (by show (3 : Int) < _; decide) ho0 (Nat.le_refl _) (by omega)) ?_
    rintro e w1 ⟨v1, rfl, ho1, hr1⟩
    have hp1 := hp0.trans hr1
    have hx1 := fun o => (hp1.below.cell (p := ⟨w.heap.size, o, none⟩) HI.out).trans (HX.out o)
    clear hr1 hx0 hp0 ho0
    go_wp2_with fail
    refine Calls.mono (putNumI_any h _ _ _ wb.heap.size _ P.out.1.1 P.out.1.2 ho1 hp1.below.size (by omega)) ?_
    rintro e w2 ⟨v2, rfl, ho2, hr2⟩
    have hp2 := hp1.trans hr2
    have hx2 := fun o => (hp2.below.cell (p := ⟨w.heap.size, o, none⟩) HI.out).trans (HX.out o)
    clear hr2 hx1 hp1 ho1
    go_wp2_with fail
    refine Calls.mono (putNumL_any d _ _ _ wb.heap.size _ P.out.2.1 P.out.2.2 ho2 hp2.below.size (by omega)) ?_
    rintro e w3 ⟨v3, rfl, ho3, hr3⟩
    have hp3 := hp2.trans hr3
    have hx3 := fun o => (hp3.below.cell (p := ⟨w.heap.size, o, none⟩) HI.out).trans (HX.out o)
    clear hr3 hx2 hp2 ho2
    go_wp2
    go_ret
    refine ⟨v3, rfl, ?_, HB.out.trans (hp3.below.mono HB.out.size)⟩
    have HE := HM.out
    unfold leaseEnc
    rw [HE]
    have ho := ho3.mono HB.out.size
    rw [List.nil_append] at ho
    exact ho

def gLease (st : RS) : (Int × Int) × RS := (((gNum st).1, (gNum (gNum st).2).1), (gNum (gNum st).2).2)
def getLeaseR (l : List Int) : Option (Int × Int) := if (!(gLease (gOpen 3 l)).2.2 && decide ((gLease (gOpen 3 l)).2.1.length = 0)) && leaseB (gLease (gOpen 3 l)).1.1 (gLease (gOpen 3 l)).1.2 then some (gLease (gOpen 3 l)).1 else none
def leaseOk (r : Option (Int × Int)) : Bool := r.isSome
def leaseH (r : Option (Int × Int)) : Int := (r.getD (0, 0)).1
def leaseD (r : Option (Int × Int)) : Int := (r.getD (0, 0)).2

/-- What GetLease tells: the lease, or zero and false. -/
def GetLeasePost (w : World) (r : Option (Int × Int)) (e : Ending) (w' : World) : Prop := e = .returned (.tuple #[leaseV (leaseH r) (leaseD r), .bool (leaseOk r)]) ∧ Below w.heap.size w w'

attribute [local irreducible] gWord gNum gName gRes gList gFlag gOpen gPair gToler gTerm

set_option maxRecDepth 100000 in
set_option maxHeartbeats 4000000 in
theorem getLease_any (a : Option Addr) (l : List Int) (cap : Nat) (w : World) (hat : AtB w a l) (hc1 : l.length ≤ cap) (hc2 : cap ≤ maxLen) :
    Calls Tryz.prog 157 #[.slice a l.length cap] w (GetLeasePost w (getLeaseR l)) := by
  have hatA : AtB (w.alloc (.cells #[.int .i64 0, .int .i64 0] 223)) a l := fun i hi => by
    obtain ⟨b, off, ha, hb, h1, h2⟩ := hat i hi
    exact ⟨b, off, ha, by simp; omega, cell_later ((Below.refl _ _).alloc (Nat.le_refl _) _) h1, h2⟩
  have HA := Lib.hid (And.intro hatA (And.intro hc1 hc2))
  clear hat hatA hc1 hc2
  go_enter Tryz.func157, Tryz.ntmps157
  go_wp2_with fail
  refine (open_any a l cap 3 _ HA.out.1 HA.out.2.1 HA.out.2.2).mono ?_
  rintro e wb ⟨rfl, hr, hb, hs⟩
  rw [alloc_size] at hr hs
  have hs : w.heap.size + 1 < wb.heap.size := hs
  have S0 : PS 223 w (w.alloc (.cells #[.int .i64 0, .int .i64 0] 223)) (wb.alloc (.cells #[.int .i64 0, .int .i64 0] 223)) w.heap.size wb.heap.size (w.heap.size + 1) wb.heap.size (gOpen 3 l) #[.int .i64 0, .int .i64 0] #[.int .i64 0, .int .i64 0] [] :=
    { bel := (((Below.refl _ _).alloc (Nat.le_refl _) _).trans (hb.mono (by simp))).alloc (by omega) _
      rd := hr.alloc _
      a := by rw [Below.heap_alloc _ _ _ (by omega)]; exact (hb.block _ (by simp)).trans (heap_alloc_self _ _)
      b := heap_alloc_self _ _
      own := fun r h => by simp at h
      tys := fun r h => by simp at h
      la := Nat.le_refl _
      lr := by omega
      lb := by omega
      l0b := by simp; omega
      ar := by omega
      br := by omega
      ab := by omega
      rn := hs }
  have H := Lib.hid S0
  have HB := Lib.hid hs
  clear S0 hr hb
  go_wp2_with fail
  try clear cB fB
  refine Calls.mono (getNumI_any (w.heap.size + 1) (gOpen 3 l) (w.alloc (.cells #[.int .i64 0, .int .i64 0] 223)) _ H.out.rd) ?_
  rintro e w1 ⟨rfl, hr1, hg1⟩
  have S := H.out.get hg1 hr1
  clear H hr1 hg1
  have cB := cell_of_obj S.b 0
  have fB := free_of_obj S.b 0
  simp at cB
  have S2 := S.set 0 (.int .i64 (gNum (gOpen 3 l)).1)
  simp at S2
  have H := Lib.hid S2
  clear S S2
  go_wp2_with fail
  try clear cB fB
  refine Calls.mono (getNumL_any (w.heap.size + 1) (gNum (gOpen 3 l)).2 (w.alloc (.cells #[.int .i64 0, .int .i64 0] 223)) _ H.out.rd) ?_
  rintro e w2 ⟨rfl, hr2, hg2⟩
  have S := H.out.get hg2 hr2
  clear H hr2 hg2
  have cB := cell_of_obj S.b 1
  have fB := free_of_obj S.b 1
  simp at cB
  have S2 := S.set 1 (.int .i64 (gNum (gNum (gOpen 3 l)).2).1)
  simp at S2
  have H := Lib.hid S2
  clear S S2
  go_wp2_with fail
  clear cB fB
  refine (whole_any (w.heap.size + 1) (gNum (gNum (gOpen 3 l)).2).2 (w.alloc (.cells #[.int .i64 0, .int .i64 0] 223)) _ H.out.rd).mono ?_
  rintro e w' ⟨rfl, rfl⟩
  have cA := fun j => cell_of_obj H.out.a j
  have fA := fun j => free_of_obj H.out.a j
  cases hw : (!(gNum (gNum (gOpen 3 l)).2).2.2 && decide ((gNum (gNum (gOpen 3 l)).2).2.1.length = 0))
  · have hw' : (!(gLease (gOpen 3 l)).2.2 && decide ((gLease (gOpen 3 l)).2.1.length = 0)) = false := hw
    have hn : getLeaseR l = none := by unfold getLeaseR; rw [hw']; rfl
    have HN := Lib.hid hn
    clear hn hw'
    go_wp2
    refine bodyPost_ret (v := .tuple #[leaseV 0 0, .bool false]) (by simp [results, Tryz.results157, go_sem, cA]) rfl ⟨by rw [HN.out]; rfl, ?_⟩
    refine H.out.bel.trans ?_
    ((repeat (with_reducible first | exact Below.refl _ _ | refine Below.alloc ?_ ?_ _ | refine Below.setCell ?_ ?_ _ | refine Below.drew ?_ | refine below_drewN ?_ _)); all_goals (simp <;> omega))
  · have hw' : (!(gLease (gOpen 3 l)).2.2 && decide ((gLease (gOpen 3 l)).2.1.length = 0)) = true := hw
    have HW := Lib.hid hw'
    clear hw hw'
    have cB := fun j => cell_of_obj H.out.b j
    go_wp2_with fail
    refine (mayLease_any _ _ _).mono ?_
    rintro e wc ⟨rfl, hbc⟩
    have ltA : w.heap.size < _ := (Array.getElem?_eq_some_iff.1 H.out.a).1
    have ltB : wb.heap.size < _ := (Array.getElem?_eq_some_iff.1 H.out.b).1
    have kA := (hbc.block _ ltA).trans H.out.a
    have kB := (hbc.block _ ltB).trans H.out.b
    have cA' := fun j => cell_of_obj kA j
    have fA' := fun j => free_of_obj kA j
    have cB' := fun j => cell_of_obj kB j
    have hbel := H.out.bel.trans (hbc.mono H.out.bel.size)
    have HO2 := Lib.hid hbel
    clear cA fA cB ltA ltB kA kB hbel hbc H
    cases hm : leaseB (gNum (gOpen 3 l)).1 (gNum (gNum (gOpen 3 l)).2).1
    · have hn : getLeaseR l = none := by unfold getLeaseR; rw [HW.out]; simp only [gLease, hm]; rfl
      have HN := Lib.hid hn
      clear hn
      go_wp2
      refine bodyPost_ret (v := .tuple #[leaseV 0 0, .bool false]) (by simp [results, Tryz.results157, go_sem, cA']) rfl ⟨by rw [HN.out]; rfl, ?_⟩
      refine HO2.out.trans ?_
      ((repeat (with_reducible first | exact Below.refl _ _ | refine Below.alloc ?_ ?_ _ | refine Below.setCell ?_ ?_ _ | refine Below.drew ?_ | refine below_drewN ?_ _)); all_goals (simp <;> omega))
    · have hn : getLeaseR l = some ((gNum (gOpen 3 l)).1, (gNum (gNum (gOpen 3 l)).2).1) := by unfold getLeaseR; rw [HW.out]; simp only [gLease, hm]; rfl
      have HN := Lib.hid hn
      clear hn
      go_wp2
      refine bodyPost_ret (v := .tuple #[leaseV (gNum (gOpen 3 l)).1 (gNum (gNum (gOpen 3 l)).2).1, .bool true]) (by simp [results, Tryz.results157, go_sem, cA']) rfl ⟨by rw [HN.out]; rfl, ?_⟩
      refine HO2.out.trans ?_
      ((repeat (with_reducible first | exact Below.refl _ _ | refine Below.alloc ?_ ?_ _ | refine Below.setCell ?_ ?_ _ | refine Below.drew ?_ | refine below_drewN ?_ _)); all_goals (simp <;> omega))
end Go.Proofs.YtaleceobkbgcnaaGreat
