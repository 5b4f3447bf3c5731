/-
  The contracts of obj.MayNode and code.PutNode. No conditions beyond what is written in each statement.
-/
import Derived.Test.YtnobgmdknalpdaaPut6
set_option linter.unusedSimpArgs false
set_option linter.unusedVariables false
namespace Go.Proofs.Ytnobgmdknalpdaa
open Go.RowKit

structure NodeD where
  name : ByteArray
  r0 : Int
  r1 : Int
  r2 : Int
  labels : List Str2
  taints : List Str2
structure NodeH where
  la : Option Addr
  lc : Nat
  ta : Option Addr
  tc : Nat
abbrev nodeV (p : NodeD) (h : NodeH) : Value := .agg #[.string p.name, .int .i64 p.r0, .int .i64 p.r1, .int .i64 p.r2, .slice h.la p.labels.length h.lc, .slice h.ta p.taints.length h.tc]
abbrev nodeBox (p : NodeD) (h : NodeH) : Obj := .cells #[.string p.name, .int .i64 p.r0, .int .i64 p.r1, .int .i64 p.r2, .slice h.la p.labels.length h.lc, .slice h.ta p.taints.length h.tc] 32
structure NodeAt (w : World) (p : NodeD) (h : NodeH) : Prop where
  labels : At2 w h.la p.labels
  labn : p.labels.length ≤ 9223372036854775807
  taints : At2 w h.ta p.taints
  tain : p.taints.length ≤ 9223372036854775807
theorem NodeAt.below {w w1 : World} {p : NodeD} {h : NodeH} (hp : NodeAt w p h) (hb : Below w.heap.size w w1) : NodeAt w1 p h := ⟨hp.labels.below hb, hp.labn, hp.taints.below hb, hp.tain⟩
def nodeB (p : NodeD) : Bool := nameL p.name.data.toList && withinB p.r0 p.r1 p.r2 1000000000 && mayL p.labels && mayL p.taints

set_option maxHeartbeats 4000000 in
theorem mayNode_any (p : NodeD) (h : NodeH) (w : World) (hp : NodeAt w p h) :
    Calls Try.prog 49 #[nodeV p h] w fun e w' => e = .returned (.bool (nodeB p)) ∧ Below w.heap.size w w' := by
  have hbw0 : Below w.heap.size w (w.alloc (nodeBox p h)) := (Below.refl _ _).alloc (Nat.le_refl _) _
  have hq0 : w.heap.size < (w.alloc (nodeBox p h)).heap.size := by simp
  have H0 := Lib.hid (And.intro hbw0 hq0)
  clear hbw0 hq0
  go_enter Try.func49, Try.ntmps49
  cases g0 : nameL p.name.data.toList
  · go_wp2_with (go_at_call 73; refine (name_any _ _).mono ?_; rintro e w' ⟨rfl, rfl⟩)
    go_ret
    refine ⟨ret_bool ?_, (by (repeat (with_reducible first | exact Below.refl _ _ | refine Below.alloc ?_ ?_ _ | refine Below.setCell ?_ ?_ _ | refine Below.drew ?_ | refine below_drewN ?_ _)); all_goals (simp <;> omega))⟩
    unfold nodeB
    rw [g0]; rfl
  go_wp2_with (go_at_call 73; refine (name_any _ _).mono ?_; rintro e w' ⟨rfl, rfl⟩)
  obtain ⟨hbw0, hq0⟩ := H0.out
  have hx0 : True := trivial
  clear H0
  go_wp2_with fail
  refine Calls.mono (may_any _ _ _ _) ?_
  rintro e w1 ⟨rfl, hb1⟩
  have hx1 : ∀ o, w1.cell? ⟨w.heap.size, o, none⟩ = (w.alloc (nodeBox p h)).cell? ⟨w.heap.size, o, none⟩ := fun o => (hb1.cell (p := ⟨w.heap.size, o, none⟩) hq0).trans rfl
  have hbw1 : Below w.heap.size w w1 := hbw0.trans (hb1.mono hbw0.size)
  have hq1 : w.heap.size < w1.heap.size := Nat.lt_of_lt_of_le hq0 hb1.size
  clear hb1 hx0 hq0
  cases g1 : withinB p.r0 p.r1 p.r2 1000000000
  · go_wp2
    go_ret
    exact ⟨ret_bool (by unfold nodeB; rw [g1]; simp), hbw1⟩
  clear hbw0
  go_wp2_with fail
  refine Calls.mono (may_pairs_any _ _ _ _ (hp.labels.below hbw1)) ?_
  rintro e w2 ⟨rfl, hb2⟩
  have hx2 : ∀ o, w2.cell? ⟨w.heap.size, o, none⟩ = (w.alloc (nodeBox p h)).cell? ⟨w.heap.size, o, none⟩ := fun o => (hb2.cell (p := ⟨w.heap.size, o, none⟩) hq1).trans (hx1 o)
  have hbw2 : Below w.heap.size w w2 := hbw1.trans (hb2.mono hbw1.size)
  have hq2 : w.heap.size < w2.heap.size := Nat.lt_of_lt_of_le hq1 hb2.size
  clear hb2 hx1 hq1
  cases g2 : mayL p.labels
  · go_wp2
    go_ret
    exact ⟨ret_bool (by unfold nodeB; rw [g1, g2]; simp), hbw2⟩
  clear hbw1
  go_wp2_with fail
  refine Calls.mono (may_taints_any _ _ _ _ (hp.taints.below hbw2)) ?_
  rintro e w3 ⟨rfl, hb3⟩
  have hbw3 : Below w.heap.size w w3 := hbw2.trans (hb3.mono hbw2.size)
  go_wp2
  go_ret
  exact ⟨ret_bool (by unfold nodeB; rw [g0, g1, g2]; simp), hbw3⟩

def nodeBytes (p : NodeD) : List Value := wbytes 2 ++ nbytes p.name ++ resBytes p.r0 p.r1 p.r2 ++ lbytes pbytes p.labels ++ lbytes pbytes p.taints
def nodeEnc (p : NodeD) : List Value := if nodeB p then nodeBytes p else []
theorem nodeB_parts {p : NodeD} (h : nodeB p = true) : nameL p.name.data.toList = true ∧ withinB p.r0 p.r1 p.r2 1000000000 = true ∧ mayL p.labels = true ∧ mayL p.taints = true := by
  unfold nodeB at h
  simp only [Bool.and_eq_true] at h
  exact ⟨h.1.1.1, h.1.1.2, h.1.2, h.2⟩

set_option maxRecDepth 100000 in
set_option maxHeartbeats 4000000 in
theorem putNode_any (p : NodeD) (h : NodeH) (w : World) (hp : NodeAt w p h) :
    Calls Try.prog 12 #[nodeV p h] w (EncPost w (nodeEnc p)) := by
  cases hm : nodeB p
  · go_enter Try.func12, Try.ntmps12
    go_wp2_with fail
    refine (mayNode_any p h _ (hp.below ((Below.refl _ _).alloc (Nat.le_refl _) _))).mono ?_
    rintro e w1 ⟨rfl, hb1⟩
    go_wp2
    go_ret
    refine ⟨_, rfl, ?_, ((Below.refl _ _).alloc (Nat.le_refl _) _).trans (hb1.mono (by simp))⟩
    have HM := hm
    unfold nodeEnc
    rw [HM]
    exact World.ownsRow_nil _ _ _ _
  · obtain ⟨m1, m2, m3, m4⟩ := nodeB_parts hm
    have okl := mayL_ok m3
    have okt := mayL_ok m4
    have okr := withinB_ok m2 (Int.le_refl _)
    have okn := okName_of m1
    have l2 := lbytesP_len okl.1
    have l4 := lbytesP_len okt.1
    have P := Lib.hid (And.intro okn (And.intro okr (And.intro okl okt)))
    have L := Lib.hid (And.intro l2 l4)
    have HM := Lib.hid hm
    have HP := Lib.hid hp
    clear m1 m2 m3 m4 okl okt okr okn l2 l4 hp
    go_enter Try.func12, Try.ntmps12
    go_wp2_with fail
    refine (mayNode_any p h _ (HP.out.below ((Below.refl _ _).alloc (Nat.le_refl _) _))).mono ?_
    rintro e wb ⟨rfl, hb1⟩
    have HI : Hid (w.heap.size < wb.heap.size) := by have := hb1.size; simp at this; show _ < _; omega
    have HX : Hid (∀ o, wb.cell? ⟨w.heap.size, o, none⟩ = (w.alloc (nodeBox p h)).cell? ⟨w.heap.size, o, none⟩) := fun o => hb1.cell (p := ⟨w.heap.size, o, none⟩) (by simp)
    have hbw := ((Below.refl _ _).alloc (Nat.le_refl _) _).trans (hb1.mono (by simp))
    have hd := Lib.hid (HP.out.below hbw)
    have HB := Lib.hid hbw
    clear hb1 hbw
    have hx0 := HX.out
    have hp0 := Puts.refl wb.heap.size wb
    have ho0 := World.ownsRow_nil wb wb.heap.size 5 1
    go_wp2_with fail
    refine Calls.mono (putNumI_any 2 _ 0 [] wb.heap.size wb (by decide) (by show (2 : Int) < _; decide) ho0 (Nat.le_refl _) (by omega)) ?_
    rintro e w1 ⟨v1, rfl, ho1, hr1⟩
    have hp1 := hp0.trans hr1
    have hx1 := fun o => (hp1.below.cell (p := ⟨w.heap.size, o, none⟩) HI.out).trans (HX.out o)
    clear hr1 hx0 hp0 ho0
    go_wp2_with fail
    refine Calls.mono (putName_any p.name _ _ _ wb.heap.size _ P.out.1.1 P.out.1.2 ho1 hp1.below.size (by omega)) ?_
    rintro e w2 ⟨v2, rfl, ho2, hr2⟩
    have hp2 := hp1.trans hr2
    have hx2 := fun o => (hp2.below.cell (p := ⟨w.heap.size, o, none⟩) HI.out).trans (HX.out o)
    clear hr2 hx1 hp1 ho1
    go_wp2_with fail
    refine Calls.mono (putRes_any p.r0 p.r1 p.r2 _ _ _ wb.heap.size _ P.out.2.1.1 P.out.2.1.2.1 P.out.2.1.2.2 ho2 hp2.below.size (by omega)) ?_
    rintro e w3 ⟨v3, rfl, ho3, hr3⟩
    have hp3 := hp2.trans hr3
    have hx3 := fun o => (hp3.below.cell (p := ⟨w.heap.size, o, none⟩) HI.out).trans (HX.out o)
    clear hr3 hx2 hp2 ho2
    go_wp2_with fail
    refine Calls.mono (putListP_any h.la p.labels h.lc _ _ _ wb _ hd.out.labels (by have := P.out.2.2.1.1; omega) P.out.2.2.1.2 hp3.below ho3 (by have := L.out.1; omega)) ?_
    rintro e w4 ⟨v4, rfl, ho4, hr4⟩
    have hp4 := hp3.trans hr4
    have hx4 := fun o => (hp4.below.cell (p := ⟨w.heap.size, o, none⟩) HI.out).trans (HX.out o)
    clear hr4 hx3 hp3 ho3
    go_wp2_with fail
    refine Calls.mono (putListN_any h.ta p.taints h.tc _ _ _ wb _ hd.out.taints (by have := P.out.2.2.2.1; omega) P.out.2.2.2.2 hp4.below ho4 (by have := L.out.1; have := L.out.2; omega)) ?_
    rintro e w5 ⟨v5, rfl, ho5, hr5⟩
    have hp5 := hp4.trans hr5
    have hx5 := fun o => (hp5.below.cell (p := ⟨w.heap.size, o, none⟩) HI.out).trans (HX.out o)
    clear hr5 hx4 hp4 ho4
    go_wp2
    go_ret
    refine ⟨v5, rfl, ?_, HB.out.trans (hp5.below.mono HB.out.size)⟩
    have HE := HM.out
    unfold nodeEnc
    rw [HE]
    have ho := ho5.mono HB.out.size
    rw [List.nil_append] at ho
    have hlen : ∀ {n m : Nat} {xs ys : List Value} {v : Value}, w5.ownsRow w.heap.size 5 1 v n xs → xs = ys → w5.ownsRow w.heap.size 5 1 v ys.length ys := fun {n m xs ys v} hh he => by
      subst he
      have := hh.1
      rw [Nat.mul_one] at this
      rw [this]; exact hh
    refine hlen (m := 0) ho ?_
    simp [nodeBytes, nbytes]
end Go.Proofs.Ytnobgmdknalpdaa
