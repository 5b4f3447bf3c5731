/-
  The contract of code.PutPod. Its condition: the pod's Term is an int64.
-/
import Derived.Test.YtnobgmdknalpdaaPut5
import Derived.Deep.Onto
set_option linter.unusedSimpArgs false
set_option linter.unusedVariables false
namespace Go.Proofs.Ytnobgmdknalpdaa
open Go.RowKit

/-- What a call that writes an object tells: bytes of its own, nothing old is written to. -/
def EncPost (w : World) (bs : List Value) (e : Ending) (w' : World) : Prop := ∃ v', e = .returned v' ∧ w'.ownsRow w.heap.size 5 1 v' bs.length bs ∧ Below w.heap.size w w'

set_option maxRecDepth 100000 in
set_option maxHeartbeats 4000000 in
theorem putPod_any (p : PodD) (h : PodH) (w : World) (hp : PodAt w p h) (ht : Hid (p.term < 9223372036854775808)) :
    Calls Try.prog 11 #[podV p h] w (EncPost w (podEnc p)) := by
  cases hm : podB p
  · go_enter Try.func11, Try.ntmps11
    go_wp2_with fail
    refine (mayPod_any p h _ (hp.below ((Below.refl _ _).alloc (Nat.le_refl _) _))).mono ?_
    rintro e w1 ⟨rfl, hb1⟩
    go_wp2
    go_ret
    refine ⟨_, rfl, ?_, ((Below.refl _ _).alloc (Nat.le_refl _) _).trans (hb1.mono (by simp))⟩
    have HM := hm
    unfold podEnc
    rw [HM]
    exact World.ownsRow_nil _ _ _ _
  · obtain ⟨m1, m2, m3, m4, m5, m6, m7, m8, m9, m10, m11, m12⟩ := podB_parts hm
    obtain ⟨q1, q2, q3, q4, q5⟩ := spreadB_ok m11
    have okp := portsB_ok m7
    have okl := mayL_ok m8
    have oks := mayT_ok m9
    have okt := mayTols_ok m10
    have oka := mayT_ok q1
    have oke := mayT_ok q2
    have okr := withinB_ok m6 (Int.le_refl _)
    have okn := okName_of m1
    have okd := placeB_ok m12
    have oku : okInt p.uid := ⟨by omega, by omega⟩
    have oki : okInt p.prio := ⟨by omega, by omega⟩
    have okk : okInt p.skew := ⟨by omega, by omega⟩
    have okm : okInt p.term := ⟨okd.2, ht.out⟩
    have l1 := lbytesI_len okp.1
    have l2 := lbytesP_len okl.1
    have l3 := lbytesT_len oks.1 oks.2.2
    have l4 := lbytesL_len okt.1
    have l5 := lbytesT_len oka.1 oka.2.2
    have l6 := lbytesT_len oke.1 oke.2.2
    have P := Lib.hid (And.intro okn (And.intro oku (And.intro oki (And.intro okr (And.intro okp (And.intro okl (And.intro oks (And.intro okt (And.intro q5 (And.intro oka (And.intro okk (And.intro oke (And.intro okd.1 okm)))))))))))))
    have L := Lib.hid (And.intro l1 (And.intro l2 (And.intro l3 (And.intro l4 (And.intro l5 l6)))))
    have HM := Lib.hid hm
    have HP := Lib.hid hp
    clear m1 m2 m3 m4 m5 m6 m7 m8 m9 m10 m11 m12 q1 q2 q3 q4 q5 okp okl oks okt oka oke okr okn okd oku oki okk okm l1 l2 l3 l4 l5 l6 ht hp
    go_enter Try.func11, Try.ntmps11
    go_wp2_with fail
    refine (mayPod_any p h _ (HP.out.below ((Below.refl _ _).alloc (Nat.le_refl _) _))).mono ?_
    rintro e wb ⟨rfl, hb1⟩
    have HI : Hid (w.heap.size < wb.heap.size) := by have := hb1.size; simp at this; show _ < _; omega
    have HX : Hid (∀ o, wb.cell? ⟨w.heap.size, o, none⟩ = (w.alloc (podBox p h)).cell? ⟨w.heap.size, o, none⟩) := fun o => hb1.cell (p := ⟨w.heap.size, o, none⟩) (by simp)
    have hbw := ((Below.refl _ _).alloc (Nat.le_refl _) _).trans (hb1.mono (by simp))
    have hd := Lib.hid (HP.out.below hbw)
    have HB := Lib.hid hbw
    clear hb1 hbw
    have hx0 := HX.out
    have hp0 := Puts.refl wb.heap.size wb
    have ho0 := World.ownsRow_nil wb wb.heap.size 5 1
    go_wp2_with fail
    refine Calls.mono (putNumI_any 1 _ 0 [] wb.heap.size wb (by decide) (by show (1 : Int) < _; decide) ho0 (Nat.le_refl _) (by omega)) ?_
    rintro e w1 ⟨v1, rfl, ho1, hr1⟩
    have hp1 := hp0.trans hr1
    have hx1 := fun o => (hp1.below.cell (p := ⟨w.heap.size, o, none⟩) HI.out).trans (HX.out o)
    clear hr1 hx0 hp0 ho0
    go_wp2_with fail
    refine Calls.mono (putName_any p.name _ _ _ wb.heap.size _ P.out.1.1 P.out.1.2 ho1 hp1.below.size (by omega)) ?_
    rintro e w2 ⟨v2, rfl, ho2, hr2⟩
    have hp2 := hp1.trans hr2
    have hx2 := fun o => (hp2.below.cell (p := ⟨w.heap.size, o, none⟩) HI.out).trans (HX.out o)
    clear hr2 hx1 hp1 ho1
    go_wp2_with fail
    refine Calls.mono (putNumL_any p.uid _ _ _ wb.heap.size _ P.out.2.1.1 P.out.2.1.2 ho2 hp2.below.size (by omega)) ?_
    rintro e w3 ⟨v3, rfl, ho3, hr3⟩
    have hp3 := hp2.trans hr3
    have hx3 := fun o => (hp3.below.cell (p := ⟨w.heap.size, o, none⟩) HI.out).trans (HX.out o)
    clear hr3 hx2 hp2 ho2
    go_wp2_with fail
    refine Calls.mono (putNumI_any p.prio _ _ _ wb.heap.size _ P.out.2.2.1.1 P.out.2.2.1.2 ho3 hp3.below.size (by omega)) ?_
    rintro e w4 ⟨v4, rfl, ho4, hr4⟩
    have hp4 := hp3.trans hr4
    have hx4 := fun o => (hp4.below.cell (p := ⟨w.heap.size, o, none⟩) HI.out).trans (HX.out o)
    clear hr4 hx3 hp3 ho3
    go_wp2_with fail
    refine Calls.mono (putRes_any p.r0 p.r1 p.r2 _ _ _ wb.heap.size _ P.out.2.2.2.1.1 P.out.2.2.2.1.2.1 P.out.2.2.2.1.2.2 ho4 hp4.below.size (by omega)) ?_
    rintro e w5 ⟨v5, rfl, ho5, hr5⟩
    have hp5 := hp4.trans hr5
    have hx5 := fun o => (hp5.below.cell (p := ⟨w.heap.size, o, none⟩) HI.out).trans (HX.out o)
    clear hr5 hx4 hp4 ho4
    go_wp2_with fail
    refine Calls.mono (putListI_any h.pa p.ports h.pc _ _ _ wb _ hd.out.ports (by have := P.out.2.2.2.2.1.1; omega) P.out.2.2.2.2.1.2 hp5.below ho5 (by have := L.out.1; omega)) ?_
    rintro e w6 ⟨v6, rfl, ho6, hr6⟩
    have hp6 := hp5.trans hr6
    have hx6 := fun o => (hp6.below.cell (p := ⟨w.heap.size, o, none⟩) HI.out).trans (HX.out o)
    clear hr6 hx5 hp5 ho5
    go_wp2_with fail
    refine Calls.mono (putListP_any h.la p.labels h.lc _ _ _ wb _ hd.out.labels (by have := P.out.2.2.2.2.2.1.1; omega) P.out.2.2.2.2.2.1.2 hp6.below ho6 (by have := L.out.1; have := L.out.2.1; omega)) ?_
    rintro e w7 ⟨v7, rfl, ho7, hr7⟩
    have hp7 := hp6.trans hr7
    have hx7 := fun o => (hp7.below.cell (p := ⟨w.heap.size, o, none⟩) HI.out).trans (HX.out o)
    clear hr7 hx6 hp6 ho6
    go_wp2_with fail
    refine Calls.mono (putListT_any h.sa p.sel h.sc _ _ _ wb _ hd.out.sel (by have := P.out.2.2.2.2.2.2.1.1; omega) P.out.2.2.2.2.2.2.1.2.1 hp7.below ho7 (by have := L.out.1; have := L.out.2.1; have := L.out.2.2.1; omega)) ?_
    rintro e w8 ⟨v8, rfl, ho8, hr8⟩
    have hp8 := hp7.trans hr8
    have hx8 := fun o => (hp8.below.cell (p := ⟨w.heap.size, o, none⟩) HI.out).trans (HX.out o)
    clear hr8 hx7 hp7 ho7
    go_wp2_with fail
    refine Calls.mono (putListL_any h.ta p.tols h.tc _ _ _ wb _ hd.out.tols (by have := P.out.2.2.2.2.2.2.2.1.1; omega) P.out.2.2.2.2.2.2.2.1.2 hp8.below ho8 (by have := L.out.1; have := L.out.2.1; have := L.out.2.2.1; have := L.out.2.2.2.1; omega)) ?_
    rintro e w9 ⟨v9, rfl, ho9, hr9⟩
    have hp9 := hp8.trans hr9
    have hx9 := fun o => (hp9.below.cell (p := ⟨w.heap.size, o, none⟩) HI.out).trans (HX.out o)
    clear hr9 hx8 hp8 ho8
    go_wp2_with fail
    refine Calls.mono (putName_any p.topo _ _ _ wb.heap.size _ P.out.2.2.2.2.2.2.2.2.1.1 P.out.2.2.2.2.2.2.2.2.1.2 ho9 hp9.below.size (by have := L.out.1; have := L.out.2.1; have := L.out.2.2.1; have := L.out.2.2.2.1; omega)) ?_
    rintro e w10 ⟨v10, rfl, ho10, hr10⟩
    have hp10 := hp9.trans hr10
    have hx10 := fun o => (hp10.below.cell (p := ⟨w.heap.size, o, none⟩) HI.out).trans (HX.out o)
    clear hr10 hx9 hp9 ho9
    go_wp2_with fail
    refine Calls.mono (putListT_any h.aa p.anti h.ac _ _ _ wb _ hd.out.anti (by have := P.out.2.2.2.2.2.2.2.2.2.1.1; omega) P.out.2.2.2.2.2.2.2.2.2.1.2.1 hp10.below ho10 (by have := L.out.1; have := L.out.2.1; have := L.out.2.2.1; have := L.out.2.2.2.1; have := L.out.2.2.2.2.1; omega)) ?_
    rintro e w11 ⟨v11, rfl, ho11, hr11⟩
    have hp11 := hp10.trans hr11
    have hx11 := fun o => (hp11.below.cell (p := ⟨w.heap.size, o, none⟩) HI.out).trans (HX.out o)
    clear hr11 hx10 hp10 ho10
    go_wp2_with fail
    refine Calls.mono (putNumI_any p.skew _ _ _ wb.heap.size _ P.out.2.2.2.2.2.2.2.2.2.2.1.1 P.out.2.2.2.2.2.2.2.2.2.2.1.2 ho11 hp11.below.size (by have := L.out.1; have := L.out.2.1; have := L.out.2.2.1; have := L.out.2.2.2.1; have := L.out.2.2.2.2.1; omega)) ?_
    rintro e w12 ⟨v12, rfl, ho12, hr12⟩
    have hp12 := hp11.trans hr12
    have hx12 := fun o => (hp12.below.cell (p := ⟨w.heap.size, o, none⟩) HI.out).trans (HX.out o)
    clear hr12 hx11 hp11 ho11
    go_wp2_with fail
    refine Calls.mono (putListT_any h.ea p.even h.ec _ _ _ wb _ hd.out.even (by have := P.out.2.2.2.2.2.2.2.2.2.2.2.1.1; omega) P.out.2.2.2.2.2.2.2.2.2.2.2.1.2.1 hp12.below ho12 (by have := L.out.1; have := L.out.2.1; have := L.out.2.2.1; have := L.out.2.2.2.1; have := L.out.2.2.2.2.1; have := L.out.2.2.2.2.2; omega)) ?_
    rintro e w13 ⟨v13, rfl, ho13, hr13⟩
    have hp13 := hp12.trans hr13
    have hx13 := fun o => (hp13.below.cell (p := ⟨w.heap.size, o, none⟩) HI.out).trans (HX.out o)
    clear hr13 hx12 hp12 ho12
    go_wp2_with fail
    refine Calls.mono (putName_any p.node _ _ _ wb.heap.size _ P.out.2.2.2.2.2.2.2.2.2.2.2.2.1.1 P.out.2.2.2.2.2.2.2.2.2.2.2.2.1.2 ho13 hp13.below.size (by have := L.out.1; have := L.out.2.1; have := L.out.2.2.1; have := L.out.2.2.2.1; have := L.out.2.2.2.2.1; have := L.out.2.2.2.2.2; omega)) ?_
    rintro e w14 ⟨v14, rfl, ho14, hr14⟩
    have hp14 := hp13.trans hr14
    have hx14 := fun o => (hp14.below.cell (p := ⟨w.heap.size, o, none⟩) HI.out).trans (HX.out o)
    clear hr14 hx13 hp13 ho13
    go_wp2_with fail
    refine Calls.mono (putNumL_any p.term _ _ _ wb.heap.size _ P.out.2.2.2.2.2.2.2.2.2.2.2.2.2.1 P.out.2.2.2.2.2.2.2.2.2.2.2.2.2.2 ho14 hp14.below.size (by have := L.out.1; have := L.out.2.1; have := L.out.2.2.1; have := L.out.2.2.2.1; have := L.out.2.2.2.2.1; have := L.out.2.2.2.2.2; omega)) ?_
    rintro e w15 ⟨v15, rfl, ho15, hr15⟩
    have hp15 := hp14.trans hr15
    have hx15 := fun o => (hp15.below.cell (p := ⟨w.heap.size, o, none⟩) HI.out).trans (HX.out o)
    clear hr15 hx14 hp14 ho14
    go_wp2
    go_ret
    refine ⟨v15, rfl, ?_, HB.out.trans (hp15.below.mono HB.out.size)⟩
    have HE := HM.out
    unfold podEnc
    rw [HE]
    have ho := ho15.mono HB.out.size
    rw [List.nil_append] at ho
    have hlen : ∀ {n m : Nat} {xs ys : List Value} {v : Value}, w15.ownsRow w.heap.size 5 1 v n xs → xs = ys → w15.ownsRow w.heap.size 5 1 v ys.length ys := fun {n m xs ys v} hh he => by
      subst he
      have := hh.1
      rw [Nat.mul_one] at this
      rw [this]; exact hh
    refine hlen (m := 0) ho ?_
    simp [podBytes, nbytes]
end Go.Proofs.Ytnobgmdknalpdaa
