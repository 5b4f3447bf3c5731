/-
  Answers in bytes. No conditions beyond what is written in each statement.
-/
import Derived.Test.YtaleceobkbgcnaaGreatGRpA
import Derived.Test.YtaleceobkbgcnaaGreatRp3
set_option linter.unusedSimpArgs false
set_option linter.unusedVariables false
namespace Go.Proofs.YtaleceobkbgcnaaGreat.Rp
open Go.RowKit

def abytes (x : AnsD) : List Value := wbytes x.to.toNat ++ wbytes x.id.toNat ++ wbytes x.kind.toNat ++ wbytes x.err.toNat ++ wbytes x.rev.toNat ++ lbytes nbytesE x.es ++ lbytes ebytes x.vs
def ansEnc (x : AnsD) : List Value := if ansB x then abytes x else []
structure AnsOk (x : AnsD) : Prop where
  t : 0 ≤ x.to ∧ x.to ≤ 7
  i : 1 ≤ x.id ∧ x.id ≤ 1099511627776
  k : 1 ≤ x.kind ∧ x.kind ≤ 4
  r : 0 ≤ x.err ∧ x.err ≤ 9
  v : 0 ≤ x.rev ∧ x.rev ≤ 1099511627776
  en : x.es.length ≤ 100
  vn : x.vs.length ≤ 100
  e : ∀ y ∈ x.es, okEn y
  w : ∀ y ∈ x.vs, okEv y
theorem beB_ok {k : ByteArray} {r : Int} {l : List Int} (h : beB k r l = true) : k.size ≤ 20 ∧ (0 ≤ r ∧ r ≤ 1099511627776) ∧ l.length ≤ 4000 := by
  unfold beB keyB at h
  simp only [Bool.and_eq_true, decide_eq_true_eq] at h
  omega
theorem ansB_ok {x : AnsD} (h : ansB x = true) : AnsOk x := by
  unfold ansB at h
  simp only [Bool.and_eq_true, decide_eq_true_eq, List.all_eq_true] at h
  obtain ⟨⟨⟨⟨⟨⟨a1, a2⟩, a3⟩, a4⟩, ⟨⟨⟨⟨b1, b2⟩, b3⟩, b4⟩, b5⟩, b6⟩, c1, c2⟩, d1, d2⟩ := h
  refine ⟨⟨a1, a2⟩, ⟨a3, a4⟩, ⟨b1, b2⟩, ⟨b3, b4⟩, ⟨b5, b6⟩, c1, c2, fun y hy => beB_ok (d1 y hy), fun y hy => ?_⟩
  have := d2 y hy
  unfold evB at this
  rw [Bool.and_eq_true] at this
  exact beB_ok this.1
set_option maxRecDepth 100000 in
set_option maxHeartbeats 4000000 in
theorem ansPut_any (x : AnsD) (h : AnsH) (w : World) (hc : AnsAt w x h) : Calls Tryz.prog 61 #[ansV x h] w (CallPost w (ansEnc x)) := by
  have hb0 : Below w.heap.size w (w.alloc (.cells (ansC x h) 111)) := (Below.refl _ _).alloc (Nat.le_refl _) _
  have kb := heap_alloc_self w (.cells (ansC x h) 111)
  have hc0 := hc.below hb0
  have HB := Lib.hid (And.intro hb0 (And.intro kb hc0))
  clear hb0 kb hc0 hc
  cases hm : ansB x
  · go_enter Tryz.func61, Tryz.ntmps61
    go_wp2_with fail
    refine (ansMay_any x h _ HB.out.2.2).mono ?_
    rintro e w1 ⟨rfl, hb1⟩
    rw [hm]
    go_wp2
    go_ret
    refine ⟨.slice none 0 0, rfl, ?_, HB.out.1.trans (hb1.mono HB.out.1.size)⟩
    unfold ansEnc
    rw [hm]
    exact World.ownsRow_nil _ _ _ _
  · have ok := ansB_ok hm
    have l1 := lbytes_le (M := 4044) (l := x.es) (enc := nbytesE) (fun y hy => by rw [nbytesE_len]; have := (ok.e y hy).1; have := (ok.e y hy).2.2; omega)
    have l2 := lbytes_le (M := 4052) (l := x.vs) (enc := ebytes) (fun y hy => by rw [ebytes_len]; have := (ok.w y hy).1; have := (ok.w y hy).2.2; omega)
    have HL : Hid (8 + 8 + 8 + 8 + 8 + (lbytes nbytesE x.es).length + (lbytes ebytes x.vs).length ≤ 900000) := by
      show _ ≤ _
      have a1 : x.es.length * 4044 ≤ 100 * 4044 := Nat.mul_le_mul_right _ ok.en
      have a2 : x.vs.length * 4052 ≤ 100 * 4052 := Nat.mul_le_mul_right _ ok.vn
      omega
    clear l1 l2
    have OK := Lib.hid ok
    have HM := Lib.hid hm
    clear ok
    go_enter Tryz.func61, Tryz.ntmps61
    go_wp2_with fail
    refine (ansMay_any x h _ HB.out.2.2).mono ?_
    rintro e wb ⟨rfl, hb1⟩
    rw [hm]
    have HI := Lib.hid (show w.heap.size < wb.heap.size by have := hb1.size; simp at this; omega)
    have HX := Lib.hid (fun o => (hb1.cell (p := ⟨w.heap.size, o, none⟩) (by simp)).trans (cell_of_obj HB.out.2.1 o))
    have hd := Lib.hid (HB.out.2.2.below hb1)
    have HW := Lib.hid (HB.out.1.trans (hb1.mono HB.out.1.size))
    clear hb1 HB hm
    have hx0 := HX.out
    have hp0 := Puts.refl wb.heap.size wb
    have ho0 := World.ownsRow_nil wb wb.heap.size 5 1
    go_wp2_with fail
    refine Calls.mono (callNum_any x.to _ 0 [] wb.heap.size wb OK.out.t.1 (by show _ < _; have := OK.out.t.2; omega) ho0 (Nat.le_refl _) (by omega)) ?_
    rintro e w1 ⟨v1, rfl, ho1, hr1⟩
    have hp1 := hp0.trans hr1
    have hx1 := fun o => (hp1.below.cell (p := ⟨w.heap.size, o, none⟩) HI.out).trans (HX.out o)
    clear hr1 hx0 hp0 ho0
    go_wp2_with fail
    refine Calls.mono (callNum_any x.id _ _ _ wb.heap.size _ (by have := OK.out.i.1; omega) (by show _ < _; have := OK.out.i.2; omega) ho1 hp1.below.size (by omega)) ?_
    rintro e w2 ⟨v2, rfl, ho2, hr2⟩
    have hp2 := hp1.trans hr2
    have hx2 := fun o => (hp2.below.cell (p := ⟨w.heap.size, o, none⟩) HI.out).trans (HX.out o)
    clear hr2 hx1 hp1 ho1
    go_wp2_with fail
    refine Calls.mono (callNum_any x.kind _ _ _ wb.heap.size _ (by have := OK.out.k.1; omega) (by show _ < _; have := OK.out.k.2; omega) ho2 hp2.below.size (by omega)) ?_
    rintro e w3 ⟨v3, rfl, ho3, hr3⟩
    have hp3 := hp2.trans hr3
    have hx3 := fun o => (hp3.below.cell (p := ⟨w.heap.size, o, none⟩) HI.out).trans (HX.out o)
    clear hr3 hx2 hp2 ho2
    go_wp2_with fail
    refine Calls.mono (callNum_any x.err _ _ _ wb.heap.size _ OK.out.r.1 (by show _ < _; have := OK.out.r.2; omega) ho3 hp3.below.size (by omega)) ?_
    rintro e w4 ⟨v4, rfl, ho4, hr4⟩
    have hp4 := hp3.trans hr4
    have hx4 := fun o => (hp4.below.cell (p := ⟨w.heap.size, o, none⟩) HI.out).trans (HX.out o)
    clear hr4 hx3 hp3 ho3
    go_wp2_with fail
    refine Calls.mono (callNum_any x.rev _ _ _ wb.heap.size _ OK.out.v.1 (by show _ < _; have := OK.out.v.2; omega) ho4 hp4.below.size (by omega)) ?_
    rintro e w5 ⟨v5, rfl, ho5, hr5⟩
    have hp5 := hp4.trans hr5
    have hx5 := fun o => (hp5.below.cell (p := ⟨w.heap.size, o, none⟩) HI.out).trans (HX.out o)
    clear hr5 hx4 hp4 ho4
    go_wp2_with fail
    refine Calls.mono (putEntries_any h.ea x.es h.ec _ _ _ wb _ hd.out.es (by have := OK.out.en; omega) OK.out.e hp5.below ho5 (by have := HL.out; omega)) ?_
    rintro e w6 ⟨v6, rfl, ho6, hr6⟩
    have hp6 := hp5.trans hr6
    have hx6 := fun o => (hp6.below.cell (p := ⟨w.heap.size, o, none⟩) HI.out).trans (HX.out o)
    clear hr6 hx5 hp5 ho5
    go_wp2_with fail
    refine Calls.mono (putEvents_any h.va x.vs h.vc _ _ _ wb _ hd.out.vs (by have := OK.out.vn; omega) OK.out.w hp6.below ho6 (by have := HL.out; omega)) ?_
    rintro e w7 ⟨v7, rfl, ho7, hr7⟩
    have hp7 := hp6.trans hr7
    have hx7 := fun o => (hp7.below.cell (p := ⟨w.heap.size, o, none⟩) HI.out).trans (HX.out o)
    clear hr7 hx6 hp6 ho6
    go_wp2
    go_ret
    refine ⟨v7, rfl, ?_, HW.out.trans (hp7.below.mono HW.out.size)⟩
    unfold ansEnc
    rw [HM.out]
    have ho := World.ownsRow.mono ho7 HW.out.size
    refine own_as ho ?_
    simp [abytes]
end Go.Proofs.YtaleceobkbgcnaaGreat.Rp
