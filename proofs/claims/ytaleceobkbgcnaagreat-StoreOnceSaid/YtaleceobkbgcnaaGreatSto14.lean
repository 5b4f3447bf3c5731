/-
  Stores: List. No conditions beyond what is written in each statement.
-/
import Derived.Test.YtaleceobkbgcnaaGreatGStoE
import Derived.Test.YtaleceobkbgcnaaGreatGStoC
set_option linter.unusedSimpArgs false
set_option linter.unusedVariables false
namespace Go.Proofs.YtaleceobkbgcnaaGreat
open Go.RowKit

theorem own_some' {w : World} {N : Nat} {t : TypeId} {sz : Nat} {a : Option Addr} {n cap : Nat} {xs : List Value} (h : w.ownsRow N t sz (.slice a n cap) n xs) (hn : 0 < n) : ∃ g, a = some ⟨g, 0, none⟩ := by
  rcases h.2 with ⟨_, e⟩ | ⟨g, c, cur, e, _⟩
  · omega
  · rw [Value.slice.injEq] at e
    exact ⟨g, e.1⟩
/-- What List tells. -/
def ListP (w : World) (B : Nat) (h : StoH) (d : StoD) (e : Ending) (w' : World) : Prop :=
  ∃ v E, e = .returned v ∧ E.map (·.1) = d.E ∧ EnRow w' w.heap.size v E ∧ StoAt w' B h { d with reads := wrap64 (d.reads + 1) } ∧ Turns (fun x => x = h.S) w w'
/-- What the loop over the keys has told. -/
def Lists (w wr : World) (d : StoD) (j : Nat) (es : Value) : Prop := ∃ E : List EntH, EnRow wr w.heap.size es E ∧ E.map (·.1) = d.E.take j ∧ Below w.heap.size w wr
set_option maxRecDepth 100000 in
set_option maxHeartbeats 4000000 in
theorem stoList_any (w : World) (B : Nat) (h : StoH) (d : StoD) (ha : StoAt w B h d) (hs : Keyed d.E) (hk : ∀ x ∈ d.E, x.key.size ≤ 20) (hn : d.E.length ≤ 1000000000) : Calls Tryz.prog 43 #[pt h.S] w (ListP w B h d) := by
  have c3 := cell_of_obj ha.obj 3
  simp at c3
  have hoff := off_any h.S _ _ h.G _ _ w ha.obj
  have hadd := addInt_any h.S 3 d.reads w c3 (free_of_obj ha.obj 3)
  obtain ⟨ha1, ht1⟩ := ha.count (wrap64 (d.reads + 1))
  have hEl : h.E.length = d.E.length := by rw [← ha.same, List.length_map]
  have HKE : Hid (strKeys (mapE h.E) = d.E.map fun x => kb x.key) := by
    show _ = _
    rw [strKeys_mapE, ← ha.same, List.map_map]; rfl
  clear ha c3
  go_enter Tryz.func43, Tryz.ntmps43
  go_wp2_with fail
  refine hoff.mono ?_
  rintro e W0 ⟨rfl, rfl⟩
  clear hoff
  go_wp2_with fail
  refine hadd.mono ?_
  rintro e w1 ⟨rfl, rfl⟩
  clear hadd
  generalize W0.setCell ⟨h.S, 3, none⟩ (.int .i64 (wrap64 (d.reads + 1))) = W1 at *
  have c0 := cell_of_obj ha1.obj 0
  simp at c0
  have hsz : Maps.size (mapE h.E) = d.E.length := by simp [Maps.size, mapE, hEl]
  have hso := sorted_any h.mE _ _ RE W1 ha1.ents (by rw [hsz]; unfold maxLen; omega) (by rw [hsz]; omega)
  have HA := Lib.hid (And.intro ha1 ht1)
  clear ha1 ht1 hsz
  go_wp2_with fail
  refine (keys_any (some h.mE) W1).mono ?_
  rintro e w2 ⟨rfl, rfl⟩
  go_wp2_with fail
  refine hso.mono ?_
  rintro e w3 ⟨v, ss, rfl, hp, hrow, hb3⟩
  clear hso c0
  have hb13 : Below W1.heap.size W1 w3 := ((Below.refl _ _).alloc (Nat.le_refl _) _).trans (hb3.mono (by simp))
  have hss : ss.mergeSort (fun x y => decide (x ≤ y)) = d.E.map fun x => kb x.key := by
    rw [← keyed_sort d.E hs]
    exact mergeSort_of_perm (by rw [← HKE.out]; exact hp)
  have hsl : ss.length = d.E.length := by rw [← List.length_mergeSort (le := fun x y => decide (x ≤ y)) ss, hss, List.length_map]
  rw [hss, hsl] at hrow
  obtain ⟨ka, kc, rfl, _, _, _⟩ := own_len hrow
  have hat3 := HA.out.1.below hb13
  have hcell : ∀ wr, Below w3.heap.size w3 wr → ∀ j, j < d.E.length → ∃ g, ka = some ⟨g, 0, none⟩ ∧ wr.cell? ⟨g, j, none⟩ = some (.string (d.E.getD j e0).key) := fun wr hw j hj => by
    obtain ⟨g, hg⟩ := own_some' hrow (by omega)
    subst hg
    refine ⟨g, rfl, cell_laterA hw ?_⟩
    have := own_news hrow ⟨g, 0, none⟩ rfl j (.string (d.E.getD j e0).key) (by
      rw [List.map_map, List.getElem?_map, List.getElem?_eq_getElem hj, List.getD_eq_getElem?_getD, List.getElem?_eq_getElem hj]
      rfl)
    rw [Go.WideShapes.add_plain] at this
    simpa using this
  have HC := Lib.hid hcell
  have H3 := Lib.hid (And.intro hat3 hb13)
  obtain ⟨iN, hi, hz0, hz1, hz2⟩ := info_parts infoEn
  have HI := Lib.hid (And.intro hi (And.intro hz0 (And.intro hz1 hz2)))
  clear hi hz0 hz1 hz2 hp hrow hss hsl hcell hat3 hb13 hb3
  have HP : Hid (∀ es wr, Lists w3 wr d d.E.length es → ListP W0 B h d (.returned es) wr) := fun es wr ⟨E, q1, q2, q3⟩ => by
    rw [List.take_length] at q2
    exact ⟨es, E, rfl, q2, q1.mono (Nat.le_trans HA.out.2.size H3.out.2.size), H3.out.1.below q3, HA.out.2.trans (turns_of_below (H3.out.2.trans (q3.mono H3.out.2.size)))⟩
  have HS := Lib.hid (And.intro hs hk)
  clear hs hk
  have hL0 : Hid (Lists w3 w3 d 0 (.slice none 0 0)) := ⟨[], EnRow.nil _ _, rfl, Below.refl _ _⟩
  generalize ListP W0 B h d = Q at *
  go_wp2_with fail
  go_loopw [3, 19] (fun es i wr => ∃ j : Nat, j ≤ d.E.length ∧ i = .int .i64 j ∧ Hid (Lists w3 wr d j es) ∧ Hid (Below w3.heap.size w3 wr)) (fun _ i _ => d.E.length - (intOf i).toNat)
  case atStart => exact ⟨0, Nat.zero_le _, rfl, hL0, Below.refl _ _⟩
  case round =>
    obtain ⟨j, hj, rfl, HT, HB⟩ := hrel
    clear hL0
    by_cases hlt : j < d.E.length
    · obtain ⟨g, rfl, ck⟩ := HC.out wr HB.out j hlt
      obtain ⟨E, r1, r2, r3⟩ := HT.out
      have hmem : d.E.getD j e0 ∈ d.E := by
        rw [List.getD_eq_getElem?_getD, List.getElem?_eq_getElem hlt]
        exact List.getElem_mem _
      have hx20 := HS.out.2 _ hmem
      have hfd := keyed_find HS.out.1 hmem
      have hta : Hid (d.E.take (j + 1) = d.E.take j ++ [d.E.getD j e0]) := by
        show _ = _
        rw [List.take_add_one, List.getD_eq_getElem?_getD, List.getElem?_eq_getElem hlt]
        rfl
      have hatr := H3.out.1.below HB.out
      generalize d.E.getD j e0 = x at *
      have y0 := cell_of_obj hatr.obj 0
      simp at y0
      have hlk := look_E hatr x.key (Nat.le_trans hx20 (by decide)) false
      have hgx : (getH h x.key).1 = x := by
        rw [hatr.getH x.key]
        unfold getS
        dsimp only
        rw [hfd]; rfl
      have hgm : getH h x.key ∈ h.E := by
        have hf2 := hatr.found x.key
        dsimp only at hf2
        rw [hfd] at hf2
        unfold getH
        cases hq : h.E.find? (hasK x.key) with
        | none => rw [hq] at hf2; cases hf2
        | some y => exact List.mem_of_find?_eq_some hq
      have hva := hatr.vals _ hgm
      have hfw := hatr.few _ hgm
      generalize getH h x.key = y at *
      obtain ⟨yD, ya, yc⟩ := y
      dsimp only at hgx hva hfw
      subst hgx
      obtain ⟨q1, q2, q3, q4⟩ := hva.at
      have hcp := copyEnt_any yD ya yc wr q1 q4 hfw q2 q3
      obtain ⟨ke, re, va⟩ := yD
      dsimp only at *
      change (Instr.lookup 145 (.map (some h.mE)) (.string ke) false).run Tryz.prog wr = .ok (.agg #[.string ke, .int .i64 re, .slice ya va.length yc]) wr at hlk
      have hEl2 : E.length ≤ 1000000000 := by
        have h1 : (E.map (·.1)).length = E.length := List.length_map ..
        rw [r2, List.length_take] at h1
        omega
      have hj1 : (j : Int) < (d.E.length : Int) := by omega
      have HR := Lib.hid (And.intro r1 (And.intro r2 r3))
      clear r1 r2 r3 hva q1 hatr HT hfd hgm
      go_wp2_with fail
      refine hcp.mono ?_
      rintro e w4 ⟨a4, c4, rfl, hv4, hb4⟩
      clear hcp hlk y0 ck
      have hsz := hb4.size
      have hsz0 := HR.out.2.2.size
      have hr4 := HR.out.1.below hb4
      have HV := Lib.hid (And.intro hv4 hb4)
      clear hv4 hb4
      go_wp2_with (at_builtin; refine stand ?_)
      show wpList _ _ _ _ _ _
      refine wpList_append_own _ rfl _ _ 78 rfl w3.heap.size 75 iN _ 3 48 Tryz.underlying78 HI.out.1 HI.out.2.1 HI.out.2.2.1 HI.out.2.2.2 rfl (by decide) u3 E.length (E.flatMap fun x => (entC x).toList) rfl (hr4.row.alloc _) ⟨w4.heap.size, 0, none⟩ 1 1 ((entC (⟨ke, re, va⟩, a4, c4)).toList) rfl rfl (new_cells _ _ _) (by simp [Value.oneCell']) (by unfold maxLen; omega) (by omega) (by simp; omega) ?_
      intro v5 w5 ho5 hg5 hnil
      have hba : Below w4.heap.size w4 (w4.alloc (.cells #[.string ke, .int .i64 re, .slice a4 va.length c4] 75)) := (Below.refl _ _).alloc (Nat.le_refl _) _
      have hN := (hr4.below hba).snoc (x := (⟨ke, re, va⟩, a4, c4)) ⟨World.ownsRow.mono (row_turns (S := fun _ => False) HV.out.1.1 (turns_of_below hba) (fun _ _ h => h)) (by omega), HV.out.1.2⟩ hg5 ho5
      have hbg : Below w3.heap.size w4 w5 := (hba.mono (by omega)).trans (grown_below hg5 (hr4.row.alloc _) (by simp; omega))
      have hN5 : Hid (Lists w3 w5 d (j + 1) v5) := ⟨_, hN, by rw [hta.out, ← HR.out.2.1]; simp, (HR.out.2.2.trans (HV.out.2.mono hsz0)).trans hbg⟩
      clear hg5 ho5 hN hba hr4 HR HV hnil
      go_wp2_with fail
      go_roundw
      case rel => exact ⟨j + 1, by omega, by go_num, hN5, hN5.out.choose_spec.2.2⟩
      case measure => simp [intOf]; omega
    · obtain rfl : j = d.E.length := by omega
      go_wp2
      exact HP.out _ _ HT.out
end Go.Proofs.YtaleceobkbgcnaaGreat
