/-
  Stores: guards, and what is to go. No conditions beyond what is written in each statement.
-/
import Derived.Test.YtaleceobkbgcnaaGreatGStoB
import Derived.Test.YtaleceobkbgcnaaGreatGOff
import Derived.Shelf.Pu.Clone
set_option linter.unusedSimpArgs false
set_option linter.unusedVariables false
namespace Go.Proofs.YtaleceobkbgcnaaGreat
open Go.RowKit

def holdB (d : StoD) (g : Gd) : Bool := if g.2.2 then decide (d.T g.1 ≤ g.2.1) else decide ((getS d g.1).rev = g.2.1)
theorem look_T {w : World} {B : Nat} {h : StoH} {d : StoD} (ha : StoAt w B h d) (k : ByteArray) (hk : k.size ≤ maxLen) : (Instr.lookup 93 (.map (some h.mT)) (.string k) false).run Tryz.prog w = .ok (.int .i64 (d.T k)) w := by
  have hkey := Go.WideMaps.keyOf_string_mk (P := Tryz.prog) (k := 9) Tryz.underlying9 hk
  obtain ⟨v, ps, hrun, hR⟩ := ha.toch.lookup (Maps.string_keyed Tryz.underlying9) Tryz.underlying93 (z := .int .i64 0) (Tryz.zeroValue2 w) (zd := .lit (.int .i64 0)) (zp := []) (plainElem_int Tryz.underlying2 (by decide)) hkey
  have ht := ha.tval k
  unfold atT at ht
  rw [ht] at hR
  obtain ⟨a, rfl, hz, _⟩ := plainElem_int_inv Tryz.underlying2 hR
  simp only [Prod.mk.injEq, DataW.lit.injEq, Lit.int.injEq] at hz
  rw [hrun, hz.1.2]
def getH (h : StoH) (k : ByteArray) : EntH := (h.E.find? (hasK k)).getD (e0, none, 0)
theorem StoAt.found {w : World} {B : Nat} {h : StoH} {d : StoD} (ha : StoAt w B h d) (k : ByteArray) : (d.E.find? (isK k)) = (h.E.find? (hasK k)).map (·.1) := by rw [← ha.same]; exact find_isK k h.E
theorem StoAt.getH {w : World} {B : Nat} {h : StoH} {d : StoD} (ha : StoAt w B h d) (k : ByteArray) : (getH h k).1 = getS d k := by
  unfold Go.Proofs.YtaleceobkbgcnaaGreat.getH getS
  rw [ha.found k]
  cases h.E.find? (hasK k) <;> rfl
theorem look_E {w : World} {B : Nat} {h : StoH} {d : StoD} (ha : StoAt w B h d) (k : ByteArray) (hk : k.size ≤ maxLen) (b : Bool) : (Instr.lookup 145 (.map (some h.mE)) (.string k) b).run Tryz.prog w = .ok (if b then .tuple #[entV (getH h k), .bool (d.E.find? (isK k)).isSome] else entV (getH h k)) w := by
  have hkey := Go.WideMaps.keyOf_string_mk (P := Tryz.prog) (k := 9) Tryz.underlying9 hk
  have hF := ha.found k
  have hv : ∀ v ps, RE v = some ((mapE h.E).atKey (litK k) (.held (.agg #[.string ⟨#[]⟩, .int .i64 0, .slice none 0 0])), ps) → v = entV (getH h k) := by
    intro v ps hR
    rw [mapE_at] at hR
    simp only [RE, Option.some.injEq, Prod.mk.injEq] at hR
    unfold getH
    cases hfd : h.E.find? (hasK k) with
    | none =>
      rw [hfd] at hR
      simp only [DataW.held.injEq] at hR
      rw [hR.1]; rfl
    | some x =>
      rw [hfd] at hR
      simp only [DataW.held.injEq] at hR
      rw [hR.1]; rfl
  cases b
  · obtain ⟨v, ps, hrun, hR⟩ := ha.ents.lookup (Maps.string_keyed Tryz.underlying9) Tryz.underlying145 (zeroEn w) (zd := .held (.agg #[.string ⟨#[]⟩, .int .i64 0, .slice none 0 0])) (zp := []) rfl hkey
    rw [hrun, hv v ps hR]; rfl
  · obtain ⟨v, ps, hrun, hR⟩ := ha.ents.look_ok (Maps.string_keyed Tryz.underlying9) Tryz.underlying145 (zeroEn w) (zd := .held (.agg #[.string ⟨#[]⟩, .int .i64 0, .slice none 0 0])) (zp := []) rfl hkey
    rw [mapE_has] at hrun
    rw [hrun, hv v ps hR, hF]; simp
set_option maxRecDepth 100000 in
set_option maxHeartbeats 2000000 in
theorem stoHolds_any (w : World) (B : Nat) (h : StoH) (d : StoD) (g : Gd) (ha : StoAt w B h d) (hk : g.1.size ≤ maxLen) : Calls Tryz.prog 137 #[pt h.S, .agg #[.string g.1, .int .i64 g.2.1, .bool g.2.2]] w fun e w' => e = .returned (.bool (holdB d g)) ∧ Below w.heap.size w w' := by
  obtain ⟨key, rev, under⟩ := g
  dsimp only at *
  have hb0 : Below w.heap.size w (w.alloc (.cells #[.string key, .int .i64 rev, .bool under] 81)) := (Below.refl _ _).alloc (Nat.le_refl _) _
  have hk0 := heap_alloc_self w (.cells #[.string key, .int .i64 rev, .bool under] 81)
  have hx : (w.alloc (.cells #[.string key, .int .i64 rev, .bool under] 81)).cell? ⟨w.heap.size, 2, none⟩ = some (.bool under) := cell_of_obj hk0 2
  have HX := Lib.hid (And.intro ha (And.intro hb0 hk0))
  clear ha hb0 hk0
  cases under
  · have HE : Hid (holdB d (key, rev, false) = decide ((getS d key).rev = rev)) := rfl
    go_enter Tryz.func137, Tryz.ntmps137
    go_wp2_with fail
    clear hx
    generalize w.alloc (.cells #[.string key, .int .i64 rev, .bool false] 81) = W0 at *
    have ha0 := HX.out.1.below HX.out.2.1
    have y0 : ∀ p : Later W0, p.val.cell? ⟨h.S, 0, none⟩ = some (.map (some h.mE)) := fun p => p.cell (cell_of_obj ha0.obj 0)
    have y1 : ∀ p : Later W0, p.val.cell? ⟨w.heap.size, 0, none⟩ = some (.string key) := fun p => p.cell (cell_of_obj HX.out.2.2 0)
    have y2 : ∀ p : Later W0, p.val.cell? ⟨w.heap.size, 1, none⟩ = some (.int .i64 rev) := fun p => p.cell (cell_of_obj HX.out.2.2 1)
    have y3 : ∀ p : Later W0, (Instr.lookup 145 (.map (some h.mE)) (.string key) false).run Tryz.prog p.val = .ok (entV (getH h key)) p.val := fun p => look_E (ha0.below p.ok) key hk false
    have HR : Hid ((getH h key).1.rev = (getS d key).rev) := by show _ = _; rw [ha0.getH key]
    generalize getH h key = x at *
    obtain ⟨⟨ke, re, va⟩, xa, xc⟩ := x
    change ∀ p : Later W0, (Instr.lookup 145 (.map (some h.mE)) (.string key) false).run Tryz.prog p.val = .ok (.agg #[.string ke, .int .i64 re, .slice xa va.length xc]) p.val at y3
    have y4 : ∀ W : World, (Instr.field 75 (.agg #[.string ke, .int .i64 re, .slice xa va.length xc]) 1).run Tryz.prog W = .ok (.int .i64 re) W := fun _ => by kernel_rfl
    clear ha0
    refine wp_region_later (by kernel_rfl) (by kernel_rfl) ?_
    repeat (quiet_step (fail))
    refine wpQuiet_nil ?_
    intro _ hw'
    obtain ⟨pL, hw''⟩ := hw'
    subst hw''
    go_wp2_with fail
    go_ret
    exact ⟨ret_bool (by rw [HE.out, ← HR.out, Bool.eq_iff_iff]; simp), HX.out.2.1.trans (pL.ok.mono HX.out.2.1.size)⟩
  · have HE : Hid (holdB d (key, rev, true) = decide (d.T key ≤ rev)) := rfl
    go_enter Tryz.func137, Tryz.ntmps137
    go_wp2_with fail
    clear hx
    generalize w.alloc (.cells #[.string key, .int .i64 rev, .bool true] 81) = W0 at *
    have ha0 := HX.out.1.below HX.out.2.1
    have y0 : ∀ p : Later W0, p.val.cell? ⟨h.S, 1, none⟩ = some (.map (some h.mT)) := fun p => p.cell (cell_of_obj ha0.obj 1)
    have y1 : ∀ p : Later W0, p.val.cell? ⟨w.heap.size, 0, none⟩ = some (.string key) := fun p => p.cell (cell_of_obj HX.out.2.2 0)
    have y2 : ∀ p : Later W0, p.val.cell? ⟨w.heap.size, 1, none⟩ = some (.int .i64 rev) := fun p => p.cell (cell_of_obj HX.out.2.2 1)
    have y3 : ∀ p : Later W0, (Instr.lookup 93 (.map (some h.mT)) (.string key) false).run Tryz.prog p.val = .ok (.int .i64 (d.T key)) p.val := fun p => look_T (ha0.below p.ok) key hk
    clear ha0
    refine wp_region_later (by kernel_rfl) (by kernel_rfl) ?_
    repeat (quiet_step (fail))
    refine wpQuiet_nil ?_
    intro _ hw'
    obtain ⟨pL, hw''⟩ := hw'
    subst hw''
    go_wp2_with fail
    go_ret
    exact ⟨ret_bool HE.out.symm, HX.out.2.1.trans (pL.ok.mono HX.out.2.1.size)⟩
def holdAllB (d : StoD) (gs : List Gd) : Bool := gs.all (holdB d)
set_option maxRecDepth 100000 in
set_option maxHeartbeats 2000000 in
theorem holdAll_any (w : World) (B : Nat) (h : StoH) (d : StoD) (a : Option Addr) (gs : List Gd) (c : Nat) (ha : StoAt w B h d) (hg : AtG w a gs) (hk : ∀ g ∈ gs, g.1.size ≤ maxLen) : Calls Tryz.prog 91 #[pt h.S, .slice a gs.length c] w fun e w' => e = .returned (.bool (holdAllB d gs)) ∧ Below w.heap.size w w' := by
  have HA := Lib.hid ha
  have HG := Lib.hid hg
  have HK := Lib.hid hk
  have gm := hg.1
  clear ha hg hk
  go_enter Tryz.func91, Tryz.ntmps91
  go_wp2_with fail
  go_loopw [9] (fun i wr => ∃ k : Nat, k ≤ gs.length ∧ i = .int .i64 k ∧ Hid (holdAllB d gs = holdAllB d (gs.drop k)) ∧ Hid (Below w.heap.size w wr)) (fun i _ => gs.length - (intOf i).toNat)
  case atStart => exact ⟨0, Nat.zero_le _, rfl, rfl, Below.refl _ _⟩
  case round =>
    obtain ⟨k, hk, rfl, HT, HB⟩ := hrel
    by_cases hlt : k < gs.length
    · obtain ⟨b, off, ha, hb, d0, d1, d2⟩ := HG.out.2 k hlt
      have c0 := cell_later HB.out d0
      have c1 := cell_later HB.out d1
      have c2 := cell_later HB.out d2
      have hdrop := Lib.hid (all_drop (d := g0) (holdB d) hlt)
      have hkk := HK.out (gs.getD k g0) (getD_mem hlt)
      clear d0 d1 d2 HG HK
      subst ha
      generalize gs.getD k g0 = q at *
      obtain ⟨q0, q1, q2⟩ := q
      dsimp only at *
      have hle := HB.out.size
      have hb1 : Below w.heap.size w (wr.alloc (.cells #[.string q0, .int .i64 q1, .bool q2] 81)) := HB.out.alloc hle _
      have hh := stoHolds_any (wr.alloc (.cells #[.string q0, .int .i64 q1, .bool q2] 81)) B h d (q0, q1, q2) (HA.out.below hb1) hkk
      have HB1 := Lib.hid hb1
      clear hb1
      cases x0 : holdB d (q0, q1, q2)
      · rw [x0] at hh
        have X0 := Lib.hid x0
        go_wp2_with fail
        refine hh.mono ?_
        rintro e w1 ⟨rfl, hb1⟩
        go_wp2_with fail
        go_ret
        exact ⟨ret_bool (by rw [HT.out]; unfold holdAllB; rw [hdrop.out, X0.out]; rfl), HB1.out.trans (hb1.mono HB1.out.size)⟩
      · rw [x0] at hh
        have X0 := Lib.hid x0
        go_wp2_with fail
        refine hh.mono ?_
        rintro e w1 ⟨rfl, hb1⟩
        go_wp2_with fail
        go_roundw
        case rel => exact ⟨k + 1, by omega, by go_num, by show _ = _; rw [HT.out]; unfold holdAllB; rw [hdrop.out, X0.out]; rfl, HB1.out.trans (hb1.mono HB1.out.size)⟩
        case measure => simp [intOf]; omega
    · go_wp2
      go_ret
      exact ⟨ret_bool (by rw [HT.out, List.drop_eq_nil_of_le (by omega)]; rfl), HB.out⟩
def goneB (d : StoD) (x : Wr) : Bool := !x.gone || (d.E.find? (isK x.key)).isSome
set_option maxRecDepth 100000 in
set_option maxHeartbeats 4000000 in
theorem hasGone_any (w : World) (B : Nat) (h : StoH) (d : StoD) (a : Option Addr) (ws : List Wr) (c : Nat) (ha : StoAt w B h d) (hw : AtW w a ws) (hk : ∀ x ∈ ws, x.key.size ≤ maxLen) : Calls Tryz.prog 92 #[pt h.S, .slice a ws.length c] w fun e w' => e = .returned (.bool (ws.all (goneB d))) ∧ Below w.heap.size w w' := by
  have HA := Lib.hid ha
  have HW := Lib.hid hw
  have HK := Lib.hid hk
  have gm := hw.1
  clear ha hw hk
  go_enter Tryz.func92, Tryz.ntmps92
  go_wp2_with fail
  go_loopw [11] (fun i wr => ∃ k : Nat, k ≤ ws.length ∧ i = .int .i64 k ∧ Hid (ws.all (goneB d) = (ws.drop k).all (goneB d)) ∧ Hid (Below w.heap.size w wr)) (fun i _ => ws.length - (intOf i).toNat)
  case atStart => exact ⟨0, Nat.zero_le _, rfl, rfl, Below.refl _ _⟩
  case round =>
    obtain ⟨k, hk, rfl, HT, HB⟩ := hrel
    by_cases hlt : k < ws.length
    · obtain ⟨b, off, va, vc, ha, hb, d0, d1, d2, _, _, _, _⟩ := HW.out.2 k hlt
      have c0 := cell_later HB.out d0
      have c1 := cell_later HB.out d1
      have c2 := cell_later HB.out d2
      have hdrop := Lib.hid (all_drop (d := r0) (goneB d) hlt)
      have hkk := HK.out (ws.getD k r0) (getD_mem hlt)
      clear d0 d1 d2 HW HK
      subst ha
      generalize ws.getD k r0 = q at *
      obtain ⟨q0, q1, q2⟩ := q
      dsimp only at *
      have hle := HB.out.size
      have hb1 : Below w.heap.size w (wr.alloc (.cells #[.string q0, .slice va q1.length vc, .bool q2] 73)) := HB.out.alloc hle _
      have kX := heap_alloc_self wr (.cells #[.string q0, .slice va q1.length vc, .bool q2] 73)
      have hA1 := HA.out.below hb1
      have HB1 := Lib.hid hb1
      go_wp2_with fail
      generalize wr.alloc (.cells #[.string q0, .slice va q1.length vc, .bool q2] 73) = W0 at *
      have y0 : W0.drew.cell? ⟨h.S, 0, none⟩ = some (.map (some h.mE)) := cell_of_obj hA1.obj 0
      have y1 : W0.drew.cell? ⟨wr.heap.size, 0, none⟩ = some (.string q0) := cell_of_obj kX 0
      have y3 := look_E (w := W0.drew) (hA1.below (Below.refl _ _).drew) q0 hkk true
      have y4 := cell_of_obj kX 2
      have y5 := look_E (w := (W0.alloc (.cells #[.string ⟨#[]⟩, .int .i64 0, .slice none 0 0] 75)).drew) (hA1.below (((Below.refl _ _).alloc (Nat.le_refl _) _).drew)) q0 hkk true
      have hbz : Below W0.heap.size W0 (W0.alloc (.cells #[.string ⟨#[]⟩, .int .i64 0, .slice none 0 0] 75)).drew := (((Below.refl _ _).alloc (Nat.le_refl _) _).drew)
      have y6 := cell_later hbz (cell_of_obj hA1.obj 0)
      have y7 := cell_later hbz (cell_of_obj kX 0)
      have y8 := cell_later hbz (cell_of_obj kX 2)
      simp only [if_true] at y3 y5
      generalize getH h q0 = x at *
      obtain ⟨⟨ke, re, vx⟩, xa, xc⟩ := x
      dsimp only [entV, entC] at y3 y5
      have y9 : ∀ o, (W0.alloc o).drew.cell? ⟨wr.heap.size, 2, none⟩ = some (.bool q2) := fun o => cell_later (((Below.refl _ _).alloc (Nat.le_refl _) o).drew) (cell_of_obj kX 2)
      have HG : Hid (goneB d ⟨q0, q1, q2⟩ = (!q2 || (d.E.find? (isK q0)).isSome)) := rfl
      generalize (d.E.find? (isK q0)).isSome = fb at *
      clear c0 c1 c2 hb1 kX hA1 hbz
      go_region_with (fail)
      all_goals
        clear y0 y1 y3 y4 y5 y6 y7 y8
        cases q2
        · go_wp2_with fail
          go_roundw
          case rel => exact ⟨k + 1, by omega, by go_num, by show _ = _; rw [HT.out, hdrop.out, HG.out]; rfl, HB1.out.trans ((((Below.refl _ _).alloc (Nat.le_refl _) _).drew).mono HB1.out.size)⟩
          case measure => simp [intOf]; omega
        · cases fb
          · go_wp2_with fail
            go_ret
            exact ⟨ret_bool (by rw [HT.out, hdrop.out, HG.out]; rfl), HB1.out.trans ((((Below.refl _ _).alloc (Nat.le_refl _) _).drew).mono HB1.out.size)⟩
          · go_wp2_with fail
            go_roundw
            case rel => exact ⟨k + 1, by omega, by go_num, by show _ = _; rw [HT.out, hdrop.out, HG.out]; rfl, HB1.out.trans ((((Below.refl _ _).alloc (Nat.le_refl _) _).drew).mono HB1.out.size)⟩
            case measure => simp [intOf]; omega
    · go_wp2
      go_ret
      exact ⟨ret_bool (by rw [HT.out, List.drop_eq_nil_of_le (by omega)]; rfl), HB.out⟩
end Go.Proofs.YtaleceobkbgcnaaGreat
namespace Go.Proofs.YtaleceobkbgcnaaGreat
open Go.RowKit

def clR : Go.Shelf.Ren := ⟨fun | 25 => 166 | n => n, fun | 0 => 0 | 3 => 3 | 4 => 4 | 5 => 5 | 9 => 9 | 37 => 28 | 47 => 284 | n => n, fun n => n⟩
theorem clL : Go.Proofs.LaysPu.n25 Tryz.prog clR where
  mixed := by kernel_rfl
  f25 := Tryz.func166.trans (congrArg some (by kernel_rfl))
  t0 := Tryz.underlying0
  a0 := Tryz.isAgg0
  z0 := Tryz.sizeOf0
  v0 := Tryz.zeroValue0
  i0 := by kernel_rfl
  t3 := Tryz.underlying3
  a3 := Tryz.isAgg3
  z3 := Tryz.sizeOf3
  v3 := Tryz.zeroValue3
  i3 := by kernel_rfl
  t4 := Tryz.underlying4
  a4 := Tryz.isAgg4
  z4 := Tryz.sizeOf4
  v4 := Tryz.zeroValue4
  i4 := by kernel_rfl
  t5 := Tryz.underlying5
  a5 := Tryz.isAgg5
  z5 := Tryz.sizeOf5
  v5 := Tryz.zeroValue5
  i5 := by kernel_rfl
  t9 := Tryz.underlying9
  a9 := Tryz.isAgg9
  z9 := Tryz.sizeOf9
  v9 := Tryz.zeroValue9
  i9 := by kernel_rfl
  t37 := Tryz.underlying28
  a37 := Tryz.isAgg28
  z37 := Tryz.sizeOf28
  v37 := Tryz.zeroValue28
  i37 := by kernel_rfl
  t47 := Tryz.underlying284
  a47 := Tryz.isAgg284
  z47 := Tryz.sizeOf284
  v47 := Tryz.zeroValue284
  i47 := by kernel_rfl
set_option maxRecDepth 100000 in
theorem clone_any (s : ByteArray) (w : World) (hs : s.size ≤ 1000000) : Calls Tryz.prog 138 #[.string s] w fun e w' => e = .returned (.string s) ∧ Below w.heap.size w w' := by
  have h : Calls Tryz.prog 166 #[.string s] w fun e w' => e = .returned (.string s) ∧ Below w.heap.size w w' := Go.Proofs.AnyPu.stringslite_Clone clL s w (by omega)
  go_enter Tryz.func138, Tryz.ntmps138
  go_wp2_with fail
  refine h.mono ?_
  rintro e w1 ⟨rfl, hb⟩
  go_wp2
  go_ret
  exact ⟨rfl, hb⟩
end Go.Proofs.YtaleceobkbgcnaaGreat
namespace Go.Proofs.YtaleceobkbgcnaaGreat
open Go.RowKit

/-- Of each beginning of a key, up to so many bytes, the last Rev. -/
def touchF (T : ByteArray → Int) (key : ByteArray) (rev : Int) (j : Nat) : ByteArray → Int := fun k => if 1 ≤ k.size ∧ k.size ≤ j ∧ k = key.extract 0 k.size then rev else T k
theorem touch_0 (T : ByteArray → Int) (key : ByteArray) (rev : Int) : touchF T key rev 0 = T := by
  funext k
  unfold touchF
  rw [if_neg (by omega)]
theorem touch_step (T : ByteArray → Int) (key : ByteArray) (rev : Int) (j : Nat) (hj : j < key.size) : (fun k => if k = key.extract 0 (j + 1) then rev else touchF T key rev j k) = touchF T key rev (j + 1) := by
  have hs : (key.extract 0 (j + 1)).size = j + 1 := by rw [ByteArray.size_extract]; omega
  funext k
  by_cases hk : k = key.extract 0 (j + 1)
  · simp only [if_pos hk]
    unfold touchF
    rw [if_pos]
    subst hk
    rw [hs]
    exact ⟨by omega, Nat.le_refl _, rfl⟩
  · simp only [if_neg hk]
    unfold touchF
    by_cases h : 1 ≤ k.size ∧ k.size ≤ j ∧ k = key.extract 0 k.size
    · rw [if_pos h, if_pos ⟨h.1, by omega, h.2.2⟩]
    · rw [if_neg h, if_neg]
      rintro ⟨h1, h2, h3⟩
      rcases Nat.lt_or_ge k.size (j + 1) with h4 | h4
      · exact h ⟨h1, by omega, h3⟩
      · have : k.size = j + 1 := by omega
        rw [this] at h3
        exact hk h3
def insD (x : EntD) : List EntD → List EntD
  | [] => [x]
  | y :: r => if bytesBefore x.key.data.toList y.key.data.toList then x :: y :: r else y :: insD x r
def putD (x : EntD) (E : List EntD) : List EntD := insD x (E.filter fun y => !isK x.key y)
def delD (k : ByteArray) (E : List EntD) : List EntD := E.filter fun y => !isK k y
theorem insE_1 (x : EntH) : ∀ E : List EntH, (insE x E).map (·.1) = insD x.1 (E.map (·.1))
  | [] => rfl
  | y :: r => by
    rw [insE, List.map_cons, insD]
    split
    · rfl
    · rw [List.map_cons, insE_1 x r]
theorem filt_1 (k : ByteArray) (E : List EntH) : (E.filter fun y => !hasK k y).map (·.1) = (E.map (·.1)).filter fun y => !isK k y := by
  rw [List.filter_map]; rfl
theorem putE_1 (x : EntH) (E : List EntH) : (putE x E).map (·.1) = putD x.1 (E.map (·.1)) := by
  unfold putE putD
  rw [insE_1, filt_1]
theorem mem_insE {x y : EntH} : ∀ {E : List EntH}, y ∈ insE x E → y = x ∨ y ∈ E
  | [], h => by simpa [insE] using h
  | z :: r, h => by
    rw [insE] at h
    split at h
    · rcases List.mem_cons.1 h with h | h
      · exact .inl h
      · exact .inr h
    · rcases List.mem_cons.1 h with h | h
      · exact .inr (List.mem_cons.2 (.inl h))
      · exact (mem_insE h).imp id fun h => List.mem_cons_of_mem _ h
theorem mem_putE {x y : EntH} {E : List EntH} (h : y ∈ putE x E) : y = x ∨ y ∈ E := (mem_insE h).imp id fun h => (List.mem_filter.1 h).1
theorem len_insE (x : EntH) : ∀ E : List EntH, (insE x E).length = E.length + 1
  | [] => rfl
  | y :: r => by
    rw [insE]
    split
    · rfl
    · rw [List.length_cons, len_insE x r, List.length_cons]
theorem owns_tight {P : Program} {k : TypeId} {w : World} {b n : Nat} {E : List EntH} (h : w.ownsMap P k RE b n (mapE E)) : w.ownsMap P k RE b E.length (mapE E) := by
  have hs := h.size_le
  obtain ⟨es, clock, h1, h2, _, h4⟩ := h
  refine ⟨es, clock, h1, h2, ?_, h4⟩
  have e : Maps.size (mapE E) = E.length := by simp [Maps.size, mapE]
  have e2 : Maps.size (mapE E) = es.size := by rw [h4]; simp [Maps.size, length_sorted]
  omega
/-- What a write leaves. -/
def writeS (d : StoD) (rev : Int) (x : Wr) : StoD := { d with E := if x.gone then delD x.key d.E else putD ⟨x.key, rev, x.val⟩ d.E, T := touchF d.T x.key rev x.key.size }
theorem turned_turns {w w' : World} {b : Nat} (h : w.mapTurned w' b) : Turns (fun k => k = b) w w' := turns_of_grown h.grown fun k hk => by cases hk; rfl
theorem no_ty {w : World} {b n : Nat} {P : Program} {k : TypeId} {H : Type} {R : Value → Option (DataW H × List MemPlace)} {D : DataW H} (h : w.ownsMap P k R b n D) {t : TypeId} (hb : HasTy w b t) : False := by
  obtain ⟨es, clock, h1, _⟩ := h
  obtain ⟨cs, fr, h2⟩ := hb
  rw [h1] at h2
  cases h2
/-- A row of bytes is no map. -/
theorem val_map {w w' : World} {B b : Nat} {l : List Int} {a : Option Addr} {c : Nat} (h : ValOwn w B l a c) (ht : Turns (fun k => k = b) w w') (hb : ∀ t, ¬ HasTy w b t) : ValOwn w' B l a c := by
  refine ⟨row_turns h.1 ht fun k hk hs => ?_, h.2⟩
  subst hs
  rcases h.1.2 with ⟨e, _⟩ | ⟨g, cap, cur, e, _, hg, _⟩
  · rw [e] at hk; cases hk
  · rw [e] at hk
    cases hk
    exact hb _ ⟨_, _, hg⟩
theorem ev_map {w w' : World} {B b : Nat} {v : Value} {H : List EvH} (h : EvOwn w B v H) (ht : Turns (fun k => k = b) w w') (hb : ∀ t, ¬ HasTy w b t) : EvOwn w' B v H :=
  ⟨h.row.turns ht fun k hk e => by subst e; exact hb _ (h.hasTy hk), fun x hx => val_map (h.val x hx) ht hb⟩
theorem log_map {w w' : World} {B G b : Nat} {v : Value} {H : List EvH} {d : LogD} (h : LogAt w B G v H d) (ht : Turns (fun k => k = b) w w') (hb : ∀ t, ¬ HasTy w b t) : LogAt w' B G v H d :=
  ⟨⟨Nat.le_trans h.raw.lo ht.size, ht.obj h.raw.obj fun e => by subst e; exact hb _ ⟨_, _, h.raw.obj⟩, ev_map h.raw.own ht hb⟩, h.same, h.ok, h.few⟩
/-- One beginning more. -/
theorem StoAt.touch {w : World} {B : Nat} {h : StoH} {d : StoD} (ha : StoAt w B h d) (k : ByteArray) (hk : k.size ≤ maxLen) (r : Int) (hr : -9223372036854775808 ≤ r ∧ r ≤ 9223372036854775807) (hn : h.nT < maxLen) :
    ∃ w' L, (Instr.mapUpdate 93 (.map (some h.mT)) (.string k) (.int .i64 r)).run Tryz.prog w = .ok () w' ∧ StoAt w' B { h with nT := h.nT + 1, L := L } { d with T := fun k' => if k' = k then r else d.T k' } ∧ Turns (fun x => x = h.mT) w w' := by
  have hkey := Go.WideMaps.keyOf_string_mk (P := Tryz.prog) (k := 9) Tryz.underlying9 hk
  obtain ⟨w', hrun, hown, htu⟩ := ha.toch.store (Maps.string_keyed Tryz.underlying9) Tryz.underlying93 hn (val := .int .i64 r) (d := .lit (.int .i64 r)) (ps := []) hkey (plainElem_int Tryz.underlying2 (by simp [Lit.wf, IntKind.min, IntKind.max, IntKind.signed, IntKind.bits]; omega))
  have ht := turned_turns htu
  have hnt : ∀ t, ¬ HasTy w h.mT t := fun t hb => no_ty ha.toch hb
  obtain ⟨a1, a2, a3, a4, a5, a6, a7, a8⟩ := ha.apart
  exact ⟨w', _, hrun, ⟨Nat.le_trans ha.lo ht.size, ht.obj ha.obj a2, owns_block ha.ents (ht.block _ ha.ents.lt ha.ne), hown, log_map ha.log ht hnt, fun x hx => val_map (ha.vals x hx) ht hnt, ha.same, atT_put ha.tval k r, ha.ne, ha.few⟩, ht⟩
theorem StoAt.ents_turn {w w' : World} {B : Nat} {h : StoH} {d : StoD} (ha : StoAt w B h d) (E : List EntH) (E' : List EntD) (hE : E.map (·.1) = E') (hown : w'.ownsMap Tryz.prog 9 RE h.mE E.length (mapE E)) (ht : Turns (fun x => x = h.mE) w w')
    (hv : ∀ x ∈ E, ValOwn w B x.1.val x.2.1 x.2.2) (hf : ∀ x ∈ E, x.1.val.length ≤ 140737488355328) : StoAt w' B { h with E := E } { d with E := E' } := by
  have hnt : ∀ t, ¬ HasTy w h.mE t := fun t hb => no_ty ha.ents hb
  obtain ⟨a1, a2, a3, a4, a5, a6, a7, a8⟩ := ha.apart
  exact ⟨Nat.le_trans ha.lo ht.size, ht.obj ha.obj a1, hown, owns_block ha.toch (ht.block _ ha.toch.lt (Ne.symm ha.ne)), log_map ha.log ht hnt, fun x hx => val_map (hv x hx) ht hnt, hE, ha.tval, ha.ne, hf⟩
theorem StoAt.put {w : World} {B : Nat} {h : StoH} {d : StoD} (ha : StoAt w B h d) (x : EntH) (hk : x.1.key.size ≤ maxLen) (hn : h.E.length < maxLen) (hx : ValOwn w B x.1.val x.2.1 x.2.2) (hf : x.1.val.length ≤ 140737488355328) :
    ∃ w', (Instr.mapUpdate 145 (.map (some h.mE)) (.string x.1.key) (entV x)).run Tryz.prog w = .ok () w' ∧ StoAt w' B { h with E := putE x h.E } { d with E := putD x.1 d.E } ∧ Turns (fun k => k = h.mE) w w' := by
  have hkey := Go.WideMaps.keyOf_string_mk (P := Tryz.prog) (k := 9) Tryz.underlying9 hk
  obtain ⟨w', hrun, hown, htu⟩ := ha.ents.store (Maps.string_keyed Tryz.underlying9) Tryz.underlying145 hn (val := entV x) (d := .held (entV x)) (ps := []) hkey rfl
  have ht := turned_turns htu
  rw [mapE_put] at hown
  refine ⟨w', hrun, ha.ents_turn _ _ (by rw [putE_1, ha.same]) (owns_tight hown) ht (fun y hy => ?_) (fun y hy => ?_), ht⟩
  · rcases mem_putE hy with rfl | hy
    · exact hx
    · exact ha.vals y hy
  · rcases mem_putE hy with rfl | hy
    · exact hf
    · exact ha.few y hy
theorem StoAt.del {w w' : World} {B n : Nat} {h : StoH} {d : StoD} (ha : StoAt w B h d) (k : ByteArray) (hown : w'.ownsMap Tryz.prog 9 RE h.mE n ((mapE h.E).del (litK k))) (ht : Turns (fun x => x = h.mE) w w') : StoAt w' B { h with E := delE k h.E } { d with E := delD k d.E } := by
  rw [mapE_del] at hown
  exact ha.ents_turn _ _ (by unfold delE; rw [filt_1, ha.same]; rfl) (owns_tight hown) ht (fun y hy => ha.vals y (List.mem_filter.1 hy).1) (fun y hy => ha.few y (List.mem_filter.1 hy).1)
end Go.Proofs.YtaleceobkbgcnaaGreat
