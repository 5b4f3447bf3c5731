/-
  Stores: which txns may be. No conditions beyond what is written in each statement.
-/
import Derived.Test.YtaleceobkbgcnaaGreatGLogC
import Derived.Test.YtaleceobkbgcnaaGreatGCallA
import Derived.Test.YtaleceobkbgcnaaGreatGOff
set_option linter.unusedSimpArgs false
set_option linter.unusedVariables false
namespace Go.Proofs.YtaleceobkbgcnaaGreat
open Go.RowKit

theorem stoKey_any (s : ByteArray) (w : World) : Calls Tryz.prog 134 #[.string s] w fun e w' => e = .returned (.bool (keyB s)) ∧ w' = w := by
  go_enter Tryz.func134, Tryz.ntmps134
  go_wp2_with fail
  · go_ret
    exact ⟨ret_bool (by unfold keyB; rw [decide_eq_true (show 1 ≤ s.size by omega), Bool.true_and]; exact decide_eq_decide.2 (by omega)), rfl⟩
  · go_ret
    exact ⟨ret_bool (by unfold keyB; rw [decide_eq_false (show ¬ 1 ≤ s.size by omega)]; rfl), rfl⟩
def gdS (g : Gd) : Bool := keyB g.1 && decide (0 ≤ g.2.1)
def wrS (x : Wr) : Bool := keyB x.key && (if x.gone then decide (x.val.length = 0) else decide (x.val.length ≤ 4000))
abbrev wrV (x : Wr) (a : Option Addr) (c : Nat) : Value := .agg #[.string x.key, .slice a x.val.length c, .bool x.gone]
set_option maxRecDepth 100000 in
set_option maxHeartbeats 2000000 in
theorem stoWrite_any (x : Wr) (a : Option Addr) (c : Nat) (w : World) (hl : x.val.length ≤ 9223372036854775807) : Calls Tryz.prog 135 #[wrV x a c] w fun e w' => e = .returned (.bool (wrS x)) ∧ Below w.heap.size w w' := by
  obtain ⟨key, val, gone⟩ := x
  have hb : Below w.heap.size w (w.alloc (.cells #[.string key, .slice a val.length c, .bool gone] 73)) := (Below.refl _ _).alloc (Nat.le_refl _) _
  have HB := Lib.hid hb
  clear hb
  dsimp only at hl
  cases hk : keyB key
  · have HE : Hid (wrS ⟨key, val, gone⟩ = false) := by show _ = _; unfold wrS; rw [hk]; rfl
    go_enter Tryz.func135, Tryz.ntmps135
    go_wp2_with (go_at_call 134; refine (stoKey_any _ _).mono ?_; rintro e w1 ⟨rfl, rfl⟩)
    go_ret
    exact ⟨ret_bool HE.out.symm, HB.out⟩
  · cases gone
    · have HE : Hid (wrS ⟨key, val, false⟩ = decide ((val.length : Int) ≤ 4000)) := by show _ = _; unfold wrS; rw [hk, Bool.true_and]; exact decide_eq_decide.2 (by dsimp only; omega)
      go_enter Tryz.func135, Tryz.ntmps135
      go_wp2_with (go_at_call 134; refine (stoKey_any _ _).mono ?_; rintro e w1 ⟨rfl, rfl⟩)
      go_ret
      exact ⟨ret_bool HE.out.symm, HB.out⟩
    · have HE : Hid (wrS ⟨key, val, true⟩ = ((val.length : Int) == 0)) := by
        show _ = _; unfold wrS; rw [hk, Bool.true_and, if_pos rfl, Bool.eq_iff_iff]; simp
      go_enter Tryz.func135, Tryz.ntmps135
      go_wp2_with (go_at_call 134; refine (stoKey_any _ _).mono ?_; rintro e w1 ⟨rfl, rfl⟩)
      go_ret
      exact ⟨ret_bool HE.out.symm, HB.out⟩
theorem str_beq (a b : ByteArray) : (a.toList == b.toList) = decide (a = b) := by
  rw [Bool.eq_iff_iff, beq_iff_eq, decide_eq_true_eq, ByteArray.toList_eq, ByteArray.toList_eq]
  constructor
  · intro h
    exact ByteArray.ext (Array.toList_inj.1 h)
  · rintro rfl
    rfl
def hasB (ws : List Wr) (key : ByteArray) : Bool := ws.any fun x => decide (x.key = key)
theorem hasB_drop {ws : List Wr} {k : Nat} (key : ByteArray) (h : k < ws.length) : hasB (ws.drop k) key = (decide ((ws.getD k r0).key = key) || hasB (ws.drop (k + 1)) key) := by
  rw [List.drop_eq_getElem_cons h, List.getD_eq_getElem?_getD, List.getElem?_eq_getElem h]; rfl
set_option maxRecDepth 100000 in
set_option maxHeartbeats 2000000 in
theorem stoHas_any (a : Option Addr) (ws : List Wr) (c : Nat) (key : ByteArray) (w : World) (hw : AtW w a ws) : Calls Tryz.prog 136 #[.slice a ws.length c, .string key] w fun e w' => e = .returned (.bool (hasB ws key)) ∧ Below w.heap.size w w' := by
  have HW := Lib.hid hw
  have wm := hw.1
  clear hw
  go_enter Tryz.func136, Tryz.ntmps136
  go_wp2_with fail
  go_loopw [9] (fun i wr => ∃ k : Nat, k ≤ ws.length ∧ i = .int .i64 k ∧ Hid (hasB ws key = hasB (ws.drop k) key) ∧ Hid (Below w.heap.size w wr)) (fun i _ => ws.length - (intOf i).toNat)
  case atStart => exact ⟨0, Nat.zero_le _, rfl, rfl, Below.refl _ _⟩
  case round =>
    obtain ⟨k, hk, rfl, HT, HB⟩ := hrel
    by_cases hlt : k < ws.length
    · obtain ⟨b, off, va, vc, ha, hb, d0, d1, d2, _, _, _, _⟩ := HW.out.2 k hlt
      have c0 := cell_later HB.out d0
      have c1 := cell_later HB.out d1
      have c2 := cell_later HB.out d2
      have hdrop := Lib.hid (hasB_drop key hlt)
      clear d0 d1 d2 HW
      subst ha
      generalize hq : ws.getD k r0 = q at c0 c1 c2 hdrop
      obtain ⟨q0, q1, q2⟩ := q
      simp only at c0 c1 c2
      clear hq
      have hle := HB.out.size
      by_cases he : q0 = key
      · subst he
        go_wp2_with fail
        go_ret
        exact ⟨ret_bool (by rw [HT.out, hdrop.out]; simp), HB.out.alloc hle _⟩
      · have HE := Lib.hid he
        have hs : (q0.toList == key.toList) = false := by rw [str_beq, decide_eq_false he]
        go_wp2_with fail
        go_roundw
        case rel => exact ⟨k + 1, by omega, by go_num, by show _ = _; rw [HT.out, hdrop.out]; simp [HE.out], HB.out.alloc hle _⟩
        case measure => simp [intOf]; omega
    · go_wp2
      go_ret
      exact ⟨ret_bool (by rw [HT.out, List.drop_eq_nil_of_le (by omega)]; rfl), HB.out⟩
end Go.Proofs.YtaleceobkbgcnaaGreat
namespace Go.Proofs.YtaleceobkbgcnaaGreat
open Go.RowKit

def stepW (ws : List Wr) (k : Nat) : Bool := wrS (ws.getD k r0) && !hasB (ws.take k) (ws.getD k r0).key
def txnS (gs : List Gd) (ws : List Wr) : Bool := decide (gs.length ≤ 20) && decide (1 ≤ ws.length) && decide (ws.length ≤ 64) && gs.all gdS && (List.range ws.length).all (stepW ws)
theorem AtW.take {w : World} {a : Option Addr} {l : List Wr} (h : AtW w a l) (n : Nat) : AtW w a (l.take n) := by
  refine ⟨Nat.le_trans (by simp; omega) h.1, fun i hi => ?_⟩
  rw [List.length_take] at hi
  have e : (l.take n).getD i r0 = l.getD i r0 := by simp [List.getD_eq_getElem?_getD, List.getElem?_take_of_lt (show i < n by omega)]
  rw [e]
  exact h.2 i (by omega)
/-- What a region over a txn's write keeps. -/
def S5 (w W : World) (B1 B2 : Nat) (u1 u2 k s g : Value) : Prop := Below w.heap.size w W ∧ W.cell? ⟨B1, 0, none⟩ = some u1 ∧ W.cell? ⟨B1, 1, none⟩ = some u2 ∧ W.cell? ⟨B2, 0, none⟩ = some k ∧ W.cell? ⟨B2, 1, none⟩ = some s ∧ W.cell? ⟨B2, 2, none⟩ = some g
theorem s6_later {w W W' : World} {p0 p1 p2 p3 p4 : Addr} {u0 u1 u2 u3 u4 : Value} (h : Below w.heap.size w W ∧ W.cell? p0 = some u0 ∧ W.cell? p1 = some u1 ∧ W.cell? p2 = some u2 ∧ W.cell? p3 = some u3 ∧ W.cell? p4 = some u4) (hb : Below W.heap.size W W') :
    Below w.heap.size w W' ∧ W'.cell? p0 = some u0 ∧ W'.cell? p1 = some u1 ∧ W'.cell? p2 = some u2 ∧ W'.cell? p3 = some u3 ∧ W'.cell? p4 = some u4 :=
  ⟨h.1.trans (hb.mono h.1.size), cell_laterA hb h.2.1, cell_laterA hb h.2.2.1, cell_laterA hb h.2.2.2.1, cell_laterA hb h.2.2.2.2.1, cell_laterA hb h.2.2.2.2.2⟩
set_option maxRecDepth 100000 in
set_option maxHeartbeats 4000000 in
theorem stoTxn_any (ga : Option Addr) (gs : List Gd) (gc : Nat) (wa : Option Addr) (ws : List Wr) (wc : Nat) (w : World) (hg : AtG w ga gs) (hw : AtW w wa ws) (hwc : ws.length ≤ wc) (hwm : wc ≤ maxLen) :
    Calls Tryz.prog 90 #[.agg #[.slice ga gs.length gc, .slice wa ws.length wc]] w fun e w' => e = .returned (.bool (txnS gs ws)) ∧ Below w.heap.size w w' := by
  have kB := heap_new w (.cells #[.slice ga gs.length gc, .slice wa ws.length wc] 57)
  have hb0 : Below w.heap.size w (w.alloc (.cells #[.slice ga gs.length gc, .slice wa ws.length wc] 57)) := (Below.refl _ _).alloc (Nat.le_refl _) _
  have HB0 := Lib.hid (And.intro hb0 kB)
  have HG := Lib.hid hg
  have HW := Lib.hid hw
  have gm := hg.1
  have wm := hw.1
  clear hb0 hg hw kB
  by_cases h20 : (gs.length : Int) ≤ 20
  · by_cases h1 : (ws.length : Int) < 1
    · have HT : Hid (txnS gs ws = false) := by show _ = _; unfold txnS; rw [decide_eq_false (show ¬ 1 ≤ ws.length by omega)]; simp
      go_enter Tryz.func90, Tryz.ntmps90
      go_wp2_with fail
      go_ret
      exact ⟨ret_bool HT.out.symm, HB0.out.1⟩
    by_cases h64 : (ws.length : Int) ≤ 64
    · have e20 : decide (gs.length ≤ 20) = true := decide_eq_true (by omega)
      have e1 : decide (1 ≤ ws.length) = true := decide_eq_true (by omega)
      have e64 : decide (ws.length ≤ 64) = true := decide_eq_true (by omega)
      have HT : Hid (txnS gs ws = (gs.all gdS && (List.range ws.length).all (stepW ws))) := by show _ = _; unfold txnS; rw [e20, e1, e64]; rfl
      clear e20 e64 e1
      have h1' : ¬ (ws.length : Int) < 1 := h1
      go_enter Tryz.func90, Tryz.ntmps90
      go_wp2_with fail
      go_loopw [26] (fun i wr => ∃ k : Nat, k ≤ gs.length ∧ i = .int .i64 k ∧ Hid (txnS gs ws = ((gs.drop k).all gdS && (List.range ws.length).all (stepW ws))) ∧ Hid (Below w.heap.size w wr ∧ wr.heap[w.heap.size]? = some (.cells #[.slice ga gs.length gc, .slice wa ws.length wc] 57))) (fun i _ => gs.length - (intOf i).toNat)
      case atStart => exact ⟨0, Nat.zero_le _, rfl, HT, HB0⟩
      case round =>
        clear HT HB0
        obtain ⟨k, hk, rfl, HT, HB⟩ := hrel
        by_cases hlt : k < gs.length
        · obtain ⟨b, off, ha, hb, d0, d1, d2⟩ := HG.out.2 k hlt
          have c0 := cell_later HB.out.1 d0
          have c1 := cell_later HB.out.1 d1
          have c2 := cell_later HB.out.1 d2
          have hdrop := Lib.hid (all_drop (d := g0) gdS hlt)
          clear d0 d1 d2 HG HW
          subst ha
          generalize hq : gs.getD k g0 = q at c0 c1 c2 hdrop
          obtain ⟨q0, q1, q2⟩ := q
          simp only at c0 c1 c2
          clear hq
          have hle := HB.out.1.size
          have kH := heap_older' HB.out.2
          cases x0 : keyB q0
          · go_wp2_with (go_at_call 134; refine (stoKey_any _ _).mono ?_; rintro e w1 ⟨rfl, rfl⟩)
            go_ret
            exact ⟨ret_bool (by rw [HT.out, hdrop.out]; unfold gdS; rw [x0]; rfl), HB.out.1.alloc hle _⟩
          · by_cases x1 : 0 ≤ q1
            · have HX := Lib.hid x1
              go_wp2_with (go_at_call 134; refine (stoKey_any _ _).mono ?_; rintro e w1 ⟨rfl, rfl⟩)
              go_roundw
              case rel => exact ⟨k + 1, by omega, by go_num, by show _ = _; rw [HT.out, hdrop.out]; unfold gdS; rw [x0, decide_eq_true HX.out]; rfl, HB.out.1.alloc hle _, kH _⟩
              case measure => simp [intOf]; omega
            · have HX := Lib.hid x1
              go_wp2_with (go_at_call 134; refine (stoKey_any _ _).mono ?_; rintro e w1 ⟨rfl, rfl⟩)
              go_ret
              exact ⟨ret_bool (by rw [HT.out, hdrop.out]; unfold gdS; rw [x0, decide_eq_false (by have := HX.out; dsimp only; omega)]; rfl), HB.out.1.alloc hle _⟩
        · have HT2 : Hid (txnS gs ws = (List.range ws.length).all (stepW ws)) := by show _ = _; rw [HT.out, List.drop_eq_nil_of_le (by omega)]; rfl
          have cT := fun o => cell_of_obj HB.out.2 o
          clear HT HG
          go_wp2_with fail
          clear cT
          go_loopw [43] (fun i wr => ∃ k : Nat, k ≤ ws.length ∧ i = .int .i64 k ∧ Hid ((List.range k).all (stepW ws) = true) ∧ Hid (Below w.heap.size w wr ∧ wr.heap[w.heap.size]? = some (.cells #[.slice ga gs.length gc, .slice wa ws.length wc] 57))) (fun i _ => ws.length - (intOf i).toNat)
          case atStart => exact ⟨0, Nat.zero_le _, rfl, rfl, HB.out⟩
          case round =>
            clear HB hlt hk
            obtain ⟨k, hk, rfl, HT, HB⟩ := hrel
            by_cases hlt : k < ws.length
            · obtain ⟨b, off, va, vc, ha, hb, d0, d1, d2, _, _, _, _⟩ := HW.out.2 k hlt
              have c0 := cell_later HB.out.1 d0
              have c1 := cell_later HB.out.1 d1
              have c2 := cell_later HB.out.1 d2
              have hsu := Lib.hid (all_range_succ (stepW ws) k)
              have hno := Lib.hid (fun h : stepW ws k = false => all_range_no hlt h)
              have hst : Hid (stepW ws k = (wrS (ws.getD k r0) && !hasB (ws.take k) (ws.getD k r0).key)) := rfl
              have hvm : (ws.getD k r0).val.length ≤ 9223372036854775807 := by rename_i h1 h2 h3; unfold maxLen at h2; omega
              clear d0 d1 d2
              subst ha
              generalize hq : ws.getD k r0 = q at *
              clear hq
              have hle := HB.out.1.size
              have kH := heap_older' HB.out.2 (.cells #[.string q.key, .slice va q.val.length vc, .bool q.gone] 73)
              have kX := heap_alloc_self wr (.cells #[.string q.key, .slice va q.val.length vc, .bool q.gone] 73)
              have hb1 : Below w.heap.size w (wr.alloc (.cells #[.string q.key, .slice va q.val.length vc, .bool q.gone] 73)) := HB.out.1.alloc hle _
              have k0 : (0 : Int) ≤ (k : Int) := by omega
              have k1 : (k : Int) ≤ (wc : Int) := by omega
              have k2 : (k : Int) ≤ (ws.length : Int) := by omega
              unfold maxLen at hwm
              have kn : k ≤ wc := by omega
              go_wp2_with fail
              clear c0 c1 c2
              generalize hW : wr.alloc (.cells #[.string q.key, .slice va q.val.length vc, .bool q.gone] 73) = W0 at *
              have y0 : ∀ p : Later W0, p.val.cell? ⟨w.heap.size, 1, none⟩ = some (.slice (some ⟨b, off, none⟩) ws.length wc) := fun p => p.cell (cell_of_obj kH 1)
              have y1 : ∀ p : Later W0, p.val.cell? ⟨wr.heap.size, 0, none⟩ = some (.string q.key) := fun p => p.cell (cell_of_obj kX 0)
              have y2 : ∀ p : Later W0, p.val.cell? ⟨wr.heap.size, 1, none⟩ = some (.slice va q.val.length vc) := fun p => p.cell (cell_of_obj kX 1)
              have y3 : ∀ p : Later W0, p.val.cell? ⟨wr.heap.size, 2, none⟩ = some (.bool q.gone) := fun p => p.cell (cell_of_obj kX 2)
              have hMay : ∀ W, Calls Tryz.prog 135 #[wrV q va vc] W fun e w' => e = .returned (.bool (wrS q)) ∧ Below W.heap.size W w' := fun W => stoWrite_any q va vc W hvm
              have hHas : ∀ W, Below W0.heap.size W0 W → Calls Tryz.prog 136 #[.slice (some ⟨b, off, none⟩) k wc, .string q.key] W fun e w' => e = .returned (.bool (hasB (ws.take k) q.key)) ∧ Below W.heap.size W w' := fun W hW => by
                have h := stoHas_any (some ⟨b, off, none⟩) (ws.take k) wc q.key W ((HW.out.take k).below (hb1.trans (hW.mono hb1.size)))
                rw [show (ws.take k).length = k by rw [List.length_take]; omega] at h
                exact h
              have HB1 := Lib.hid (And.intro hb1 kH)
              clear HB hb1 hW kX kH
              cases x0 : wrS q
              · rw [x0] at hMay
                have HF := Lib.hid (hno.out (by rw [hst.out, x0]; rfl))
                refine wp_region_later (by kernel_rfl) (by kernel_rfl) ?_
                repeat (quiet_step (first | (go_at_call 135; exact later_of (hMay _))))
                refine wpQuiet_nil ?_
                intro _ hw'
                obtain ⟨pL, hw''⟩ := hw'
                subst hw''
                go_wp2_with fail
                go_ret
                exact ⟨ret_bool (by rw [HT2.out, HF.out]), HB1.out.1.trans (pL.ok.mono HB1.out.1.size)⟩
              · rw [x0] at hMay
                have X0 := Lib.hid x0
                cases x1 : hasB (ws.take k) q.key
                all_goals
                  have X1 := Lib.hid x1
                  rw [x1] at hHas
                  refine wp_region_later (by kernel_rfl) (by kernel_rfl) ?_
                  repeat (quiet_step (first | (go_at_call 135; exact later_of (hMay _)) | (go_at_call 136; exact later_of (hHas _ (Later.ok _)))))
                  refine wpQuiet_nil ?_
                  intro _ hw'
                  obtain ⟨pL, hw''⟩ := hw'
                  subst hw''
                · go_wp2_with fail
                  go_roundw
                  case rel => exact ⟨k + 1, by omega, by go_num, by show _ = _; rw [hsu.out, HT.out, hst.out, X0.out, X1.out]; rfl, HB1.out.1.trans (pL.ok.mono HB1.out.1.size), (pL.ok.block _ (Array.getElem?_eq_some_iff.1 HB1.out.2).1).trans HB1.out.2⟩
                  case measure => simp [intOf]; omega
                · go_wp2_with fail
                  go_ret
                  exact ⟨ret_bool (by rw [HT2.out, hno.out (by rw [hst.out, X0.out, X1.out]; rfl)]), HB1.out.1.trans (pL.ok.mono HB1.out.1.size)⟩
            · go_wp2
              go_ret
              exact ⟨ret_bool (by rw [HT2.out, show ws.length = k by omega, HT.out]), HB.out.1⟩
    · have HT : Hid (txnS gs ws = false) := by show _ = _; unfold txnS; rw [decide_eq_false (show ¬ ws.length ≤ 64 by omega)]; simp
      go_enter Tryz.func90, Tryz.ntmps90
      go_wp2_with fail
      go_ret
      exact ⟨ret_bool HT.out.symm, HB0.out.1⟩
  · have HT : Hid (txnS gs ws = false) := by show _ = _; unfold txnS; rw [decide_eq_false (show ¬ gs.length ≤ 20 by omega)]; simp
    go_enter Tryz.func90, Tryz.ntmps90
    go_wp2_with fail
    go_ret
    exact ⟨ret_bool HT.out.symm, HB0.out.1⟩
end Go.Proofs.YtaleceobkbgcnaaGreat
