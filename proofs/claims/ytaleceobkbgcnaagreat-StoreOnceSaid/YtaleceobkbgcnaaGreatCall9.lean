/-
  How calls are held against each other. No conditions beyond what is written in each statement.
-/
import Derived.Test.YtaleceobkbgcnaaGreatGCallC
import Derived.Test.YtaleceobkbgcnaaGreatGEqA
set_option linter.unusedSimpArgs false
set_option linter.unusedVariables false
namespace Go.Proofs.YtaleceobkbgcnaaGreat
open Go.RowKit

theorem str_inj {l m : List Int} (hl : ∀ y ∈ l, 0 ≤ y ∧ y ≤ 255) (hm : ∀ y ∈ m, 0 ≤ y ∧ y ≤ 255) (h : strOfNums l = strOfNums m) : l = m := by
  have back : ∀ k : List Int, (∀ y ∈ k, 0 ≤ y ∧ y ≤ 255) → (strOfNums k).data.toList.map (fun b => (b.toNat : Int)) = k := fun k hk => by
    rw [strOfNums_data, List.map_map]
    conv => rhs; rw [← List.map_id k]
    refine List.map_congr_left fun y hy => ?_
    have := hk y hy
    simp only [Function.comp, id]
    rw [UInt8.toNat_ofNat_of_lt' (by show y.toNat < 256; omega)]
    omega
  rw [← back l hl, ← back m hm, h]
theorem AtB.range9 {w : World} {a : Option Addr} {l : List Int} (h : AtB w a l) : ∀ y ∈ l, 0 ≤ y ∧ y ≤ 255 := fun y hy => by
  obtain ⟨i, hi, rfl⟩ := List.getElem_of_mem hy
  obtain ⟨b, off, _, _, _, h0, h1⟩ := h i hi
  rw [List.getD_eq_getElem?_getD, List.getElem?_eq_getElem hi] at h0 h1
  exact ⟨h0, h1⟩
theorem conv_any {w : World} {a : Option Addr} {l : List Int} (c : Nat) (h : AtB w a l) : (convert 28 9 (.slice a l.length c)).run Tryz.prog w = .ok (.string (strOfNums l)) w := by
  rcases Nat.eq_zero_or_pos l.length with hz | hz
  · have hl : l = [] := List.eq_nil_of_length_eq_zero hz
    subst hl
    exact conv_0 w a c
  · exact conv_b w a l l.length c rfl (h.plain hz) h
def eqB (l m : List Int) : Bool := decide (l = m)
theorem eqBytes_any (a : Option Addr) (l : List Int) (c : Nat) (b : Option Addr) (m : List Int) (d : Nat) (w : World) (ha : AtB w a l) (hb : AtB w b m) :
    Calls Tryz.prog 132 #[.slice a l.length c, .slice b m.length d] w fun e w' => e = .returned (.bool (eqB l m)) ∧ w' = w := by
  have h1 := conv_any c ha
  have h2 := conv_any d hb
  have HB : Hid (eqB l m = ((strOfNums l).toList == (strOfNums m).toList)) := by
    show _ = _
    rw [toList_beq]
    exact decide_eq_decide.2 ⟨fun h => by rw [h], str_inj ha.range9 hb.range9⟩
  clear ha hb
  go_enter Tryz.func132, Tryz.ntmps132
  go_wp2
  go_ret
  exact ⟨ret_bool (by rw [HB.out]), rfl⟩
def eqG (x y : Gd) : Bool := decide (x.1 = y.1) && decide (x.2.1 = y.2.1) && decide (x.2.2 = y.2.2)
theorem guardG : Tryz.prog.eqGuardType Tryz.prog.depth 81 = false := by kernel_rfl
theorem structG : Tryz.prog.underlying 81 = some (.struct (Tryz.prog.fieldsOf 81)) := by kernel_rfl
theorem heldG : Tryz.prog.stoodInHeld 81 = false := by kernel_rfl
theorem eq_G (x z : ByteArray) (y u : Int) (b c : Bool) (w : World) : (Op.equalIn 10000 81 (.agg #[.string x, .int .i64 y, .bool b]) (.agg #[.string z, .int .i64 u, .bool c])).run Tryz.prog w = .ok (eqG (x, y, b) (z, u, c)) w := by
  rw [run_equalIn_agg w 9999 81 _ _ structG heldG]
  have hf := structG.symm.trans Tryz.underlying81
  simp only [Option.some.injEq, TypeDesc.struct.injEq] at hf
  rw [hf]
  go_simp
  unfold eqG
  by_cases h1 : x = z
  · subst h1
    by_cases h2 : y = u
    · subst h2; cases b <;> cases c <;> simp
    · simp [h2]
  · have h1' : ¬ x.toList = z.toList := fun h => h1 (toList_inj.1 h)
    simp [h1, h1']

set_option maxRecDepth 100000 in
set_option maxHeartbeats 1000000 in
theorem eqGuards_any (a : Option Addr) (l : List Gd) (cap : Nat) (b : Option Addr) (m : List Gd) (cap' : Nat) (w : World) (hl : AtG w a l) (hm : AtG w b m) :
    Calls Tryz.prog 85 #[.slice a l.length cap, .slice b m.length cap'] w fun e w' => e = .returned (.bool (eqL eqG l m)) ∧ Below w.heap.size w w' := by
  obtain ⟨hn1, hl⟩ := hl; obtain ⟨hn2, hm⟩ := hm
  go_enter Tryz.func85, Tryz.ntmps85
  go_wp2
  · go_ret
    have h : ((l.length : Int) != (m.length : Int)) = true := by assumption
    have hne : l.length ≠ m.length := by simp at h; omega
    exact ⟨ret_bool (eqL_len hne).symm, Below.refl _ _⟩
  · have h : ((l.length : Int) != (m.length : Int)) = false := by assumption
    have heq : Hid (l.length = m.length) := by show _ = _; simp at h; omega
    clear h
    go_loopw [13] (fun i wr => ∃ k : Nat, k ≤ l.length ∧ i = .int .i64 k ∧ Hid (eqL eqG l m = eqL eqG (l.drop k) (m.drop k)) ∧ ∃ nd : Nat, wr = w.drewN nd) (fun i _ => l.length - (intOf i).toNat)
    case atStart => exact ⟨0, Nat.zero_le _, rfl, rfl, 0, rfl⟩
    case round =>
      obtain ⟨k, hk, rfl, hget, nd, rfl⟩ := hrel
      by_cases hlt : k < l.length
      · have hlt2 : k < m.length := by have := heq.out; omega
        have hdrop := Lib.hid (eqL_drop (eq := eqG) (d := g0) hlt hlt2)
        obtain ⟨b1, o1, ha1, hb1, c1, d1, f1⟩ := hl k hlt; subst ha1
        obtain ⟨b2, o2, ha2, hb2, c2, d2, f2⟩ := hm k hlt2; subst ha2
        have kl : (k : Int) < (l.length : Int) := by omega
        have km : (k : Int) < (m.length : Int) := by omega
        generalize hq1 : l.getD k g0 = q1 at *
        generalize hq2 : m.getD k g0 = q2 at *
        clear hq1 hq2
        clear hl hm; obtain ⟨q10, q11, q12⟩ := q1; obtain ⟨q20, q21, q22⟩ := q2; simp only at c1 d1 f1 c2 d2 f2; have gd := guardG; have he := eq_G q10 q20 q11 q21 q12 q22
        go_wp2
        go_quiet (fail)
        go_wp2
        · go_ret
          have hx : eqG (q10, q11, q12) (q20, q21, q22) = false := by simpa using ‹(!eqG (q10, q11, q12) (q20, q21, q22)) = true›
          exact ⟨ret_bool (by rw [hget.out, hdrop.out, hx]; rfl), (by (repeat (with_reducible first | exact Below.refl _ _ | refine Below.alloc ?_ ?_ _ | refine Below.setCell ?_ ?_ _ | refine Below.drew ?_ | refine below_drewN ?_ _)); all_goals (simp <;> omega))⟩
        · go_roundw
          case rel =>
            have hx : eqG (q10, q11, q12) (q20, q21, q22) = true := by simpa using ‹(!eqG (q10, q11, q12) (q20, q21, q22)) = false›
            exact ⟨k + 1, by omega, by go_num, by show _ = _; rw [hget.out, hdrop.out, hx]; rfl, _, rfl⟩
          case measure => simp [intOf]; omega
      · go_wp2
        go_ret
        have h := hget.out
        rw [List.drop_eq_nil_of_le (by omega), List.drop_eq_nil_of_le (by have := heq.out; omega)] at h
        exact ⟨ret_bool (by rw [h]; rfl), (by (repeat (with_reducible first | exact Below.refl _ _ | refine Below.alloc ?_ ?_ _ | refine Below.setCell ?_ ?_ _ | refine Below.drew ?_ | refine below_drewN ?_ _)); all_goals (simp <;> omega))⟩

def eqW (x y : Wr) : Bool := decide (x.key = y.key) && decide (x.gone = y.gone) && eqB x.val y.val
abbrev wrC (x : Wr) (a : Option Addr) (c : Nat) : Value := .agg #[.string x.key, .slice a x.val.length c, .bool x.gone]
set_option maxRecDepth 100000 in
set_option maxHeartbeats 1000000 in
theorem eqWrite_any (x y : Wr) (va vb : Option Addr) (ca cb : Nat) (w : World) (ha : AtB w va x.val) (hb : AtB w vb y.val) :
    Calls Tryz.prog 87 #[wrC x va ca, wrC y vb cb] w fun e w' => e = .returned (.bool (eqW x y)) ∧ Below w.heap.size w w' := by
  have hA : ∀ o o' : Obj, Below w.heap.size w ((w.alloc o).alloc o') := fun o o' => ((Below.refl _ _).alloc (Nat.le_refl _) o).alloc (by simp) o'
  obtain ⟨xk, xv, xg⟩ := x
  obtain ⟨yk, yv, yg⟩ := y
  dsimp only at *
  by_cases h1 : xk = yk
  · have h1' : (xk.toList == yk.toList) = true := by rw [toList_beq, decide_eq_true h1]
    by_cases h2 : xg = yg
    · have h2' : (xg == yg) = true := by simpa using h2
      have H := Lib.hid (And.intro h1 h2)
      clear h1 h2
      go_enter Tryz.func87, Tryz.ntmps87
      go_wp2_with fail
      refine (eqBytes_any _ _ _ _ _ _ _ (ha.below' (hA _ _)) (hb.below' (hA _ _))).mono ?_
      rintro e w1 ⟨rfl, rfl⟩
      go_wp2
      go_ret
      exact ⟨ret_bool (by unfold eqW; rw [decide_eq_true H.out.1, decide_eq_true H.out.2]; simp), hA _ _⟩
    · have h2' : (xg == yg) = false := by simpa using h2
      have H := Lib.hid h2
      clear h1 h2
      go_enter Tryz.func87, Tryz.ntmps87
      go_wp2
      go_ret
      exact ⟨ret_bool (by unfold eqW; rw [decide_eq_false H.out]; simp), (by (repeat (with_reducible first | exact Below.refl _ _ | refine Below.alloc ?_ ?_ _ | refine Below.setCell ?_ ?_ _ | refine Below.drew ?_ | refine below_drewN ?_ _)); all_goals (simp <;> omega))⟩
  · have h1' : (xk.toList == yk.toList) = false := by rw [toList_beq, decide_eq_false h1]
    have H := Lib.hid h1
    clear h1
    go_enter Tryz.func87, Tryz.ntmps87
    go_wp2
    go_ret
    exact ⟨ret_bool (by unfold eqW; rw [decide_eq_false H.out]; simp), (by (repeat (with_reducible first | exact Below.refl _ _ | refine Below.alloc ?_ ?_ _ | refine Below.setCell ?_ ?_ _ | refine Below.drew ?_ | refine below_drewN ?_ _)); all_goals (simp <;> omega))⟩

set_option maxRecDepth 100000 in
set_option maxHeartbeats 1000000 in
theorem eqWrites_any (a : Option Addr) (l : List Wr) (cap : Nat) (b : Option Addr) (m : List Wr) (cap' : Nat) (w : World) (hl : AtW w a l) (hm : AtW w b m) :
    Calls Tryz.prog 86 #[.slice a l.length cap, .slice b m.length cap', .func (.func 87) #[] #[]] w fun e w' => e = .returned (.bool (eqL eqW l m)) ∧ Below w.heap.size w w' := by
  obtain ⟨hn1, hl⟩ := hl
  obtain ⟨hn2, hm⟩ := hm
  by_cases hlen : l.length = m.length
  rotate_left
  · have h0 : ((l.length : Int) != (m.length : Int)) = true := by simp; omega
    have hne := Lib.hid hlen
    clear hlen
    go_enter Tryz.func86, Tryz.ntmps86
    go_wp2
    go_ret
    exact ⟨ret_bool (eqL_len hne.out).symm, Below.refl _ _⟩
  · have h0 : ((l.length : Int) != (m.length : Int)) = false := by simp; omega
    have heq := Lib.hid hlen
    clear hlen
    go_enter Tryz.func86, Tryz.ntmps86
    go_wp2
    go_loopw [17] (fun i wr => ∃ k : Nat, k ≤ l.length ∧ i = .int .i64 k ∧ Hid (eqL eqW l m = eqL eqW (l.drop k) (m.drop k)) ∧ Below w.heap.size w wr) (fun i _ => l.length - (intOf i).toNat)
    case atStart => exact ⟨0, Nat.zero_le _, rfl, rfl, Below.refl _ _⟩
    case round =>
      obtain ⟨k, hk, rfl, hget, hbel⟩ := hrel
      by_cases hlt : k < l.length
      · have hlt2 : k < m.length := by have := heq.out; omega
        have hdrop := Lib.hid (eqL_drop (eq := eqW) (d := r0) hlt hlt2)
        obtain ⟨b1, o1, va, ca, ha1, hb1, x0, x1, x2, hva, _, _, _⟩ := hl k hlt
        obtain ⟨b2, o2, vb, cb, ha2, hb2, y0, y1, y2, hvb, _, _, _⟩ := hm k hlt2
        have c0 := cell_later hbel x0
        have c1 := cell_later hbel x1
        have c2 := cell_later hbel x2
        have d0 := cell_later hbel y0
        have d1 := cell_later hbel y1
        have d2 := cell_later hbel y2
        have hA : ∀ o o' : Obj, Below wr.heap.size wr ((wr.alloc o).alloc o') := fun o o' => ((Below.refl _ _).alloc (Nat.le_refl _) o).alloc (by simp) o'
        have hv1 := hva.below' hbel
        have hv2 := hvb.below' hbel
        have kl : (k : Int) < (l.length : Int) := by omega
        have km : (k : Int) < (m.length : Int) := by omega
        have hbw2 : b2 < wr.heap.size := by have := hbel.size; omega
        subst ha1
        subst ha2
        generalize hq1 : l.getD k r0 = q1 at *
        generalize hq2 : m.getD k r0 = q2 at *
        clear hq1 hq2 hl hm x0 x1 x2 y0 y1 y2 hva hvb
        obtain ⟨q10, q11, q12⟩ := q1
        obtain ⟨q20, q21, q22⟩ := q2
        simp only at c0 c1 c2 d0 d1 d2 hv1 hv2
        go_wp2_with fail
        refine (eqWrite_any ⟨q10, q11, q12⟩ ⟨q20, q21, q22⟩ _ _ _ _ _ (hv1.below' (hA _ _)) (hv2.below' (hA _ _))).mono ?_
        rintro e w1 ⟨rfl, hb1⟩
        have hbe := hbel.trans (((hA _ _).trans (hb1.mono (by simp <;> omega))).mono hbel.size)
        have HB := Lib.hid hbe
        clear hbe hb1 hbel
        go_wp2
        · go_ret
          have hx : eqW ⟨q10, q11, q12⟩ ⟨q20, q21, q22⟩ = false := by simpa using ‹(!eqW ⟨q10, q11, q12⟩ ⟨q20, q21, q22⟩) = true›
          exact ⟨ret_bool (by rw [hget.out, hdrop.out, hx]; rfl), HB.out⟩
        · go_roundw
          case rel =>
            have hx : eqW ⟨q10, q11, q12⟩ ⟨q20, q21, q22⟩ = true := by simpa using ‹(!eqW ⟨q10, q11, q12⟩ ⟨q20, q21, q22⟩) = false›
            exact ⟨k + 1, by omega, by go_num, by show _ = _; rw [hget.out, hdrop.out, hx]; rfl, HB.out⟩
          case measure => simp [intOf]; omega
      · go_wp2
        go_ret
        have h := hget.out
        rw [List.drop_eq_nil_of_le (by omega), List.drop_eq_nil_of_le (by have := heq.out; omega)] at h
        exact ⟨ret_bool (by rw [h]; rfl), hbel⟩
def eqCall (c d : CallD) : Bool := decide (c.frm = d.frm) && decide (c.id = d.id) && decide (c.kind = d.kind) && decide (c.key = d.key) && decide (c.rev = d.rev) && eqL eqG c.gs d.gs && eqL eqW c.ws d.ws
set_option maxRecDepth 100000 in
set_option maxHeartbeats 4000000 in
theorem callEq_any (c d : CallD) (h k : CallH) (w : World) (hc : CallAt w c h) (hd : CallAt w d k) :
    Calls Tryz.prog 39 #[callV c h, callV d k] w fun e w' => e = .returned (.bool (eqCall c d)) ∧ Below w.heap.size w w' := by
  obtain ⟨c1, c2, c3, c4, c5, c6, c7⟩ := c
  obtain ⟨d1, d2, d3, d4, d5, d6, d7⟩ := d
  obtain ⟨hga, hgc, hwa, hwc⟩ := h
  obtain ⟨kga, kgc, kwa, kwc⟩ := k
  have hA : ∀ o o' : Obj, Below w.heap.size w ((w.alloc o).alloc o') := fun o o' => ((Below.refl _ _).alloc (Nat.le_refl _) o).alloc (by simp) o'
  by_cases g1 : c1 = d1
  rotate_left
  · have t1 : (c1 == d1) = false := by simpa using g1
    have G := Lib.hid g1
    clear g1
    as_aux_lemma =>
      go_enter Tryz.func39, Tryz.ntmps39
      go_wp2
      go_ret
      exact ⟨ret_bool (by unfold eqCall; dsimp only; rw [decide_eq_false G.out]; simp), hA _ _⟩
  have t1 : (c1 == d1) = true := by simpa using g1
  have G1 := Lib.hid g1
  clear g1
  by_cases g2 : c2 = d2
  rotate_left
  · have t2 : (c2 == d2) = false := by simpa using g2
    have G := Lib.hid g2
    clear g2
    as_aux_lemma =>
      go_enter Tryz.func39, Tryz.ntmps39
      go_wp2
      go_ret
      exact ⟨ret_bool (by unfold eqCall; dsimp only; rw [decide_eq_false G.out]; simp), hA _ _⟩
  have t2 : (c2 == d2) = true := by simpa using g2
  have G2 := Lib.hid g2
  clear g2
  by_cases g3 : c3 = d3
  rotate_left
  · have t3 : (c3 == d3) = false := by simpa using g3
    have G := Lib.hid g3
    clear g3
    as_aux_lemma =>
      go_enter Tryz.func39, Tryz.ntmps39
      go_wp2
      go_ret
      exact ⟨ret_bool (by unfold eqCall; dsimp only; rw [decide_eq_false G.out]; simp), hA _ _⟩
  have t3 : (c3 == d3) = true := by simpa using g3
  have G3 := Lib.hid g3
  clear g3
  by_cases g4 : c4 = d4
  rotate_left
  · have t4 : (c4.toList == d4.toList) = false := by rw [toList_beq, decide_eq_false g4]
    have G := Lib.hid g4
    clear g4
    as_aux_lemma =>
      go_enter Tryz.func39, Tryz.ntmps39
      go_wp2
      go_ret
      exact ⟨ret_bool (by unfold eqCall; dsimp only; rw [decide_eq_false G.out]; simp), hA _ _⟩
  have t4 : (c4.toList == d4.toList) = true := by rw [toList_beq, decide_eq_true g4]
  have G4 := Lib.hid g4
  clear g4
  by_cases g5 : c5 = d5
  rotate_left
  · have t5 : (c5 == d5) = false := by simpa using g5
    have G := Lib.hid g5
    clear g5
    as_aux_lemma =>
      go_enter Tryz.func39, Tryz.ntmps39
      go_wp2
      go_ret
      exact ⟨ret_bool (by unfold eqCall; dsimp only; rw [decide_eq_false G.out]; simp), hA _ _⟩
  have t5 : (c5 == d5) = true := by simpa using g5
  have G5 := Lib.hid g5
  clear g5
  have HE : Hid (eqCall ⟨c1, c2, c3, c4, c5, c6, c7⟩ ⟨d1, d2, d3, d4, d5, d6, d7⟩ = (eqL eqG c6 d6 && eqL eqW c7 d7)) := by
    show _ = _
    unfold eqCall
    dsimp only
    rw [decide_eq_true G1.out, decide_eq_true G2.out, decide_eq_true G3.out, decide_eq_true G4.out, decide_eq_true G5.out]
    simp
  clear G1 G2 G3 G4 G5
  have HCD := Lib.hid (And.intro hc hd)
  clear hc hd
  go_enter Tryz.func39, Tryz.ntmps39
  go_wp2_with fail
  refine (eqGuards_any _ _ _ _ _ _ _ (HCD.out.1.gs.below (hA _ _)) (HCD.out.2.gs.below (hA _ _))).mono ?_
  rintro e w1 ⟨rfl, hb1⟩
  have hbel := (hA (.cells (callC ⟨c1, c2, c3, c4, c5, c6, c7⟩ ⟨hga, hgc, hwa, hwc⟩) 59) (.cells (callC ⟨d1, d2, d3, d4, d5, d6, d7⟩ ⟨kga, kgc, kwa, kwc⟩) 59)).trans (hb1.mono (by simp <;> omega))
  have kA : w1.heap[w.heap.size]? = some (.cells (callC ⟨c1, c2, c3, c4, c5, c6, c7⟩ ⟨hga, hgc, hwa, hwc⟩) 59) := (hb1.block _ (by simp <;> omega)).trans (heap_two0 _ _ _)
  have kB : w1.heap[w.heap.size + 1]? = some (.cells (callC ⟨d1, d2, d3, d4, d5, d6, d7⟩ ⟨kga, kgc, kwa, kwc⟩) 59) := (hb1.block _ (by simp)).trans (heap_two1 _ _ _)
  have cA := cell_of_obj kA 6
  have cB := cell_of_obj kB 6
  simp at cA cB
  have HBel := Lib.hid hbel
  clear hb1 hbel kA kB
  cases hq : eqL eqG c6 d6
  · rw [hq] at HE
    go_wp2
    go_ret
    exact ⟨ret_bool (by rw [HE.out]; rfl), HBel.out⟩
  · rw [hq] at HE
    go_wp2_with fail
    refine (eqWrites_any _ _ _ _ _ _ _ (HCD.out.1.ws.below HBel.out) (HCD.out.2.ws.below HBel.out)).mono ?_
    rintro e w2 ⟨rfl, hb2⟩
    go_wp2
    go_ret
    exact ⟨ret_bool (by rw [HE.out]; rfl), HBel.out.trans (hb2.mono HBel.out.size)⟩
end Go.Proofs.YtaleceobkbgcnaaGreat
