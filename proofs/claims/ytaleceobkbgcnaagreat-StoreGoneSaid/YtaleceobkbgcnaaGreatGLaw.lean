/-
  The reference's comparisons of bytes, events, entries. No conditions beyond what is written in each statement.
-/
import Derived.Test.YtaleceobkbgcnaaGreatGRpB
import Derived.StillTailTactics
import Derived.Test.YtaleceobkbgcnaaGreatGCut
set_option linter.unusedSimpArgs false
set_option linter.unusedVariables false
namespace Go.Proofs.YtaleceobkbgcnaaGreat.Rp
open Go.RowKit

theorem refBytes_any (a : Option Addr) (l : List Int) (c : Nat) (b : Option Addr) (m : List Int) (d : Nat) (w : World) (ha : AtB w a l) (hb : AtB w b m) :
    Calls Tryz.prog 28 #[.slice a l.length c, .slice b m.length d] w fun e w' => e = .returned (.bool (eqB l m)) ∧ w = w' := by
  have h1 := conv_any c ha
  have h2 := conv_any d hb
  have HB : Hid (eqB l m = ((strOfNums l).toList == (strOfNums m).toList)) := by
    show _ = _
    rw [toList_beq]
    exact decide_eq_decide.2 ⟨fun h => by rw [h], str_inj ha.range9 hb.range9⟩
  clear ha hb
  go_enter Tryz.func28, Tryz.ntmps28
  go_wp2
  go_ret
  exact ⟨ret_bool (by rw [HB.out]), rfl⟩
set_option maxRecDepth 100000 in
set_option maxHeartbeats 1000000 in
theorem refEvent_any (x y : EvD) (va vb : Option Addr) (ca cb : Nat) (w : World) (ha : AtB w va x.val) (hb : AtB w vb y.val) :
    Calls Tryz.prog 69 #[.agg #[.int .i64 x.rev, .string x.key, .slice va x.val.length ca, .bool x.gone], .agg #[.int .i64 y.rev, .string y.key, .slice vb y.val.length cb, .bool y.gone]] w fun e w' => e = .returned (.bool (eqV x y)) ∧ Below w.heap.size w w' := by
  have hA : ∀ o o' : Obj, Below w.heap.size w ((w.alloc o).alloc o') := fun o o' => ((Below.refl _ _).alloc (Nat.le_refl _) o).alloc (by simp) o'
  obtain ⟨xrev, xkey, xval, xgone⟩ := x
  obtain ⟨yrev, ykey, yval, ygone⟩ := y
  dsimp only at *
  by_cases g0 : xrev = yrev
  rotate_left
  · have t0 : (xrev == yrev) = false := by simpa using g0
    have G := Lib.hid g0
    clear g0
    as_aux_lemma =>
      go_enter Tryz.func69, Tryz.ntmps69
      go_wp2
      go_ret
      exact ⟨ret_bool (by unfold eqV; dsimp only; rw [decide_eq_false G.out]; simp), hA _ _⟩
  have t0 : (xrev == yrev) = true := by simpa using g0
  have G0 := Lib.hid g0
  clear g0
  by_cases g1 : xkey = ykey
  rotate_left
  · have t1 : (xkey.toList == ykey.toList) = false := by rw [toList_beq, decide_eq_false g1]
    have G := Lib.hid g1
    clear g1
    as_aux_lemma =>
      go_enter Tryz.func69, Tryz.ntmps69
      go_wp2
      go_ret
      exact ⟨ret_bool (by unfold eqV; dsimp only; rw [decide_eq_false G.out]; simp), hA _ _⟩
  have t1 : (xkey.toList == ykey.toList) = true := by rw [toList_beq, decide_eq_true g1]
  have G1 := Lib.hid g1
  clear g1
  cases g3 : eqB xval yval
  · go_enter Tryz.func69, Tryz.ntmps69
    go_wp2_with fail
    refine (refBytes_any _ _ _ _ _ _ _ (ha.below' (hA _ _)) (hb.below' (hA _ _))).mono ?_
    rintro e w1 ⟨rfl, rfl⟩
    rw [g3]
    go_wp2
    go_ret
    exact ⟨ret_bool (by unfold eqV; dsimp only; rw [g3]; simp), hA _ _⟩
  · have G3 := Lib.hid g3
    clear g3
    by_cases g2 : xgone = ygone
    · have t2 : (xgone == ygone) = true := by simpa using g2
      have G2 := Lib.hid g2
      clear g2
      go_enter Tryz.func69, Tryz.ntmps69
      go_wp2_with fail
      refine (refBytes_any _ _ _ _ _ _ _ (ha.below' (hA _ _)) (hb.below' (hA _ _))).mono ?_
      rintro e w1 ⟨rfl, rfl⟩
      rw [G3.out]
      go_wp2
      go_ret
      exact ⟨ret_bool (by unfold eqV; dsimp only; rw [decide_eq_true G0.out, decide_eq_true G1.out, decide_eq_true G2.out, G3.out]; rfl), hA _ _⟩
    · have t2 : (xgone == ygone) = false := by simpa using g2
      have G2 := Lib.hid g2
      clear g2
      go_enter Tryz.func69, Tryz.ntmps69
      go_wp2_with fail
      refine (refBytes_any _ _ _ _ _ _ _ (ha.below' (hA _ _)) (hb.below' (hA _ _))).mono ?_
      rintro e w1 ⟨rfl, rfl⟩
      rw [G3.out]
      go_wp2
      go_ret
      exact ⟨ret_bool (by unfold eqV; dsimp only; rw [decide_eq_false G2.out]; simp), hA _ _⟩
set_option maxRecDepth 100000 in
set_option maxHeartbeats 1000000 in
theorem refEntry_any (x y : EntD) (va vb : Option Addr) (ca cb : Nat) (w : World) (ha : AtB w va x.val) (hb : AtB w vb y.val) :
    Calls Tryz.prog 52 #[.agg #[.string x.key, .int .i64 x.rev, .slice va x.val.length ca], .agg #[.string y.key, .int .i64 y.rev, .slice vb y.val.length cb]] w fun e w' => e = .returned (.bool (eqN x y)) ∧ Below w.heap.size w w' := by
  have hA : ∀ o o' : Obj, Below w.heap.size w ((w.alloc o).alloc o') := fun o o' => ((Below.refl _ _).alloc (Nat.le_refl _) o).alloc (by simp) o'
  obtain ⟨xkey, xrev, xval⟩ := x
  obtain ⟨ykey, yrev, yval⟩ := y
  dsimp only at *
  by_cases g1 : xkey = ykey
  rotate_left
  · have t1 : (xkey.toList == ykey.toList) = false := by rw [toList_beq, decide_eq_false g1]
    have G := Lib.hid g1
    clear g1
    as_aux_lemma =>
      go_enter Tryz.func52, Tryz.ntmps52
      go_wp2
      go_ret
      exact ⟨ret_bool (by unfold eqN; dsimp only; rw [decide_eq_false G.out]; simp), hA _ _⟩
  have t1 : (xkey.toList == ykey.toList) = true := by rw [toList_beq, decide_eq_true g1]
  have G1 := Lib.hid g1
  clear g1
  by_cases g0 : xrev = yrev
  rotate_left
  · have t0 : (xrev == yrev) = false := by simpa using g0
    have G := Lib.hid g0
    clear g0
    as_aux_lemma =>
      go_enter Tryz.func52, Tryz.ntmps52
      go_wp2
      go_ret
      exact ⟨ret_bool (by unfold eqN; dsimp only; rw [decide_eq_false G.out]; simp), hA _ _⟩
  have t0 : (xrev == yrev) = true := by simpa using g0
  have G0 := Lib.hid g0
  clear g0
  cases g3 : eqB xval yval
  · go_enter Tryz.func52, Tryz.ntmps52
    go_wp2_with fail
    refine (refBytes_any _ _ _ _ _ _ _ (ha.below' (hA _ _)) (hb.below' (hA _ _))).mono ?_
    rintro e w1 ⟨rfl, rfl⟩
    rw [g3]
    go_wp2
    go_ret
    exact ⟨ret_bool (by unfold eqN; dsimp only; rw [g3]; simp), hA _ _⟩
  · have G3 := Lib.hid g3
    clear g3
    go_enter Tryz.func52, Tryz.ntmps52
    go_wp2_with fail
    refine (refBytes_any _ _ _ _ _ _ _ (ha.below' (hA _ _)) (hb.below' (hA _ _))).mono ?_
    rintro e w1 ⟨rfl, rfl⟩
    rw [G3.out]
    go_wp2
    go_ret
    exact ⟨ret_bool (by unfold eqN; dsimp only; rw [decide_eq_true G0.out, decide_eq_true G1.out, G3.out]; rfl), hA _ _⟩
set_option maxRecDepth 100000 in
set_option maxHeartbeats 1000000 in
theorem refEvents_any (a : Option Addr) (l : List EvD) (cap : Nat) (b : Option Addr) (m : List EvD) (cap' : Nat) (w : World) (hl : AtE w a l) (hm : AtE w b m) :
    Calls Tryz.prog 27 #[.slice a l.length cap, .slice b m.length cap'] w fun e w' => e = .returned (.bool (eqL eqV l m)) ∧ Below w.heap.size w w' := by
  obtain ⟨hn1, hl⟩ := hl
  obtain ⟨hn2, hm⟩ := hm
  by_cases hlen : l.length = m.length
  rotate_left
  · have h0 : ((l.length : Int) != (m.length : Int)) = true := by simp; omega
    have hne := Lib.hid hlen
    clear hlen
    go_enter Tryz.func27, Tryz.ntmps27
    go_wp2
    go_ret
    exact ⟨ret_bool (eqL_len hne.out).symm, Below.refl _ _⟩
  · have h0 : ((l.length : Int) != (m.length : Int)) = false := by simp; omega
    have heq := Lib.hid hlen
    clear hlen
    go_enter Tryz.func27, Tryz.ntmps27
    go_wp2
    go_loopw [13] (fun i wr => ∃ k : Nat, k ≤ l.length ∧ i = .int .i64 k ∧ Hid (eqL eqV l m = eqL eqV (l.drop k) (m.drop k)) ∧ Below w.heap.size w wr) (fun i _ => l.length - (intOf i).toNat)
    case atStart => exact ⟨0, Nat.zero_le _, rfl, rfl, Below.refl _ _⟩
    case round =>
      obtain ⟨k, hk, rfl, hget, hbel⟩ := hrel
      by_cases hlt : k < l.length
      · have hlt2 : k < m.length := by have := heq.out; omega
        have hdrop := Lib.hid (eqL_drop (eq := eqV) (d := v0) hlt hlt2)
        obtain ⟨b1, o1, va, ca, ha1, hb1, x0, x1, x2, x3, hva, _, _, _⟩ := hl k hlt
        obtain ⟨b2, o2, vb, cb, ha2, hb2, y0, y1, y2, y3, hvb, _, _, _⟩ := hm k hlt2
        have c0 := cell_later hbel x0
        have d0 := cell_later hbel y0
        have c1 := cell_later hbel x1
        have d1 := cell_later hbel y1
        have c2 := cell_later hbel x2
        have d2 := cell_later hbel y2
        have c3 := cell_later hbel x3
        have d3 := cell_later hbel y3
        have hv1 := hva.below' hbel
        have hv2 := hvb.below' hbel
        have kl : (k : Int) < (l.length : Int) := by omega
        have km : (k : Int) < (m.length : Int) := by omega
        have hbw2 : b2 < wr.heap.size := by have := hbel.size; omega
        subst ha1
        subst ha2
        generalize hq1 : l.getD k v0 = q1 at *
        generalize hq2 : m.getD k v0 = q2 at *
        clear hq1 hq2 hl hm x0 x1 x2 x3 y0 y1 y2 y3 hva hvb
        obtain ⟨q10, q11, q12, q13⟩ := q1
        obtain ⟨q20, q21, q22, q23⟩ := q2
        simp only at c0 c1 c2 c3 d0 d1 d2 d3 hv1 hv2
        go_wp2_with fail
        go_still_tail 8, (by kernel_rfl)
        change wpList _ _ _ _ _ wr.drew
        go_wp2_with fail
        refine (refEvent_any ⟨q10, q11, q12, q13⟩ ⟨q20, q21, q22, q23⟩ _ _ _ _ _ (hv1.below' (Below.refl _ _).drew) (hv2.below' (Below.refl _ _).drew)).mono ?_
        rintro e w1 ⟨rfl, hb1⟩
        have hbe := hbel.trans ((((Below.refl wr.heap.size wr).drew).trans (hb1.mono (by simp))).mono hbel.size)
        have HB := Lib.hid hbe
        clear hbe hb1 hbel
        go_wp2
        · go_ret
          have hx : eqV ⟨q10, q11, q12, q13⟩ ⟨q20, q21, q22, q23⟩ = false := by simpa using ‹(!eqV ⟨q10, q11, q12, q13⟩ ⟨q20, q21, q22, q23⟩) = true›
          exact ⟨ret_bool (by rw [hget.out, hdrop.out, hx]; rfl), HB.out⟩
        · go_roundw
          case rel =>
            have hx : eqV ⟨q10, q11, q12, q13⟩ ⟨q20, q21, q22, q23⟩ = true := by simpa using ‹(!eqV ⟨q10, q11, q12, q13⟩ ⟨q20, q21, q22, q23⟩) = false›
            exact ⟨k + 1, by omega, by go_num, by show _ = _; rw [hget.out, hdrop.out, hx]; rfl, HB.out⟩
          case measure => simp [intOf]; omega
      · go_wp2
        go_ret
        have h := hget.out
        rw [List.drop_eq_nil_of_le (by omega), List.drop_eq_nil_of_le (by have := heq.out; omega)] at h
        exact ⟨ret_bool (by rw [h]; rfl), hbel⟩
set_option maxRecDepth 100000 in
set_option maxHeartbeats 1000000 in
theorem refEntries_any (a : Option Addr) (l : List EntD) (cap : Nat) (b : Option Addr) (m : List EntD) (cap' : Nat) (w : World) (hl : AtN w a l) (hm : AtN w b m) :
    Calls Tryz.prog 53 #[.slice a l.length cap, .slice b m.length cap'] w fun e w' => e = .returned (.bool (eqL eqN l m)) ∧ Below w.heap.size w w' := by
  obtain ⟨hn1, hl⟩ := hl
  obtain ⟨hn2, hm⟩ := hm
  by_cases hlen : l.length = m.length
  rotate_left
  · have h0 : ((l.length : Int) != (m.length : Int)) = true := by simp; omega
    have hne := Lib.hid hlen
    clear hlen
    go_enter Tryz.func53, Tryz.ntmps53
    go_wp2
    go_ret
    exact ⟨ret_bool (eqL_len hne.out).symm, Below.refl _ _⟩
  · have h0 : ((l.length : Int) != (m.length : Int)) = false := by simp; omega
    have heq := Lib.hid hlen
    clear hlen
    go_enter Tryz.func53, Tryz.ntmps53
    go_wp2
    go_loopw [13] (fun i wr => ∃ k : Nat, k ≤ l.length ∧ i = .int .i64 k ∧ Hid (eqL eqN l m = eqL eqN (l.drop k) (m.drop k)) ∧ Below w.heap.size w wr) (fun i _ => l.length - (intOf i).toNat)
    case atStart => exact ⟨0, Nat.zero_le _, rfl, rfl, Below.refl _ _⟩
    case round =>
      obtain ⟨k, hk, rfl, hget, hbel⟩ := hrel
      by_cases hlt : k < l.length
      · have hlt2 : k < m.length := by have := heq.out; omega
        have hdrop := Lib.hid (eqL_drop (eq := eqN) (d := e0) hlt hlt2)
        obtain ⟨b1, o1, va, ca, ha1, hb1, x0, x1, x2, hva, _, _, _⟩ := hl k hlt
        obtain ⟨b2, o2, vb, cb, ha2, hb2, y0, y1, y2, hvb, _, _, _⟩ := hm k hlt2
        have c0 := cell_later hbel x0
        have d0 := cell_later hbel y0
        have c1 := cell_later hbel x1
        have d1 := cell_later hbel y1
        have c2 := cell_later hbel x2
        have d2 := cell_later hbel y2
        have hv1 := hva.below' hbel
        have hv2 := hvb.below' hbel
        have kl : (k : Int) < (l.length : Int) := by omega
        have km : (k : Int) < (m.length : Int) := by omega
        have hbw2 : b2 < wr.heap.size := by have := hbel.size; omega
        subst ha1
        subst ha2
        generalize hq1 : l.getD k e0 = q1 at *
        generalize hq2 : m.getD k e0 = q2 at *
        clear hq1 hq2 hl hm x0 x1 x2 y0 y1 y2 hva hvb
        obtain ⟨q10, q11, q12⟩ := q1
        obtain ⟨q20, q21, q22⟩ := q2
        simp only at c0 c1 c2 d0 d1 d2 hv1 hv2
        go_wp2_with fail
        go_still_tail 8, (by kernel_rfl)
        change wpList _ _ _ _ _ wr.drew
        go_wp2_with fail
        refine (refEntry_any ⟨q10, q11, q12⟩ ⟨q20, q21, q22⟩ _ _ _ _ _ (hv1.below' (Below.refl _ _).drew) (hv2.below' (Below.refl _ _).drew)).mono ?_
        rintro e w1 ⟨rfl, hb1⟩
        have hbe := hbel.trans ((((Below.refl wr.heap.size wr).drew).trans (hb1.mono (by simp))).mono hbel.size)
        have HB := Lib.hid hbe
        clear hbe hb1 hbel
        go_wp2
        · go_ret
          have hx : eqN ⟨q10, q11, q12⟩ ⟨q20, q21, q22⟩ = false := by simpa using ‹(!eqN ⟨q10, q11, q12⟩ ⟨q20, q21, q22⟩) = true›
          exact ⟨ret_bool (by rw [hget.out, hdrop.out, hx]; rfl), HB.out⟩
        · go_roundw
          case rel =>
            have hx : eqN ⟨q10, q11, q12⟩ ⟨q20, q21, q22⟩ = true := by simpa using ‹(!eqN ⟨q10, q11, q12⟩ ⟨q20, q21, q22⟩) = false›
            exact ⟨k + 1, by omega, by go_num, by show _ = _; rw [hget.out, hdrop.out, hx]; rfl, HB.out⟩
          case measure => simp [intOf]; omega
      · go_wp2
        go_ret
        have h := hget.out
        rw [List.drop_eq_nil_of_le (by omega), List.drop_eq_nil_of_le (by have := heq.out; omega)] at h
        exact ⟨ret_bool (by rw [h]; rfl), hbel⟩
end Go.Proofs.YtaleceobkbgcnaaGreat.Rp
namespace Go.Proofs.YtaleceobkbgcnaaGreat.Rp
open Go.RowKit

/-- The opening sentence. -/
def BegunP : Prop := ∀ w : World, Calls Tryz.prog 22 #[] w fun e w' => e = .returned (.bool true) ∧ Below w.heap.size w w'
/-- What is elder than a log's rows does not turn it. -/
theorem _root_.Go.Proofs.YtaleceobkbgcnaaGreat.LogAt.low {S : Nat → Prop} {w w' : World} {B G : Nat} {v : Value} {H : List EvH} {d : LogD} (h : LogAt w B G v H d) (ht : Turns S w w') (hG : ¬ S G) (hS : ∀ k, S k → k < B) : LogAt w' B G v H d :=
  ⟨⟨Nat.le_trans h.raw.lo ht.size, ht.obj h.raw.obj hG, ⟨h.raw.own.row.turns ht (fun k hk hs => by have := (h.raw.own.row.lt k hk).1; have := hS k hs; omega), fun x hx => ⟨row_turns (h.raw.own.val x hx).1 ht (fun k hk hs => by
    have := ((h.raw.own.val x hx).1.lt k hk).1; have := hS k hs; omega), (h.raw.own.val x hx).2⟩⟩⟩, h.same, h.ok, h.few⟩
theorem one_u8s (l : List Int) : ∀ u ∈ u8s l, u.oneCell' = true := by
  intro u hu
  unfold u8s at hu
  obtain ⟨z, _, rfl⟩ := List.mem_map.1 hu
  rfl
/-- A row of bytes of the call's own, read. -/
theorem own_atB {w : World} {N : Nat} {a : Option Addr} {c : Nat} {l : List Int} (h : w.ownsRow N 5 1 (.slice a l.length c) l.length (u8s l)) (hr : ∀ y ∈ l, 0 ≤ y ∧ y ≤ 255) : AtB w a l := by
  obtain ⟨a', c', e, _, _, h3⟩ := bytes_of l h rfl rfl hr
  cases e
  exact h3
/-- One event that was told: its block, its cells. -/
theorem told_one {w : World} {N : Nat} {v : Value} {H : List EvH} {x : EvD} (h : EvRow w N v H) (he : evs H = [x]) : ∃ g c a k, v = .slice (some ⟨g, 0, none⟩) 1 c ∧ N ≤ g ∧ HasTy w g 30 ∧ ValOwn w N x.val a k ∧ w.cell? ⟨g, 0, none⟩ = some (.int .i64 x.rev) ∧ w.cell? ⟨g, 1, none⟩ = some (.string x.key)
    ∧ w.cell? ⟨g, 2, none⟩ = some (.slice a x.val.length k) ∧ w.cell? ⟨g, 3, none⟩ = some (.bool x.gone) ∧ ∀ o, w.frozen? ⟨g, o, none⟩ = false := by
  obtain ⟨y, rfl⟩ : ∃ y, H = [y] := by
    match H, he with
    | [y], _ => exact ⟨y, rfl⟩
  obtain ⟨y, a, k⟩ := y
  obtain rfl : y = x := by simpa [evs] using he
  have hv := h.val _ (List.mem_singleton.2 rfl)
  have hr := h.row
  rcases hr.2 with ⟨_, e⟩ | ⟨g, c, cur, rfl, hg, hb, _⟩
  · cases e
  · refine ⟨g, c, a, k, rfl, hg, ⟨_, _, hb⟩, hv, ?_, ?_, ?_, ?_, fun o => hr.frozenAt o⟩
    · rw [hr.cellAt 0 (by simp)]; rfl
    · rw [hr.cellAt 1 (by simp)]; rfl
    · rw [hr.cellAt 2 (by simp)]; rfl
    · rw [hr.cellAt 3 (by simp)]; rfl
/-- One event in a slice. -/
theorem ev_at1 {w : World} {b : Nat} {x : EvD} {va : Option Addr} {vc : Nat} (hb : b < w.heap.size) (c0 : w.cell? ⟨b, 0, none⟩ = some (.int .i64 x.rev)) (c1 : w.cell? ⟨b, 1, none⟩ = some (.string x.key)) (c2 : w.cell? ⟨b, 2, none⟩ = some (.slice va x.val.length vc)) (c3 : w.cell? ⟨b, 3, none⟩ = some (.bool x.gone))
    (hv : AtB w va x.val) (h1 : x.val.length ≤ vc) (h2 : vc ≤ maxLen) (h3 : va = none → vc = 0) : AtE w (some ⟨b, 0, none⟩) [x] :=
  ⟨by simp, fun i hi => by
    obtain rfl : i = 0 := by simpa using hi
    exact ⟨b, 0, va, vc, rfl, hb, c0, c1, c2, c3, hv, h1, h2, h3⟩⟩
theorem follow_one {last : Int} {x : EvD} (h : last < x.rev) : followB last [x] = true :=
  (follow_iff _ _).2 ⟨by simp, by simpa using h, by simp [Rising]⟩
/-- Where there is room nothing goes. -/
theorem addD_room {d : LogD} (h : d.Ok) {es : List EvD} (hf : followB d.last es = true) (hr : ((d.evs.length + es.length : Nat) : Int) ≤ d.most) : addD d es = ⟨d.most, d.evs ++ es, d.base, lastA es⟩ := by
  have hb : baseA d es = d.base := by unfold baseA; rw [if_neg (by omega)]
  unfold addD
  rw [if_pos hf, hb]
  congr 1
  refine List.filter_eq_self.2 fun x hx => ?_
  rcases List.mem_append.1 hx with hx | hx
  · simpa using h.above x hx
  · have := ((follow_iff _ _).1 hf).2.1 x hx
    have := h.base
    simp
    omega
/-- Told events stay as they are, where elder blocks turn. -/
theorem _root_.Go.Proofs.YtaleceobkbgcnaaGreat.EvRow.apart {S : Nat → Prop} {w w' : World} {N : Nat} {v : Value} {H : List EvH} (h : EvRow w N v H) (ht : Turns S w w') (hS : ∀ k, S k → k < N) : EvRow w' N v H :=
  ⟨row_turns h.row ht (fun k hk hs => by have := (h.row.lt k hk).1; have := hS k hs; omega), fun x hx => ⟨row_turns (h.val x hx).1 ht (fun k hk hs => by have := ((h.val x hx).1.lt k hk).1; have := hS k hs; omega), (h.val x hx).2⟩⟩
end Go.Proofs.YtaleceobkbgcnaaGreat.Rp
