/-
  What is written of an answer is read back, and what is read well was written so. No conditions beyond what is written in each statement.
-/
import Derived.Test.YtaleceobkbgcnaaGreatRp7
set_option linter.unusedSimpArgs false
set_option linter.unusedVariables false
namespace Go.Proofs.YtaleceobkbgcnaaGreat.Rp
open Go.RowKit

theorem ct_entry {x : EntD} (h : okEn x) : Rt tEntry nbytesE x := fun r b => by
  obtain ⟨k, v, l⟩ := x
  obtain ⟨h1, h2, h3⟩ := h
  dsimp only at *
  have a := ct_text (s := k) (most := 20) h1 (by decide)
  have c := ct_num (x := v) h2.1 (by omega)
  have d := ct_bytes (l := l) (most := 4000) h3 (by decide)
  unfold Rt at a c d
  unfold tEntry nbytesE
  rw [vI_app, vI_app, List.append_assoc, List.append_assoc, a, c, d]
theorem ct_event {x : EvD} (h : okEv x) : Rt tEvent ebytes x := fun r b => by
  obtain ⟨v, k, l, u⟩ := x
  obtain ⟨h1, h2, h3⟩ := h
  dsimp only at *
  have a := ct_text (s := k) (most := 20) h1 (by decide)
  have c := ct_num (x := v) h2.1 (by omega)
  have d := ct_bytes (l := l) (most := 4000) h3 (by decide)
  have f := ct_flag u
  unfold Rt at a c d f
  unfold tEvent ebytes
  rw [vI_app, vI_app, vI_app, List.append_assoc, List.append_assoc, List.append_assoc, c, a, d, f]
theorem tAns_at {l : List Int} {x1 x2 x3 x4 x5 : Int} {x6 : List EntD} {x7 : List EvD} {s1 s2 s3 s4 s5 s6 s7 : RS} (e1 : tNum (l, false) = (x1, s1)) (e2 : tNum s1 = (x2, s2)) (e3 : tNum s2 = (x3, s3)) (e4 : tNum s3 = (x4, s4)) (e5 : tNum s4 = (x5, s5)) (e6 : tList tEntry 100 s5 = (x6, s6)) (e7 : tList tEvent 100 s6 = (x7, s7)) : tAns l = (⟨x1, x2, x3, x4, x5, x6, x7⟩, s7) := by
  unfold tAns
  simp only [e1, e2, e3, e4, e5, e6, e7]
/-- What is written of an answer is read as it. -/
theorem ans_back {x : AnsD} (h : ansB x = true) : ansOf (vI (abytes x)) = some x := by
  have ok := ansB_ok h
  have a1 := ct_num ok.t.1 (by have := ok.t.2; omega)
  have a2 := ct_num (show 0 ≤ x.id by have := ok.i.1; omega) (by have := ok.i.2; omega)
  have a3 := ct_num (show 0 ≤ x.kind by have := ok.k.1; omega) (by have := ok.k.2; omega)
  have a4 := ct_num ok.r.1 (by have := ok.r.2; omega)
  have a5 := ct_num ok.v.1 (by have := ok.v.2; omega)
  have a6 := ct_list (l := x.es) (most := 100) (fun y hy => ct_entry (ok.e y hy)) ok.en (by decide)
  have a7 := ct_list (l := x.vs) (most := 100) (fun y hy => ct_event (ok.w y hy)) ok.vn (by decide)
  unfold Rt at a1 a2 a3 a4 a5 a6 a7
  have z := a7 [] false
  rw [List.append_nil] at z
  have e : tAns (vI (abytes x)) = (x, ([], false)) := by
    unfold abytes
    simp only [vI_app, List.append_assoc]
    exact tAns_at (a1 _ _) (a2 _ _) (a3 _ _) (a4 _ _) (a5 _ _) (a6 _ _) z
  unfold ansOf
  rw [e]
  dsimp only
  rw [h]; rfl
theorem cv_entry : Cv tEntry nbytesE (fun x => 0 ≤ x.rev) := fun st hb h0 h1 => by
  obtain ⟨k, s1, e1⟩ : ∃ x s, tText 20 st = (x, s) := ⟨_, _, rfl⟩
  obtain ⟨v, s2, e2⟩ : ∃ x s, tNum s1 = (x, s) := ⟨_, _, rfl⟩
  obtain ⟨l, s3, e3⟩ : ∃ x s, tBytes 4000 s2 = (x, s) := ⟨_, _, rfl⟩
  have e : tEntry st = (⟨k, v, l⟩, s3) := by unfold tEntry; simp only [e1, e2, e3]
  rw [e] at h0 h1 ⊢
  have b1 := rest_at (rest_text 20 _) e1 hb
  have b2 := rest_at (rest_num _) e2 b1
  have c3 := (cv_bytes 4000).at e3 b2 h0 trivial
  have c2 := cv_num.at e2 b1 c3.1 h1
  have c1 := (cv_text 20).at e1 hb c2.1 trivial
  refine ⟨c1.1, ?_⟩
  unfold nbytesE
  rw [vI_app, vI_app, List.append_assoc, List.append_assoc]
  conv => lhs; rw [c1.2, c2.2, c3.2]
theorem cv_event : Cv tEvent ebytes (fun x => 0 ≤ x.rev) := fun st hb h0 h1 => by
  obtain ⟨v, s1, e1⟩ : ∃ x s, tNum st = (x, s) := ⟨_, _, rfl⟩
  obtain ⟨k, s2, e2⟩ : ∃ x s, tText 20 s1 = (x, s) := ⟨_, _, rfl⟩
  obtain ⟨l, s3, e3⟩ : ∃ x s, tBytes 4000 s2 = (x, s) := ⟨_, _, rfl⟩
  obtain ⟨u, s4, e4⟩ : ∃ x s, tFlag s3 = (x, s) := ⟨_, _, rfl⟩
  have e : tEvent st = (⟨v, k, l, u⟩, s4) := by unfold tEvent; simp only [e1, e2, e3, e4]
  rw [e] at h0 h1 ⊢
  have b1 := rest_at (rest_num _) e1 hb
  have b2 := rest_at (rest_text 20 _) e2 b1
  have b3 := rest_at (rest_bytes 4000 _).1 e3 b2
  have c4 := cv_flag.at e4 b3 h0 trivial
  have c3 := (cv_bytes 4000).at e3 b2 c4.1 trivial
  have c2 := (cv_text 20).at e2 b1 c3.1 trivial
  have c1 := cv_num.at e1 hb c2.1 h1
  refine ⟨c1.1, ?_⟩
  unfold ebytes
  rw [vI_app, vI_app, vI_app, List.append_assoc, List.append_assoc, List.append_assoc]
  conv => lhs; rw [c1.2, c2.2, c3.2, c4.2]
/-- Bytes of which there is an answer are its own. -/
theorem ans_inv {l : List Int} (hb : Bytes l) {x : AnsD} (h : ansOf l = some x) : ansB x = true ∧ l = vI (abytes x) := by
  obtain ⟨x1, s1, e1⟩ : ∃ x s, tNum (l, false) = (x, s) := ⟨_, _, rfl⟩
  obtain ⟨x2, s2, e2⟩ : ∃ x s, tNum s1 = (x, s) := ⟨_, _, rfl⟩
  obtain ⟨x3, s3, e3⟩ : ∃ x s, tNum s2 = (x, s) := ⟨_, _, rfl⟩
  obtain ⟨x4, s4, e4⟩ : ∃ x s, tNum s3 = (x, s) := ⟨_, _, rfl⟩
  obtain ⟨x5, s5, e5⟩ : ∃ x s, tNum s4 = (x, s) := ⟨_, _, rfl⟩
  obtain ⟨x6, s6, e6⟩ : ∃ x s, tList tEntry 100 s5 = (x, s) := ⟨_, _, rfl⟩
  obtain ⟨x7, s7, e7⟩ : ∃ x s, tList tEvent 100 s6 = (x, s) := ⟨_, _, rfl⟩
  unfold ansOf at h
  rw [tAns_at e1 e2 e3 e4 e5 e6 e7] at h
  dsimp only at h
  split at h
  · rename_i hc
    cases h
    simp only [Bool.and_eq_true, Bool.not_eq_true', decide_eq_true_eq] at hc
    obtain ⟨⟨h0, h1⟩, h2⟩ := hc
    refine ⟨h2, ?_⟩
    have ok := ansB_ok h2
    have r1 := rest_at (rest_num _) e1 hb
    have r2 := rest_at (rest_num _) e2 r1
    have r3 := rest_at (rest_num _) e3 r2
    have r4 := rest_at (rest_num _) e4 r3
    have r5 := rest_at (rest_num _) e5 r4
    have r6 := rest_at (rest_list rest_entry 100 _) e6 r5
    have i7 := (cv_list cv_event rest_event 100).at e7 r6 h0 (fun y hy => (ok.w y hy).2.1.1)
    have i6 := (cv_list cv_entry rest_entry 100).at e6 r5 i7.1 (fun y hy => (ok.e y hy).2.1.1)
    have i5 := cv_num.at e5 r4 i6.1 ok.v.1
    have i4 := cv_num.at e4 r3 i5.1 ok.r.1
    have i3 := cv_num.at e3 r2 i4.1 (by have := ok.k.1; dsimp only at this; omega)
    have i2 := cv_num.at e2 r1 i3.1 (by have := ok.i.1; dsimp only at this; omega)
    have i1 := cv_num.at e1 hb i2.1 ok.t.1
    have q7 := i7.2
    rw [List.eq_nil_of_length_eq_zero h1, List.append_nil] at q7
    unfold abytes
    simp only [vI_app, List.append_assoc]
    have := i1.2
    rw [i2.2, i3.2, i4.2, i5.2, i6.2, q7] at this
    exact this
  · cases h
end Go.Proofs.YtaleceobkbgcnaaGreat.Rp
namespace Go.Proofs.YtaleceobkbgcnaaGreat.Rp
open Go.RowKit

def eqN (x y : EntD) : Bool := decide (x.key = y.key) && decide (x.rev = y.rev) && eqB x.val y.val
def eqV (x y : EvD) : Bool := decide (x.rev = y.rev) && decide (x.key = y.key) && decide (x.gone = y.gone) && eqB x.val y.val
set_option maxRecDepth 100000 in
set_option maxHeartbeats 1000000 in
theorem eqEntry_any (x y : EntD) (va vb : Option Addr) (ca cb : Nat) (w : World) (ha : AtB w va x.val) (hb : AtB w vb y.val) :
    Calls Tryz.prog 117 #[.agg #[.string x.key, .int .i64 x.rev, .slice va x.val.length ca], .agg #[.string y.key, .int .i64 y.rev, .slice vb y.val.length cb]] w fun e w' => e = .returned (.bool (eqN x y)) ∧ Below w.heap.size w w' := by
  have hA : ∀ o o' : Obj, Below w.heap.size w ((w.alloc o).alloc o') := fun o o' => ((Below.refl _ _).alloc (Nat.le_refl _) o).alloc (by simp) o'
  obtain ⟨xkey, xrev, xval⟩ := x
  obtain ⟨ykey, yrev, yval⟩ := y
  dsimp only at *
  by_cases g0 : xkey = ykey
  rotate_left
  · have t0 : (xkey.toList == ykey.toList) = false := by rw [toList_beq, decide_eq_false g0]
    have G := Lib.hid g0
    clear g0
    as_aux_lemma =>
      go_enter Tryz.func117, Tryz.ntmps117
      go_wp2
      go_ret
      exact ⟨ret_bool (by unfold eqN; dsimp only; rw [decide_eq_false G.out]; simp), hA _ _⟩
  have t0 : (xkey.toList == ykey.toList) = true := by rw [toList_beq, decide_eq_true g0]
  have G0 := Lib.hid g0
  clear g0
  by_cases g1 : xrev = yrev
  rotate_left
  · have t1 : (xrev == yrev) = false := by simpa using g1
    have G := Lib.hid g1
    clear g1
    as_aux_lemma =>
      go_enter Tryz.func117, Tryz.ntmps117
      go_wp2
      go_ret
      exact ⟨ret_bool (by unfold eqN; dsimp only; rw [decide_eq_false G.out]; simp), hA _ _⟩
  have t1 : (xrev == yrev) = true := by simpa using g1
  have G1 := Lib.hid g1
  clear g1
  go_enter Tryz.func117, Tryz.ntmps117
  go_wp2_with fail
  refine (eqBytes_any _ _ _ _ _ _ _ (ha.below' (hA _ _)) (hb.below' (hA _ _))).mono ?_
  rintro e w1 ⟨rfl, rfl⟩
  go_wp2
  go_ret
  exact ⟨ret_bool (by unfold eqN; dsimp only; rw [decide_eq_true G0.out, decide_eq_true G1.out]; simp), hA _ _⟩
set_option maxRecDepth 100000 in
set_option maxHeartbeats 1000000 in
theorem eqEvent_any (x y : EvD) (va vb : Option Addr) (ca cb : Nat) (w : World) (ha : AtB w va x.val) (hb : AtB w vb y.val) :
    Calls Tryz.prog 119 #[.agg #[.int .i64 x.rev, .string x.key, .slice va x.val.length ca, .bool x.gone], .agg #[.int .i64 y.rev, .string y.key, .slice vb y.val.length cb, .bool y.gone]] w fun e w' => e = .returned (.bool (eqV x y)) ∧ Below w.heap.size w w' := by
  have hA : ∀ o o' : Obj, Below w.heap.size w ((w.alloc o).alloc o') := fun o o' => ((Below.refl _ _).alloc (Nat.le_refl _) o).alloc (by simp) o'
  obtain ⟨xrev, xkey, xval, xgone⟩ := x
  obtain ⟨yrev, ykey, yval, ygone⟩ := y
  dsimp only at *
  by_cases g0 : xrev = yrev
  rotate_left
  · have t0 : (xrev == yrev) = false := by simpa using g0
    have G := Lib.hid g0
    clear g0
    as_aux_lemma =>
      go_enter Tryz.func119, Tryz.ntmps119
      go_wp2
      go_ret
      exact ⟨ret_bool (by unfold eqV; dsimp only; rw [decide_eq_false G.out]; simp), hA _ _⟩
  have t0 : (xrev == yrev) = true := by simpa using g0
  have G0 := Lib.hid g0
  clear g0
  by_cases g1 : xkey = ykey
  rotate_left
  · have t1 : (xkey.toList == ykey.toList) = false := by rw [toList_beq, decide_eq_false g1]
    have G := Lib.hid g1
    clear g1
    as_aux_lemma =>
      go_enter Tryz.func119, Tryz.ntmps119
      go_wp2
      go_ret
      exact ⟨ret_bool (by unfold eqV; dsimp only; rw [decide_eq_false G.out]; simp), hA _ _⟩
  have t1 : (xkey.toList == ykey.toList) = true := by rw [toList_beq, decide_eq_true g1]
  have G1 := Lib.hid g1
  clear g1
  by_cases g2 : xgone = ygone
  rotate_left
  · have t2 : (xgone == ygone) = false := by simpa using g2
    have G := Lib.hid g2
    clear g2
    as_aux_lemma =>
      go_enter Tryz.func119, Tryz.ntmps119
      go_wp2
      go_ret
      exact ⟨ret_bool (by unfold eqV; dsimp only; rw [decide_eq_false G.out]; simp), hA _ _⟩
  have t2 : (xgone == ygone) = true := by simpa using g2
  have G2 := Lib.hid g2
  clear g2
  go_enter Tryz.func119, Tryz.ntmps119
  go_wp2_with fail
  refine (eqBytes_any _ _ _ _ _ _ _ (ha.below' (hA _ _)) (hb.below' (hA _ _))).mono ?_
  rintro e w1 ⟨rfl, rfl⟩
  go_wp2
  go_ret
  exact ⟨ret_bool (by unfold eqV; dsimp only; rw [decide_eq_true G0.out, decide_eq_true G1.out, decide_eq_true G2.out]; simp), hA _ _⟩
set_option maxRecDepth 100000 in
set_option maxHeartbeats 1000000 in
theorem eqEntries_any (a : Option Addr) (l : List EntD) (cap : Nat) (b : Option Addr) (m : List EntD) (cap' : Nat) (w : World) (hl : AtN w a l) (hm : AtN w b m) :
    Calls Tryz.prog 116 #[.slice a l.length cap, .slice b m.length cap', .func (.func 117) #[] #[]] w fun e w' => e = .returned (.bool (eqL eqN l m)) ∧ Below w.heap.size w w' := by
  obtain ⟨hn1, hl⟩ := hl
  obtain ⟨hn2, hm⟩ := hm
  by_cases hlen : l.length = m.length
  rotate_left
  · have h0 : ((l.length : Int) != (m.length : Int)) = true := by simp; omega
    have hne := Lib.hid hlen
    clear hlen
    go_enter Tryz.func116, Tryz.ntmps116
    go_wp2
    go_ret
    exact ⟨ret_bool (eqL_len hne.out).symm, Below.refl _ _⟩
  · have h0 : ((l.length : Int) != (m.length : Int)) = false := by simp; omega
    have heq := Lib.hid hlen
    clear hlen
    go_enter Tryz.func116, Tryz.ntmps116
    go_wp2
    go_loopw [17] (fun i wr => ∃ k : Nat, k ≤ l.length ∧ i = .int .i64 k ∧ Hid (eqL eqN l m = eqL eqN (l.drop k) (m.drop k)) ∧ Below w.heap.size w wr) (fun i _ => l.length - (intOf i).toNat)
    case atStart => exact ⟨0, Nat.zero_le _, rfl, rfl, Below.refl _ _⟩
    case round =>
      obtain ⟨k, hk, rfl, hget, hbel⟩ := hrel
      by_cases hlt : k < l.length
      · have hlt2 : k < m.length := by have := heq.out; omega
        have hdrop := Lib.hid (eqL_drop (eq := eqN) (d := e0) hlt hlt2)
        obtain ⟨b1, o1, va, ca, ha1, hb1, x0, x1, x2, hva, _, _, _⟩ := hl k hlt
        obtain ⟨b2, o2, vb, cb, ha2, hb2, y0, y1, y2, hvb, _, _, _⟩ := hm k hlt2
        have c0 := cell_later hbel x0
        have c1 := cell_later hbel x1
        have c2 := cell_later hbel x2
        have d0 := cell_later hbel y0
        have d1 := cell_later hbel y1
        have d2 := cell_later hbel y2
        have hA : ∀ o o' : Obj, Below wr.heap.size wr ((wr.alloc o).alloc o') := fun o o' => ((Below.refl _ _).alloc (Nat.le_refl _) o).alloc (by simp) o'
        have hv1 := hva.below' hbel
        have hv2 := hvb.below' hbel
        have kl : (k : Int) < (l.length : Int) := by omega
        have km : (k : Int) < (m.length : Int) := by omega
        have hbw2 : b2 < wr.heap.size := by have := hbel.size; omega
        subst ha1
        subst ha2
        generalize hq1 : l.getD k e0 = q1 at *
        generalize hq2 : m.getD k e0 = q2 at *
        clear hq1 hq2 hl hm x0 x1 x2 y0 y1 y2 hva hvb
        obtain ⟨q10, q11, q12⟩ := q1
        obtain ⟨q20, q21, q22⟩ := q2
        simp only at c0 c1 c2 d0 d1 d2 hv1 hv2
        go_wp2_with fail
        refine (eqEntry_any ⟨q10, q11, q12⟩ ⟨q20, q21, q22⟩ _ _ _ _ _ (hv1.below' (hA _ _)) (hv2.below' (hA _ _))).mono ?_
        rintro e w1 ⟨rfl, hb1⟩
        have hbe := hbel.trans (((hA _ _).trans (hb1.mono (by simp <;> omega))).mono hbel.size)
        have HB := Lib.hid hbe
        clear hbe hb1 hbel
        go_wp2
        · go_ret
          have hx : eqN ⟨q10, q11, q12⟩ ⟨q20, q21, q22⟩ = false := by simpa using ‹(!eqN ⟨q10, q11, q12⟩ ⟨q20, q21, q22⟩) = true›
          exact ⟨ret_bool (by rw [hget.out, hdrop.out, hx]; rfl), HB.out⟩
        · go_roundw
          case rel =>
            have hx : eqN ⟨q10, q11, q12⟩ ⟨q20, q21, q22⟩ = true := by simpa using ‹(!eqN ⟨q10, q11, q12⟩ ⟨q20, q21, q22⟩) = false›
            exact ⟨k + 1, by omega, by go_num, by show _ = _; rw [hget.out, hdrop.out, hx]; rfl, HB.out⟩
          case measure => simp [intOf]; omega
      · go_wp2
        go_ret
        have h := hget.out
        rw [List.drop_eq_nil_of_le (by omega), List.drop_eq_nil_of_le (by have := heq.out; omega)] at h
        exact ⟨ret_bool (by rw [h]; rfl), hbel⟩
set_option maxRecDepth 100000 in
set_option maxHeartbeats 1000000 in
theorem eqEvents_any (a : Option Addr) (l : List EvD) (cap : Nat) (b : Option Addr) (m : List EvD) (cap' : Nat) (w : World) (hl : AtE w a l) (hm : AtE w b m) :
    Calls Tryz.prog 118 #[.slice a l.length cap, .slice b m.length cap', .func (.func 119) #[] #[]] w fun e w' => e = .returned (.bool (eqL eqV l m)) ∧ Below w.heap.size w w' := by
  obtain ⟨hn1, hl⟩ := hl
  obtain ⟨hn2, hm⟩ := hm
  by_cases hlen : l.length = m.length
  rotate_left
  · have h0 : ((l.length : Int) != (m.length : Int)) = true := by simp; omega
    have hne := Lib.hid hlen
    clear hlen
    go_enter Tryz.func118, Tryz.ntmps118
    go_wp2
    go_ret
    exact ⟨ret_bool (eqL_len hne.out).symm, Below.refl _ _⟩
  · have h0 : ((l.length : Int) != (m.length : Int)) = false := by simp; omega
    have heq := Lib.hid hlen
    clear hlen
    go_enter Tryz.func118, Tryz.ntmps118
    go_wp2
    go_loopw [17] (fun i wr => ∃ k : Nat, k ≤ l.length ∧ i = .int .i64 k ∧ Hid (eqL eqV l m = eqL eqV (l.drop k) (m.drop k)) ∧ Below w.heap.size w wr) (fun i _ => l.length - (intOf i).toNat)
    case atStart => exact ⟨0, Nat.zero_le _, rfl, rfl, Below.refl _ _⟩
    case round =>
      obtain ⟨k, hk, rfl, hget, hbel⟩ := hrel
      by_cases hlt : k < l.length
      · have hlt2 : k < m.length := by have := heq.out; omega
        have hdrop := Lib.hid (eqL_drop (eq := eqV) (d := v0) hlt hlt2)
        obtain ⟨b1, o1, va, ca, ha1, hb1, x0, x1, x2, x3, hva, _, _, _⟩ := hl k hlt
        obtain ⟨b2, o2, vb, cb, ha2, hb2, y0, y1, y2, y3, hvb, _, _, _⟩ := hm k hlt2
        have c0 := cell_later hbel x0
        have c1 := cell_later hbel x1
        have c2 := cell_later hbel x2
        have c3 := cell_later hbel x3
        have d0 := cell_later hbel y0
        have d1 := cell_later hbel y1
        have d2 := cell_later hbel y2
        have d3 := cell_later hbel y3
        have hA : ∀ o o' : Obj, Below wr.heap.size wr ((wr.alloc o).alloc o') := fun o o' => ((Below.refl _ _).alloc (Nat.le_refl _) o).alloc (by simp) o'
        have hv1 := hva.below' hbel
        have hv2 := hvb.below' hbel
        have kl : (k : Int) < (l.length : Int) := by omega
        have km : (k : Int) < (m.length : Int) := by omega
        have hbw2 : b2 < wr.heap.size := by have := hbel.size; omega
        subst ha1
        subst ha2
        generalize hq1 : l.getD k v0 = q1 at *
        generalize hq2 : m.getD k v0 = q2 at *
        clear hq1 hq2 hl hm x0 x1 x2 x3 y0 y1 y2 y3 hva hvb
        obtain ⟨q10, q11, q12, q13⟩ := q1
        obtain ⟨q20, q21, q22, q23⟩ := q2
        simp only at c0 c1 c2 c3 d0 d1 d2 d3 hv1 hv2
        go_wp2_with fail
        refine (eqEvent_any ⟨q10, q11, q12, q13⟩ ⟨q20, q21, q22, q23⟩ _ _ _ _ _ (hv1.below' (hA _ _)) (hv2.below' (hA _ _))).mono ?_
        rintro e w1 ⟨rfl, hb1⟩
        have hbe := hbel.trans (((hA _ _).trans (hb1.mono (by simp <;> omega))).mono hbel.size)
        have HB := Lib.hid hbe
        clear hbe hb1 hbel
        go_wp2
        · go_ret
          have hx : eqV ⟨q10, q11, q12, q13⟩ ⟨q20, q21, q22, q23⟩ = false := by simpa using ‹(!eqV ⟨q10, q11, q12, q13⟩ ⟨q20, q21, q22, q23⟩) = true›
          exact ⟨ret_bool (by rw [hget.out, hdrop.out, hx]; rfl), HB.out⟩
        · go_roundw
          case rel =>
            have hx : eqV ⟨q10, q11, q12, q13⟩ ⟨q20, q21, q22, q23⟩ = true := by simpa using ‹(!eqV ⟨q10, q11, q12, q13⟩ ⟨q20, q21, q22, q23⟩) = false›
            exact ⟨k + 1, by omega, by go_num, by show _ = _; rw [hget.out, hdrop.out, hx]; rfl, HB.out⟩
          case measure => simp [intOf]; omega
      · go_wp2
        go_ret
        have h := hget.out
        rw [List.drop_eq_nil_of_le (by omega), List.drop_eq_nil_of_le (by have := heq.out; omega)] at h
        exact ⟨ret_bool (by rw [h]; rfl), hbel⟩
def eqAns (c d : AnsD) : Bool := decide (c.to = d.to) && decide (c.id = d.id) && decide (c.kind = d.kind) && decide (c.err = d.err) && decide (c.rev = d.rev) && eqL eqN c.es d.es && eqL eqV c.vs d.vs
set_option maxRecDepth 100000 in
set_option maxHeartbeats 4000000 in
theorem ansEq_any (c d : AnsD) (h k : AnsH) (w : World) (hc : AnsAt w c h) (hd : AnsAt w d k) :
    Calls Tryz.prog 63 #[ansV c h, ansV d k] w fun e w' => e = .returned (.bool (eqAns c d)) ∧ Below w.heap.size w w' := by
  obtain ⟨c1, c2, c3, c4, c5, c6, c7⟩ := c
  obtain ⟨d1, d2, d3, d4, d5, d6, d7⟩ := d
  obtain ⟨hga, hgc, hwa, hwc⟩ := h
  obtain ⟨kga, kgc, kwa, kwc⟩ := k
  have hA : ∀ o o' : Obj, Below w.heap.size w ((w.alloc o).alloc o') := fun o o' => ((Below.refl _ _).alloc (Nat.le_refl _) o).alloc (by simp) o'
  by_cases g1 : c1 = d1
  rotate_left
  · have t1 : (c1 == d1) = false := by simpa using g1
    have G := Lib.hid g1
    clear g1
    as_aux_lemma =>
      go_enter Tryz.func63, Tryz.ntmps63
      go_wp2
      go_ret
      exact ⟨ret_bool (by unfold eqAns; dsimp only; rw [decide_eq_false G.out]; simp), hA _ _⟩
  have t1 : (c1 == d1) = true := by simpa using g1
  have G1 := Lib.hid g1
  clear g1
  by_cases g2 : c2 = d2
  rotate_left
  · have t2 : (c2 == d2) = false := by simpa using g2
    have G := Lib.hid g2
    clear g2
    as_aux_lemma =>
      go_enter Tryz.func63, Tryz.ntmps63
      go_wp2
      go_ret
      exact ⟨ret_bool (by unfold eqAns; dsimp only; rw [decide_eq_false G.out]; simp), hA _ _⟩
  have t2 : (c2 == d2) = true := by simpa using g2
  have G2 := Lib.hid g2
  clear g2
  by_cases g3 : c3 = d3
  rotate_left
  · have t3 : (c3 == d3) = false := by simpa using g3
    have G := Lib.hid g3
    clear g3
    as_aux_lemma =>
      go_enter Tryz.func63, Tryz.ntmps63
      go_wp2
      go_ret
      exact ⟨ret_bool (by unfold eqAns; dsimp only; rw [decide_eq_false G.out]; simp), hA _ _⟩
  have t3 : (c3 == d3) = true := by simpa using g3
  have G3 := Lib.hid g3
  clear g3
  by_cases g4 : c4 = d4
  rotate_left
  · have t4 : (c4 == d4) = false := by simpa using g4
    have G := Lib.hid g4
    clear g4
    as_aux_lemma =>
      go_enter Tryz.func63, Tryz.ntmps63
      go_wp2
      go_ret
      exact ⟨ret_bool (by unfold eqAns; dsimp only; rw [decide_eq_false G.out]; simp), hA _ _⟩
  have t4 : (c4 == d4) = true := by simpa using g4
  have G4 := Lib.hid g4
  clear g4
  by_cases g5 : c5 = d5
  rotate_left
  · have t5 : (c5 == d5) = false := by simpa using g5
    have G := Lib.hid g5
    clear g5
    as_aux_lemma =>
      go_enter Tryz.func63, Tryz.ntmps63
      go_wp2
      go_ret
      exact ⟨ret_bool (by unfold eqAns; dsimp only; rw [decide_eq_false G.out]; simp), hA _ _⟩
  have t5 : (c5 == d5) = true := by simpa using g5
  have G5 := Lib.hid g5
  clear g5
  have HE : Hid (eqAns ⟨c1, c2, c3, c4, c5, c6, c7⟩ ⟨d1, d2, d3, d4, d5, d6, d7⟩ = (eqL eqN c6 d6 && eqL eqV c7 d7)) := by
    show _ = _
    unfold eqAns
    dsimp only
    rw [decide_eq_true G1.out, decide_eq_true G2.out, decide_eq_true G3.out, decide_eq_true G4.out, decide_eq_true G5.out]
    simp
  clear G1 G2 G3 G4 G5
  have HCD := Lib.hid (And.intro hc hd)
  clear hc hd
  go_enter Tryz.func63, Tryz.ntmps63
  go_wp2_with fail
  refine (eqEntries_any _ _ _ _ _ _ _ (HCD.out.1.es.below (hA _ _)) (HCD.out.2.es.below (hA _ _))).mono ?_
  rintro e w1 ⟨rfl, hb1⟩
  have hbel := (hA (.cells (ansC ⟨c1, c2, c3, c4, c5, c6, c7⟩ ⟨hga, hgc, hwa, hwc⟩) 111) (.cells (ansC ⟨d1, d2, d3, d4, d5, d6, d7⟩ ⟨kga, kgc, kwa, kwc⟩) 111)).trans (hb1.mono (by simp <;> omega))
  have kA : w1.heap[w.heap.size]? = some (.cells (ansC ⟨c1, c2, c3, c4, c5, c6, c7⟩ ⟨hga, hgc, hwa, hwc⟩) 111) := (hb1.block _ (by simp <;> omega)).trans (heap_two0 _ _ _)
  have kB : w1.heap[w.heap.size + 1]? = some (.cells (ansC ⟨d1, d2, d3, d4, d5, d6, d7⟩ ⟨kga, kgc, kwa, kwc⟩) 111) := (hb1.block _ (by simp)).trans (heap_two1 _ _ _)
  have cA := cell_of_obj kA 6
  have cB := cell_of_obj kB 6
  simp at cA cB
  have HBel := Lib.hid hbel
  clear hb1 hbel kA kB
  cases hq : eqL eqN c6 d6
  · rw [hq] at HE
    go_wp2
    go_ret
    exact ⟨ret_bool (by rw [HE.out]; rfl), HBel.out⟩
  · rw [hq] at HE
    go_wp2_with fail
    refine (eqEvents_any _ _ _ _ _ _ _ (HCD.out.1.vs.below HBel.out) (HCD.out.2.vs.below HBel.out)).mono ?_
    rintro e w2 ⟨rfl, hb2⟩
    go_wp2
    go_ret
    exact ⟨ret_bool (by rw [HE.out]; rfl), HBel.out.trans (hb2.mono HBel.out.size)⟩
end Go.Proofs.YtaleceobkbgcnaaGreat.Rp
