/-
  The contracts of obj's comparisons of terms and pods. No conditions beyond what is written in each statement.
-/
import Derived.Test.YtaleceobkbgcnaaGreatGEqA
set_option linter.unusedSimpArgs false
set_option linter.unusedVariables false
namespace Go.Proofs.YtaleceobkbgcnaaGreat
open Go.RowKit

def eqT (x y : Trm) : Bool := decide (x.key = y.key) && decide (x.kind = y.kind) && eqL eqS x.vals y.vals

set_option maxRecDepth 100000 in
set_option maxHeartbeats 1000000 in
theorem eqTerm_any (x y : Trm) (va vb : Option Addr) (ca cb : Nat) (w : World) (ha : At1 w va x.vals) (hb : At1 w vb y.vals) :
    Calls Tryz.prog 237 #[trm x.key x.kind va x.vals.length ca, trm y.key y.kind vb y.vals.length cb] w fun e w' => e = .returned (.bool (eqT x y)) ∧ Below w.heap.size w w' := by
  have hA : ∀ o o' : Obj, Below w.heap.size w ((w.alloc o).alloc o') := fun o o' => ((Below.refl _ _).alloc (Nat.le_refl _) o).alloc (by simp) o'
  by_cases h1 : x.key = y.key
  · have h1' : (x.key.toList == y.key.toList) = true := by rw [toList_beq, decide_eq_true h1]
    by_cases h2 : x.kind = y.kind
    · have h2' : (x.kind == y.kind) = true := by simpa using h2
      have H := Lib.hid (And.intro h1 h2)
      clear h1 h2
      go_enter Tryz.func237, Tryz.ntmps237
      go_wp2_with fail
      refine (eqListS_any _ _ _ _ _ _ _ (ha.below (hA _ _)) (hb.below (hA _ _))).mono ?_
      rintro e w1 ⟨rfl, hb1⟩
      go_wp2
      go_ret
      exact ⟨ret_bool (by unfold eqT; rw [decide_eq_true H.out.1, decide_eq_true H.out.2]; simp), (hA _ _).trans (hb1.mono (by simp <;> omega))⟩
    · have h2' : (x.kind == y.kind) = false := by simpa using h2
      have H := Lib.hid h2
      clear h1 h2
      go_enter Tryz.func237, Tryz.ntmps237
      go_wp2
      go_ret
      exact ⟨ret_bool (by unfold eqT; rw [decide_eq_false H.out]; simp), (by (repeat (with_reducible first | exact Below.refl _ _ | refine Below.alloc ?_ ?_ _ | refine Below.setCell ?_ ?_ _ | refine Below.drew ?_ | refine below_drewN ?_ _)); all_goals (simp <;> omega))⟩
  · have h1' : (x.key.toList == y.key.toList) = false := by rw [toList_beq, decide_eq_false h1]
    have H := Lib.hid h1
    clear h1
    go_enter Tryz.func237, Tryz.ntmps237
    go_wp2
    go_ret
    exact ⟨ret_bool (by unfold eqT; rw [decide_eq_false H.out]; simp), (by (repeat (with_reducible first | exact Below.refl _ _ | refine Below.alloc ?_ ?_ _ | refine Below.setCell ?_ ?_ _ | refine Below.drew ?_ | refine below_drewN ?_ _)); all_goals (simp <;> omega))⟩

set_option maxRecDepth 100000 in
set_option maxHeartbeats 1000000 in
theorem eqFunc_any (a : Option Addr) (l : List Trm) (cap : Nat) (b : Option Addr) (m : List Trm) (cap' : Nat) (w : World) (hl : AtT w a l) (hm : AtT w b m) :
    Calls Tryz.prog 236 #[.slice a l.length cap, .slice b m.length cap', .func (.func 237) #[] #[]] w fun e w' => e = .returned (.bool (eqL eqT l m)) ∧ Below w.heap.size w w' := by
  obtain ⟨hn1, hl⟩ := hl
  obtain ⟨hn2, hm⟩ := hm
  by_cases hlen : l.length = m.length
  rotate_left
  · have h0 : ((l.length : Int) != (m.length : Int)) = true := by simp; omega
    have hne := Lib.hid hlen
    clear hlen
    go_enter Tryz.func236, Tryz.ntmps236
    go_wp2
    go_ret
    exact ⟨ret_bool (eqL_len hne.out).symm, Below.refl _ _⟩
  · have h0 : ((l.length : Int) != (m.length : Int)) = false := by simp; omega
    have heq := Lib.hid hlen
    clear hlen
    go_enter Tryz.func236, Tryz.ntmps236
    go_wp2
    go_loopw [17] (fun i wr => ∃ k : Nat, k ≤ l.length ∧ i = .int .i64 k ∧ Hid (eqL eqT l m = eqL eqT (l.drop k) (m.drop k)) ∧ Below w.heap.size w wr) (fun i _ => l.length - (intOf i).toNat)
    case atStart => exact ⟨0, Nat.zero_le _, rfl, rfl, Below.refl _ _⟩
    case round =>
      obtain ⟨k, hk, rfl, hget, hbel⟩ := hrel
      by_cases hlt : k < l.length
      · have hlt2 : k < m.length := by have := heq.out; omega
        have hdrop := Lib.hid (eqL_drop (eq := eqT) (d := t0) hlt hlt2)
        obtain ⟨b1, o1, va, ca, ha1, hb1, x0, x1, x2, hva⟩ := hl k hlt
        obtain ⟨b2, o2, vb, cb, ha2, hb2, y0, y1, y2, hvb⟩ := hm k hlt2
        have c0 := cell_later hbel x0
        have c1 := cell_later hbel x1
        have c2 := cell_later hbel x2
        have d0 := cell_later hbel y0
        have d1 := cell_later hbel y1
        have d2 := cell_later hbel y2
        have hA : ∀ o o' : Obj, Below wr.heap.size wr ((wr.alloc o).alloc o') := fun o o' => ((Below.refl _ _).alloc (Nat.le_refl _) o).alloc (by simp) o'
        have hv1 := hva.below hbel
        have hv2 := hvb.below hbel
        have kl : (k : Int) < (l.length : Int) := by omega
        have km : (k : Int) < (m.length : Int) := by omega
        have hbw2 : b2 < wr.heap.size := by have := hbel.size; omega
        subst ha1
        subst ha2
        generalize hq1 : l.getD k t0 = q1 at *
        generalize hq2 : m.getD k t0 = q2 at *
        clear hq1 hq2 hl hm x0 x1 x2 y0 y1 y2 hva hvb
        obtain ⟨q10, q11, q12⟩ := q1
        obtain ⟨q20, q21, q22⟩ := q2
        simp only at c0 c1 c2 d0 d1 d2 hv1 hv2
        go_wp2_with fail
        refine (eqTerm_any ⟨q10, q11, q12⟩ ⟨q20, q21, q22⟩ _ _ _ _ _ (hv1.below (hA _ _)) (hv2.below (hA _ _))).mono ?_
        rintro e w1 ⟨rfl, hb1⟩
        have hbe := hbel.trans (((hA _ _).trans (hb1.mono (by simp <;> omega))).mono hbel.size)
        have HB := Lib.hid hbe
        clear hbe hb1 hbel
        go_wp2
        · go_ret
          have hx : eqT ⟨q10, q11, q12⟩ ⟨q20, q21, q22⟩ = false := by simpa using ‹(!eqT ⟨q10, q11, q12⟩ ⟨q20, q21, q22⟩) = true›
          exact ⟨ret_bool (by rw [hget.out, hdrop.out, hx]; rfl), HB.out⟩
        · go_roundw
          case rel =>
            have hx : eqT ⟨q10, q11, q12⟩ ⟨q20, q21, q22⟩ = true := by simpa using ‹(!eqT ⟨q10, q11, q12⟩ ⟨q20, q21, q22⟩) = false›
            exact ⟨k + 1, by omega, by go_num, by show _ = _; rw [hget.out, hdrop.out, hx]; rfl, HB.out⟩
          case measure => simp [intOf]; omega
      · go_wp2
        go_ret
        have h := hget.out
        rw [List.drop_eq_nil_of_le (by omega), List.drop_eq_nil_of_le (by have := heq.out; omega)] at h
        exact ⟨ret_bool (by rw [h]; rfl), hbel⟩

set_option maxRecDepth 100000 in
theorem eqTerms_any (a : Option Addr) (l : List Trm) (cap : Nat) (b : Option Addr) (m : List Trm) (cap' : Nat) (w : World) (hl : AtT w a l) (hm : AtT w b m) :
    Calls Tryz.prog 208 #[.slice a l.length cap, .slice b m.length cap'] w fun e w' => e = .returned (.bool (eqL eqT l m)) ∧ Below w.heap.size w w' := by
  go_enter Tryz.func208, Tryz.ntmps208
  go_wp2_with fail
  refine (eqFunc_any _ _ _ _ _ _ _ hl hm).mono ?_
  rintro e w1 ⟨rfl, hb1⟩
  go_wp2
  go_ret
  exact ⟨rfl, hb1⟩

end Go.Proofs.YtaleceobkbgcnaaGreat
namespace Go.Proofs.YtaleceobkbgcnaaGreat
open Go.RowKit

def eqPodB (p q : PodD) : Bool := decide (p.name = q.name) && (p.uid == q.uid) && (p.prio == q.prio) && eqRB p.r0 p.r1 p.r2 q.r0 q.r1 q.r2 && eqL eqI p.ports q.ports && eqL eqP p.labels q.labels && eqL eqT p.sel q.sel && eqL eqK p.tols q.tols
  && decide (p.topo = q.topo) && eqL eqT p.anti q.anti && (p.skew == q.skew) && eqL eqT p.even q.even && decide (p.node = q.node) && (p.term == q.term)

set_option maxRecDepth 100000 in
set_option maxHeartbeats 4000000 in
theorem eqPod_1 (p q : PodD) (h k : PodH) (w : World) (hf : decide (p.name = q.name) = false) :
    Calls Tryz.prog 163 #[podV p h, podV q k] w fun e w' => e = .returned (.bool false) ∧ Below w.heap.size w w' := by
  have h1 : (p.name.toList == q.name.toList) = false := by rw [toList_beq, hf]
  clear hf
  go_enter Tryz.func163, Tryz.ntmps163
  go_wp2
  go_ret
  exact ⟨rfl, (by (repeat (with_reducible first | exact Below.refl _ _ | refine Below.alloc ?_ ?_ _ | refine Below.setCell ?_ ?_ _ | refine Below.drew ?_ | refine below_drewN ?_ _)); all_goals (simp <;> omega))⟩
set_option maxRecDepth 100000 in
set_option maxHeartbeats 4000000 in
theorem eqPod_2 (p q : PodD) (h k : PodH) (w : World) (h1f : decide (p.name = q.name) = true) (h2 : (p.uid == q.uid) = false) :
    Calls Tryz.prog 163 #[podV p h, podV q k] w fun e w' => e = .returned (.bool false) ∧ Below w.heap.size w w' := by
  have h1 : (p.name.toList == q.name.toList) = true := by rw [toList_beq, h1f]
  clear h1f
  go_enter Tryz.func163, Tryz.ntmps163
  go_wp2
  go_ret
  exact ⟨rfl, (by (repeat (with_reducible first | exact Below.refl _ _ | refine Below.alloc ?_ ?_ _ | refine Below.setCell ?_ ?_ _ | refine Below.drew ?_ | refine below_drewN ?_ _)); all_goals (simp <;> omega))⟩
set_option maxRecDepth 100000 in
set_option maxHeartbeats 4000000 in
theorem eqPod_3 (p q : PodD) (h k : PodH) (w : World) (h1f : decide (p.name = q.name) = true) (h2 : (p.uid == q.uid) = true) (h3 : (p.prio == q.prio) = false) :
    Calls Tryz.prog 163 #[podV p h, podV q k] w fun e w' => e = .returned (.bool false) ∧ Below w.heap.size w w' := by
  have h1 : (p.name.toList == q.name.toList) = true := by rw [toList_beq, h1f]
  clear h1f
  go_enter Tryz.func163, Tryz.ntmps163
  go_wp2
  go_ret
  exact ⟨rfl, (by (repeat (with_reducible first | exact Below.refl _ _ | refine Below.alloc ?_ ?_ _ | refine Below.setCell ?_ ?_ _ | refine Below.drew ?_ | refine below_drewN ?_ _)); all_goals (simp <;> omega))⟩
set_option maxRecDepth 100000 in
set_option maxHeartbeats 4000000 in
theorem eqPod_4 (p q : PodD) (h k : PodH) (w : World) (h1f : decide (p.name = q.name) = true) (h2 : (p.uid == q.uid) = true) (h3 : (p.prio == q.prio) = true) (h4 : eqRB p.r0 p.r1 p.r2 q.r0 q.r1 q.r2 = false) :
    Calls Tryz.prog 163 #[podV p h, podV q k] w fun e w' => e = .returned (.bool false) ∧ Below w.heap.size w w' := by
  have h1 : (p.name.toList == q.name.toList) = true := by rw [toList_beq, h1f]
  clear h1f
  have gd := guardR
  have he := eq_R p.r0 p.r1 p.r2 q.r0 q.r1 q.r2
  go_enter Tryz.func163, Tryz.ntmps163
  go_wp2
  go_ret
  exact ⟨rfl, (by (repeat (with_reducible first | exact Below.refl _ _ | refine Below.alloc ?_ ?_ _ | refine Below.setCell ?_ ?_ _ | refine Below.drew ?_ | refine below_drewN ?_ _)); all_goals (simp <;> omega))⟩
end Go.Proofs.YtaleceobkbgcnaaGreat
namespace Go.Proofs.YtaleceobkbgcnaaGreat
open Go.RowKit

set_option maxRecDepth 100000 in
set_option maxHeartbeats 8000000 in
theorem eqPod_5 (p q : PodD) (h k : PodH) (w : World) (hp : PodAt w p h) (hq : PodAt w q k) (h1f : decide (p.name = q.name) = true) (h2 : (p.uid == q.uid) = true) (h3 : (p.prio == q.prio) = true) (h4 : eqRB p.r0 p.r1 p.r2 q.r0 q.r1 q.r2 = true) :
    Calls Tryz.prog 163 #[podV p h, podV q k] w fun e w' => e = .returned (.bool (eqPodB p q)) ∧ Below w.heap.size w w' := by
  have h1 : (p.name.toList == q.name.toList) = true := by rw [toList_beq, h1f]
  have G := Lib.hid (show eqPodB p q = (eqL eqI p.ports q.ports && eqL eqP p.labels q.labels && eqL eqT p.sel q.sel && eqL eqK p.tols q.tols && decide (p.topo = q.topo) && eqL eqT p.anti q.anti && (p.skew == q.skew) && eqL eqT p.even q.even && decide (p.node = q.node) && (p.term == q.term)) by unfold eqPodB; rw [h1f, h2, h3, h4]; simp)
  clear h1f
  have gd := guardR
  have he := eq_R p.r0 p.r1 p.r2 q.r0 q.r1 q.r2
  have hbw0 : Below w.heap.size w ((w.alloc (podBox p h)).alloc (podBox q k)) := ((Below.refl _ _).alloc (Nat.le_refl _) _).alloc (by simp) _
  have hq0 : w.heap.size + 1 < ((w.alloc (podBox p h)).alloc (podBox q k)).heap.size := by simp
  have H0 := Lib.hid (And.intro hbw0 hq0)
  clear hbw0 hq0
  go_enter Tryz.func163, Tryz.ntmps163
  go_wp2_with fail
  obtain ⟨hbw0, hq0⟩ := H0.out
  have hx0 : True := trivial
  have hy0 : True := trivial
  clear H0 h1 h2 h3 h4 gd he
  go_wp2_with fail
  refine Calls.mono (eqListI_any _ _ _ _ _ _ _ (hp.ports.below hbw0) (hq.ports.below hbw0)) ?_
  rintro e w1 ⟨rfl, hb1⟩
  have hx1 : ∀ o, w1.cell? ⟨w.heap.size, o, none⟩ = ((w.alloc (podBox p h)).alloc (podBox q k)).cell? ⟨w.heap.size, o, none⟩ := fun o => (hb1.cell (p := ⟨w.heap.size, o, none⟩) (Nat.lt_of_succ_lt hq0)).trans rfl
  have hy1 : ∀ o, w1.cell? ⟨w.heap.size + 1, o, none⟩ = ((w.alloc (podBox p h)).alloc (podBox q k)).cell? ⟨w.heap.size + 1, o, none⟩ := fun o => (hb1.cell (p := ⟨w.heap.size + 1, o, none⟩) hq0).trans rfl
  have hbw1 : Below w.heap.size w w1 := hbw0.trans (hb1.mono hbw0.size)
  have hq1 : w.heap.size + 1 < w1.heap.size := Nat.lt_of_lt_of_le hq0 hb1.size
  clear hb1 hx0 hy0 hq0
  cases g1 : eqL eqI p.ports q.ports
  · go_wp2
    go_ret
    exact ⟨ret_bool (by rw [G.out, g1]; rfl), hbw1⟩
  clear hbw0
  go_wp2_with fail
  refine Calls.mono (eqListP_any _ _ _ _ _ _ _ (hp.labels.below hbw1) (hq.labels.below hbw1) hp.labn hq.labn) ?_
  rintro e w2 ⟨rfl, hb2⟩
  have hx2 : ∀ o, w2.cell? ⟨w.heap.size, o, none⟩ = ((w.alloc (podBox p h)).alloc (podBox q k)).cell? ⟨w.heap.size, o, none⟩ := fun o => (hb2.cell (p := ⟨w.heap.size, o, none⟩) (Nat.lt_of_succ_lt hq1)).trans (hx1 o)
  have hy2 : ∀ o, w2.cell? ⟨w.heap.size + 1, o, none⟩ = ((w.alloc (podBox p h)).alloc (podBox q k)).cell? ⟨w.heap.size + 1, o, none⟩ := fun o => (hb2.cell (p := ⟨w.heap.size + 1, o, none⟩) hq1).trans (hy1 o)
  have hbw2 : Below w.heap.size w w2 := hbw1.trans (hb2.mono hbw1.size)
  have hq2 : w.heap.size + 1 < w2.heap.size := Nat.lt_of_lt_of_le hq1 hb2.size
  clear hb2 hx1 hy1 hq1
  cases g2 : eqL eqP p.labels q.labels
  · go_wp2
    go_ret
    exact ⟨ret_bool (by rw [G.out, g1, g2]; rfl), hbw2⟩
  clear hbw1
  go_wp2_with fail
  refine Calls.mono (eqTerms_any _ _ _ _ _ _ _ (hp.sel.below hbw2) (hq.sel.below hbw2)) ?_
  rintro e w3 ⟨rfl, hb3⟩
  have hx3 : ∀ o, w3.cell? ⟨w.heap.size, o, none⟩ = ((w.alloc (podBox p h)).alloc (podBox q k)).cell? ⟨w.heap.size, o, none⟩ := fun o => (hb3.cell (p := ⟨w.heap.size, o, none⟩) (Nat.lt_of_succ_lt hq2)).trans (hx2 o)
  have hy3 : ∀ o, w3.cell? ⟨w.heap.size + 1, o, none⟩ = ((w.alloc (podBox p h)).alloc (podBox q k)).cell? ⟨w.heap.size + 1, o, none⟩ := fun o => (hb3.cell (p := ⟨w.heap.size + 1, o, none⟩) hq2).trans (hy2 o)
  have hbw3 : Below w.heap.size w w3 := hbw2.trans (hb3.mono hbw2.size)
  have hq3 : w.heap.size + 1 < w3.heap.size := Nat.lt_of_lt_of_le hq2 hb3.size
  clear hb3 hx2 hy2 hq2
  cases g3 : eqL eqT p.sel q.sel
  · go_wp2
    go_ret
    exact ⟨ret_bool (by rw [G.out, g1, g2, g3]; rfl), hbw3⟩
  clear hbw2
  go_wp2_with fail
  refine Calls.mono (eqListL_any _ _ _ _ _ _ _ (hp.tols.below hbw3) (hq.tols.below hbw3)) ?_
  rintro e w4 ⟨rfl, hb4⟩
  have hx4 : ∀ o, w4.cell? ⟨w.heap.size, o, none⟩ = ((w.alloc (podBox p h)).alloc (podBox q k)).cell? ⟨w.heap.size, o, none⟩ := fun o => (hb4.cell (p := ⟨w.heap.size, o, none⟩) (Nat.lt_of_succ_lt hq3)).trans (hx3 o)
  have hy4 : ∀ o, w4.cell? ⟨w.heap.size + 1, o, none⟩ = ((w.alloc (podBox p h)).alloc (podBox q k)).cell? ⟨w.heap.size + 1, o, none⟩ := fun o => (hb4.cell (p := ⟨w.heap.size + 1, o, none⟩) hq3).trans (hy3 o)
  have hbw4 : Below w.heap.size w w4 := hbw3.trans (hb4.mono hbw3.size)
  have hq4 : w.heap.size + 1 < w4.heap.size := Nat.lt_of_lt_of_le hq3 hb4.size
  clear hb4 hx3 hy3 hq3
  cases g4 : eqL eqK p.tols q.tols
  · go_wp2
    go_ret
    exact ⟨ret_bool (by rw [G.out, g1, g2, g3, g4]; rfl), hbw4⟩
  clear hbw3
  cases g5 : decide (p.topo = q.topo)
  · have t5 : (p.topo.toList == q.topo.toList) = false := by rw [toList_beq, g5]
    go_wp2
    go_ret
    exact ⟨ret_bool (by rw [G.out, g1, g2, g3, g4, g5]; rfl), hbw4⟩
  have t5 : (p.topo.toList == q.topo.toList) = true := by rw [toList_beq, g5]
  go_wp2_with fail
  refine Calls.mono (eqTerms_any _ _ _ _ _ _ _ (hp.anti.below hbw4) (hq.anti.below hbw4)) ?_
  rintro e w6 ⟨rfl, hb6⟩
  have hx6 : ∀ o, w6.cell? ⟨w.heap.size, o, none⟩ = ((w.alloc (podBox p h)).alloc (podBox q k)).cell? ⟨w.heap.size, o, none⟩ := fun o => (hb6.cell (p := ⟨w.heap.size, o, none⟩) (Nat.lt_of_succ_lt hq4)).trans (hx4 o)
  have hy6 : ∀ o, w6.cell? ⟨w.heap.size + 1, o, none⟩ = ((w.alloc (podBox p h)).alloc (podBox q k)).cell? ⟨w.heap.size + 1, o, none⟩ := fun o => (hb6.cell (p := ⟨w.heap.size + 1, o, none⟩) hq4).trans (hy4 o)
  have hbw6 : Below w.heap.size w w6 := hbw4.trans (hb6.mono hbw4.size)
  have hq6 : w.heap.size + 1 < w6.heap.size := Nat.lt_of_lt_of_le hq4 hb6.size
  clear hb6 hx4 hy4 hq4
  cases g6 : eqL eqT p.anti q.anti
  · go_wp2
    go_ret
    exact ⟨ret_bool (by rw [G.out, g1, g2, g3, g4, g5, g6]; rfl), hbw6⟩
  clear hbw4
  clear t5
  cases g7 : (p.skew == q.skew)
  · go_wp2
    go_ret
    exact ⟨ret_bool (by rw [G.out, g1, g2, g3, g4, g5, g6, g7]; rfl), hbw6⟩
  go_wp2_with fail
  refine Calls.mono (eqTerms_any _ _ _ _ _ _ _ (hp.even.below hbw6) (hq.even.below hbw6)) ?_
  rintro e w8 ⟨rfl, hb8⟩
  have hx8 : ∀ o, w8.cell? ⟨w.heap.size, o, none⟩ = ((w.alloc (podBox p h)).alloc (podBox q k)).cell? ⟨w.heap.size, o, none⟩ := fun o => (hb8.cell (p := ⟨w.heap.size, o, none⟩) (Nat.lt_of_succ_lt hq6)).trans (hx6 o)
  have hy8 : ∀ o, w8.cell? ⟨w.heap.size + 1, o, none⟩ = ((w.alloc (podBox p h)).alloc (podBox q k)).cell? ⟨w.heap.size + 1, o, none⟩ := fun o => (hb8.cell (p := ⟨w.heap.size + 1, o, none⟩) hq6).trans (hy6 o)
  have hbw8 : Below w.heap.size w w8 := hbw6.trans (hb8.mono hbw6.size)
  have hq8 : w.heap.size + 1 < w8.heap.size := Nat.lt_of_lt_of_le hq6 hb8.size
  clear hb8 hx6 hy6 hq6
  cases g8 : eqL eqT p.even q.even
  · go_wp2
    go_ret
    exact ⟨ret_bool (by rw [G.out, g1, g2, g3, g4, g5, g6, g7, g8]; rfl), hbw8⟩
  clear hbw6
  cases g9 : decide (p.node = q.node)
  · have t9 : (p.node.toList == q.node.toList) = false := by rw [toList_beq, g9]
    go_wp2
    go_ret
    exact ⟨ret_bool (by rw [G.out, g1, g2, g3, g4, g5, g6, g7, g8, g9]; rfl), hbw8⟩
  have t9 : (p.node.toList == q.node.toList) = true := by rw [toList_beq, g9]
  go_wp2
  go_ret
  exact ⟨ret_bool (by rw [G.out, g1, g2, g3, g4, g5, g6, g7, g8, g9]; rfl), hbw8⟩

theorem eqPod_any (p q : PodD) (h k : PodH) (w : World) (hp : PodAt w p h) (hq : PodAt w q k) :
    Calls Tryz.prog 163 #[podV p h, podV q k] w fun e w' => e = .returned (.bool (eqPodB p q)) ∧ Below w.heap.size w w' := by
  cases h1 : decide (p.name = q.name)
  · refine (eqPod_1 p q h k w h1).mono ?_
    rintro e w' ⟨rfl, hb⟩
    exact ⟨ret_bool (by unfold eqPodB; rw [h1]; rfl), hb⟩
  cases h2 : (p.uid == q.uid)
  · refine (eqPod_2 p q h k w h1 h2).mono ?_
    rintro e w' ⟨rfl, hb⟩
    exact ⟨ret_bool (by unfold eqPodB; rw [h1, h2]; rfl), hb⟩
  cases h3 : (p.prio == q.prio)
  · refine (eqPod_3 p q h k w h1 h2 h3).mono ?_
    rintro e w' ⟨rfl, hb⟩
    exact ⟨ret_bool (by unfold eqPodB; rw [h1, h2, h3]; rfl), hb⟩
  cases h4 : eqRB p.r0 p.r1 p.r2 q.r0 q.r1 q.r2
  · refine (eqPod_4 p q h k w h1 h2 h3 h4).mono ?_
    rintro e w' ⟨rfl, hb⟩
    exact ⟨ret_bool (by unfold eqPodB; rw [h1, h2, h3, h4]; rfl), hb⟩
  exact eqPod_5 p q h k w hp hq h1 h2 h3 h4
end Go.Proofs.YtaleceobkbgcnaaGreat
