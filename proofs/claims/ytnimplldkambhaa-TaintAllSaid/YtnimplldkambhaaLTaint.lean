/-
  The law TaintAll's walk. No conditions beyond what is written in each statement.
-/
import Derived.Test.YtnimplldkambhaaRef5
import Derived.Deep.RegionHeld3
set_option linter.unusedSimpArgs false
set_option linter.unusedVariables false
namespace Go.Proofs.Ytnimplldkambhaa
open Go.RowKit

theorem bears_v (k v : ByteArray) (any : Bool) (xk xv : ByteArray) (w : World) {r : Bool} (h : bearsB (k, v, any) (xk, xv) = r) :
    Calls Try.prog 38 #[.agg #[.string k, .string v, .bool any], .agg #[.string xk, .string xv]] w fun e w' => e = .returned (.bool r) ∧ Below w.heap.size w w' := by
  subst h; exact bears_any k v any xk xv w
theorem all_v (la : Option Addr) (tols : List Tol) (ln lcap : Nat) (ta : Option Addr) (ts : List Str2) (tn tcap : Nat) (w : World) {r : Bool} (e1 : tols.length = ln) (e2 : ts.length = tn) (h : allB tols ts = r) (hl : AtL w la tols) (ht : At2 w ta ts) (hm : ts.length ≤ 9) :
    Calls Try.prog 36 #[.slice la ln lcap, .slice ta tn tcap] w fun e w' => e = .returned (.bool r) ∧ Below w.heap.size w w' := by
  subst e1 e2 h; exact all_any la tols lcap ta ts tcap w hl ht (by omega)
theorem held_later {w W W' : World} {b1 o1 b2 o2 : Nat} {u1 u2 u3 u4 u5 : Value}
    (h : Below w.heap.size w W ∧ W.cell? ⟨b1, o1, none⟩ = some u1 ∧ W.cell? ⟨b1, o1 + 1, none⟩ = some u2 ∧ W.cell? ⟨b1, o1 + 2, none⟩ = some u3 ∧ W.cell? ⟨b2, o2, none⟩ = some u4 ∧ W.cell? ⟨b2, o2 + 1, none⟩ = some u5) (hb : Below W.heap.size W W') :
    Below w.heap.size w W' ∧ W'.cell? ⟨b1, o1, none⟩ = some u1 ∧ W'.cell? ⟨b1, o1 + 1, none⟩ = some u2 ∧ W'.cell? ⟨b1, o1 + 2, none⟩ = some u3 ∧ W'.cell? ⟨b2, o2, none⟩ = some u4 ∧ W'.cell? ⟨b2, o2 + 1, none⟩ = some u5 :=
  ⟨h.1.trans (hb.mono h.1.size), cell_later hb h.2.1, cell_later hb h.2.2.1, cell_later hb h.2.2.2.1, cell_later hb h.2.2.2.2.1, cell_later hb h.2.2.2.2.2⟩
theorem AtL.one {w : World} {N : Nat} {t : Tol} (hN : N < w.heap.size) (c0 : w.cell? ⟨N, 0, none⟩ = some (.string t.1)) (c1 : w.cell? ⟨N, 1, none⟩ = some (.string t.2.1)) (c2 : w.cell? ⟨N, 2, none⟩ = some (.bool t.2.2)) : AtL w (some ⟨N, 0, none⟩) [t] := by
  refine ⟨by simp, fun i hi => ?_⟩
  obtain rfl : i = 0 := by simp at hi; omega
  exact ⟨N, 0, rfl, hN, by simpa using c0, by simpa using c1, by simpa using c2⟩
theorem AtL.nil (w : World) (a : Option Addr) : AtL w a [] := ⟨by simp, fun i hi => by simp at hi⟩
theorem At2.nil (w : World) (a : Option Addr) : At2 w a [] := fun i hi => by simp at hi

set_option maxRecDepth 100000 in
set_option maxHeartbeats 8000000 in
theorem taintAll_walk (a : Option Addr) (l : List Str2) (cap : Nat) (b : Option Addr) (x : List Tol) (cb : Nat) (w : World) (hl : At2 w a l) (hx : AtL w b x) (h1 : l.length ≤ cap) (h2 : x.length ≤ cb) (m1 : cap ≤ maxLen) (m2 : cb ≤ maxLen)
    (z1 : ∀ i, i < l.length → (l.getD i e2).1.size ≤ maxLen ∧ (l.getD i e2).2.size ≤ maxLen) (z2 : ∀ i, i < x.length → (x.getD i e3).1.size ≤ maxLen ∧ (x.getD i e3).2.1.size ≤ maxLen) :
    Calls Try.prog 8 #[.slice a l.length cap, .slice b x.length cb] w fun e w' => e = .returned (.bool true) ∧ Below w.heap.size w w' := by
  have zl : ∀ i, i < (l.take 9).length → ((l.take 9).getD i e2).1.size ≤ maxLen ∧ ((l.take 9).getD i e2).2.size ≤ maxLen := fun i hi => by
    rw [getD_take hi]; exact z1 i (by simp at hi; omega)
  have zx : ∀ i, i < (x.take 9).length → ((x.take 9).getD i e3).1.size ≤ maxLen ∧ ((x.take 9).getD i e3).2.1.size ≤ maxLen := fun i hi => by
    rw [getD_take hi]; exact z2 i (by simp at hi; omega)
  clear z1 z2
  obtain ⟨ml, eml, iml, jml, kml⟩ := cut_of l 9
  have aml := hl.take 9
  rw [← eml] at aml zl
  have cml : ml.length ≤ cap := by omega
  simp only [Int.cast_ofNat_Int] at iml
  clear eml jml
  obtain ⟨mx, emx, imx, jmx, kmx⟩ := cut_of x 9
  have amx := hx.take 9
  rw [← emx] at amx zx
  have cmx : mx.length ≤ cb := by omega
  simp only [Int.cast_ofNat_Int] at imx
  clear emx jmx h1 h2 m1 m2 hl hx
  have ZL := Lib.hid zl
  have ZX := Lib.hid zx
  clear zl zx
  go_enter Try.func8, Try.ntmps8
  go_wp2_with fail
  refine (begun_any _).mono ?_
  rintro e w1 ⟨rfl, hbw1⟩
  go_wp2_with fail
  go_quiet (fail)
  have hbw2 : Below w.heap.size w (w1.drewN nq) := below_drewN hbw1 _
  clear imx iml cml cmx hbw1
  go_wp2_with (at_builtin; refine stand ?_)
  refine Calls.mono (may_taints_any a ml cap _ (aml.below hbw2)) ?_
  rintro e w3 ⟨rfl, hb3⟩
  have hbw3 : Below w.heap.size w w3 := hbw2.trans (hb3.mono hbw2.size)
  clear hb3
  go_wp2_with (at_builtin; refine stand ?_)
  refine Calls.mono (refMayTaints_any a ml cap _ (aml.below hbw3) ZL.out kml) ?_
  rintro e w4 ⟨rfl, hb4⟩
  have hbw4 : Below w.heap.size w w4 := hbw3.trans (hb4.mono hbw3.size)
  clear hb4
  go_wp2_with (at_builtin; refine stand ?_)
  refine Calls.mono (mayTols_any b mx cb _ (amx.below hbw4)) ?_
  rintro e w5 ⟨rfl, hb5⟩
  have hbw5 : Below w.heap.size w w5 := hbw4.trans (hb5.mono hbw4.size)
  clear hb5
  go_wp2_with (at_builtin; refine stand ?_)
  refine Calls.mono (refMayTols_any b mx cb _ (amx.below hbw5) ZX.out kmx) ?_
  rintro e w6 ⟨rfl, hb6⟩
  have hbw6 : Below w.heap.size w w6 := hbw5.trans (hb6.mono hbw5.size)
  clear hb6
  go_wp2_with (at_builtin; refine stand ?_)
  refine Calls.mono (all_any b mx cb a ml cap _ (amx.below hbw6) (aml.below hbw6) (by omega)) ?_
  rintro e w7 ⟨rfl, hb7⟩
  have hbw7 : Below w.heap.size w w7 := hbw6.trans (hb7.mono hbw6.size)
  clear hb7
  go_wp2_with (at_builtin; refine stand ?_)
  refine Calls.mono (refBorne_any b mx cb a ml cap _ (amx.below hbw7) (aml.below hbw7) kmx kml) ?_
  rintro e w8 ⟨rfl, hb8⟩
  have hbw8 : Below w.heap.size w w8 := hbw7.trans (hb8.mono hbw7.size)
  clear hb8
  clear hbw2 hbw3 hbw4 hbw5 hbw6 hbw7
  go_wp2_with fail
  go_loopw [44] (fun i wr => ∃ k : Nat, k ≤ ml.length ∧ i = .int .i64 k ∧ Below w.heap.size w wr) (fun i _ => ml.length - (intOf i).toNat)
  case atStart => exact ⟨0, Nat.zero_le _, rfl, hbw8⟩
  case round =>
    obtain ⟨k, hk, rfl, hbel⟩ := hrel
    by_cases hlt : k < ml.length
    · have HB := Lib.hid hbel
      clear hbel hbw8
      go_wp2_with fail
      go_loopw [49] (fun i w2 => ∃ j : Nat, j ≤ mx.length ∧ i = .int .i64 j ∧ Below w.heap.size w w2) (fun i _ => mx.length - (intOf i).toNat)
      case atStart => exact ⟨0, Nat.zero_le _, rfl, HB.out⟩
      case round =>
        obtain ⟨j, hj, rfl, hbe2⟩ := hrel
        by_cases hjt : j < mx.length
        · obtain ⟨b1, o1, ha1, _, d0, d1⟩ := aml k hlt
          obtain ⟨b2, o2, ha2, _, f0, f1, f2⟩ := amx.2 j hjt
          have c0 := cell_later hbe2 d0
          have c1 := cell_later hbe2 d1
          have g0 := cell_later hbe2 f0
          have g1 := cell_later hbe2 f1
          have g2 := cell_later hbe2 f2
          have hbd : Below w.heap.size w wr.drew := hbe2.drew
          clear d0 d1 f0 f1 f2 aml amx hbe2 HB
          subst ha1 ha2
          generalize ml.getD k e2 = q at c0 c1
          generalize mx.getD j e3 = t at g0 g1 g2
          obtain ⟨q0, q1⟩ := q
          obtain ⟨t0', t1', t2'⟩ := t
          simp only at c0 c1 g0 g1 g2
          obtain ⟨R, hR⟩ : ∃ R, bearsB (t0', t1', t2') (q0, q1) = R := ⟨_, rfl⟩
          have HR := Lib.hid hR
          clear hR
          go_wp2_with fail
          go_region_held3 (fun W => Below w.heap.size w W ∧ W.cell? ⟨b2, o2 + j * 3, none⟩ = some (.string t0') ∧ W.cell? ⟨b2, o2 + j * 3 + 1, none⟩ = some (.string t1') ∧ W.cell? ⟨b2, o2 + j * 3 + 2, none⟩ = some (.bool t2') ∧ W.cell? ⟨b1, o1 + k * 2, none⟩ = some (.string q0) ∧ W.cell? ⟨b1, o1 + k * 2 + 1, none⟩ = some (.string q1)) (go_keep)
            (first
              | (go_at_call 38; refine (bears_v _ _ _ _ _ _ HR.out).mono ?_; rintro e w3 ⟨rfl, hb3⟩; have hS3 := held_later (by assumption) hb3; obtain ⟨p0, p1, p2, p3, p4, p5⟩ := hS3; clear hb3)
              | (go_at_call 39; refine (refBears_v _ _ _ _ _ _ HR.out).mono ?_; rintro e w4 ⟨rfl, hb4⟩; have hS4 := held_later (by assumption) hb4; obtain ⟨r0, r1, r2, r3, r4, r5⟩ := hS4; clear hb4))
          go_wp2
          go_roundw
          case rel => exact ⟨j + 1, by omega, by go_num, r0⟩
          case measure => simp [intOf]; omega
        · go_wp2
          go_roundw
          case rel => exact ⟨k + 1, by omega, by go_num, hbe2⟩
          case measure => simp [intOf]; omega
    · clear hbw8
      have v1 : allB [(⟨#[]⟩, ⟨#[]⟩, true)] ml = true := by
        unfold allB borneB bearsB
        rw [List.all_eq_true]
        intro x _
        simp only [List.any_cons, List.any_nil, Bool.or_false]
        rfl
      go_wp2_with (at_builtin; refine stand ?_)
      refine Calls.mono (all_v b mx mx.length cb none [] 0 0 _ (r := true) rfl rfl rfl (amx.below hbel) (At2.nil _ _) (by decide)) ?_
      rintro e w9 ⟨rfl, hb9⟩
      have hbw9 : Below w.heap.size w w9 := hbel.trans (hb9.mono hbel.size)
      clear hb9
      go_wp2_with (at_builtin; refine stand ?_)
      refine Calls.mono (all_v _ [(⟨#[]⟩, ⟨#[]⟩, true)] 1 1 a ml ml.length cap _ (r := true) rfl rfl v1 (AtL.one (by simp) (by simp [go_sem]) (by simp [go_sem]) (by simp [go_sem])) (aml.below (by first | exact (hbw9.alloc hbw9.size _).drew | exact hbw9.alloc hbw9.size _ | exact hbw9.drew | exact hbw9 | exact below_drewN (hbw9.alloc hbw9.size _) _)) kml) ?_
      rintro e w10 ⟨rfl, hb10⟩
      have hbw10 : Below w.heap.size w w10 := Below.trans (by first | exact (hbw9.alloc hbw9.size _).drew | exact hbw9.alloc hbw9.size _ | exact hbw9.drew | exact hbw9 | exact below_drewN (hbw9.alloc hbw9.size _) _) (hb10.mono (by have := hbw9.size; simp; omega))
      clear hb10 hbw9
      by_cases h0 : ml.length = 0
      · go_wp2
        go_ret
        exact ⟨rfl, hbw10⟩
      · have v0 : allB [] ml = false := by
          cases ml with
          | nil => exact absurd rfl h0
          | cons y r => rfl
        go_wp2_with (at_builtin; refine stand ?_)
        refine Calls.mono (all_v none [] 0 0 a ml ml.length cap _ (r := false) rfl rfl v0 (AtL.nil _ _) (aml.below hbw10) kml) ?_
        rintro e w11 ⟨rfl, hb11⟩
        have hbw11 : Below w.heap.size w w11 := hbw10.trans (hb11.mono hbw10.size)
        clear hb11
        go_wp2
        go_ret
        exact ⟨rfl, hbw11⟩
end Go.Proofs.Ytnimplldkambhaa
