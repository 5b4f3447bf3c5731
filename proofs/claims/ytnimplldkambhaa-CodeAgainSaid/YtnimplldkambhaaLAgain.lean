/-
  The law CodeAgain's walk. No conditions beyond what is written in each statement.
-/
import Derived.Test.YtnimplldkambhaaLAgain0
import Derived.Test.YtnimplldkambhaaRef7
import Derived.Deep.RegionHeld3
set_option linter.unusedSimpArgs false
set_option linter.unusedVariables false
namespace Go.Proofs.Ytnimplldkambhaa
open Go.RowKit

theorem getPod_v (a : Option Addr) (l : List Int) (n cap : Nat) (w : World) (hn : l.length = n) (hat : AtB w a l) (hc1 : l.length ≤ cap) (hc2 : cap ≤ maxLen) :
    Calls Try.prog 46 #[.slice a n cap] w (GetPodPost w (getPodR l)) := by
  subst hn; exact getPod_any a l cap w hat hc1 hc2
set_option maxRecDepth 100000 in
set_option maxHeartbeats 4000000 in
theorem codeAgain_walk (p : PodD) (h : PodH) (n : NodeD) (k : NodeH) (t : Int) (w : World) (hp : PodAt w p h) (hn : NodeAt w n k) (ht : Hid (p.term < 9223372036854775808)) :
    Calls Try.prog 12 #[podV p h, nodeV n k, .int .i64 t] w fun e w' => e = .returned (.bool true) ∧ Below w.heap.size w w' := by
  have hbw0 : Below w.heap.size w ((w.alloc (podBox p h)).alloc (nodeBox n k)) := ((Below.refl _ _).alloc (Nat.le_refl _) _).alloc (by simp) _
  have HB0 := Lib.hid hbw0
  clear hbw0
  go_enter Try.func12, Try.ntmps12
  go_wp2_with fail
  refine (begun_any _).mono ?_
  rintro e w1 ⟨rfl, hb1⟩
  have hA : ∀ o, w1.cell? ⟨w.heap.size, o, none⟩ = (podC p h)[o]? := fun o => (hb1.cell (p := ⟨w.heap.size, o, none⟩) (by simp <;> omega)).trans (by rw [cell_of_obj (heap_allocC w _ _)])
  have hB : ∀ o, w1.cell? ⟨w.heap.size + 1, o, none⟩ = (nodeC n k)[o]? := fun o => (hb1.cell (p := ⟨w.heap.size + 1, o, none⟩) (by simp)).trans (by rw [cell_of_obj (heap_allocD w _ _)])
  have hz1 : w.heap.size + 1 < w1.heap.size := by have := hb1.size; simp at this; omega
  have HBK := Lib.hid ((hb1.block w.heap.size (by simp <;> omega)).trans (heap_allocC w (podBox p h) (nodeBox n k)))
  have hbw1 : Below w.heap.size w w1 := HB0.out.trans (hb1.mono HB0.out.size)
  have hp1 := hp.below hbw1
  have hn1 := hn.below hbw1
  clear hb1 HB0 hp hn
  go_wp2_with fail
  have hbd : Below w1.heap.size w1 w1.drew := (Below.refl _ _).drew
  have A1 : ∀ W : World, (Below w1.heap.size w1 W ∧ (∀ o, W.cell? ⟨w.heap.size, o, none⟩ = (podC p h)[o]?) ∧ (∀ o, W.cell? ⟨w.heap.size + 1, o, none⟩ = (nodeC n k)[o]?)) → Calls Try.prog 44 #[podV p h] W (EncPost W (podEnc p)) := fun W hS => putPod_any p h W (hp1.below hS.1) ht
  have A2 : ∀ W : World, (Below w1.heap.size w1 W ∧ (∀ o, W.cell? ⟨w.heap.size, o, none⟩ = (podC p h)[o]?) ∧ (∀ o, W.cell? ⟨w.heap.size + 1, o, none⟩ = (nodeC n k)[o]?)) → Calls Try.prog 45 #[nodeV n k] W (EncPost W (nodeEnc n)) := fun W hS => putNode_any n k W (hn1.below hS.1)
  have HA1 := Lib.hid A1
  have HA2 := Lib.hid A2
  have HP1 := Lib.hid hp1
  have HN1 := Lib.hid hn1
  clear A1 A2 hp1 hn1
  go_region_held_law (fun W => Below w1.heap.size w1 W ∧ (∀ o, W.cell? ⟨w.heap.size, o, none⟩ = (podC p h)[o]?) ∧ (∀ o, W.cell? ⟨w.heap.size + 1, o, none⟩ = (nodeC n k)[o]?))
    (first | exact hS3 | exact hS2 | exact ⟨hbd, hA, hB⟩ | go_keep)
    (first
      | (go_at_call 44
         refine Calls.mono (HA1.out _ (by assumption)) ?_
         rintro e w2 ⟨v2, rfl, ho2, hb2⟩
         have hS2 := two_later (by assumption) hb2 (by omega) hz1)
      | (go_at_call 45
         refine Calls.mono (HA2.out _ (by assumption)) ?_
         rintro e w3 ⟨v3, rfl, ho3, hb3⟩
         have hS3 := two_later (by assumption) hb3 (by omega) hz1))
  obtain ⟨a2, c2, rfl, l2, m2, q2, pl2⟩ := own_bytes ho2 (allB_pod p)
  obtain ⟨a3, c3, rfl, l3, m3, q3, pl3⟩ := own_bytes ho3 (allB_node n)
  have q2 := q2.below hb3
  obtain ⟨sp, hsp⟩ : ∃ s, strOfNums (vI (podEnc p)) = s := ⟨_, rfl⟩
  obtain ⟨sn, hsn⟩ : ∃ s, strOfNums (vI (nodeEnc n)) = s := ⟨_, rfl⟩
  have c2n : ∀ N, (convert 70 9 (.slice a2 (podEnc p).length c2)).run Try.prog (w3.drewN N) = .ok (.string sp) (w3.drewN N) := fun N => by rw [← hsp]; exact conv_b _ _ _ _ _ (vI_len _) pl2 (q2.below (below_drewN (Below.refl _ _) _))
  have c3n : ∀ N, (convert 70 9 (.slice a3 (nodeEnc n).length c3)).run Try.prog (w3.drewN N) = .ok (.string sn) (w3.drewN N) := fun N => by rw [← hsn]; exact conv_b _ _ _ _ _ (vI_len _) pl3 (q3.below (below_drewN (Below.refl _ _) _))
  have c2z := c2n 0
  have c3z := c3n 0
  have c2o := c2n 1
  have c3o := c3n 1
  have HSP := Lib.hid hsp
  have HSN := Lib.hid hsn
  have HS3 := Lib.hid hS3
  clear ho2 ho3 hb2 hb3 hS2 hS3 q2 q3 hA hB hbd hsp hsn
  go_wp2_with fail
  go_quiet (fail)
  go_wp2_with fail
  clear c2n c3n c2z c3z c2o c3o
  generalize hw4 : w3.drewN nq = w4
  have hS4 := two_later HS3.out (show Below w3.heap.size w3 w4 by rw [← hw4]; exact below_drewN (Below.refl _ _) _) (Nat.lt_of_succ_lt hz1) hz1
  have HS4 := Lib.hid hS4
  clear hw4 hS4 HS3 q2
  obtain ⟨K, hK, eK⟩ : ∃ K : Nat, K < 5 ∧ (wrap64 (t.tmod 5 + 5)).tmod 5 = (K : Int) := by
    have b := turn_in t (n := 5) (by omega) (by omega)
    exact ⟨((wrap64 (t.tmod 5 + 5)).tmod 5).toNat, by omega, by omega⟩
  obtain ⟨L, hL⟩ : ∃ L, (podEnc p).length = L := ⟨_, rfl⟩
  obtain ⟨M, hM⟩ : ∃ M, (nodeEnc n).length = M := ⟨_, rfl⟩
  rw [hL] at l2
  rw [hM] at l3
  rw [hL, hM]
  have HL := Lib.hid hL
  have HM := Lib.hid hM
  clear hL hM
  go_loopw [12] (fun i wr => ∃ j : Nat, j ≤ 1 + K ∧ i = .int .i64 j ∧ Below w4.heap.size w4 wr) (fun i _ => 1 + K - (intOf i).toNat)
  case atStart => exact ⟨0, Nat.zero_le _, rfl, Below.refl _ _⟩
  case round =>
    obtain ⟨j, hj, rfl, hbel⟩ := hrel
    by_cases hlt : j < 1 + K
    · as_aux_lemma =>
        have hS := two_later HS4.out hbel (Nat.lt_of_succ_lt hz1) hz1
        have hr1 := hS.1
        have hA := hS.2.1
        have hB := hS.2.2
        have hzr : w.heap.size + 1 < wr.heap.size := Nat.lt_of_lt_of_le hz1 hr1.size
        have hbd : Below wr.heap.size wr wr.drew := (Below.refl _ _).drew
        have A1 : ∀ W : World, (Below wr.heap.size wr W ∧ (∀ o, W.cell? ⟨w.heap.size, o, none⟩ = (podC p h)[o]?) ∧ (∀ o, W.cell? ⟨w.heap.size + 1, o, none⟩ = (nodeC n k)[o]?)) → Calls Try.prog 44 #[podV p h] W (EncPost W (podEnc p)) := fun W hS => HA1.out W ⟨hr1.trans (hS.1.mono hr1.size), hS.2⟩
        have A2 : ∀ W : World, (Below wr.heap.size wr W ∧ (∀ o, W.cell? ⟨w.heap.size, o, none⟩ = (podC p h)[o]?) ∧ (∀ o, W.cell? ⟨w.heap.size + 1, o, none⟩ = (nodeC n k)[o]?)) → Calls Try.prog 45 #[nodeV n k] W (EncPost W (nodeEnc n)) := fun W hS => HA2.out W ⟨hr1.trans (hS.1.mono hr1.size), hS.2⟩
        have HB1 := Lib.hid A1
        have HB2 := Lib.hid A2
        have HBEL := Lib.hid hbel
        clear A1 A2 hS hr1 hbel
        go_wp2_with fail
        go_region_held_law (fun W => Below wr.heap.size wr W ∧ (∀ o, W.cell? ⟨w.heap.size, o, none⟩ = (podC p h)[o]?) ∧ (∀ o, W.cell? ⟨w.heap.size + 1, o, none⟩ = (nodeC n k)[o]?))
          (first | exact hS6 | exact hS5 | exact ⟨hbd, hA, hB⟩ | go_keep)
          (first
            | (go_at_call 44
               refine Calls.mono (HB1.out _ (by assumption)) ?_
               rintro e w5 ⟨v5, rfl, ho5, hb5⟩
               have hS5 := two_later (by assumption) hb5 (Nat.lt_of_succ_lt hzr) hzr)
            | (go_at_call 45
               refine Calls.mono (HB2.out _ (by assumption)) ?_
               rintro e w6 ⟨v6, rfl, ho6, hb6⟩
               have hS6 := two_later (by assumption) hb6 (Nat.lt_of_succ_lt hzr) hzr))
        obtain ⟨a5, c5, rfl, l5, m5, q5, pl5⟩ := own_bytes ho5 (allB_pod p)
        obtain ⟨a6, c6, rfl, l6, m6, q6, pl6⟩ := own_bytes ho6 (allB_node n)
        have hg5 : ∀ g off, a5 = some ⟨g, off, none⟩ → wr.heap.size ≤ g ∧ g < w5.heap.size := fun g off e => ho5.lt g (by subst e; rfl)
        have own5 : w6.ownsRow wr.heap.size 5 1 (.slice a5 (podEnc p).length c5) (podEnc p).length (podEnc p) := own_below ho5 hb6
        have hc5 : (convert 70 9 (.slice a5 (podEnc p).length c5)).run Try.prog w6 = .ok (.string sp) w6 := by rw [← HSP.out]; exact conv_b _ _ _ _ _ (vI_len _) pl5 (q5.below hb6)
        have hc6 : (convert 70 9 (.slice a6 (nodeEnc n).length c6)).run Try.prog w6 = .ok (.string sn) w6 := by rw [← HSN.out]; exact conv_b _ _ _ _ _ (vI_len _) pl6 q6
        have hbw6 := hS6.1
        have hs5 : wr.heap.size ≤ w5.heap.size := hb5.size
        rw [HL.out] at own5 hc5 l5 ⊢
        rw [HM.out] at ho6 hc6 l6 ⊢
        clear ho5 hb5 hb6 hS5 hS6 q5 q6 hbd hA hB pl5 pl6 HB1 HB2
        obtain ⟨wq, hwq⟩ : ∃ x, x = wr := ⟨_, rfl⟩
        rw [← hwq] at own5 hg5 hbw6 HBEL hs5
        clear hwq
        have L63 := le63b l5 m5
        have M63 := le63b l6 m6
        clear l5 m5 l6 m6
        go_wp2_with fail
        clear hc5 hc6
        go_loopw [58] (fun i wx => ∃ q : Nat, q ≤ L ∧ i = .int .i64 q ∧ (∃ xs, wx.ownsRow wq.heap.size 5 1 (.slice a5 L c5) L xs) ∧ (∃ ys, wx.ownsRow w5.heap.size 5 1 (.slice a6 M c6) M ys) ∧ Below wq.heap.size wq wx) (fun i _ => L - (intOf i).toNat)
        case atStart => exact ⟨0, Nat.zero_le _, rfl, ⟨_, own5⟩, ⟨_, ho6⟩, hbw6⟩
        case round =>
          clear own5 ho6 hbw6
          obtain ⟨q, hq, rfl, ⟨xs, own⟩, ⟨ys, owd⟩, hbx⟩ := hrel
          by_cases hlq : q < L
          · obtain ⟨g, rfl⟩ : ∃ g, a5 = some ⟨g, 0, none⟩ := own_some own (by omega)
            obtain ⟨g1, g2⟩ := hg5 g 0 rfl
            obtain ⟨u, hu⟩ : ∃ u, xs[q]? = some u := ⟨xs[q]'(by have := own.1; omega), List.getElem?_eq_getElem _⟩
            have cc := own.cellAt q (by omega)
            rw [hu] at cc
            have fz := own.frozenAt q
            have OWN := Lib.hid own
            have OWD := Lib.hid owd
            have HBX := Lib.hid hbx
            clear own owd hbx hu
            go_wp2
            go_roundw
            case rel =>
              exact ⟨q + 1, by omega, by go_num, ⟨_, (OWN.out.stored q _).1⟩, ⟨_, OWD.out.kept (OWN.out.stored q _).2 (by have := OWD.out.lt; cases hv : (Value.slice a6 M c6).ownBlock with
                | none => exact Or.inl rfl
                | some k => exact Or.inr (by intro e; cases e; have := (this g hv).1; omega))⟩, HBX.out.setCell g1 _⟩
            case measure => simp [intOf]; omega
          · clear own
            go_wp2_with fail
            go_loopw [67] (fun i wx => ∃ q : Nat, q ≤ M ∧ i = .int .i64 q ∧ (∃ ys, wx.ownsRow w5.heap.size 5 1 (.slice a6 M c6) M ys) ∧ Below wq.heap.size wq wx) (fun i _ => M - (intOf i).toNat)
            case atStart => exact ⟨0, Nat.zero_le _, rfl, ⟨_, owd⟩, hbx⟩
            case round =>
              clear owd hbx hlq hq
              obtain ⟨q, hq, rfl, ⟨ys, own⟩, hbx⟩ := hrel
              by_cases hlq : q < M
              · obtain ⟨g, rfl⟩ : ∃ g, a6 = some ⟨g, 0, none⟩ := own_some own (by omega)
                have g1 : wq.heap.size ≤ g := by have := (own.lt g rfl).1; omega
                obtain ⟨u, hu⟩ : ∃ u, ys[q]? = some u := ⟨ys[q]'(by have := own.1; omega), List.getElem?_eq_getElem _⟩
                have cc := own.cellAt q (by omega)
                rw [hu] at cc
                have fz := own.frozenAt q
                have OWN := Lib.hid own
                have HBX := Lib.hid hbx
                clear own hbx hu
                go_wp2
                go_roundw
                case rel => exact ⟨q + 1, by omega, by go_num, ⟨_, (OWN.out.stored q _).1⟩, HBX.out.setCell g1 _⟩
                case measure => simp [intOf]; omega
              · clear own
                go_wp2
                go_roundw
                case rel => exact ⟨j + 1, by omega, by go_num, HBEL.out.trans (hbx.mono HBEL.out.size)⟩
                case measure => simp [intOf]; omega
    · as_aux_lemma =>
        obtain rfl : j = 1 + K := by omega
        have hr := two_later HS4.out hbel (Nat.lt_of_succ_lt hz1) hz1
        obtain ⟨w7, k7, hcv, lk7, mk7, hat7, hb7⟩ := bytes_new wr sp (vI (podEnc p)) (allB_pod p).bytes HSP.out (by rw [vI_len, HL.out]; unfold maxLen at m2 ⊢; omega)
        have hpr := HP1.out.below hr.1
        have HBR := Lib.hid ((hr.1.block w.heap.size (Nat.lt_of_succ_lt hz1)).trans HBK.out)
        have hbwr := hbw1.trans (hr.1.mono hbw1.size)
        have hl0 : (vI (podEnc p)).length = L := by rw [vI_len]; exact HL.out
        have hcase : getPodR (vI (podEnc p)) = some p ∨ getPodR (vI (podEnc p)) = none := by
          cases hpb : podB p
          · have henc : podEnc p = [] := by unfold podEnc; rw [hpb]; rfl
            exact Or.inr (by rw [henc]; exact getPod_nil)
          · have henc : podEnc p = podBytes p := by unfold podEnc; rw [hpb]; rfl
            exact Or.inl (by rw [henc]; exact pod_back hpb ht.out)
        have hby := (allB_pod p).bytes
        have hstr := HSP.out
        generalize vI (podEnc p) = l0 at hcv lk7 hat7 hl0 hcase hby hstr
        subst hl0
        have HLM : Hid (l0.length ≤ maxLen) := by show _ ≤ _; omega
        have HSTR := Lib.hid hstr
        have HBW := Lib.hid hbwr
        have HPR := Lib.hid hpr
        have hA := hr.2.1
        have hzr : w.heap.size + 1 < wr.heap.size := Nat.lt_of_lt_of_le hz1 hr.1.size
        clear HL HSP HSN HM hstr hr hbel hj hlt HA1 HA2 HP1 HN1 HS4 hbw1 hbwr hpr l2 m2 l3 m3
        rcases hcase with hg | hg
        · have HG := Lib.hid hg
          clear hg
          go_wp2_with fail
          refine Calls.mono (getPod_v _ l0 _ _ _ rfl hat7 lk7 mk7) ?_
          intro e w8 hpost
          rw [HG.out] at hpost
          rcases hpost with ⟨p', h2, hpk, rfl, ho8, hb8⟩ | ⟨hx, _⟩
          rotate_left
          · exact absurd hx (by simp)
          obtain rfl : p = p' := Option.some.inj hpk
          clear hpk hcv hat7
          have hA8 : ∀ o, w8.cell? ⟨w.heap.size, o, none⟩ = (podC p h)[o]? := fun o => (hb8.cell (p := ⟨w.heap.size, o, none⟩) (by have := hb7.size; show w.heap.size < _; omega)).trans ((hb7.cell (p := ⟨w.heap.size, o, none⟩) (by show w.heap.size < _; omega)).trans (hA o))
          have hb78 := hb7.trans (hb8.mono hb7.size)
          obtain ⟨Ls, La, Le, e1, e2', e3', hrows⟩ := ho8
          obtain ⟨pa2, pc2, la2, lc2, sa2, sc2, ta2, tc2, aa2, ac2, ea2, ec2⟩ := h2
          have rl : w8.ownsRow w7.heap.size 64 2 (.slice la2 p.labels.length lc2) p.labels.length (p.labels.flatMap fun x : Str2 => [Value.string x.1, Value.string x.2]) := hrows (rowP 64 la2 lc2 p.labels) (by simp [podRows])
          have n63 : p.labels.length ≤ 9223372036854775807 := HPR.out.labn
          have hgl : ∀ g off, la2 = some ⟨g, off, none⟩ → w7.heap.size ≤ g ∧ g < w8.heap.size := fun g off e => rl.lt g (by subst e; rfl)
          have hZ8 := hb8.size
          clear hrows e1 e2' e3'
          go_wp2_with fail
          go_loopw [83] (fun i wx => ∃ q : Nat, q ≤ p.labels.length ∧ i = .int .i64 q ∧ (∃ xs, wx.ownsRow w7.heap.size 64 2 (.slice la2 p.labels.length lc2) p.labels.length xs) ∧ (∀ o, wx.cell? ⟨w8.heap.size, o, none⟩ = (podC p ⟨pa2, pc2, la2, lc2, sa2, sc2, ta2, tc2, aa2, ac2, ea2, ec2⟩)[o]?) ∧ w8.heap.size < wx.heap.size ∧ Below w7.heap.size w7 wx) (fun i _ => p.labels.length - (intOf i).toNat)
          case atStart => exact ⟨0, Nat.zero_le _, rfl, ⟨_, rl.alloc _⟩, fun o => by rw [cell_of_obj (heap_alloc_self w8 _)], by simp, hb8.alloc hZ8 _⟩
          case round =>
            clear rl
            obtain ⟨q, hq, rfl, ⟨xs, own⟩, hX, hzx, hbx⟩ := hrel
            by_cases hlq : q < p.labels.length
            · obtain ⟨g, rfl⟩ : ∃ g, la2 = some ⟨g, 0, none⟩ := own_some own (by omega)
              obtain ⟨g1, g2⟩ := hgl g 0 rfl
              obtain ⟨u, hu⟩ : ∃ u, xs[q * 2 + 1]? = some u := ⟨xs[q * 2 + 1]'(by have := own.1; omega), List.getElem?_eq_getElem _⟩
              have cc := own.cellAt (q * 2 + 1) (by omega)
              rw [hu] at cc
              have fz := own.frozenAt (q * 2 + 1)
              have OWN := Lib.hid own
              have HBX := Lib.hid hbx
              clear own hbx hu hA8 hA
              go_wp2
              go_roundw
              case rel => exact ⟨q + 1, by omega, by go_num, ⟨_, (OWN.out.stored (q * 2 + 1) _).1⟩, fun o => ((OWN.out.stored (q * 2 + 1) _).2.cell_far ⟨w8.heap.size, o, none⟩ hzx (fun e => by have e : w8.heap.size = g := Option.some.inj e; omega)).trans (hX o), by simp; omega, HBX.out.setCell g1 _⟩
              case measure => simp [intOf]; omega
            · clear own
              obtain ⟨w9, k9, hcv9, lk9, mk9, hat9, hb9⟩ := bytes_new wr sp l0 hby HSTR.out HLM.out
              have hbx9 := (hb7.trans (hbx.mono hb7.size)).trans (hb9.mono (hb7.trans (hbx.mono hb7.size)).size)
              clear hbx hb9 hA8 hb78 hX hb8
              go_wp2_with fail
              refine Calls.mono (getPod_v _ l0 _ _ _ rfl hat9 lk9 mk9) ?_
              intro e w10 hpost
              rw [HG.out] at hpost
              rcases hpost with ⟨p', h3, hpk, rfl, ho10, hb10⟩ | ⟨hx, _⟩
              rotate_left
              · exact absurd hx (by simp)
              obtain rfl : p = p' := Option.some.inj hpk
              clear hpk hcv9 hat9
              have hbx10 := hbx9.trans (hb10.mono hbx9.size)
              have hA10 : ∀ o, w10.cell? ⟨w.heap.size, o, none⟩ = (podC p h)[o]? := fun o => (hbx10.cell (p := ⟨w.heap.size, o, none⟩) (by show w.heap.size < _; omega)).trans (hA o)
              have hz10 : w.heap.size < w10.heap.size := by have := hbx10.size; omega
              have HB10 := Lib.hid (((((Below.refl w10.heap.size w10).alloc (Nat.le_refl _) (podBox p h3)).block w.heap.size hz10).trans (hbx10.block w.heap.size (by omega))).trans HBR.out)
              have HX10 := Lib.hid (heap_alloc_self w10 (podBox p h3))
              have hp10 := (HPR.out.below hbx10).below ((Below.refl w10.heap.size w10).alloc (Nat.le_refl _) (podBox p h3))
              have hq10 := ho10.at.below ((Below.refl w10.heap.size w10).alloc (Nat.le_refl _) (podBox p h3))
              have hbw10 := HBW.out.trans ((hbx10.alloc hbx10.size (podBox p h3)).mono HBW.out.size)
              clear hbx9 hb10 hbx10 hA ho10 hA10 hz10
              go_wp2_with (first | (refine wpList_load_rowG (by first | rfl | kernel_rfl) 60 (.tmp 20) rfl w10.heap.size rfl 60 _ (0, 0) _ HX10.out Try.underlying60 rfl (by kernel_rfl) ?_) | (refine wpList_load_rowG (by first | rfl | kernel_rfl) 60 (.tmp 3) rfl w.heap.size rfl 60 _ (0, 0) _ HB10.out Try.underlying60 rfl (by kernel_rfl) ?_))
              refine Calls.mono (refPod_same p h3 h _ hq10 hp10) ?_
              rintro e w11 ⟨rfl, hb11⟩
              go_wp2
              go_ret
              exact ⟨rfl, hbw10.trans (hb11.mono hbw10.size)⟩
        · have HG := Lib.hid hg
          clear hg
          go_wp2_with fail
          refine Calls.mono (getPod_v _ l0 _ _ _ rfl hat7 lk7 mk7) ?_
          intro e w8 hpost
          rw [HG.out] at hpost
          rcases hpost with ⟨p', h2, hpk, _⟩ | ⟨_, rfl, hb8⟩
          · cases hpk
          clear hcv hat7
          have hz0 : ((zeroP.labels.length : Nat) : Int) = 0 := rfl
          generalize zeroP = p0 at hz0
          generalize zeroH = h0
          have hb78 := hb7.trans (hb8.mono hb7.size)
          obtain ⟨w9, k9, hcv9, lk9, mk9, hat9, hb9⟩ := bytes_new (w8.alloc (podBox p0 h0)) sp l0 hby HSTR.out HLM.out
          have hbx9 := (hb78.alloc hb78.size (podBox p0 h0)).trans (hb9.mono (by have := hb78.size; simp; omega))
          rw [alloc_size] at hat9
          clear hb9 hb78 hb8
          go_wp2_with fail
          go_loopw [83] (fun i wx => i = .int .i64 0 ∧ wx = w8.alloc (podBox p0 h0)) (fun i _ => 0)
          case atStart => exact ⟨rfl, rfl⟩
          case round =>
            obtain ⟨rfl, rfl⟩ := hrel
            go_wp2_with fail
            refine Calls.mono (getPod_v _ l0 _ _ _ rfl hat9 lk9 mk9) ?_
            intro e w10 hpost
            rw [HG.out] at hpost
            rcases hpost with ⟨p', h2, hpk, _⟩ | ⟨_, rfl, hb10⟩
            · cases hpk
            have hbw10 := HBW.out.trans ((hbx9.trans (hb10.mono hbx9.size)).mono HBW.out.size)
            generalize zeroP = p1
            generalize zeroH = h1
            go_wp2
            go_ret
            exact ⟨rfl, hbw10.alloc hbw10.size _⟩
end Go.Proofs.Ytnimplldkambhaa
