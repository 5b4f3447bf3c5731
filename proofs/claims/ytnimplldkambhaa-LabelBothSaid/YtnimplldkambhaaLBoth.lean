/-
  The law LabelBoth's walk. No conditions beyond what is written in each statement.
-/
import Derived.Test.YtnimplldkambhaaLApp
set_option linter.unusedSimpArgs false
set_option linter.unusedVariables false
namespace Go.Proofs.Ytnimplldkambhaa
open Go.RowKit

theorem match_app (x y : List Trm) (l : List Str2) : matchB (x ++ y) l = (matchB x l && matchB y l) := by simp [matchB]

set_option maxRecDepth 100000 in
set_option maxHeartbeats 4000000 in
theorem labelBoth_walk (a : Option Addr) (l : List Str2) (cap : Nat) (b : Option Addr) (x : List Trm) (cb : Nat) (c : Option Addr) (y : List Trm) (cc : Nat) (w : World) (hl : At2 w a l) (hx : AtT w b x) (hy : AtT w c y) (h1 : l.length ≤ cap) (h2 : x.length ≤ cb) (h3 : y.length ≤ cc)
    (m1 : cap ≤ maxLen) (m2 : cb ≤ maxLen) (m3 : cc ≤ maxLen) (n2 : b = none → cb = 0) (n3 : c = none → cc = 0) :
    Calls Try.prog 7 #[.slice a l.length cap, .slice b x.length cb, .slice c y.length cc] w fun e w' => e = .returned (.bool true) ∧ Below w.heap.size w w' := by
  obtain ⟨ml, eml, iml, jml, kml⟩ := cut_of l 6
  have aml := hl.take 6
  rw [← eml] at aml
  have cml : ml.length ≤ cap := by omega
  simp only [Int.cast_ofNat_Int] at iml
  clear eml jml
  obtain ⟨mx, emx, imx, jmx, kmx⟩ := cut_of x 4
  have amx := hx.take 4
  rw [← emx] at amx
  have cmx : mx.length ≤ cb := by omega
  simp only [Int.cast_ofNat_Int] at imx
  clear emx jmx
  obtain ⟨my, emy, imy, jmy, kmy⟩ := cut_of y 4
  have amy := hy.take 4
  rw [← emy] at amy
  have cmy : my.length ≤ cc := by omega
  simp only [Int.cast_ofNat_Int] at imy
  clear emy jmy
  clear h1 h2 h3 m1 m2 m3 hl hx hy
  obtain ⟨iT, hiT, zT0, zT1, zT2⟩ := info_parts infoT2
  go_enter Try.func7, Try.ntmps7
  go_wp2_with fail
  refine (begun_any _).mono ?_
  rintro e w1 ⟨rfl, hbw1⟩
  go_wp2_with fail
  go_region
  go_wp2_with (at_builtin; refine stand ?_)
  obtain ⟨L2, e2, k2, q2⟩ := newsT (amx.below hbw1)
  have l2 : L2.length = mx.length := by rw [← e2, List.length_map]
  show wpList _ _ _ _ _ _
  refine wpList_append_opt rfl _ _ 33 rfl w1.heap.size 44 iT _ 3 48 Try.underlying33 hiT zT0 zT1 zT2 rfl (by decide) (.slice none 0 0) 0 [] rfl (World.ownsRow_nil _ _ 44 3) b mx.length cb (L2.flatMap cellsT) rfl (fun h => by have := n2 h; omega) (by rw [flat_len (sz := 3) (fun _ => rfl), l2]) (fun d hd j u hu => cell_laterA (by first | exact ((Below.refl w1.heap.size w1).alloc (Below.refl w1.heap.size w1).size _).drew | exact (Below.refl w1.heap.size w1).alloc (Below.refl w1.heap.size w1).size _ | exact (Below.refl w1.heap.size w1).drew | exact (Below.refl w1.heap.size w1) | exact below_drewN ((Below.refl w1.heap.size w1).alloc (Below.refl w1.heap.size w1).size _) _) (q2 d hd j u hu)) (oneT _) (by unfold maxLen; omega) (by omega) (by have := ((Below.refl w1.heap.size w1)).size; simp; try omega) ?_
  intro v2 w2 o2 g2
  have b2 : Below w1.heap.size w1 w2 := Below.trans (by first | exact ((Below.refl w1.heap.size w1).alloc (Below.refl w1.heap.size w1).size _).drew | exact (Below.refl w1.heap.size w1).alloc (Below.refl w1.heap.size w1).size _ | exact (Below.refl w1.heap.size w1).drew | exact (Below.refl w1.heap.size w1) | exact below_drewN ((Below.refl w1.heap.size w1).alloc (Below.refl w1.heap.size w1).size _) _) (grown_below g2 (World.ownsRow_nil _ _ 44 3) (by have := ((Below.refl w1.heap.size w1)).size; simp; try omega))
  clear q2 g2
  go_wp2_with (at_builtin; refine stand ?_)
  obtain ⟨L3, e3, k3, q3⟩ := newsT (amy.below hbw1)
  have l3 : L3.length = my.length := by rw [← e3, List.length_map]
  show wpList _ _ _ _ _ _
  refine wpList_append_opt rfl _ _ 33 rfl w1.heap.size 44 iT _ 3 48 Try.underlying33 hiT zT0 zT1 zT2 rfl (by decide) v2 (0 + mx.length) ([] ++ L2.flatMap cellsT) rfl o2 c my.length cc (L3.flatMap cellsT) rfl (fun h => by have := n3 h; omega) (by rw [flat_len (sz := 3) (fun _ => rfl), l3]) (fun d hd j u hu => cell_laterA (by first | exact (b2.alloc b2.size _).drew | exact b2.alloc b2.size _ | exact b2.drew | exact b2 | exact below_drewN (b2.alloc b2.size _) _) (q3 d hd j u hu)) (oneT _) (by unfold maxLen; omega) (by omega) (by have := (b2).size; simp; try omega) ?_
  intro v3 w3 o3 g3
  have b3 : Below w1.heap.size w1 w3 := Below.trans (by first | exact (b2.alloc b2.size _).drew | exact b2.alloc b2.size _ | exact b2.drew | exact b2 | exact below_drewN (b2.alloc b2.size _) _) (grown_below g3 o2 (by have := (b2).size; simp; try omega))
  clear q3 g3
  have hbw3 := hbw1.trans (b3.mono hbw1.size)
  obtain ⟨pa, pc, rfl, _, _, _⟩ := own_len o3
  have hboth : AtT w3 pa (mx ++ my) := by
    have := own_atT (L := L2 ++ L3) (by simpa using o3) (by simp [l2, l3]) ((k2.below b3).app (k3.below b3))
    simpa [e2, e3] using this
  clear o2 o3 k2 k3 l2 l3 e2 e3 b2 b3
  go_wp2_with (at_builtin; refine stand ?_)
  obtain ⟨L4, e4, k4, q4⟩ := newsT (amy.below hbw3)
  have l4 : L4.length = my.length := by rw [← e4, List.length_map]
  show wpList _ _ _ _ _ _
  refine wpList_append_opt rfl _ _ 33 rfl w3.heap.size 44 iT _ 3 48 Try.underlying33 hiT zT0 zT1 zT2 rfl (by decide) (.slice none 0 0) 0 [] rfl (World.ownsRow_nil _ _ 44 3) c my.length cc (L4.flatMap cellsT) rfl (fun h => by have := n3 h; omega) (by rw [flat_len (sz := 3) (fun _ => rfl), l4]) (fun d hd j u hu => cell_laterA (by first | exact ((Below.refl w3.heap.size w3).alloc (Below.refl w3.heap.size w3).size _).drew | exact (Below.refl w3.heap.size w3).alloc (Below.refl w3.heap.size w3).size _ | exact (Below.refl w3.heap.size w3).drew | exact (Below.refl w3.heap.size w3) | exact below_drewN ((Below.refl w3.heap.size w3).alloc (Below.refl w3.heap.size w3).size _) _) (q4 d hd j u hu)) (oneT _) (by unfold maxLen; omega) (by omega) (by have := ((Below.refl w3.heap.size w3)).size; simp; try omega) ?_
  intro v4 w4 o4 g4
  have b4 : Below w3.heap.size w3 w4 := Below.trans (by first | exact ((Below.refl w3.heap.size w3).alloc (Below.refl w3.heap.size w3).size _).drew | exact (Below.refl w3.heap.size w3).alloc (Below.refl w3.heap.size w3).size _ | exact (Below.refl w3.heap.size w3).drew | exact (Below.refl w3.heap.size w3) | exact below_drewN ((Below.refl w3.heap.size w3).alloc (Below.refl w3.heap.size w3).size _) _) (grown_below g4 (World.ownsRow_nil _ _ 44 3) (by have := ((Below.refl w3.heap.size w3)).size; simp; try omega))
  clear q4 g4
  go_wp2_with (at_builtin; refine stand ?_)
  obtain ⟨L5, e5, k5, q5⟩ := newsT (amx.below hbw3)
  have l5 : L5.length = mx.length := by rw [← e5, List.length_map]
  show wpList _ _ _ _ _ _
  refine wpList_append_opt rfl _ _ 33 rfl w3.heap.size 44 iT _ 3 48 Try.underlying33 hiT zT0 zT1 zT2 rfl (by decide) v4 (0 + my.length) ([] ++ L4.flatMap cellsT) rfl o4 b mx.length cb (L5.flatMap cellsT) rfl (fun h => by have := n2 h; omega) (by rw [flat_len (sz := 3) (fun _ => rfl), l5]) (fun d hd j u hu => cell_laterA (by first | exact (b4.alloc b4.size _).drew | exact b4.alloc b4.size _ | exact b4.drew | exact b4 | exact below_drewN (b4.alloc b4.size _) _) (q5 d hd j u hu)) (oneT _) (by unfold maxLen; omega) (by omega) (by have := (b4).size; simp; try omega) ?_
  intro v5 w5 o5 g5
  have b5 : Below w3.heap.size w3 w5 := Below.trans (by first | exact (b4.alloc b4.size _).drew | exact b4.alloc b4.size _ | exact b4.drew | exact b4 | exact below_drewN (b4.alloc b4.size _) _) (grown_below g5 o4 (by have := (b4).size; simp; try omega))
  clear q5 g5
  have hbw5 := hbw3.trans (b5.mono hbw3.size)
  obtain ⟨qa, qc, rfl, _, _, _⟩ := own_len o5
  have hturn : AtT w5 qa (my ++ mx) := by
    have := own_atT (L := L4 ++ L5) (by simpa using o5) (by simp [l4, l5]) ((k4.below b5).app (k5.below b5))
    simpa [e4, e5] using this
  have hboth := hboth.below b5
  clear o4 o5 k4 k5 l4 l5 e4 e5 b4 b5
  clear n2 n3 cmx cmy imx imy iml cml hiT zT0 zT1 zT2 hbw1 hbw3
  have B5 := Below.refl w5.heap.size w5
  have hax := amx.below hbw5
  have hay := amy.below hbw5
  clear amx amy
  cases hA : matchB mx ml
  · go_wp2_with (at_builtin; refine stand ?_)
    refine Calls.mono (match_v b mx mx.length cb a ml cap _ (v := false) (by simp; try omega) hA (AtT.below hax (by first | exact (B5.alloc B5.size _).drew | exact B5.alloc B5.size _ | exact B5.drew | exact B5 | exact below_drewN (B5.alloc B5.size _) _)) (aml.below (by first | exact (hbw5.alloc hbw5.size _).drew | exact hbw5.alloc hbw5.size _ | exact hbw5.drew | exact hbw5 | exact below_drewN (hbw5.alloc hbw5.size _) _)) kml) ?_
    rintro e w6 ⟨rfl, hb6⟩
    have hbw6 : Below w.heap.size w w6 := Below.trans (by first | exact (hbw5.alloc hbw5.size _).drew | exact hbw5.alloc hbw5.size _ | exact hbw5.drew | exact hbw5 | exact below_drewN (hbw5.alloc hbw5.size _) _) (hb6.mono (by have := hbw5.size; simp; try omega))
    have B6 : Below w5.heap.size w5 w6 := Below.trans (by first | exact (B5.alloc B5.size _).drew | exact B5.alloc B5.size _ | exact B5.drew | exact B5 | exact below_drewN (B5.alloc B5.size _) _) (hb6.mono (by have := B5.size; simp; try omega))
    clear hb6 hbw5 B5
    go_wp2_with (at_builtin; refine stand ?_)
    refine Calls.mono (match_v pa (mx ++ my) (mx.length + my.length) pc a ml cap _ (v := false) (by simp; try omega) (by rw [match_app, hA]; rfl) (AtT.below hboth (by first | exact (B6.alloc B6.size _).drew | exact B6.alloc B6.size _ | exact B6.drew | exact B6 | exact below_drewN (B6.alloc B6.size _) _)) (aml.below (by first | exact (hbw6.alloc hbw6.size _).drew | exact hbw6.alloc hbw6.size _ | exact hbw6.drew | exact hbw6 | exact below_drewN (hbw6.alloc hbw6.size _) _)) kml) ?_
    rintro e w7 ⟨rfl, hb7⟩
    have hbw7 : Below w.heap.size w w7 := Below.trans (by first | exact (hbw6.alloc hbw6.size _).drew | exact hbw6.alloc hbw6.size _ | exact hbw6.drew | exact hbw6 | exact below_drewN (hbw6.alloc hbw6.size _) _) (hb7.mono (by have := hbw6.size; simp; try omega))
    have B7 : Below w5.heap.size w5 w7 := Below.trans (by first | exact (B6.alloc B6.size _).drew | exact B6.alloc B6.size _ | exact B6.drew | exact B6 | exact below_drewN (B6.alloc B6.size _) _) (hb7.mono (by have := B6.size; simp; try omega))
    clear hb7 hbw6 B6
    go_wp2_with (at_builtin; refine stand ?_)
    refine Calls.mono (match_v qa (my ++ mx) (my.length + mx.length) qc a ml cap _ (v := false) (by simp; try omega) (by rw [match_app, hA]; simp) (AtT.below hturn (by first | exact (B7.alloc B7.size _).drew | exact B7.alloc B7.size _ | exact B7.drew | exact B7 | exact below_drewN (B7.alloc B7.size _) _)) (aml.below (by first | exact (hbw7.alloc hbw7.size _).drew | exact hbw7.alloc hbw7.size _ | exact hbw7.drew | exact hbw7 | exact below_drewN (hbw7.alloc hbw7.size _) _)) kml) ?_
    rintro e w8 ⟨rfl, hb8⟩
    have hbw8 : Below w.heap.size w w8 := Below.trans (by first | exact (hbw7.alloc hbw7.size _).drew | exact hbw7.alloc hbw7.size _ | exact hbw7.drew | exact hbw7 | exact below_drewN (hbw7.alloc hbw7.size _) _) (hb8.mono (by have := hbw7.size; simp; try omega))
    have B8 : Below w5.heap.size w5 w8 := Below.trans (by first | exact (B7.alloc B7.size _).drew | exact B7.alloc B7.size _ | exact B7.drew | exact B7 | exact below_drewN (B7.alloc B7.size _) _) (hb8.mono (by have := B7.size; simp; try omega))
    clear hb8 hbw7 B7
    go_wp2
    go_ret
    exact ⟨rfl, hbw8⟩
  · cases hB : matchB my ml
    · go_wp2_with (at_builtin; refine stand ?_)
      refine Calls.mono (match_v b mx mx.length cb a ml cap _ (v := true) (by simp; try omega) hA (AtT.below hax (by first | exact (B5.alloc B5.size _).drew | exact B5.alloc B5.size _ | exact B5.drew | exact B5 | exact below_drewN (B5.alloc B5.size _) _)) (aml.below (by first | exact (hbw5.alloc hbw5.size _).drew | exact hbw5.alloc hbw5.size _ | exact hbw5.drew | exact hbw5 | exact below_drewN (hbw5.alloc hbw5.size _) _)) kml) ?_
      rintro e w6 ⟨rfl, hb6⟩
      have hbw6 : Below w.heap.size w w6 := Below.trans (by first | exact (hbw5.alloc hbw5.size _).drew | exact hbw5.alloc hbw5.size _ | exact hbw5.drew | exact hbw5 | exact below_drewN (hbw5.alloc hbw5.size _) _) (hb6.mono (by have := hbw5.size; simp; try omega))
      have B6 : Below w5.heap.size w5 w6 := Below.trans (by first | exact (B5.alloc B5.size _).drew | exact B5.alloc B5.size _ | exact B5.drew | exact B5 | exact below_drewN (B5.alloc B5.size _) _) (hb6.mono (by have := B5.size; simp; try omega))
      clear hb6 hbw5 B5
      go_wp2_with (at_builtin; refine stand ?_)
      refine Calls.mono (match_v c my my.length cc a ml cap _ (v := false) (by simp; try omega) hB (AtT.below hay (by first | exact (B6.alloc B6.size _).drew | exact B6.alloc B6.size _ | exact B6.drew | exact B6 | exact below_drewN (B6.alloc B6.size _) _)) (aml.below (by first | exact (hbw6.alloc hbw6.size _).drew | exact hbw6.alloc hbw6.size _ | exact hbw6.drew | exact hbw6 | exact below_drewN (hbw6.alloc hbw6.size _) _)) kml) ?_
      rintro e w7 ⟨rfl, hb7⟩
      have hbw7 : Below w.heap.size w w7 := Below.trans (by first | exact (hbw6.alloc hbw6.size _).drew | exact hbw6.alloc hbw6.size _ | exact hbw6.drew | exact hbw6 | exact below_drewN (hbw6.alloc hbw6.size _) _) (hb7.mono (by have := hbw6.size; simp; try omega))
      have B7 : Below w5.heap.size w5 w7 := Below.trans (by first | exact (B6.alloc B6.size _).drew | exact B6.alloc B6.size _ | exact B6.drew | exact B6 | exact below_drewN (B6.alloc B6.size _) _) (hb7.mono (by have := B6.size; simp; try omega))
      clear hb7 hbw6 B6
      go_wp2_with (at_builtin; refine stand ?_)
      refine Calls.mono (match_v pa (mx ++ my) (mx.length + my.length) pc a ml cap _ (v := false) (by simp; try omega) (by rw [match_app, hB]; simp) (AtT.below hboth (by first | exact (B7.alloc B7.size _).drew | exact B7.alloc B7.size _ | exact B7.drew | exact B7 | exact below_drewN (B7.alloc B7.size _) _)) (aml.below (by first | exact (hbw7.alloc hbw7.size _).drew | exact hbw7.alloc hbw7.size _ | exact hbw7.drew | exact hbw7 | exact below_drewN (hbw7.alloc hbw7.size _) _)) kml) ?_
      rintro e w8 ⟨rfl, hb8⟩
      have hbw8 : Below w.heap.size w w8 := Below.trans (by first | exact (hbw7.alloc hbw7.size _).drew | exact hbw7.alloc hbw7.size _ | exact hbw7.drew | exact hbw7 | exact below_drewN (hbw7.alloc hbw7.size _) _) (hb8.mono (by have := hbw7.size; simp; try omega))
      have B8 : Below w5.heap.size w5 w8 := Below.trans (by first | exact (B7.alloc B7.size _).drew | exact B7.alloc B7.size _ | exact B7.drew | exact B7 | exact below_drewN (B7.alloc B7.size _) _) (hb8.mono (by have := B7.size; simp; try omega))
      clear hb8 hbw7 B7
      go_wp2_with (at_builtin; refine stand ?_)
      refine Calls.mono (match_v qa (my ++ mx) (my.length + mx.length) qc a ml cap _ (v := false) (by simp; try omega) (by rw [match_app, hB]; rfl) (AtT.below hturn (by first | exact (B8.alloc B8.size _).drew | exact B8.alloc B8.size _ | exact B8.drew | exact B8 | exact below_drewN (B8.alloc B8.size _) _)) (aml.below (by first | exact (hbw8.alloc hbw8.size _).drew | exact hbw8.alloc hbw8.size _ | exact hbw8.drew | exact hbw8 | exact below_drewN (hbw8.alloc hbw8.size _) _)) kml) ?_
      rintro e w9 ⟨rfl, hb9⟩
      have hbw9 : Below w.heap.size w w9 := Below.trans (by first | exact (hbw8.alloc hbw8.size _).drew | exact hbw8.alloc hbw8.size _ | exact hbw8.drew | exact hbw8 | exact below_drewN (hbw8.alloc hbw8.size _) _) (hb9.mono (by have := hbw8.size; simp; try omega))
      have B9 : Below w5.heap.size w5 w9 := Below.trans (by first | exact (B8.alloc B8.size _).drew | exact B8.alloc B8.size _ | exact B8.drew | exact B8 | exact below_drewN (B8.alloc B8.size _) _) (hb9.mono (by have := B8.size; simp; try omega))
      clear hb9 hbw8 B8
      go_wp2
      go_ret
      exact ⟨rfl, hbw9⟩
    · go_wp2_with (at_builtin; refine stand ?_)
      refine Calls.mono (match_v b mx mx.length cb a ml cap _ (v := true) (by simp; try omega) hA (AtT.below hax (by first | exact (B5.alloc B5.size _).drew | exact B5.alloc B5.size _ | exact B5.drew | exact B5 | exact below_drewN (B5.alloc B5.size _) _)) (aml.below (by first | exact (hbw5.alloc hbw5.size _).drew | exact hbw5.alloc hbw5.size _ | exact hbw5.drew | exact hbw5 | exact below_drewN (hbw5.alloc hbw5.size _) _)) kml) ?_
      rintro e w6 ⟨rfl, hb6⟩
      have hbw6 : Below w.heap.size w w6 := Below.trans (by first | exact (hbw5.alloc hbw5.size _).drew | exact hbw5.alloc hbw5.size _ | exact hbw5.drew | exact hbw5 | exact below_drewN (hbw5.alloc hbw5.size _) _) (hb6.mono (by have := hbw5.size; simp; try omega))
      have B6 : Below w5.heap.size w5 w6 := Below.trans (by first | exact (B5.alloc B5.size _).drew | exact B5.alloc B5.size _ | exact B5.drew | exact B5 | exact below_drewN (B5.alloc B5.size _) _) (hb6.mono (by have := B5.size; simp; try omega))
      clear hb6 hbw5 B5
      go_wp2_with (at_builtin; refine stand ?_)
      refine Calls.mono (match_v c my my.length cc a ml cap _ (v := true) (by simp; try omega) hB (AtT.below hay (by first | exact (B6.alloc B6.size _).drew | exact B6.alloc B6.size _ | exact B6.drew | exact B6 | exact below_drewN (B6.alloc B6.size _) _)) (aml.below (by first | exact (hbw6.alloc hbw6.size _).drew | exact hbw6.alloc hbw6.size _ | exact hbw6.drew | exact hbw6 | exact below_drewN (hbw6.alloc hbw6.size _) _)) kml) ?_
      rintro e w7 ⟨rfl, hb7⟩
      have hbw7 : Below w.heap.size w w7 := Below.trans (by first | exact (hbw6.alloc hbw6.size _).drew | exact hbw6.alloc hbw6.size _ | exact hbw6.drew | exact hbw6 | exact below_drewN (hbw6.alloc hbw6.size _) _) (hb7.mono (by have := hbw6.size; simp; try omega))
      have B7 : Below w5.heap.size w5 w7 := Below.trans (by first | exact (B6.alloc B6.size _).drew | exact B6.alloc B6.size _ | exact B6.drew | exact B6 | exact below_drewN (B6.alloc B6.size _) _) (hb7.mono (by have := B6.size; simp; try omega))
      clear hb7 hbw6 B6
      go_wp2_with (at_builtin; refine stand ?_)
      refine Calls.mono (match_v pa (mx ++ my) (mx.length + my.length) pc a ml cap _ (v := true) (by simp; try omega) (by rw [match_app, hA, hB]; rfl) (AtT.below hboth (by first | exact (B7.alloc B7.size _).drew | exact B7.alloc B7.size _ | exact B7.drew | exact B7 | exact below_drewN (B7.alloc B7.size _) _)) (aml.below (by first | exact (hbw7.alloc hbw7.size _).drew | exact hbw7.alloc hbw7.size _ | exact hbw7.drew | exact hbw7 | exact below_drewN (hbw7.alloc hbw7.size _) _)) kml) ?_
      rintro e w8 ⟨rfl, hb8⟩
      have hbw8 : Below w.heap.size w w8 := Below.trans (by first | exact (hbw7.alloc hbw7.size _).drew | exact hbw7.alloc hbw7.size _ | exact hbw7.drew | exact hbw7 | exact below_drewN (hbw7.alloc hbw7.size _) _) (hb8.mono (by have := hbw7.size; simp; try omega))
      have B8 : Below w5.heap.size w5 w8 := Below.trans (by first | exact (B7.alloc B7.size _).drew | exact B7.alloc B7.size _ | exact B7.drew | exact B7 | exact below_drewN (B7.alloc B7.size _) _) (hb8.mono (by have := B7.size; simp; try omega))
      clear hb8 hbw7 B7
      go_wp2_with (at_builtin; refine stand ?_)
      refine Calls.mono (match_v qa (my ++ mx) (my.length + mx.length) qc a ml cap _ (v := true) (by simp; try omega) (by rw [match_app, hA, hB]; rfl) (AtT.below hturn (by first | exact (B8.alloc B8.size _).drew | exact B8.alloc B8.size _ | exact B8.drew | exact B8 | exact below_drewN (B8.alloc B8.size _) _)) (aml.below (by first | exact (hbw8.alloc hbw8.size _).drew | exact hbw8.alloc hbw8.size _ | exact hbw8.drew | exact hbw8 | exact below_drewN (hbw8.alloc hbw8.size _) _)) kml) ?_
      rintro e w9 ⟨rfl, hb9⟩
      have hbw9 : Below w.heap.size w w9 := Below.trans (by first | exact (hbw8.alloc hbw8.size _).drew | exact hbw8.alloc hbw8.size _ | exact hbw8.drew | exact hbw8 | exact below_drewN (hbw8.alloc hbw8.size _) _) (hb9.mono (by have := hbw8.size; simp; try omega))
      have B9 : Below w5.heap.size w5 w9 := Below.trans (by first | exact (B8.alloc B8.size _).drew | exact B8.alloc B8.size _ | exact B8.drew | exact B8 | exact below_drewN (B8.alloc B8.size _) _) (hb9.mono (by have := B8.size; simp; try omega))
      clear hb9 hbw8 B8
      go_wp2
      go_ret
      exact ⟨rfl, hbw9⟩
end Go.Proofs.Ytnimplldkambhaa
