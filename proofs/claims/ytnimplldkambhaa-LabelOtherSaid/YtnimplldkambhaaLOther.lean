/-
  The law LabelOther's walk. No conditions beyond what is written in each statement.
-/
import Derived.Test.YtnimplldkambhaaLCut
set_option linter.unusedSimpArgs false
set_option linter.unusedVariables false
namespace Go.Proofs.Ytnimplldkambhaa
open Go.RowKit

set_option maxRecDepth 100000 in
set_option maxHeartbeats 4000000 in
theorem labelOther_walk (a : Option Addr) (l : List Str2) (cap : Nat) (key : ByteArray) (b : Option Addr) (v : List ByteArray) (cap' : Nat) (w : World) (hl : At2 w a l) (hv : At1 w b v) (h1 : l.length ≤ cap) (h2 : v.length ≤ cap') (h3 : cap ≤ maxLen) (h4 : cap' ≤ maxLen) :
    Calls Try.prog 6 #[.slice a l.length cap, .string key, .slice b v.length cap'] w fun e w' => e = .returned (.bool true) ∧ Below w.heap.size w w' := by
  obtain ⟨ml, eml, iml, jml, kml⟩ := cut_of l 6
  have aml := hl.take 6
  rw [← eml] at aml
  have cml : ml.length ≤ cap := by omega
  simp only [Int.cast_ofNat_Int] at iml
  clear eml jml
  obtain ⟨mv, emv, imv, jmv, kmv⟩ := cut_of v 6
  have amv := hv.take 6
  rw [← emv] at amv
  have cmv : mv.length ≤ cap' := by omega
  simp only [Int.cast_ofNat_Int] at imv
  clear emv jmv
  clear h1 h2 h3 h4 hl hv
  have k9 : holdsB key 9 [] ml = false := by simp [holdsB]
  cases hX : getOk ml key <;> cases hY : memB (getV ml key) mv
  · have k1 : holdsB key 1 mv ml = false := by simp [holdsB, hX]
    have k2 : holdsB key 2 mv ml = true := by simp [holdsB, hX]
    have k3 : holdsB key 3 [] ml = false := by simp [holdsB, hX]
    have k4 : holdsB key 4 [] ml = true := by simp [holdsB, hX]
    clear hX hY
    go_enter Try.func6, Try.ntmps6
    go_wp2_with fail
    refine (begun_any _).mono ?_
    rintro e w1 ⟨rfl, hbw1⟩
    go_wp2_with fail
    go_region
    go_wp2_with fail
    refine Calls.mono (match_v _ [⟨key, 1, mv⟩] 1 1 a ml cap _ rfl (match_1 _ _ _ _ |>.trans k1) (AtT.one (by simp) (by simp [go_sem]) (by simp [go_sem]) (by simp [go_sem]; first | exact ⟨rfl, rfl⟩ | rfl) (amv.below (by first | exact (hbw1.alloc hbw1.size _).drew | exact hbw1.alloc hbw1.size _ | exact hbw1.drew | exact hbw1 | exact below_drewN (hbw1.alloc hbw1.size _) _))) (aml.below (by first | exact (hbw1.alloc hbw1.size _).drew | exact hbw1.alloc hbw1.size _ | exact hbw1.drew | exact hbw1 | exact below_drewN (hbw1.alloc hbw1.size _) _)) kml) ?_
    rintro e w2 ⟨rfl, hb2⟩
    have hbw2 : Below w.heap.size w w2 := Below.trans (by first | exact (hbw1.alloc hbw1.size _).drew | exact hbw1.alloc hbw1.size _ | exact hbw1.drew | exact hbw1 | exact below_drewN (hbw1.alloc hbw1.size _) _) (hb2.mono (by have := hbw1.size; simp; omega))
    clear hb2 hbw1
    go_wp2_with fail
    refine Calls.mono (match_v _ [⟨key, 2, mv⟩] 1 1 a ml cap _ rfl (match_1 _ _ _ _ |>.trans k2) (AtT.one (by simp) (by simp [go_sem]) (by simp [go_sem]) (by simp [go_sem]; first | exact ⟨rfl, rfl⟩ | rfl) (amv.below (by first | exact (hbw2.alloc hbw2.size _).drew | exact hbw2.alloc hbw2.size _ | exact hbw2.drew | exact hbw2 | exact below_drewN (hbw2.alloc hbw2.size _) _))) (aml.below (by first | exact (hbw2.alloc hbw2.size _).drew | exact hbw2.alloc hbw2.size _ | exact hbw2.drew | exact hbw2 | exact below_drewN (hbw2.alloc hbw2.size _) _)) kml) ?_
    rintro e w3 ⟨rfl, hb3⟩
    have hbw3 : Below w.heap.size w w3 := Below.trans (by first | exact (hbw2.alloc hbw2.size _).drew | exact hbw2.alloc hbw2.size _ | exact hbw2.drew | exact hbw2 | exact below_drewN (hbw2.alloc hbw2.size _) _) (hb3.mono (by have := hbw2.size; simp; omega))
    clear hb3 hbw2
    go_wp2_with fail
    refine Calls.mono (match_v _ [⟨key, 3, []⟩] 1 1 a ml cap _ rfl (match_1 _ _ _ _ |>.trans k3) (AtT.one (by simp) (by simp [go_sem]) (by simp [go_sem]) (by simp [go_sem]; first | exact ⟨rfl, rfl⟩ | rfl) (At1.nil _)) (aml.below (by first | exact (hbw3.alloc hbw3.size _).drew | exact hbw3.alloc hbw3.size _ | exact hbw3.drew | exact hbw3 | exact below_drewN (hbw3.alloc hbw3.size _) _)) kml) ?_
    rintro e w4 ⟨rfl, hb4⟩
    have hbw4 : Below w.heap.size w w4 := Below.trans (by first | exact (hbw3.alloc hbw3.size _).drew | exact hbw3.alloc hbw3.size _ | exact hbw3.drew | exact hbw3 | exact below_drewN (hbw3.alloc hbw3.size _) _) (hb4.mono (by have := hbw3.size; simp; omega))
    clear hb4 hbw3
    go_wp2_with fail
    refine Calls.mono (match_v _ [⟨key, 4, []⟩] 1 1 a ml cap _ rfl (match_1 _ _ _ _ |>.trans k4) (AtT.one (by simp) (by simp [go_sem]) (by simp [go_sem]) (by simp [go_sem]; first | exact ⟨rfl, rfl⟩ | rfl) (At1.nil _)) (aml.below (by first | exact (hbw4.alloc hbw4.size _).drew | exact hbw4.alloc hbw4.size _ | exact hbw4.drew | exact hbw4 | exact below_drewN (hbw4.alloc hbw4.size _) _)) kml) ?_
    rintro e w5 ⟨rfl, hb5⟩
    have hbw5 : Below w.heap.size w w5 := Below.trans (by first | exact (hbw4.alloc hbw4.size _).drew | exact hbw4.alloc hbw4.size _ | exact hbw4.drew | exact hbw4 | exact below_drewN (hbw4.alloc hbw4.size _) _) (hb5.mono (by have := hbw4.size; simp; omega))
    clear hb5 hbw4
    go_wp2_with fail
    refine Calls.mono (match_v _ [] 0 0 a ml cap _ rfl (v := true) rfl (AtT.nil _ _) (aml.below (by first | exact (hbw5.alloc hbw5.size _).drew | exact hbw5.alloc hbw5.size _ | exact hbw5.drew | exact hbw5 | exact below_drewN (hbw5.alloc hbw5.size _) _)) kml) ?_
    rintro e w6 ⟨rfl, hb6⟩
    have hbw6 : Below w.heap.size w w6 := Below.trans (by first | exact (hbw5.alloc hbw5.size _).drew | exact hbw5.alloc hbw5.size _ | exact hbw5.drew | exact hbw5 | exact below_drewN (hbw5.alloc hbw5.size _) _) (hb6.mono (by have := hbw5.size; simp; try omega))
    clear hb6 hbw5
    go_wp2_with fail
    refine Calls.mono (match_v _ [⟨key, 9, []⟩] 1 1 a ml cap _ rfl (match_1 _ _ _ _ |>.trans k9) (AtT.one (by simp) (by simp [go_sem]) (by simp [go_sem]) (by simp [go_sem]; first | exact ⟨rfl, rfl⟩ | rfl) (At1.nil _)) (aml.below (by first | exact (hbw6.alloc hbw6.size _).drew | exact hbw6.alloc hbw6.size _ | exact hbw6.drew | exact hbw6 | exact below_drewN (hbw6.alloc hbw6.size _) _)) kml) ?_
    rintro e w7 ⟨rfl, hb7⟩
    have hbw7 : Below w.heap.size w w7 := Below.trans (by first | exact (hbw6.alloc hbw6.size _).drew | exact hbw6.alloc hbw6.size _ | exact hbw6.drew | exact hbw6 | exact below_drewN (hbw6.alloc hbw6.size _) _) (hb7.mono (by have := hbw6.size; simp; omega))
    clear hb7 hbw6
    go_wp2
    go_ret
    exact ⟨rfl, hbw7⟩
  · have k1 : holdsB key 1 mv ml = false := by simp [holdsB, hX]
    have k2 : holdsB key 2 mv ml = true := by simp [holdsB, hX]
    have k3 : holdsB key 3 [] ml = false := by simp [holdsB, hX]
    have k4 : holdsB key 4 [] ml = true := by simp [holdsB, hX]
    clear hX hY
    go_enter Try.func6, Try.ntmps6
    go_wp2_with fail
    refine (begun_any _).mono ?_
    rintro e w1 ⟨rfl, hbw1⟩
    go_wp2_with fail
    go_region
    go_wp2_with fail
    refine Calls.mono (match_v _ [⟨key, 1, mv⟩] 1 1 a ml cap _ rfl (match_1 _ _ _ _ |>.trans k1) (AtT.one (by simp) (by simp [go_sem]) (by simp [go_sem]) (by simp [go_sem]; first | exact ⟨rfl, rfl⟩ | rfl) (amv.below (by first | exact (hbw1.alloc hbw1.size _).drew | exact hbw1.alloc hbw1.size _ | exact hbw1.drew | exact hbw1 | exact below_drewN (hbw1.alloc hbw1.size _) _))) (aml.below (by first | exact (hbw1.alloc hbw1.size _).drew | exact hbw1.alloc hbw1.size _ | exact hbw1.drew | exact hbw1 | exact below_drewN (hbw1.alloc hbw1.size _) _)) kml) ?_
    rintro e w2 ⟨rfl, hb2⟩
    have hbw2 : Below w.heap.size w w2 := Below.trans (by first | exact (hbw1.alloc hbw1.size _).drew | exact hbw1.alloc hbw1.size _ | exact hbw1.drew | exact hbw1 | exact below_drewN (hbw1.alloc hbw1.size _) _) (hb2.mono (by have := hbw1.size; simp; omega))
    clear hb2 hbw1
    go_wp2_with fail
    refine Calls.mono (match_v _ [⟨key, 2, mv⟩] 1 1 a ml cap _ rfl (match_1 _ _ _ _ |>.trans k2) (AtT.one (by simp) (by simp [go_sem]) (by simp [go_sem]) (by simp [go_sem]; first | exact ⟨rfl, rfl⟩ | rfl) (amv.below (by first | exact (hbw2.alloc hbw2.size _).drew | exact hbw2.alloc hbw2.size _ | exact hbw2.drew | exact hbw2 | exact below_drewN (hbw2.alloc hbw2.size _) _))) (aml.below (by first | exact (hbw2.alloc hbw2.size _).drew | exact hbw2.alloc hbw2.size _ | exact hbw2.drew | exact hbw2 | exact below_drewN (hbw2.alloc hbw2.size _) _)) kml) ?_
    rintro e w3 ⟨rfl, hb3⟩
    have hbw3 : Below w.heap.size w w3 := Below.trans (by first | exact (hbw2.alloc hbw2.size _).drew | exact hbw2.alloc hbw2.size _ | exact hbw2.drew | exact hbw2 | exact below_drewN (hbw2.alloc hbw2.size _) _) (hb3.mono (by have := hbw2.size; simp; omega))
    clear hb3 hbw2
    go_wp2_with fail
    refine Calls.mono (match_v _ [⟨key, 3, []⟩] 1 1 a ml cap _ rfl (match_1 _ _ _ _ |>.trans k3) (AtT.one (by simp) (by simp [go_sem]) (by simp [go_sem]) (by simp [go_sem]; first | exact ⟨rfl, rfl⟩ | rfl) (At1.nil _)) (aml.below (by first | exact (hbw3.alloc hbw3.size _).drew | exact hbw3.alloc hbw3.size _ | exact hbw3.drew | exact hbw3 | exact below_drewN (hbw3.alloc hbw3.size _) _)) kml) ?_
    rintro e w4 ⟨rfl, hb4⟩
    have hbw4 : Below w.heap.size w w4 := Below.trans (by first | exact (hbw3.alloc hbw3.size _).drew | exact hbw3.alloc hbw3.size _ | exact hbw3.drew | exact hbw3 | exact below_drewN (hbw3.alloc hbw3.size _) _) (hb4.mono (by have := hbw3.size; simp; omega))
    clear hb4 hbw3
    go_wp2_with fail
    refine Calls.mono (match_v _ [⟨key, 4, []⟩] 1 1 a ml cap _ rfl (match_1 _ _ _ _ |>.trans k4) (AtT.one (by simp) (by simp [go_sem]) (by simp [go_sem]) (by simp [go_sem]; first | exact ⟨rfl, rfl⟩ | rfl) (At1.nil _)) (aml.below (by first | exact (hbw4.alloc hbw4.size _).drew | exact hbw4.alloc hbw4.size _ | exact hbw4.drew | exact hbw4 | exact below_drewN (hbw4.alloc hbw4.size _) _)) kml) ?_
    rintro e w5 ⟨rfl, hb5⟩
    have hbw5 : Below w.heap.size w w5 := Below.trans (by first | exact (hbw4.alloc hbw4.size _).drew | exact hbw4.alloc hbw4.size _ | exact hbw4.drew | exact hbw4 | exact below_drewN (hbw4.alloc hbw4.size _) _) (hb5.mono (by have := hbw4.size; simp; omega))
    clear hb5 hbw4
    go_wp2_with fail
    refine Calls.mono (match_v _ [] 0 0 a ml cap _ rfl (v := true) rfl (AtT.nil _ _) (aml.below (by first | exact (hbw5.alloc hbw5.size _).drew | exact hbw5.alloc hbw5.size _ | exact hbw5.drew | exact hbw5 | exact below_drewN (hbw5.alloc hbw5.size _) _)) kml) ?_
    rintro e w6 ⟨rfl, hb6⟩
    have hbw6 : Below w.heap.size w w6 := Below.trans (by first | exact (hbw5.alloc hbw5.size _).drew | exact hbw5.alloc hbw5.size _ | exact hbw5.drew | exact hbw5 | exact below_drewN (hbw5.alloc hbw5.size _) _) (hb6.mono (by have := hbw5.size; simp; try omega))
    clear hb6 hbw5
    go_wp2_with fail
    refine Calls.mono (match_v _ [⟨key, 9, []⟩] 1 1 a ml cap _ rfl (match_1 _ _ _ _ |>.trans k9) (AtT.one (by simp) (by simp [go_sem]) (by simp [go_sem]) (by simp [go_sem]; first | exact ⟨rfl, rfl⟩ | rfl) (At1.nil _)) (aml.below (by first | exact (hbw6.alloc hbw6.size _).drew | exact hbw6.alloc hbw6.size _ | exact hbw6.drew | exact hbw6 | exact below_drewN (hbw6.alloc hbw6.size _) _)) kml) ?_
    rintro e w7 ⟨rfl, hb7⟩
    have hbw7 : Below w.heap.size w w7 := Below.trans (by first | exact (hbw6.alloc hbw6.size _).drew | exact hbw6.alloc hbw6.size _ | exact hbw6.drew | exact hbw6 | exact below_drewN (hbw6.alloc hbw6.size _) _) (hb7.mono (by have := hbw6.size; simp; omega))
    clear hb7 hbw6
    go_wp2
    go_ret
    exact ⟨rfl, hbw7⟩
  · have k1 : holdsB key 1 mv ml = false := by simp [holdsB, hX, hY]
    have k2 : holdsB key 2 mv ml = true := by simp [holdsB, hX, hY]
    have k3 : holdsB key 3 [] ml = true := by simp [holdsB, hX]
    have k4 : holdsB key 4 [] ml = false := by simp [holdsB, hX]
    clear hX hY
    go_enter Try.func6, Try.ntmps6
    go_wp2_with fail
    refine (begun_any _).mono ?_
    rintro e w1 ⟨rfl, hbw1⟩
    go_wp2_with fail
    go_region
    go_wp2_with fail
    refine Calls.mono (match_v _ [⟨key, 1, mv⟩] 1 1 a ml cap _ rfl (match_1 _ _ _ _ |>.trans k1) (AtT.one (by simp) (by simp [go_sem]) (by simp [go_sem]) (by simp [go_sem]; first | exact ⟨rfl, rfl⟩ | rfl) (amv.below (by first | exact (hbw1.alloc hbw1.size _).drew | exact hbw1.alloc hbw1.size _ | exact hbw1.drew | exact hbw1 | exact below_drewN (hbw1.alloc hbw1.size _) _))) (aml.below (by first | exact (hbw1.alloc hbw1.size _).drew | exact hbw1.alloc hbw1.size _ | exact hbw1.drew | exact hbw1 | exact below_drewN (hbw1.alloc hbw1.size _) _)) kml) ?_
    rintro e w2 ⟨rfl, hb2⟩
    have hbw2 : Below w.heap.size w w2 := Below.trans (by first | exact (hbw1.alloc hbw1.size _).drew | exact hbw1.alloc hbw1.size _ | exact hbw1.drew | exact hbw1 | exact below_drewN (hbw1.alloc hbw1.size _) _) (hb2.mono (by have := hbw1.size; simp; omega))
    clear hb2 hbw1
    go_wp2_with fail
    refine Calls.mono (match_v _ [⟨key, 2, mv⟩] 1 1 a ml cap _ rfl (match_1 _ _ _ _ |>.trans k2) (AtT.one (by simp) (by simp [go_sem]) (by simp [go_sem]) (by simp [go_sem]; first | exact ⟨rfl, rfl⟩ | rfl) (amv.below (by first | exact (hbw2.alloc hbw2.size _).drew | exact hbw2.alloc hbw2.size _ | exact hbw2.drew | exact hbw2 | exact below_drewN (hbw2.alloc hbw2.size _) _))) (aml.below (by first | exact (hbw2.alloc hbw2.size _).drew | exact hbw2.alloc hbw2.size _ | exact hbw2.drew | exact hbw2 | exact below_drewN (hbw2.alloc hbw2.size _) _)) kml) ?_
    rintro e w3 ⟨rfl, hb3⟩
    have hbw3 : Below w.heap.size w w3 := Below.trans (by first | exact (hbw2.alloc hbw2.size _).drew | exact hbw2.alloc hbw2.size _ | exact hbw2.drew | exact hbw2 | exact below_drewN (hbw2.alloc hbw2.size _) _) (hb3.mono (by have := hbw2.size; simp; omega))
    clear hb3 hbw2
    go_wp2_with fail
    refine Calls.mono (match_v _ [⟨key, 3, []⟩] 1 1 a ml cap _ rfl (match_1 _ _ _ _ |>.trans k3) (AtT.one (by simp) (by simp [go_sem]) (by simp [go_sem]) (by simp [go_sem]; first | exact ⟨rfl, rfl⟩ | rfl) (At1.nil _)) (aml.below (by first | exact (hbw3.alloc hbw3.size _).drew | exact hbw3.alloc hbw3.size _ | exact hbw3.drew | exact hbw3 | exact below_drewN (hbw3.alloc hbw3.size _) _)) kml) ?_
    rintro e w4 ⟨rfl, hb4⟩
    have hbw4 : Below w.heap.size w w4 := Below.trans (by first | exact (hbw3.alloc hbw3.size _).drew | exact hbw3.alloc hbw3.size _ | exact hbw3.drew | exact hbw3 | exact below_drewN (hbw3.alloc hbw3.size _) _) (hb4.mono (by have := hbw3.size; simp; omega))
    clear hb4 hbw3
    go_wp2_with fail
    refine Calls.mono (match_v _ [⟨key, 4, []⟩] 1 1 a ml cap _ rfl (match_1 _ _ _ _ |>.trans k4) (AtT.one (by simp) (by simp [go_sem]) (by simp [go_sem]) (by simp [go_sem]; first | exact ⟨rfl, rfl⟩ | rfl) (At1.nil _)) (aml.below (by first | exact (hbw4.alloc hbw4.size _).drew | exact hbw4.alloc hbw4.size _ | exact hbw4.drew | exact hbw4 | exact below_drewN (hbw4.alloc hbw4.size _) _)) kml) ?_
    rintro e w5 ⟨rfl, hb5⟩
    have hbw5 : Below w.heap.size w w5 := Below.trans (by first | exact (hbw4.alloc hbw4.size _).drew | exact hbw4.alloc hbw4.size _ | exact hbw4.drew | exact hbw4 | exact below_drewN (hbw4.alloc hbw4.size _) _) (hb5.mono (by have := hbw4.size; simp; omega))
    clear hb5 hbw4
    go_wp2_with fail
    refine Calls.mono (match_v _ [] 0 0 a ml cap _ rfl (v := true) rfl (AtT.nil _ _) (aml.below (by first | exact (hbw5.alloc hbw5.size _).drew | exact hbw5.alloc hbw5.size _ | exact hbw5.drew | exact hbw5 | exact below_drewN (hbw5.alloc hbw5.size _) _)) kml) ?_
    rintro e w6 ⟨rfl, hb6⟩
    have hbw6 : Below w.heap.size w w6 := Below.trans (by first | exact (hbw5.alloc hbw5.size _).drew | exact hbw5.alloc hbw5.size _ | exact hbw5.drew | exact hbw5 | exact below_drewN (hbw5.alloc hbw5.size _) _) (hb6.mono (by have := hbw5.size; simp; try omega))
    clear hb6 hbw5
    go_wp2_with fail
    refine Calls.mono (match_v _ [⟨key, 9, []⟩] 1 1 a ml cap _ rfl (match_1 _ _ _ _ |>.trans k9) (AtT.one (by simp) (by simp [go_sem]) (by simp [go_sem]) (by simp [go_sem]; first | exact ⟨rfl, rfl⟩ | rfl) (At1.nil _)) (aml.below (by first | exact (hbw6.alloc hbw6.size _).drew | exact hbw6.alloc hbw6.size _ | exact hbw6.drew | exact hbw6 | exact below_drewN (hbw6.alloc hbw6.size _) _)) kml) ?_
    rintro e w7 ⟨rfl, hb7⟩
    have hbw7 : Below w.heap.size w w7 := Below.trans (by first | exact (hbw6.alloc hbw6.size _).drew | exact hbw6.alloc hbw6.size _ | exact hbw6.drew | exact hbw6 | exact below_drewN (hbw6.alloc hbw6.size _) _) (hb7.mono (by have := hbw6.size; simp; omega))
    clear hb7 hbw6
    go_wp2
    go_ret
    exact ⟨rfl, hbw7⟩
  · have k1 : holdsB key 1 mv ml = true := by simp [holdsB, hX, hY]
    have k2 : holdsB key 2 mv ml = false := by simp [holdsB, hX, hY]
    have k3 : holdsB key 3 [] ml = true := by simp [holdsB, hX]
    have k4 : holdsB key 4 [] ml = false := by simp [holdsB, hX]
    clear hX hY
    go_enter Try.func6, Try.ntmps6
    go_wp2_with fail
    refine (begun_any _).mono ?_
    rintro e w1 ⟨rfl, hbw1⟩
    go_wp2_with fail
    go_region
    go_wp2_with fail
    refine Calls.mono (match_v _ [⟨key, 1, mv⟩] 1 1 a ml cap _ rfl (match_1 _ _ _ _ |>.trans k1) (AtT.one (by simp) (by simp [go_sem]) (by simp [go_sem]) (by simp [go_sem]; first | exact ⟨rfl, rfl⟩ | rfl) (amv.below (by first | exact (hbw1.alloc hbw1.size _).drew | exact hbw1.alloc hbw1.size _ | exact hbw1.drew | exact hbw1 | exact below_drewN (hbw1.alloc hbw1.size _) _))) (aml.below (by first | exact (hbw1.alloc hbw1.size _).drew | exact hbw1.alloc hbw1.size _ | exact hbw1.drew | exact hbw1 | exact below_drewN (hbw1.alloc hbw1.size _) _)) kml) ?_
    rintro e w2 ⟨rfl, hb2⟩
    have hbw2 : Below w.heap.size w w2 := Below.trans (by first | exact (hbw1.alloc hbw1.size _).drew | exact hbw1.alloc hbw1.size _ | exact hbw1.drew | exact hbw1 | exact below_drewN (hbw1.alloc hbw1.size _) _) (hb2.mono (by have := hbw1.size; simp; omega))
    clear hb2 hbw1
    go_wp2_with fail
    refine Calls.mono (match_v _ [⟨key, 2, mv⟩] 1 1 a ml cap _ rfl (match_1 _ _ _ _ |>.trans k2) (AtT.one (by simp) (by simp [go_sem]) (by simp [go_sem]) (by simp [go_sem]; first | exact ⟨rfl, rfl⟩ | rfl) (amv.below (by first | exact (hbw2.alloc hbw2.size _).drew | exact hbw2.alloc hbw2.size _ | exact hbw2.drew | exact hbw2 | exact below_drewN (hbw2.alloc hbw2.size _) _))) (aml.below (by first | exact (hbw2.alloc hbw2.size _).drew | exact hbw2.alloc hbw2.size _ | exact hbw2.drew | exact hbw2 | exact below_drewN (hbw2.alloc hbw2.size _) _)) kml) ?_
    rintro e w3 ⟨rfl, hb3⟩
    have hbw3 : Below w.heap.size w w3 := Below.trans (by first | exact (hbw2.alloc hbw2.size _).drew | exact hbw2.alloc hbw2.size _ | exact hbw2.drew | exact hbw2 | exact below_drewN (hbw2.alloc hbw2.size _) _) (hb3.mono (by have := hbw2.size; simp; omega))
    clear hb3 hbw2
    go_wp2_with fail
    refine Calls.mono (match_v _ [⟨key, 3, []⟩] 1 1 a ml cap _ rfl (match_1 _ _ _ _ |>.trans k3) (AtT.one (by simp) (by simp [go_sem]) (by simp [go_sem]) (by simp [go_sem]; first | exact ⟨rfl, rfl⟩ | rfl) (At1.nil _)) (aml.below (by first | exact (hbw3.alloc hbw3.size _).drew | exact hbw3.alloc hbw3.size _ | exact hbw3.drew | exact hbw3 | exact below_drewN (hbw3.alloc hbw3.size _) _)) kml) ?_
    rintro e w4 ⟨rfl, hb4⟩
    have hbw4 : Below w.heap.size w w4 := Below.trans (by first | exact (hbw3.alloc hbw3.size _).drew | exact hbw3.alloc hbw3.size _ | exact hbw3.drew | exact hbw3 | exact below_drewN (hbw3.alloc hbw3.size _) _) (hb4.mono (by have := hbw3.size; simp; omega))
    clear hb4 hbw3
    go_wp2_with fail
    refine Calls.mono (match_v _ [⟨key, 4, []⟩] 1 1 a ml cap _ rfl (match_1 _ _ _ _ |>.trans k4) (AtT.one (by simp) (by simp [go_sem]) (by simp [go_sem]) (by simp [go_sem]; first | exact ⟨rfl, rfl⟩ | rfl) (At1.nil _)) (aml.below (by first | exact (hbw4.alloc hbw4.size _).drew | exact hbw4.alloc hbw4.size _ | exact hbw4.drew | exact hbw4 | exact below_drewN (hbw4.alloc hbw4.size _) _)) kml) ?_
    rintro e w5 ⟨rfl, hb5⟩
    have hbw5 : Below w.heap.size w w5 := Below.trans (by first | exact (hbw4.alloc hbw4.size _).drew | exact hbw4.alloc hbw4.size _ | exact hbw4.drew | exact hbw4 | exact below_drewN (hbw4.alloc hbw4.size _) _) (hb5.mono (by have := hbw4.size; simp; omega))
    clear hb5 hbw4
    go_wp2_with fail
    refine Calls.mono (match_v _ [] 0 0 a ml cap _ rfl (v := true) rfl (AtT.nil _ _) (aml.below (by first | exact (hbw5.alloc hbw5.size _).drew | exact hbw5.alloc hbw5.size _ | exact hbw5.drew | exact hbw5 | exact below_drewN (hbw5.alloc hbw5.size _) _)) kml) ?_
    rintro e w6 ⟨rfl, hb6⟩
    have hbw6 : Below w.heap.size w w6 := Below.trans (by first | exact (hbw5.alloc hbw5.size _).drew | exact hbw5.alloc hbw5.size _ | exact hbw5.drew | exact hbw5 | exact below_drewN (hbw5.alloc hbw5.size _) _) (hb6.mono (by have := hbw5.size; simp; try omega))
    clear hb6 hbw5
    go_wp2_with fail
    refine Calls.mono (match_v _ [⟨key, 9, []⟩] 1 1 a ml cap _ rfl (match_1 _ _ _ _ |>.trans k9) (AtT.one (by simp) (by simp [go_sem]) (by simp [go_sem]) (by simp [go_sem]; first | exact ⟨rfl, rfl⟩ | rfl) (At1.nil _)) (aml.below (by first | exact (hbw6.alloc hbw6.size _).drew | exact hbw6.alloc hbw6.size _ | exact hbw6.drew | exact hbw6 | exact below_drewN (hbw6.alloc hbw6.size _) _)) kml) ?_
    rintro e w7 ⟨rfl, hb7⟩
    have hbw7 : Below w.heap.size w w7 := Below.trans (by first | exact (hbw6.alloc hbw6.size _).drew | exact hbw6.alloc hbw6.size _ | exact hbw6.drew | exact hbw6 | exact below_drewN (hbw6.alloc hbw6.size _) _) (hb7.mono (by have := hbw6.size; simp; omega))
    clear hb7 hbw6
    go_wp2
    go_ret
    exact ⟨rfl, hbw7⟩
end Go.Proofs.Ytnimplldkambhaa
