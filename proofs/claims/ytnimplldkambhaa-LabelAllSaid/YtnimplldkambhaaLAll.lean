/-
  The law LabelAll's walk. No conditions beyond what is written in each statement.
-/
import Derived.Test.YtnimplldkambhaaRef2
import Derived.Test.YtnimplldkambhaaRef3
set_option linter.unusedSimpArgs false
set_option linter.unusedVariables false
namespace Go.Proofs.Ytnimplldkambhaa
open Go.RowKit

set_option maxRecDepth 100000 in
set_option maxHeartbeats 8000000 in
theorem labelAll_walk (s : ByteArray) (a : Option Addr) (l : List Str2) (cap : Nat) (b : Option Addr) (x : List Trm) (cb : Nat) (key : ByteArray) (w : World) (hl : At2 w a l) (hx : AtT w b x) (h1 : l.length ≤ cap) (h2 : x.length ≤ cb) (m1 : cap ≤ maxLen) (m2 : cb ≤ maxLen)
    (z1 : ∀ i, i < l.length → (l.getD i e2).1.size ≤ maxLen ∧ (l.getD i e2).2.size ≤ maxLen) (z2 : ∀ t ∈ x, SzT t) :
    Calls Try.prog 5 #[.string s, .slice a l.length cap, .slice b x.length cb, .string key] w fun e w' => e = .returned (.bool true) ∧ Below w.heap.size w w' := by
  have zl : ∀ i, i < (l.take 9).length → ((l.take 9).getD i e2).1.size ≤ maxLen ∧ ((l.take 9).getD i e2).2.size ≤ maxLen := fun i hi => by
    rw [getD_take hi]; exact z1 i (by simp at hi; omega)
  have zx : ∀ t ∈ x.take 9, SzT t := fun t ht => z2 t (List.mem_of_mem_take ht)
  clear z1 z2
  obtain ⟨ml, eml, iml, jml, kml⟩ := cut_of l 9
  have aml := hl.take 9
  rw [← eml] at aml zl
  have cml : ml.length ≤ cap := by omega
  simp only [Int.cast_ofNat_Int] at iml
  clear eml jml
  obtain ⟨mx, emx, imx, jmx, kmx⟩ := cut_of x 9
  have amx := hx.take 9
  rw [← emx] at amx zx
  have cmx : mx.length ≤ cb := by omega
  simp only [Int.cast_ofNat_Int] at imx
  clear emx jmx h1 h2 m1 m2 hl hx
  obtain ⟨t, et⟩ : ∃ t, s.extract 0 20 = t := ⟨_, rfl⟩
  have zt : t.size ≤ maxLen := by rw [← et]; exact Nat.le_trans (cut_size s 20) (by unfold maxLen; omega)
  have ZL := Lib.hid zl
  have ZX := Lib.hid zx
  clear zl zx
  go_enter Try.func5, Try.ntmps5
  go_wp2_with fail
  refine (begun_any _).mono ?_
  rintro e w1 ⟨rfl, hbw1⟩
  go_wp2_with fail
  go_quiet (exact Calls.quiet_of_same (text_v _ 20 _ (by decide) et))
  have hbw2 : Below w.heap.size w (w1.drewN nq) := below_drewN hbw1 _
  have hnm := Lib.hid (show nameL t.data.toList = nameL t.data.toList from rfl)
  clear imx iml cml cmx et
  go_wp2_with (at_builtin; refine stand ?_)
  refine Calls.mono (get_any a ml cap key _ (aml.below hbw2) (by omega)) ?_
  rintro e w3 ⟨rfl, hb3⟩
  have hbw3 : Below w.heap.size w w3 := hbw2.trans (hb3.mono hbw2.size)
  clear hb3
  go_wp2_with (at_builtin; refine stand ?_)
  refine Calls.mono (refLabel_any a ml cap key _ (aml.below hbw3) kml) ?_
  rintro e w' ⟨rfl, rfl⟩
  go_wp2_with (at_builtin; refine stand ?_)
  refine Calls.mono (name_any t _) ?_
  rintro e w' ⟨rfl, rfl⟩
  go_wp2_with (at_builtin; refine stand ?_)
  refine Calls.mono (refName_any t _ zt) ?_
  rintro e w' ⟨rfl, rfl⟩
  go_wp2_with (at_builtin; refine stand ?_)
  refine Calls.mono (may_pairs_any a ml cap _ (aml.below hbw3)) ?_
  rintro e w4 ⟨rfl, hb4⟩
  have hbw4 : Below w.heap.size w w4 := hbw3.trans (hb4.mono hbw3.size)
  clear hb4
  go_wp2_with (at_builtin; refine stand ?_)
  refine Calls.mono (refMayPairs_any a ml cap _ (aml.below hbw4) ZL.out kml) ?_
  rintro e w5 ⟨rfl, hb5⟩
  have hbw5 : Below w.heap.size w w5 := hbw4.trans (hb5.mono hbw4.size)
  clear hb5
  go_wp2_with (at_builtin; refine stand ?_)
  refine Calls.mono (mayTerms_any b mx cb _ (amx.below hbw5)) ?_
  rintro e w6 ⟨rfl, hb6⟩
  have hbw6 : Below w.heap.size w w6 := hbw5.trans (hb6.mono hbw5.size)
  clear hb6
  go_wp2_with (at_builtin; refine stand ?_)
  refine Calls.mono (refMayTerms_any b mx cb _ (amx.below hbw6) ZX.out kmx) ?_
  rintro e w7 ⟨rfl, hb7⟩
  have hbw7 : Below w.heap.size w w7 := hbw6.trans (hb7.mono hbw6.size)
  clear hb7
  go_wp2_with (at_builtin; refine stand ?_)
  refine Calls.mono (match_any b mx cb a ml cap _ (amx.below hbw7) (aml.below hbw7) (by omega)) ?_
  rintro e w8 ⟨rfl, hb8⟩
  have hbw8 : Below w.heap.size w w8 := hbw7.trans (hb8.mono hbw7.size)
  clear hb8
  go_wp2_with (at_builtin; refine stand ?_)
  refine Calls.mono (refMatch_any b mx cb a ml cap _ (amx.below hbw8) (aml.below hbw8) kml kmx) ?_
  rintro e w' ⟨rfl, rfl⟩
  go_wp2
  go_ret
  exact ⟨rfl, hbw8⟩
end Go.Proofs.Ytnimplldkambhaa
