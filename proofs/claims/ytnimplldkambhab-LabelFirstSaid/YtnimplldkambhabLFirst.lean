/-
  The law LabelFirst's walk. No conditions beyond what is written in each statement.
-/
import Derived.Test.YtnimplldkambhabLApp
import Derived.Test.YtnimplldkambhabLess
set_option linter.unusedSimpArgs false
set_option linter.unusedVariables false
namespace Go.Proofs.Ytnimplldkambhab
open Go.RowKit

theorem first_front (key a b : ByteArray) (m : List Str2) : getV ((key, a) :: (m ++ [(key, b)])) key = a ∧ getOk ((key, a) :: (m ++ [(key, b)])) key = true := by
  unfold getV getOk
  simp [getL]
theorem first_back (key b : ByteArray) (m : List Str2) : getOk (m ++ [(key, b)]) key = true ∧ (getOk m key = false → getV (m ++ [(key, b)]) key = b) := by
  unfold getV getOk
  induction m with
  | nil => simp [getL]
  | cons x r ih =>
    by_cases h : x.1 = key
    · simp [getL, h]
    · simp only [List.cons_append, getL, if_neg h]
      exact ih

abbrev boxP (x y : ByteArray) : Obj := .cells #[.string x, .string y] 25
set_option maxRecDepth 100000 in
set_option maxHeartbeats 4000000 in
theorem labelFirst_walk (d : Option Addr) (l : List Str2) (cap : Nat) (key a b : ByteArray) (w : World) (hl : At2 w d l) (h1 : l.length ≤ cap) (m1 : cap ≤ maxLen) (n1 : d = none → cap = 0) :
    Calls Try.prog 3 #[.slice d l.length cap, .string key, .string a, .string b] w fun e w' => e = .returned (.bool true) ∧ Below w.heap.size w w' := by
  obtain ⟨ml, eml, iml, jml, kml⟩ := cut_of l 5
  have aml := hl.take 5
  rw [← eml] at aml
  have cml : ml.length ≤ cap := by omega
  simp only [Int.cast_ofNat_Int] at iml
  clear eml jml
  have pml := min_cut iml
  clear h1 m1 hl
  obtain ⟨iP, hP⟩ : ∃ i : TypeInfo, Hid (Try.prog.info? 25 = some i ∧ i.zero = some (.agg #[.string ⟨#[]⟩, .string ⟨#[]⟩]) ∧ i.size = 2 ∧ i.bytes = 32) := by
    obtain ⟨i, h0, h1, h2, h3⟩ := info_parts infoP2
    exact ⟨i, h0, h1, h2, h3⟩
  go_enter Try.func3, Try.ntmps3
  go_wp2_with fail
  refine (begun_any _).mono ?_
  rintro e w1 ⟨rfl, hbw1⟩
  have hbA : Below w.heap.size w (w1.alloc (boxP key a)) := hbw1.alloc hbw1.size _
  go_wp2_with (at_builtin; refine stand ?_)
  have q2 := news2 (aml.below hbA)
  show wpList _ _ _ _ _ _
  refine wpList_append_opt rfl _ _ 22 rfl (w1.alloc (boxP key a)).heap.size 25 iP _ 2 32 Try.underlying22 hP.out.1 hP.out.2.1 hP.out.2.2.1 hP.out.2.2.2 rfl (by decide) (.slice none 0 0) 0 [] rfl (World.ownsRow_nil _ _ 25 2) d ml.length cap (ml.flatMap cells2) rfl (fun h => by have := n1 h; omega) (by rw [flat_len (sz := 2) (fun _ => rfl)]) (fun d hd j u hu => cell_laterA (by first | exact ((Below.refl (w1.alloc (boxP key a)).heap.size (w1.alloc (boxP key a))).alloc (Below.refl (w1.alloc (boxP key a)).heap.size (w1.alloc (boxP key a))).size _).drew | exact (Below.refl (w1.alloc (boxP key a)).heap.size (w1.alloc (boxP key a))).alloc (Below.refl (w1.alloc (boxP key a)).heap.size (w1.alloc (boxP key a))).size _ | exact (Below.refl (w1.alloc (boxP key a)).heap.size (w1.alloc (boxP key a))).drew | exact (Below.refl (w1.alloc (boxP key a)).heap.size (w1.alloc (boxP key a))) | exact below_drewN ((Below.refl (w1.alloc (boxP key a)).heap.size (w1.alloc (boxP key a))).alloc (Below.refl (w1.alloc (boxP key a)).heap.size (w1.alloc (boxP key a))).size _) _) (q2 d hd j u hu)) (one2 _) (by unfold maxLen; omega) (by omega) (by first | exact ((Below.refl (w1.alloc (boxP key a)).heap.size (w1.alloc (boxP key a)))).size | exact Nat.le_trans ((Below.refl (w1.alloc (boxP key a)).heap.size (w1.alloc (boxP key a)))).size (by simp)) ?_
  intro v2 w2 o2 g2
  have b2 : Below (w1.alloc (boxP key a)).heap.size (w1.alloc (boxP key a)) w2 := Below.trans (by first | exact ((Below.refl (w1.alloc (boxP key a)).heap.size (w1.alloc (boxP key a))).alloc (Below.refl (w1.alloc (boxP key a)).heap.size (w1.alloc (boxP key a))).size _).drew | exact (Below.refl (w1.alloc (boxP key a)).heap.size (w1.alloc (boxP key a))).alloc (Below.refl (w1.alloc (boxP key a)).heap.size (w1.alloc (boxP key a))).size _ | exact (Below.refl (w1.alloc (boxP key a)).heap.size (w1.alloc (boxP key a))).drew | exact (Below.refl (w1.alloc (boxP key a)).heap.size (w1.alloc (boxP key a))) | exact below_drewN ((Below.refl (w1.alloc (boxP key a)).heap.size (w1.alloc (boxP key a))).alloc (Below.refl (w1.alloc (boxP key a)).heap.size (w1.alloc (boxP key a))).size _) _) (grown_below g2 (World.ownsRow_nil _ _ 25 2) (by first | exact ((Below.refl (w1.alloc (boxP key a)).heap.size (w1.alloc (boxP key a)))).size | exact Nat.le_trans ((Below.refl (w1.alloc (boxP key a)).heap.size (w1.alloc (boxP key a)))).size (by simp)))
  clear q2 g2
  (try simp only [Nat.zero_add, List.nil_append] at o2)
  go_wp2_with (at_builtin; refine stand ?_)
  show wpList _ _ _ _ _ _
  refine wpList_append_own _ rfl _ _ 22 rfl (w1.alloc (boxP key a)).heap.size 25 iP _ 2 32 Try.underlying22 hP.out.1 hP.out.2.1 hP.out.2.2.1 hP.out.2.2.2 rfl (by decide) v2 ml.length (ml.flatMap cells2) rfl (o2.alloc _) ⟨w2.heap.size, 0, none⟩ 1 1 [.string key, .string b] rfl rfl (new_cells _ _ _) (by simp [Value.oneCell']) (by unfold maxLen; omega) (by omega) (by first | exact (b2).size | exact Nat.le_trans (b2).size (by simp)) ?_
  intro v3 w3 o3 g3 hnil
  have b3 : Below (w1.alloc (boxP key a)).heap.size (w1.alloc (boxP key a)) w3 := Below.trans (by first | exact (b2.alloc b2.size _).drew | exact b2.alloc b2.size _ | exact b2.drew | exact b2 | exact below_drewN (b2.alloc b2.size _) _) (grown_below g3 (o2.alloc _) (by first | exact (b2).size | exact Nat.le_trans (b2).size (by simp)))
  clear g3 hnil
  (try simp only [Nat.zero_add, List.nil_append] at o3)
  obtain ⟨a3, c3, rfl, _, _, n3⟩ := own_len o3
  have o1 := own_below (own_one (w := w1) (t := 25) (sz := 2) #[.string key, .string a] rfl) b3
  have q3 := own_news o3
  go_wp2_with (at_builtin; refine stand ?_)
  show wpList _ _ _ _ _ _
  refine wpList_append_opt rfl _ _ 22 rfl w1.heap.size 25 iP _ 2 32 Try.underlying22 hP.out.1 hP.out.2.1 hP.out.2.2.1 hP.out.2.2.2 rfl (by decide) (.slice (some ⟨w1.heap.size, 0, none⟩) 1 1) 1 [.string key, .string a] rfl o1 a3 (ml.length + 1) c3 (ml.flatMap cells2 ++ [.string key, .string b]) rfl ?_ ?_ q3 ?_ (by unfold maxLen; omega) (by omega) (by have := b3.size; simp at this; omega) ?_
  · intro h; have := n3 h; omega
  · have h := flat_len (enc := cells2) (sz := 2) (fun _ => rfl) ml
    simp only [List.length_append, h, List.length_cons, List.length_nil]
    omega
  · intro u hu
    simp only [List.mem_append] at hu
    rcases hu with h | h
    · exact one2 ml u h
    · simp at h
      rcases h with rfl | rfl <;> rfl
  intro v4 w4 o4 g4
  have b4 : Below w1.heap.size w3 w4 := grown_below g4 o1 (by have := b3.size; simp at this; omega)
  have b34 : Below w1.heap.size w1 w4 := ((Below.refl _ _).alloc (Nat.le_refl _) _).trans (b3.mono (by simp)) |>.trans b4
  have hbw4 : Below w.heap.size w w4 := hbw1.trans (b34.mono hbw1.size)
  obtain ⟨a4, c4, rfl, _, _, _⟩ := own_len o4
  have hat : At2 w4 a4 ((key, a) :: (ml ++ [(key, b)])) := own_at2 (l := (key, a) :: (ml ++ [(key, b)])) (by simpa [cells2] using o4) (by simp; omega)
  have hn4 : ((key, a) :: (ml ++ [(key, b)])).length = 1 + (ml.length + 1) := by simp; omega
  clear g4 b4 b34 o4 o1 q3 o3 o2 b2 b3 hbA n3
  go_wp2_with (at_builtin; refine stand ?_)
  refine Calls.mono (get_v a4 _ _ c4 key _ hn4 (first_front key a b ml).1 (first_front key a b ml).2 hat (by simp; omega)) ?_
  rintro e w5 ⟨rfl, hb5⟩
  have hbw5 : Below w.heap.size w w5 := hbw4.trans (hb5.mono hbw4.size)
  have B45 : Below w4.heap.size w4 w5 := hb5
  clear hb5
  go_wp2_with (at_builtin; refine stand ?_)
  refine Calls.mono (get_any d ml cap key _ (aml.below hbw5) (by omega)) ?_
  rintro e w6 ⟨rfl, hb6⟩
  have hbw6 : Below w.heap.size w w6 := hbw5.trans (hb6.mono hbw5.size)
  have B56 : Below w5.heap.size w5 w6 := hb6
  clear hb6
  have hbw7 : Below w.heap.size w w6 := hbw6
  have hat6 : At2 w6 a4 ((key, a) :: (ml ++ [(key, b)])) := hat.below ((Below.refl _ _).trans (B45.trans (B56.mono B45.size)))
  go_wp2_with (at_builtin; refine stand ?_)
  have q7 := news2 (aml.below hbw6)
  show wpList _ _ _ _ _ _
  refine wpList_append_opt rfl _ _ 22 rfl w6.heap.size 25 iP _ 2 32 Try.underlying22 hP.out.1 hP.out.2.1 hP.out.2.2.1 hP.out.2.2.2 rfl (by decide) (.slice none 0 0) 0 [] rfl (World.ownsRow_nil _ _ 25 2) d ml.length cap (ml.flatMap cells2) rfl (fun h => by have := n1 h; omega) (by rw [flat_len (sz := 2) (fun _ => rfl)]) (fun d hd j u hu => cell_laterA (by first | exact ((Below.refl w6.heap.size w6).alloc (Below.refl w6.heap.size w6).size _).drew | exact (Below.refl w6.heap.size w6).alloc (Below.refl w6.heap.size w6).size _ | exact (Below.refl w6.heap.size w6).drew | exact (Below.refl w6.heap.size w6) | exact below_drewN ((Below.refl w6.heap.size w6).alloc (Below.refl w6.heap.size w6).size _) _) (q7 d hd j u hu)) (one2 _) (by unfold maxLen; omega) (by omega) (by first | exact ((Below.refl w6.heap.size w6)).size | exact Nat.le_trans ((Below.refl w6.heap.size w6)).size (by simp)) ?_
  intro v7 w7 o7 g7
  have b7 : Below w6.heap.size w6 w7 := Below.trans (by first | exact ((Below.refl w6.heap.size w6).alloc (Below.refl w6.heap.size w6).size _).drew | exact (Below.refl w6.heap.size w6).alloc (Below.refl w6.heap.size w6).size _ | exact (Below.refl w6.heap.size w6).drew | exact (Below.refl w6.heap.size w6) | exact below_drewN ((Below.refl w6.heap.size w6).alloc (Below.refl w6.heap.size w6).size _) _) (grown_below g7 (World.ownsRow_nil _ _ 25 2) (by first | exact ((Below.refl w6.heap.size w6)).size | exact Nat.le_trans ((Below.refl w6.heap.size w6)).size (by simp)))
  clear q7 g7
  (try simp only [Nat.zero_add, List.nil_append] at o7)
  go_wp2_with (at_builtin; refine stand ?_)
  show wpList _ _ _ _ _ _
  refine wpList_append_own _ rfl _ _ 22 rfl w6.heap.size 25 iP _ 2 32 Try.underlying22 hP.out.1 hP.out.2.1 hP.out.2.2.1 hP.out.2.2.2 rfl (by decide) v7 ml.length (ml.flatMap cells2) rfl (o7.alloc _) ⟨w7.heap.size, 0, none⟩ 1 1 [.string key, .string b] rfl rfl (new_cells _ _ _) (by simp [Value.oneCell']) (by unfold maxLen; omega) (by omega) (by first | exact (b7).size | exact Nat.le_trans (b7).size (by simp)) ?_
  intro v8 w8 o8 g8 hnil
  have b8 : Below w6.heap.size w6 w8 := Below.trans (by first | exact (b7.alloc b7.size _).drew | exact b7.alloc b7.size _ | exact b7.drew | exact b7 | exact below_drewN (b7.alloc b7.size _) _) (grown_below g8 (o7.alloc _) (by first | exact (b7).size | exact Nat.le_trans (b7).size (by simp)))
  clear g8 hnil
  (try simp only [Nat.zero_add, List.nil_append] at o8)
  obtain ⟨a8, c8, rfl, _, _, _⟩ := own_len o8
  have hat8 : At2 w8 a8 (ml ++ [(key, b)]) := own_at2 (l := ml ++ [(key, b)]) (by simpa [cells2] using o8) (by simp)
  have hatB := hat6.below b8
  have hbw8 : Below w.heap.size w w8 := hbw6.trans (b8.mono hbw6.size)
  clear o7 o8 b7 hat hat6 hbw7
  obtain ⟨g1, g2⟩ := first_back key b ml
  have hn8 : (ml ++ [(key, b)]).length = ml.length + 1 := by simp
  cases hS : getOk ml key
  · have G2 := Lib.hid (g2 hS)
    clear g2
    go_wp2_with (at_builtin; refine stand ?_)
    refine Calls.mono (get_v a8 _ _ c8 key _ hn8 G2.out g1 hat8 (by simp; omega)) ?_
    rintro e w9 ⟨rfl, hb9⟩
    have hbw9 : Below w.heap.size w w9 := hbw8.trans (hb9.mono hbw8.size)
    have B89 : Below w8.heap.size w8 w9 := hb9
    clear hb9
    have hatC := hatB.below B89
    go_wp2_with (at_builtin; refine stand ?_)
    refine Calls.mono (may_v2 a4 _ _ c4 _ hn4 (mayL_twice key a b ml) hatC) ?_
    rintro e w10 ⟨rfl, hb10⟩
    have hbw10 : Below w.heap.size w w10 := hbw9.trans (hb10.mono hbw9.size)
    clear hb10
    go_wp2
    go_ret
    exact ⟨rfl, hbw10⟩
  · clear g2
    go_wp2_with (at_builtin; refine stand ?_)
    refine Calls.mono (get_v a8 _ _ c8 key _ hn8 rfl g1 hat8 (by simp; omega)) ?_
    rintro e w9 ⟨rfl, hb9⟩
    have hbw9 : Below w.heap.size w w9 := hbw8.trans (hb9.mono hbw8.size)
    have B89 : Below w8.heap.size w8 w9 := hb9
    clear hb9
    have hatC := hatB.below B89
    go_wp2_with (at_builtin; refine stand ?_)
    refine Calls.mono (may_v2 a4 _ _ c4 _ hn4 (mayL_twice key a b ml) hatC) ?_
    rintro e w10 ⟨rfl, hb10⟩
    have hbw10 : Below w.heap.size w w10 := hbw9.trans (hb10.mono hbw9.size)
    clear hb10
    go_wp2
    go_ret
    exact ⟨rfl, hbw10⟩
end Go.Proofs.Ytnimplldkambhab
