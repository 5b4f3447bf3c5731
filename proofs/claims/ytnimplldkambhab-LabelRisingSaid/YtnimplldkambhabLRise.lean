/-
  The law LabelRising's walk. No conditions beyond what is written in each statement.
-/
import Derived.Test.YtnimplldkambhabLReg
import Derived.Test.YtnimplldkambhabLess
import Derived.Test.YtnimplldkambhabRef1
import Derived.Deep.RegionHeld3
set_option linter.unusedSimpArgs false
set_option linter.unusedVariables false
namespace Go.Proofs.Ytnimplldkambhab
open Go.RowKit

theorem turn_nat (i : Int) {n : Nat} (h : 0 < n) (h2 : n ≤ 1000000) : ∃ k : Nat, k < n ∧ (wrap64 (i.tmod (n : Int) + (n : Int))).tmod (n : Int) = (k : Int) := by
  have b := turn_in i (n := (n : Int)) (by omega) (by omega)
  exact ⟨((wrap64 (i.tmod (n : Int) + (n : Int))).tmod (n : Int)).toNat, by omega, by omega⟩

theorem drop_flat {α : Type} {enc : α → List Value} {sz : Nat} (hf : ∀ x, (enc x).length = sz) (k : Nat) : ∀ l : List α, (l.drop k).flatMap enc = (l.flatMap enc).drop (k * sz) := by
  induction k with
  | zero => intro l; simp
  | succ k ih =>
    intro l
    cases l with
    | nil => simp
    | cons x r =>
      have e1 : (k + 1) * sz = sz + k * sz := by rw [Nat.add_mul]; omega
      rw [List.drop_succ_cons, ih r, List.flatMap_cons, List.drop_append, hf, e1, show List.drop (sz + k * sz) (enc x) = [] from List.drop_eq_nil_of_le (by rw [hf]; omega)]
      simp
theorem news_drop {w : World} {b off : Nat} {l : List Str2} (h : At2 w (some ⟨b, off, none⟩) l) (k : Nat) : ∀ j u, ((l.drop k).flatMap cells2)[j]? = some u → w.cell? ((⟨b, off + k * 2, none⟩ : Addr).add j) = some u := by
  intro j u hu
  rw [drop_flat (sz := 2) (fun _ => rfl), List.getElem?_drop] at hu
  have e := news2 h _ rfl _ _ hu
  rw [Go.WideShapes.add_plain] at e ⊢
  rw [← e]
  congr 2
  omega

theorem flat_set (l : List Str2) (k : Nat) (x : Str2) : (l.set k x).flatMap cells2 = ((l.flatMap cells2).set (k * 2) (.string x.1)).set (k * 2 + 1) (.string x.2) := by
  induction l generalizing k with
  | nil => rfl
  | cons y r ih =>
    cases k with
    | zero => rfl
    | succ k =>
      rw [List.set_cons_succ, List.flatMap_cons, ih k, List.flatMap_cons]
      show _ = (((Value.string y.1) :: (Value.string y.2) :: r.flatMap cells2).set ((k + 1) * 2) _).set ((k + 1) * 2 + 1) _
      rw [show (k + 1) * 2 = k * 2 + 1 + 1 by omega, List.set_cons_succ, List.set_cons_succ, List.set_cons_succ, List.set_cons_succ]
      rfl
theorem mayL_less {l : List Str2} (h : mayL l = true) (k : Nat) : mayL (l.take k ++ l.drop (k + 1)) = true := by
  obtain ⟨h1, h2, h3⟩ := (mayL_spec l).1 h
  have hs : (l.take k ++ l.drop (k + 1)).Sublist l := by rw [← List.eraseIdx_eq_take_drop_succ]; exact List.eraseIdx_sublist ..
  exact (mayL_spec _).2 ⟨Nat.le_trans hs.length_le h1, fun x hx => h2 x (hs.subset hx), h3.sublist hs⟩
def turnL (l : List Str2) (I J : Nat) : List Str2 := (l.set I (l.getD J e2)).set J (l.getD I e2)
theorem turnL_len (l : List Str2) (I J : Nat) : (turnL l I J).length = l.length := by simp [turnL]
theorem turnL_get (l : List Str2) {I J k : Nat} (hI : I < l.length) (hJ : J < l.length) (hk : k < l.length) : (turnL l I J).getD k e2 = if k = J then l.getD I e2 else if k = I then l.getD J e2 else l.getD k e2 := by
  rw [getD_eq (by rw [turnL_len]; exact hk)]
  unfold turnL
  rw [List.getElem_set]
  by_cases h1 : k = J
  · subst h1; simp
  · rw [if_neg (fun e => h1 e.symm), if_neg h1, List.getElem_set]
    by_cases h2 : k = I
    · subst h2; simp
    · rw [if_neg (fun e => h2 e.symm), if_neg h2, getD_eq hk]
theorem mayL_turn {l : List Str2} (h : mayL l = true) {I J : Nat} (hI : I < l.length) (hJ : J < l.length) : mayL (turnL l I J) = decide (I = J) := by
  obtain ⟨h1, h2, h3⟩ := (mayL_spec l).1 h
  by_cases e : I = J
  · subst e
    rw [decide_eq_true rfl]
    have : turnL l I I = l := by
      apply List.ext_getElem (turnL_len _ _ _)
      intro k a b
      have := turnL_get l hI hI b
      rw [getD_eq a] at this
      rw [this]
      by_cases hk : k = I
      · subst hk; rw [if_pos rfl, getD_eq b]
      · rw [if_neg hk, if_neg hk, getD_eq b]
    rw [this]; exact h
  · rw [decide_eq_false e]
    cases hm : mayL (turnL l I J)
    · rfl
    · exfalso
      obtain ⟨_, _, p⟩ := (mayL_spec _).1 hm
      rw [List.pairwise_iff_getElem] at p h3
      have gI := turnL_get l hI hJ hI
      have gJ := turnL_get l hI hJ hJ
      rw [if_neg e, if_pos rfl, getD_eq (by rw [turnL_len]; exact hI), getD_eq hJ] at gI
      rw [if_pos rfl, getD_eq (by rw [turnL_len]; exact hJ), getD_eq hI] at gJ
      rcases Nat.lt_or_gt_of_ne e with q | q
      · have a := p I J (by rw [turnL_len]; exact hI) (by rw [turnL_len]; exact hJ) q
        have b := h3 I J hI hJ q
        rw [gI, gJ] at a
        rw [less_asymm b] at a
        cases a
      · have a := p J I (by rw [turnL_len]; exact hJ) (by rw [turnL_len]; exact hI) q
        have b := h3 J I hJ hI q
        rw [gI, gJ] at a
        rw [less_asymm b] at a
        cases a
set_option maxRecDepth 100000 in
set_option maxHeartbeats 1000000 in
theorem labelRising_yes (b off : Nat) (l ml : List Str2) (cap : Nat) (i j : Int) (I J : Nat) (w : World) (aml : At2 w (some ⟨b, off, none⟩) ml) (cml : ml.length ≤ cap) (kml : ml.length ≤ 6) (k2 : 2 ≤ ml.length) (hc : cap ≤ maxLen)
    (iml : (if (6 : Int) < (l.length : Int) then (6 : Int) else (l.length : Int)) = (ml.length : Int)) (hM : mayL ml = true) (hI : I < ml.length) (hJ : J < ml.length)
    (ei : (wrap64 (i.tmod (ml.length : Int) + (ml.length : Int))).tmod (ml.length : Int) = (I : Int)) (ej : (wrap64 (j.tmod (ml.length : Int) + (ml.length : Int))).tmod (ml.length : Int) = (J : Int)) :
    Calls Try.prog 4 #[.slice (some ⟨b, off, none⟩) l.length cap, .int .i64 i, .int .i64 j] w fun e w' => e = .returned (.bool true) ∧ Below w.heap.size w w' := by
  have pml := min_cut iml
  obtain ⟨iP, hP⟩ : ∃ i : TypeInfo, Hid (Try.prog.info? 25 = some i ∧ i.zero = some (.agg #[.string ⟨#[]⟩, .string ⟨#[]⟩]) ∧ i.size = 2 ∧ i.bytes = 32) := by
    obtain ⟨i, h0, h1, h2, h3⟩ := info_parts infoP2
    exact ⟨i, h0, h1, h2, h3⟩
  go_enter Try.func4, Try.ntmps4
  go_wp2_with fail
  refine (begun_any _).mono ?_
  rintro e w1 ⟨rfl, hbw1⟩
  go_wp2_with (at_builtin; refine stand ?_)
  refine Calls.mono (may_v2 (some ⟨b, off, none⟩) ml ml.length cap _ rfl hM (aml.below hbw1)) ?_
  rintro e w2 ⟨rfl, hb2⟩
  have hbw2 : Below w.heap.size w w2 := hbw1.trans (hb2.mono hbw1.size)
  clear hb2
  go_wp2_with fail
  go_quiet (fail)
  clear ei ej pml iml
  have hbw3 : Below w.heap.size w (w2.drewN nq) := below_drewN hbw2 _
  obtain ⟨W3, hW3⟩ : ∃ W, W = w2.drewN nq := ⟨_, rfl⟩
  rw [← hW3] at hbw3 ⊢
  clear hW3 hbw2
  have q1 := news2 ((aml.below hbw3).take I)
  have q2 : ∀ bb, (if cap = I + 1 then some (⟨b, off, none⟩ : Addr) else some ⟨b, off + (I + 1) * 2, none⟩) = some bb → ∀ (j : Nat) (u : Value), ((ml.drop (I + 1)).flatMap cells2)[j]? = some u → W3.cell? (bb.add j) = some u := fun bb hbb j u hu => by
    by_cases hcc : cap = I + 1
    · rw [List.drop_eq_nil_of_le (by omega)] at hu
      cases hu
    · rw [if_neg hcc] at hbb
      cases hbb
      exact news_drop (aml.below hbw3) (I + 1) j u hu
  have q3 := news2 (aml.below hbw3)
  have hT : (ml.take I).length = I := by rw [List.length_take]; omega
  have hD : (ml.drop (I + 1)).length = ml.length - (I + 1) := List.length_drop
  have Q1 := Lib.hid q1
  have Q2 := Lib.hid q2
  have Q3 := Lib.hid q3
  have HT := Lib.hid hT
  have HD := Lib.hid hD
  clear q1 q2 q3 hT hD
  have z0 : (0 : Int) ≤ (I : Int) := by omega
  have z1 : (I : Int) ≤ (ml.length : Int) := by omega
  have z2 : (I : Int) ≤ (cap : Int) := by omega
  have z3 : IntKind.i64.wrap ((I : Int) + 1) = (I : Int) + 1 := by rw [IntWalk.i64_in _ (by omega)]
  have z4 : (0 : Int) ≤ (I : Int) + 1 := by omega
  have z5 : (I : Int) + 1 ≤ (ml.length : Int) := by omega
  have z6 : (ml.length : Int) ≤ (cap : Int) := by omega
  have z7 : (I : Int) + 1 ≤ (cap : Int) := by omega
  have y0 : (0 : Int) ≤ (J : Int) := by omega
  have y1 : (J : Int) < (ml.length : Int) := by omega
  have z9 : (I : Int) < (ml.length : Int) := by omega
  have HA := Lib.hid (aml.below hbw3)
  clear aml
  go_wp2_with fail
  have hbd : Below W3.heap.size W3 W3.drew := (Below.refl _ _).drew
  go_region_held3 (fun W => Below W3.heap.size W3 W)
    (first | exact hS5 | exact hS4 | go_keep)
    (first
      | (refine step_append_opt rfl _ _ 22 rfl W3.heap.size 25 iP _ 2 32 Try.underlying22 hP.out.1 hP.out.2.1 hP.out.2.2.1 hP.out.2.2.2 rfl (by decide) (.slice none 0 0) 0 [] rfl (World.ownsRow_nil _ _ 25 2) (some ⟨b, off, none⟩) I cap ((ml.take I).flatMap cells2) rfl (fun h => by cases h) (by rw [flat_len (sz := 2) (fun _ => rfl), HT.out]) (fun dd hd j u hu => cell_laterA (by assumption) (Q1.out dd hd j u hu)) (one2 _) (by unfold maxLen; omega) (by omega) (Below.size (by assumption)) ?_
         intro v4 w4 o4 g4
         have hS4 : Below W3.heap.size W3 w4 := Below.trans (by assumption) ((grown_nil g4).mono (Below.size (by assumption)))
         clear g4)
      | (refine step_append_opt rfl _ _ 22 rfl W3.heap.size 25 iP _ 2 32 Try.underlying22 hP.out.1 hP.out.2.1 hP.out.2.2.1 hP.out.2.2.2 rfl (by decide) v4 (0 + I) ([] ++ (ml.take I).flatMap cells2) rfl o4 _ _ _ ((ml.drop (I + 1)).flatMap cells2) rfl (fun h => by split at h <;> cases h) (by rw [flat_len (sz := 2) (fun _ => rfl), HD.out]) (fun dd hd j u hu => cell_laterA (by assumption) (Q2.out dd hd j u hu)) (one2 _) (by unfold maxLen; omega) (by omega) (Below.size (by assumption)) ?_
         intro v5 w5 o5 g5
         have hS5 : Below W3.heap.size W3 w5 := Below.trans (by assumption) (grown_below g5 o4 (Below.size (by assumption)))
         clear g5))
  generalize (if cap = I + 1 then some (⟨b, off, none⟩ : Addr) else some ⟨b, off + (I + 1) * 2, none⟩) = aa
  have hbw5 : Below w.heap.size w w5 := hbw3.trans (hS5.mono hbw3.size)
  have hA5 := HA.out.below hS5
  obtain ⟨a5, c5, rfl, _, _, _⟩ := own_len o5
  have hn5 : (ml.take I ++ ml.drop (I + 1)).length = 0 + I + (ml.length - (I + 1)) := by rw [List.length_append, HT.out, HD.out]; omega
  have hat5 : At2 w5 a5 (ml.take I ++ ml.drop (I + 1)) := own_at2 (l := ml.take I ++ ml.drop (I + 1)) (by simpa using o5) hn5
  clear hS4 o4 o5 Q1 Q2 Q3 HA hbd hS5 hbw3 HT HD z0 z2 z3 z4 z5 z7
  go_wp2_with (at_builtin; refine stand ?_)
  have q6 := news2 (hA5)
  show wpList _ _ _ _ _ _
  refine wpList_append_opt rfl _ _ 22 rfl w5.heap.size 25 iP _ 2 32 Try.underlying22 hP.out.1 hP.out.2.1 hP.out.2.2.1 hP.out.2.2.2 rfl (by decide) (.slice none 0 0) 0 [] rfl (World.ownsRow_nil _ _ 25 2) (some (⟨b, off, none⟩ : Addr)) ml.length cap (ml.flatMap cells2) rfl (fun h => by have := (show (some (⟨b, off, none⟩ : Addr) = none → cap = 0) from fun h => by cases h) h; omega) (by rw [flat_len (sz := 2) (fun _ => rfl)]) (fun d hd j u hu => cell_laterA (by first | exact ((Below.refl w5.heap.size w5).alloc (Below.refl w5.heap.size w5).size _).drew | exact (Below.refl w5.heap.size w5).alloc (Below.refl w5.heap.size w5).size _ | exact (Below.refl w5.heap.size w5).drew | exact (Below.refl w5.heap.size w5) | exact below_drewN ((Below.refl w5.heap.size w5).alloc (Below.refl w5.heap.size w5).size _) _) (q6 d hd j u hu)) (one2 _) (by unfold maxLen; omega) (by omega) (by first | exact ((Below.refl w5.heap.size w5)).size | exact Nat.le_trans ((Below.refl w5.heap.size w5)).size (by simp)) ?_
  intro v6 w6 o6 g6
  have b6 : Below w5.heap.size w5 w6 := Below.trans (by first | exact ((Below.refl w5.heap.size w5).alloc (Below.refl w5.heap.size w5).size _).drew | exact (Below.refl w5.heap.size w5).alloc (Below.refl w5.heap.size w5).size _ | exact (Below.refl w5.heap.size w5).drew | exact (Below.refl w5.heap.size w5) | exact below_drewN ((Below.refl w5.heap.size w5).alloc (Below.refl w5.heap.size w5).size _) _) (grown_below g6 (World.ownsRow_nil _ _ 25 2) (by first | exact ((Below.refl w5.heap.size w5)).size | exact Nat.le_trans ((Below.refl w5.heap.size w5)).size (by simp)))
  clear q6 g6
  (try simp only [Nat.zero_add, List.nil_append] at o6)
  obtain ⟨g, c6, rfl⟩ : ∃ g c, v6 = .slice (some ⟨g, 0, none⟩) ml.length c := by
    rcases o6.2 with ⟨_, e⟩ | ⟨g, c, cur, e, _⟩
    · omega
    · exact ⟨g, c, e⟩
  have hbw6 : Below w.heap.size w w6 := hbw5.trans (b6.mono hbw5.size)
  have hat6 := hat5.below b6
  have i0 : w6.cell? ⟨g, I * 2, none⟩ = some (.string (ml.getD I e2).1) := by
    rw [o6.cellAt (I * 2) (by omega), show I * 2 = I * 2 + 0 from rfl, flat_at (sz := 2) (d := e2) (fun _ => rfl) hI (by decide)]; rfl
  have i1 : w6.cell? ⟨g, I * 2 + 1, none⟩ = some (.string (ml.getD I e2).2) := by
    rw [o6.cellAt (I * 2 + 1) (by omega), flat_at (sz := 2) (d := e2) (fun _ => rfl) hI (by decide)]; rfl
  have j0 : w6.cell? ⟨g, J * 2, none⟩ = some (.string (ml.getD J e2).1) := by
    rw [o6.cellAt (J * 2) (by omega), show J * 2 = J * 2 + 0 from rfl, flat_at (sz := 2) (d := e2) (fun _ => rfl) hJ (by decide)]; rfl
  have j1 : w6.cell? ⟨g, J * 2 + 1, none⟩ = some (.string (ml.getD J e2).2) := by
    rw [o6.cellAt (J * 2 + 1) (by omega), flat_at (sz := 2) (d := e2) (fun _ => rfl) hJ (by decide)]; rfl
  have fz : ∀ o, w6.frozen? ⟨g, o, none⟩ = false := fun o => o6.frozenAt o
  have O6 := Lib.hid o6
  have A5 := Lib.hid hat5
  have BW5 := Lib.hid hbw5
  have B6 := Lib.hid b6
  have G5 : Hid (w5.heap.size ≤ g) := by
    show _ ≤ _
    rcases o6.2 with ⟨e, _⟩ | ⟨g', c, cur, e, h, _⟩
    · cases e
    · simp at e
      obtain ⟨rfl, _⟩ := e
      exact h
  rw [Nat.zero_add] at hn5
  clear hA5 hat5 b6 hbw5 o6 hat6 hbw6
  by_cases hIJ : I = J
  · subst hIJ
    generalize hpI : ml.getD I e2 = pI at i0 i1
    have hpJ := hpI
    clear j0 j1
    have j0 := i0
    have j1 := i1
    go_wp2_with fail
    go_region
    go_wp2_with fail
    generalize hW7 : (World.setCell _ _ _).drew = W7
    have B57 : Below w5.heap.size w5 W7 := by rw [← hW7]; exact ((((B6.out.setCell G5.out _).setCell G5.out _).setCell G5.out _).setCell G5.out _).drew
    have O7 : W7.ownsRow w5.heap.size 25 2 (.slice (some ⟨g, 0, none⟩) ml.length c6) ml.length ((turnL ml I I).flatMap cells2) := by
      unfold turnL
      rw [flat_set, flat_set]
      simp only [hpI, hpJ]
      rw [← hW7]
      exact own_below ((((O6.out.stored (I * 2) _).1.stored (I * 2 + 1) _).1.stored (I * 2) _).1.stored (I * 2 + 1) _).1 ((Below.refl _ _).drew)
    have hat7 : At2 W7 (some ⟨g, 0, none⟩) (turnL ml I I) := own_at2 O7 (turnL_len ml I I)
    have hl7 := A5.out.below B57
    have hbw7 : Below w.heap.size w W7 := BW5.out.trans (B57.mono BW5.out.size)
    clear hW7 O7 B57 O6 A5 BW5 i0 i1 j0 j1 fz
    refine Calls.mono (may_v2 a5 _ _ c5 _ hn5 (mayL_less hM I) hl7) ?_
    rintro e w8 ⟨rfl, hb8⟩
    have hbw8 : Below w.heap.size w w8 := hbw7.trans (hb8.mono hbw7.size)
    have hat8 := hat7.below hb8
    clear hb8 hl7 hat7 hbw7
    go_wp2_with (at_builtin; refine stand ?_)
    refine Calls.mono (may_v2 (v := true) (some ⟨g, 0, none⟩) (turnL ml I I) ml.length c6 _ (turnL_len ml I I) (by rw [mayL_turn hM hI hJ]; simp; try omega) hat8) ?_
    rintro e w9 ⟨rfl, hb9⟩
    have hbw9 : Below w.heap.size w w9 := hbw8.trans (hb9.mono hbw8.size)
    skip
    go_wp2
    go_ret
    exact ⟨rfl, hbw9⟩
  · have m0 : ¬ I * 2 = J * 2 := by omega
    have m1 : ¬ I * 2 = J * 2 + 1 := by omega
    have m2 : ¬ I * 2 + 1 = J * 2 := by omega
    have m3 : ¬ J * 2 = I * 2 := by omega
    have m4 : ¬ J * 2 = I * 2 + 1 := by omega
    have m5 : ¬ J * 2 + 1 = I * 2 := by omega
    generalize hpI : ml.getD I e2 = pI at i0 i1
    generalize hpJ : ml.getD J e2 = pJ at j0 j1
    have s0 : ∀ v, (w6.setCell ⟨g, I * 2, none⟩ v).cell? ⟨g, J * 2, none⟩ = some (.string pJ.1) := fun v => by
      rw [(O6.out.stored (I * 2) v).1.cellAt (J * 2) (by omega), List.getElem?_set_ne m0, ← j0, O6.out.cellAt (J * 2) (by omega)]
    go_wp2_with fail
    go_region
    go_wp2_with fail
    generalize hW7 : (World.setCell _ _ _).drew = W7
    have B57 : Below w5.heap.size w5 W7 := by rw [← hW7]; exact ((((B6.out.setCell G5.out _).setCell G5.out _).setCell G5.out _).setCell G5.out _).drew
    have O7 : W7.ownsRow w5.heap.size 25 2 (.slice (some ⟨g, 0, none⟩) ml.length c6) ml.length ((turnL ml I J).flatMap cells2) := by
      unfold turnL
      rw [flat_set, flat_set]
      simp only [hpI, hpJ]
      rw [← hW7]
      exact own_below ((((O6.out.stored (I * 2) _).1.stored (I * 2 + 1) _).1.stored (J * 2) _).1.stored (J * 2 + 1) _).1 ((Below.refl _ _).drew)
    have hat7 : At2 W7 (some ⟨g, 0, none⟩) (turnL ml I J) := own_at2 O7 (turnL_len ml I J)
    have hl7 := A5.out.below B57
    have hbw7 : Below w.heap.size w W7 := BW5.out.trans (B57.mono BW5.out.size)
    clear hW7 O7 B57 O6 A5 BW5 i0 i1 j0 j1 fz
    refine Calls.mono (may_v2 a5 _ _ c5 _ hn5 (mayL_less hM I) hl7) ?_
    rintro e w8 ⟨rfl, hb8⟩
    have hbw8 : Below w.heap.size w w8 := hbw7.trans (hb8.mono hbw7.size)
    have hat8 := hat7.below hb8
    clear hb8 hl7 hat7 hbw7
    go_wp2_with (at_builtin; refine stand ?_)
    refine Calls.mono (may_v2 (v := false) (some ⟨g, 0, none⟩) (turnL ml I J) ml.length c6 _ (turnL_len ml I J) (by rw [mayL_turn hM hI hJ]; simp; try omega) hat8) ?_
    rintro e w9 ⟨rfl, hb9⟩
    have hbw9 : Below w.heap.size w w9 := hbw8.trans (hb9.mono hbw8.size)
    have hne : ((I : Int) == (J : Int)) = false := by simp; omega
    go_wp2
    go_ret
    exact ⟨rfl, hbw9⟩

theorem refMay_v (a : Option Addr) (l : List Str2) (cap : Nat) (w : World) {v : Bool} (h : mayL l = v) (hl : At2 w a l) (hsz : ∀ i, i < l.length → (l.getD i e2).1.size ≤ maxLen ∧ (l.getD i e2).2.size ≤ maxLen) (hm : l.length ≤ 9) :
    Calls Try.prog 15 #[.slice a l.length cap] w fun e w' => e = .returned (.bool v) ∧ Below w.heap.size w w' := by
  subst h; exact refMayPairs_any a l cap w hl hsz hm
set_option maxRecDepth 100000 in
set_option maxHeartbeats 1000000 in
theorem labelRising_no (a : Option Addr) (l ml : List Str2) (cap : Nat) (i j : Int) (w : World) (aml : At2 w a ml) (cml : ml.length ≤ cap) (kml : ml.length ≤ 6) (hc : cap ≤ maxLen)
    (iml : (if (6 : Int) < (l.length : Int) then (6 : Int) else (l.length : Int)) = (ml.length : Int)) (hM : mayL ml = false ∨ ml.length < 2) (hsz : ∀ i, i < ml.length → (ml.getD i e2).1.size ≤ maxLen ∧ (ml.getD i e2).2.size ≤ maxLen) :
    Calls Try.prog 4 #[.slice a l.length cap, .int .i64 i, .int .i64 j] w fun e w' => e = .returned (.bool true) ∧ Below w.heap.size w w' := by
  have pml := min_cut iml
  obtain ⟨v, hv⟩ : ∃ v, mayL ml = v := ⟨_, rfl⟩
  have HV := Lib.hid hv
  have hM2 : v = false ∨ ml.length < 2 := by rw [← hv]; exact hM
  clear hv hM
  have HS := Lib.hid hsz
  clear hsz
  go_enter Try.func4, Try.ntmps4
  go_wp2_with fail
  refine (begun_any _).mono ?_
  rintro e w1 ⟨rfl, hbw1⟩
  go_wp2_with (at_builtin; refine stand ?_)
  refine Calls.mono (may_v2 a ml ml.length cap _ rfl HV.out (aml.below hbw1)) ?_
  rintro e w2 ⟨rfl, hb2⟩
  have hbw2 : Below w.heap.size w w2 := hbw1.trans (hb2.mono hbw1.size)
  clear hb2
  cases v
  · go_wp2_with (at_builtin; refine stand ?_)
    refine Calls.mono (may_v2 a ml ml.length cap _ rfl HV.out (aml.below hbw2)) ?_
    rintro e w3 ⟨rfl, hb3⟩
    have hbw3 : Below w.heap.size w w3 := hbw2.trans (hb3.mono hbw2.size)
    clear hb3
    go_wp2_with (at_builtin; refine stand ?_)
    refine Calls.mono (refMay_v a ml cap _ HV.out (aml.below hbw3) HS.out (by omega)) ?_
    rintro e w4 ⟨rfl, hb4⟩
    have hbw4 : Below w.heap.size w w4 := hbw3.trans (hb4.mono hbw3.size)
    clear hb4
    go_wp2
    go_ret
    exact ⟨rfl, hbw4⟩
  · have k2 : ml.length < 2 := by rcases hM2 with h | h; (cases h); exact h
    go_wp2_with (at_builtin; refine stand ?_)
    refine Calls.mono (may_v2 a ml ml.length cap _ rfl HV.out (aml.below hbw2)) ?_
    rintro e w3 ⟨rfl, hb3⟩
    have hbw3 : Below w.heap.size w w3 := hbw2.trans (hb3.mono hbw2.size)
    clear hb3
    go_wp2_with (at_builtin; refine stand ?_)
    refine Calls.mono (refMay_v a ml cap _ HV.out (aml.below hbw3) HS.out (by omega)) ?_
    rintro e w4 ⟨rfl, hb4⟩
    have hbw4 : Below w.heap.size w w4 := hbw3.trans (hb4.mono hbw3.size)
    clear hb4
    go_wp2
    go_ret
    exact ⟨rfl, hbw4⟩

theorem labelRising_walk (a : Option Addr) (l : List Str2) (cap : Nat) (i j : Int) (w : World) (hl : At2 w a l) (h1 : l.length ≤ cap) (hc : cap ≤ maxLen) (hsz : ∀ i, i < l.length → (l.getD i e2).1.size ≤ maxLen ∧ (l.getD i e2).2.size ≤ maxLen) :
    Calls Try.prog 4 #[.slice a l.length cap, .int .i64 i, .int .i64 j] w fun e w' => e = .returned (.bool true) ∧ Below w.heap.size w w' := by
  obtain ⟨ml, eml, iml, jml, kml⟩ := cut_of l 6
  have aml := hl.take 6
  rw [← eml] at aml
  have cml : ml.length ≤ cap := by omega
  simp only [Int.cast_ofNat_Int] at iml
  have sml : ∀ i, i < ml.length → (ml.getD i e2).1.size ≤ maxLen ∧ (ml.getD i e2).2.size ≤ maxLen := fun i hi => by
    have e : ml.getD i e2 = l.getD i e2 := by subst eml; exact getD_take hi
    rw [e]
    exact hsz i (by omega)
  by_cases hno : mayL ml = false ∨ ml.length < 2
  · exact labelRising_no a l ml cap i j w aml cml kml hc iml hno sml
  · have hM : mayL ml = true := by
      cases h : mayL ml
      · exact absurd (Or.inl h) hno
      · rfl
    have k2 : 2 ≤ ml.length := by
      rcases Nat.lt_or_ge ml.length 2 with h | h
      · exact absurd (Or.inr h) hno
      · exact h
    obtain ⟨b, off, rfl, _⟩ := aml 0 (by omega)
    obtain ⟨I, hI, ei⟩ := turn_nat i (n := ml.length) (by omega) (by omega)
    obtain ⟨J, hJ, ej⟩ := turn_nat j (n := ml.length) (by omega) (by omega)
    exact labelRising_yes b off l ml cap i j I J w aml cml kml k2 hc iml hM hI hJ ei ej
end Go.Proofs.Ytnimplldkambhab
