/-
  The law TaintMore's walk. No conditions beyond what is written in each statement.
-/
import Derived.Test.YtnimplldkambhabLReg
set_option linter.unusedSimpArgs false
set_option linter.unusedVariables false
namespace Go.Proofs.Ytnimplldkambhab
open Go.RowKit

theorem all_v (la : Option Addr) (tols : List Tol) (ln lcap : Nat) (ta : Option Addr) (ts : List Str2) (tn tcap : Nat) (w : World) {r : Bool} (e1 : tols.length = ln) (e2 : ts.length = tn) (h : allB tols ts = r) (hl : AtL w la tols) (ht : At2 w ta ts) (hm : ts.length ≤ 9) :
    Calls Try.prog 19 #[.slice la ln lcap, .slice ta tn tcap] w fun e w' => e = .returned (.bool r) ∧ Below w.heap.size w w' := by
  subst e1 e2 h; exact all_any la tols lcap ta ts tcap w hl ht (by omega)
theorem all_front (a : List Tol) (t : Tol) (ts : List Str2) (h : allB a ts = true) : allB (a ++ [t]) ts = true := by
  unfold allB borneB at *
  rw [List.all_eq_true] at *
  intro x hx
  rw [List.any_append, h x hx]; rfl
theorem all_back (a : List Tol) (ts : List Str2) (x : Str2) (h : allB a (ts ++ [x]) = true) : allB a ts = true := by
  unfold allB at *
  rw [List.all_append, Bool.and_eq_true] at h
  exact h.1
abbrev boxL (k v : ByteArray) (c : Bool) : Obj := .cells #[.string k, .string v, .bool c] 43
abbrev boxN (x y : ByteArray) : Obj := .cells #[.string x, .string y] 44
set_option maxRecDepth 100000 in
set_option maxHeartbeats 8000000 in
theorem taintMore_walk (a : Option Addr) (l : List Tol) (cap : Nat) (b : Option Addr) (x : List Str2) (cb : Nat) (k v : ByteArray) (c : Bool) (xk xv : ByteArray) (w : World) (hl : AtL w a l) (hx : At2 w b x) (h1 : l.length ≤ cap) (h2 : x.length ≤ cb)
    (m1 : cap ≤ maxLen) (m2 : cb ≤ maxLen) (n1 : a = none → cap = 0) (n2 : b = none → cb = 0) :
    Calls Try.prog 7 #[.slice a l.length cap, .slice b x.length cb, .agg #[.string k, .string v, .bool c], .agg #[.string xk, .string xv]] w fun e w' => e = .returned (.bool true) ∧ Below w.heap.size w w' := by
  obtain ⟨ml, eml, iml, jml, kml⟩ := cut_of l 5
  have aml := hl.take 5
  rw [← eml] at aml
  have cml : ml.length ≤ cap := by omega
  simp only [Int.cast_ofNat_Int] at iml
  clear eml jml
  obtain ⟨mx, emx, imx, jmx, kmx⟩ := cut_of x 5
  have amx := hx.take 5
  rw [← emx] at amx
  have cmx : mx.length ≤ cb := by omega
  simp only [Int.cast_ofNat_Int] at imx
  clear emx jmx
  clear h1 h2 m1 m2 hl hx
  obtain ⟨iL, hL⟩ : ∃ i : TypeInfo, Hid (Try.prog.info? 43 = some i ∧ i.zero = some (.agg #[.string ⟨#[]⟩, .string ⟨#[]⟩, .bool false]) ∧ i.size = 3 ∧ i.bytes = 40) := by
    obtain ⟨i, h0, h1, h2, h3⟩ := info_parts infoL2
    exact ⟨i, h0, h1, h2, h3⟩
  obtain ⟨iN, hN⟩ : ∃ i : TypeInfo, Hid (Try.prog.info? 44 = some i ∧ i.zero = some (.agg #[.string ⟨#[]⟩, .string ⟨#[]⟩]) ∧ i.size = 2 ∧ i.bytes = 32) := by
    obtain ⟨i, h0, h1, h2, h3⟩ := info_parts infoN2
    exact ⟨i, h0, h1, h2, h3⟩
  go_enter Try.func7, Try.ntmps7
  go_wp2_with fail
  refine (begun_any _).mono ?_
  rintro e w1 ⟨rfl, hb1⟩
  have f0 : w1.cell? ⟨w.heap.size, 0, none⟩ = some (.string k) := (hb1.cell (p := ⟨w.heap.size, 0, none⟩) (by simp; omega)).trans (by simp [go_sem])
  have f1 : w1.cell? ⟨w.heap.size, 1, none⟩ = some (.string v) := (hb1.cell (p := ⟨w.heap.size, 1, none⟩) (by simp; omega)).trans (by simp [go_sem])
  have f2 : w1.cell? ⟨w.heap.size, 2, none⟩ = some (.bool c) := (hb1.cell (p := ⟨w.heap.size, 2, none⟩) (by simp; omega)).trans (by simp [go_sem])
  have g0 : w1.cell? ⟨w.heap.size + 1, 0, none⟩ = some (.string xk) := (hb1.cell (p := ⟨w.heap.size + 1, 0, none⟩) (by simp)).trans (by simp [go_sem])
  have g1 : w1.cell? ⟨w.heap.size + 1, 1, none⟩ = some (.string xv) := (hb1.cell (p := ⟨w.heap.size + 1, 1, none⟩) (by simp)).trans (by simp [go_sem])
  have hbw1 : Below w.heap.size w w1 := (((Below.refl _ _).alloc (Nat.le_refl _) _).alloc (by simp) _).trans (hb1.mono (by simp; omega))
  clear hb1
  go_wp2_with fail
  go_quiet (fail)
  have hbw2 : Below w.heap.size w (w1.drewN nq) := below_drewN hbw1 _
  obtain ⟨A, hA⟩ : ∃ A, allB ml mx = A := ⟨_, rfl⟩
  have HA := Lib.hid hA
  clear hA imx iml
  go_wp2_with (at_builtin; refine stand ?_)
  refine Calls.mono (all_v a ml ml.length cap b mx mx.length cb _ rfl rfl HA.out (aml.below hbw2) (amx.below hbw2) (by omega)) ?_
  rintro e w3 ⟨rfl, hb3⟩
  have hb13 : Below w1.heap.size w1 w3 := (below_drewN (Below.refl _ _) _).trans (hb3.mono (by simp))
  have hbw3 : Below w.heap.size w w3 := hbw1.trans (hb13.mono hbw1.size)
  have p0 := cell_laterA hb13 f0
  have p1 := cell_laterA hb13 f1
  have p2 := cell_laterA hb13 f2
  have r0 := cell_laterA hb13 g0
  have r1 := cell_laterA hb13 g1
  clear f0 f1 f2 g0 g1 hb3 hb13 hbw1 hbw2
  have qa := news3 (aml.below hbw3)
  have hbd : Below w3.heap.size w3 w3.drew := (Below.refl _ _).drew
  go_wp2_with fail
  have hlt3 : w.heap.size < w3.heap.size := cell_lt' p0
  obtain ⟨B, hB⟩ : ∃ B, allB (ml ++ [(k, v, c)]) mx = B := ⟨_, rfl⟩
  have HBB := Lib.hid hB
  obtain ⟨C, hC⟩ : ∃ C, allB ml (mx ++ [(xk, xv)]) = C := ⟨_, rfl⟩
  have HC := Lib.hid hC
  clear hB hC
  go_region_held_law (fun W => Below w3.heap.size w3 W ∧ W.cell? ⟨w.heap.size, 0, none⟩ = some (.string k) ∧ W.cell? ⟨w.heap.size, 1, none⟩ = some (.string v) ∧ W.cell? ⟨w.heap.size, 2, none⟩ = some (.bool c))
    (first | exact hS6 | exact hS5 | exact hS4 | exact s3_alloc (by assumption) _ | go_keep)
    (first
      | (refine step_append_opt rfl _ _ 40 rfl w3.heap.size 43 iL _ 3 40 Try.underlying40 hL.out.1 hL.out.2.1 hL.out.2.2.1 hL.out.2.2.2 rfl (by decide) (.slice none 0 0) 0 [] rfl (World.ownsRow_nil _ _ 43 3) a ml.length cap (ml.flatMap cells3) rfl (fun h => by have := n1 h; omega) (by rw [flat_len (sz := 3) (fun _ => rfl)]) (fun dd hd j u hu => cell_laterA (And.left (by assumption)) (qa dd hd j u hu)) (one3 _) (by unfold maxLen; omega) (by omega) (Below.size (And.left (by assumption))) ?_
         intro v4 w4 o4 g4
         have hS4 := s3_later (by assumption) (grown_nil g4)
         have kB := grown_kept g4
         clear g4)
      | (refine step_append_opt rfl _ _ 40 rfl w3.heap.size 43 iL _ 3 40 Try.underlying40 hL.out.1 hL.out.2.1 hL.out.2.2.1 hL.out.2.2.2 rfl (by decide) v4 (0 + ml.length) ([] ++ ml.flatMap cells3) rfl (by first | exact o4 | exact o4.alloc _) (some ⟨_, 0, none⟩) 1 1 [.string k, .string v, .bool c] rfl (fun h => by cases h) rfl (fun dd hd j u hu => by cases hd; first | exact new_cells _ _ _ j u hu | exact World.news_of_block (kB _ _ (heap_alloc_self _ _)) j u hu) (by simp [Value.oneCell']) (by unfold maxLen; omega) (by omega) (Below.size (And.left (by assumption))) ?_
         intro v5 w5 o5 g5
         have hS5 := s3_grown (by assumption) (grown_below g5 (by first | exact o4 | exact o4.alloc _) (Below.size (And.left (by assumption)))) hlt3
         obtain ⟨a5, c5, rfl, _, _, _⟩ := own_len o5
         have hat5 : AtL w5 a5 (ml ++ [(k, v, c)]) := own_atL (l := ml ++ [(k, v, c)]) (by simpa [cells3] using o5) (by simp)
         clear g5 kB o4 o5)
      | (go_at_call 19
         refine Calls.mono (all_v a5 (ml ++ [(k, v, c)]) _ c5 b mx mx.length cb _ (by simp) rfl HBB.out hat5 (amx.below (hbw3.trans (hS5.1.mono hbw3.size))) (by omega)) ?_
         rintro e w6 ⟨rfl, hb6⟩
         have hS6 := s3_later hS5 hb6
         clear hb6 hat5))
  all_goals
    have hbw6 : Below w.heap.size w w6 := hbw3.trans (hS6.1.mono hbw3.size)
    have t0 := cell_laterA hS6.1 r0
    have t1 := cell_laterA hS6.1 r1
    have hlt6 : w.heap.size + 1 < w6.heap.size := cell_lt' t0
    have qb := news2 (amx.below hbw6)
    have aml6 := aml.below hbw6
    have hbd6 : Below w6.heap.size w6 w6.drew := (Below.refl _ _).drew
    have hAB := Lib.hid (fun h : A = true => show B = true by rw [← HBB.out]; exact all_front ml (k, v, c) mx (by rw [HA.out, h]))
    have hCA := Lib.hid (fun h : C = true => show A = true by rw [← HA.out]; exact all_back ml mx (xk, xv) (by rw [HC.out, h]))
    clear hS4 hS5 hS6 r0 r1 p0 p1 p2 qa hbd hbw3 hlt3 aml amx n1 hL
    go_wp2_with fail
    go_region_held_law (fun W => Below w6.heap.size w6 W ∧ W.cell? ⟨w.heap.size + 1, 0, none⟩ = some (.string xk) ∧ W.cell? ⟨w.heap.size + 1, 1, none⟩ = some (.string xv))
      (first | exact hS9 | exact hS8 | exact hS7 | exact s2_alloc (by assumption) _ | go_keep)
      (first
        | (refine step_append_opt rfl _ _ 41 rfl w6.heap.size 44 iN _ 2 32 Try.underlying41 hN.out.1 hN.out.2.1 hN.out.2.2.1 hN.out.2.2.2 rfl (by decide) (.slice none 0 0) 0 [] rfl (World.ownsRow_nil _ _ 44 2) b mx.length cb (mx.flatMap cells2) rfl (fun h => by have := n2 h; omega) (by rw [flat_len (sz := 2) (fun _ => rfl)]) (fun dd hd j u hu => cell_laterA (And.left (by assumption)) (qb dd hd j u hu)) (one2 _) (by unfold maxLen; omega) (by omega) (Below.size (And.left (by assumption))) ?_
           intro v7 w7 o7 g7
           have hS7 := s2_later (by assumption) (grown_nil g7)
           have kB := grown_kept g7
           clear g7)
        | (refine step_append_opt rfl _ _ 41 rfl w6.heap.size 44 iN _ 2 32 Try.underlying41 hN.out.1 hN.out.2.1 hN.out.2.2.1 hN.out.2.2.2 rfl (by decide) v7 (0 + mx.length) ([] ++ mx.flatMap cells2) rfl (by first | exact o7 | exact o7.alloc _) (some ⟨_, 0, none⟩) 1 1 [.string xk, .string xv] rfl (fun h => by cases h) rfl (fun dd hd j u hu => by cases hd; first | exact new_cells _ _ _ j u hu | exact World.news_of_block (kB _ _ (heap_alloc_self _ _)) j u hu) (by simp [Value.oneCell']) (by unfold maxLen; omega) (by omega) (Below.size (And.left (by assumption))) ?_
           intro v8 w8 o8 g8
           have hS8 := s2_grown (by assumption) (grown_below g8 (by first | exact o7 | exact o7.alloc _) (Below.size (And.left (by assumption)))) hlt6
           obtain ⟨a8, c8, rfl, _, _, _⟩ := own_len o8
           have hat8 : At2 w8 a8 (mx ++ [(xk, xv)]) := own_at2 (l := mx ++ [(xk, xv)]) (by simpa [cells2] using o8) (by simp)
           clear g8 kB o7 o8)
        | (go_at_call 19
           refine Calls.mono (all_v a ml ml.length cap a8 (mx ++ [(xk, xv)]) _ c8 _ rfl (by simp) HC.out (aml6.below hS8.1) hat8 (by simp; omega)) ?_
           rintro e w9 ⟨rfl, hb9⟩
           have hS9 := s2_later hS8 hb9
           clear hb9 hat8))
    all_goals
      have hbw9 : Below w.heap.size w w9 := hbw6.trans (hS9.1.mono hbw6.size)
      clear hS7 hS8 hS9 HA HBB HC
      cases A <;> cases B <;> cases C <;> first
        | (exfalso; have h := hAB.out rfl; cases h; done)
        | (exfalso; have h := hCA.out rfl; cases h; done)
        | (go_wp2; go_ret; exact ⟨rfl, hbw9⟩)
end Go.Proofs.Ytnimplldkambhab
