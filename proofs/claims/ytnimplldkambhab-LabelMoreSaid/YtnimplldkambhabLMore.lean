/-
  The law LabelMore's walk. No conditions beyond what is written in each statement.
-/
import Derived.Test.YtnimplldkambhabLReg
import Derived.Deep.RegionHeld3
set_option linter.unusedSimpArgs false
set_option linter.unusedVariables false
namespace Go.Proofs.Ytnimplldkambhab
open Go.RowKit

abbrev boxP (x y : ByteArray) : Obj := .cells #[.string x, .string y] 25
theorem getL_app (m : List Str2) (p : Str2) (key : ByteArray) : getL (m ++ [p]) key = match getL m key with | some v => some v | none => if p.1 = key then some p.2 else none := by
  induction m with
  | nil => simp [getL]
  | cons x r ih =>
    by_cases h : x.1 = key
    · simp [getL, h]
    · simp only [List.cons_append, getL, if_neg h]
      exact ih
def MoreP (kind : Int) (A B : Bool) : Prop := (kind = 1 ∨ kind = 3 → A = true → B = true) ∧ (kind = 2 ∨ kind = 4 → B = true → A = true) ∧ (¬ (kind = 1 ∨ kind = 3) → ¬ (kind = 2 ∨ kind = 4) → A = false ∧ B = false)
theorem more_facts (key : ByteArray) (kind : Int) (vals : List ByteArray) (m : List Str2) (p : Str2) : MoreP kind (holdsB key kind vals m) (holdsB key kind vals (m ++ [p])) := by
  have h := getL_app m p key
  unfold MoreP holdsB getOk getV
  cases hm : getL m key with
  | none =>
    rw [hm] at h
    refine ⟨?_, ?_, ?_⟩
    · rintro (rfl | rfl) <;> simp
    · rintro (rfl | rfl) <;> simp
    · intro a b
      have : kind ≠ 1 ∧ kind ≠ 2 ∧ kind ≠ 3 ∧ kind ≠ 4 := by omega
      simp [this.1, this.2.1, this.2.2.1, this.2.2.2]
  | some v =>
    rw [hm] at h
    simp only at h
    rw [h]
    refine ⟨?_, ?_, ?_⟩
    · intro _ e; exact e
    · intro _ e; exact e
    · intro a b
      have : kind ≠ 1 ∧ kind ≠ 2 ∧ kind ≠ 3 ∧ kind ≠ 4 := by omega
      simp [this.1, this.2.1, this.2.2.1, this.2.2.2]

theorem atT_alloc {W : World} {key : ByteArray} {kind : Int} {va : Option Addr} {vcap : Nat} {vals : List ByteArray} {B : Nat} (hB : W.heap[B]? = some (.cells #[.string key, .int .i64 kind, .slice va vals.length vcap] 34)) (hv : At1 W va vals) : AtT W (some ⟨B, 0, none⟩) [⟨key, kind, vals⟩] :=
  AtT.one (Array.getElem?_eq_some_iff.1 hB).1 (cell_of_obj hB 0) (cell_of_obj hB 1) (cell_of_obj hB 2) hv
theorem heap_alloc2 (W : World) (o o' : Obj) : ((W.alloc o).alloc o').heap[W.heap.size]? = some o := by
  rw [Below.heap_alloc _ _ _ (by simp)]
  exact heap_alloc_self W o
theorem heap_alloc3 (W : World) (o o' : Obj) : ((W.alloc o).alloc o').heap[W.heap.size + 1]? = some o' := by
  have := heap_alloc_self (W.alloc o) o'
  simpa using this

set_option maxRecDepth 100000 in
set_option maxHeartbeats 8000000 in
theorem labelMore_walk (b : Option Addr) (x : List Trm) (cb : Nat) (d : Option Addr) (l : List Str2) (cap : Nat) (pk pv : ByteArray) (w : World) (hx : AtT w b x) (hl : At2 w d l) (h1 : x.length ≤ cb) (h2 : l.length ≤ cap) (m1 : cb ≤ maxLen) (m2 : cap ≤ maxLen) (n2 : d = none → cap = 0) :
    Calls Try.prog 5 #[.slice b x.length cb, .slice d l.length cap, .agg #[.string pk, .string pv]] w fun e w' => e = .returned (.bool true) ∧ Below w.heap.size w w' := by
  obtain ⟨mx, emx, imx, jmx, kmx⟩ := cut_of x 4
  have amx := hx.take 4
  rw [← emx] at amx
  have cmx : mx.length ≤ cb := by omega
  simp only [Int.cast_ofNat_Int] at imx
  clear emx jmx
  obtain ⟨ml, eml, iml, jml, kml⟩ := cut_of l 5
  have aml := hl.take 5
  rw [← eml] at aml
  have cml : ml.length ≤ cap := by omega
  simp only [Int.cast_ofNat_Int] at iml
  clear eml jml
  clear h1 h2 m1 m2 hl hx
  obtain ⟨iP, hP⟩ : ∃ i : TypeInfo, Hid (Try.prog.info? 25 = some i ∧ i.zero = some (.agg #[.string ⟨#[]⟩, .string ⟨#[]⟩]) ∧ i.size = 2 ∧ i.bytes = 32) := by
    obtain ⟨i, h0, h1, h2, h3⟩ := info_parts infoP2
    exact ⟨i, h0, h1, h2, h3⟩
  go_enter Try.func5, Try.ntmps5
  go_wp2_with fail
  refine (begun_any _).mono ?_
  rintro e w1 ⟨rfl, hb1⟩
  have f0 : w1.cell? ⟨w.heap.size, 0, none⟩ = some (.string pk) := (hb1.cell (p := ⟨w.heap.size, 0, none⟩) (by simp)).trans (by simp [go_sem])
  have f1 : w1.cell? ⟨w.heap.size, 1, none⟩ = some (.string pv) := (hb1.cell (p := ⟨w.heap.size, 1, none⟩) (by simp)).trans (by simp [go_sem])
  have hbw1 : Below w.heap.size w w1 := ((Below.refl _ _).alloc (Nat.le_refl _) _).trans (hb1.mono (by simp))
  clear hb1
  go_wp2_with fail
  go_quiet (fail)
  have hb12 : Below w1.heap.size w1 (w1.drewN nq) := below_drewN (Below.refl _ _) _
  obtain ⟨w3, hw3⟩ : ∃ w3, w1.drewN nq = w3 := ⟨_, rfl⟩
  rw [hw3] at hb12
  rw [hw3]
  clear hw3
  have hbw3 : Below w.heap.size w w3 := hbw1.trans (hb12.mono hbw1.size)
  have p0 := cell_laterA hb12 f0
  have p1 := cell_laterA hb12 f1
  have hlt3 : w.heap.size < w3.heap.size := cell_lt' p0
  have qa := news2 (aml.below hbw3)
  have hbd : Below w3.heap.size w3 w3.drew := (Below.refl _ _).drew
  clear f0 f1 hb12 hbw1
  go_wp2_with fail
  go_region_held_law (fun W => Below w3.heap.size w3 W ∧ W.cell? ⟨w.heap.size, 0, none⟩ = some (.string pk) ∧ W.cell? ⟨w.heap.size, 1, none⟩ = some (.string pv))
    (first | exact hS5 | exact hS4 | exact s2_alloc (by assumption) _ | go_keep)
    (first
      | (refine step_append_opt rfl _ _ 22 rfl w3.heap.size 25 iP _ 2 32 Try.underlying22 hP.out.1 hP.out.2.1 hP.out.2.2.1 hP.out.2.2.2 rfl (by decide) (.slice none 0 0) 0 [] rfl (World.ownsRow_nil _ _ 25 2) d ml.length cap (ml.flatMap cells2) rfl (fun h => by have := n2 h; omega) (by rw [flat_len (sz := 2) (fun _ => rfl)]) (fun dd hd j u hu => cell_laterA (And.left (by assumption)) (qa dd hd j u hu)) (one2 _) (by unfold maxLen; omega) (by omega) (Below.size (And.left (by assumption))) ?_
         intro v4 w4 o4 g4
         have hS4 := s2_later (by assumption) (grown_nil g4)
         have kB := grown_kept g4
         clear g4)
      | (refine step_append_opt rfl _ _ 22 rfl w3.heap.size 25 iP _ 2 32 Try.underlying22 hP.out.1 hP.out.2.1 hP.out.2.2.1 hP.out.2.2.2 rfl (by decide) v4 (0 + ml.length) ([] ++ ml.flatMap cells2) rfl (by first | exact o4 | exact o4.alloc _) (some ⟨_, 0, none⟩) 1 1 [.string pk, .string pv] rfl (fun h => by cases h) rfl (fun dd hd j u hu => by cases hd; first | exact new_cells _ _ _ j u hu | exact World.news_of_block (kB _ _ (heap_alloc_self _ _)) j u hu) (by simp [Value.oneCell']) (by unfold maxLen; omega) (by omega) (Below.size (And.left (by assumption))) ?_
         intro v5 w5 o5 g5
         have hS5 := s2_grown (by assumption) (grown_below g5 (by first | exact o4 | exact o4.alloc _) (Below.size (And.left (by assumption)))) hlt3
         obtain ⟨a5, c5, rfl, _, _, _⟩ := own_len o5
         have hat5 : At2 w5 a5 (ml ++ [(pk, pv)]) := own_at2 (l := ml ++ [(pk, pv)]) (by simpa [cells2] using o5) (by simp)
         clear g5 kB o4 o5))
  all_goals
    have hbw5 : Below w.heap.size w w5 := hbw3.trans (hS5.1.mono hbw3.size)
    have aml5 := aml.below hbw5
    have amx5 := amx.below hbw5
    have hn5 : (ml ++ [(pk, pv)]).length = 0 + ml.length + 1 := by simp
    clear hS4 hS5 p0 p1 qa hbd hbw3 hlt3 aml amx n2 hP imx iml
    go_wp2_with fail
    go_loopw [33] (fun i wr => ∃ k : Nat, k ≤ mx.length ∧ i = .int .i64 k ∧ Below w5.heap.size w5 wr) (fun i _ => mx.length - (intOf i).toNat)
    case atStart => exact ⟨0, Nat.zero_le _, rfl, Below.refl _ _⟩
    case round =>
      obtain ⟨k, hk, rfl, hbel⟩ := hrel
      by_cases hlt : k < mx.length
      · obtain ⟨b', off, va, vcap, ha, hb', d0, d1, d2, hv⟩ := amx5.2 k hlt
        have c0 := cell_later hbel d0
        have c1 := cell_later hbel d1
        have c2 := cell_later hbel d2
        have hv1 := hv.below hbel
        have amlr := aml5.below hbel
        have hatr := hat5.below hbel
        have HF := Lib.hid (more_facts (mx.getD k t0).key (mx.getD k t0).kind (mx.getD k t0).vals ml (pk, pv))
        have HBEL := Lib.hid hbel
        clear d0 d1 d2 hv amx5 aml5 hat5 hbel
        subst ha
        generalize hq : mx.getD k t0 = q at c0 c1 c2 hv1 HF
        obtain ⟨q0, q1, q2⟩ := q
        simp only at c0 c1 c2 hv1 HF
        clear hq
        obtain ⟨A, hA⟩ : ∃ A, holdsB q0 q1 q2 ml = A := ⟨_, rfl⟩
        obtain ⟨B, hB⟩ : ∃ B, holdsB q0 q1 q2 (ml ++ [(pk, pv)]) = B := ⟨_, rfl⟩
        rw [hA, hB] at HF
        have HA := Lib.hid ((match_1 q0 q1 q2 ml).trans hA)
        have HBB := Lib.hid ((match_1 q0 q1 q2 (ml ++ [(pk, pv)])).trans hB)
        clear hA hB
        have hbx : ∀ o : Obj, Below wr.heap.size wr (wr.alloc o) := fun o => (Below.refl _ _).alloc (Nat.le_refl _) o
        go_wp2_with fail
        obtain ⟨wb, hwb⟩ : ∃ wb, wr.alloc (.cells #[.string q0, .int .i64 q1, .slice va q2.length vcap] 34) = wb := ⟨_, rfl⟩
        have y0 : wb.cell? ⟨wr.heap.size, 0, none⟩ = some (.string q0) := by rw [← hwb]; simp [go_sem]
        have y1 : wb.cell? ⟨wr.heap.size, 1, none⟩ = some (.int .i64 q1) := by rw [← hwb]; simp [go_sem]
        have y2 : wb.cell? ⟨wr.heap.size, 2, none⟩ = some (.slice va q2.length vcap) := by rw [← hwb]; simp [go_sem]
        have hbb : Below wr.heap.size wr wb := by rw [← hwb]; exact hbx _
        rw [hwb]
        clear hwb hbx c0 c1 c2
        have hvb := hv1.below hbb
        have amlb := amlr.below hbb
        have hatb := hatr.below hbb
        have HBB2 := Lib.hid (HBEL.out.trans (hbb.mono HBEL.out.size))
        clear hv1 amlr hatr hbb HBEL
        have hbd2 : Below wb.heap.size wb wb.drew := (Below.refl _ _).drew
        have k1 : ∀ o : Obj, (wb.alloc o).drew.heap[wb.heap.size]? = some o := fun o => heap_alloc_self wb o
        have k2 : ∀ o o' : Obj, ((wb.alloc o).alloc o').drew.heap[wb.heap.size]? = some o := fun o o' => heap_alloc2 wb o o'
        have k3 : ∀ o o' : Obj, ((wb.alloc o).alloc o').drew.heap[wb.heap.size + 1]? = some o' := fun o o' => heap_alloc3 wb o o'
        have K1 := Lib.hid k1
        have K2 := Lib.hid k2
        have K3 := Lib.hid k3
        clear k1 k2 k3
        have A1 : ∀ (W : World) (N : Nat), (Below wb.heap.size wb W ∧ W.cell? ⟨wr.heap.size, 0, none⟩ = some (.string q0) ∧ W.cell? ⟨wr.heap.size, 1, none⟩ = some (.int .i64 q1) ∧ W.cell? ⟨wr.heap.size, 2, none⟩ = some (.slice va q2.length vcap)) → W.heap[N]? = some (.cells #[.string q0, .int .i64 q1, .slice va q2.length vcap] 34) →
            Calls Try.prog 16 #[.slice (some ⟨N, 0, none⟩) 1 1, .slice d ml.length cap] W fun e w' => e = .returned (.bool A) ∧ Below W.heap.size W w' := fun W N hS hN =>
          match_v _ [⟨q0, q1, q2⟩] 1 1 d ml cap W rfl HA.out (atT_alloc hN (hvb.below hS.1)) (amlb.below hS.1) (by omega)
        have A2 : ∀ (W : World) (N : Nat), (Below wb.heap.size wb W ∧ W.cell? ⟨wr.heap.size, 0, none⟩ = some (.string q0) ∧ W.cell? ⟨wr.heap.size, 1, none⟩ = some (.int .i64 q1) ∧ W.cell? ⟨wr.heap.size, 2, none⟩ = some (.slice va q2.length vcap)) → W.heap[N]? = some (.cells #[.string q0, .int .i64 q1, .slice va q2.length vcap] 34) →
            Calls Try.prog 16 #[.slice (some ⟨N, 0, none⟩) 1 1, .slice a5 (ml.length + 1) c5] W fun e w' => e = .returned (.bool B) ∧ Below W.heap.size W w' := fun W N hS hN => by
          have h := match_v _ [⟨q0, q1, q2⟩] 1 1 a5 (ml ++ [(pk, pv)]) c5 W rfl HBB.out (atT_alloc hN (hvb.below hS.1)) (hatb.below hS.1) (by simp; omega)
          rw [show (ml ++ [(pk, pv)]).length = ml.length + 1 by simp] at h
          exact h
        have HA1 := Lib.hid A1
        have HA2 := Lib.hid A2
        have HHF := Lib.hid HF
        clear A1 A2 HA HBB hvb amlb hatb HF
        go_region_held_law (fun W => Below wb.heap.size wb W ∧ W.cell? ⟨wr.heap.size, 0, none⟩ = some (.string q0) ∧ W.cell? ⟨wr.heap.size, 1, none⟩ = some (.int .i64 q1) ∧ W.cell? ⟨wr.heap.size, 2, none⟩ = some (.slice va q2.length vcap))
          (first | exact hS7 | exact hS6 | exact s3_alloc (by assumption) _ | go_keep)
          (first
            | (go_at_call 16
               with_reducible show Calls Try.prog 16 #[_, .slice d ml.length cap] _ _
               refine Calls.mono (HA1.out _ _ (by assumption) (by first | exact K1.out _ | exact K2.out _ _ | exact K3.out _ _)) ?_
               rintro e w6 ⟨rfl, hb6⟩
               have hS6 := s3_later (by assumption) hb6)
            | (go_at_call 16
               with_reducible show Calls Try.prog 16 #[_, .slice a5 (ml.length + 1) c5] _ _
               refine Calls.mono (HA2.out _ _ (by assumption) (by first | (with_reducible exact heap_alloc_self w6 _) | (with_reducible exact (hb6.block _ (by simp <;> omega)).trans (K2.out _ _)) | (with_reducible exact (hb6.block _ (by simp <;> omega)).trans (K3.out _ _)))) ?_
               rintro e w7 ⟨rfl, hb7⟩
               have hS7 := s3_later (by assumption) hb7))
        all_goals
          have hcz := hS7.2.2.1
          have hbw7 : Below w5.heap.size w5 w7 := HBB2.out.trans (hS7.1.mono HBB2.out.size)
          obtain ⟨f1, f2, f3⟩ := HHF.out.out
          clear hS6 hS7 hb6 hb7 K1 K2 K3 HA1 HA2 hbd2 HHF y0 y1 y2
          by_cases g1 : q1 = 1
          · subst g1
            have f1 := f1 (Or.inl rfl)
            clear f2 f3
            cases A <;> cases B <;> first
              | (exfalso; have h := f1 rfl; cases h; done)
              | (go_wp2; go_roundw; (case rel => exact ⟨k + 1, by omega, by go_num, hbw7⟩); (case measure => simp [intOf]; omega))
          · by_cases g3 : q1 = 3
            · subst g3
              have f1 := f1 (Or.inr rfl)
              clear f2 f3
              cases A <;> cases B <;> first
                | (exfalso; have h := f1 rfl; cases h; done)
                | (go_wp2; go_roundw; (case rel => exact ⟨k + 1, by omega, by go_num, hbw7⟩); (case measure => simp [intOf]; omega))
            · by_cases g2 : q1 = 2
              · subst g2
                have f2 := f2 (Or.inl rfl)
                clear f1 f3
                cases A <;> cases B <;> first
                  | (exfalso; have h := f2 rfl; cases h; done)
                  | (go_wp2; go_roundw; (case rel => exact ⟨k + 1, by omega, by go_num, hbw7⟩); (case measure => simp [intOf]; omega))
              · by_cases g4 : q1 = 4
                · subst g4
                  have f2 := f2 (Or.inr rfl)
                  clear f1 f3
                  cases A <;> cases B <;> first
                    | (exfalso; have h := f2 rfl; cases h; done)
                    | (go_wp2; go_roundw; (case rel => exact ⟨k + 1, by omega, by go_num, hbw7⟩); (case measure => simp [intOf]; omega))
                · obtain ⟨rfl, rfl⟩ := f3 (by omega) (by omega)
                  clear f1 f2
                  go_wp2
                  go_roundw
                  case rel => exact ⟨k + 1, by omega, by go_num, hbw7⟩
                  case measure => simp [intOf]; omega
      · go_wp2
        go_ret
        exact ⟨rfl, hbw5.trans (hbel.mono hbw5.size)⟩
end Go.Proofs.Ytnimplldkambhab
