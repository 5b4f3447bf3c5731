/-
  The law LabelTerms's walk. No conditions beyond what is written in each statement.
-/
import Derived.Test.YtnimplldkambhabLReg
import Derived.Test.YtnimplldkambhabRef3
import Derived.Test.YtnimplldkambhabConv
import Derived.Deep.RegionHeld3
set_option linter.unusedSimpArgs false
set_option linter.unusedVariables false
namespace Go.Proofs.Ytnimplldkambhab
open Go.RowKit

theorem infoS2 : (Try.prog.info? 9).map (fun i => (i.zero, i.size, i.bytes)) = some (some (.string ⟨#[]⟩), 1, 16) := by kernel_rfl
def letS (j : Nat) : ByteArray := ⟨#[UInt8.ofNat (97 + j)]⟩
def lets (n : Nat) : List ByteArray := (List.range n).map letS
theorem lets_len (n : Nat) : (lets n).length = n := by simp [lets]
theorem lets_succ (n : Nat) : strCells (lets (n + 1)) = strCells (lets n) ++ [.string (letS n)] := by
  unfold lets
  rw [List.range_succ, List.map_append]
  show List.flatMap _ _ = _
  rw [List.flatMap_append]
  rfl
def wantB (k n : Nat) : Bool := (decide (k = 1 ∨ k = 2) && decide (1 ≤ n ∧ n ≤ 6)) || (decide (k = 3 ∨ k = 4) && decide (n = 0))
theorem want_all : ((List.range 6).all fun k => (List.range 9).all fun n => decide (mayT [⟨tZone, (k : Int), lets n⟩] = wantB k n)) = true := by kernel_rfl
theorem want_is {k n : Nat} (hk : k < 6) (hn : n < 9) : mayT [⟨tZone, (k : Int), lets n⟩] = wantB k n := by
  have h1 := List.all_eq_true.1 want_all k (List.mem_range.2 hk)
  have h2 := List.all_eq_true.1 h1 n (List.mem_range.2 hn)
  simpa using h2
theorem mayT_v (ta : Option Addr) (ts : List Trm) (n tcap : Nat) (w : World) {v : Bool} (hn : ts.length = n) (h : mayT ts = v) (ht : AtT w ta ts) :
    Calls Try.prog 17 #[.slice ta n tcap] w fun e w' => e = .returned (.bool v) ∧ Below w.heap.size w w' := by
  subst hn h; exact mayTerms_any ta ts tcap w ht
theorem refT_v (ta : Option Addr) (ts : List Trm) (n tcap : Nat) (w : World) {v : Bool} (hn : ts.length = n) (h : mayT ts = v) (ht : AtT w ta ts) (hz : ∀ t ∈ ts, SzT t) (h9 : ts.length ≤ 9) :
    Calls Try.prog 18 #[.slice ta n tcap] w fun e w' => e = .returned (.bool v) ∧ Below w.heap.size w w' := by
  subst hn h; exact refMayTerms_any ta ts tcap w ht hz h9
theorem atT_new {W : World} {key : ByteArray} {kind : Int} {va : Option Addr} {vcap : Nat} {vals : List ByteArray} {B : Nat} (hB : W.heap[B]? = some (.cells #[.string key, .int .i64 kind, .slice va vals.length vcap] 34)) (hv : At1 W va vals) : AtT W (some ⟨B, 0, none⟩) [⟨key, kind, vals⟩] :=
  AtT.one (Array.getElem?_eq_some_iff.1 hB).1 (cell_of_obj hB 0) (cell_of_obj hB 1) (cell_of_obj hB 2) hv
theorem heap_allocA (W : World) (o o' : Obj) : ((W.alloc o).alloc o').heap[W.heap.size]? = some o := by
  rw [Below.heap_alloc _ _ _ (by simp)]
  exact heap_alloc_self W o
theorem heap_allocB (W : World) (o o' : Obj) : ((W.alloc o).alloc o').heap[W.heap.size + 1]? = some o' := by
  have := heap_alloc_self (W.alloc o) o'
  simpa using this
theorem no_key : mayT [⟨⟨#[]⟩, 3, []⟩] = false := by kernel_rfl
theorem conv_let (w : World) (k : Nat) (hk : k < 9) : (convert 37 9 (.slice (some ⟨w.heap.size, 0, none⟩) 1 1)).run Try.prog (w.alloc (.cells #[.int .u8 (97 + (k : Int))] 5)) = .ok (.string (letS k)) (w.alloc (.cells #[.int .u8 (97 + (k : Int))] 5)) := by
  have h := conv_b (w.alloc (.cells #[.int .u8 (97 + (k : Int))] 5)) (some ⟨w.heap.size, 0, none⟩) [97 + (k : Int)] 1 1 rfl (Or.inr ⟨_, _, rfl⟩) (fun i hi => by
    obtain rfl : i = 0 := by simp at hi; omega
    refine ⟨_, _, rfl, by simp, by simp [go_sem], ?_, ?_⟩ <;> simp <;> omega)
  rw [h]
  have e : strOfNums [97 + (k : Int)] = letS k := by
    unfold strOfNums letS
    have : (97 + (k : Int)).toNat = 97 + k := by omega
    simp [this]
  rw [e]

set_option maxRecDepth 100000 in
set_option maxHeartbeats 8000000 in
theorem labelTerms_walk (key : ByteArray) (kind : Int) (va : Option Addr) (vals : List ByteArray) (vcap : Nat) (n : Int) (w : World) (hv : At1 w va vals) (hz : SzT ⟨key, kind, vals⟩) :
    Calls Try.prog 6 #[.agg #[.string key, .int .i64 kind, .slice va vals.length vcap], .int .i64 n] w fun e w' => e = .returned (.bool true) ∧ Below w.heap.size w w' := by
  obtain ⟨N, hN, eN⟩ : ∃ k : Nat, k < 9 ∧ (wrap64 (n.tmod 9 + 9)).tmod 9 = (k : Int) := by
    have b := turn_in n (n := 9) (by omega) (by omega)
    exact ⟨((wrap64 (n.tmod 9 + 9)).tmod 9).toNat, by omega, by omega⟩
  obtain ⟨iS, hS⟩ : ∃ i : TypeInfo, Hid (Try.prog.info? 9 = some i ∧ i.zero = some (.string ⟨#[]⟩) ∧ i.size = 1 ∧ i.bytes = 16) := by
    obtain ⟨i, h0, h1, h2, h3⟩ := info_parts infoS2
    exact ⟨i, h0, h1, h2, h3⟩
  go_enter Try.func6, Try.ntmps6
  go_wp2_with fail
  refine (begun_any _).mono ?_
  rintro e w1 ⟨rfl, hb1⟩
  have f0 : w1.cell? ⟨w.heap.size, 0, none⟩ = some (.string key) := (hb1.cell (p := ⟨w.heap.size, 0, none⟩) (by simp)).trans (by simp [go_sem])
  have f1 : w1.cell? ⟨w.heap.size, 1, none⟩ = some (.int .i64 kind) := (hb1.cell (p := ⟨w.heap.size, 1, none⟩) (by simp)).trans (by simp [go_sem])
  have f2 : w1.cell? ⟨w.heap.size, 2, none⟩ = some (.slice va vals.length vcap) := (hb1.cell (p := ⟨w.heap.size, 2, none⟩) (by simp)).trans (by simp [go_sem])
  have hbw1 : Below w.heap.size w w1 := ((Below.refl _ _).alloc (Nat.le_refl _) _).trans (hb1.mono (by simp))
  clear hb1
  go_wp2_with fail
  go_loopw [6, 7] (fun u i wr => ∃ k : Nat, k ≤ N ∧ i = .int .i64 k ∧ wr.ownsRow w1.heap.size 9 1 u k (strCells (lets k)) ∧ Below w1.heap.size w1 wr) (fun _ i _ => N - (intOf i).toNat)
  case atStart => exact ⟨0, Nat.zero_le _, rfl, World.ownsRow_nil _ _ 9 1, Below.refl _ _⟩
  case round =>
    obtain ⟨k, hk, rfl, own, hbel⟩ := hrel
    by_cases hlt : k < N
    · have hcv := conv_let wr k (by omega)
      have hu8 : IntKind.u8.wrap (97 + (k : Int)) = 97 + (k : Int) := IntWalk.u8_in _ (by omega)
      go_wp2_with (at_builtin; refine stand ?_)
      show wpList _ _ _ _ _ _
      refine wpList_append_own _ rfl _ _ 32 rfl w1.heap.size 9 iS _ 1 16 Try.underlying32 hS.out.1 hS.out.2.1 hS.out.2.2.1 hS.out.2.2.2 rfl (by decide) u6 k (strCells (lets k)) rfl ((own.alloc _).alloc _) ⟨wr.heap.size + 1, 0, none⟩ 1 1 [.string (letS k)] rfl rfl
        (fun j u hu => by have h := new_cells (wr.alloc (.cells #[.int .u8 (97 + (k : Int))] 5)) #[Value.string (letS k)] 9 j u hu; simpa using h) (by simp [Value.oneCell']) (by unfold maxLen; omega) (by omega) (by have := hbel.size; simp; omega) ?_
      intro v4 w4 o4 g4 hnil
      have b4 : Below w1.heap.size w1 w4 := ((hbel.alloc hbel.size _).alloc (by have := hbel.size; simp; omega) _).trans (grown_below g4 ((own.alloc _).alloc _) (by have := hbel.size; simp; omega))
      rw [← lets_succ] at o4
      clear g4 hnil own hbel hcv hu8
      go_wp2
      go_roundw
      case rel => exact ⟨k + 1, by omega, by go_num, o4, b4⟩
      case measure => simp [intOf]; omega
    · obtain rfl : k = N := by omega
      obtain ⟨a6, c6, rfl, _, _, _⟩ := own_len own
      have hat : At1 wr a6 (lets k) := by
        have h := At1_of (w := wr) (N := w1.heap.size) (a := a6) (cap := c6) (l := lets k) (by show World.ownsRow wr w1.heap.size 9 1 (.slice a6 (lets k).length c6) (lets k).length (strCells (lets k)); rw [lets_len]; exact own) (by rw [lets_len]; omega)
        exact h
      have hbwr : Below w.heap.size w wr := hbw1.trans (hbel.mono hbw1.size)
      have p0 := cell_laterA hbel f0
      have p1 := cell_laterA hbel f1
      have p2 := cell_laterA hbel f2
      clear own f0 f1 f2 hbel eN hlt hk
      rcases Nat.eq_zero_or_pos k with rfl | kpos
      · go_wp2_with fail
        rw [show ((0 : Nat) : Int) = 0 from rfl]
        go_loopw [8] (fun i w5 => ∃ j : Nat, j ≤ 6 ∧ i = .int .i64 j ∧ Below wr.heap.size wr w5) (fun i _ => 6 - (intOf i).toNat)
        case atStart => exact ⟨0, by omega, rfl, Below.refl _ _⟩
        case round =>
          obtain ⟨j, hj, rfl, hb5⟩ := hrel
          by_cases hlt : j < 6
          · have hat2 := hat.below hb5
            have hjs : j = 0 ∨ j = 1 ∨ j = 2 ∨ j = 3 ∨ j = 4 ∨ j = 5 := by omega
            clear hj hlt
            rcases hjs with rfl | rfl | rfl | rfl | rfl | rfl
            · have hw : mayT [⟨tZone, ((0 : Nat) : Int), lets 0⟩] = false := by rw [want_is (by omega) (by omega)]; simp [wantB] <;> omega
              go_wp2_with fail
              refine Calls.mono (mayT_v _ [⟨tZone, ((0 : Nat) : Int), lets 0⟩] 1 1 _ rfl hw (AtT.one (by simp) (by simp [go_sem]; rfl) (by simp [go_sem]) (by simp [go_sem, lets_len]; first | exact ⟨rfl, rfl⟩ | rfl) (hat2.below (((Below.refl _ _).alloc (Nat.le_refl _) _).alloc (by simp) _)))) ?_
              rintro e w7 ⟨rfl, hb7⟩
              have hb57 := hb5.trans ((((Below.refl _ _).alloc (Nat.le_refl _) _).alloc (by simp) _).trans (hb7.mono (by simp; try omega)) |>.mono hb5.size)
              clear hb7 hb5 hat2
              go_wp2
              go_roundw
              case rel => exact ⟨0 + 1, by omega, by go_num, hb57⟩
              case measure => simp [intOf]
            · have hw : mayT [⟨tZone, ((1 : Nat) : Int), lets 0⟩] = false := by rw [want_is (by omega) (by omega)]; simp [wantB] <;> omega
              go_wp2_with fail
              refine Calls.mono (mayT_v _ [⟨tZone, ((1 : Nat) : Int), lets 0⟩] 1 1 _ rfl hw (AtT.one (by simp) (by simp [go_sem]; rfl) (by simp [go_sem]) (by simp [go_sem, lets_len]; first | exact ⟨rfl, rfl⟩ | rfl) (hat2.below (((Below.refl _ _).alloc (Nat.le_refl _) _).alloc (by simp) _)))) ?_
              rintro e w7 ⟨rfl, hb7⟩
              have hb57 := hb5.trans ((((Below.refl _ _).alloc (Nat.le_refl _) _).alloc (by simp) _).trans (hb7.mono (by simp; try omega)) |>.mono hb5.size)
              clear hb7 hb5 hat2
              go_wp2
              go_roundw
              case rel => exact ⟨1 + 1, by omega, by go_num, hb57⟩
              case measure => simp [intOf]
            · have hw : mayT [⟨tZone, ((2 : Nat) : Int), lets 0⟩] = false := by rw [want_is (by omega) (by omega)]; simp [wantB] <;> omega
              go_wp2_with fail
              refine Calls.mono (mayT_v _ [⟨tZone, ((2 : Nat) : Int), lets 0⟩] 1 1 _ rfl hw (AtT.one (by simp) (by simp [go_sem]; rfl) (by simp [go_sem]) (by simp [go_sem, lets_len]; first | exact ⟨rfl, rfl⟩ | rfl) (hat2.below (((Below.refl _ _).alloc (Nat.le_refl _) _).alloc (by simp) _)))) ?_
              rintro e w7 ⟨rfl, hb7⟩
              have hb57 := hb5.trans ((((Below.refl _ _).alloc (Nat.le_refl _) _).alloc (by simp) _).trans (hb7.mono (by simp; try omega)) |>.mono hb5.size)
              clear hb7 hb5 hat2
              go_wp2
              go_roundw
              case rel => exact ⟨2 + 1, by omega, by go_num, hb57⟩
              case measure => simp [intOf]
            · have hw : mayT [⟨tZone, ((3 : Nat) : Int), lets 0⟩] = true := by rw [want_is (by omega) (by omega)]; simp [wantB] <;> omega
              go_wp2_with fail
              refine Calls.mono (mayT_v _ [⟨tZone, ((3 : Nat) : Int), lets 0⟩] 1 1 _ rfl hw (AtT.one (by simp) (by simp [go_sem]; rfl) (by simp [go_sem]) (by simp [go_sem, lets_len]; first | exact ⟨rfl, rfl⟩ | rfl) (hat2.below (((Below.refl _ _).alloc (Nat.le_refl _) _).alloc (by simp) _)))) ?_
              rintro e w7 ⟨rfl, hb7⟩
              have hb57 := hb5.trans ((((Below.refl _ _).alloc (Nat.le_refl _) _).alloc (by simp) _).trans (hb7.mono (by simp; try omega)) |>.mono hb5.size)
              clear hb7 hb5 hat2
              go_wp2
              go_roundw
              case rel => exact ⟨3 + 1, by omega, by go_num, hb57⟩
              case measure => simp [intOf]
            · have hw : mayT [⟨tZone, ((4 : Nat) : Int), lets 0⟩] = true := by rw [want_is (by omega) (by omega)]; simp [wantB] <;> omega
              go_wp2_with fail
              refine Calls.mono (mayT_v _ [⟨tZone, ((4 : Nat) : Int), lets 0⟩] 1 1 _ rfl hw (AtT.one (by simp) (by simp [go_sem]; rfl) (by simp [go_sem]) (by simp [go_sem, lets_len]; first | exact ⟨rfl, rfl⟩ | rfl) (hat2.below (((Below.refl _ _).alloc (Nat.le_refl _) _).alloc (by simp) _)))) ?_
              rintro e w7 ⟨rfl, hb7⟩
              have hb57 := hb5.trans ((((Below.refl _ _).alloc (Nat.le_refl _) _).alloc (by simp) _).trans (hb7.mono (by simp; try omega)) |>.mono hb5.size)
              clear hb7 hb5 hat2
              go_wp2
              go_roundw
              case rel => exact ⟨4 + 1, by omega, by go_num, hb57⟩
              case measure => simp [intOf]
            · have hw : mayT [⟨tZone, ((5 : Nat) : Int), lets 0⟩] = false := by rw [want_is (by omega) (by omega)]; simp [wantB] <;> omega
              go_wp2_with fail
              refine Calls.mono (mayT_v _ [⟨tZone, ((5 : Nat) : Int), lets 0⟩] 1 1 _ rfl hw (AtT.one (by simp) (by simp [go_sem]; rfl) (by simp [go_sem]) (by simp [go_sem, lets_len]; first | exact ⟨rfl, rfl⟩ | rfl) (hat2.below (((Below.refl _ _).alloc (Nat.le_refl _) _).alloc (by simp) _)))) ?_
              rintro e w7 ⟨rfl, hb7⟩
              have hb57 := hb5.trans ((((Below.refl _ _).alloc (Nat.le_refl _) _).alloc (by simp) _).trans (hb7.mono (by simp; try omega)) |>.mono hb5.size)
              clear hb7 hb5 hat2
              go_wp2
              go_roundw
              case rel => exact ⟨5 + 1, by omega, by go_num, hb57⟩
              case measure => simp [intOf]
          · obtain ⟨wb, hwb⟩ : ∃ x, x = wr := ⟨_, rfl⟩
            rw [← hwb] at hb5 ⊢
            clear hwb
            have y0 := cell_laterA hb5 p0
            have y1 := cell_laterA hb5 p1
            have y2 := cell_laterA hb5 p2
            have hbwb := hbwr.trans (hb5.mono hbwr.size)
            have hvb := hv.below hbwb
            obtain ⟨M, hM⟩ : ∃ M, mayT [⟨key, kind, vals⟩] = M := ⟨_, rfl⟩
            have HM := Lib.hid hM
            have HZ := Lib.hid hz
            obtain rfl : j = 6 := by omega
            clear hat hbwr p0 p1 p2 hb5 hlt hj hM hz hv
            go_wp2_with fail
            have hbd : Below wb.heap.size wb wb.drew := (Below.refl _ _).drew
            have k1 : ∀ o : Obj, (wb.alloc o).drew.heap[wb.heap.size]? = some o := fun o => heap_alloc_self wb o
            have k2 : ∀ o o' : Obj, ((wb.alloc o).alloc o').drew.heap[wb.heap.size]? = some o := fun o o' => heap_allocA wb o o'
            have k3 : ∀ o o' : Obj, ((wb.alloc o).alloc o').drew.heap[wb.heap.size + 1]? = some o' := fun o o' => heap_allocB wb o o'
            have K1 := Lib.hid k1
            have K2 := Lib.hid k2
            have K3 := Lib.hid k3
            have A1 : ∀ (W : World) (N : Nat), (Below wb.heap.size wb W ∧ W.cell? ⟨w.heap.size, 0, none⟩ = some (.string key) ∧ W.cell? ⟨w.heap.size, 1, none⟩ = some (.int .i64 kind) ∧ W.cell? ⟨w.heap.size, 2, none⟩ = some (.slice va vals.length vcap)) → W.heap[N]? = some (.cells #[.string key, .int .i64 kind, .slice va vals.length vcap] 34) →
                Calls Try.prog 17 #[.slice (some ⟨N, 0, none⟩) 1 1] W fun e w' => e = .returned (.bool M) ∧ Below W.heap.size W w' := fun W N hS hN => mayT_v _ [⟨key, kind, vals⟩] 1 1 W rfl HM.out (atT_new hN (hvb.below hS.1))
            have A2 : ∀ (W : World) (N : Nat), (Below wb.heap.size wb W ∧ W.cell? ⟨w.heap.size, 0, none⟩ = some (.string key) ∧ W.cell? ⟨w.heap.size, 1, none⟩ = some (.int .i64 kind) ∧ W.cell? ⟨w.heap.size, 2, none⟩ = some (.slice va vals.length vcap)) → W.heap[N]? = some (.cells #[.string key, .int .i64 kind, .slice va vals.length vcap] 34) →
                Calls Try.prog 18 #[.slice (some ⟨N, 0, none⟩) 1 1] W fun e w' => e = .returned (.bool M) ∧ Below W.heap.size W w' := fun W N hS hN => refT_v _ [⟨key, kind, vals⟩] 1 1 W rfl HM.out (atT_new hN (hvb.below hS.1)) (by intro t ht; simp at ht; subst ht; exact HZ.out) (by simp)
            have A3 : ∀ (W : World) (N : Nat), W.heap[N]? = some (.cells #[.string ⟨#[]⟩, .int .i64 3, .slice none 0 0] 34) →
                Calls Try.prog 17 #[.slice (some ⟨N, 0, none⟩) 1 1] W fun e w' => e = .returned (.bool false) ∧ Below W.heap.size W w' := fun W N hN => mayT_v _ [⟨⟨#[]⟩, 3, []⟩] 1 1 W rfl no_key (atT_new (va := none) (vcap := 0) (vals := []) hN (At1.nil _))
            have A4 : ∀ (W : World), Calls Try.prog 17 #[.slice none 0 0] W fun e w' => e = .returned (.bool true) ∧ Below W.heap.size W w' := fun W => mayT_v none [] 0 0 W rfl rfl (AtT.nil _ _)
            have HA1 := Lib.hid A1
            have HA2 := Lib.hid A2
            have HA3 := Lib.hid A3
            have HA4 := Lib.hid A4
            clear k1 k2 k3 A1 A2 A3 A4 HM HZ hvb
            go_region_held_law (fun W => Below wb.heap.size wb W ∧ W.cell? ⟨w.heap.size, 0, none⟩ = some (.string key) ∧ W.cell? ⟨w.heap.size, 1, none⟩ = some (.int .i64 kind) ∧ W.cell? ⟨w.heap.size, 2, none⟩ = some (.slice va vals.length vcap))
              (first | exact hS9 | exact hS8 | exact hS7 | exact hS6 | exact s3_alloc (by assumption) _ | go_keep)
              (first
                | (go_at_call 17
                   with_reducible show Calls Try.prog 17 #[.slice none 0 0] _ _
                   refine Calls.mono (HA4.out _) ?_
                   rintro e w9 ⟨rfl, hb9⟩
                   have hS9 := s3_later (by assumption) hb9)
                | (go_at_call 18
                   refine Calls.mono (HA2.out _ _ (by assumption) (by first | (with_reducible exact heap_alloc_self w6 _) | (with_reducible exact (hb6.block _ (by simp <;> omega)).trans (K2.out _ _)) | (with_reducible exact (hb6.block _ (by simp <;> omega)).trans (K3.out _ _)))) ?_
                   rintro e w7 ⟨rfl, hb7⟩
                   have hS7 := s3_later (by assumption) hb7)
                | (go_at_call 17
                   refine Calls.mono (HA3.out _ _ (by with_reducible exact heap_alloc_self w7 _)) ?_
                   rintro e w8 ⟨rfl, hb8⟩
                   have hS8 := s3_later (by assumption) hb8)
                | (go_at_call 17
                   refine Calls.mono (HA1.out _ _ (by assumption) (by with_reducible first | exact K1.out _ | exact K2.out _ _ | exact K3.out _ _)) ?_
                   rintro e w6 ⟨rfl, hb6⟩
                   have hS6 := s3_later (by assumption) hb6))
            all_goals
              have hbw9 : Below w.heap.size w w9 := hbwb.trans (hS9.1.mono hbwb.size)
              go_wp2
              go_ret
              exact ⟨rfl, hbw9⟩
      · go_wp2_with fail
        go_loopw [8] (fun i w5 => ∃ j : Nat, j ≤ 6 ∧ i = .int .i64 j ∧ Below wr.heap.size wr w5) (fun i _ => 6 - (intOf i).toNat)
        case atStart => exact ⟨0, by omega, rfl, Below.refl _ _⟩
        case round =>
          obtain ⟨j, hj, rfl, hb5⟩ := hrel
          by_cases hlt : j < 6
          · have hat2 := hat.below hb5
            have hjs : j = 0 ∨ j = 1 ∨ j = 2 ∨ j = 3 ∨ j = 4 ∨ j = 5 := by omega
            have hks : k ≤ 6 ∨ 7 ≤ k := by omega
            clear hj hlt
            rcases hks with k2 | k7
            · rcases hjs with rfl | rfl | rfl | rfl | rfl | rfl
              · have hw : mayT [⟨tZone, ((0 : Nat) : Int), lets k⟩] = false := by rw [want_is (by omega) (by omega)]; simp [wantB] <;> omega
                go_wp2_with fail
                refine Calls.mono (mayT_v _ [⟨tZone, ((0 : Nat) : Int), lets k⟩] 1 1 _ rfl hw (AtT.one (by simp) (by simp [go_sem]; rfl) (by simp [go_sem]) (by simp [go_sem, lets_len]; first | exact ⟨rfl, rfl⟩ | rfl) (hat2.below (((Below.refl _ _).alloc (Nat.le_refl _) _).alloc (by simp) _)))) ?_
                rintro e w7 ⟨rfl, hb7⟩
                have hb57 := hb5.trans ((((Below.refl _ _).alloc (Nat.le_refl _) _).alloc (by simp) _).trans (hb7.mono (by simp; try omega)) |>.mono hb5.size)
                clear hb7 hb5 hat2
                go_wp2
                go_roundw
                case rel => exact ⟨0 + 1, by omega, by go_num, hb57⟩
                case measure => simp [intOf]
              · have hw : mayT [⟨tZone, ((1 : Nat) : Int), lets k⟩] = true := by rw [want_is (by omega) (by omega)]; simp [wantB] <;> omega
                go_wp2_with fail
                refine Calls.mono (mayT_v _ [⟨tZone, ((1 : Nat) : Int), lets k⟩] 1 1 _ rfl hw (AtT.one (by simp) (by simp [go_sem]; rfl) (by simp [go_sem]) (by simp [go_sem, lets_len]; first | exact ⟨rfl, rfl⟩ | rfl) (hat2.below (((Below.refl _ _).alloc (Nat.le_refl _) _).alloc (by simp) _)))) ?_
                rintro e w7 ⟨rfl, hb7⟩
                have hb57 := hb5.trans ((((Below.refl _ _).alloc (Nat.le_refl _) _).alloc (by simp) _).trans (hb7.mono (by simp; try omega)) |>.mono hb5.size)
                clear hb7 hb5 hat2
                go_wp2
                go_roundw
                case rel => exact ⟨1 + 1, by omega, by go_num, hb57⟩
                case measure => simp [intOf]
              · have hw : mayT [⟨tZone, ((2 : Nat) : Int), lets k⟩] = true := by rw [want_is (by omega) (by omega)]; simp [wantB] <;> omega
                go_wp2_with fail
                refine Calls.mono (mayT_v _ [⟨tZone, ((2 : Nat) : Int), lets k⟩] 1 1 _ rfl hw (AtT.one (by simp) (by simp [go_sem]; rfl) (by simp [go_sem]) (by simp [go_sem, lets_len]; first | exact ⟨rfl, rfl⟩ | rfl) (hat2.below (((Below.refl _ _).alloc (Nat.le_refl _) _).alloc (by simp) _)))) ?_
                rintro e w7 ⟨rfl, hb7⟩
                have hb57 := hb5.trans ((((Below.refl _ _).alloc (Nat.le_refl _) _).alloc (by simp) _).trans (hb7.mono (by simp; try omega)) |>.mono hb5.size)
                clear hb7 hb5 hat2
                go_wp2
                go_roundw
                case rel => exact ⟨2 + 1, by omega, by go_num, hb57⟩
                case measure => simp [intOf]
              · have hw : mayT [⟨tZone, ((3 : Nat) : Int), lets k⟩] = false := by rw [want_is (by omega) (by omega)]; simp [wantB] <;> omega
                go_wp2_with fail
                refine Calls.mono (mayT_v _ [⟨tZone, ((3 : Nat) : Int), lets k⟩] 1 1 _ rfl hw (AtT.one (by simp) (by simp [go_sem]; rfl) (by simp [go_sem]) (by simp [go_sem, lets_len]; first | exact ⟨rfl, rfl⟩ | rfl) (hat2.below (((Below.refl _ _).alloc (Nat.le_refl _) _).alloc (by simp) _)))) ?_
                rintro e w7 ⟨rfl, hb7⟩
                have hb57 := hb5.trans ((((Below.refl _ _).alloc (Nat.le_refl _) _).alloc (by simp) _).trans (hb7.mono (by simp; try omega)) |>.mono hb5.size)
                clear hb7 hb5 hat2
                go_wp2
                go_roundw
                case rel => exact ⟨3 + 1, by omega, by go_num, hb57⟩
                case measure => simp [intOf]
              · have hw : mayT [⟨tZone, ((4 : Nat) : Int), lets k⟩] = false := by rw [want_is (by omega) (by omega)]; simp [wantB] <;> omega
                go_wp2_with fail
                refine Calls.mono (mayT_v _ [⟨tZone, ((4 : Nat) : Int), lets k⟩] 1 1 _ rfl hw (AtT.one (by simp) (by simp [go_sem]; rfl) (by simp [go_sem]) (by simp [go_sem, lets_len]; first | exact ⟨rfl, rfl⟩ | rfl) (hat2.below (((Below.refl _ _).alloc (Nat.le_refl _) _).alloc (by simp) _)))) ?_
                rintro e w7 ⟨rfl, hb7⟩
                have hb57 := hb5.trans ((((Below.refl _ _).alloc (Nat.le_refl _) _).alloc (by simp) _).trans (hb7.mono (by simp; try omega)) |>.mono hb5.size)
                clear hb7 hb5 hat2
                go_wp2
                go_roundw
                case rel => exact ⟨4 + 1, by omega, by go_num, hb57⟩
                case measure => simp [intOf]
              · have hw : mayT [⟨tZone, ((5 : Nat) : Int), lets k⟩] = false := by rw [want_is (by omega) (by omega)]; simp [wantB] <;> omega
                go_wp2_with fail
                refine Calls.mono (mayT_v _ [⟨tZone, ((5 : Nat) : Int), lets k⟩] 1 1 _ rfl hw (AtT.one (by simp) (by simp [go_sem]; rfl) (by simp [go_sem]) (by simp [go_sem, lets_len]; first | exact ⟨rfl, rfl⟩ | rfl) (hat2.below (((Below.refl _ _).alloc (Nat.le_refl _) _).alloc (by simp) _)))) ?_
                rintro e w7 ⟨rfl, hb7⟩
                have hb57 := hb5.trans ((((Below.refl _ _).alloc (Nat.le_refl _) _).alloc (by simp) _).trans (hb7.mono (by simp; try omega)) |>.mono hb5.size)
                clear hb7 hb5 hat2
                go_wp2
                go_roundw
                case rel => exact ⟨5 + 1, by omega, by go_num, hb57⟩
                case measure => simp [intOf]
            · rcases hjs with rfl | rfl | rfl | rfl | rfl | rfl
              · have hw : mayT [⟨tZone, ((0 : Nat) : Int), lets k⟩] = false := by rw [want_is (by omega) (by omega)]; simp [wantB] <;> omega
                go_wp2_with fail
                refine Calls.mono (mayT_v _ [⟨tZone, ((0 : Nat) : Int), lets k⟩] 1 1 _ rfl hw (AtT.one (by simp) (by simp [go_sem]; rfl) (by simp [go_sem]) (by simp [go_sem, lets_len]; first | exact ⟨rfl, rfl⟩ | rfl) (hat2.below (((Below.refl _ _).alloc (Nat.le_refl _) _).alloc (by simp) _)))) ?_
                rintro e w7 ⟨rfl, hb7⟩
                have hb57 := hb5.trans ((((Below.refl _ _).alloc (Nat.le_refl _) _).alloc (by simp) _).trans (hb7.mono (by simp; try omega)) |>.mono hb5.size)
                clear hb7 hb5 hat2
                go_wp2
                go_roundw
                case rel => exact ⟨0 + 1, by omega, by go_num, hb57⟩
                case measure => simp [intOf]
              · have hw : mayT [⟨tZone, ((1 : Nat) : Int), lets k⟩] = false := by rw [want_is (by omega) (by omega)]; simp [wantB] <;> omega
                go_wp2_with fail
                refine Calls.mono (mayT_v _ [⟨tZone, ((1 : Nat) : Int), lets k⟩] 1 1 _ rfl hw (AtT.one (by simp) (by simp [go_sem]; rfl) (by simp [go_sem]) (by simp [go_sem, lets_len]; first | exact ⟨rfl, rfl⟩ | rfl) (hat2.below (((Below.refl _ _).alloc (Nat.le_refl _) _).alloc (by simp) _)))) ?_
                rintro e w7 ⟨rfl, hb7⟩
                have hb57 := hb5.trans ((((Below.refl _ _).alloc (Nat.le_refl _) _).alloc (by simp) _).trans (hb7.mono (by simp; try omega)) |>.mono hb5.size)
                clear hb7 hb5 hat2
                go_wp2
                go_roundw
                case rel => exact ⟨1 + 1, by omega, by go_num, hb57⟩
                case measure => simp [intOf]
              · have hw : mayT [⟨tZone, ((2 : Nat) : Int), lets k⟩] = false := by rw [want_is (by omega) (by omega)]; simp [wantB] <;> omega
                go_wp2_with fail
                refine Calls.mono (mayT_v _ [⟨tZone, ((2 : Nat) : Int), lets k⟩] 1 1 _ rfl hw (AtT.one (by simp) (by simp [go_sem]; rfl) (by simp [go_sem]) (by simp [go_sem, lets_len]; first | exact ⟨rfl, rfl⟩ | rfl) (hat2.below (((Below.refl _ _).alloc (Nat.le_refl _) _).alloc (by simp) _)))) ?_
                rintro e w7 ⟨rfl, hb7⟩
                have hb57 := hb5.trans ((((Below.refl _ _).alloc (Nat.le_refl _) _).alloc (by simp) _).trans (hb7.mono (by simp; try omega)) |>.mono hb5.size)
                clear hb7 hb5 hat2
                go_wp2
                go_roundw
                case rel => exact ⟨2 + 1, by omega, by go_num, hb57⟩
                case measure => simp [intOf]
              · have hw : mayT [⟨tZone, ((3 : Nat) : Int), lets k⟩] = false := by rw [want_is (by omega) (by omega)]; simp [wantB] <;> omega
                go_wp2_with fail
                refine Calls.mono (mayT_v _ [⟨tZone, ((3 : Nat) : Int), lets k⟩] 1 1 _ rfl hw (AtT.one (by simp) (by simp [go_sem]; rfl) (by simp [go_sem]) (by simp [go_sem, lets_len]; first | exact ⟨rfl, rfl⟩ | rfl) (hat2.below (((Below.refl _ _).alloc (Nat.le_refl _) _).alloc (by simp) _)))) ?_
                rintro e w7 ⟨rfl, hb7⟩
                have hb57 := hb5.trans ((((Below.refl _ _).alloc (Nat.le_refl _) _).alloc (by simp) _).trans (hb7.mono (by simp; try omega)) |>.mono hb5.size)
                clear hb7 hb5 hat2
                go_wp2
                go_roundw
                case rel => exact ⟨3 + 1, by omega, by go_num, hb57⟩
                case measure => simp [intOf]
              · have hw : mayT [⟨tZone, ((4 : Nat) : Int), lets k⟩] = false := by rw [want_is (by omega) (by omega)]; simp [wantB] <;> omega
                go_wp2_with fail
                refine Calls.mono (mayT_v _ [⟨tZone, ((4 : Nat) : Int), lets k⟩] 1 1 _ rfl hw (AtT.one (by simp) (by simp [go_sem]; rfl) (by simp [go_sem]) (by simp [go_sem, lets_len]; first | exact ⟨rfl, rfl⟩ | rfl) (hat2.below (((Below.refl _ _).alloc (Nat.le_refl _) _).alloc (by simp) _)))) ?_
                rintro e w7 ⟨rfl, hb7⟩
                have hb57 := hb5.trans ((((Below.refl _ _).alloc (Nat.le_refl _) _).alloc (by simp) _).trans (hb7.mono (by simp; try omega)) |>.mono hb5.size)
                clear hb7 hb5 hat2
                go_wp2
                go_roundw
                case rel => exact ⟨4 + 1, by omega, by go_num, hb57⟩
                case measure => simp [intOf]
              · have hw : mayT [⟨tZone, ((5 : Nat) : Int), lets k⟩] = false := by rw [want_is (by omega) (by omega)]; simp [wantB] <;> omega
                go_wp2_with fail
                refine Calls.mono (mayT_v _ [⟨tZone, ((5 : Nat) : Int), lets k⟩] 1 1 _ rfl hw (AtT.one (by simp) (by simp [go_sem]; rfl) (by simp [go_sem]) (by simp [go_sem, lets_len]; first | exact ⟨rfl, rfl⟩ | rfl) (hat2.below (((Below.refl _ _).alloc (Nat.le_refl _) _).alloc (by simp) _)))) ?_
                rintro e w7 ⟨rfl, hb7⟩
                have hb57 := hb5.trans ((((Below.refl _ _).alloc (Nat.le_refl _) _).alloc (by simp) _).trans (hb7.mono (by simp; try omega)) |>.mono hb5.size)
                clear hb7 hb5 hat2
                go_wp2
                go_roundw
                case rel => exact ⟨5 + 1, by omega, by go_num, hb57⟩
                case measure => simp [intOf]
          · obtain ⟨wb, hwb⟩ : ∃ x, x = wr := ⟨_, rfl⟩
            rw [← hwb] at hb5 ⊢
            clear hwb
            have y0 := cell_laterA hb5 p0
            have y1 := cell_laterA hb5 p1
            have y2 := cell_laterA hb5 p2
            have hbwb := hbwr.trans (hb5.mono hbwr.size)
            have hvb := hv.below hbwb
            obtain ⟨M, hM⟩ : ∃ M, mayT [⟨key, kind, vals⟩] = M := ⟨_, rfl⟩
            have HM := Lib.hid hM
            have HZ := Lib.hid hz
            obtain rfl : j = 6 := by omega
            clear hat hbwr p0 p1 p2 hb5 hlt hj hM hz hv
            go_wp2_with fail
            have hbd : Below wb.heap.size wb wb.drew := (Below.refl _ _).drew
            have k1 : ∀ o : Obj, (wb.alloc o).drew.heap[wb.heap.size]? = some o := fun o => heap_alloc_self wb o
            have k2 : ∀ o o' : Obj, ((wb.alloc o).alloc o').drew.heap[wb.heap.size]? = some o := fun o o' => heap_allocA wb o o'
            have k3 : ∀ o o' : Obj, ((wb.alloc o).alloc o').drew.heap[wb.heap.size + 1]? = some o' := fun o o' => heap_allocB wb o o'
            have K1 := Lib.hid k1
            have K2 := Lib.hid k2
            have K3 := Lib.hid k3
            have A1 : ∀ (W : World) (N : Nat), (Below wb.heap.size wb W ∧ W.cell? ⟨w.heap.size, 0, none⟩ = some (.string key) ∧ W.cell? ⟨w.heap.size, 1, none⟩ = some (.int .i64 kind) ∧ W.cell? ⟨w.heap.size, 2, none⟩ = some (.slice va vals.length vcap)) → W.heap[N]? = some (.cells #[.string key, .int .i64 kind, .slice va vals.length vcap] 34) →
                Calls Try.prog 17 #[.slice (some ⟨N, 0, none⟩) 1 1] W fun e w' => e = .returned (.bool M) ∧ Below W.heap.size W w' := fun W N hS hN => mayT_v _ [⟨key, kind, vals⟩] 1 1 W rfl HM.out (atT_new hN (hvb.below hS.1))
            have A2 : ∀ (W : World) (N : Nat), (Below wb.heap.size wb W ∧ W.cell? ⟨w.heap.size, 0, none⟩ = some (.string key) ∧ W.cell? ⟨w.heap.size, 1, none⟩ = some (.int .i64 kind) ∧ W.cell? ⟨w.heap.size, 2, none⟩ = some (.slice va vals.length vcap)) → W.heap[N]? = some (.cells #[.string key, .int .i64 kind, .slice va vals.length vcap] 34) →
                Calls Try.prog 18 #[.slice (some ⟨N, 0, none⟩) 1 1] W fun e w' => e = .returned (.bool M) ∧ Below W.heap.size W w' := fun W N hS hN => refT_v _ [⟨key, kind, vals⟩] 1 1 W rfl HM.out (atT_new hN (hvb.below hS.1)) (by intro t ht; simp at ht; subst ht; exact HZ.out) (by simp)
            have A3 : ∀ (W : World) (N : Nat), W.heap[N]? = some (.cells #[.string ⟨#[]⟩, .int .i64 3, .slice none 0 0] 34) →
                Calls Try.prog 17 #[.slice (some ⟨N, 0, none⟩) 1 1] W fun e w' => e = .returned (.bool false) ∧ Below W.heap.size W w' := fun W N hN => mayT_v _ [⟨⟨#[]⟩, 3, []⟩] 1 1 W rfl no_key (atT_new (va := none) (vcap := 0) (vals := []) hN (At1.nil _))
            have A4 : ∀ (W : World), Calls Try.prog 17 #[.slice none 0 0] W fun e w' => e = .returned (.bool true) ∧ Below W.heap.size W w' := fun W => mayT_v none [] 0 0 W rfl rfl (AtT.nil _ _)
            have HA1 := Lib.hid A1
            have HA2 := Lib.hid A2
            have HA3 := Lib.hid A3
            have HA4 := Lib.hid A4
            clear k1 k2 k3 A1 A2 A3 A4 HM HZ hvb
            go_region_held_law (fun W => Below wb.heap.size wb W ∧ W.cell? ⟨w.heap.size, 0, none⟩ = some (.string key) ∧ W.cell? ⟨w.heap.size, 1, none⟩ = some (.int .i64 kind) ∧ W.cell? ⟨w.heap.size, 2, none⟩ = some (.slice va vals.length vcap))
              (first | exact hS9 | exact hS8 | exact hS7 | exact hS6 | exact s3_alloc (by assumption) _ | go_keep)
              (first
                | (go_at_call 17
                   with_reducible show Calls Try.prog 17 #[.slice none 0 0] _ _
                   refine Calls.mono (HA4.out _) ?_
                   rintro e w9 ⟨rfl, hb9⟩
                   have hS9 := s3_later (by assumption) hb9)
                | (go_at_call 18
                   refine Calls.mono (HA2.out _ _ (by assumption) (by first | (with_reducible exact heap_alloc_self w6 _) | (with_reducible exact (hb6.block _ (by simp <;> omega)).trans (K2.out _ _)) | (with_reducible exact (hb6.block _ (by simp <;> omega)).trans (K3.out _ _)))) ?_
                   rintro e w7 ⟨rfl, hb7⟩
                   have hS7 := s3_later (by assumption) hb7)
                | (go_at_call 17
                   refine Calls.mono (HA3.out _ _ (by with_reducible exact heap_alloc_self w7 _)) ?_
                   rintro e w8 ⟨rfl, hb8⟩
                   have hS8 := s3_later (by assumption) hb8)
                | (go_at_call 17
                   refine Calls.mono (HA1.out _ _ (by assumption) (by with_reducible first | exact K1.out _ | exact K2.out _ _ | exact K3.out _ _)) ?_
                   rintro e w6 ⟨rfl, hb6⟩
                   have hS6 := s3_later (by assumption) hb6))
            all_goals
              have hbw9 : Below w.heap.size w w9 := hbwb.trans (hS9.1.mono hbwb.size)
              go_wp2
              go_ret
              exact ⟨rfl, hbw9⟩
end Go.Proofs.Ytnimplldkambhab
