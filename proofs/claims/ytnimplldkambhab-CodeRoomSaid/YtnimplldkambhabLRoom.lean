/-
  The law CodeRoom's walk. No conditions beyond what is written in each statement.
-/
import Derived.Test.YtnimplldkambhabLRoom0
import Derived.Test.YtnimplldkambhabEq4
import Derived.Test.YtnimplldkambhabBeg2
import Derived.Deep.RegionHeld3
set_option linter.unusedSimpArgs false
set_option linter.unusedVariables false
namespace Go.Proofs.Ytnimplldkambhab
open Go.RowKit

theorem infoI3 : (Try.prog.info? 3).map (fun i => (i.zero, i.size, i.bytes)) = some (some (.int .i64 0), 1, 8) := by kernel_rfl
theorem infoS3 : (Try.prog.info? 9).map (fun i => (i.zero, i.size, i.bytes)) = some (some (.string ⟨#[]⟩), 1, 16) := by kernel_rfl
theorem reps_succ (L : ByteArray) (k : Nat) : strCells (List.replicate (k + 1) L) = strCells (List.replicate k L) ++ [.string L] := by
  rw [List.replicate_succ']
  show List.flatMap _ _ = _
  rw [List.flatMap_append]
  rfl
set_option maxRecDepth 100000 in
set_option maxHeartbeats 4000000 in
theorem codeRoom_walk (n k : Int) (w : World) : Calls Try.prog 10 #[.int .i64 n, .int .i64 k] w fun e w' => e = .returned (.bool true) ∧ Below w.heap.size w w' := by
  obtain ⟨N, hN, eN⟩ : ∃ N : Nat, N < 8 ∧ (wrap64 (n.tmod 8 + 8)).tmod 8 = (N : Int) := by
    have b := turn_in n (n := 8) (by omega) (by omega)
    exact ⟨((wrap64 (n.tmod 8 + 8)).tmod 8).toNat, by omega, by omega⟩
  obtain ⟨J, hJ, eJ⟩ : ∃ J : Nat, J < 12 ∧ (wrap64 (k.tmod 12 + 12)).tmod 12 = (J : Int) := by
    have b := turn_in k (n := 12) (by omega) (by omega)
    exact ⟨((wrap64 (k.tmod 12 + 12)).tmod 12).toNat, by omega, by omega⟩
  obtain ⟨K, hK⟩ : ∃ K : Nat, K = J + 1 := ⟨_, rfl⟩
  have eK : (1 : Int) + (J : Int) = (K : Int) := by omega
  have K1 : 1 ≤ K := by omega
  have K2 : K ≤ 12 := by omega
  have k1 : (0 : Int) ≤ (K : Int) := by omega
  have k2 : (K : Int) ≤ 12 := by omega
  obtain ⟨L, hL⟩ : ∃ L, (⟨#[97, 98, 99, 100, 101, 102, 103, 104, 105, 106, 107, 108]⟩ : ByteArray).extract 0 K = L := ⟨_, rfl⟩
  have HL : Hid (lng K = L) := hL
  obtain ⟨iS, hS⟩ : ∃ i : TypeInfo, Hid (Try.prog.info? 9 = some i ∧ i.zero = some (.string ⟨#[]⟩) ∧ i.size = 1 ∧ i.bytes = 16) := by
    obtain ⟨i, h0, h1, h2, h3⟩ := info_parts infoS3
    exact ⟨i, h0, h1, h2, h3⟩
  obtain ⟨iI, hI⟩ : ∃ i : TypeInfo, Hid (Try.prog.info? 3 = some i ∧ i.zero = some (.int .i64 0) ∧ i.size = 1 ∧ i.bytes = 8) := by
    obtain ⟨i, h0, h1, h2, h3⟩ := info_parts infoI3
    exact ⟨i, h0, h1, h2, h3⟩
  obtain ⟨iP, hP⟩ : ∃ i : TypeInfo, Hid (Try.prog.info? 25 = some i ∧ i.zero = some (.agg #[.string ⟨#[]⟩, .string ⟨#[]⟩]) ∧ i.size = 2 ∧ i.bytes = 32) := by
    obtain ⟨i, h0, h1, h2, h3⟩ := info_parts infoP2
    exact ⟨i, h0, h1, h2, h3⟩
  obtain ⟨iN, hNN⟩ : ∃ i : TypeInfo, Hid (Try.prog.info? 44 = some i ∧ i.zero = some (.agg #[.string ⟨#[]⟩, .string ⟨#[]⟩]) ∧ i.size = 2 ∧ i.bytes = 32) := by
    obtain ⟨i, h0, h1, h2, h3⟩ := info_parts infoN2
    exact ⟨i, h0, h1, h2, h3⟩
  obtain ⟨iL, hLL⟩ : ∃ i : TypeInfo, Hid (Try.prog.info? 43 = some i ∧ i.zero = some (.agg #[.string ⟨#[]⟩, .string ⟨#[]⟩, .bool false]) ∧ i.size = 3 ∧ i.bytes = 40) := by
    obtain ⟨i, h0, h1, h2, h3⟩ := info_parts infoL2
    exact ⟨i, h0, h1, h2, h3⟩
  obtain ⟨iT, hT⟩ : ∃ i : TypeInfo, Hid (Try.prog.info? 34 = some i ∧ i.zero = some (.agg #[.string ⟨#[]⟩, .int .i64 0, .slice none 0 0]) ∧ i.size = 3 ∧ i.bytes = 48) := by
    obtain ⟨i, h0, h1, h2, h3⟩ := info_parts infoT2
    exact ⟨i, h0, h1, h2, h3⟩
  clear hK
  go_enter Try.func10, Try.ntmps10
  go_wp2_with fail
  refine (begun_any _).mono ?_
  rintro e w1 ⟨rfl, hbw1⟩
  go_wp2_with fail
  go_loopw [7, 8] (fun u i wr => ∃ q : Nat, q ≤ 6 ∧ i = .int .i64 q ∧ wr.ownsRow w1.heap.size 9 1 u q (strCells (List.replicate q L)) ∧ Below w1.heap.size w1 wr) (fun _ i _ => 6 - (intOf i).toNat)
  case atStart => exact ⟨0, Nat.zero_le _, rfl, World.ownsRow_nil _ _ 9 1, Below.refl _ _⟩
  case round =>
    obtain ⟨q, hq, rfl, own, hbel⟩ := hrel
    by_cases hlt : q < 6
    · go_wp2_with (at_builtin; refine stand ?_)
      show wpList _ _ _ _ _ _
      refine wpList_append_own _ rfl _ _ 32 rfl w1.heap.size 9 iS _ 1 16 Try.underlying32 hS.out.1 hS.out.2.1 hS.out.2.2.1 hS.out.2.2.2 rfl (by decide) u7 q (strCells (List.replicate q L)) rfl (own.alloc _) ⟨wr.heap.size, 0, none⟩ 1 1 [.string L] rfl rfl
        (new_cells _ _ _) (by simp [Value.oneCell']) (by unfold maxLen; omega) (by omega) (by have := hbel.size; simp; omega) ?_
      intro v4 w4 o4 g4 hnil
      have b4 : Below w1.heap.size w1 w4 := (hbel.alloc hbel.size _).trans (grown_below g4 (own.alloc _) (by have := hbel.size; simp; omega))
      rw [← reps_succ] at o4
      clear g4 hnil own hbel
      go_wp2
      go_roundw
      case rel => exact ⟨q + 1, by omega, by go_num, o4, b4⟩
      case measure => simp [intOf]; omega
    · obtain rfl : q = 6 := by omega
      obtain ⟨av, cv, rfl, _, _, _⟩ := own_len own
      have hat : At1 wr av (List.replicate 6 L) := At1_of (w := wr) (N := w1.heap.size) (a := av) (cap := cv) (l := List.replicate 6 L) own (by simp)
      have hbw0 : Below w.heap.size w wr := hbw1.trans (hbel.mono hbw1.size)
      have hLs : L.size = K := by rw [← HL.out]; unfold lng; simp; show min K 12 = K; omega
      clear own hbel hL hlt hq hbw1
      go_wp2_with fail
      rw [show ((6 : Nat) : Int) = 6 from rfl]
      obtain ⟨w2, hw2⟩ : ∃ x, x = wr := ⟨_, rfl⟩
      rw [← hw2] at hat hbw0 ⊢
      clear hw2
      go_loopw [11] (fun i W => ∃ q : Nat, q ≤ N ∧ i = .int .i64 q ∧ (∃ v4 v5 v6 v7 v9 v11 u2 u3, RM W (w2.heap.size + 2) w2.heap.size (cpR L v4 v5 v6 v7 v9 v11) (cmR L u2 u3) [rI v4 q, rP 25 v5 K q, rT v6 K 1 av cv q, rT v9 K 2 av cv q, rT v11 K 1 av cv q, rL v7 K q, rP 25 u2 K q, rP 44 u3 K q]) ∧ Below w2.heap.size w2 W) (fun i _ => N - (intOf i).toNat)
      case atStart =>
        refine ⟨0, Nat.zero_le _, rfl, ⟨.slice none 0 0, .slice none 0 0, .slice none 0 0, .slice none 0 0, .slice none 0 0, .slice none 0 0, .slice none 0 0, .slice none 0 0, heap_allocC _ _ _, heap_allocD _ _ _, by omega, by simp, fun r hr => ?_, ?_⟩, ((Below.refl _ _).alloc (Nat.le_refl _) _).alloc (by simp) _⟩
        · simp only [List.mem_cons, List.not_mem_nil, or_false] at hr
          rcases hr with rfl | rfl | rfl | rfl | rfl | rfl | rfl | rfl <;> exact World.ownsRow_nil _ _ _ _
        · simp [Ap, rI, rP, rT, rL, Value.ownBlock]
      case round =>
        obtain ⟨q, hq, rfl, ⟨v4, v5, v6, v7, v9, v11, u2, u3, hrm⟩, hbel⟩ := hrel
        by_cases hlt : q < N
        · as_aux_lemma =>
            obtain ⟨M, hM⟩ : ∃ M, M = min K 11 := ⟨_, rfl⟩
            have hm1 : min (K : Int) 11 = (M : Int) := by omega
            have hm2 : (if (11 : Int) < (K : Int) then (11 : Int) else (K : Int)) = (M : Int) := by split <;> omega
            have m1 : (0 : Int) ≤ (M : Int) := by omega
            have m2 : (M : Int) ≤ (L.size : Int) := by rw [hLs]; omega
            obtain ⟨L2, hL2⟩ : ∃ x, L.extract 0 M = x := ⟨_, rfl⟩
            obtain ⟨lr, hlr⟩ : ∃ x, letR q = x := ⟨_, rfl⟩
            obtain ⟨kk, hkk⟩ : ∃ x, lr ++ L2 = x := ⟨_, rfl⟩
            have HKEY : Hid (keyR K q = kk) := by show _ = _; unfold keyR; rw [HL.out, ← hM, hL2, hlr, hkk]
            have mK : M ≤ K := by omega
            have s1 : lr.size ≤ 1 := by rw [← hlr]; exact Nat.le_refl 1
            have s2 : L2.size ≤ 12 := by rw [← hL2]; simp; omega
            have hi64 : IntKind.i64.wrap (97 + (q : Int)) = 97 + (q : Int) := IntWalk.i64_in _ (by omega)
            have hu8 : IntKind.u8.wrap (97 + (q : Int)) = 97 + (q : Int) := IntWalk.u8_in _ (by omega)
            have hcv := conv_letR (wr.alloc (.cells #[.int .u8 (97 + (q : Int))] 5)).drew wr.heap.size q (by omega) (by simp) (by simp [go_sem])
            have hcv2 := conv_letR (wr.alloc (.cells #[.int .u8 (97 + (q : Int))] 5)) wr.heap.size q (by omega) (by simp) (by simp [go_sem])
            rw [hlr] at hcv hcv2
            have HRM := Lib.hid hrm
            have HBEL := Lib.hid hbel
            have hbd : Below wr.heap.size wr wr.drew := (Below.refl _ _).drew
            clear hrm hbel hM hlr
            go_wp2_with fail
            go_region
            have H3 := Lib.hid (HRM.out.later (show Below wr.heap.size wr (wr.alloc (.cells #[.int .u8 (97 + (q : Int))] 5)).drew from ((Below.refl _ _).alloc (Nat.le_refl _) _).drew))
            have B3 := Lib.hid (HBEL.out.trans ((show Below wr.heap.size wr (wr.alloc (.cells #[.int .u8 (97 + (q : Int))] 5)).drew from ((Below.refl _ _).alloc (Nat.le_refl _) _).drew).mono HBEL.out.size))
            generalize (wr.alloc (.cells #[.int .u8 (97 + (q : Int))] 5)).drew = w3 at *
            have cA3 := fun o => cell_of_obj H3.out.p o
            have fA3 := fun o => free_of_obj H3.out.p o
            have cM3 := fun o => cell_of_obj H3.out.m o
            have fM3 := fun o => free_of_obj H3.out.m o
            clear HRM hcv hcv2 hbd hu8 hi64 hm1 hm2 m1 m2 hL2 mK s1 s2 hkk HBEL
            go_wp2_with (at_builtin; refine stand ?_)
            show wpList _ _ _ _ _ _
            have G3 : Hid (RM (w3) (w2.heap.size + 2) w2.heap.size (cpR L v4 v5 v6 v7 v9 v11) (cmR L u2 u3) ([] ++ (rI v4 q) :: [rP 25 v5 K q, rT v6 K 1 av cv q, rT v9 K 2 av cv q, rT v11 K 1 av cv q, rL v7 K q, rP 25 u2 K q, rP 44 u3 K q])) := H3.out
            have E3 : Hid (Below w2.heap.size w2 (w3)) := B3.out
            have Q3 : ∀ (j : Nat) (u : Value), ((#[.int .i64 (60000 + (q : Int))]) : Array Value).toList[j]? = some u → ((w3).alloc (.cells (#[.int .i64 (60000 + (q : Int))]) 3)).cell? ((⟨w3.heap.size, 0, none⟩ : Addr).add j) = some u := fun j u hu => by have h := new_cells (w3) (#[.int .i64 (60000 + (q : Int))]) 3 j u hu; simpa using h
            clear H3 B3 cA3 fA3 cM3 fM3
            refine wpList_append_own_at _ rfl _ _ 51 rfl (w2.heap.size + 2) 3 iI _ 1 8 Try.underlying51 hI.out.1 hI.out.2.1 hI.out.2.2.1 hI.out.2.2.2 rfl (by decide) v4 q ((rI v4 q)).xs rfl ((G3.out.alloc (.cells (#[.int .i64 (60000 + (q : Int))]) 3)).own ((rI v4 q)) (by simp)) ⟨w3.heap.size, 0, none⟩ 1 1 ((#[.int .i64 (60000 + (q : Int))]) : Array Value).toList rfl rfl Q3 (by simp [Value.oneCell']) (by unfold maxLen; omega) (by omega) (G3.out.alloc (.cells (#[.int .i64 (60000 + (q : Int))]) 3)).le ?_
            intro x4 w4 o4 g4 hnil b4
            obtain ⟨a4, d4, rfl, _, _, _⟩ := own_len o4
            have H4 : Hid (RM w4 (w2.heap.size + 2) w2.heap.size (cpR L v4 v5 v6 v7 v9 v11) (cmR L u2 u3) ([] ++ (rI (.slice a4 (q + 1) d4) (q + 1)) :: [rP 25 v5 K q, rT v6 K 1 av cv q, rT v9 K 2 av cv q, rT v11 K 1 av cv q, rL v7 K q, rP 25 u2 K q, rP 44 u3 K q])) := RM.app (G3.out.alloc (.cells (#[.int .i64 (60000 + (q : Int))]) 3)) g4 (by show World.ownsRow _ _ _ _ _ _ ((rI (.slice a4 (q + 1) d4) (q + 1))).xs; rw [show ((rI (.slice a4 (q + 1) d4) (q + 1))).xs = ((rI v4 q)).xs ++ _ from rI_next _ _]; exact o4) b4
            have cA4 := fun o => cell_of_obj H4.out.p o
            have fA4 := fun o => free_of_obj H4.out.p o
            have cM4 := fun o => cell_of_obj H4.out.m o
            have fM4 := fun o => free_of_obj H4.out.m o
            have B4 : Hid (Below w2.heap.size w2 w4) := (E3.out.alloc E3.out.size _).trans ((grown_below g4 ((G3.out.alloc (.cells (#[.int .i64 (60000 + (q : Int))]) 3)).own ((rI v4 q)) (by simp)) (G3.out.alloc (.cells (#[.int .i64 (60000 + (q : Int))]) 3)).le).mono (by omega))
            clear o4 g4 hnil b4 Q3 G3 E3
            go_wp2_with (at_builtin; refine stand ?_)
            show wpList _ _ _ _ _ _
            have G4 : Hid (RM (w4.setCell ⟨w2.heap.size, 6, none⟩ (.slice a4 (q + 1) d4)) (w2.heap.size + 2) w2.heap.size (cpR L (.slice a4 (q + 1) d4) v5 v6 v7 v9 v11) (cmR L u2 u3) ([rI (.slice a4 (q + 1) d4) (q + 1)] ++ (rP 25 v5 K q) :: [rT v6 K 1 av cv q, rT v9 K 2 av cv q, rT v11 K 1 av cv q, rL v7 K q, rP 25 u2 K q, rP 44 u3 K q])) := H4.out.setP 6 (.slice a4 (q + 1) d4)
            have E4 : Hid (Below w2.heap.size w2 (w4.setCell ⟨w2.heap.size, 6, none⟩ (.slice a4 (q + 1) d4))) := B4.out.setCell (Nat.le_refl _) _
            have Q4 : ∀ (j : Nat) (u : Value), ((#[.string kk, .string L]) : Array Value).toList[j]? = some u → ((w4.setCell ⟨w2.heap.size, 6, none⟩ (.slice a4 (q + 1) d4)).alloc (.cells (#[.string kk, .string L]) 25)).cell? ((⟨w4.heap.size, 0, none⟩ : Addr).add j) = some u := fun j u hu => by have h := new_cells (w4.setCell ⟨w2.heap.size, 6, none⟩ (.slice a4 (q + 1) d4)) (#[.string kk, .string L]) 25 j u hu; simpa using h
            clear H4 B4 cA4 fA4 cM4 fM4
            refine wpList_append_own_at _ rfl _ _ 22 rfl (w2.heap.size + 2) 25 iP _ 2 32 Try.underlying22 hP.out.1 hP.out.2.1 hP.out.2.2.1 hP.out.2.2.2 rfl (by decide) v5 q ((rP 25 v5 K q)).xs rfl ((G4.out.alloc (.cells (#[.string kk, .string L]) 25)).own ((rP 25 v5 K q)) (by simp)) ⟨w4.heap.size, 0, none⟩ 1 1 ((#[.string kk, .string L]) : Array Value).toList rfl rfl Q4 (by simp [Value.oneCell']) (by unfold maxLen; omega) (by omega) (G4.out.alloc (.cells (#[.string kk, .string L]) 25)).le ?_
            intro x5 w5 o5 g5 hnil b5
            obtain ⟨a5, d5, rfl, _, _, _⟩ := own_len o5
            have H5 : Hid (RM w5 (w2.heap.size + 2) w2.heap.size (cpR L (.slice a4 (q + 1) d4) v5 v6 v7 v9 v11) (cmR L u2 u3) ([rI (.slice a4 (q + 1) d4) (q + 1)] ++ (rP 25 (.slice a5 (q + 1) d5) K (q + 1)) :: [rT v6 K 1 av cv q, rT v9 K 2 av cv q, rT v11 K 1 av cv q, rL v7 K q, rP 25 u2 K q, rP 44 u3 K q])) := RM.app (G4.out.alloc (.cells (#[.string kk, .string L]) 25)) g5 (by show World.ownsRow _ _ _ _ _ _ ((rP 25 (.slice a5 (q + 1) d5) K (q + 1))).xs; rw [show ((rP 25 (.slice a5 (q + 1) d5) K (q + 1))).xs = ((rP 25 v5 K q)).xs ++ [Value.string kk, Value.string L] from by rw [← HKEY.out, ← HL.out]; exact rP_next _ _ _ _]; exact o5) b5
            have cA5 := fun o => cell_of_obj H5.out.p o
            have fA5 := fun o => free_of_obj H5.out.p o
            have cM5 := fun o => cell_of_obj H5.out.m o
            have fM5 := fun o => free_of_obj H5.out.m o
            have B5 : Hid (Below w2.heap.size w2 w5) := (E4.out.alloc E4.out.size _).trans ((grown_below g5 ((G4.out.alloc (.cells (#[.string kk, .string L]) 25)).own ((rP 25 v5 K q)) (by simp)) (G4.out.alloc (.cells (#[.string kk, .string L]) 25)).le).mono (by omega))
            clear o5 g5 hnil b5 Q4 G4 E4
            go_wp2_with (at_builtin; refine stand ?_)
            show wpList _ _ _ _ _ _
            have G5 : Hid (RM (w5.setCell ⟨w2.heap.size, 7, none⟩ (.slice a5 (q + 1) d5)) (w2.heap.size + 2) w2.heap.size (cpR L (.slice a4 (q + 1) d4) (.slice a5 (q + 1) d5) v6 v7 v9 v11) (cmR L u2 u3) ([rI (.slice a4 (q + 1) d4) (q + 1), rP 25 (.slice a5 (q + 1) d5) K (q + 1)] ++ (rT v6 K 1 av cv q) :: [rT v9 K 2 av cv q, rT v11 K 1 av cv q, rL v7 K q, rP 25 u2 K q, rP 44 u3 K q])) := H5.out.setP 7 (.slice a5 (q + 1) d5)
            have E5 : Hid (Below w2.heap.size w2 (w5.setCell ⟨w2.heap.size, 7, none⟩ (.slice a5 (q + 1) d5))) := B5.out.setCell (Nat.le_refl _) _
            have Q5 : ∀ (j : Nat) (u : Value), ((#[.string kk, .int .i64 1, .slice av 6 cv]) : Array Value).toList[j]? = some u → ((w5.setCell ⟨w2.heap.size, 7, none⟩ (.slice a5 (q + 1) d5)).alloc (.cells (#[.string kk, .int .i64 1, .slice av 6 cv]) 34)).cell? ((⟨w5.heap.size, 0, none⟩ : Addr).add j) = some u := fun j u hu => by have h := new_cells (w5.setCell ⟨w2.heap.size, 7, none⟩ (.slice a5 (q + 1) d5)) (#[.string kk, .int .i64 1, .slice av 6 cv]) 34 j u hu; simpa using h
            clear H5 B5 cA5 fA5 cM5 fM5
            refine wpList_append_own_at _ rfl _ _ 31 rfl (w2.heap.size + 2) 34 iT _ 3 48 Try.underlying31 hT.out.1 hT.out.2.1 hT.out.2.2.1 hT.out.2.2.2 rfl (by decide) v6 q ((rT v6 K 1 av cv q)).xs rfl ((G5.out.alloc (.cells (#[.string kk, .int .i64 1, .slice av 6 cv]) 34)).own ((rT v6 K 1 av cv q)) (by simp)) ⟨w5.heap.size, 0, none⟩ 1 1 ((#[.string kk, .int .i64 1, .slice av 6 cv]) : Array Value).toList rfl rfl Q5 (by simp [Value.oneCell']) (by unfold maxLen; omega) (by omega) (G5.out.alloc (.cells (#[.string kk, .int .i64 1, .slice av 6 cv]) 34)).le ?_
            intro x6 w6 o6 g6 hnil b6
            obtain ⟨a6, d6, rfl, _, _, _⟩ := own_len o6
            have H6 : Hid (RM w6 (w2.heap.size + 2) w2.heap.size (cpR L (.slice a4 (q + 1) d4) (.slice a5 (q + 1) d5) v6 v7 v9 v11) (cmR L u2 u3) ([rI (.slice a4 (q + 1) d4) (q + 1), rP 25 (.slice a5 (q + 1) d5) K (q + 1)] ++ (rT (.slice a6 (q + 1) d6) K 1 av cv (q + 1)) :: [rT v9 K 2 av cv q, rT v11 K 1 av cv q, rL v7 K q, rP 25 u2 K q, rP 44 u3 K q])) := RM.app (G5.out.alloc (.cells (#[.string kk, .int .i64 1, .slice av 6 cv]) 34)) g6 (by show World.ownsRow _ _ _ _ _ _ ((rT (.slice a6 (q + 1) d6) K 1 av cv (q + 1))).xs; rw [show ((rT (.slice a6 (q + 1) d6) K 1 av cv (q + 1))).xs = ((rT v6 K 1 av cv q)).xs ++ [Value.string kk, Value.int .i64 1, Value.slice av 6 cv] from by rw [← HKEY.out]; exact rT_next _ _ _ _ _ _]; exact o6) b6
            have cA6 := fun o => cell_of_obj H6.out.p o
            have fA6 := fun o => free_of_obj H6.out.p o
            have cM6 := fun o => cell_of_obj H6.out.m o
            have fM6 := fun o => free_of_obj H6.out.m o
            have B6 : Hid (Below w2.heap.size w2 w6) := (E5.out.alloc E5.out.size _).trans ((grown_below g6 ((G5.out.alloc (.cells (#[.string kk, .int .i64 1, .slice av 6 cv]) 34)).own ((rT v6 K 1 av cv q)) (by simp)) (G5.out.alloc (.cells (#[.string kk, .int .i64 1, .slice av 6 cv]) 34)).le).mono (by omega))
            clear o6 g6 hnil b6 Q5 G5 E5
            go_wp2_with (at_builtin; refine stand ?_)
            show wpList _ _ _ _ _ _
            have G6 : Hid (RM (w6.setCell ⟨w2.heap.size, 8, none⟩ (.slice a6 (q + 1) d6)) (w2.heap.size + 2) w2.heap.size (cpR L (.slice a4 (q + 1) d4) (.slice a5 (q + 1) d5) (.slice a6 (q + 1) d6) v7 v9 v11) (cmR L u2 u3) ([rI (.slice a4 (q + 1) d4) (q + 1), rP 25 (.slice a5 (q + 1) d5) K (q + 1), rT (.slice a6 (q + 1) d6) K 1 av cv (q + 1)] ++ (rT v9 K 2 av cv q) :: [rT v11 K 1 av cv q, rL v7 K q, rP 25 u2 K q, rP 44 u3 K q])) := H6.out.setP 8 (.slice a6 (q + 1) d6)
            have E6 : Hid (Below w2.heap.size w2 (w6.setCell ⟨w2.heap.size, 8, none⟩ (.slice a6 (q + 1) d6))) := B6.out.setCell (Nat.le_refl _) _
            have Q6 : ∀ (j : Nat) (u : Value), ((#[.string kk, .int .i64 2, .slice av 6 cv]) : Array Value).toList[j]? = some u → ((w6.setCell ⟨w2.heap.size, 8, none⟩ (.slice a6 (q + 1) d6)).alloc (.cells (#[.string kk, .int .i64 2, .slice av 6 cv]) 34)).cell? ((⟨w6.heap.size, 0, none⟩ : Addr).add j) = some u := fun j u hu => by have h := new_cells (w6.setCell ⟨w2.heap.size, 8, none⟩ (.slice a6 (q + 1) d6)) (#[.string kk, .int .i64 2, .slice av 6 cv]) 34 j u hu; simpa using h
            clear H6 B6 cA6 fA6 cM6 fM6
            refine wpList_append_own_at _ rfl _ _ 31 rfl (w2.heap.size + 2) 34 iT _ 3 48 Try.underlying31 hT.out.1 hT.out.2.1 hT.out.2.2.1 hT.out.2.2.2 rfl (by decide) v9 q ((rT v9 K 2 av cv q)).xs rfl ((G6.out.alloc (.cells (#[.string kk, .int .i64 2, .slice av 6 cv]) 34)).own ((rT v9 K 2 av cv q)) (by simp)) ⟨w6.heap.size, 0, none⟩ 1 1 ((#[.string kk, .int .i64 2, .slice av 6 cv]) : Array Value).toList rfl rfl Q6 (by simp [Value.oneCell']) (by unfold maxLen; omega) (by omega) (G6.out.alloc (.cells (#[.string kk, .int .i64 2, .slice av 6 cv]) 34)).le ?_
            intro x9 w7 o7 g7 hnil b7
            obtain ⟨a7, d7, rfl, _, _, _⟩ := own_len o7
            have H7 : Hid (RM w7 (w2.heap.size + 2) w2.heap.size (cpR L (.slice a4 (q + 1) d4) (.slice a5 (q + 1) d5) (.slice a6 (q + 1) d6) v7 v9 v11) (cmR L u2 u3) ([rI (.slice a4 (q + 1) d4) (q + 1), rP 25 (.slice a5 (q + 1) d5) K (q + 1), rT (.slice a6 (q + 1) d6) K 1 av cv (q + 1)] ++ (rT (.slice a7 (q + 1) d7) K 2 av cv (q + 1)) :: [rT v11 K 1 av cv q, rL v7 K q, rP 25 u2 K q, rP 44 u3 K q])) := RM.app (G6.out.alloc (.cells (#[.string kk, .int .i64 2, .slice av 6 cv]) 34)) g7 (by show World.ownsRow _ _ _ _ _ _ ((rT (.slice a7 (q + 1) d7) K 2 av cv (q + 1))).xs; rw [show ((rT (.slice a7 (q + 1) d7) K 2 av cv (q + 1))).xs = ((rT v9 K 2 av cv q)).xs ++ [Value.string kk, Value.int .i64 2, Value.slice av 6 cv] from by rw [← HKEY.out]; exact rT_next _ _ _ _ _ _]; exact o7) b7
            have cA7 := fun o => cell_of_obj H7.out.p o
            have fA7 := fun o => free_of_obj H7.out.p o
            have cM7 := fun o => cell_of_obj H7.out.m o
            have fM7 := fun o => free_of_obj H7.out.m o
            have B7 : Hid (Below w2.heap.size w2 w7) := (E6.out.alloc E6.out.size _).trans ((grown_below g7 ((G6.out.alloc (.cells (#[.string kk, .int .i64 2, .slice av 6 cv]) 34)).own ((rT v9 K 2 av cv q)) (by simp)) (G6.out.alloc (.cells (#[.string kk, .int .i64 2, .slice av 6 cv]) 34)).le).mono (by omega))
            clear o7 g7 hnil b7 Q6 G6 E6
            go_wp2_with (at_builtin; refine stand ?_)
            show wpList _ _ _ _ _ _
            have G7 : Hid (RM (w7.setCell ⟨w2.heap.size, 11, none⟩ (.slice a7 (q + 1) d7)) (w2.heap.size + 2) w2.heap.size (cpR L (.slice a4 (q + 1) d4) (.slice a5 (q + 1) d5) (.slice a6 (q + 1) d6) v7 (.slice a7 (q + 1) d7) v11) (cmR L u2 u3) ([rI (.slice a4 (q + 1) d4) (q + 1), rP 25 (.slice a5 (q + 1) d5) K (q + 1), rT (.slice a6 (q + 1) d6) K 1 av cv (q + 1), rT (.slice a7 (q + 1) d7) K 2 av cv (q + 1)] ++ (rT v11 K 1 av cv q) :: [rL v7 K q, rP 25 u2 K q, rP 44 u3 K q])) := H7.out.setP 11 (.slice a7 (q + 1) d7)
            have E7 : Hid (Below w2.heap.size w2 (w7.setCell ⟨w2.heap.size, 11, none⟩ (.slice a7 (q + 1) d7))) := B7.out.setCell (Nat.le_refl _) _
            have Q7 : ∀ (j : Nat) (u : Value), ((#[.string kk, .int .i64 1, .slice av 6 cv]) : Array Value).toList[j]? = some u → ((w7.setCell ⟨w2.heap.size, 11, none⟩ (.slice a7 (q + 1) d7)).alloc (.cells (#[.string kk, .int .i64 1, .slice av 6 cv]) 34)).cell? ((⟨w7.heap.size, 0, none⟩ : Addr).add j) = some u := fun j u hu => by have h := new_cells (w7.setCell ⟨w2.heap.size, 11, none⟩ (.slice a7 (q + 1) d7)) (#[.string kk, .int .i64 1, .slice av 6 cv]) 34 j u hu; simpa using h
            clear H7 B7 cA7 fA7 cM7 fM7
            refine wpList_append_own_at _ rfl _ _ 31 rfl (w2.heap.size + 2) 34 iT _ 3 48 Try.underlying31 hT.out.1 hT.out.2.1 hT.out.2.2.1 hT.out.2.2.2 rfl (by decide) v11 q ((rT v11 K 1 av cv q)).xs rfl ((G7.out.alloc (.cells (#[.string kk, .int .i64 1, .slice av 6 cv]) 34)).own ((rT v11 K 1 av cv q)) (by simp)) ⟨w7.heap.size, 0, none⟩ 1 1 ((#[.string kk, .int .i64 1, .slice av 6 cv]) : Array Value).toList rfl rfl Q7 (by simp [Value.oneCell']) (by unfold maxLen; omega) (by omega) (G7.out.alloc (.cells (#[.string kk, .int .i64 1, .slice av 6 cv]) 34)).le ?_
            intro x11 w8 o8 g8 hnil b8
            obtain ⟨a8, d8, rfl, _, _, _⟩ := own_len o8
            have H8 : Hid (RM w8 (w2.heap.size + 2) w2.heap.size (cpR L (.slice a4 (q + 1) d4) (.slice a5 (q + 1) d5) (.slice a6 (q + 1) d6) v7 (.slice a7 (q + 1) d7) v11) (cmR L u2 u3) ([rI (.slice a4 (q + 1) d4) (q + 1), rP 25 (.slice a5 (q + 1) d5) K (q + 1), rT (.slice a6 (q + 1) d6) K 1 av cv (q + 1), rT (.slice a7 (q + 1) d7) K 2 av cv (q + 1)] ++ (rT (.slice a8 (q + 1) d8) K 1 av cv (q + 1)) :: [rL v7 K q, rP 25 u2 K q, rP 44 u3 K q])) := RM.app (G7.out.alloc (.cells (#[.string kk, .int .i64 1, .slice av 6 cv]) 34)) g8 (by show World.ownsRow _ _ _ _ _ _ ((rT (.slice a8 (q + 1) d8) K 1 av cv (q + 1))).xs; rw [show ((rT (.slice a8 (q + 1) d8) K 1 av cv (q + 1))).xs = ((rT v11 K 1 av cv q)).xs ++ [Value.string kk, Value.int .i64 1, Value.slice av 6 cv] from by rw [← HKEY.out]; exact rT_next _ _ _ _ _ _]; exact o8) b8
            have cA8 := fun o => cell_of_obj H8.out.p o
            have fA8 := fun o => free_of_obj H8.out.p o
            have cM8 := fun o => cell_of_obj H8.out.m o
            have fM8 := fun o => free_of_obj H8.out.m o
            have B8 : Hid (Below w2.heap.size w2 w8) := (E7.out.alloc E7.out.size _).trans ((grown_below g8 ((G7.out.alloc (.cells (#[.string kk, .int .i64 1, .slice av 6 cv]) 34)).own ((rT v11 K 1 av cv q)) (by simp)) (G7.out.alloc (.cells (#[.string kk, .int .i64 1, .slice av 6 cv]) 34)).le).mono (by omega))
            clear o8 g8 hnil b8 Q7 G7 E7
            go_wp2_with (at_builtin; refine stand ?_)
            show wpList _ _ _ _ _ _
            have G8 : Hid (RM (w8.setCell ⟨w2.heap.size, 13, none⟩ (.slice a8 (q + 1) d8)) (w2.heap.size + 2) w2.heap.size (cpR L (.slice a4 (q + 1) d4) (.slice a5 (q + 1) d5) (.slice a6 (q + 1) d6) v7 (.slice a7 (q + 1) d7) (.slice a8 (q + 1) d8)) (cmR L u2 u3) ([rI (.slice a4 (q + 1) d4) (q + 1), rP 25 (.slice a5 (q + 1) d5) K (q + 1), rT (.slice a6 (q + 1) d6) K 1 av cv (q + 1), rT (.slice a7 (q + 1) d7) K 2 av cv (q + 1), rT (.slice a8 (q + 1) d8) K 1 av cv (q + 1)] ++ (rL v7 K q) :: [rP 25 u2 K q, rP 44 u3 K q])) := H8.out.setP 13 (.slice a8 (q + 1) d8)
            have E8 : Hid (Below w2.heap.size w2 (w8.setCell ⟨w2.heap.size, 13, none⟩ (.slice a8 (q + 1) d8))) := B8.out.setCell (Nat.le_refl _) _
            have Q8 : ∀ (j : Nat) (u : Value), ((#[.string kk, .string L, .bool false]) : Array Value).toList[j]? = some u → ((w8.setCell ⟨w2.heap.size, 13, none⟩ (.slice a8 (q + 1) d8)).alloc (.cells (#[.string kk, .string L, .bool false]) 43)).cell? ((⟨w8.heap.size, 0, none⟩ : Addr).add j) = some u := fun j u hu => by have h := new_cells (w8.setCell ⟨w2.heap.size, 13, none⟩ (.slice a8 (q + 1) d8)) (#[.string kk, .string L, .bool false]) 43 j u hu; simpa using h
            clear H8 B8 cA8 fA8 cM8 fM8
            refine wpList_append_own_at _ rfl _ _ 40 rfl (w2.heap.size + 2) 43 iL _ 3 40 Try.underlying40 hLL.out.1 hLL.out.2.1 hLL.out.2.2.1 hLL.out.2.2.2 rfl (by decide) v7 q ((rL v7 K q)).xs rfl ((G8.out.alloc (.cells (#[.string kk, .string L, .bool false]) 43)).own ((rL v7 K q)) (by simp)) ⟨w8.heap.size, 0, none⟩ 1 1 ((#[.string kk, .string L, .bool false]) : Array Value).toList rfl rfl Q8 (by simp [Value.oneCell']) (by unfold maxLen; omega) (by omega) (G8.out.alloc (.cells (#[.string kk, .string L, .bool false]) 43)).le ?_
            intro x7 w9 o9 g9 hnil b9
            obtain ⟨a9, d9, rfl, _, _, _⟩ := own_len o9
            have H9 : Hid (RM w9 (w2.heap.size + 2) w2.heap.size (cpR L (.slice a4 (q + 1) d4) (.slice a5 (q + 1) d5) (.slice a6 (q + 1) d6) v7 (.slice a7 (q + 1) d7) (.slice a8 (q + 1) d8)) (cmR L u2 u3) ([rI (.slice a4 (q + 1) d4) (q + 1), rP 25 (.slice a5 (q + 1) d5) K (q + 1), rT (.slice a6 (q + 1) d6) K 1 av cv (q + 1), rT (.slice a7 (q + 1) d7) K 2 av cv (q + 1), rT (.slice a8 (q + 1) d8) K 1 av cv (q + 1)] ++ (rL (.slice a9 (q + 1) d9) K (q + 1)) :: [rP 25 u2 K q, rP 44 u3 K q])) := RM.app (G8.out.alloc (.cells (#[.string kk, .string L, .bool false]) 43)) g9 (by show World.ownsRow _ _ _ _ _ _ ((rL (.slice a9 (q + 1) d9) K (q + 1))).xs; rw [show ((rL (.slice a9 (q + 1) d9) K (q + 1))).xs = ((rL v7 K q)).xs ++ [Value.string kk, Value.string L, Value.bool false] from by rw [← HKEY.out, ← HL.out]; exact rL_next _ _ _]; exact o9) b9
            have cA9 := fun o => cell_of_obj H9.out.p o
            have fA9 := fun o => free_of_obj H9.out.p o
            have cM9 := fun o => cell_of_obj H9.out.m o
            have fM9 := fun o => free_of_obj H9.out.m o
            have B9 : Hid (Below w2.heap.size w2 w9) := (E8.out.alloc E8.out.size _).trans ((grown_below g9 ((G8.out.alloc (.cells (#[.string kk, .string L, .bool false]) 43)).own ((rL v7 K q)) (by simp)) (G8.out.alloc (.cells (#[.string kk, .string L, .bool false]) 43)).le).mono (by omega))
            clear o9 g9 hnil b9 Q8 G8 E8
            go_wp2_with (at_builtin; refine stand ?_)
            show wpList _ _ _ _ _ _
            have G9 : Hid (RM (w9.setCell ⟨w2.heap.size, 9, none⟩ (.slice a9 (q + 1) d9)) (w2.heap.size + 2) w2.heap.size (cpR L (.slice a4 (q + 1) d4) (.slice a5 (q + 1) d5) (.slice a6 (q + 1) d6) (.slice a9 (q + 1) d9) (.slice a7 (q + 1) d7) (.slice a8 (q + 1) d8)) (cmR L u2 u3) ([rI (.slice a4 (q + 1) d4) (q + 1), rP 25 (.slice a5 (q + 1) d5) K (q + 1), rT (.slice a6 (q + 1) d6) K 1 av cv (q + 1), rT (.slice a7 (q + 1) d7) K 2 av cv (q + 1), rT (.slice a8 (q + 1) d8) K 1 av cv (q + 1), rL (.slice a9 (q + 1) d9) K (q + 1)] ++ (rP 25 u2 K q) :: [rP 44 u3 K q])) := H9.out.setP 9 (.slice a9 (q + 1) d9)
            have E9 : Hid (Below w2.heap.size w2 (w9.setCell ⟨w2.heap.size, 9, none⟩ (.slice a9 (q + 1) d9))) := B9.out.setCell (Nat.le_refl _) _
            have Q9 : ∀ (j : Nat) (u : Value), ((#[.string kk, .string L]) : Array Value).toList[j]? = some u → ((w9.setCell ⟨w2.heap.size, 9, none⟩ (.slice a9 (q + 1) d9)).alloc (.cells (#[.string kk, .string L]) 25)).cell? ((⟨w9.heap.size, 0, none⟩ : Addr).add j) = some u := fun j u hu => by have h := new_cells (w9.setCell ⟨w2.heap.size, 9, none⟩ (.slice a9 (q + 1) d9)) (#[.string kk, .string L]) 25 j u hu; simpa using h
            clear H9 B9 cA9 fA9 cM9 fM9
            refine wpList_append_own_at _ rfl _ _ 22 rfl (w2.heap.size + 2) 25 iP _ 2 32 Try.underlying22 hP.out.1 hP.out.2.1 hP.out.2.2.1 hP.out.2.2.2 rfl (by decide) u2 q ((rP 25 u2 K q)).xs rfl ((G9.out.alloc (.cells (#[.string kk, .string L]) 25)).own ((rP 25 u2 K q)) (by simp)) ⟨w9.heap.size, 0, none⟩ 1 1 ((#[.string kk, .string L]) : Array Value).toList rfl rfl Q9 (by simp [Value.oneCell']) (by unfold maxLen; omega) (by omega) (G9.out.alloc (.cells (#[.string kk, .string L]) 25)).le ?_
            intro y2 w10 o10 g10 hnil b10
            obtain ⟨a10, d10, rfl, _, _, _⟩ := own_len o10
            have H10 : Hid (RM w10 (w2.heap.size + 2) w2.heap.size (cpR L (.slice a4 (q + 1) d4) (.slice a5 (q + 1) d5) (.slice a6 (q + 1) d6) (.slice a9 (q + 1) d9) (.slice a7 (q + 1) d7) (.slice a8 (q + 1) d8)) (cmR L u2 u3) ([rI (.slice a4 (q + 1) d4) (q + 1), rP 25 (.slice a5 (q + 1) d5) K (q + 1), rT (.slice a6 (q + 1) d6) K 1 av cv (q + 1), rT (.slice a7 (q + 1) d7) K 2 av cv (q + 1), rT (.slice a8 (q + 1) d8) K 1 av cv (q + 1), rL (.slice a9 (q + 1) d9) K (q + 1)] ++ (rP 25 (.slice a10 (q + 1) d10) K (q + 1)) :: [rP 44 u3 K q])) := RM.app (G9.out.alloc (.cells (#[.string kk, .string L]) 25)) g10 (by show World.ownsRow _ _ _ _ _ _ ((rP 25 (.slice a10 (q + 1) d10) K (q + 1))).xs; rw [show ((rP 25 (.slice a10 (q + 1) d10) K (q + 1))).xs = ((rP 25 u2 K q)).xs ++ [Value.string kk, Value.string L] from by rw [← HKEY.out, ← HL.out]; exact rP_next _ _ _ _]; exact o10) b10
            have cA10 := fun o => cell_of_obj H10.out.p o
            have fA10 := fun o => free_of_obj H10.out.p o
            have cM10 := fun o => cell_of_obj H10.out.m o
            have fM10 := fun o => free_of_obj H10.out.m o
            have B10 : Hid (Below w2.heap.size w2 w10) := (E9.out.alloc E9.out.size _).trans ((grown_below g10 ((G9.out.alloc (.cells (#[.string kk, .string L]) 25)).own ((rP 25 u2 K q)) (by simp)) (G9.out.alloc (.cells (#[.string kk, .string L]) 25)).le).mono (by omega))
            clear o10 g10 hnil b10 Q9 G9 E9
            go_wp2_with (at_builtin; refine stand ?_)
            show wpList _ _ _ _ _ _
            have G10 : Hid (RM (w10.setCell ⟨w2.heap.size + 1, 4, none⟩ (.slice a10 (q + 1) d10)) (w2.heap.size + 2) w2.heap.size (cpR L (.slice a4 (q + 1) d4) (.slice a5 (q + 1) d5) (.slice a6 (q + 1) d6) (.slice a9 (q + 1) d9) (.slice a7 (q + 1) d7) (.slice a8 (q + 1) d8)) (cmR L (.slice a10 (q + 1) d10) u3) ([rI (.slice a4 (q + 1) d4) (q + 1), rP 25 (.slice a5 (q + 1) d5) K (q + 1), rT (.slice a6 (q + 1) d6) K 1 av cv (q + 1), rT (.slice a7 (q + 1) d7) K 2 av cv (q + 1), rT (.slice a8 (q + 1) d8) K 1 av cv (q + 1), rL (.slice a9 (q + 1) d9) K (q + 1), rP 25 (.slice a10 (q + 1) d10) K (q + 1)] ++ (rP 44 u3 K q) :: [])) := H10.out.setM 4 (.slice a10 (q + 1) d10)
            have E10 : Hid (Below w2.heap.size w2 (w10.setCell ⟨w2.heap.size + 1, 4, none⟩ (.slice a10 (q + 1) d10))) := B10.out.setCell (Nat.le_succ _) _
            have Q10 : ∀ (j : Nat) (u : Value), ((#[.string kk, .string L]) : Array Value).toList[j]? = some u → ((w10.setCell ⟨w2.heap.size + 1, 4, none⟩ (.slice a10 (q + 1) d10)).alloc (.cells (#[.string kk, .string L]) 44)).cell? ((⟨w10.heap.size, 0, none⟩ : Addr).add j) = some u := fun j u hu => by have h := new_cells (w10.setCell ⟨w2.heap.size + 1, 4, none⟩ (.slice a10 (q + 1) d10)) (#[.string kk, .string L]) 44 j u hu; simpa using h
            clear H10 B10 cA10 fA10 cM10 fM10
            refine wpList_append_own_at _ rfl _ _ 41 rfl (w2.heap.size + 2) 44 iN _ 2 32 Try.underlying41 hNN.out.1 hNN.out.2.1 hNN.out.2.2.1 hNN.out.2.2.2 rfl (by decide) u3 q ((rP 44 u3 K q)).xs rfl ((G10.out.alloc (.cells (#[.string kk, .string L]) 44)).own ((rP 44 u3 K q)) (by simp)) ⟨w10.heap.size, 0, none⟩ 1 1 ((#[.string kk, .string L]) : Array Value).toList rfl rfl Q10 (by simp [Value.oneCell']) (by unfold maxLen; omega) (by omega) (G10.out.alloc (.cells (#[.string kk, .string L]) 44)).le ?_
            intro y3 w11 o11 g11 hnil b11
            obtain ⟨a11, d11, rfl, _, _, _⟩ := own_len o11
            have H11 : Hid (RM w11 (w2.heap.size + 2) w2.heap.size (cpR L (.slice a4 (q + 1) d4) (.slice a5 (q + 1) d5) (.slice a6 (q + 1) d6) (.slice a9 (q + 1) d9) (.slice a7 (q + 1) d7) (.slice a8 (q + 1) d8)) (cmR L (.slice a10 (q + 1) d10) u3) ([rI (.slice a4 (q + 1) d4) (q + 1), rP 25 (.slice a5 (q + 1) d5) K (q + 1), rT (.slice a6 (q + 1) d6) K 1 av cv (q + 1), rT (.slice a7 (q + 1) d7) K 2 av cv (q + 1), rT (.slice a8 (q + 1) d8) K 1 av cv (q + 1), rL (.slice a9 (q + 1) d9) K (q + 1), rP 25 (.slice a10 (q + 1) d10) K (q + 1)] ++ (rP 44 (.slice a11 (q + 1) d11) K (q + 1)) :: [])) := RM.app (G10.out.alloc (.cells (#[.string kk, .string L]) 44)) g11 (by show World.ownsRow _ _ _ _ _ _ ((rP 44 (.slice a11 (q + 1) d11) K (q + 1))).xs; rw [show ((rP 44 (.slice a11 (q + 1) d11) K (q + 1))).xs = ((rP 44 u3 K q)).xs ++ [Value.string kk, Value.string L] from by rw [← HKEY.out, ← HL.out]; exact rP_next _ _ _ _]; exact o11) b11
            have cA11 := fun o => cell_of_obj H11.out.p o
            have fA11 := fun o => free_of_obj H11.out.p o
            have cM11 := fun o => cell_of_obj H11.out.m o
            have fM11 := fun o => free_of_obj H11.out.m o
            have B11 : Hid (Below w2.heap.size w2 w11) := (E10.out.alloc E10.out.size _).trans ((grown_below g11 ((G10.out.alloc (.cells (#[.string kk, .string L]) 44)).own ((rP 44 u3 K q)) (by simp)) (G10.out.alloc (.cells (#[.string kk, .string L]) 44)).le).mono (by omega))
            clear o11 g11 hnil b11 Q10 G10 E10
            go_wp2
            go_roundw
            case rel => exact ⟨q + 1, by omega, by go_num, ⟨(.slice a4 (q + 1) d4), (.slice a5 (q + 1) d5), (.slice a6 (q + 1) d6), (.slice a9 (q + 1) d9), (.slice a7 (q + 1) d7), (.slice a8 (q + 1) d8), (.slice a10 (q + 1) d10), (.slice a11 (q + 1) d11), H11.out.setM 5 (.slice a11 (q + 1) d11)⟩, B11.out.setCell (Nat.le_succ _) _⟩
            case measure => simp [intOf]; omega
        · as_aux_lemma =>
            obtain rfl : q = N := by omega
            obtain ⟨p4, d4, rfl⟩ := row_form (hrm.own (rI v4 q) (by simp)) (v := v4) (q := q) rfl rfl
            obtain ⟨p5, d5, rfl⟩ := row_form (hrm.own (rP 25 v5 K q) (by simp)) (v := v5) (q := q) rfl rfl
            obtain ⟨p6, d6, rfl⟩ := row_form (hrm.own (rT v6 K 1 av cv q) (by simp)) (v := v6) (q := q) rfl rfl
            obtain ⟨p9, d9, rfl⟩ := row_form (hrm.own (rT v9 K 2 av cv q) (by simp)) (v := v9) (q := q) rfl rfl
            obtain ⟨p11, d11, rfl⟩ := row_form (hrm.own (rT v11 K 1 av cv q) (by simp)) (v := v11) (q := q) rfl rfl
            obtain ⟨p7, d7, rfl⟩ := row_form (hrm.own (rL v7 K q) (by simp)) (v := v7) (q := q) rfl rfl
            obtain ⟨p2, d2, rfl⟩ := row_form (hrm.own (rP 25 u2 K q) (by simp)) (v := u2) (q := q) rfl rfl
            obtain ⟨p3, d3, rfl⟩ := row_form (hrm.own (rP 44 u3 K q) (by simp)) (v := u3) (q := q) rfl rfl
            have hvr : At1 wr av (valsR K) := by have h := hat.below hbel; unfold valsR; rw [HL.out]; exact h
            have hpa := room_podAt hvr (hrm.own (rI (.slice p4 q d4) q) (by simp)) (hrm.own (rP 25 (.slice p5 q d5) K q) (by simp)) (hrm.own (rT (.slice p6 q d6) K 1 av cv q) (by simp)) (hrm.own (rT (.slice p9 q d9) K 2 av cv q) (by simp)) (hrm.own (rT (.slice p11 q d11) K 1 av cv q) (by simp)) (hrm.own (rL (.slice p7 q d7) K q) (by simp)) (by omega)
            have hna := room_nodeAt (hrm.own (rP 25 (.slice p2 q d2) K q) (by simp)) (hrm.own (rP 44 (.slice p3 q d3) K q) (by simp)) (by omega)
            have ev := room_podV K q HL.out p4 p5 p6 p7 p9 p11 d4 d5 d6 d7 d9 d11
            have en := room_nodeV K q HL.out p2 p3 d2 d3
            have tp := room_pod hN K1 K2
            have tn := room_node hN K1 K2
            have hA := fun o => cell_of_obj hrm.p o
            have hB := fun o => cell_of_obj hrm.m o
            have HBP := Lib.hid hrm.p
            have hzA : w2.heap.size + 1 < wr.heap.size := by have := hrm.le; omega
            have hterm : Hid ((roomP K q).term < 9223372036854775808) := by show (1099511627776 : Int) < _; decide
            generalize roomP K q = P at hpa ev tp hterm
            generalize roomN K q = M at hna en tn
            have hbd : Below wr.heap.size wr wr.drew := (Below.refl _ _).drew
            have A1 : ∀ W : World, (Below wr.heap.size wr W ∧ (∀ o, W.cell? ⟨w2.heap.size, o, none⟩ = (cpR L (.slice p4 q d4) (.slice p5 q d5) (.slice p6 q d6) (.slice p7 q d7) (.slice p9 q d9) (.slice p11 q d11))[o]?) ∧ (∀ o, W.cell? ⟨w2.heap.size + 1, o, none⟩ = (cmR L (.slice p2 q d2) (.slice p3 q d3))[o]?)) → Calls Try.prog 25 #[.agg (cpR L (.slice p4 q d4) (.slice p5 q d5) (.slice p6 q d6) (.slice p7 q d7) (.slice p9 q d9) (.slice p11 q d11))] W (EncPost W (podEnc P)) := fun W hS => by rw [← ev]; exact putPod_any P _ W (hpa.below hS.1) hterm
            have A2 : ∀ W : World, (Below wr.heap.size wr W ∧ (∀ o, W.cell? ⟨w2.heap.size, o, none⟩ = (cpR L (.slice p4 q d4) (.slice p5 q d5) (.slice p6 q d6) (.slice p7 q d7) (.slice p9 q d9) (.slice p11 q d11))[o]?) ∧ (∀ o, W.cell? ⟨w2.heap.size + 1, o, none⟩ = (cmR L (.slice p2 q d2) (.slice p3 q d3))[o]?)) → Calls Try.prog 26 #[.agg (cmR L (.slice p2 q d2) (.slice p3 q d3))] W (EncPost W (nodeEnc M)) := fun W hS => by rw [← en]; exact putNode_any M _ W (hna.below hS.1)
            have HA1 := Lib.hid A1
            have HA2 := Lib.hid A2
            have HPA := Lib.hid hpa
            have HEV := Lib.hid ev
            have HTP := Lib.hid tp
            have HTN := Lib.hid tn
            have HBEL := Lib.hid hbel
            clear A1 A2 hpa hna ev en tp tn hrm hbel hat hvr
            go_wp2_with fail
            go_region_held_law (fun W => Below wr.heap.size wr W ∧ (∀ o, W.cell? ⟨w2.heap.size, o, none⟩ = (cpR L (.slice p4 q d4) (.slice p5 q d5) (.slice p6 q d6) (.slice p7 q d7) (.slice p9 q d9) (.slice p11 q d11))[o]?) ∧ (∀ o, W.cell? ⟨w2.heap.size + 1, o, none⟩ = (cmR L (.slice p2 q d2) (.slice p3 q d3))[o]?))
              (first | exact hS6 | exact hS5 | exact ⟨hbd, hA, hB⟩ | go_keep)
              (first
                | (go_at_call 25
                   refine Calls.mono (HA1.out _ (by assumption)) ?_
                   rintro e w5 ⟨v5, rfl, ho5, hb5⟩
                   have hS5 := two_later (by assumption) hb5 (Nat.lt_of_succ_lt hzA) hzA)
                | (go_at_call 26
                   refine Calls.mono (HA2.out _ (by assumption)) ?_
                   rintro e w6 ⟨v6, rfl, ho6, hb6⟩
                   have hS6 := two_later (by assumption) hb6 (Nat.lt_of_succ_lt hzA) hzA))
            obtain ⟨a5, c5, rfl, l5, m5, q5, pl5⟩ := own_bytes ho5 (allB_pod P)
            obtain ⟨a6, c6, rfl, l6, m6, q6, pl6⟩ := own_bytes ho6 (allB_node M)
            have hat6 := q5.below hb6
            have hS66 := hS6
            clear ho5 ho6 hb5 hb6 hS5 hS6 q5 q6 hA hB hbd pl5 pl6 HA1 HA2
            by_cases h6 : q ≤ 6
            · have hpb : podB P = true := by rw [HTP.out]; exact decide_eq_true h6
              have hnb : nodeB M = true := by rw [HTN.out]; exact decide_eq_true h6
              obtain ⟨z1, z2⟩ := podEnc_len hpb
              obtain ⟨y1, y2⟩ := nodeEnc_len hnb
              have hback : getPodR (vI (podEnc P)) = some P := by
                have e : podEnc P = podBytes P := by unfold podEnc; rw [hpb]; rfl
                rw [e]; exact pod_back hpb hterm.out
              have HG := Lib.hid hback
              have hvl := vI_len (podEnc P)
              have hg0 := getPod_r a5 (vI (podEnc P)) (podEnc P).length c5 w6 hvl hat6 (by rw [hvl]; exact l5) m5
              rw [hback] at hg0
              have HG0 := Lib.hid hg0
              clear hback hg0 hvl hat6 hpb hnb l5 l6
              generalize (podEnc P).length = PL at z1 z2 HG0 ⊢
              generalize (nodeEnc M).length = NL at y1 y2 ⊢
              go_wp2_with fail
              refine Calls.mono HG0.out ?_
              intro e w7 hpost
              rcases hpost with ⟨P', h2, hpk, rfl, ho7, hb7⟩ | ⟨hx, _⟩
              rotate_left
              · exact absurd hx (by simp)
              obtain rfl : P = P' := Option.some.inj hpk
              clear hpk
              have b7 := hS66.1.trans (hb7.mono hS66.1.size)
              have HB7 := Lib.hid (((((Below.refl w7.heap.size w7).alloc (Nat.le_refl _) (podBox P h2)).block w2.heap.size (by have := b7.size; omega)).trans (b7.block w2.heap.size (by omega))).trans HBP.out)
              have HX7 := Lib.hid (heap_alloc_self w7 (podBox P h2))
              have hp7 := (HPA.out.below b7).below ((Below.refl w7.heap.size w7).alloc (Nat.le_refl _) (podBox P h2))
              have hq7 := ho7.at.below ((Below.refl w7.heap.size w7).alloc (Nat.le_refl _) (podBox P h2))
              have hbw7 := hbw0.trans (((HBEL.out.trans (b7.mono HBEL.out.size)).alloc (HBEL.out.trans (b7.mono HBEL.out.size)).size (podBox P h2)).mono hbw0.size)
              have A5 := eqPod_any P P _ h2 _ hp7 hq7
              rw [eqPod_self, HEV.out] at A5
              have HA5 := Lib.hid A5
              clear A5 hp7 hq7 ho7 hb7 b7 HPA HEV HBP HBEL hS66
              clear eN eJ eK k1 k2 hLs hq hlt HTP HTN HL hS hI hP hNN hLL hT hterm hzA m5 m6 HG HG0
              go_wp2_with (first | (refine wpList_load_rowG (by first | rfl | kernel_rfl) 53 (.tmp 15) rfl w7.heap.size rfl 53 _ (0, 0) _ HX7.out Try.underlying53 rfl (by kernel_rfl) ?_) | (refine wpList_load_rowG (by first | rfl | kernel_rfl) 53 (.tmp 9) rfl w2.heap.size rfl 53 _ (0, 0) _ HB7.out Try.underlying53 rfl (by kernel_rfl) ?_))
              refine Calls.mono HA5.out ?_
              rintro e w8 ⟨rfl, hb8⟩
              go_wp2
              go_ret
              exact ⟨rfl, hbw7.trans (hb8.mono hbw7.size)⟩
            · have hpb : podB P = false := by rw [HTP.out]; exact decide_eq_false h6
              have hnb : nodeB M = false := by rw [HTN.out]; exact decide_eq_false h6
              have e1 := podEnc_no hpb
              have e2' := nodeEnc_no hnb
              rw [e1] at hat6 l5 ⊢
              rw [e2'] at l6 ⊢
              have hg0 := getPod_r a5 (vI []) 0 c5 w6 rfl hat6 l5 m5
              have e3' : getPodR (vI []) = none := getPod_nil
              rw [e3'] at hg0
              have HG0 := Lib.hid hg0
              clear hg0 e1 e2' e3' hat6 hpb hnb l5 l6
              have h7 : 6 < q := by omega
              rw [List.length_nil]
              go_wp2_with fail
              refine Calls.mono HG0.out ?_
              intro e w7 hpost
              rcases hpost with ⟨P', h2, hpk, _⟩ | ⟨_, rfl, hb7⟩
              · cases hpk
              have b7 := hS66.1.trans (hb7.mono hS66.1.size)
              have hbw7 := hbw0.trans ((HBEL.out.trans (b7.mono HBEL.out.size)).mono hbw0.size)
              generalize zeroP = z0
              generalize zeroH = z1
              clear eN eJ eK k1 k2 hLs hq hlt HTP HTN HL hS hI hP hNN hLL hT hterm hzA m5 m6 HG0 HPA HEV HBP
              go_wp2
              go_ret
              exact ⟨rfl, hbw7.alloc hbw7.size _⟩
end Go.Proofs.Ytnimplldkambhab
