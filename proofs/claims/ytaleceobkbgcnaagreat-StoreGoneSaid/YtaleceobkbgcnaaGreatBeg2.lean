/-
  The closed sentence that opens each law. No conditions beyond what is written in each statement.
-/
import Derived.Test.YtaleceobkbgcnaaGreatGLabel
import Derived.Test.YtaleceobkbgcnaaGreatGEqB
import Derived.Test.YtaleceobkbgcnaaGreatBeg1
set_option linter.unusedSimpArgs false
set_option linter.unusedVariables false
namespace Go.Proofs.YtaleceobkbgcnaaGreat
open Go.RowKit

def u8s (l : List Int) : List Value := l.map (fun x => Value.int .u8 x)
theorem bytes_of {w : World} {N : Nat} {v : Value} {n : Nat} {xs : List Value} (l : List Int) (h : w.ownsRow N 5 1 v n xs) (hx : xs = u8s l) (hl : l.length = n) (hr : ∀ x ∈ l, 0 ≤ x ∧ x ≤ 255) :
    ∃ a cap, v = .slice a n cap ∧ n ≤ cap ∧ cap ≤ maxLen ∧ AtB w a l := by
  subst hx
  rcases h.2 with ⟨rfl, rfl⟩ | ⟨g, c, cur, rfl, _, hg, hnc, hcm, hcs, hcut⟩
  · exact ⟨none, 0, rfl, Nat.le_refl _, Nat.zero_le _, fun i hi => by omega⟩
  · refine ⟨_, c, rfl, hnc, hcm, fun i hi => ?_⟩
    obtain ⟨b, e, hb, hc⟩ := owned_cells h (i := i) (j := 0) (by omega) (by decide)
    have hm : l.getD i 0 ∈ l := by
      rw [List.getD_eq_getElem?_getD, List.getElem?_eq_getElem hi]
      exact List.getElem_mem hi
    refine ⟨b, 0, e, hb, ?_, (hr _ hm).1, (hr _ hm).2⟩
    rw [show 0 + i = 0 + i * 1 + 0 by omega, hc]
    simp [u8s, List.getD_eq_getElem?_getD, List.getElem?_eq_getElem hi]

def someL : List Int := (podBytes someP).map valInt
theorem some_enc : podEnc someP = u8s someL := by kernel_rfl
theorem some_encl : (podEnc someP).length = someL.length := by kernel_rfl
theorem some_len : someL.length = 256 := by kernel_rfl
theorem some_in : ∀ x ∈ someL, 0 ≤ x ∧ x ≤ 255 := by
  have h : (someL.all fun x => decide (0 ≤ x) && decide (x ≤ 255)) = true := by kernel_rfl
  intro x hx
  simpa using List.all_eq_true.1 h x hx
theorem some_back : getPodR someL = some someP := some_round
def leaL : List Int := (leaseEnc 3 1000).map valInt
theorem lea_enc : leaseEnc 3 1000 = u8s leaL := by kernel_rfl
theorem lea_len : leaL.length = 24 := by kernel_rfl
theorem lea_in : ∀ x ∈ leaL, 0 ≤ x ∧ x ≤ 255 := by
  have h : (leaL.all fun x => decide (0 ≤ x) && decide (x ≤ 255)) = true := by kernel_rfl
  intro x hx
  simpa using List.all_eq_true.1 h x hx
theorem lea_round : getLeaseR leaL = some (3, 1000) := by kernel_rfl
theorem sum_two : sumF [(1, 2, 3), (4, 5, 6)] 0 0 0 = (true, 5, 7, 9) := by kernel_rfl

theorem some_match : matchB someP.sel [(tZone, tB)] = true := by kernel_rfl
theorem some_all : allB someP.tols [(tX, ⟨#[121]⟩)] = true := by kernel_rfl
theorem some_pod : podB someP = true := by kernel_rfl
theorem some_eq : eqPodB someP someP = true := by kernel_rfl
theorem some_key : keyOf 1 tA = ⟨#[112, 47, 97]⟩ := by kernel_rfl
theorem some_kind : kindOf ⟨#[110, 47, 98]⟩ = 2 := by kernel_rfl
theorem one_third : shareOf 1 3 = 33 := by kernel_rfl
theorem some_pos : (0 : Int) < (someL.length : Int) := by rw [some_len]; decide

theorem wpList_load_rowG {P : Program} {ops : Array Oper} {rest : List Oper} {o : Oper} {a : Act} {w : World} {Q : Exit → Act → World → Prop} (hgd : (Region.wanted o (yielded ops a.tmps)) = true) (ty : TypeId) (x : Operand) (ho : o.op = .load ty x)
    (g : Nat) (hx : a.eval x = .pointer (some ⟨g, 0, none⟩)) (t : TypeId) (cs : Array Value) (fr : Nat × Nat) (d : TypeDesc) (hg : w.heap[g]? = some (.cells cs t fr))
    (hu : P.underlying ty = some d) (hd : (match d with | .struct _ | .array _ _ => true | _ => false) = true) (hi : (P.info? ty).map (·.size) = some cs.size)
    (h : wpList P ops Q rest (a.put o.dst (.agg cs)) w) : wpList P ops Q (o :: rest) a w :=
  wpList_step fun K hK => by rw [if_pos hgd]; exact wp_load_row ty x ho g hx t cs fr d hg hu hd hi (hK _ _ h)

set_option maxRecDepth 100000 in
set_option maxHeartbeats 8000000 in
theorem begun_any (w : World) : Calls Tryz.prog 115 #[] w fun e w' => e = .returned (.bool true) ∧ Below w.heap.size w w' := by
  go_enter Tryz.func115, Tryz.ntmps115
  go_wp2_with fail
  refine (sum_any [(1, 2, 3), (4, 5, 6)] w.heap.size 0 2 _ (by simp) ?_ (by decide)).mono ?_
  · intro i hi
    match i, hi with
    | 0, _ => exact ⟨cell_of_obj (heap_alloc_self w _) 0, cell_of_obj (heap_alloc_self w _) 1, cell_of_obj (heap_alloc_self w _) 2⟩
    | 1, _ => exact ⟨cell_of_obj (heap_alloc_self w _) 3, cell_of_obj (heap_alloc_self w _) 4, cell_of_obj (heap_alloc_self w _) 5⟩
  rintro e w1 ⟨rfl, hb1⟩
  rw [sum_two]
  have hbw1 : Below w.heap.size w w1 := ((Below.refl _ _).alloc (Nat.le_refl _) _).trans (hb1.mono (by simp))
  clear hb1
  go_wp2_with fail
  refine (some_any _).mono ?_
  rintro e w2 ⟨h, rfl, hp, hb2⟩
  have hS2 : ∀ o, w2.cell? ⟨w1.heap.size, o, none⟩ = (w1.alloc (box3 5 7 9)).cell? ⟨w1.heap.size, o, none⟩ := fun o => hb2.cell (p := ⟨w1.heap.size, o, none⟩) (by simp)
  have hz2 : w1.heap.size < w2.heap.size := by have := hb2.size; simp at this; omega
  have hbw2 : Below w.heap.size w w2 := (hbw1.alloc hbw1.size _).trans (hb2.mono (by simp; have := hbw1.size; omega))
  clear hbw1 hb2
  go_wp2_with fail
  refine (putPod_any someP h _ (hp.below ((Below.refl _ _).alloc (Nat.le_refl _) _)) (Lib.hid (by decide : someP.term < 9223372036854775808))).mono ?_
  rintro e w3 ⟨v, rfl, ho, hb3⟩
  rw [some_encl] at ho
  have hS3 : ∀ o, w3.cell? ⟨w1.heap.size, o, none⟩ = (w1.alloc (box3 5 7 9)).cell? ⟨w1.heap.size, o, none⟩ := fun o => (hb3.cell (p := ⟨w1.heap.size, o, none⟩) (by simp; omega)).trans ((((Below.refl w2.heap.size w2).alloc (Nat.le_refl _) _).cell (p := ⟨w1.heap.size, o, none⟩) hz2).trans (hS2 o))
  have hP3 : ∀ o, w3.cell? ⟨w2.heap.size, o, none⟩ = (w2.alloc (podBox someP h)).cell? ⟨w2.heap.size, o, none⟩ := fun o => hb3.cell (p := ⟨w2.heap.size, o, none⟩) (by simp)
  have hz3 : w2.heap.size < w3.heap.size := by have := hb3.size; simp at this; omega
  have HP3 := Lib.hid ((hb3.block w2.heap.size (by simp)).trans (heap_alloc_self w2 (podBox someP h)))
  have hbw3 : Below w.heap.size w w3 := (hbw2.alloc hbw2.size _).trans (hb3.mono (by simp; have := hbw2.size; omega))
  have hp3 : PodAt w3 someP h := hp.below (((Below.refl _ _).alloc (Nat.le_refl _) _).trans (hb3.mono (by simp)))
  obtain ⟨ba, bc, rfl, hc1, hc2, hat⟩ := bytes_of someL ho some_enc rfl some_in
  clear hb3 hS2 hbw2 hp ho
  go_wp2_with fail
  refine (getPod_any ba someL bc _ hat hc1 hc2).mono ?_
  intro e w4 hpost
  rw [some_back] at hpost
  rcases hpost with ⟨p', k, hpk, rfl, ho4, hb4⟩ | ⟨hn, _⟩
  rotate_left
  · exact absurd hn (by simp)
  have hpk := Option.some.inj hpk
  subst hpk
  have hS4 : ∀ o, w4.cell? ⟨w1.heap.size, o, none⟩ = (w1.alloc (box3 5 7 9)).cell? ⟨w1.heap.size, o, none⟩ := fun o => (hb4.cell (p := ⟨w1.heap.size, o, none⟩) (by simp; omega)).trans (hS3 o)
  have hP4 : ∀ o, w4.cell? ⟨w2.heap.size, o, none⟩ = (w2.alloc (podBox someP h)).cell? ⟨w2.heap.size, o, none⟩ := fun o => (hb4.cell (p := ⟨w2.heap.size, o, none⟩) hz3).trans (hP3 o)
  have hz4 : w3.heap.size ≤ w4.heap.size := hb4.size
  have HP4 := Lib.hid ((hb4.block w2.heap.size hz3).trans HP3.out)
  have hbw4 : Below w.heap.size w w4 := hbw3.trans (hb4.mono hbw3.size)
  have hp4 : PodAt w4 someP h := hp3.below hb4
  have hq4 : PodAt w4 someP k := ho4.at
  clear hS3 hP3 hbw3 hp3 hb4 ho4 hat hc1 hc2
  go_wp2_with fail
  refine (putLease_any 3 1000 _).mono ?_
  rintro e w5 ⟨v, rfl, ho, hb5⟩
  have hA4 : Below w4.heap.size w4 w5 := ((Below.refl _ _).alloc (Nat.le_refl _) _).trans (hb5.mono (by simp))
  have hS5 : ∀ o, w5.cell? ⟨w1.heap.size, o, none⟩ = (w1.alloc (box3 5 7 9)).cell? ⟨w1.heap.size, o, none⟩ := fun o => (hA4.cell (p := ⟨w1.heap.size, o, none⟩) (by simp; omega)).trans (hS4 o)
  have hP5 : ∀ o, w5.cell? ⟨w2.heap.size, o, none⟩ = (w2.alloc (podBox someP h)).cell? ⟨w2.heap.size, o, none⟩ := fun o => (hA4.cell (p := ⟨w2.heap.size, o, none⟩) (by simp; omega)).trans (hP4 o)
  have hQ5 : ∀ o, w5.cell? ⟨w4.heap.size, o, none⟩ = (w4.alloc (podBox someP k)).cell? ⟨w4.heap.size, o, none⟩ := fun o => hb5.cell (p := ⟨w4.heap.size, o, none⟩) (by simp)
  have hz5 : w4.heap.size < w5.heap.size := by have := hb5.size; simp at this; omega
  have HP5 := Lib.hid ((hA4.block w2.heap.size (by omega)).trans HP4.out)
  have HQ5 := Lib.hid ((hb5.block w4.heap.size (by simp)).trans (heap_alloc_self w4 (podBox someP k)))
  have hbw5 : Below w.heap.size w w5 := hbw4.trans (hA4.mono hbw4.size)
  have hp5 : PodAt w5 someP h := hp4.below hA4
  have hq5 : PodAt w5 someP k := hq4.below hA4
  rw [show (leaseEnc 3 1000).length = leaL.length from rfl] at ho
  obtain ⟨la, lc, rfl, hc1, hc2, hat⟩ := bytes_of leaL ho lea_enc rfl lea_in
  clear hb5 hA4 hS4 hP4 hbw4 hp4 hq4 ho
  go_wp2_with fail
  refine (getLease_any la leaL lc _ hat hc1 hc2).mono ?_
  rintro e w6 ⟨rfl, hb6⟩
  rw [lea_round]
  rw [show leaseH (some (3, 1000)) = 3 from rfl, show leaseD (some (3, 1000)) = 1000 from rfl, show leaseOk (some (3, 1000)) = true from rfl]
  have hS6 : ∀ o, w6.cell? ⟨w1.heap.size, o, none⟩ = (w1.alloc (box3 5 7 9)).cell? ⟨w1.heap.size, o, none⟩ := fun o => (hb6.cell (p := ⟨w1.heap.size, o, none⟩) (by simp; omega)).trans (hS5 o)
  have hP6 : ∀ o, w6.cell? ⟨w2.heap.size, o, none⟩ = (w2.alloc (podBox someP h)).cell? ⟨w2.heap.size, o, none⟩ := fun o => (hb6.cell (p := ⟨w2.heap.size, o, none⟩) (by simp; omega)).trans (hP5 o)
  have hQ6 : ∀ o, w6.cell? ⟨w4.heap.size, o, none⟩ = (w4.alloc (podBox someP k)).cell? ⟨w4.heap.size, o, none⟩ := fun o => (hb6.cell (p := ⟨w4.heap.size, o, none⟩) hz5).trans (hQ5 o)
  have hz6 : w5.heap.size ≤ w6.heap.size := hb6.size
  have HP6 := Lib.hid ((hb6.block w2.heap.size (by omega)).trans HP5.out)
  have HQ6 := Lib.hid ((hb6.block w4.heap.size hz5).trans HQ5.out)
  have hbw6 : Below w.heap.size w w6 := hbw5.trans (hb6.mono hbw5.size)
  have hp6 : PodAt w6 someP h := hp5.below hb6
  have hq6 : PodAt w6 someP k := hq5.below hb6
  clear hb6 hS5 hP5 hQ5 hbw5 hp5 hq5 hat hc1 hc2 hpk
  have i1 : w1.heap.size < w6.heap.size := by omega
  have i2 : w2.heap.size < w6.heap.size := by omega
  have i4 : w4.heap.size < w6.heap.size := by omega
  clear hz2 hz3 hz4 hz5 hz6
  have gd := guardR
  have he : ∀ w : World, (Op.equalIn 10000 210 (res 5 7 9) (res 5 7 9)).run Tryz.prog w = .ok true w := fun w => eq_R 5 7 9 5 7 9 w
  go_wp2_with fail
  refine (share_any 1 3 _).mono ?_
  rintro e w7 ⟨rfl, rfl⟩
  rw [one_third]
  clear gd he hS6 i1
  go_wp2_with fail
  have hB6 : ∀ o o' : Obj, Below w6.heap.size w6 ((w6.alloc o).alloc o') := fun o o' => ((Below.refl _ _).alloc (Nat.le_refl _) o).alloc (by simp) o'
  have hL6 : ∀ o o' : Obj, ((w6.alloc o).alloc o').heap[w6.heap.size + 1]? = some o' := fun o o' => by
    rw [show w6.heap.size + 1 = (w6.alloc o).heap.size by simp]
    exact heap_alloc_self _ _
  refine (match_any _ someP.sel _ _ [(tZone, tB)] 1 _ (hp6.sel.below (hB6 _ _)) ?_ (by decide)).mono ?_
  · intro i hi
    match i, hi with
    | 0, _ => exact ⟨_, 0, rfl, by simp, cell_of_obj (hL6 _ _) 0, cell_of_obj (hL6 _ _) 1⟩
  rintro e w8 ⟨rfl, hb8⟩
  rw [some_match]
  have hX8 : Below w6.heap.size w6 w8 := (hB6 _ _).trans (hb8.mono (by simp; omega))
  have hH8 : ∀ o, w8.cell? ⟨w6.heap.size, o, none⟩ = (w6.alloc (.cells #[.int .i64 3, .int .i64 1000] 223)).cell? ⟨w6.heap.size, o, none⟩ := fun o => (hb8.cell (p := ⟨w6.heap.size, o, none⟩) (by simp; omega)).trans (((Below.refl _ _).alloc (Nat.le_refl _) _).cell (p := ⟨w6.heap.size, o, none⟩) (by simp))
  have hz8 : w6.heap.size < w8.heap.size := by have := hb8.size; simp at this; omega
  have hP8 : ∀ o, w8.cell? ⟨w2.heap.size, o, none⟩ = (w2.alloc (podBox someP h)).cell? ⟨w2.heap.size, o, none⟩ := fun o => (hX8.cell (p := ⟨w2.heap.size, o, none⟩) i2).trans (hP6 o)
  have hQ8 : ∀ o, w8.cell? ⟨w4.heap.size, o, none⟩ = (w4.alloc (podBox someP k)).cell? ⟨w4.heap.size, o, none⟩ := fun o => (hX8.cell (p := ⟨w4.heap.size, o, none⟩) i4).trans (hQ6 o)
  have hbw8 : Below w.heap.size w w8 := hbw6.trans (hX8.mono hbw6.size)
  have HP8 := Lib.hid ((hX8.block w2.heap.size i2).trans HP6.out)
  have HQ8 := Lib.hid ((hX8.block w4.heap.size i4).trans HQ6.out)
  clear HP3 HP4 HP5 HP6 HQ5 HQ6
  have hp8 : PodAt w8 someP h := hp6.below hX8
  have hq8 : PodAt w8 someP k := hq6.below hX8
  have j2 : w2.heap.size < w8.heap.size := by omega
  have j4 : w4.heap.size < w8.heap.size := by omega
  clear hb8 hX8 hB6 hL6 hP6 hQ6 hbw6 hp6 hq6 i2 i4
  go_wp2_with fail
  have hB8 : ∀ o : Obj, Below w8.heap.size w8 (w8.alloc o) := fun o => (Below.refl _ _).alloc (Nat.le_refl _) o
  refine (all_any _ someP.tols _ _ [(tX, ⟨#[121]⟩)] 1 _ (hp8.tols.below (hB8 _)) ?_ (by decide)).mono ?_
  · intro i hi
    match i, hi with
    | 0, _ => exact ⟨_, 0, rfl, by simp, cell_of_obj (heap_alloc_self _ _) 0, cell_of_obj (heap_alloc_self _ _) 1⟩
  rintro e w9 ⟨rfl, hb9⟩
  rw [some_all]
  have hX9 : Below w8.heap.size w8 w9 := (hB8 _).trans (hb9.mono (by simp))
  have hz9 : w6.heap.size < w9.heap.size := Nat.lt_of_lt_of_le hz8 hX9.size
  have hH9 : ∀ o, w9.cell? ⟨w6.heap.size, o, none⟩ = (w6.alloc (.cells #[.int .i64 3, .int .i64 1000] 223)).cell? ⟨w6.heap.size, o, none⟩ := fun o => (hX9.cell (p := ⟨w6.heap.size, o, none⟩) hz8).trans (hH8 o)
  have HP9 := Lib.hid ((hX9.block w2.heap.size j2).trans HP8.out)
  have HQ9 := Lib.hid ((hX9.block w4.heap.size j4).trans HQ8.out)
  have hbw9 : Below w.heap.size w w9 := hbw8.trans (hX9.mono hbw8.size)
  have hp9 : PodAt w9 someP h := hp8.below hX9
  have hq9 : PodAt w9 someP k := hq8.below hX9
  have j9 : w2.heap.size < w9.heap.size ∧ w4.heap.size < w9.heap.size := ⟨Nat.lt_of_lt_of_le j2 hX9.size, Nat.lt_of_lt_of_le j4 hX9.size⟩
  clear hX9 hH8 HP8 HQ8 hbw8 hp8 hq8 hz8 j2 j4
  obtain ⟨j2, j4⟩ := j9
  clear hb9 hB8 hP8 hQ8
  go_wp2_with (first | (refine wpList_load_rowG (by first | rfl | kernel_rfl) 217 (.tmp 3) rfl w2.heap.size rfl 217 _ (0, 0) _ HP9.out Tryz.underlying217 rfl (by kernel_rfl) ?_) | (refine wpList_load_rowG (by first | rfl | kernel_rfl) 217 (.tmp 5) rfl w4.heap.size rfl 217 _ (0, 0) _ HQ9.out Tryz.underlying217 rfl (by kernel_rfl) ?_))
  refine (mayPod_any someP h _ hp9).mono ?_
  rintro e w10 ⟨rfl, hX10⟩
  rw [some_pod]
  have hz10 : w6.heap.size < w10.heap.size := Nat.lt_of_lt_of_le hz9 hX10.size
  have hH10 : ∀ o, w10.cell? ⟨w6.heap.size, o, none⟩ = (w6.alloc (.cells #[.int .i64 3, .int .i64 1000] 223)).cell? ⟨w6.heap.size, o, none⟩ := fun o => (hX10.cell (p := ⟨w6.heap.size, o, none⟩) hz9).trans (hH9 o)
  have HP10 := Lib.hid ((hX10.block w2.heap.size j2).trans HP9.out)
  have HQ10 := Lib.hid ((hX10.block w4.heap.size j4).trans HQ9.out)
  have hbw10 : Below w.heap.size w w10 := hbw9.trans (hX10.mono hbw9.size)
  have hp10 : PodAt w10 someP h := hp9.below hX10
  have hq10 : PodAt w10 someP k := hq9.below hX10
  have j10 : w2.heap.size < w10.heap.size ∧ w4.heap.size < w10.heap.size := ⟨Nat.lt_of_lt_of_le j2 hX10.size, Nat.lt_of_lt_of_le j4 hX10.size⟩
  clear hX10 hH9 HP9 HQ9 hbw9 hp9 hq9 hz9 j2 j4
  obtain ⟨j2, j4⟩ := j10
  go_wp2_with (first | (refine wpList_load_rowG (by first | rfl | kernel_rfl) 217 (.tmp 3) rfl w2.heap.size rfl 217 _ (0, 0) _ HP10.out Tryz.underlying217 rfl (by kernel_rfl) ?_) | (refine wpList_load_rowG (by first | rfl | kernel_rfl) 217 (.tmp 5) rfl w4.heap.size rfl 217 _ (0, 0) _ HQ10.out Tryz.underlying217 rfl (by kernel_rfl) ?_))
  refine (eqPod_any someP someP h k _ hp10 hq10).mono ?_
  rintro e w11 ⟨rfl, hX11⟩
  rw [some_eq]
  have hz11 : w6.heap.size < w11.heap.size := Nat.lt_of_lt_of_le hz10 hX11.size
  have hH11 : ∀ o, w11.cell? ⟨w6.heap.size, o, none⟩ = (w6.alloc (.cells #[.int .i64 3, .int .i64 1000] 223)).cell? ⟨w6.heap.size, o, none⟩ := fun o => (hX11.cell (p := ⟨w6.heap.size, o, none⟩) hz10).trans (hH10 o)
  have HP11 := Lib.hid ((hX11.block w2.heap.size j2).trans HP10.out)
  have HQ11 := Lib.hid ((hX11.block w4.heap.size j4).trans HQ10.out)
  have hbw11 : Below w.heap.size w w11 := hbw10.trans (hX11.mono hbw10.size)
  have hp11 : PodAt w11 someP h := hp10.below hX11
  have hq11 : PodAt w11 someP k := hq10.below hX11
  have j11 : w2.heap.size < w11.heap.size ∧ w4.heap.size < w11.heap.size := ⟨Nat.lt_of_lt_of_le j2 hX11.size, Nat.lt_of_lt_of_le j4 hX11.size⟩
  clear hX11 hH10 HP10 HQ10 hbw10 hp10 hq10 hz10 j2 j4
  obtain ⟨j2, j4⟩ := j11
  have hlen := some_pos
  go_wp2_with fail
  refine (key_any 1 tA _ (by decide)).mono ?_
  rintro e w12 ⟨rfl, rfl⟩
  rw [some_key]
  go_wp2_with fail
  refine (kind_any _ _).mono ?_
  rintro e w12 ⟨rfl, rfl⟩
  rw [some_kind]
  go_wp2
  go_ret
  exact ⟨rfl, hbw11⟩
end Go.Proofs.YtaleceobkbgcnaaGreat
