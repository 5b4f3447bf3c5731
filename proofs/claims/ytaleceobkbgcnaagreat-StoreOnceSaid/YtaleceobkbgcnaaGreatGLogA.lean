/-
  Logs: how they and their events lie in memory; the calls that only read. No conditions beyond what is written in each statement.
-/
import Derived.Test.YtaleceobkbgcnaaGreatGCallA
import Derived.Deep.QuietTactic
import Derived.Test.YtaleceobkbgcnaaGreatGOff
import Derived.Great.BuildSlice
set_option linter.unusedSimpArgs false
set_option linter.unusedVariables false
namespace Go.Proofs.YtaleceobkbgcnaaGreat
open Go.RowKit

structure EvD where
  rev : Int
  key : ByteArray
  val : List Int
  gone : Bool
def v0 : EvD := ⟨0, ⟨#[]⟩, [], false⟩
def AtE (w : World) (a : Option Addr) (l : List EvD) : Prop :=
  l.length ≤ 9223372036854775807 ∧ ∀ i, i < l.length → ∃ b off va vc, a = some ⟨b, off, none⟩ ∧ b < w.heap.size ∧ w.cell? ⟨b, off + i * 4, none⟩ = some (.int .i64 (l.getD i v0).rev) ∧ w.cell? ⟨b, off + i * 4 + 1, none⟩ = some (.string (l.getD i v0).key) ∧ w.cell? ⟨b, off + i * 4 + 2, none⟩ = some (.slice va (l.getD i v0).val.length vc)
    ∧ w.cell? ⟨b, off + i * 4 + 3, none⟩ = some (.bool (l.getD i v0).gone) ∧ AtB w va (l.getD i v0).val ∧ (l.getD i v0).val.length ≤ vc ∧ vc ≤ maxLen ∧ (va = none → vc = 0)
theorem AtE.below {w w1 : World} {a : Option Addr} {l : List EvD} (h : AtE w a l) (hb : Below w.heap.size w w1) : AtE w1 a l := ⟨h.1, fun i hi => by
  obtain ⟨b, off, va, vc, ha, hlt, c0, c1, c2, c3, hv, k1, k2, k3⟩ := h.2 i hi
  exact ⟨b, off, va, vc, ha, Nat.lt_of_lt_of_le hlt hb.size, cell_later hb c0, cell_later hb c1, cell_later hb c2, cell_later hb c3, hv.below' hb, k1, k2, k3⟩⟩
/-- A log's block. -/
abbrev logO (most : Int) (a : Option Addr) (n c : Nat) (base last : Int) : Obj := .cells #[.int .i64 most, .slice a n c, .int .i64 base, .int .i64 last] 121
def mostOf (m : Int) : Int := if m < 1 then 1 else if 1000 < m then 1000 else m
theorem logNew_any (m : Int) (w : World) : Calls Tryz.prog 23 #[.int .i64 m] w fun e w' => e = .returned (.pointer (some ⟨w.heap.size, 0, none⟩)) ∧ w' = w.alloc (logO (mostOf m) none 0 0 0 0) := by
  go_enter Tryz.func23, Tryz.ntmps23
  by_cases h1 : m < 1
  · have e : mostOf m = 1 := by unfold mostOf; rw [if_pos h1]
    rw [e]
    go_wp2
    all_goals
      go_ret
      first | exact ⟨rfl, rfl⟩ | (refine ⟨rfl, ?_⟩; congr 2; simp; omega)
  · by_cases h2 : 1000 < m
    · have e : mostOf m = 1000 := by unfold mostOf; rw [if_neg h1, if_pos h2]
      rw [e]
      go_wp2
      all_goals
        go_ret
        first | exact ⟨rfl, rfl⟩ | (refine ⟨rfl, ?_⟩; congr 2; simp; omega)
    · have e : mostOf m = m := by unfold mostOf; rw [if_neg h1, if_neg h2]
      rw [e]
      go_wp2
      all_goals
        go_ret
        first | exact ⟨rfl, rfl⟩ | (refine ⟨rfl, ?_⟩; congr 2; simp; omega)
theorem logBase_any (most : Int) (a : Option Addr) (n c : Nat) (base last : Int) (G : Nat) (w : World) (hG : w.heap[G]? = some (logO most a n c base last)) : Calls Tryz.prog 26 #[.pointer (some ⟨G, 0, none⟩)] w fun e w' => e = .returned (.int .i64 base) ∧ w' = w := by
  have c2 := cell_of_obj hG 2
  simp at c2
  go_enter Tryz.func26, Tryz.ntmps26
  go_wp2
  go_ret
  exact ⟨rfl, rfl⟩
theorem logLast_any (most : Int) (a : Option Addr) (n c : Nat) (base last : Int) (G : Nat) (w : World) (hG : w.heap[G]? = some (logO most a n c base last)) : Calls Tryz.prog 29 #[.pointer (some ⟨G, 0, none⟩)] w fun e w' => e = .returned (.int .i64 last) ∧ w' = w := by
  have c3 := cell_of_obj hG 3
  simp at c3
  go_enter Tryz.func29, Tryz.ntmps29
  go_wp2
  go_ret
  exact ⟨rfl, rfl⟩
/-- The Rev of the k-th one of two lists. -/
def revA (k : Nat) (l m : List EvD) : Int := if k < l.length then (l.getD k v0).rev else (m.getD (k - l.length) v0).rev
set_option maxHeartbeats 1000000 in
theorem revAt_any (k : Nat) (a : Option Addr) (l : List EvD) (c : Nat) (b : Option Addr) (m : List EvD) (d : Nat) (w : World) (hl : AtE w a l) (hm : AtE w b m) (hk : k < l.length + m.length) :
    Calls Tryz.prog 66 #[.int .i64 k, .slice a l.length c, .slice b m.length d] w fun e w' => e = .returned (.int .i64 (revA k l m)) ∧ w' = w := by
  have lm := hl.1
  have mm := hm.1
  by_cases h : k < l.length
  · have e : revA k l m = (l.getD k v0).rev := by unfold revA; rw [if_pos h]
    rw [e]
    obtain ⟨g, off, va, vc, rfl, _, c0, _⟩ := hl.2 k h
    generalize (l.getD k v0).rev = x at *
    have hi : (k : Int) < (l.length : Int) := by omega
    go_enter Tryz.func66, Tryz.ntmps66
    go_wp2
    go_ret
    exact ⟨rfl, rfl⟩
  · have e : revA k l m = (m.getD (k - l.length) v0).rev := by unfold revA; rw [if_neg h]
    rw [e]
    obtain ⟨q, hq⟩ : ∃ q, q = k - l.length := ⟨_, rfl⟩
    rw [← hq]
    obtain ⟨g, off, va, vc, rfl, _, c0, _⟩ := hm.2 q (by omega)
    generalize (m.getD q v0).rev = x at *
    have hi : ¬ (k : Int) < (l.length : Int) := by omega
    have hi2 : (l.length : Int) ≤ (k : Int) := by omega
    have hw : IntKind.i64.wrap ((k : Int) - (l.length : Int)) = (q : Int) := by rw [IntWalk.i64_in _ (by omega)]; omega
    have hw2 : wrap64 ((k : Int) - (l.length : Int)) = (q : Int) := by unfold wrap64; omega
    have hz : (0 : Int) ≤ (q : Int) := by omega
    have hz2 : (q : Int) < (m.length : Int) := by omega
    clear e hq
    go_enter Tryz.func66, Tryz.ntmps66
    go_wp2
    go_ret
    exact ⟨rfl, rfl⟩
/-- Whether events come behind a Rev, one behind the other. -/
def risesB : Int → List EvD → Bool
  | _, [] => true
  | p, x :: r => decide (p ≤ x.rev) && risesB x.rev r
def followB (last : Int) : List EvD → Bool
  | [] => false
  | x :: r => decide (last < x.rev) && risesB x.rev r
theorem rises_drop {l : List EvD} {k : Nat} (p : Int) (h : k < l.length) : risesB p (l.drop k) = (decide (p ≤ (l.getD k v0).rev) && risesB (l.getD k v0).rev (l.drop (k + 1))) := by
  rw [List.drop_eq_getElem_cons h, List.getD_eq_getElem?_getD, List.getElem?_eq_getElem h]; rfl
theorem follow_cons {l : List EvD} (last : Int) (h : 0 < l.length) : followB last l = (decide (last < (l.getD 0 v0).rev) && risesB (l.getD 0 v0).rev (l.drop 1)) := by
  cases l with
  | nil => simp at h
  | cons x r => rfl
set_option maxRecDepth 100000 in
set_option maxHeartbeats 2000000 in
theorem follow_any (last : Int) (a : Option Addr) (l : List EvD) (c : Nat) (w : World) (hl : AtE w a l) : Calls Tryz.prog 64 #[.int .i64 last, .slice a l.length c] w fun e w' => e = .returned (.bool (followB last l)) ∧ Below w.heap.size w w' := by
  have lm := hl.1
  rcases Nat.eq_zero_or_pos l.length with hz | hz
  · have hn : l = [] := List.eq_nil_of_length_eq_zero hz
    subst hn
    go_enter Tryz.func64, Tryz.ntmps64
    go_wp2
    go_ret
    exact ⟨rfl, Below.refl _ _⟩
  · have HF := Lib.hid (follow_cons last hz)
    obtain ⟨g, off, va, vc, ha, hg, c0, _⟩ := hl.2 0 hz
    subst ha
    have hne : ¬ l = [] := fun e => by subst e; simp at hz
    have hzp : (0 : Int) < (l.length : Int) := by omega
    by_cases h1 : last < (l.getD 0 v0).rev
    · have HE : Hid (followB last l = risesB (l.getD (1 - 1) v0).rev (l.drop 1)) := by show _ = _; rw [HF.out, decide_eq_true h1]; rfl
      have h2 : ¬ (l.getD 0 v0).rev ≤ last := by omega
      generalize (l.getD 0 v0).rev = x at c0 h1 h2
      simp only [Nat.zero_mul, Nat.add_zero] at c0
      clear HF
      go_enter Tryz.func64, Tryz.ntmps64
      go_wp2_with fail
      go_loopw [5] (fun i wr => ∃ k : Nat, 1 ≤ k ∧ k ≤ l.length ∧ i = .int .i64 k ∧ Hid (followB last l = risesB (l.getD (k - 1) v0).rev (l.drop k)) ∧ Hid (Below w.heap.size w wr)) (fun i _ => l.length - (intOf i).toNat)
      case atStart => exact ⟨1, Nat.le_refl _, hz, rfl, HE, Below.refl _ _⟩
      case round =>
        clear HE c0
        obtain ⟨k, hk1, hk, rfl, HE, HB⟩ := hrel
        by_cases hlt : k < l.length
        · obtain ⟨g1, o1, _, _, e1, _, d0, _⟩ := hl.2 k hlt
          obtain ⟨g2, o2, _, _, e2, _, d1, _⟩ := hl.2 (k - 1) (by omega)
          cases e1
          cases e2
          have c0 := cell_later HB.out d0
          have c1 := cell_later HB.out d1
          have hs := Lib.hid (rises_drop (l.getD (k - 1) v0).rev hlt)
          have hk' : Hid (l.getD (k + 1 - 1) v0 = l.getD k v0) := rfl
          obtain ⟨q, hq⟩ : ∃ q, q = k - 1 := ⟨_, rfl⟩
          rw [← hq] at c1 hs HE
          generalize hy : (l.getD k v0).rev = y at c0 hs
          have HY : Hid ((l.getD (k + 1 - 1) v0).rev = y) := hy
          clear hy hk'
          generalize (l.getD q v0).rev = z at c1 hs HE
          have hw : IntKind.i64.wrap ((k : Int) - 1) = (q : Int) := by rw [IntWalk.i64_in _ (by omega)]; omega
          have hw2 : wrap64 ((k : Int) - 1) = (q : Int) := by unfold wrap64; omega
          have q0 : (0 : Int) ≤ (q : Int) := by omega
          have q1 : (q : Int) < (l.length : Int) := by omega
          have k0 : (0 : Int) ≤ (k : Int) := by omega
          have k1 : (k : Int) < (l.length : Int) := by omega
          have HQ := Lib.hid hq
          clear d0 d1 hl hq
          by_cases hzy : z ≤ y
          · go_wp2_with fail
            go_quiet (fail)
            go_wp2_with fail
            go_roundw
            case rel => exact ⟨k + 1, by omega, by omega, by go_num, by show _ = _; rw [HE.out, hs.out, HY.out, decide_eq_true hzy]; rfl, HB.out.trans (below_drewN (Below.refl _ _) _)⟩
            case measure => simp [intOf]; omega
          · have hyz : y < z := by omega
            have HD : Hid (decide (z ≤ y) = false) := decide_eq_false hzy
            clear hzy
            go_wp2_with fail
            go_quiet (fail)
            go_wp2_with fail
            go_ret
            exact ⟨ret_bool (by rw [HE.out, hs.out, HD.out]; rfl), HB.out.trans (below_drewN (Below.refl _ _) _)⟩
        · go_wp2
          go_ret
          exact ⟨ret_bool (by rw [HE.out, List.drop_eq_nil_of_le (by omega)]; rfl), HB.out⟩
    · have h2 : (l.getD 0 v0).rev ≤ last := by omega
      have HE : Hid (followB last l = false) := by show _ = _; rw [HF.out, decide_eq_false h1]; rfl
      generalize (l.getD 0 v0).rev = x at c0 h1 h2
      simp only [Nat.zero_mul, Nat.add_zero] at c0
      go_enter Tryz.func64, Tryz.ntmps64
      go_wp2_with fail
      go_ret
      exact ⟨ret_bool (by rw [HE.out]), Below.refl _ _⟩
end Go.Proofs.YtaleceobkbgcnaaGreat
namespace Go.Proofs.YtaleceobkbgcnaaGreat
open Go.RowKit

abbrev Rising (l : List EvD) : Prop := l.Pairwise (fun x y => x.rev ≤ y.rev)
theorem rises_iff : ∀ (p : Int) (l : List EvD), risesB p l = true ↔ (∀ x ∈ l, p ≤ x.rev) ∧ Rising l
  | p, [] => by simp [risesB, Rising]
  | p, x :: r => by
    have ih := rises_iff x.rev r
    simp only [risesB, Bool.and_eq_true, decide_eq_true_eq, ih, List.mem_cons, List.pairwise_cons]
    constructor
    · rintro ⟨h0, h1, h2⟩
      refine ⟨?_, h1, h2⟩
      rintro y (rfl | hy)
      · exact h0
      · exact Int.le_trans h0 (h1 y hy)
    · rintro ⟨h0, h1, h2⟩
      exact ⟨h0 x (.inl rfl), h1, h2⟩
theorem follow_iff (last : Int) (l : List EvD) : followB last l = true ↔ l ≠ [] ∧ (∀ x ∈ l, last < x.rev) ∧ Rising l := by
  cases l with
  | nil => simp [followB]
  | cons x r =>
    have ih := rises_iff x.rev r
    simp only [followB, Bool.and_eq_true, decide_eq_true_eq, ih, List.mem_cons, Rising, List.pairwise_cons]
    constructor
    · rintro ⟨h0, h1, h2⟩
      refine ⟨by simp, ?_, h1, h2⟩
      rintro y (rfl | hy)
      · exact h0
      · exact Int.lt_of_lt_of_le h0 (h1 y hy)
    · rintro ⟨_, h0, h1, h2⟩
      exact ⟨h0 x (.inl rfl), h1, h2⟩
/-- How many there are up to a Rev. -/
def upN (rev : Int) (l : List EvD) : Nat := (l.takeWhile fun x => decide (x.rev ≤ rev)).length
theorem upN_le (rev : Int) (l : List EvD) : upN rev l ≤ l.length := (List.takeWhile_prefix _).length_le
theorem drop_upN : ∀ (rev : Int) (l : List EvD), Rising l → l.drop (upN rev l) = l.filter fun x => decide (rev < x.rev)
  | rev, [], _ => rfl
  | rev, x :: r, h => by
    obtain ⟨h1, h2⟩ := List.pairwise_cons.1 h
    by_cases hx : x.rev ≤ rev
    · have e : upN rev (x :: r) = upN rev r + 1 := by simp [upN, hx]
      rw [e, List.drop_succ_cons, drop_upN rev r h2, List.filter_cons_of_neg (by simpa using hx)]
    · have e : upN rev (x :: r) = 0 := by simp [upN, hx]
      rw [e, List.drop_zero]
      refine (List.filter_eq_self.2 fun y hy => ?_).symm
      rcases List.mem_cons.1 hy with rfl | hy
      · simp; omega
      · have := h1 y hy
        simp; omega
theorem at_upN : ∀ (rev : Int) (l : List EvD) (k : Nat), Rising l → k < l.length → decide (rev < (l.getD k v0).rev) = decide (upN rev l ≤ k)
  | rev, [], k, _, hk => by simp at hk
  | rev, x :: r, k, h, hk => by
    obtain ⟨h1, h2⟩ := List.pairwise_cons.1 h
    by_cases hx : x.rev ≤ rev
    · have e : upN rev (x :: r) = upN rev r + 1 := by simp [upN, hx]
      cases k with
      | zero => simp [e]; omega
      | succ k =>
        have ih := at_upN rev r k h2 (by simpa using hk)
        rw [e]
        simp only [List.getD_cons_succ, ih, Nat.add_le_add_iff_right]
    · have e : upN rev (x :: r) = 0 := by simp [upN, hx]
      rw [e]
      cases k with
      | zero => simp; omega
      | succ k =>
        have hm : (r.getD k v0) ∈ r := by
          rw [List.getD_eq_getElem?_getD, List.getElem?_eq_getElem (by simpa using hk)]
          exact List.getElem_mem _
        have := h1 _ hm
        simp only [List.getD_cons_succ, Nat.zero_le, decide_true, decide_eq_true_eq]
        omega
/-- A log: at most so many, its events, up to where they went, the last Rev. -/
structure LogD where
  most : Int
  evs : List EvD
  base : Int
  last : Int
structure LogD.Ok (d : LogD) : Prop where
  lo : 1 ≤ d.most
  hi : d.most ≤ 1000
  few : (d.evs.length : Int) ≤ d.most
  up : Rising d.evs
  above : ∀ x ∈ d.evs, d.base < x.rev
  till : ∀ x ∈ d.evs, x.rev ≤ d.last
  base : d.base ≤ d.last
def newD (m : Int) : LogD := ⟨mostOf m, [], 0, 0⟩
theorem newD_ok (m : Int) : (newD m).Ok := by
  have h : 1 ≤ mostOf m ∧ mostOf m ≤ 1000 := by unfold mostOf; split <;> (try split) <;> omega
  exact ⟨h.1, h.2, by simp [newD]; omega, List.Pairwise.nil, fun x hx => by simp [newD] at hx, fun x hx => by simp [newD] at hx, Int.le_refl _⟩
/-- The base behind an Add. -/
def baseA (d : LogD) (es : List EvD) : Int := if d.most < ((d.evs.length + es.length : Nat) : Int) then ((d.evs ++ es).getD (d.evs.length + es.length - d.most.toNat - 1) v0).rev else d.base
def lastA (es : List EvD) : Int := (es.getD (es.length - 1) v0).rev
def addD (d : LogD) (es : List EvD) : LogD := if followB d.last es then ⟨d.most, (d.evs ++ es).filter (fun x => decide (baseA d es < x.rev)), baseA d es, lastA es⟩ else d
def cutD (d : LogD) (rev : Int) : LogD := if d.base < min rev d.last then ⟨d.most, d.evs.filter (fun x => decide (min rev d.last < x.rev)), min rev d.last, d.last⟩ else d
theorem Rising.app {l m : List EvD} (h : Rising l) (k : Rising m) (hlm : ∀ x ∈ l, ∀ y ∈ m, x.rev ≤ y.rev) : Rising (l ++ m) := List.pairwise_append.2 ⟨h, k, hlm⟩
theorem LogD.Ok.app {d : LogD} (h : d.Ok) {es : List EvD} (hf : followB d.last es = true) : Rising (d.evs ++ es) := by
  obtain ⟨_, h1, h2⟩ := (follow_iff _ _).1 hf
  exact h.up.app h2 fun x hx y hy => by have := h.till x hx; have := h1 y hy; omega
theorem getD_mem' {l : List EvD} {k : Nat} (h : k < l.length) : l.getD k v0 ∈ l := by
  rw [List.getD_eq_getElem?_getD, List.getElem?_eq_getElem h]
  exact List.getElem_mem _
/-- Of a rising list, what is above the one at k is no more than what stands behind it. -/
theorem above_few : ∀ (l : List EvD) (k : Nat), Rising l → k < l.length → (l.filter fun x => decide ((l.getD k v0).rev < x.rev)).length ≤ l.length - (k + 1) := by
  intro l k h hk
  rw [← drop_upN _ _ h, List.length_drop]
  have hc := at_upN (l.getD k v0).rev l k h hk
  have hn : ¬ upN (l.getD k v0).rev l ≤ k := by
    intro hle
    rw [decide_eq_true hle, decide_eq_true_eq] at hc
    omega
  omega
theorem last_mem {es : List EvD} (h : es ≠ []) : es.getD (es.length - 1) v0 ∈ es := getD_mem' (by cases es with | nil => exact absurd rfl h | cons x r => simp)
theorem rising_last {es : List EvD} (h : Rising es) : ∀ x ∈ es, x.rev ≤ (es.getD (es.length - 1) v0).rev := by
  intro x hx
  obtain ⟨i, hi, rfl⟩ := List.getElem_of_mem hx
  rw [List.getD_eq_getElem?_getD, List.getElem?_eq_getElem (by omega)]
  show es[i].rev ≤ (es[es.length - 1]'(by omega)).rev
  rcases Nat.lt_or_ge i (es.length - 1) with h1 | h1
  · exact List.pairwise_iff_getElem.1 h i (es.length - 1) hi (by omega) h1
  · have : i = es.length - 1 := by omega
    subst this
    exact Int.le_refl _
theorem baseA_mem {d : LogD} (h : d.Ok) {es : List EvD} (ho : d.most < ((d.evs.length + es.length : Nat) : Int)) : d.evs.length + es.length - d.most.toNat - 1 < (d.evs ++ es).length := by
  have := h.lo
  rw [List.length_append]; omega
theorem baseA_bounds {d : LogD} (h : d.Ok) {es : List EvD} (hf : followB d.last es = true) : d.base ≤ baseA d es ∧ baseA d es ≤ lastA es := by
  obtain ⟨hne, h1, h2⟩ := (follow_iff _ _).1 hf
  have hl := h1 _ (last_mem hne)
  have hb := h.base
  unfold baseA lastA
  split
  · rename_i ho
    rcases List.mem_append.1 (getD_mem' (baseA_mem h ho)) with hm | hm
    · have := h.above _ hm
      have := h.till _ hm
      omega
    · have := h1 _ hm
      have := rising_last h2 _ hm
      omega
  · omega
theorem addD_ok {d : LogD} (h : d.Ok) (es : List EvD) : (addD d es).Ok := by
  unfold addD
  split
  · rename_i hf
    obtain ⟨hne, h1, h2⟩ := (follow_iff _ _).1 hf
    have hup := h.app hf
    have hbb := baseA_bounds h hf
    refine ⟨h.lo, h.hi, ?_, hup.filter _, fun x hx => by simpa using (List.mem_filter.1 hx).2, fun x hx => ?_, hbb.2⟩
    · show ((List.filter _ _).length : Int) ≤ d.most
      by_cases ho : d.most < ((d.evs.length + es.length : Nat) : Int)
      · have hk := above_few _ _ hup (baseA_mem h ho)
        have e : baseA d es = ((d.evs ++ es).getD (d.evs.length + es.length - d.most.toNat - 1) v0).rev := by unfold baseA; rw [if_pos ho]
        rw [← e] at hk
        have := h.lo
        rw [List.length_append] at hk
        omega
      · have := List.length_filter_le (fun x : EvD => decide (baseA d es < x.rev)) (d.evs ++ es)
        rw [List.length_append] at this
        omega
    · have hm := (List.mem_filter.1 hx).1
      rcases List.mem_append.1 hm with hm | hm
      · have := h.till _ hm
        have := h1 _ (last_mem hne)
        show x.rev ≤ lastA es
        unfold lastA
        omega
      · exact rising_last h2 _ hm
  · exact h
theorem cutD_ok {d : LogD} (h : d.Ok) (rev : Int) : (cutD d rev).Ok := by
  unfold cutD
  split
  · refine ⟨h.lo, h.hi, ?_, h.up.filter _, fun x hx => by simpa using (List.mem_filter.1 hx).2, fun x hx => h.till _ (List.mem_filter.1 hx).1, Int.min_le_right _ _⟩
    have := List.length_filter_le (fun x : EvD => decide (min rev d.last < x.rev)) d.evs
    have := h.few
    show ((List.filter _ _).length : Int) ≤ d.most
    omega
  · exact h
/-- What is kept of those that were there, by the Rev up to which they go. -/
theorem kept_drop {d : LogD} (h : d.Ok) (b : Int) : d.evs.drop (upN b d.evs) = d.evs.filter fun x => decide (b < x.rev) := drop_upN _ _ h.up
theorem kept_same {d : LogD} (h : d.Ok) : (d.evs.filter fun x => decide (d.base < x.rev)) = d.evs := List.filter_eq_self.2 fun x hx => by simpa using h.above x hx
end Go.Proofs.YtaleceobkbgcnaaGreat
namespace Go.Proofs.YtaleceobkbgcnaaGreat
open Go.RowKit

/-- An event, and where its Val lies. -/
abbrev EvH := EvD × Option Addr × Nat
abbrev evV (x : EvD) (a : Option Addr) (c : Nat) : Value := .agg #[.int .i64 x.rev, .string x.key, .slice a x.val.length c, .bool x.gone]
abbrev cellsE (x : EvH) : List Value := [.int .i64 x.1.rev, .string x.1.key, .slice x.2.1 x.1.val.length x.2.2, .bool x.1.gone]
/-- Bytes in memory of their own. -/
def ValOwn (w : World) (B : Nat) (l : List Int) (a : Option Addr) (c : Nat) : Prop := w.ownsRow B 5 1 (.slice a l.length c) l.length (u8s l) ∧ ∀ y ∈ l, 0 ≤ y ∧ y ≤ 255
theorem AtB.range {w : World} {a : Option Addr} {l : List Int} (h : AtB w a l) : ∀ y ∈ l, 0 ≤ y ∧ y ≤ 255 := by
  intro y hy
  obtain ⟨i, hi, rfl⟩ := List.getElem_of_mem hy
  obtain ⟨_, _, _, _, _, h0, h1⟩ := h i hi
  rw [List.getD_eq_getElem?_getD, List.getElem?_eq_getElem hi] at h0 h1
  exact ⟨h0, h1⟩
theorem ValOwn.at {w : World} {B : Nat} {l : List Int} {a : Option Addr} {c : Nat} (h : ValOwn w B l a c) : AtB w a l ∧ l.length ≤ c ∧ c ≤ maxLen ∧ (a = none → c = 0) := by
  obtain ⟨a', c', e, h1, h2, h3⟩ := bytes_of l h.1 rfl rfl h.2
  cases e
  refine ⟨h3, h1, h2, fun hn => ?_⟩
  rcases h.1.2 with ⟨e, _⟩ | ⟨g, cap, cur, e, _⟩
  · rw [Value.slice.injEq] at e; exact e.2.2
  · rw [Value.slice.injEq, hn] at e; cases e.1
theorem heap_two0 (W : World) (o o' : Obj) : ((W.alloc o).alloc o').heap[W.heap.size]? = some o := by
  rw [Below.heap_alloc _ _ _ (by simp)]
  exact heap_alloc_self W o
theorem heap_two1 (W : World) (o o' : Obj) : ((W.alloc o).alloc o').heap[W.heap.size + 1]? = some o' := by
  have := heap_alloc_self (W.alloc o) o'
  simpa using this
theorem infoE2 : (Tryz.prog.info? 30).map (fun i => (i.zero, i.size, i.bytes)) = some (some (.agg #[.int .i64 0, .string ⟨#[]⟩, .slice none 0 0, .bool false]), 4, 56) := by kernel_rfl
set_option maxRecDepth 100000 in
set_option maxHeartbeats 1000000 in
theorem own_any (x : EvD) (a : Option Addr) (c : Nat) (w : World) (hv : AtB w a x.val) (hno : a = none → c = 0) (hl : x.val.length ≤ 140737488355328) (hlc : x.val.length ≤ c) (hc : c ≤ maxLen) :
    Calls Tryz.prog 67 #[evV x a c] w fun e w' => ∃ a' c', e = .returned (evV x a' c') ∧ ValOwn w' w.heap.size x.val a' c' ∧ Below w.heap.size w w' := by
  obtain ⟨i0, hi, hz0, hz1, hz2⟩ := info_parts infoB8
  have hr := hv.range
  have hB : Below w.heap.size w ((w.alloc (.cells #[.int .i64 x.rev, .string x.key, .slice a x.val.length c, .bool x.gone] 30)).alloc (.cells #[.int .i64 0, .string ⟨#[]⟩, .slice none 0 0, .bool false] 30)) := ((Below.refl _ _).alloc (Nat.le_refl _) _).alloc (by simp) _
  have HK0 := Lib.hid (heap_two0 w (.cells #[.int .i64 x.rev, .string x.key, .slice a x.val.length c, .bool x.gone] 30) (.cells #[.int .i64 0, .string ⟨#[]⟩, .slice none 0 0, .bool false] 30))
  have HK1 := Lib.hid (heap_two1 w (.cells #[.int .i64 x.rev, .string x.key, .slice a x.val.length c, .bool x.gone] 30) (.cells #[.int .i64 0, .string ⟨#[]⟩, .slice none 0 0, .bool false] 30))
  have hat := atB_news' (hv.below' hB)
  have hsz := hB.size
  obtain ⟨rev, key, val, gone⟩ := x
  simp only at *
  go_enter Tryz.func67, Tryz.ntmps67
  go_wp2_with (at_builtin; refine stand ?_)
  show wpList _ _ _ _ _ _
  refine wpList_append_opt rfl _ _ 28 rfl w.heap.size 5 i0 _ 1 1 Tryz.underlying28 hi hz0 hz1 hz2 rfl (by decide) (.slice none 0 0) 0 [] rfl (World.ownsRow_nil _ _ 5 1) a val.length c (u8s val) rfl (fun h => ⟨by have := hno h; omega, hno h⟩) (by unfold u8s; rw [List.length_map, Nat.mul_one]) hat (by intro u hu; unfold u8s at hu; obtain ⟨z, _, rfl⟩ := List.mem_map.1 hu; rfl) (by rw [Nat.zero_add]; unfold maxLen; omega) (by omega) hsz ?_
  intro v3 w3 ho3 hg3
  rw [Nat.zero_add, List.nil_append] at ho3
  have k0 := (hg3.block w.heap.size (by simp; omega) (by simp [Value.ownBlock])).trans HK0.out
  have k1 := (hg3.block (w.heap.size + 1) (by simp) (by simp [Value.ownBlock])).trans HK1.out
  have hb3 : Below w.heap.size w w3 := hB.trans (grown_below hg3 (World.ownsRow_nil _ (w.heap.size) 5 1) hsz)
  obtain ⟨a3, c3, e3⟩ : ∃ a3 c3, v3 = .slice a3 val.length c3 := by
    rcases ho3.2 with ⟨e, h0⟩ | ⟨g, cap, cur, e, _⟩
    · exact ⟨none, 0, by rw [e, h0]⟩
    · exact ⟨_, _, e⟩
  subst e3
  have c2 := cell_of_obj k0 2
  simp at c2
  have f2 := free_of_obj k0 2
  have HA := Lib.hid (And.intro ho3 (And.intro hb3 (And.intro k0 k1)))
  have HP := Lib.hid (obj_setN (j := 2) (v := .slice a3 val.length c3) k0 rfl)
  clear hat hsz k0 k1 hb3 ho3 hg3 hB HK0 HK1
  go_wp2_with (first | (refine wpList_load_rowG (by first | rfl | kernel_rfl) 30 (.tmp 1) rfl w.heap.size rfl 30 _ (0, 0) _ HP.out Tryz.underlying30 rfl (by kernel_rfl) ?_) | (refine wpList_store_rowTo rfl 30 (.tmp 2) (.tmp 7) rfl rfl (w.heap.size + 1) #[.int .i64 rev, .string key, .slice a3 val.length c3, .bool gone] rfl rfl 30 #[.int .i64 0, .string ⟨#[]⟩, .slice none 0 0, .bool false] (by rw [heap_setCell_other _ _ (w.heap.size + 1) _ (by simp)]; exact HA.out.2.2.2) (by kernel_rfl) rfl (by kernel_rfl) ?_))
  have hb : (w3.setCell ⟨w.heap.size, 2, none⟩ (.slice a3 val.length c3)).heap[w.heap.size + 1]? = some (.cells #[.int .i64 0, .string ⟨#[]⟩, .slice none 0 0, .bool false] 30) := by rw [heap_setCell_other _ _ (w.heap.size + 1) _ (by simp)]; exact HA.out.2.2.2
  refine bodyPost_ret (v := .agg #[.int .i64 rev, .string key, .slice a3 val.length c3, .bool gone]) (results_cell_row Tryz.results67 _ _ (w.heap.size + 1) 30 _ (0, 0) _ rfl (setRow_heap _ _ _ _ _ _ hb) Tryz.underlying30 rfl (by kernel_rfl)) rfl ?_
  refine ⟨a3, c3, rfl, ⟨?_, hr⟩, Below.setRow (HA.out.2.1.setCell (Nat.le_refl _) _) (by omega) _⟩
  refine World.ownsRow.kept (World.ownsRow.kept HA.out.1 (grown_set w3 w.heap.size 2 _) (Or.inr (own_ne HA.out.1 ⟨_, _, HA.out.2.2.1⟩ (by decide)))) (grown_setRow _ (w.heap.size + 1) _) (Or.inr (own_ne (World.ownsRow.kept HA.out.1 (grown_set w3 w.heap.size 2 _) (Or.inr (own_ne HA.out.1 ⟨_, _, HA.out.2.2.1⟩ (by decide)))) ⟨_, _, hb⟩ (by decide)))
end Go.Proofs.YtaleceobkbgcnaaGreat
