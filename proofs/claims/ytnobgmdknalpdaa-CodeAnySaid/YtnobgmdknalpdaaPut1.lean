/-
  The contracts of package code: how a word is written. No conditions beyond what is written in each statement.
-/
import Derived.Test.YtnobgmdknalpdaaObj1
set_option linter.unusedSimpArgs false
set_option linter.unusedVariables false
namespace Go.Proofs.Ytnobgmdknalpdaa
open Go.RowKit

/-- Below B all is as it was, and whatever block holds no bytes is as it was. -/
structure Puts (B : Nat) (w w' : World) : Prop where
  below : Below B w w'
  kept : ∀ (k : Nat) (c : Array Value) (t : TypeId) (fr : Nat × Nat), w.heap[k]? = some (.cells c t fr) → t ≠ 5 → w'.heap[k]? = some (.cells c t fr)
theorem Puts.refl (B : Nat) (w : World) : Puts B w w := ⟨Below.refl _ _, fun _ _ _ _ h _ => h⟩
theorem Puts.trans {B : Nat} {a b c : World} (h : Puts B a b) (k : Puts B b c) : Puts B a c := ⟨h.below.trans k.below, fun i cc t fr e ht => k.kept i cc t fr (h.kept i cc t fr e ht) ht⟩
theorem Puts.alloc {B : Nat} {a w : World} (h : Puts B a w) (hB : B ≤ w.heap.size) (o : Obj) : Puts B a (w.alloc o) :=
  h.trans ⟨(Below.refl _ _).alloc hB o, fun k c t fr e _ => by
    have hk : k < w.heap.size := (Array.getElem?_eq_some_iff.1 e).1
    rw [Below.heap_alloc _ _ _ hk]; exact e⟩
theorem Puts.grown {B : Nat} {w w' : World} {v : Value} {n : Nat} {xs : List Value} (ho : w.ownsRow B 5 1 v n xs) (hg : w.grownBy w' v.ownBlock) (hB : B ≤ w.heap.size) : Puts B w w' := by
  have hrow : ∀ k, v.ownBlock = some k → B ≤ k ∧ ∃ cur, w.heap[k]? = some (.cells cur 5 (0, 0)) := by
    intro k hk
    rcases ho.2 with ⟨rfl, _⟩ | ⟨g, cap, cur, rfl, hg, hh, _⟩
    · simp [Value.ownBlock] at hk
    · simp [Value.ownBlock] at hk; subst hk; exact ⟨hg, cur, hh⟩
  refine ⟨(Below.refl _ _).grown hg hB fun k hk => (hrow k hk).1, fun k c t fr e ht => ?_⟩
  have hk : k < w.heap.size := (Array.getElem?_eq_some_iff.1 e).1
  rw [hg.block k hk (fun hh => ?_)]
  · exact e
  · obtain ⟨_, cur, hc⟩ := hrow k hh.symm
    rw [e] at hc
    simp at hc
    exact ht hc.2.1

/-- The bytes of a word, its high byte first. -/
def wbyteI (x : Nat) (k : Nat) : Int := (x : Int) / 2 ^ (56 - 8 * k) % 256
def wbyte (x : Nat) (k : Nat) : Value := .int .u8 (wbyteI x k)
def wbytes (x : Nat) : List Value := (List.range 8).map (wbyte x)

theorem wbytes_succ (x k : Nat) (h : k < 8) : (wbytes x).take (k + 1) = (wbytes x).take k ++ [wbyte x k] := by
  rw [List.take_succ_eq_append_getElem (by simpa [wbytes] using h)]; simp [wbytes]

def PutPost (B : Nat) (w : World) (n : Nat) (xs : List Value) (e : Ending) (w' : World) : Prop := ∃ v', e = .returned v' ∧ w'.ownsRow B 5 1 v' n xs ∧ Puts B w w'

theorem Try.info5 : (Try.prog.info? 5).map (fun i => (i.zero, i.size, i.bytes)) = some (some (.int .u8 0), 1, 1) := by kernel_rfl

set_option maxRecDepth 100000 in
set_option maxHeartbeats 1000000 in
theorem putWord_any (x : Nat) (v : Value) (n : Nat) (xs : List Value) (B : Nat) (w : World) (hx : Hid (x < 18446744073709551616)) (ho : w.ownsRow B 5 1 v n xs) (hB : B ≤ w.heap.size) (hn : n ≤ 1000000) :
    Calls Try.prog 86 #[v, .int .u64 x] w (PutPost B w (n + 8) (xs ++ wbytes x)) := by
  obtain ⟨i0, hi, hz0, hz1, hz2⟩ := info_parts Try.info5
  go_enter Try.func86, Try.ntmps86
  go_wp2
  go_loopw [0, 5] (fun u i wr => ∃ k : Nat, k ≤ 8 ∧ i = .int .i64 (56 - 8 * (k : Int)) ∧ wr.ownsRow B 5 1 u (n + k) (xs ++ (wbytes x).take k) ∧ Puts B w wr) (fun _ i _ => (intOf i + 8).toNat)
  case atStart => exact ⟨0, by omega, rfl, by simpa using ho, Puts.refl _ _⟩
  case round =>
    obtain ⟨k, hk, rfl, hown, hput⟩ := hrel
    have hBw : B ≤ wr.heap.size := Nat.le_trans hB hput.below.size
    by_cases h8 : k < 8
    · have s0 : (0 : Int) ≤ 56 - 8 * (k : Int) := by omega
      have s1 : 56 - 8 * (k : Int) ≤ 56 := by omega
      have hl : n + (k + 1) ≤ maxLen := by unfold maxLen; omega
      have hl2 : (n + (k + 1)) * 1 ≤ 140737488355328 := by omega
      have hB2 : B ≤ wr.heap.size + 1 := by have := hput.below.size; omega
      go_wp2_with (at_builtin; refine wpList_append_own _ rfl (.tmp 10) (.tmp 15) 48 rfl B 5 i0 (.int .u8 0) 1 1 Try.underlying48 hi hz0 hz1 hz2 rfl (by decide) _ (n + k) (xs ++ (wbytes x).take k) rfl (hown.alloc _) ⟨wr.heap.size, 0, none⟩ 1 1 [wbyte x k] rfl rfl (cell_one_new _ _ _) (by simp [wbyte, Value.oneCell']) hl hl2 (by simp; exact hB2) ?_; intro v' w1 hown' hgrow hnil)
      go_roundw
      case rel =>
        refine ⟨k + 1, by omega, by go_num, ?_, ?_⟩
        · rw [wbytes_succ x k h8, ← List.append_assoc]; exact hown'
        · exact hput.trans ((Puts.refl B wr).alloc (by omega) _ |>.trans (Puts.grown (hown.alloc _) hgrow (by simp; exact hB2)))
      case measure => simp [intOf]; omega
    · go_wp2
      go_ret
      obtain rfl : k = 8 := by omega
      exact ⟨_, rfl, hown, hput⟩
end Go.Proofs.Ytnobgmdknalpdaa
