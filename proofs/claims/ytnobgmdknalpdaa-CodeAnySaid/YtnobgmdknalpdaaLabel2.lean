/-
  The contracts of package label: labels in memory, Get, May. No conditions beyond what is written in each statement.
-/
import Derived.Test.YtnobgmdknalpdaaLabel
set_option linter.unusedSimpArgs false
set_option linter.unusedVariables false
namespace Go.Proofs.Ytnobgmdknalpdaa
open Go.RowKit

abbrev Str2 := ByteArray × ByteArray
def e2 : Str2 := (ByteArray.empty, ByteArray.empty)
/-- A slice's address leads to a list of pairs of strings, two cells each, in old memory. -/
def At2 (w : World) (a : Option Addr) (l : List Str2) : Prop :=
  ∀ i, i < l.length → ∃ b off, a = some ⟨b, off, none⟩ ∧ b < w.heap.size ∧ w.cell? ⟨b, off + i * 2, none⟩ = some (.string (l.getD i e2).1) ∧ w.cell? ⟨b, off + i * 2 + 1, none⟩ = some (.string (l.getD i e2).2)

theorem At2.below {w w1 : World} {a : Option Addr} {l : List Str2} (h : At2 w a l) (hb : Below w.heap.size w w1) : At2 w1 a l := fun i hi => by
  obtain ⟨b, off, ha, hlt, c0, c1⟩ := h i hi
  exact ⟨b, off, ha, Nat.lt_of_lt_of_le hlt hb.size, cell_later hb c0, cell_later hb c1⟩

/-- The first one of that key, plainly. -/
def getL : List Str2 → ByteArray → Option ByteArray
  | [], _ => none
  | x :: r, key => if x.1 = key then some x.2 else getL r key

theorem getL_drop {l : List Str2} {k : Nat} (h : k < l.length) (key : ByteArray) : getL (l.drop k) key = if (l.getD k e2).1 = key then some (l.getD k e2).2 else getL (l.drop (k + 1)) key := by
  rw [List.drop_eq_getElem_cons h, List.getD_eq_getElem?_getD, List.getElem?_eq_getElem h]; rfl

def getV (l : List Str2) (key : ByteArray) : ByteArray := (getL l key).getD ByteArray.empty
def getOk (l : List Str2) (key : ByteArray) : Bool := (getL l key).isSome

set_option maxHeartbeats 400000 in
theorem get_any (a : Option Addr) (l : List Str2) (cap : Nat) (key : ByteArray) (w : World) (hl : At2 w a l) (hm : l.length ≤ 9223372036854775807) :
    Calls Try.prog 95 #[.slice a l.length cap, .string key] w fun e w' => e = .returned (.tuple #[.string (getV l key), .bool (getOk l key)]) ∧ Below w.heap.size w w' := by
  go_enter Try.func95, Try.ntmps95
  go_wp2
  go_loopw [10] (fun i wr => ∃ k : Nat, k ≤ l.length ∧ i = .int .i64 k ∧ Hid (getL l key = getL (l.drop k) key) ∧ Below w.heap.size w wr) (fun i _ => l.length - (intOf i).toNat)
  case atStart => exact ⟨0, Nat.zero_le _, rfl, rfl, Below.refl _ _⟩
  case round =>
    obtain ⟨k, hk, rfl, hget, hbel⟩ := hrel
    by_cases hlt : k < l.length
    · obtain ⟨b, off, ha, hb, d0, d1⟩ := hl k hlt
      have c0 := (hbel.cell (p := ⟨b, off + k * 2, none⟩) hb).trans d0
      have c1 := (hbel.cell (p := ⟨b, off + k * 2 + 1, none⟩) hb).trans d1
      have hdrop := Lib.hid (getL_drop hlt key)
      clear d0 d1 hl
      subst ha
      generalize hq : l.getD k e2 = q at c0 c1 hdrop
      obtain ⟨q0, q1⟩ := q
      simp only at c0 c1
      clear hq
      go_wp2
      · go_ret2
        have he := eq_of_beq_toList ‹(q0.toList == key.toList) = true›
        have h := hget.out.trans hdrop.out
        rw [if_pos he] at h
        exact ⟨by unfold getV getOk; rw [h]; rfl, hbel.alloc hbel.size _⟩
      · go_roundw
        case rel =>
          have he := ne_of_beq_toList ‹(q0.toList == key.toList) = false›
          have h := hget.out.trans hdrop.out
          rw [if_neg he] at h
          exact ⟨k + 1, by omega, by go_num, h, hbel.alloc hbel.size _⟩
        case measure => simp [intOf]; omega
    · go_wp2
      go_ret2
      have h := hget.out
      rw [List.drop_eq_nil_of_le (by omega)] at h
      exact ⟨by unfold getV getOk; rw [h]; rfl, hbel⟩
end Go.Proofs.Ytnobgmdknalpdaa
