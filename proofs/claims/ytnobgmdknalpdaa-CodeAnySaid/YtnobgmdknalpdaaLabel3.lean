/-
  The contracts of package label: terms in memory, slices.Contains of strings, holds, Match. No conditions beyond what is written in each statement.
-/
import Derived.Test.YtnobgmdknalpdaaLabel2
set_option linter.unusedSimpArgs false
set_option linter.unusedVariables false
namespace Go.Proofs.Ytnobgmdknalpdaa
open Go.RowKit

/-- A slice's address leads to a list of strings, one cell each, in old memory. -/
def At1 (w : World) (a : Option Addr) (l : List ByteArray) : Prop :=
  l.length ≤ 9223372036854775807 ∧ ∀ i, i < l.length → ∃ b off, a = some ⟨b, off, none⟩ ∧ b < w.heap.size ∧ w.cell? ⟨b, off + i, none⟩ = some (.string (l.getD i ByteArray.empty))

theorem At1.below {w w1 : World} {a : Option Addr} {l : List ByteArray} (h : At1 w a l) (hb : Below w.heap.size w w1) : At1 w1 a l := ⟨h.1, fun i hi => by
  obtain ⟨b, off, ha, hlt, c0⟩ := h.2 i hi
  exact ⟨b, off, ha, Nat.lt_of_lt_of_le hlt hb.size, cell_later hb c0⟩⟩

def memB (v : ByteArray) (l : List ByteArray) : Bool := l.any fun x => decide (v = x)
theorem memB_drop {l : List ByteArray} {k : Nat} (h : k < l.length) (v : ByteArray) : memB v (l.drop k) = (decide (v = l.getD k ByteArray.empty) || memB v (l.drop (k + 1))) := by
  rw [List.drop_eq_getElem_cons h, List.getD_eq_getElem?_getD, List.getElem?_eq_getElem h]; rfl

/-- What Index tells: a number from 0 on just if v is there. -/
def IdxIs (v : ByteArray) (l : List ByteArray) (e : Ending) : Prop := ∃ i : Int, e = .returned (.int .i64 i) ∧ decide (0 ≤ i) = memB v l

set_option maxHeartbeats 400000 in
theorem index_any (a : Option Addr) (l : List ByteArray) (cap : Nat) (v : ByteArray) (w : World) (hl : At1 w a l) :
    Calls Try.prog 103 #[.slice a l.length cap, .string v] w fun e w' => IdxIs v l e ∧ w' = w := by
  obtain ⟨hm, hl⟩ := hl
  go_enter Try.func103, Try.ntmps103
  go_wp2
  go_loop [8] (fun i => ∃ k : Nat, k ≤ l.length ∧ i = .int .i64 k ∧ Hid (memB v l = memB v (l.drop k))) (fun i => l.length - (intOf i).toNat)
  case atStart => exact ⟨0, Nat.zero_le _, rfl, rfl⟩
  case round =>
    obtain ⟨k, hk, rfl, hmem⟩ := hrel
    by_cases hlt : k < l.length
    · obtain ⟨b, off, ha, hb, c0⟩ := hl k hlt
      have hdrop := Lib.hid (memB_drop hlt v)
      clear hl
      subst ha
      generalize hq : l.getD k ByteArray.empty = q at c0 hdrop
      clear hq
      go_wp2
      · go_ret
        have he := eq_of_beq_toList ‹(v.toList == q.toList) = true›
        exact ⟨⟨k, rfl, by rw [hmem.out, hdrop.out, he]; simp⟩, rfl⟩
      · go_round
        case rel =>
          have he := ne_of_beq_toList ‹(v.toList == q.toList) = false›
          have h := hmem.out.trans hdrop.out
          rw [decide_eq_false he, Bool.false_or] at h
          exact ⟨k + 1, by omega, by go_num, h⟩
        case measure => simp [intOf]; omega
    · go_wp2
      go_ret
      have h := hmem.out
      rw [List.drop_eq_nil_of_le (by omega)] at h
      exact ⟨⟨-1, rfl, by rw [h]; rfl⟩, rfl⟩

set_option maxHeartbeats 400000 in
theorem contains_any (a : Option Addr) (l : List ByteArray) (cap : Nat) (v : ByteArray) (w : World) (hl : At1 w a l) :
    Calls Try.prog 96 #[.slice a l.length cap, .string v] w fun e w' => e = .returned (.bool (memB v l)) ∧ w' = w := by
  go_enter Try.func96, Try.ntmps96
  go_wp2_with (go_at_call 103; refine (index_any _ _ _ _ _ hl).mono ?_; rintro e w' ⟨⟨i, rfl, hi⟩, rfl⟩; have HI := Lib.hid hi; clear hi)
  go_ret
  exact ⟨ret_bool HI.out, rfl⟩

/-- A term: its Key, its Kind, its Vals. -/
structure Trm where
  key : ByteArray
  kind : Int
  vals : List ByteArray
def t0 : Trm := ⟨ByteArray.empty, 0, []⟩
def holdsB (key : ByteArray) (kind : Int) (vals : List ByteArray) (l : List Str2) : Bool :=
  if kind = 1 then getOk l key && memB (getV l key) vals
  else if kind = 2 then !getOk l key || !memB (getV l key) vals
  else if kind = 3 then getOk l key else if kind = 4 then !getOk l key else false
abbrev trm (key : ByteArray) (kind : Int) (va : Option Addr) (n vcap : Nat) : Value := .agg #[.string key, .int .i64 kind, .slice va n vcap]

set_option maxHeartbeats 1000000 in
theorem holds_any (key : ByteArray) (kind : Int) (va : Option Addr) (vals : List ByteArray) (vcap : Nat) (a : Option Addr) (l : List Str2) (cap : Nat) (w : World) (hv : At1 w va vals) (hl : At2 w a l) (hm : l.length ≤ 9223372036854775807) :
    Calls Try.prog 71 #[trm key kind va vals.length vcap, .slice a l.length cap] w fun e w' => e = .returned (.bool (holdsB key kind vals l)) ∧ Below w.heap.size w w' := by
  have hal : ∀ o : Obj, At2 (w.alloc o) a l := fun o => hl.below ((Below.refl _ _).alloc (Nat.le_refl _) o)
  go_enter Try.func71, Try.ntmps71
  go_wp2_with (first | (go_at_call 95; refine (get_any _ _ _ _ _ (hal _) hm).mono ?_; rintro e w1 ⟨rfl, hb⟩; obtain ⟨hc, hf⟩ := bcell hb; have hbw := (((Below.refl w.heap.size w).alloc (Nat.le_refl _) _).trans (hb.mono (by simp))); clear hb; have hv1 := hv.below hbw) | (go_at_call 96; refine (contains_any _ _ _ _ _ (by assumption)).mono ?_; rintro e w2 ⟨rfl, rfl⟩))
  all_goals (go_ret; refine ⟨ret_bool ?_, by assumption⟩; go_light; simp_all [holdsB])

/-- A slice's address leads to a list of terms, three cells each, the Vals of each somewhere, all in old memory. -/
def AtT (w : World) (a : Option Addr) (l : List Trm) : Prop :=
  l.length ≤ 9223372036854775807 ∧ ∀ i, i < l.length → ∃ b off va vcap, a = some ⟨b, off, none⟩ ∧ b < w.heap.size ∧ w.cell? ⟨b, off + i * 3, none⟩ = some (.string (l.getD i t0).key) ∧ w.cell? ⟨b, off + i * 3 + 1, none⟩ = some (.int .i64 (l.getD i t0).kind)
    ∧ w.cell? ⟨b, off + i * 3 + 2, none⟩ = some (.slice va (l.getD i t0).vals.length vcap) ∧ At1 w va (l.getD i t0).vals

theorem AtT.below {w w1 : World} {a : Option Addr} {l : List Trm} (h : AtT w a l) (hb : Below w.heap.size w w1) : AtT w1 a l := ⟨h.1, fun i hi => by
  obtain ⟨b, off, va, vcap, ha, hlt, c0, c1, c2, hv⟩ := h.2 i hi
  exact ⟨b, off, va, vcap, ha, Nat.lt_of_lt_of_le hlt hb.size, cell_later hb c0, cell_later hb c1, cell_later hb c2, hv.below hb⟩⟩

def matchB (ts : List Trm) (l : List Str2) : Bool := ts.all fun t => holdsB t.key t.kind t.vals l
theorem matchB_drop {ts : List Trm} {k : Nat} (h : k < ts.length) (l : List Str2) : matchB (ts.drop k) l = (holdsB (ts.getD k t0).key (ts.getD k t0).kind (ts.getD k t0).vals l && matchB (ts.drop (k + 1)) l) := by
  rw [List.drop_eq_getElem_cons h, List.getD_eq_getElem?_getD, List.getElem?_eq_getElem h]; rfl

set_option maxHeartbeats 1000000 in
theorem match_any (ta : Option Addr) (ts : List Trm) (tcap : Nat) (a : Option Addr) (l : List Str2) (cap : Nat) (w : World) (ht : AtT w ta ts) (hl : At2 w a l) (hm : l.length ≤ 9223372036854775807) :
    Calls Try.prog 23 #[.slice ta ts.length tcap, .slice a l.length cap] w fun e w' => e = .returned (.bool (matchB ts l)) ∧ Below w.heap.size w w' := by
  obtain ⟨htm, ht⟩ := ht
  go_enter Try.func23, Try.ntmps23
  go_wp2
  go_loopw [9] (fun i wr => ∃ k : Nat, k ≤ ts.length ∧ i = .int .i64 k ∧ Hid (matchB ts l = matchB (ts.drop k) l) ∧ Below w.heap.size w wr) (fun i _ => ts.length - (intOf i).toNat)
  case atStart => exact ⟨0, Nat.zero_le _, rfl, rfl, Below.refl _ _⟩
  case round =>
    obtain ⟨k, hk, rfl, hget, hbel⟩ := hrel
    by_cases hlt : k < ts.length
    · obtain ⟨b, off, va, vcap, ha, hb, d0, d1, d2, hv⟩ := ht k hlt
      have c0 := cell_later hbel d0
      have c1 := cell_later hbel d1
      have c2 := cell_later hbel d2
      have hv1 := hv.below hbel
      have hl1 := hl.below hbel
      have hdrop := Lib.hid (matchB_drop hlt l)
      have hvA : ∀ o : Obj, At1 (wr.alloc o) va (ts.getD k t0).vals := fun o => hv1.below ((Below.refl _ _).alloc (Nat.le_refl _) o)
      have hlA : ∀ o : Obj, At2 (wr.alloc o) a l := fun o => hl1.below ((Below.refl _ _).alloc (Nat.le_refl _) o)
      clear d0 d1 d2 ht hv hl hv1 hl1
      subst ha
      generalize hq : ts.getD k t0 = q at c0 c1 c2 hdrop hvA
      obtain ⟨q0, q1, q2⟩ := q
      simp only at c0 c1 c2 hvA
      clear hq
      go_wp2_with (go_at_call 71; refine (holds_any _ _ _ _ _ _ _ _ _ (hvA _) (hlA _) hm).mono ?_; rintro e w1 ⟨rfl, hb1⟩)
      · go_ret
        have hx : holdsB q0 q1 q2 l = false := by simpa using ‹(!holdsB q0 q1 q2 l) = true›
        exact ⟨ret_bool (by rw [hget.out, hdrop.out, hx]; rfl), (hbel.alloc hbel.size _).trans (hb1.mono (by simp; have := hbel.size; omega))⟩
      · go_roundw
        case rel =>
          have hx : holdsB q0 q1 q2 l = true := by simpa using ‹(!holdsB q0 q1 q2 l) = false›
          exact ⟨k + 1, by omega, by go_num, by show _ = _; rw [hget.out, hdrop.out, hx]; rfl, (hbel.alloc hbel.size _).trans (hb1.mono (by simp; have := hbel.size; omega))⟩
        case measure => simp [intOf]; omega
    · go_wp2
      go_ret
      have h := hget.out
      rw [List.drop_eq_nil_of_le (by omega)] at h
      exact ⟨ret_bool (by rw [h]; rfl), hbel⟩
end Go.Proofs.Ytnobgmdknalpdaa
