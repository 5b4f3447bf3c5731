/-
  The contracts of package label: names. No conditions beyond what is written in each statement.
-/
import Derived.Test.YtaleceobkbgcnaaGreatBase
set_option linter.unusedSimpArgs false
set_option linter.unusedVariables false
namespace Go.Proofs.YtaleceobkbgcnaaGreat
open Go.RowKit

def nameByte (c : Nat) : Bool := decide (97 ≤ c ∧ c ≤ 122 ∨ 48 ≤ c ∧ c ≤ 57 ∨ c = 45)
def allName (l : List UInt8) : Bool := l.all fun c => nameByte c.toNat
def nameL (l : List UInt8) : Bool := decide (1 ≤ l.length ∧ l.length ≤ 12) && allName l

set_option maxHeartbeats 400000 in
theorem ofName_any (c : Nat) (w : World) :
    Calls Tryz.prog 233 #[.int .u8 c] w fun e w' => e = .returned (.bool (nameByte c)) ∧ w' = w := by
  go_enter Tryz.func233, Tryz.ntmps233
  go_wp2
  all_goals (go_ret; refine ⟨ret_bool ?_, rfl⟩; rw [Bool.eq_iff_iff]; simp [nameByte]; omega)

theorem allName_snoc (s : ByteArray) (k : Nat) (h : k < s.size) : allName (s.data.toList.take (k + 1)) = (allName (s.data.toList.take k) && nameByte s[k].toNat) := by
  unfold allName
  rw [List.take_succ_eq_append_getElem (by simpa using h), List.all_append]
  simp; rfl
theorem allName_no (s : ByteArray) (k : Nat) (h : k < s.size) (hn : nameByte s[k].toNat = false) : allName s.data.toList = false := by
  unfold allName
  rw [List.all_eq_false]
  exact ⟨s[k], by simp [ByteArray.getElem_eq_getElem_data], by simp [hn]⟩

set_option maxHeartbeats 400000 in
theorem name_any (s : ByteArray) (w : World) :
    Calls Tryz.prog 198 #[.string s] w fun e w' => e = .returned (.bool (nameL s.data.toList)) ∧ w' = w := by
  go_enter Tryz.func198, Tryz.ntmps198
  go_wp2_with fail
  · go_ret
    exact ⟨ret_bool (by unfold nameL; rw [decide_eq_false (by simp; omega)]; rfl), rfl⟩
  · have hlen : 1 ≤ s.size ∧ s.size ≤ 12 := by omega
    obtain ⟨hlen1, hlen2⟩ := hlen
    go_loop [14] (fun i => ∃ k : Nat, k ≤ s.size ∧ i = .int .i64 k ∧ Hid (allName (s.data.toList.take k) = true)) (fun i => s.size - (intOf i).toNat)
    case atStart => exact ⟨0, Nat.zero_le _, rfl, rfl⟩
    case round =>
      obtain ⟨k, hk, rfl, hall⟩ := hrel
      by_cases hlt : k < s.size
      · have hsn := Lib.hid (allName_snoc s k hlt)
        have hno := Lib.hid (allName_no s k hlt)
        cases hc : nameByte s[k].toNat
        · go_wp2_with (go_at_call 233; refine (ofName_any _ _).mono ?_; rintro e w' ⟨rfl, rfl⟩)
          go_ret
          exact ⟨ret_bool (by unfold nameL; rw [hno.out hc]; simp), rfl⟩
        · go_wp2_with (go_at_call 233; refine (ofName_any _ _).mono ?_; rintro e w' ⟨rfl, rfl⟩)
          go_round
          case rel => exact ⟨k + 1, by omega, by go_num, by show _ = true; rw [hsn.out, hall.out, hc]; rfl⟩
          case measure => simp [intOf]; omega
      · go_wp2
        go_ret
        exact ⟨ret_bool (by have h := hall.out; rw [List.take_of_length_le (by simp; omega)] at h; unfold nameL; rw [h, decide_eq_true (by simp; omega)]; rfl), rfl⟩
  · go_ret
    exact ⟨ret_bool (by unfold nameL; rw [decide_eq_false (by simp; omega)]; rfl), rfl⟩
end Go.Proofs.YtaleceobkbgcnaaGreat
namespace Go.Proofs.YtaleceobkbgcnaaGreat
open Go.RowKit

abbrev Str2 := ByteArray × ByteArray
def e2 : Str2 := (ByteArray.empty, ByteArray.empty)
/-- A slice's address leads to a list of pairs of strings, two cells each, in old memory. -/
def At2 (w : World) (a : Option Addr) (l : List Str2) : Prop :=
  ∀ i, i < l.length → ∃ b off, a = some ⟨b, off, none⟩ ∧ b < w.heap.size ∧ w.cell? ⟨b, off + i * 2, none⟩ = some (.string (l.getD i e2).1) ∧ w.cell? ⟨b, off + i * 2 + 1, none⟩ = some (.string (l.getD i e2).2)

theorem At2.below {w w1 : World} {a : Option Addr} {l : List Str2} (h : At2 w a l) (hb : Below w.heap.size w w1) : At2 w1 a l := fun i hi => by
  obtain ⟨b, off, ha, hlt, c0, c1⟩ := h i hi
  exact ⟨b, off, ha, Nat.lt_of_lt_of_le hlt hb.size, cell_later hb c0, cell_later hb c1⟩

/-- The first one of that key, plainly. -/
def getL : List Str2 → ByteArray → Option ByteArray
  | [], _ => none
  | x :: r, key => if x.1 = key then some x.2 else getL r key

theorem getL_drop {l : List Str2} {k : Nat} (h : k < l.length) (key : ByteArray) : getL (l.drop k) key = if (l.getD k e2).1 = key then some (l.getD k e2).2 else getL (l.drop (k + 1)) key := by
  rw [List.drop_eq_getElem_cons h, List.getD_eq_getElem?_getD, List.getElem?_eq_getElem h]; rfl

def getV (l : List Str2) (key : ByteArray) : ByteArray := (getL l key).getD ByteArray.empty
def getOk (l : List Str2) (key : ByteArray) : Bool := (getL l key).isSome

set_option maxHeartbeats 400000 in
theorem get_any (a : Option Addr) (l : List Str2) (cap : Nat) (key : ByteArray) (w : World) (hl : At2 w a l) (hm : l.length ≤ 9223372036854775807) :
    Calls Tryz.prog 230 #[.slice a l.length cap, .string key] w fun e w' => e = .returned (.tuple #[.string (getV l key), .bool (getOk l key)]) ∧ Below w.heap.size w w' := by
  go_enter Tryz.func230, Tryz.ntmps230
  go_wp2
  go_loopw [10] (fun i wr => ∃ k : Nat, k ≤ l.length ∧ i = .int .i64 k ∧ Hid (getL l key = getL (l.drop k) key) ∧ Below w.heap.size w wr) (fun i _ => l.length - (intOf i).toNat)
  case atStart => exact ⟨0, Nat.zero_le _, rfl, rfl, Below.refl _ _⟩
  case round =>
    obtain ⟨k, hk, rfl, hget, hbel⟩ := hrel
    by_cases hlt : k < l.length
    · obtain ⟨b, off, ha, hb, d0, d1⟩ := hl k hlt
      have c0 := (hbel.cell (p := ⟨b, off + k * 2, none⟩) hb).trans d0
      have c1 := (hbel.cell (p := ⟨b, off + k * 2 + 1, none⟩) hb).trans d1
      have hdrop := Lib.hid (getL_drop hlt key)
      clear d0 d1 hl
      subst ha
      generalize hq : l.getD k e2 = q at c0 c1 hdrop
      obtain ⟨q0, q1⟩ := q
      simp only at c0 c1
      clear hq
      go_wp2
      · go_ret2
        have he := eq_of_beq_toList ‹(q0.toList == key.toList) = true›
        have h := hget.out.trans hdrop.out
        rw [if_pos he] at h
        exact ⟨by unfold getV getOk; rw [h]; rfl, hbel.alloc hbel.size _⟩
      · go_roundw
        case rel =>
          have he := ne_of_beq_toList ‹(q0.toList == key.toList) = false›
          have h := hget.out.trans hdrop.out
          rw [if_neg he] at h
          exact ⟨k + 1, by omega, by go_num, h, hbel.alloc hbel.size _⟩
        case measure => simp [intOf]; omega
    · go_wp2
      go_ret2
      have h := hget.out
      rw [List.drop_eq_nil_of_le (by omega)] at h
      exact ⟨by unfold getV getOk; rw [h]; rfl, hbel⟩
end Go.Proofs.YtaleceobkbgcnaaGreat
namespace Go.Proofs.YtaleceobkbgcnaaGreat
open Go.RowKit

/-- A slice's address leads to a list of strings, one cell each, in old memory. -/
def At1 (w : World) (a : Option Addr) (l : List ByteArray) : Prop :=
  l.length ≤ 9223372036854775807 ∧ ∀ i, i < l.length → ∃ b off, a = some ⟨b, off, none⟩ ∧ b < w.heap.size ∧ w.cell? ⟨b, off + i, none⟩ = some (.string (l.getD i ByteArray.empty))

theorem At1.below {w w1 : World} {a : Option Addr} {l : List ByteArray} (h : At1 w a l) (hb : Below w.heap.size w w1) : At1 w1 a l := ⟨h.1, fun i hi => by
  obtain ⟨b, off, ha, hlt, c0⟩ := h.2 i hi
  exact ⟨b, off, ha, Nat.lt_of_lt_of_le hlt hb.size, cell_later hb c0⟩⟩

def memB (v : ByteArray) (l : List ByteArray) : Bool := l.any fun x => decide (v = x)
theorem memB_drop {l : List ByteArray} {k : Nat} (h : k < l.length) (v : ByteArray) : memB v (l.drop k) = (decide (v = l.getD k ByteArray.empty) || memB v (l.drop (k + 1))) := by
  rw [List.drop_eq_getElem_cons h, List.getD_eq_getElem?_getD, List.getElem?_eq_getElem h]; rfl

/-- What Index tells: a number from 0 on just if v is there. -/
def IdxIs (v : ByteArray) (l : List ByteArray) (e : Ending) : Prop := ∃ i : Int, e = .returned (.int .i64 i) ∧ decide (0 ≤ i) = memB v l

set_option maxHeartbeats 400000 in
theorem index_any (a : Option Addr) (l : List ByteArray) (cap : Nat) (v : ByteArray) (w : World) (hl : At1 w a l) :
    Calls Tryz.prog 245 #[.slice a l.length cap, .string v] w fun e w' => IdxIs v l e ∧ w' = w := by
  obtain ⟨hm, hl⟩ := hl
  go_enter Tryz.func245, Tryz.ntmps245
  go_wp2
  go_loop [8] (fun i => ∃ k : Nat, k ≤ l.length ∧ i = .int .i64 k ∧ Hid (memB v l = memB v (l.drop k))) (fun i => l.length - (intOf i).toNat)
  case atStart => exact ⟨0, Nat.zero_le _, rfl, rfl⟩
  case round =>
    obtain ⟨k, hk, rfl, hmem⟩ := hrel
    by_cases hlt : k < l.length
    · obtain ⟨b, off, ha, hb, c0⟩ := hl k hlt
      have hdrop := Lib.hid (memB_drop hlt v)
      clear hl
      subst ha
      generalize hq : l.getD k ByteArray.empty = q at c0 hdrop
      clear hq
      go_wp2
      · go_ret
        have he := eq_of_beq_toList ‹(v.toList == q.toList) = true›
        exact ⟨⟨k, rfl, by rw [hmem.out, hdrop.out, he]; simp⟩, rfl⟩
      · go_round
        case rel =>
          have he := ne_of_beq_toList ‹(v.toList == q.toList) = false›
          have h := hmem.out.trans hdrop.out
          rw [decide_eq_false he, Bool.false_or] at h
          exact ⟨k + 1, by omega, by go_num, h⟩
        case measure => simp [intOf]; omega
    · go_wp2
      go_ret
      have h := hmem.out
      rw [List.drop_eq_nil_of_le (by omega)] at h
      exact ⟨⟨-1, rfl, by rw [h]; rfl⟩, rfl⟩

set_option maxHeartbeats 400000 in
theorem contains_any (a : Option Addr) (l : List ByteArray) (cap : Nat) (v : ByteArray) (w : World) (hl : At1 w a l) :
    Calls Tryz.prog 231 #[.slice a l.length cap, .string v] w fun e w' => e = .returned (.bool (memB v l)) ∧ w' = w := by
  go_enter Tryz.func231, Tryz.ntmps231
  go_wp2_with (go_at_call 245; refine (index_any _ _ _ _ _ hl).mono ?_; rintro e w' ⟨⟨i, rfl, hi⟩, rfl⟩; have HI := Lib.hid hi; clear hi)
  go_ret
  exact ⟨ret_bool HI.out, rfl⟩

/-- A term: its Key, its Kind, its Vals. -/
structure Trm where
  key : ByteArray
  kind : Int
  vals : List ByteArray
def t0 : Trm := ⟨ByteArray.empty, 0, []⟩
def holdsB (key : ByteArray) (kind : Int) (vals : List ByteArray) (l : List Str2) : Bool :=
  if kind = 1 then getOk l key && memB (getV l key) vals
  else if kind = 2 then !getOk l key || !memB (getV l key) vals
  else if kind = 3 then getOk l key else if kind = 4 then !getOk l key else false
abbrev trm (key : ByteArray) (kind : Int) (va : Option Addr) (n vcap : Nat) : Value := .agg #[.string key, .int .i64 kind, .slice va n vcap]

set_option maxHeartbeats 1000000 in
theorem holds_any (key : ByteArray) (kind : Int) (va : Option Addr) (vals : List ByteArray) (vcap : Nat) (a : Option Addr) (l : List Str2) (cap : Nat) (w : World) (hv : At1 w va vals) (hl : At2 w a l) (hm : l.length ≤ 9223372036854775807) :
    Calls Tryz.prog 196 #[trm key kind va vals.length vcap, .slice a l.length cap] w fun e w' => e = .returned (.bool (holdsB key kind vals l)) ∧ Below w.heap.size w w' := by
  have hal : ∀ o : Obj, At2 (w.alloc o) a l := fun o => hl.below ((Below.refl _ _).alloc (Nat.le_refl _) o)
  go_enter Tryz.func196, Tryz.ntmps196
  go_wp2_with (first | (go_at_call 230; refine (get_any _ _ _ _ _ (hal _) hm).mono ?_; rintro e w1 ⟨rfl, hb⟩; obtain ⟨hc, hf⟩ := bcell hb; have hbw := (((Below.refl w.heap.size w).alloc (Nat.le_refl _) _).trans (hb.mono (by simp))); clear hb; have hv1 := hv.below hbw) | (go_at_call 231; refine (contains_any _ _ _ _ _ (by assumption)).mono ?_; rintro e w2 ⟨rfl, rfl⟩))
  all_goals (go_ret; refine ⟨ret_bool ?_, by assumption⟩; go_light; simp_all [holdsB])

/-- A slice's address leads to a list of terms, three cells each, the Vals of each somewhere, all in old memory. -/
def AtT (w : World) (a : Option Addr) (l : List Trm) : Prop :=
  l.length ≤ 9223372036854775807 ∧ ∀ i, i < l.length → ∃ b off va vcap, a = some ⟨b, off, none⟩ ∧ b < w.heap.size ∧ w.cell? ⟨b, off + i * 3, none⟩ = some (.string (l.getD i t0).key) ∧ w.cell? ⟨b, off + i * 3 + 1, none⟩ = some (.int .i64 (l.getD i t0).kind)
    ∧ w.cell? ⟨b, off + i * 3 + 2, none⟩ = some (.slice va (l.getD i t0).vals.length vcap) ∧ At1 w va (l.getD i t0).vals

theorem AtT.below {w w1 : World} {a : Option Addr} {l : List Trm} (h : AtT w a l) (hb : Below w.heap.size w w1) : AtT w1 a l := ⟨h.1, fun i hi => by
  obtain ⟨b, off, va, vcap, ha, hlt, c0, c1, c2, hv⟩ := h.2 i hi
  exact ⟨b, off, va, vcap, ha, Nat.lt_of_lt_of_le hlt hb.size, cell_later hb c0, cell_later hb c1, cell_later hb c2, hv.below hb⟩⟩

def matchB (ts : List Trm) (l : List Str2) : Bool := ts.all fun t => holdsB t.key t.kind t.vals l
theorem matchB_drop {ts : List Trm} {k : Nat} (h : k < ts.length) (l : List Str2) : matchB (ts.drop k) l = (holdsB (ts.getD k t0).key (ts.getD k t0).kind (ts.getD k t0).vals l && matchB (ts.drop (k + 1)) l) := by
  rw [List.drop_eq_getElem_cons h, List.getD_eq_getElem?_getD, List.getElem?_eq_getElem h]; rfl

set_option maxHeartbeats 1000000 in
theorem match_any (ta : Option Addr) (ts : List Trm) (tcap : Nat) (a : Option Addr) (l : List Str2) (cap : Nat) (w : World) (ht : AtT w ta ts) (hl : At2 w a l) (hm : l.length ≤ 9223372036854775807) :
    Calls Tryz.prog 160 #[.slice ta ts.length tcap, .slice a l.length cap] w fun e w' => e = .returned (.bool (matchB ts l)) ∧ Below w.heap.size w w' := by
  obtain ⟨htm, ht⟩ := ht
  go_enter Tryz.func160, Tryz.ntmps160
  go_wp2
  go_loopw [9] (fun i wr => ∃ k : Nat, k ≤ ts.length ∧ i = .int .i64 k ∧ Hid (matchB ts l = matchB (ts.drop k) l) ∧ Below w.heap.size w wr) (fun i _ => ts.length - (intOf i).toNat)
  case atStart => exact ⟨0, Nat.zero_le _, rfl, rfl, Below.refl _ _⟩
  case round =>
    obtain ⟨k, hk, rfl, hget, hbel⟩ := hrel
    by_cases hlt : k < ts.length
    · obtain ⟨b, off, va, vcap, ha, hb, d0, d1, d2, hv⟩ := ht k hlt
      have c0 := cell_later hbel d0
      have c1 := cell_later hbel d1
      have c2 := cell_later hbel d2
      have hv1 := hv.below hbel
      have hl1 := hl.below hbel
      have hdrop := Lib.hid (matchB_drop hlt l)
      have hvA : ∀ o : Obj, At1 (wr.alloc o) va (ts.getD k t0).vals := fun o => hv1.below ((Below.refl _ _).alloc (Nat.le_refl _) o)
      have hlA : ∀ o : Obj, At2 (wr.alloc o) a l := fun o => hl1.below ((Below.refl _ _).alloc (Nat.le_refl _) o)
      clear d0 d1 d2 ht hv hl hv1 hl1
      subst ha
      generalize hq : ts.getD k t0 = q at c0 c1 c2 hdrop hvA
      obtain ⟨q0, q1, q2⟩ := q
      simp only at c0 c1 c2 hvA
      clear hq
      go_wp2_with (go_at_call 196; refine (holds_any _ _ _ _ _ _ _ _ _ (hvA _) (hlA _) hm).mono ?_; rintro e w1 ⟨rfl, hb1⟩)
      · go_ret
        have hx : holdsB q0 q1 q2 l = false := by simpa using ‹(!holdsB q0 q1 q2 l) = true›
        exact ⟨ret_bool (by rw [hget.out, hdrop.out, hx]; rfl), (hbel.alloc hbel.size _).trans (hb1.mono (by simp; have := hbel.size; omega))⟩
      · go_roundw
        case rel =>
          have hx : holdsB q0 q1 q2 l = true := by simpa using ‹(!holdsB q0 q1 q2 l) = false›
          exact ⟨k + 1, by omega, by go_num, by show _ = _; rw [hget.out, hdrop.out, hx]; rfl, (hbel.alloc hbel.size _).trans (hb1.mono (by simp; have := hbel.size; omega))⟩
        case measure => simp [intOf]; omega
    · go_wp2
      go_ret
      have h := hget.out
      rw [List.drop_eq_nil_of_le (by omega)] at h
      exact ⟨ret_bool (by rw [h]; rfl), hbel⟩
end Go.Proofs.YtaleceobkbgcnaaGreat
namespace Go.Proofs.YtaleceobkbgcnaaGreat
open Go.RowKit

def lessB (a b : ByteArray) : Bool := Op.bytesLess a.toList b.toList
def keyAt (l : List Str2) (k : Nat) : ByteArray := (l.getD k e2).1
def valAt (l : List Str2) (k : Nat) : ByteArray := (l.getD k e2).2
/-- What is asked of the k-th one. -/
def stepL (l : List Str2) (k : Nat) : Bool := nameL (keyAt l k).data.toList && nameL (valAt l k).data.toList && (decide (k = 0) || lessB (keyAt l (k - 1)) (keyAt l k))
def mayL (l : List Str2) : Bool := decide (l.length ≤ 6) && (List.range l.length).all (stepL l)

theorem all_range_succ (f : Nat → Bool) (k : Nat) : (List.range (k + 1)).all f = ((List.range k).all f && f k) := by rw [List.range_succ, List.all_append]; simp
theorem all_range_no {f : Nat → Bool} {k n : Nat} (h : k < n) (hf : f k = false) : (List.range n).all f = false := by rw [List.all_eq_false]; exact ⟨k, by simpa using h, by simp [hf]⟩

set_option maxHeartbeats 1000000 in
theorem may_pairs_any (a : Option Addr) (l : List Str2) (cap : Nat) (w : World) (hl : At2 w a l) :
    Calls Tryz.prog 201 #[.slice a l.length cap] w fun e w' => e = .returned (.bool (mayL l)) ∧ Below w.heap.size w w' := by
  go_enter Tryz.func201, Tryz.ntmps201
  go_wp2
  · go_ret
    exact ⟨ret_bool (by unfold mayL; rw [decide_eq_false (by omega)]; rfl), Below.refl _ _⟩
  · have hm : l.length ≤ 6 := by omega
    go_loopw [10] (fun i wr => ∃ k : Nat, k ≤ l.length ∧ i = .int .i64 k ∧ Hid ((List.range k).all (stepL l) = true) ∧ Below w.heap.size w wr) (fun i _ => l.length - (intOf i).toNat)
    case atStart => exact ⟨0, Nat.zero_le _, rfl, rfl, Below.refl _ _⟩
    case round =>
      obtain ⟨k, hk, rfl, hget, hbel⟩ := hrel
      by_cases hlt : k < l.length
      · obtain ⟨b, off, ha, hb, d0, d1⟩ := hl k hlt
        have c0 := cell_later hbel d0
        have c1 := cell_later hbel d1
        subst ha
        have hno := Lib.hid (fun h : stepL l k = false => all_range_no hlt h)
        have hsu := Lib.hid (all_range_succ (stepL l) k)
        have hst : Hid (stepL l k = (nameL (keyAt l k).data.toList && nameL (valAt l k).data.toList && (decide (k = 0) || lessB (keyAt l (k - 1)) (keyAt l k)))) := rfl
        have hprev : ∀ j, k = j + 1 → wr.cell? ⟨b, off + j * 2, none⟩ = some (.string (keyAt l j)) := fun j hj => by
          obtain ⟨b', off', ha', hb', d0', d1'⟩ := hl j (by omega)
          simp at ha'
          obtain ⟨rfl, rfl⟩ := ha'
          exact cell_later hbel d0'
        change wr.cell? _ = some (.string (keyAt l k)) at c0
        change wr.cell? _ = some (.string (valAt l k)) at c1
        clear d0 d1 hl
        generalize keyAt l k = q0 at c0 hst
        generalize valAt l k = q1 at c1 hst
        cases h0 : nameL q0.data.toList
        · go_wp2_with (go_at_call 198; refine (name_any _ _).mono ?_; rintro e w' ⟨rfl, rfl⟩)
          go_ret
          exact ⟨ret_bool (by unfold mayL; rw [hno.out (by rw [hst.out, h0]; rfl)]; simp), hbel.trans (by (repeat (with_reducible first | exact Below.refl _ _ | refine Below.alloc ?_ ?_ _ | refine Below.drew ?_ | refine below_drewN ?_ _)); all_goals (have := hbel.size; simp <;> omega))⟩
        · cases h1 : nameL q1.data.toList
          · go_wp2_with (go_at_call 198; refine (name_any _ _).mono ?_; rintro e w' ⟨rfl, rfl⟩)
            go_ret
            exact ⟨ret_bool (by unfold mayL; rw [hno.out (by rw [hst.out, h0, h1]; rfl)]; simp), hbel.trans (by (repeat (with_reducible first | exact Below.refl _ _ | refine Below.alloc ?_ ?_ _ | refine Below.drew ?_ | refine below_drewN ?_ _)); all_goals (have := hbel.size; simp <;> omega))⟩
          · by_cases k0 : k = 0
            · subst k0
              simp only [Nat.zero_mul, Nat.add_zero] at c0 c1
              clear hprev
              go_wp2_with (go_at_call 198; refine (name_any _ _).mono ?_; rintro e w' ⟨rfl, rfl⟩)
              go_quiet (fail)
              go_wp2
              go_roundw
              case rel => exact ⟨1, by omega, by go_num, by show _ = _; rw [hsu.out, hget.out, hst.out, h0, h1]; rfl, hbel.trans (by (repeat (with_reducible first | exact Below.refl _ _ | refine Below.alloc ?_ ?_ _ | refine Below.drew ?_ | refine below_drewN ?_ _)); all_goals (have := hbel.size; simp <;> omega))⟩
              case measure => simp [intOf]; omega
            · have p0 := hprev (k - 1) (by omega)
              clear hprev
              generalize keyAt l (k - 1) = p at p0 hst
              have kp : (0 : Int) < (k : Int) := by omega
              have kn : 0 < k := by omega
              have hbb : b < wr.heap.size := by have := hbel.size; omega
              have kw : IntKind.i64.wrap ((k : Int) - 1) = ((k - 1 : Nat) : Int) := by rw [IntWalk.i64_in _ (by omega)]; omega
              have kl : ((k - 1 : Nat) : Int) < (l.length : Int) := by omega
              have kz : (0 : Int) ≤ ((k - 1 : Nat) : Int) := by omega
              go_wp2_with (go_at_call 198; refine (name_any _ _).mono ?_; rintro e w' ⟨rfl, rfl⟩)
              go_quiet (fail)
              go_wp2
              · go_ret
                have hx : lessB p q0 = false := by unfold lessB; simpa using ‹(!Op.bytesLess p.toList q0.toList) = true›
                exact ⟨ret_bool (by unfold mayL; rw [hno.out (by rw [hst.out, h0, h1, hx, decide_eq_false k0]; rfl)]; simp), hbel.trans (by (repeat (with_reducible first | exact Below.refl _ _ | refine Below.alloc ?_ ?_ _ | refine Below.drew ?_ | refine below_drewN ?_ _)); all_goals (have := hbel.size; simp <;> omega))⟩
              · go_roundw
                case rel =>
                  have hx : lessB p q0 = true := by unfold lessB; simpa using ‹(!Op.bytesLess p.toList q0.toList) = false›
                  exact ⟨k + 1, by omega, by go_num, by show _ = _; rw [hsu.out, hget.out, hst.out, h0, h1, hx]; simp, hbel.trans (by (repeat (with_reducible first | exact Below.refl _ _ | refine Below.alloc ?_ ?_ _ | refine Below.drew ?_ | refine below_drewN ?_ _)); all_goals (have := hbel.size; simp <;> omega))⟩
                case measure => simp [intOf]; omega
      · go_wp2
        go_ret
        have h := hget.out
        exact ⟨ret_bool (by unfold mayL; rw [show l.length = k by omega, h, decide_eq_true (by omega)]; rfl), hbel⟩
end Go.Proofs.YtaleceobkbgcnaaGreat
namespace Go.Proofs.YtaleceobkbgcnaaGreat
open Go.RowKit

def allNames (l : List ByteArray) : Bool := l.all fun v => nameL v.data.toList
theorem allNames_drop {l : List ByteArray} {k : Nat} (h : k < l.length) : allNames (l.drop k) = (nameL (l.getD k ByteArray.empty).data.toList && allNames (l.drop (k + 1))) := by
  rw [List.drop_eq_getElem_cons h, List.getD_eq_getElem?_getD, List.getElem?_eq_getElem h]; rfl
def valsB (l : List ByteArray) : Bool := decide (1 ≤ l.length ∧ l.length ≤ 6) && allNames l

set_option maxHeartbeats 400000 in
theorem mayVals_any (a : Option Addr) (l : List ByteArray) (cap : Nat) (w : World) (hl : At1 w a l) :
    Calls Tryz.prog 246 #[.slice a l.length cap] w fun e w' => e = .returned (.bool (valsB l)) ∧ w' = w := by
  obtain ⟨hm, hl⟩ := hl
  go_enter Tryz.func246, Tryz.ntmps246
  go_wp2_with fail
  · go_ret
    exact ⟨ret_bool (by unfold valsB; rw [decide_eq_false (by omega)]; rfl), rfl⟩
  · have hlen : 1 ≤ l.length ∧ l.length ≤ 6 := by omega
    have HL := Lib.hid hlen
    clear hlen
    go_loop [15] (fun i => ∃ k : Nat, k ≤ l.length ∧ i = .int .i64 k ∧ Hid (allNames l = allNames (l.drop k))) (fun i => l.length - (intOf i).toNat)
    case atStart => exact ⟨0, Nat.zero_le _, rfl, rfl⟩
    case round =>
      obtain ⟨k, hk, rfl, hget⟩ := hrel
      by_cases hlt : k < l.length
      · obtain ⟨b, off, ha, hb, c0⟩ := hl k hlt
        have hdrop := Lib.hid (allNames_drop hlt)
        clear hl
        subst ha
        generalize hq : l.getD k ByteArray.empty = q at c0 hdrop
        clear hq
        go_wp2_with (go_at_call 198; refine (name_any _ _).mono ?_; rintro e w' ⟨rfl, rfl⟩)
        · go_ret
          have hx : nameL q.data.toList = false := by simpa using ‹(!nameL q.data.toList) = true›
          exact ⟨ret_bool (by unfold valsB; rw [hget.out, hdrop.out, hx]; simp), rfl⟩
        · go_round
          case rel =>
            have hx : nameL q.data.toList = true := by simpa using ‹(!nameL q.data.toList) = false›
            exact ⟨k + 1, by omega, by go_num, by show _ = _; rw [hget.out, hdrop.out, hx]; rfl⟩
          case measure => simp [intOf]; omega
      · go_wp2
        go_ret
        have h := hget.out
        rw [List.drop_eq_nil_of_le (by omega)] at h
        exact ⟨ret_bool (by unfold valsB; rw [h, decide_eq_true HL.out]; rfl), rfl⟩
  · go_ret
    exact ⟨ret_bool (by unfold valsB; rw [decide_eq_false (by omega)]; rfl), rfl⟩

def termB (key : ByteArray) (kind : Int) (vals : List ByteArray) : Bool :=
  nameL key.data.toList && (if kind = 1 ∨ kind = 2 then valsB vals else if kind = 3 ∨ kind = 4 then decide (vals.length = 0) else false)

set_option maxHeartbeats 1000000 in
theorem mayTerm_any (key : ByteArray) (kind : Int) (va : Option Addr) (vals : List ByteArray) (vcap : Nat) (w : World) (hv : At1 w va vals) :
    Calls Tryz.prog 234 #[trm key kind va vals.length vcap] w fun e w' => e = .returned (.bool (termB key kind vals)) ∧ Below w.heap.size w w' := by
  have hvA : ∀ o : Obj, At1 (w.alloc o) va vals := fun o => hv.below ((Below.refl _ _).alloc (Nat.le_refl _) o)
  go_enter Tryz.func234, Tryz.ntmps234
  go_wp2_with (first | (go_at_call 198; refine (name_any _ _).mono ?_; rintro e w' ⟨rfl, rfl⟩) | (go_at_call 246; refine (mayVals_any _ _ _ _ (hvA _)).mono ?_; rintro e w' ⟨rfl, rfl⟩))
  all_goals (go_ret; refine ⟨ret_bool ?_, (by (repeat (with_reducible first | exact Below.refl _ _ | refine Below.alloc ?_ ?_ _ | refine Below.setCell ?_ ?_ _ | refine Below.drew ?_ | refine below_drewN ?_ _)); all_goals (simp <;> omega))⟩; go_light; simp_all [termB]; try (cases vals <;> simp <;> omega))

def termsB (ts : List Trm) : Bool := ts.all fun t => termB t.key t.kind t.vals
theorem termsB_drop {ts : List Trm} {k : Nat} (h : k < ts.length) : termsB (ts.drop k) = (termB (ts.getD k t0).key (ts.getD k t0).kind (ts.getD k t0).vals && termsB (ts.drop (k + 1))) := by
  rw [List.drop_eq_getElem_cons h, List.getD_eq_getElem?_getD, List.getElem?_eq_getElem h]; rfl
def mayT (ts : List Trm) : Bool := decide (ts.length ≤ 6) && termsB ts

set_option maxHeartbeats 1000000 in
theorem mayTerms_any (ta : Option Addr) (ts : List Trm) (tcap : Nat) (w : World) (ht : AtT w ta ts) :
    Calls Tryz.prog 202 #[.slice ta ts.length tcap] w fun e w' => e = .returned (.bool (mayT ts)) ∧ Below w.heap.size w w' := by
  obtain ⟨htm, ht⟩ := ht
  go_enter Tryz.func202, Tryz.ntmps202
  go_wp2
  · go_ret
    exact ⟨ret_bool (by unfold mayT; rw [decide_eq_false (by omega)]; rfl), Below.refl _ _⟩
  · have hm : ts.length ≤ 6 := by omega
    go_loopw [10] (fun i wr => ∃ k : Nat, k ≤ ts.length ∧ i = .int .i64 k ∧ Hid (mayT ts = termsB (ts.drop k)) ∧ Below w.heap.size w wr) (fun i _ => ts.length - (intOf i).toNat)
    case atStart => exact ⟨0, Nat.zero_le _, rfl, by show _ = _; unfold mayT; rw [decide_eq_true hm]; rfl, Below.refl _ _⟩
    case round =>
      obtain ⟨k, hk, rfl, hget, hbel⟩ := hrel
      by_cases hlt : k < ts.length
      · obtain ⟨b, off, va, vcap, ha, hb, d0, d1, d2, hv⟩ := ht k hlt
        have c0 := cell_later hbel d0
        have c1 := cell_later hbel d1
        have c2 := cell_later hbel d2
        have hv1 := hv.below hbel
        have hdrop := Lib.hid (termsB_drop hlt)
        have hvA : ∀ o : Obj, At1 (wr.alloc o) va (ts.getD k t0).vals := fun o => hv1.below ((Below.refl _ _).alloc (Nat.le_refl _) o)
        clear d0 d1 d2 ht hv hv1
        subst ha
        generalize hq : ts.getD k t0 = q at c0 c1 c2 hdrop hvA
        obtain ⟨q0, q1, q2⟩ := q
        simp only at c0 c1 c2 hvA
        clear hq
        go_wp2_with (go_at_call 234; refine (mayTerm_any _ _ _ _ _ _ (hvA _)).mono ?_; rintro e w1 ⟨rfl, hb1⟩)
        · go_ret
          have hx : termB q0 q1 q2 = false := by simpa using ‹(!termB q0 q1 q2) = true›
          exact ⟨ret_bool (by rw [hget.out, hdrop.out, hx]; rfl), (hbel.alloc hbel.size _).trans (hb1.mono (by simp; have := hbel.size; omega))⟩
        · go_roundw
          case rel =>
            have hx : termB q0 q1 q2 = true := by simpa using ‹(!termB q0 q1 q2) = false›
            exact ⟨k + 1, by omega, by go_num, by show _ = _; rw [hget.out, hdrop.out, hx]; rfl, (hbel.alloc hbel.size _).trans (hb1.mono (by simp; have := hbel.size; omega))⟩
          case measure => simp [intOf]; omega
      · go_wp2
        go_ret
        have h := hget.out
        rw [List.drop_eq_nil_of_le (by omega)] at h
        exact ⟨ret_bool (by rw [h]; rfl), hbel⟩
end Go.Proofs.YtaleceobkbgcnaaGreat
namespace Go.Proofs.YtaleceobkbgcnaaGreat
open Go.RowKit


/-- A toleration: its Key, its Val, whether of any. -/
abbrev Tol := ByteArray × ByteArray × Bool
def e3 : Tol := (ByteArray.empty, ByteArray.empty, false)
abbrev tol (t : Tol) : Value := .agg #[.string t.1, .string t.2.1, .bool t.2.2]
abbrev str2 (x : Str2) : Value := .agg #[.string x.1, .string x.2]
def bearsB (t : Tol) (x : Str2) : Bool := (decide (t.1 = ByteArray.empty) || decide (t.1 = x.1)) && (t.2.2 || decide (t.2.1 = x.2))

set_option maxHeartbeats 1000000 in
theorem bears_any (k v : ByteArray) (any : Bool) (xk xv : ByteArray) (w : World) :
    Calls Tryz.prog 232 #[.agg #[.string k, .string v, .bool any], .agg #[.string xk, .string xv]] w fun e w' => e = .returned (.bool (bearsB (k, v, any) (xk, xv))) ∧ Below w.heap.size w w' := by
  cases any
  all_goals
    go_enter Tryz.func232, Tryz.ntmps232
    go_wp2
    all_goals (go_ret; refine ⟨ret_bool ?_, (by (repeat (with_reducible first | exact Below.refl _ _ | refine Below.alloc ?_ ?_ _ | refine Below.setCell ?_ ?_ _ | refine Below.drew ?_ | refine below_drewN ?_ _)); all_goals (simp <;> omega))⟩; go_light; simp_all [bearsB, toList_beq, toList_isEmpty, toList_nil])

def tolB (t : Tol) : Bool := (decide (t.1 = ByteArray.empty) || nameL t.1.data.toList) && (if t.2.2 then decide (t.2.1 = ByteArray.empty) else nameL t.2.1.data.toList)

set_option maxHeartbeats 1000000 in
theorem mayTol_any (k v : ByteArray) (any : Bool) (w : World) :
    Calls Tryz.prog 235 #[.agg #[.string k, .string v, .bool any]] w fun e w' => e = .returned (.bool (tolB (k, v, any))) ∧ Below w.heap.size w w' := by
  cases any
  all_goals
    go_enter Tryz.func235, Tryz.ntmps235
    go_wp2_with (go_at_call 198; refine (name_any _ _).mono ?_; rintro e w' ⟨rfl, rfl⟩)
    all_goals (go_ret; refine ⟨ret_bool ?_, (by (repeat (with_reducible first | exact Below.refl _ _ | refine Below.alloc ?_ ?_ _ | refine Below.setCell ?_ ?_ _ | refine Below.drew ?_ | refine below_drewN ?_ _)); all_goals (simp <;> omega))⟩; go_light; simp_all [tolB, toList_isEmpty, toList_nil])

/-- A slice's address leads to a list of tolerations, three cells each, in old memory. -/
def AtL (w : World) (a : Option Addr) (l : List Tol) : Prop :=
  l.length ≤ 9223372036854775807 ∧ ∀ i, i < l.length → ∃ b off, a = some ⟨b, off, none⟩ ∧ b < w.heap.size ∧ w.cell? ⟨b, off + i * 3, none⟩ = some (.string (l.getD i e3).1) ∧ w.cell? ⟨b, off + i * 3 + 1, none⟩ = some (.string (l.getD i e3).2.1) ∧ w.cell? ⟨b, off + i * 3 + 2, none⟩ = some (.bool (l.getD i e3).2.2)

theorem AtL.below {w w1 : World} {a : Option Addr} {l : List Tol} (h : AtL w a l) (hb : Below w.heap.size w w1) : AtL w1 a l := ⟨h.1, fun i hi => by
  obtain ⟨b, off, ha, hlt, c0, c1, c2⟩ := h.2 i hi
  exact ⟨b, off, ha, Nat.lt_of_lt_of_le hlt hb.size, cell_later hb c0, cell_later hb c1, cell_later hb c2⟩⟩

def mayTolsB (l : List Tol) : Bool := decide (l.length ≤ 6) && l.all tolB

set_option maxHeartbeats 1000000 in
theorem mayTols_any (ta : Option Addr) (ts : List Tol) (tcap : Nat) (w : World) (ht : AtL w ta ts) :
    Calls Tryz.prog 203 #[.slice ta ts.length tcap] w fun e w' => e = .returned (.bool (mayTolsB ts)) ∧ Below w.heap.size w w' := by
  obtain ⟨htm, ht⟩ := ht
  go_enter Tryz.func203, Tryz.ntmps203
  go_wp2
  · go_ret
    exact ⟨ret_bool (by unfold mayTolsB; rw [decide_eq_false (by omega)]; rfl), Below.refl _ _⟩
  · have hm : ts.length ≤ 6 := by omega
    go_loopw [10] (fun i wr => ∃ k : Nat, k ≤ ts.length ∧ i = .int .i64 k ∧ Hid (mayTolsB ts = (ts.drop k).all tolB) ∧ Below w.heap.size w wr) (fun i _ => ts.length - (intOf i).toNat)
    case atStart => exact ⟨0, Nat.zero_le _, rfl, by show _ = _; unfold mayTolsB; rw [decide_eq_true hm]; rfl, Below.refl _ _⟩
    case round =>
      obtain ⟨k, hk, rfl, hget, hbel⟩ := hrel
      by_cases hlt : k < ts.length
      · obtain ⟨b, off, ha, hb, d0, d1, d2⟩ := ht k hlt
        have c0 := cell_later hbel d0
        have c1 := cell_later hbel d1
        have c2 := cell_later hbel d2
        have hdrop := Lib.hid (all_drop (d := e3) tolB hlt)
        clear d0 d1 d2 ht
        subst ha
        generalize hq : ts.getD k e3 = q at c0 c1 c2 hdrop
        obtain ⟨q0, q1, q2⟩ := q
        simp only at c0 c1 c2
        clear hq
        go_wp2_with (go_at_call 235; refine (mayTol_any _ _ _ _).mono ?_; rintro e w1 ⟨rfl, hb1⟩)
        · go_ret
          have hx : tolB (q0, q1, q2) = false := by simpa using ‹(!tolB (q0, q1, q2)) = true›
          exact ⟨ret_bool (by rw [hget.out, hdrop.out, hx]; rfl), (hbel.alloc hbel.size _).trans (hb1.mono (by simp; have := hbel.size; omega))⟩
        · go_roundw
          case rel =>
            have hx : tolB (q0, q1, q2) = true := by simpa using ‹(!tolB (q0, q1, q2)) = false›
            exact ⟨k + 1, by omega, by go_num, by show _ = _; rw [hget.out, hdrop.out, hx]; rfl, (hbel.alloc hbel.size _).trans (hb1.mono (by simp; have := hbel.size; omega))⟩
          case measure => simp [intOf]; omega
      · go_wp2
        go_ret
        have h := hget.out
        rw [List.drop_eq_nil_of_le (by omega)] at h
        exact ⟨ret_bool (by rw [h]; rfl), hbel⟩

def borneB (l : List Tol) (x : Str2) : Bool := l.any fun t => bearsB t x

set_option maxHeartbeats 1000000 in
theorem borne_any (ta : Option Addr) (ts : List Tol) (tcap : Nat) (xk xv : ByteArray) (w : World) (ht : AtL w ta ts) :
    Calls Tryz.prog 197 #[.slice ta ts.length tcap, .agg #[.string xk, .string xv]] w fun e w' => e = .returned (.bool (borneB ts (xk, xv))) ∧ Below w.heap.size w w' := by
  obtain ⟨htm, ht⟩ := ht
  go_enter Tryz.func197, Tryz.ntmps197
  go_wp2
  go_loopw [9] (fun i wr => ∃ k : Nat, k ≤ ts.length ∧ i = .int .i64 k ∧ Hid (borneB ts (xk, xv) = (ts.drop k).any fun t => bearsB t (xk, xv)) ∧ Below w.heap.size w wr ∧ w.heap.size < wr.heap.size ∧ wr.cell? ⟨w.heap.size, 0, none⟩ = some (.string xk) ∧ wr.cell? ⟨w.heap.size, 1, none⟩ = some (.string xv)) (fun i _ => ts.length - (intOf i).toNat)
  case atStart => exact ⟨0, Nat.zero_le _, rfl, rfl, (by (repeat (with_reducible first | exact Below.refl _ _ | refine Below.alloc ?_ ?_ _ | refine Below.setCell ?_ ?_ _ | refine Below.drew ?_ | refine below_drewN ?_ _)); all_goals (simp <;> omega)), by simp, by simp, by simp⟩
  case round =>
    obtain ⟨k, hk, rfl, hget, hbel, hsz, x0, x1⟩ := hrel
    by_cases hlt : k < ts.length
    · obtain ⟨b, off, ha, hb, d0, d1, d2⟩ := ht k hlt
      have c0 := cell_later hbel d0
      have c1 := cell_later hbel d1
      have c2 := cell_later hbel d2
      have hdrop := Lib.hid (any_drop (d := e3) (fun t => bearsB t (xk, xv)) hlt)
      clear d0 d1 d2 ht
      subst ha
      generalize hq : ts.getD k e3 = q at c0 c1 c2 hdrop
      obtain ⟨q0, q1, q2⟩ := q
      simp only at c0 c1 c2
      clear hq
      have hbw : ∀ o w1, Below (wr.alloc o).heap.size (wr.alloc o) w1 → Below wr.heap.size wr w1 := fun o w1 h => ((Below.refl _ _).alloc (Nat.le_refl _) o).trans (h.mono (by simp))
      cases hx : bearsB (q0, q1, q2) (xk, xv)
      · go_wp2_with (go_at_call 232; refine (bears_any _ _ _ _ _ _).mono ?_; rintro e w1 ⟨rfl, hb1⟩)
        go_roundw
        case rel =>
          have hb2 := hbw _ _ hb1
          exact ⟨k + 1, by omega, by go_num, by show _ = _; rw [hget.out, hdrop.out, hx]; rfl, hbel.trans (hb2.mono hbel.size), Nat.lt_of_lt_of_le hsz hb2.size, cell_later hb2 x0, cell_later hb2 x1⟩
        case measure => simp [intOf]; omega
      · go_wp2_with (go_at_call 232; refine (bears_any _ _ _ _ _ _).mono ?_; rintro e w1 ⟨rfl, hb1⟩)
        go_ret
        have hb2 := hbw _ _ hb1
        exact ⟨ret_bool (by rw [hget.out, hdrop.out, hx]; rfl), hbel.trans (hb2.mono hbel.size)⟩
    · go_wp2
      go_ret
      have h := hget.out
      rw [List.drop_eq_nil_of_le (by omega)] at h
      exact ⟨ret_bool (by rw [h]; rfl), hbel⟩

def allB (tols : List Tol) (ts : List Str2) : Bool := ts.all fun x => borneB tols x

set_option maxHeartbeats 1000000 in
theorem all_any (la : Option Addr) (tols : List Tol) (lcap : Nat) (ta : Option Addr) (ts : List Str2) (tcap : Nat) (w : World) (hl : AtL w la tols) (ht : At2 w ta ts) (hm : ts.length ≤ 9223372036854775807) :
    Calls Tryz.prog 161 #[.slice la tols.length lcap, .slice ta ts.length tcap] w fun e w' => e = .returned (.bool (allB tols ts)) ∧ Below w.heap.size w w' := by
  go_enter Tryz.func161, Tryz.ntmps161
  go_wp2
  go_loopw [9] (fun i wr => ∃ k : Nat, k ≤ ts.length ∧ i = .int .i64 k ∧ Hid (allB tols ts = (ts.drop k).all fun x => borneB tols x) ∧ Below w.heap.size w wr) (fun i _ => ts.length - (intOf i).toNat)
  case atStart => exact ⟨0, Nat.zero_le _, rfl, rfl, Below.refl _ _⟩
  case round =>
    obtain ⟨k, hk, rfl, hget, hbel⟩ := hrel
    by_cases hlt : k < ts.length
    · obtain ⟨b, off, ha, hb, d0, d1⟩ := ht k hlt
      have c0 := cell_later hbel d0
      have c1 := cell_later hbel d1
      have hl1 := hl.below hbel
      have hlA : ∀ o : Obj, AtL (wr.alloc o) la tols := fun o => hl1.below ((Below.refl _ _).alloc (Nat.le_refl _) o)
      have hdrop := Lib.hid (all_drop (d := e2) (fun x => borneB tols x) hlt)
      clear d0 d1 ht hl hl1
      subst ha
      generalize hq : ts.getD k e2 = q at c0 c1 hdrop
      obtain ⟨q0, q1⟩ := q
      simp only at c0 c1
      clear hq
      go_wp2_with (go_at_call 197; refine (borne_any _ _ _ _ _ _ (hlA _)).mono ?_; rintro e w1 ⟨rfl, hb1⟩)
      · go_ret
        have hx : borneB tols (q0, q1) = false := by simpa using ‹(!borneB tols (q0, q1)) = true›
        exact ⟨ret_bool (by rw [hget.out, hdrop.out, hx]; rfl), (hbel.alloc hbel.size _).trans (hb1.mono (by simp; have := hbel.size; omega))⟩
      · go_roundw
        case rel =>
          have hx : borneB tols (q0, q1) = true := by simpa using ‹(!borneB tols (q0, q1)) = false›
          exact ⟨k + 1, by omega, by go_num, by show _ = _; rw [hget.out, hdrop.out, hx]; rfl, (hbel.alloc hbel.size _).trans (hb1.mono (by simp; have := hbel.size; omega))⟩
        case measure => simp [intOf]; omega
    · go_wp2
      go_ret
      have h := hget.out
      rw [List.drop_eq_nil_of_le (by omega)] at h
      exact ⟨ret_bool (by rw [h]; rfl), hbel⟩
end Go.Proofs.YtaleceobkbgcnaaGreat
