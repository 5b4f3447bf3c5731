/-
  The contracts of package code: how a word is written. No conditions beyond what is written in each statement.
-/
import Derived.Test.YtaleceobkbgcnaaGreatObj1
import Derived.Deep.DeepFit
set_option linter.unusedSimpArgs false
set_option linter.unusedVariables false
namespace Go.Proofs.YtaleceobkbgcnaaGreat
open Go.RowKit

/-- Below B all is as it was, and whatever block holds no bytes is as it was. -/
structure Puts (B : Nat) (w w' : World) : Prop where
  below : Below B w w'
  kept : ∀ (k : Nat) (c : Array Value) (t : TypeId) (fr : Nat × Nat), w.heap[k]? = some (.cells c t fr) → t ≠ 5 → w'.heap[k]? = some (.cells c t fr)
theorem Puts.refl (B : Nat) (w : World) : Puts B w w := ⟨Below.refl _ _, fun _ _ _ _ h _ => h⟩
theorem Puts.trans {B : Nat} {a b c : World} (h : Puts B a b) (k : Puts B b c) : Puts B a c := ⟨h.below.trans k.below, fun i cc t fr e ht => k.kept i cc t fr (h.kept i cc t fr e ht) ht⟩
theorem Puts.alloc {B : Nat} {a w : World} (h : Puts B a w) (hB : B ≤ w.heap.size) (o : Obj) : Puts B a (w.alloc o) :=
  h.trans ⟨(Below.refl _ _).alloc hB o, fun k c t fr e _ => by
    have hk : k < w.heap.size := (Array.getElem?_eq_some_iff.1 e).1
    rw [Below.heap_alloc _ _ _ hk]; exact e⟩
theorem Puts.grown {B : Nat} {w w' : World} {v : Value} {n : Nat} {xs : List Value} (ho : w.ownsRow B 5 1 v n xs) (hg : w.grownBy w' v.ownBlock) (hB : B ≤ w.heap.size) : Puts B w w' := by
  have hrow : ∀ k, v.ownBlock = some k → B ≤ k ∧ ∃ cur, w.heap[k]? = some (.cells cur 5 (0, 0)) := by
    intro k hk
    rcases ho.2 with ⟨rfl, _⟩ | ⟨g, cap, cur, rfl, hg, hh, _⟩
    · simp [Value.ownBlock] at hk
    · simp [Value.ownBlock] at hk; subst hk; exact ⟨hg, cur, hh⟩
  refine ⟨(Below.refl _ _).grown hg hB fun k hk => (hrow k hk).1, fun k c t fr e ht => ?_⟩
  have hk : k < w.heap.size := (Array.getElem?_eq_some_iff.1 e).1
  rw [hg.block k hk (fun hh => ?_)]
  · exact e
  · obtain ⟨_, cur, hc⟩ := hrow k hh.symm
    rw [e] at hc
    simp at hc
    exact ht hc.2.1

/-- The bytes of a word, its high byte first. -/
def wbyteI (x : Nat) (k : Nat) : Int := (x : Int) / 2 ^ (56 - 8 * k) % 256
def wbyte (x : Nat) (k : Nat) : Value := .int .u8 (wbyteI x k)
def wbytes (x : Nat) : List Value := (List.range 8).map (wbyte x)

theorem wbytes_succ (x k : Nat) (h : k < 8) : (wbytes x).take (k + 1) = (wbytes x).take k ++ [wbyte x k] := by
  rw [List.take_succ_eq_append_getElem (by simpa [wbytes] using h)]; simp [wbytes]

def PutPost (B : Nat) (w : World) (n : Nat) (xs : List Value) (e : Ending) (w' : World) : Prop := ∃ v', e = .returned v' ∧ w'.ownsRow B 5 1 v' n xs ∧ Puts B w w'

theorem Tryz.info5 : (Tryz.prog.info? 5).map (fun i => (i.zero, i.size, i.bytes)) = some (some (.int .u8 0), 1, 1) := by kernel_rfl

set_option maxRecDepth 100000 in
set_option maxHeartbeats 1000000 in
theorem putWord_any (x : Nat) (v : Value) (n : Nat) (xs : List Value) (B : Nat) (w : World) (hx : Hid (x < 18446744073709551616)) (ho : w.ownsRow B 5 1 v n xs) (hB : B ≤ w.heap.size) (hn : n ≤ 1000000) :
    Calls Tryz.prog 223 #[v, .int .u64 x] w (PutPost B w (n + 8) (xs ++ wbytes x)) := by
  obtain ⟨i0, hi, hz0, hz1, hz2⟩ := info_parts Tryz.info5
  go_enter Tryz.func223, Tryz.ntmps223
  go_wp2
  go_loopw [0, 5] (fun u i wr => ∃ k : Nat, k ≤ 8 ∧ i = .int .i64 (56 - 8 * (k : Int)) ∧ wr.ownsRow B 5 1 u (n + k) (xs ++ (wbytes x).take k) ∧ Puts B w wr) (fun _ i _ => (intOf i + 8).toNat)
  case atStart => exact ⟨0, by omega, rfl, by simpa using ho, Puts.refl _ _⟩
  case round =>
    obtain ⟨k, hk, rfl, hown, hput⟩ := hrel
    have hBw : B ≤ wr.heap.size := Nat.le_trans hB hput.below.size
    by_cases h8 : k < 8
    · have s0 : (0 : Int) ≤ 56 - 8 * (k : Int) := by omega
      have s1 : 56 - 8 * (k : Int) ≤ 56 := by omega
      have hl : n + (k + 1) ≤ maxLen := by unfold maxLen; omega
      have hl2 : (n + (k + 1)) * 1 ≤ 140737488355328 := by omega
      have hB2 : B ≤ wr.heap.size + 1 := by have := hput.below.size; omega
      go_wp2_with (at_builtin; refine wpList_append_own _ rfl (.tmp 10) (.tmp 15) 28 rfl B 5 i0 (.int .u8 0) 1 1 Tryz.underlying28 hi hz0 hz1 hz2 rfl (by decide) _ (n + k) (xs ++ (wbytes x).take k) rfl (hown.alloc _) ⟨wr.heap.size, 0, none⟩ 1 1 [wbyte x k] rfl rfl (cell_one_new _ _ _) (by simp [wbyte, Value.oneCell']) hl hl2 (by simp; exact hB2) ?_; intro v' w1 hown' hgrow hnil)
      go_roundw
      case rel =>
        refine ⟨k + 1, by omega, by go_num, ?_, ?_⟩
        · rw [wbytes_succ x k h8, ← List.append_assoc]; exact hown'
        · exact hput.trans ((Puts.refl B wr).alloc (by omega) _ |>.trans (Puts.grown (hown.alloc _) hgrow (by simp; exact hB2)))
      case measure => simp [intOf]; omega
    · go_wp2
      go_ret
      obtain rfl : k = 8 := by omega
      exact ⟨_, rfl, hown, hput⟩
end Go.Proofs.YtaleceobkbgcnaaGreat
namespace Go.Proofs.YtaleceobkbgcnaaGreat
open Go.RowKit

theorem wbytes_len (x : Nat) : (wbytes x).length = 8 := by simp [wbytes]

set_option maxRecDepth 100000 in
theorem putNumI_any (x : Int) (v : Value) (n : Nat) (xs : List Value) (B : Nat) (w : World) (h0 : 0 ≤ x) (h1 : Hid (x < 9223372036854775808)) (ho : w.ownsRow B 5 1 v n xs) (hB : B ≤ w.heap.size) (hn : n ≤ 1000000) :
    Calls Tryz.prog 171 #[v, .int .i64 x] w (PutPost B w (n + 8) (xs ++ wbytes x.toNat)) := by
  obtain ⟨m, rfl⟩ := Int.eq_ofNat_of_zero_le h0
  have hm : Hid (m < 18446744073709551616) := by show m < _; have := h1.out; omega
  have hm1 : IntKind.u64.wrap (m : Int) = m := by rw [IntWalk.u64_in _ (by have := hm.out; omega)]
  clear h1
  go_enter Tryz.func171, Tryz.ntmps171
  go_wp2_with fail
  go_fit (putWord_any m v n xs B w hm ho hB hn)
  rintro e w' ⟨v', rfl, ho', hp⟩
  go_wp2
  go_ret
  exact ⟨v', rfl, ho', hp⟩
set_option maxRecDepth 100000 in
theorem putNumL_any (x : Int) (v : Value) (n : Nat) (xs : List Value) (B : Nat) (w : World) (h0 : 0 ≤ x) (h1 : Hid (x < 9223372036854775808)) (ho : w.ownsRow B 5 1 v n xs) (hB : B ≤ w.heap.size) (hn : n ≤ 1000000) :
    Calls Tryz.prog 173 #[v, .int .i64 x] w (PutPost B w (n + 8) (xs ++ wbytes x.toNat)) := by
  obtain ⟨m, rfl⟩ := Int.eq_ofNat_of_zero_le h0
  have hm : Hid (m < 18446744073709551616) := by show m < _; have := h1.out; omega
  have hm1 : IntKind.u64.wrap (m : Int) = m := by rw [IntWalk.u64_in _ (by have := hm.out; omega)]
  clear h1
  go_enter Tryz.func173, Tryz.ntmps173
  go_wp2_with fail
  go_fit (putWord_any m v n xs B w hm ho hB hn)
  rintro e w' ⟨v', rfl, ho', hp⟩
  go_wp2
  go_ret
  exact ⟨v', rfl, ho', hp⟩

/-- The digit of a name's letter; the number of a name. -/
def digitN (c : Nat) : Nat := if 97 ≤ c ∧ c ≤ 122 then c - 96 else if 48 ≤ c ∧ c ≤ 57 then c - 21 else if c = 45 then 37 else 0
def numF (a : Nat) (c : UInt8) : Nat := a * 37 + digitN c.toNat
def numL (l : List UInt8) : Nat := l.foldl numF 0
theorem digitN_le (c : Nat) : digitN c ≤ 37 := by unfold digitN; split <;> (try split) <;> (try split) <;> omega
theorem numL_snoc (s : ByteArray) (k : Nat) (h : k < s.size) : numL (s.data.toList.take (k + 1)) = numL (s.data.toList.take k) * 37 + digitN s[k].toNat := by
  unfold numL
  rw [List.take_succ_eq_append_getElem (by simpa using h), List.foldl_append]
  rfl
theorem foldl_le (l : List UInt8) : ∀ a, l.foldl numF a + 2 ≤ (a + 2) * 37 ^ l.length := by
  induction l with
  | nil => intro a; simp
  | cons c r ih =>
    intro a
    have h1 := ih (numF a c)
    have h2 : numF a c + 2 ≤ (a + 2) * 37 := by unfold numF; have := digitN_le c.toNat; omega
    rw [List.foldl_cons, List.length_cons, Nat.pow_succ, Nat.mul_comm (37 ^ r.length) 37, ← Nat.mul_assoc]
    exact Nat.le_trans h1 (Nat.mul_le_mul_right _ h2)
theorem numL_le (l : List UInt8) (h : l.length ≤ 12) : numL l < 13165904011680070562 := by
  have h1 := foldl_le l 0
  have h2 : 37 ^ l.length ≤ 37 ^ 12 := Nat.pow_le_pow_right (by decide) h
  have h3 : (37 : Nat) ^ 12 = 6582952005840035281 := by decide
  unfold numL
  omega

set_option maxHeartbeats 400000 in
theorem digit_any (c : Nat) (w : World) (hc : nameByte c = true) :
    Calls Tryz.prog 224 #[.int .u8 c] w fun e w' => e = .returned (.int .u64 (digitN c : Int)) ∧ w' = w := by
  have HC := Lib.hid (of_decide_eq_true hc)
  clear hc
  go_enter Tryz.func224, Tryz.ntmps224
  go_wp2
  all_goals
    go_ret
    refine ⟨ret_int ?_, rfl⟩
    go_light
    have h := HC.out
    try simp only [beq_eq_false_iff_ne, beq_iff_eq, ne_eq] at *
    unfold digitN
    (repeat' split) <;> omega

set_option maxRecDepth 100000 in
set_option maxHeartbeats 1000000 in
theorem putName_any (s : ByteArray) (v : Value) (n : Nat) (xs : List Value) (B : Nat) (w : World) (hs : s.size ≤ 12) (ha : allName s.data.toList = true) (ho : w.ownsRow B 5 1 v n xs) (hB : B ≤ w.heap.size) (hn : n ≤ 1000000) :
    Calls Tryz.prog 172 #[v, .string s] w (PutPost B w (n + 8) (xs ++ wbytes (numL s.data.toList))) := by
  have hall : ∀ k, (h : k < s.size) → nameByte s[k].toNat = true := fun k h => by
    have := List.all_eq_true.1 ha s[k] (by simp [ByteArray.getElem_eq_getElem_data])
    simpa using this
  clear ha
  go_enter Tryz.func172, Tryz.ntmps172
  go_wp2
  go_loop [5, 9] (fun t i => ∃ k : Nat, k ≤ s.size ∧ i = .int .i64 k ∧ t = .int .u64 (numL (s.data.toList.take k) : Int)) (fun _ i => s.size - (intOf i).toNat)
  case atStart => exact ⟨0, Nat.zero_le _, rfl, rfl⟩
  case round =>
    obtain ⟨k, hk, rfl, rfl⟩ := hrel
    by_cases hlt : k < s.size
    · have hsn := Lib.hid (numL_snoc s k hlt)
      have hd := digitN_le s[k].toNat
      have hle := Lib.hid (numL_le (s.data.toList.take (k + 1)) (by simp; omega))
      have hc := hall k hlt
      generalize hm : numL (s.data.toList.take k) = m at hsn
      have H1 : Hid (m * 37 + digitN s[k].toNat < 13165904011680070562) := by show _ < _; rw [← hsn.out]; exact hle.out
      have hb0 : 0 ≤ (m : Int) * 37 ∧ (m : Int) * 37 ≤ 13165904011680070562 := by have := H1.out; omega
      have hb1 : 0 ≤ (m : Int) * 37 + (digitN s[k].toNat : Int) ∧ (m : Int) * 37 + (digitN s[k].toNat : Int) ≤ 13165904011680070562 := by have := H1.out; omega
      obtain ⟨b1, b2⟩ := hb0
      obtain ⟨b3, b4⟩ := hb1
      clear hle hall hm
      go_wp2_with (go_at_call 224; refine (digit_any _ _ hc).mono ?_; rintro e w' ⟨rfl, rfl⟩)
      go_round
      case rel => exact ⟨k + 1, by omega, by go_num, by rw [hsn.out]; go_num⟩
      case measure => simp [intOf]; omega
    · have hk2 : s.data.toList.take k = s.data.toList := List.take_of_length_le (by simp; omega)
      rw [hk2]
      have hle := numL_le s.data.toList (by simpa using hs)
      generalize hgm : numL s.data.toList = m at hle
      have HG := Lib.hid hgm
      clear hgm
      have hm : Hid (m < 18446744073709551616) := by show _ < _; omega
      clear hle hk2 hall
      go_wp2_with fail
      refine (putWord_any m v n xs B w hm ho hB hn).mono ?_
      rintro e w' ⟨v', rfl, ho', hp⟩
      go_wp2
      go_ret
      exact ⟨v', rfl, by rw [HG.out]; exact ho', hp⟩
end Go.Proofs.YtaleceobkbgcnaaGreat
namespace Go.Proofs.YtaleceobkbgcnaaGreat
open Go.RowKit

theorem PutPost.then {B : Nat} {w w1 : World} {n : Nat} {xs : List Value} {e : Ending} {w' : World} (h : PutPost B w1 n xs e w') (hp : Puts B w w1) : PutPost B w n xs e w' := by
  obtain ⟨v', rfl, ho, h2⟩ := h
  exact ⟨v', rfl, ho, hp.trans h2⟩
theorem Puts.cell {B : Nat} {w w' : World} (h : Puts B w w') {k : Nat} {c : Array Value} {t : TypeId} (hk : w.heap[k]? = some (.cells c t)) (ht : t ≠ 5) (o : Nat) : w'.cell? ⟨k, o, none⟩ = c[o]? := by
  have h1 := h.kept k c t (0, 0) hk ht
  simp [World.cell?, h1]
theorem heap_alloc_self (w : World) (o : Obj) : (w.alloc o).heap[w.heap.size]? = some o := by
  show (w.heap.push o)[w.heap.size]? = some o
  simp

def fbytes (b : Bool) : List Value := wbytes (if b then 1 else 0)
set_option maxRecDepth 100000 in
theorem putFlag_any (b : Bool) (v : Value) (n : Nat) (xs : List Value) (B : Nat) (w : World) (ho : w.ownsRow B 5 1 v n xs) (hB : B ≤ w.heap.size) (hn : n ≤ 1000000) :
    Calls Tryz.prog 226 #[v, .bool b] w (PutPost B w (n + 8) (xs ++ fbytes b)) := by
  have h1 := putNumI_any 1 v n xs B w (by decide) (by show (1 : Int) < _; decide) ho hB hn
  have h0 := putNumI_any 0 v n xs B w (by decide) (by show (0 : Int) < _; decide) ho hB hn
  have H := Lib.hid (And.intro h0 h1)
  clear h0 h1
  cases b
  · go_enter Tryz.func226, Tryz.ntmps226
    go_wp2_with fail
    refine H.out.1.mono ?_
    rintro e w' ⟨v', rfl, ho', hp⟩
    go_wp2
    go_ret
    exact ⟨v', rfl, ho', hp⟩
  · go_enter Tryz.func226, Tryz.ntmps226
    go_wp2_with fail
    refine H.out.2.mono ?_
    rintro e w' ⟨v', rfl, ho', hp⟩
    go_wp2
    go_ret
    exact ⟨v', rfl, ho', hp⟩

/-- A name that is a name, or is empty. -/
def okName (s : ByteArray) : Prop := s.size ≤ 12 ∧ allName s.data.toList = true
def nbytes (s : ByteArray) : List Value := wbytes (numL s.data.toList)

set_option maxRecDepth 100000 in
set_option maxHeartbeats 1000000 in
theorem putPair_any (a b : ByteArray) (v : Value) (n : Nat) (xs : List Value) (B : Nat) (w : World) (ha : okName a) (hb : okName b) (ho : w.ownsRow B 5 1 v n xs) (hB : B ≤ w.heap.size) (hn : n + 8 ≤ 1000000) :
    Calls Tryz.prog 177 #[v, .agg #[.string a, .string b]] w (PutPost B w (n + 16) (xs ++ (nbytes a ++ nbytes b))) := by
  go_enter Tryz.func177, Tryz.ntmps177
  go_wp2_with fail
  refine (putName_any a v n xs B _ ha.1 ha.2 (ho.alloc _) (by simp; omega) (by omega)).mono ?_
  rintro e w1 ⟨v1, rfl, ho1, hp1⟩
  have hx1 := fun o => hp1.cell (heap_alloc_self w _) (by decide) o
  have hB1 := hp1.below.size
  simp at hB1
  have hp := ((Puts.refl B w).alloc hB _).trans hp1
  clear hp1
  go_wp2_with fail
  refine (putName_any b v1 (n + 8) _ B w1 hb.1 hb.2 ho1 (by omega) (by omega)).mono ?_
  rintro e w2 ⟨v2, rfl, ho2, hp2⟩
  go_wp2
  go_ret
  refine ⟨v2, rfl, ?_, hp.trans hp2⟩
  rw [← List.append_assoc]
  exact ho2

/-- A list in bytes: how many, then each. -/
def lbytes {α : Type} (enc : α → List Value) (l : List α) : List Value := wbytes l.length ++ l.flatMap enc
theorem flatMap_succ {α : Type} {l : List α} {k : Nat} {d : α} (enc : α → List Value) (h : k < l.length) : (l.take (k + 1)).flatMap enc = (l.take k).flatMap enc ++ enc (l.getD k d) := by
  rw [List.take_succ_eq_append_getElem h, List.flatMap_append, List.getD_eq_getElem?_getD, List.getElem?_eq_getElem h]; simp
theorem getD_mem {α : Type} {l : List α} {k : Nat} {d : α} (h : k < l.length) : l.getD k d ∈ l := by
  rw [List.getD_eq_getElem?_getD, List.getElem?_eq_getElem h]; exact List.getElem_mem h
theorem lbytes_split {α : Type} {l : List α} {k : Nat} {d : α} (enc : α → List Value) (h : k < l.length) : lbytes enc l = (wbytes l.length ++ (l.take k).flatMap enc) ++ enc (l.getD k d) ++ (l.drop (k + 1)).flatMap enc := by
  unfold lbytes
  rw [List.append_assoc, List.append_assoc, ← List.append_assoc ((l.take k).flatMap enc), ← flatMap_succ enc h, ← List.flatMap_append, List.take_append_drop]
def ibytes (x : Int) : List Value := wbytes x.toNat
def okInt (x : Int) : Prop := 0 ≤ x ∧ x < 9223372036854775808

set_option maxRecDepth 100000 in
set_option maxHeartbeats 1000000 in
theorem putListI_any (a : Option Addr) (l : List Int) (cap : Nat) (v : Value) (n : Nat) (xs : List Value) (w0 w : World) (hl : AtI w0 a l) (hm : l.length ≤ 1000000) (hok : ∀ x ∈ l, okInt x) (h0 : Below w0.heap.size w0 w)
    (ho : w.ownsRow w0.heap.size 5 1 v n xs) (hn : n + (lbytes ibytes l).length ≤ 1000000) :
    Calls Tryz.prog 175 #[v, .slice a l.length cap, .func (.func 171) #[] #[]] w (PutPost w0.heap.size w (n + (lbytes ibytes l).length) (xs ++ lbytes ibytes l)) := by
  have hB := h0.size
  have HN := Lib.hid hn
  have hn1 : n ≤ 1000000 := by omega
  clear hn
  go_enter Tryz.func175, Tryz.ntmps175
  go_wp2_with fail
  refine (putNumI_any (l.length : Int) v n xs w0.heap.size w (by omega) (by show _ < (9223372036854775808 : Int); omega) ho hB hn1).mono ?_
  rintro e w1 ⟨v1, rfl, ho1, hp1⟩
  rw [Int.toNat_natCast] at ho1
  go_wp2
  go_loopw [0, 15] (fun u i wr => ∃ k : Nat, k ≤ l.length ∧ i = .int .i64 k ∧ wr.ownsRow w0.heap.size 5 1 u (n + (wbytes l.length ++ (l.take k).flatMap ibytes).length) (xs ++ (wbytes l.length ++ (l.take k).flatMap ibytes)) ∧ Puts w0.heap.size w wr) (fun _ i _ => l.length - (intOf i).toNat)
  case atStart => exact ⟨0, Nat.zero_le _, rfl, by simpa [wbytes_len] using ho1, hp1⟩
  case round =>
    obtain ⟨k, hk, rfl, hown, hput⟩ := hrel
    have hbel := h0.trans hput.below
    by_cases hlt : k < l.length
    · have hsu := Lib.hid (flatMap_succ (d := 0) ibytes hlt)
      have hkok := hok (l.getD k 0) (getD_mem hlt)
      have hlen : Hid (n + ((wbytes l.length ++ (l.take k).flatMap ibytes) ++ ibytes (l.getD k 0)).length ≤ 1000000) := by
        show _ ≤ _
        have h := HN.out
        rw [lbytes_split (d := 0) ibytes hlt] at h
        simp only [List.length_append] at h ⊢
        omega
      obtain ⟨b, off, ha, hb, d0⟩ := hl.2 k hlt; have c0 := cell_later hbel d0; clear d0 hl; subst ha
      clear hok
      generalize hq : l.getD k 0 = q at *
      clear hq
      go_wp2_with fail; refine (putNumI_any _ _ _ _ _ _ hkok.1 hkok.2 hown hbel.size (by have := hlen.out; simp only [List.length_append] at this ⊢; omega)).mono ?_
      rintro e w2 ⟨v2, rfl, ho2, hp2⟩
      go_wp2
      go_roundw
      case rel =>
        refine ⟨k + 1, by omega, by go_num, ?_, hput.trans (hp2)⟩
        rw [hsu.out, ← List.append_assoc (wbytes l.length), ← List.append_assoc xs, List.length_append (bs := ibytes _), ← Nat.add_assoc]
        exact ho2
      case measure => simp [intOf]; omega
    · go_wp2
      go_ret
      have hk2 : l.take k = l := List.take_of_length_le (by omega)
      rw [hk2] at hown
      exact ⟨_, rfl, hown, hput⟩

set_option maxRecDepth 100000 in
set_option maxHeartbeats 1000000 in
theorem putListS_any (a : Option Addr) (l : List ByteArray) (cap : Nat) (v : Value) (n : Nat) (xs : List Value) (w0 w : World) (hl : At1 w0 a l) (hm : l.length ≤ 1000000) (hok : ∀ x ∈ l, okName x) (h0 : Below w0.heap.size w0 w)
    (ho : w.ownsRow w0.heap.size 5 1 v n xs) (hn : n + (lbytes nbytes l).length ≤ 1000000) :
    Calls Tryz.prog 225 #[v, .slice a l.length cap, .func (.func 172) #[] #[]] w (PutPost w0.heap.size w (n + (lbytes nbytes l).length) (xs ++ lbytes nbytes l)) := by
  have hB := h0.size
  have HN := Lib.hid hn
  have hn1 : n ≤ 1000000 := by omega
  clear hn
  go_enter Tryz.func225, Tryz.ntmps225
  go_wp2_with fail
  refine (putNumI_any (l.length : Int) v n xs w0.heap.size w (by omega) (by show _ < (9223372036854775808 : Int); omega) ho hB hn1).mono ?_
  rintro e w1 ⟨v1, rfl, ho1, hp1⟩
  rw [Int.toNat_natCast] at ho1
  go_wp2
  go_loopw [0, 15] (fun u i wr => ∃ k : Nat, k ≤ l.length ∧ i = .int .i64 k ∧ wr.ownsRow w0.heap.size 5 1 u (n + (wbytes l.length ++ (l.take k).flatMap nbytes).length) (xs ++ (wbytes l.length ++ (l.take k).flatMap nbytes)) ∧ Puts w0.heap.size w wr) (fun _ i _ => l.length - (intOf i).toNat)
  case atStart => exact ⟨0, Nat.zero_le _, rfl, by simpa [wbytes_len] using ho1, hp1⟩
  case round =>
    obtain ⟨k, hk, rfl, hown, hput⟩ := hrel
    have hbel := h0.trans hput.below
    by_cases hlt : k < l.length
    · have hsu := Lib.hid (flatMap_succ (d := ByteArray.empty) nbytes hlt)
      have hkok := hok (l.getD k ByteArray.empty) (getD_mem hlt)
      have hlen : Hid (n + ((wbytes l.length ++ (l.take k).flatMap nbytes) ++ nbytes (l.getD k ByteArray.empty)).length ≤ 1000000) := by
        show _ ≤ _
        have h := HN.out
        rw [lbytes_split (d := ByteArray.empty) nbytes hlt] at h
        simp only [List.length_append] at h ⊢
        omega
      obtain ⟨b, off, ha, hb, d0⟩ := hl.2 k hlt; have c0 := cell_later hbel d0; clear d0 hl; subst ha
      clear hok
      generalize hq : l.getD k ByteArray.empty = q at *
      clear hq
      go_wp2_with fail; refine (putName_any _ _ _ _ _ _ hkok.1 hkok.2 hown hbel.size (by have := hlen.out; simp only [List.length_append] at this ⊢; omega)).mono ?_
      rintro e w2 ⟨v2, rfl, ho2, hp2⟩
      go_wp2
      go_roundw
      case rel =>
        refine ⟨k + 1, by omega, by go_num, ?_, hput.trans (hp2)⟩
        rw [hsu.out, ← List.append_assoc (wbytes l.length), ← List.append_assoc xs, List.length_append (bs := nbytes _), ← Nat.add_assoc]
        exact ho2
      case measure => simp [intOf]; omega
    · go_wp2
      go_ret
      have hk2 : l.take k = l := List.take_of_length_le (by omega)
      rw [hk2] at hown
      exact ⟨_, rfl, hown, hput⟩

def pbytes (x : Str2) : List Value := nbytes x.1 ++ nbytes x.2
def okPair (x : Str2) : Prop := okName x.1 ∧ okName x.2
theorem pbytes_len (x : Str2) : (pbytes x).length = 16 := by simp [pbytes, nbytes, wbytes_len]

set_option maxRecDepth 100000 in
set_option maxHeartbeats 1000000 in
theorem putListP_any (a : Option Addr) (l : List Str2) (cap : Nat) (v : Value) (n : Nat) (xs : List Value) (w0 w : World) (hl : At2 w0 a l) (hm : l.length ≤ 1000000) (hok : ∀ x ∈ l, okPair x) (h0 : Below w0.heap.size w0 w)
    (ho : w.ownsRow w0.heap.size 5 1 v n xs) (hn : n + (lbytes pbytes l).length ≤ 1000000) :
    Calls Tryz.prog 176 #[v, .slice a l.length cap, .func (.func 177) #[] #[]] w (PutPost w0.heap.size w (n + (lbytes pbytes l).length) (xs ++ lbytes pbytes l)) := by
  have hB := h0.size
  have HN := Lib.hid hn
  have hn1 : n ≤ 1000000 := by omega
  clear hn
  go_enter Tryz.func176, Tryz.ntmps176
  go_wp2_with fail
  refine (putNumI_any (l.length : Int) v n xs w0.heap.size w (by omega) (by show _ < (9223372036854775808 : Int); omega) ho hB hn1).mono ?_
  rintro e w1 ⟨v1, rfl, ho1, hp1⟩
  rw [Int.toNat_natCast] at ho1
  go_wp2
  go_loopw [0, 15] (fun u i wr => ∃ k : Nat, k ≤ l.length ∧ i = .int .i64 k ∧ wr.ownsRow w0.heap.size 5 1 u (n + (wbytes l.length ++ (l.take k).flatMap pbytes).length) (xs ++ (wbytes l.length ++ (l.take k).flatMap pbytes)) ∧ Puts w0.heap.size w wr) (fun _ i _ => l.length - (intOf i).toNat)
  case atStart => exact ⟨0, Nat.zero_le _, rfl, by simpa [wbytes_len] using ho1, hp1⟩
  case round =>
    obtain ⟨k, hk, rfl, hown, hput⟩ := hrel
    have hbel := h0.trans hput.below
    by_cases hlt : k < l.length
    · have hsu := Lib.hid (flatMap_succ (d := e2) pbytes hlt)
      have hkok := hok (l.getD k e2) (getD_mem hlt)
      have hlen : Hid (n + ((wbytes l.length ++ (l.take k).flatMap pbytes) ++ pbytes (l.getD k e2)).length ≤ 1000000) := by
        show _ ≤ _
        have h := HN.out
        rw [lbytes_split (d := e2) pbytes hlt] at h
        simp only [List.length_append] at h ⊢
        omega
      obtain ⟨b, off, ha, hb, d0, d1⟩ := hl k hlt; have c0 := cell_later hbel d0; have c1 := cell_later hbel d1; clear d0 d1 hl; subst ha
      clear hok
      generalize hq : l.getD k e2 = q at *
      clear hq
      obtain ⟨q0, q1⟩ := q; simp only at c0 c1; go_wp2_with fail; refine (putPair_any _ _ _ _ _ _ _ hkok.1 hkok.2 (hown.alloc _) (by simp; have := hbel.size; omega) (by have := hlen.out; simp only [List.length_append, pbytes_len] at this ⊢; omega)).mono ?_
      rintro e w2 ⟨v2, rfl, ho2, hp2⟩
      go_wp2
      go_roundw
      case rel =>
        refine ⟨k + 1, by omega, by go_num, ?_, hput.trans (((Puts.refl _ wr).alloc hbel.size _).trans hp2)⟩
        rw [hsu.out, ← List.append_assoc (wbytes l.length), ← List.append_assoc xs, List.length_append (bs := pbytes _), ← Nat.add_assoc]
        exact ho2
      case measure => simp [intOf]; omega
    · go_wp2
      go_ret
      have hk2 : l.take k = l := List.take_of_length_le (by omega)
      rw [hk2] at hown
      exact ⟨_, rfl, hown, hput⟩

def tbytes (t : Tol) : List Value := (nbytes t.1 ++ nbytes t.2.1) ++ fbytes t.2.2
def okTol (t : Tol) : Prop := okName t.1 ∧ okName t.2.1
theorem tbytes_len (x : Tol) : (tbytes x).length = 24 := by simp [tbytes, nbytes, fbytes, wbytes_len]

set_option maxRecDepth 100000 in
set_option maxHeartbeats 1000000 in
theorem putToler_any (a b : ByteArray) (c : Bool) (v : Value) (n : Nat) (xs : List Value) (B : Nat) (w : World) (ha : okName a) (hb : okName b) (ho : w.ownsRow B 5 1 v n xs) (hB : B ≤ w.heap.size) (hn : n + 16 ≤ 1000000) :
    Calls Tryz.prog 181 #[v, .agg #[.string a, .string b, .bool c]] w (PutPost B w (n + 24) (xs ++ ((nbytes a ++ nbytes b) ++ fbytes c))) := by
  go_enter Tryz.func181, Tryz.ntmps181
  go_wp2_with fail
  refine (putName_any a v n xs B _ ha.1 ha.2 (ho.alloc _) (by simp; omega) (by omega)).mono ?_
  rintro e w1 ⟨v1, rfl, ho1, hp1⟩
  have hx1 := fun o => hp1.cell (heap_alloc_self w _) (by decide) o
  have hB1 := hp1.below.size
  simp at hB1
  go_wp2_with fail
  refine (putName_any b v1 (n + 8) _ B w1 hb.1 hb.2 ho1 (by omega) (by omega)).mono ?_
  rintro e w2 ⟨v2, rfl, ho2, hp2⟩
  have hx2 := fun o => (hp1.trans hp2).cell (heap_alloc_self w _) (by decide) o
  have hB2 := hp2.below.size
  have hp := (((Puts.refl B w).alloc hB _).trans hp1).trans hp2
  clear hp1 hp2 hx1
  go_wp2_with fail
  refine (putFlag_any c v2 (n + 8 + 8) _ B w2 ho2 (by omega) (by omega)).mono ?_
  rintro e w3 ⟨v3, rfl, ho3, hp3⟩
  go_wp2
  go_ret
  refine ⟨v3, rfl, ?_, hp.trans hp3⟩
  rw [← List.append_assoc, ← List.append_assoc]
  exact ho3

set_option maxRecDepth 100000 in
set_option maxHeartbeats 1000000 in
theorem putListL_any (a : Option Addr) (l : List Tol) (cap : Nat) (v : Value) (n : Nat) (xs : List Value) (w0 w : World) (hl : AtL w0 a l) (hm : l.length ≤ 1000000) (hok : ∀ x ∈ l, okTol x) (h0 : Below w0.heap.size w0 w)
    (ho : w.ownsRow w0.heap.size 5 1 v n xs) (hn : n + (lbytes tbytes l).length ≤ 1000000) :
    Calls Tryz.prog 180 #[v, .slice a l.length cap, .func (.func 181) #[] #[]] w (PutPost w0.heap.size w (n + (lbytes tbytes l).length) (xs ++ lbytes tbytes l)) := by
  have hB := h0.size
  have HN := Lib.hid hn
  have hn1 : n ≤ 1000000 := by omega
  clear hn
  go_enter Tryz.func180, Tryz.ntmps180
  go_wp2_with fail
  refine (putNumI_any (l.length : Int) v n xs w0.heap.size w (by omega) (by show _ < (9223372036854775808 : Int); omega) ho hB hn1).mono ?_
  rintro e w1 ⟨v1, rfl, ho1, hp1⟩
  rw [Int.toNat_natCast] at ho1
  go_wp2
  go_loopw [0, 15] (fun u i wr => ∃ k : Nat, k ≤ l.length ∧ i = .int .i64 k ∧ wr.ownsRow w0.heap.size 5 1 u (n + (wbytes l.length ++ (l.take k).flatMap tbytes).length) (xs ++ (wbytes l.length ++ (l.take k).flatMap tbytes)) ∧ Puts w0.heap.size w wr) (fun _ i _ => l.length - (intOf i).toNat)
  case atStart => exact ⟨0, Nat.zero_le _, rfl, by simpa [wbytes_len] using ho1, hp1⟩
  case round =>
    obtain ⟨k, hk, rfl, hown, hput⟩ := hrel
    have hbel := h0.trans hput.below
    by_cases hlt : k < l.length
    · have hsu := Lib.hid (flatMap_succ (d := e3) tbytes hlt)
      have hkok := hok (l.getD k e3) (getD_mem hlt)
      have hlen : Hid (n + ((wbytes l.length ++ (l.take k).flatMap tbytes) ++ tbytes (l.getD k e3)).length ≤ 1000000) := by
        show _ ≤ _
        have h := HN.out
        rw [lbytes_split (d := e3) tbytes hlt] at h
        simp only [List.length_append] at h ⊢
        omega
      obtain ⟨b, off, ha, hb, d0, d1, d2⟩ := hl.2 k hlt; have c0 := cell_later hbel d0; have c1 := cell_later hbel d1; have c2 := cell_later hbel d2; clear d0 d1 d2 hl; subst ha
      clear hok
      generalize hq : l.getD k e3 = q at *
      clear hq
      obtain ⟨q0, q1, q2⟩ := q; simp only at c0 c1 c2; go_wp2_with fail; refine (putToler_any _ _ _ _ _ _ _ _ hkok.1 hkok.2 (hown.alloc _) (by simp; have := hbel.size; omega) (by have := hlen.out; simp only [List.length_append, tbytes_len] at this ⊢; omega)).mono ?_
      rintro e w2 ⟨v2, rfl, ho2, hp2⟩
      go_wp2
      go_roundw
      case rel =>
        refine ⟨k + 1, by omega, by go_num, ?_, hput.trans (((Puts.refl _ wr).alloc hbel.size _).trans hp2)⟩
        rw [hsu.out, ← List.append_assoc (wbytes l.length), ← List.append_assoc xs, List.length_append (bs := tbytes _), ← Nat.add_assoc]
        exact ho2
      case measure => simp [intOf]; omega
    · go_wp2
      go_ret
      have hk2 : l.take k = l := List.take_of_length_le (by omega)
      rw [hk2] at hown
      exact ⟨_, rfl, hown, hput⟩
end Go.Proofs.YtaleceobkbgcnaaGreat
