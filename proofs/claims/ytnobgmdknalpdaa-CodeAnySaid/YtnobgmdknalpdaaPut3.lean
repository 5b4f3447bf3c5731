/-
  The contracts of package code: how amounts, labels, taints, tolerations and terms are written. No conditions beyond what is written in each statement.
-/
import Derived.Test.YtnobgmdknalpdaaPut2
set_option linter.unusedSimpArgs false
set_option linter.unusedVariables false
namespace Go.Proofs.Ytnobgmdknalpdaa
open Go.RowKit

theorem PutPost.then {B : Nat} {w w1 : World} {n : Nat} {xs : List Value} {e : Ending} {w' : World} (h : PutPost B w1 n xs e w') (hp : Puts B w w1) : PutPost B w n xs e w' := by
  obtain ⟨v', rfl, ho, h2⟩ := h
  exact ⟨v', rfl, ho, hp.trans h2⟩
theorem Puts.cell {B : Nat} {w w' : World} (h : Puts B w w') {k : Nat} {c : Array Value} {t : TypeId} (hk : w.heap[k]? = some (.cells c t)) (ht : t ≠ 5) (o : Nat) : w'.cell? ⟨k, o, none⟩ = c[o]? := by
  have h1 := h.kept k c t (0, 0) hk ht
  simp [World.cell?, h1]
theorem heap_alloc_self (w : World) (o : Obj) : (w.alloc o).heap[w.heap.size]? = some o := by
  show (w.heap.push o)[w.heap.size]? = some o
  simp

def fbytes (b : Bool) : List Value := wbytes (if b then 1 else 0)
set_option maxRecDepth 100000 in
theorem putFlag_any (b : Bool) (v : Value) (n : Nat) (xs : List Value) (B : Nat) (w : World) (ho : w.ownsRow B 5 1 v n xs) (hB : B ≤ w.heap.size) (hn : n ≤ 1000000) :
    Calls Try.prog 89 #[v, .bool b] w (PutPost B w (n + 8) (xs ++ fbytes b)) := by
  have h1 := putNumI_any 1 v n xs B w (by decide) (by show (1 : Int) < _; decide) ho hB hn
  have h0 := putNumI_any 0 v n xs B w (by decide) (by show (0 : Int) < _; decide) ho hB hn
  have H := Lib.hid (And.intro h0 h1)
  clear h0 h1
  cases b
  · go_enter Try.func89, Try.ntmps89
    go_wp2_with fail
    refine H.out.1.mono ?_
    rintro e w' ⟨v', rfl, ho', hp⟩
    go_wp2
    go_ret
    exact ⟨v', rfl, ho', hp⟩
  · go_enter Try.func89, Try.ntmps89
    go_wp2_with fail
    refine H.out.2.mono ?_
    rintro e w' ⟨v', rfl, ho', hp⟩
    go_wp2
    go_ret
    exact ⟨v', rfl, ho', hp⟩

/-- A name that is a name, or is empty. -/
def okName (s : ByteArray) : Prop := s.size ≤ 12 ∧ allName s.data.toList = true
def nbytes (s : ByteArray) : List Value := wbytes (numL s.data.toList)

set_option maxRecDepth 100000 in
set_option maxHeartbeats 1000000 in
theorem putPair_any (a b : ByteArray) (v : Value) (n : Nat) (xs : List Value) (B : Nat) (w : World) (ha : okName a) (hb : okName b) (ho : w.ownsRow B 5 1 v n xs) (hB : B ≤ w.heap.size) (hn : n + 8 ≤ 1000000) :
    Calls Try.prog 44 #[v, .agg #[.string a, .string b]] w (PutPost B w (n + 16) (xs ++ (nbytes a ++ nbytes b))) := by
  go_enter Try.func44, Try.ntmps44
  go_wp2_with fail
  refine (putName_any a v n xs B _ ha.1 ha.2 (ho.alloc _) (by simp; omega) (by omega)).mono ?_
  rintro e w1 ⟨v1, rfl, ho1, hp1⟩
  have hx1 := fun o => hp1.cell (heap_alloc_self w _) (by decide) o
  have hB1 := hp1.below.size
  simp at hB1
  have hp := ((Puts.refl B w).alloc hB _).trans hp1
  clear hp1
  go_wp2_with fail
  refine (putName_any b v1 (n + 8) _ B w1 hb.1 hb.2 ho1 (by omega) (by omega)).mono ?_
  rintro e w2 ⟨v2, rfl, ho2, hp2⟩
  go_wp2
  go_ret
  refine ⟨v2, rfl, ?_, hp.trans hp2⟩
  rw [← List.append_assoc]
  exact ho2

/-- A list in bytes: how many, then each. -/
def lbytes {α : Type} (enc : α → List Value) (l : List α) : List Value := wbytes l.length ++ l.flatMap enc
theorem flatMap_succ {α : Type} {l : List α} {k : Nat} {d : α} (enc : α → List Value) (h : k < l.length) : (l.take (k + 1)).flatMap enc = (l.take k).flatMap enc ++ enc (l.getD k d) := by
  rw [List.take_succ_eq_append_getElem h, List.flatMap_append, List.getD_eq_getElem?_getD, List.getElem?_eq_getElem h]; simp
theorem getD_mem {α : Type} {l : List α} {k : Nat} {d : α} (h : k < l.length) : l.getD k d ∈ l := by
  rw [List.getD_eq_getElem?_getD, List.getElem?_eq_getElem h]; exact List.getElem_mem h
theorem lbytes_split {α : Type} {l : List α} {k : Nat} {d : α} (enc : α → List Value) (h : k < l.length) : lbytes enc l = (wbytes l.length ++ (l.take k).flatMap enc) ++ enc (l.getD k d) ++ (l.drop (k + 1)).flatMap enc := by
  unfold lbytes
  rw [List.append_assoc, List.append_assoc, ← List.append_assoc ((l.take k).flatMap enc), ← flatMap_succ enc h, ← List.flatMap_append, List.take_append_drop]
def ibytes (x : Int) : List Value := wbytes x.toNat
def okInt (x : Int) : Prop := 0 ≤ x ∧ x < 9223372036854775808

set_option maxRecDepth 100000 in
set_option maxHeartbeats 1000000 in
theorem putListI_any (a : Option Addr) (l : List Int) (cap : Nat) (v : Value) (n : Nat) (xs : List Value) (w0 w : World) (hl : AtI w0 a l) (hm : l.length ≤ 1000000) (hok : ∀ x ∈ l, okInt x) (h0 : Below w0.heap.size w0 w)
    (ho : w.ownsRow w0.heap.size 5 1 v n xs) (hn : n + (lbytes ibytes l).length ≤ 1000000) :
    Calls Try.prog 42 #[v, .slice a l.length cap, .func (.func 38) #[] #[]] w (PutPost w0.heap.size w (n + (lbytes ibytes l).length) (xs ++ lbytes ibytes l)) := by
  have hB := h0.size
  have HN := Lib.hid hn
  have hn1 : n ≤ 1000000 := by omega
  clear hn
  go_enter Try.func42, Try.ntmps42
  go_wp2_with fail
  refine (putNumI_any (l.length : Int) v n xs w0.heap.size w (by omega) (by show _ < (9223372036854775808 : Int); omega) ho hB hn1).mono ?_
  rintro e w1 ⟨v1, rfl, ho1, hp1⟩
  rw [Int.toNat_natCast] at ho1
  go_wp2
  go_loopw [0, 15] (fun u i wr => ∃ k : Nat, k ≤ l.length ∧ i = .int .i64 k ∧ wr.ownsRow w0.heap.size 5 1 u (n + (wbytes l.length ++ (l.take k).flatMap ibytes).length) (xs ++ (wbytes l.length ++ (l.take k).flatMap ibytes)) ∧ Puts w0.heap.size w wr) (fun _ i _ => l.length - (intOf i).toNat)
  case atStart => exact ⟨0, Nat.zero_le _, rfl, by simpa [wbytes_len] using ho1, hp1⟩
  case round =>
    obtain ⟨k, hk, rfl, hown, hput⟩ := hrel
    have hbel := h0.trans hput.below
    by_cases hlt : k < l.length
    · have hsu := Lib.hid (flatMap_succ (d := 0) ibytes hlt)
      have hkok := hok (l.getD k 0) (getD_mem hlt)
      have hlen : Hid (n + ((wbytes l.length ++ (l.take k).flatMap ibytes) ++ ibytes (l.getD k 0)).length ≤ 1000000) := by
        show _ ≤ _
        have h := HN.out
        rw [lbytes_split (d := 0) ibytes hlt] at h
        simp only [List.length_append] at h ⊢
        omega
      obtain ⟨b, off, ha, hb, d0⟩ := hl.2 k hlt; have c0 := cell_later hbel d0; clear d0 hl; subst ha
      clear hok
      generalize hq : l.getD k 0 = q at *
      clear hq
      go_wp2_with fail; refine (putNumI_any _ _ _ _ _ _ hkok.1 hkok.2 hown hbel.size (by have := hlen.out; simp only [List.length_append] at this ⊢; omega)).mono ?_
      rintro e w2 ⟨v2, rfl, ho2, hp2⟩
      go_wp2
      go_roundw
      case rel =>
        refine ⟨k + 1, by omega, by go_num, ?_, hput.trans (hp2)⟩
        rw [hsu.out, ← List.append_assoc (wbytes l.length), ← List.append_assoc xs, List.length_append (bs := ibytes _), ← Nat.add_assoc]
        exact ho2
      case measure => simp [intOf]; omega
    · go_wp2
      go_ret
      have hk2 : l.take k = l := List.take_of_length_le (by omega)
      rw [hk2] at hown
      exact ⟨_, rfl, hown, hput⟩

set_option maxRecDepth 100000 in
set_option maxHeartbeats 1000000 in
theorem putListS_any (a : Option Addr) (l : List ByteArray) (cap : Nat) (v : Value) (n : Nat) (xs : List Value) (w0 w : World) (hl : At1 w0 a l) (hm : l.length ≤ 1000000) (hok : ∀ x ∈ l, okName x) (h0 : Below w0.heap.size w0 w)
    (ho : w.ownsRow w0.heap.size 5 1 v n xs) (hn : n + (lbytes nbytes l).length ≤ 1000000) :
    Calls Try.prog 88 #[v, .slice a l.length cap, .func (.func 39) #[] #[]] w (PutPost w0.heap.size w (n + (lbytes nbytes l).length) (xs ++ lbytes nbytes l)) := by
  have hB := h0.size
  have HN := Lib.hid hn
  have hn1 : n ≤ 1000000 := by omega
  clear hn
  go_enter Try.func88, Try.ntmps88
  go_wp2_with fail
  refine (putNumI_any (l.length : Int) v n xs w0.heap.size w (by omega) (by show _ < (9223372036854775808 : Int); omega) ho hB hn1).mono ?_
  rintro e w1 ⟨v1, rfl, ho1, hp1⟩
  rw [Int.toNat_natCast] at ho1
  go_wp2
  go_loopw [0, 15] (fun u i wr => ∃ k : Nat, k ≤ l.length ∧ i = .int .i64 k ∧ wr.ownsRow w0.heap.size 5 1 u (n + (wbytes l.length ++ (l.take k).flatMap nbytes).length) (xs ++ (wbytes l.length ++ (l.take k).flatMap nbytes)) ∧ Puts w0.heap.size w wr) (fun _ i _ => l.length - (intOf i).toNat)
  case atStart => exact ⟨0, Nat.zero_le _, rfl, by simpa [wbytes_len] using ho1, hp1⟩
  case round =>
    obtain ⟨k, hk, rfl, hown, hput⟩ := hrel
    have hbel := h0.trans hput.below
    by_cases hlt : k < l.length
    · have hsu := Lib.hid (flatMap_succ (d := ByteArray.empty) nbytes hlt)
      have hkok := hok (l.getD k ByteArray.empty) (getD_mem hlt)
      have hlen : Hid (n + ((wbytes l.length ++ (l.take k).flatMap nbytes) ++ nbytes (l.getD k ByteArray.empty)).length ≤ 1000000) := by
        show _ ≤ _
        have h := HN.out
        rw [lbytes_split (d := ByteArray.empty) nbytes hlt] at h
        simp only [List.length_append] at h ⊢
        omega
      obtain ⟨b, off, ha, hb, d0⟩ := hl.2 k hlt; have c0 := cell_later hbel d0; clear d0 hl; subst ha
      clear hok
      generalize hq : l.getD k ByteArray.empty = q at *
      clear hq
      go_wp2_with fail; refine (putName_any _ _ _ _ _ _ hkok.1 hkok.2 hown hbel.size (by have := hlen.out; simp only [List.length_append] at this ⊢; omega)).mono ?_
      rintro e w2 ⟨v2, rfl, ho2, hp2⟩
      go_wp2
      go_roundw
      case rel =>
        refine ⟨k + 1, by omega, by go_num, ?_, hput.trans (hp2)⟩
        rw [hsu.out, ← List.append_assoc (wbytes l.length), ← List.append_assoc xs, List.length_append (bs := nbytes _), ← Nat.add_assoc]
        exact ho2
      case measure => simp [intOf]; omega
    · go_wp2
      go_ret
      have hk2 : l.take k = l := List.take_of_length_le (by omega)
      rw [hk2] at hown
      exact ⟨_, rfl, hown, hput⟩

def pbytes (x : Str2) : List Value := nbytes x.1 ++ nbytes x.2
def okPair (x : Str2) : Prop := okName x.1 ∧ okName x.2
theorem pbytes_len (x : Str2) : (pbytes x).length = 16 := by simp [pbytes, nbytes, wbytes_len]

set_option maxRecDepth 100000 in
set_option maxHeartbeats 1000000 in
theorem putListP_any (a : Option Addr) (l : List Str2) (cap : Nat) (v : Value) (n : Nat) (xs : List Value) (w0 w : World) (hl : At2 w0 a l) (hm : l.length ≤ 1000000) (hok : ∀ x ∈ l, okPair x) (h0 : Below w0.heap.size w0 w)
    (ho : w.ownsRow w0.heap.size 5 1 v n xs) (hn : n + (lbytes pbytes l).length ≤ 1000000) :
    Calls Try.prog 43 #[v, .slice a l.length cap, .func (.func 44) #[] #[]] w (PutPost w0.heap.size w (n + (lbytes pbytes l).length) (xs ++ lbytes pbytes l)) := by
  have hB := h0.size
  have HN := Lib.hid hn
  have hn1 : n ≤ 1000000 := by omega
  clear hn
  go_enter Try.func43, Try.ntmps43
  go_wp2_with fail
  refine (putNumI_any (l.length : Int) v n xs w0.heap.size w (by omega) (by show _ < (9223372036854775808 : Int); omega) ho hB hn1).mono ?_
  rintro e w1 ⟨v1, rfl, ho1, hp1⟩
  rw [Int.toNat_natCast] at ho1
  go_wp2
  go_loopw [0, 15] (fun u i wr => ∃ k : Nat, k ≤ l.length ∧ i = .int .i64 k ∧ wr.ownsRow w0.heap.size 5 1 u (n + (wbytes l.length ++ (l.take k).flatMap pbytes).length) (xs ++ (wbytes l.length ++ (l.take k).flatMap pbytes)) ∧ Puts w0.heap.size w wr) (fun _ i _ => l.length - (intOf i).toNat)
  case atStart => exact ⟨0, Nat.zero_le _, rfl, by simpa [wbytes_len] using ho1, hp1⟩
  case round =>
    obtain ⟨k, hk, rfl, hown, hput⟩ := hrel
    have hbel := h0.trans hput.below
    by_cases hlt : k < l.length
    · have hsu := Lib.hid (flatMap_succ (d := e2) pbytes hlt)
      have hkok := hok (l.getD k e2) (getD_mem hlt)
      have hlen : Hid (n + ((wbytes l.length ++ (l.take k).flatMap pbytes) ++ pbytes (l.getD k e2)).length ≤ 1000000) := by
        show _ ≤ _
        have h := HN.out
        rw [lbytes_split (d := e2) pbytes hlt] at h
        simp only [List.length_append] at h ⊢
        omega
      obtain ⟨b, off, ha, hb, d0, d1⟩ := hl k hlt; have c0 := cell_later hbel d0; have c1 := cell_later hbel d1; clear d0 d1 hl; subst ha
      clear hok
      generalize hq : l.getD k e2 = q at *
      clear hq
      obtain ⟨q0, q1⟩ := q; simp only at c0 c1; go_wp2_with fail; refine (putPair_any _ _ _ _ _ _ _ hkok.1 hkok.2 (hown.alloc _) (by simp; have := hbel.size; omega) (by have := hlen.out; simp only [List.length_append, pbytes_len] at this ⊢; omega)).mono ?_
      rintro e w2 ⟨v2, rfl, ho2, hp2⟩
      go_wp2
      go_roundw
      case rel =>
        refine ⟨k + 1, by omega, by go_num, ?_, hput.trans (((Puts.refl _ wr).alloc hbel.size _).trans hp2)⟩
        rw [hsu.out, ← List.append_assoc (wbytes l.length), ← List.append_assoc xs, List.length_append (bs := pbytes _), ← Nat.add_assoc]
        exact ho2
      case measure => simp [intOf]; omega
    · go_wp2
      go_ret
      have hk2 : l.take k = l := List.take_of_length_le (by omega)
      rw [hk2] at hown
      exact ⟨_, rfl, hown, hput⟩

set_option maxRecDepth 100000 in
set_option maxHeartbeats 1000000 in
theorem putTaint_any (a b : ByteArray) (v : Value) (n : Nat) (xs : List Value) (B : Nat) (w : World) (ha : okName a) (hb : okName b) (ho : w.ownsRow B 5 1 v n xs) (hB : B ≤ w.heap.size) (hn : n + 8 ≤ 1000000) :
    Calls Try.prog 51 #[v, .agg #[.string a, .string b]] w (PutPost B w (n + 16) (xs ++ (nbytes a ++ nbytes b))) := by
  go_enter Try.func51, Try.ntmps51
  go_wp2_with fail
  refine (putPair_any a b v n xs B _ ha hb (ho.alloc _) (by simp; omega) (by omega)).mono ?_
  rintro e w1 ⟨v1, rfl, ho1, hp1⟩
  go_wp2
  go_ret
  exact ⟨v1, rfl, ho1, ((Puts.refl B w).alloc hB _).trans hp1⟩

set_option maxRecDepth 100000 in
set_option maxHeartbeats 1000000 in
theorem putListN_any (a : Option Addr) (l : List Str2) (cap : Nat) (v : Value) (n : Nat) (xs : List Value) (w0 w : World) (hl : At2 w0 a l) (hm : l.length ≤ 1000000) (hok : ∀ x ∈ l, okPair x) (h0 : Below w0.heap.size w0 w)
    (ho : w.ownsRow w0.heap.size 5 1 v n xs) (hn : n + (lbytes pbytes l).length ≤ 1000000) :
    Calls Try.prog 50 #[v, .slice a l.length cap, .func (.func 51) #[] #[]] w (PutPost w0.heap.size w (n + (lbytes pbytes l).length) (xs ++ lbytes pbytes l)) := by
  have hB := h0.size
  have HN := Lib.hid hn
  have hn1 : n ≤ 1000000 := by omega
  clear hn
  go_enter Try.func50, Try.ntmps50
  go_wp2_with fail
  refine (putNumI_any (l.length : Int) v n xs w0.heap.size w (by omega) (by show _ < (9223372036854775808 : Int); omega) ho hB hn1).mono ?_
  rintro e w1 ⟨v1, rfl, ho1, hp1⟩
  rw [Int.toNat_natCast] at ho1
  go_wp2
  go_loopw [0, 15] (fun u i wr => ∃ k : Nat, k ≤ l.length ∧ i = .int .i64 k ∧ wr.ownsRow w0.heap.size 5 1 u (n + (wbytes l.length ++ (l.take k).flatMap pbytes).length) (xs ++ (wbytes l.length ++ (l.take k).flatMap pbytes)) ∧ Puts w0.heap.size w wr) (fun _ i _ => l.length - (intOf i).toNat)
  case atStart => exact ⟨0, Nat.zero_le _, rfl, by simpa [wbytes_len] using ho1, hp1⟩
  case round =>
    obtain ⟨k, hk, rfl, hown, hput⟩ := hrel
    have hbel := h0.trans hput.below
    by_cases hlt : k < l.length
    · have hsu := Lib.hid (flatMap_succ (d := e2) pbytes hlt)
      have hkok := hok (l.getD k e2) (getD_mem hlt)
      have hlen : Hid (n + ((wbytes l.length ++ (l.take k).flatMap pbytes) ++ pbytes (l.getD k e2)).length ≤ 1000000) := by
        show _ ≤ _
        have h := HN.out
        rw [lbytes_split (d := e2) pbytes hlt] at h
        simp only [List.length_append] at h ⊢
        omega
      obtain ⟨b, off, ha, hb, d0, d1⟩ := hl k hlt; have c0 := cell_later hbel d0; have c1 := cell_later hbel d1; clear d0 d1 hl; subst ha
      clear hok
      generalize hq : l.getD k e2 = q at *
      clear hq
      obtain ⟨q0, q1⟩ := q; simp only at c0 c1; go_wp2_with fail; refine (putTaint_any _ _ _ _ _ _ _ hkok.1 hkok.2 (hown.alloc _) (by simp; have := hbel.size; omega) (by have := hlen.out; simp only [List.length_append, pbytes_len] at this ⊢; omega)).mono ?_
      rintro e w2 ⟨v2, rfl, ho2, hp2⟩
      go_wp2
      go_roundw
      case rel =>
        refine ⟨k + 1, by omega, by go_num, ?_, hput.trans (((Puts.refl _ wr).alloc hbel.size _).trans hp2)⟩
        rw [hsu.out, ← List.append_assoc (wbytes l.length), ← List.append_assoc xs, List.length_append (bs := pbytes _), ← Nat.add_assoc]
        exact ho2
      case measure => simp [intOf]; omega
    · go_wp2
      go_ret
      have hk2 : l.take k = l := List.take_of_length_le (by omega)
      rw [hk2] at hown
      exact ⟨_, rfl, hown, hput⟩

def tbytes (t : Tol) : List Value := (nbytes t.1 ++ nbytes t.2.1) ++ fbytes t.2.2
def okTol (t : Tol) : Prop := okName t.1 ∧ okName t.2.1
theorem tbytes_len (x : Tol) : (tbytes x).length = 24 := by simp [tbytes, nbytes, fbytes, wbytes_len]

set_option maxRecDepth 100000 in
set_option maxHeartbeats 1000000 in
theorem putToler_any (a b : ByteArray) (c : Bool) (v : Value) (n : Nat) (xs : List Value) (B : Nat) (w : World) (ha : okName a) (hb : okName b) (ho : w.ownsRow B 5 1 v n xs) (hB : B ≤ w.heap.size) (hn : n + 16 ≤ 1000000) :
    Calls Try.prog 48 #[v, .agg #[.string a, .string b, .bool c]] w (PutPost B w (n + 24) (xs ++ ((nbytes a ++ nbytes b) ++ fbytes c))) := by
  go_enter Try.func48, Try.ntmps48
  go_wp2_with fail
  refine (putName_any a v n xs B _ ha.1 ha.2 (ho.alloc _) (by simp; omega) (by omega)).mono ?_
  rintro e w1 ⟨v1, rfl, ho1, hp1⟩
  have hx1 := fun o => hp1.cell (heap_alloc_self w _) (by decide) o
  have hB1 := hp1.below.size
  simp at hB1
  go_wp2_with fail
  refine (putName_any b v1 (n + 8) _ B w1 hb.1 hb.2 ho1 (by omega) (by omega)).mono ?_
  rintro e w2 ⟨v2, rfl, ho2, hp2⟩
  have hx2 := fun o => (hp1.trans hp2).cell (heap_alloc_self w _) (by decide) o
  have hB2 := hp2.below.size
  have hp := (((Puts.refl B w).alloc hB _).trans hp1).trans hp2
  clear hp1 hp2 hx1
  go_wp2_with fail
  refine (putFlag_any c v2 (n + 8 + 8) _ B w2 ho2 (by omega) (by omega)).mono ?_
  rintro e w3 ⟨v3, rfl, ho3, hp3⟩
  go_wp2
  go_ret
  refine ⟨v3, rfl, ?_, hp.trans hp3⟩
  rw [← List.append_assoc, ← List.append_assoc]
  exact ho3

set_option maxRecDepth 100000 in
set_option maxHeartbeats 1000000 in
theorem putListL_any (a : Option Addr) (l : List Tol) (cap : Nat) (v : Value) (n : Nat) (xs : List Value) (w0 w : World) (hl : AtL w0 a l) (hm : l.length ≤ 1000000) (hok : ∀ x ∈ l, okTol x) (h0 : Below w0.heap.size w0 w)
    (ho : w.ownsRow w0.heap.size 5 1 v n xs) (hn : n + (lbytes tbytes l).length ≤ 1000000) :
    Calls Try.prog 47 #[v, .slice a l.length cap, .func (.func 48) #[] #[]] w (PutPost w0.heap.size w (n + (lbytes tbytes l).length) (xs ++ lbytes tbytes l)) := by
  have hB := h0.size
  have HN := Lib.hid hn
  have hn1 : n ≤ 1000000 := by omega
  clear hn
  go_enter Try.func47, Try.ntmps47
  go_wp2_with fail
  refine (putNumI_any (l.length : Int) v n xs w0.heap.size w (by omega) (by show _ < (9223372036854775808 : Int); omega) ho hB hn1).mono ?_
  rintro e w1 ⟨v1, rfl, ho1, hp1⟩
  rw [Int.toNat_natCast] at ho1
  go_wp2
  go_loopw [0, 15] (fun u i wr => ∃ k : Nat, k ≤ l.length ∧ i = .int .i64 k ∧ wr.ownsRow w0.heap.size 5 1 u (n + (wbytes l.length ++ (l.take k).flatMap tbytes).length) (xs ++ (wbytes l.length ++ (l.take k).flatMap tbytes)) ∧ Puts w0.heap.size w wr) (fun _ i _ => l.length - (intOf i).toNat)
  case atStart => exact ⟨0, Nat.zero_le _, rfl, by simpa [wbytes_len] using ho1, hp1⟩
  case round =>
    obtain ⟨k, hk, rfl, hown, hput⟩ := hrel
    have hbel := h0.trans hput.below
    by_cases hlt : k < l.length
    · have hsu := Lib.hid (flatMap_succ (d := e3) tbytes hlt)
      have hkok := hok (l.getD k e3) (getD_mem hlt)
      have hlen : Hid (n + ((wbytes l.length ++ (l.take k).flatMap tbytes) ++ tbytes (l.getD k e3)).length ≤ 1000000) := by
        show _ ≤ _
        have h := HN.out
        rw [lbytes_split (d := e3) tbytes hlt] at h
        simp only [List.length_append] at h ⊢
        omega
      obtain ⟨b, off, ha, hb, d0, d1, d2⟩ := hl.2 k hlt; have c0 := cell_later hbel d0; have c1 := cell_later hbel d1; have c2 := cell_later hbel d2; clear d0 d1 d2 hl; subst ha
      clear hok
      generalize hq : l.getD k e3 = q at *
      clear hq
      obtain ⟨q0, q1, q2⟩ := q; simp only at c0 c1 c2; go_wp2_with fail; refine (putToler_any _ _ _ _ _ _ _ _ hkok.1 hkok.2 (hown.alloc _) (by simp; have := hbel.size; omega) (by have := hlen.out; simp only [List.length_append, tbytes_len] at this ⊢; omega)).mono ?_
      rintro e w2 ⟨v2, rfl, ho2, hp2⟩
      go_wp2
      go_roundw
      case rel =>
        refine ⟨k + 1, by omega, by go_num, ?_, hput.trans (((Puts.refl _ wr).alloc hbel.size _).trans hp2)⟩
        rw [hsu.out, ← List.append_assoc (wbytes l.length), ← List.append_assoc xs, List.length_append (bs := tbytes _), ← Nat.add_assoc]
        exact ho2
      case measure => simp [intOf]; omega
    · go_wp2
      go_ret
      have hk2 : l.take k = l := List.take_of_length_le (by omega)
      rw [hk2] at hown
      exact ⟨_, rfl, hown, hput⟩
end Go.Proofs.Ytnobgmdknalpdaa
