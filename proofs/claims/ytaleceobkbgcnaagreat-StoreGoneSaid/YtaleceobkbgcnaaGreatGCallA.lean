/-
  How calls are written in bytes: numbers, flags, texts, values, guards, writes. No conditions beyond what is written in each statement.
-/
import Derived.Test.YtaleceobkbgcnaaGreatGConv
import Derived.Test.YtaleceobkbgcnaaGreatGPutA
import Derived.Test.YtaleceobkbgcnaaGreatGCut
import Derived.Lib.AppendStr
import Derived.Deep.Onto
import Derived.Test.YtaleceobkbgcnaaGreatGGetA
set_option linter.unusedSimpArgs false
set_option linter.unusedVariables false
namespace Go.Proofs.YtaleceobkbgcnaaGreat
open Go.RowKit

theorem infoB8 : (Tryz.prog.info? 5).map (fun i => (i.zero, i.size, i.bytes)) = some (some (.int .u8 0), 1, 1) := by kernel_rfl
set_option maxRecDepth 100000 in
set_option maxHeartbeats 1000000 in
theorem callNum_any (z : Int) (v : Value) (n : Nat) (xs : List Value) (B : Nat) (w : World) (h0 : 0 ≤ z) (h1 : Hid (z < 9223372036854775808)) (ho : w.ownsRow B 5 1 v n xs) (hB : B ≤ w.heap.size) (hn : n ≤ 1000000) :
    Calls Tryz.prog 72 #[v, .int .i64 z] w (PutPost B w (n + 8) (xs ++ wbytes z.toNat)) := by
  obtain ⟨x, rfl⟩ := Int.eq_ofNat_of_zero_le h0
  rw [Int.toNat_natCast]
  have hx : Hid (x < 18446744073709551616) := by show x < _; have := h1.out; omega
  have hm1 : IntKind.u64.wrap (x : Int) = x := by rw [IntWalk.u64_in _ (by have := hx.out; omega)]
  clear h1
  obtain ⟨i0, hi, hz0, hz1, hz2⟩ := info_parts infoB8
  go_enter Tryz.func72, Tryz.ntmps72
  go_wp2_with fail
  go_loopw [0, 6] (fun u i wr => ∃ k : Nat, k ≤ 8 ∧ i = .int .i64 (56 - 8 * (k : Int)) ∧ wr.ownsRow B 5 1 u (n + k) (xs ++ (wbytes x).take k) ∧ Puts B w wr) (fun _ i _ => (intOf i + 8).toNat)
  case atStart => exact ⟨0, by omega, rfl, by simpa using ho, Puts.refl _ _⟩
  case round =>
    obtain ⟨k, hk, rfl, hown, hput⟩ := hrel
    have hBw : B ≤ wr.heap.size := Nat.le_trans hB hput.below.size
    by_cases h8 : k < 8
    · have s0 : (0 : Int) ≤ 56 - 8 * (k : Int) := by omega
      have s1 : 56 - 8 * (k : Int) ≤ 56 := by omega
      have hl : n + (k + 1) ≤ maxLen := by unfold maxLen; omega
      have hl2 : (n + (k + 1)) * 1 ≤ 140737488355328 := by omega
      have hB2 : B ≤ wr.heap.size + 1 := by have := hput.below.size; omega
      go_wp2_with (at_builtin; refine wpList_append_own _ rfl (.tmp 13) (.tmp 18) 28 rfl B 5 i0 (.int .u8 0) 1 1 Tryz.underlying28 hi hz0 hz1 hz2 rfl (by decide) _ (n + k) (xs ++ (wbytes x).take k) rfl (hown.alloc _) ⟨wr.heap.size, 0, none⟩ 1 1 [wbyte x k] rfl rfl (cell_one_new _ _ _) (by simp [wbyte, Value.oneCell']) hl hl2 (by simp; exact hB2) ?_; intro v' w1 hown' hgrow hnil)
      go_roundw
      case rel =>
        refine ⟨k + 1, by omega, by go_num, ?_, ?_⟩
        · rw [wbytes_succ x k h8, ← List.append_assoc]; exact hown'
        · exact hput.trans ((Puts.refl B wr).alloc (by omega) _ |>.trans (Puts.grown (hown.alloc _) hgrow (by simp; exact hB2)))
      case measure => simp [intOf]; omega
    · go_wp2
      go_ret
      obtain rfl : k = 8 := by omega
      exact ⟨_, rfl, hown, hput⟩
set_option maxRecDepth 100000 in
theorem callFlag_any (b : Bool) (v : Value) (n : Nat) (xs : List Value) (B : Nat) (w : World) (ho : w.ownsRow B 5 1 v n xs) (hB : B ≤ w.heap.size) (hn : n ≤ 1000000) :
    Calls Tryz.prog 126 #[v, .bool b] w (PutPost B w (n + 8) (xs ++ fbytes b)) := by
  cases b
  · go_enter Tryz.func126, Tryz.ntmps126
    go_wp2_with fail
    refine (callNum_any 0 v n xs B w (by omega) (by show _ < _; omega) ho hB hn).mono ?_
    rintro e w' ⟨v', rfl, ho', hp⟩
    go_wp2
    go_ret
    exact ⟨v', rfl, ho', hp⟩
  · go_enter Tryz.func126, Tryz.ntmps126
    go_wp2_with fail
    refine (callNum_any 1 v n xs B w (by omega) (by show _ < _; omega) ho hB hn).mono ?_
    rintro e w' ⟨v', rfl, ho', hp⟩
    go_wp2
    go_ret
    exact ⟨v', rfl, ho', hp⟩
/-- A text in bytes: how many, then these. -/
def xbytes (s : ByteArray) : List Value := wbytes s.size ++ Go.Lib.strCells s
theorem xbytes_len (s : ByteArray) : (xbytes s).length = 8 + s.size := by
  unfold xbytes
  rw [List.length_append, Go.Lib.strCells_length, wbytes_len]
set_option maxRecDepth 100000 in
set_option maxHeartbeats 1000000 in
theorem callText_any (s : ByteArray) (v : Value) (n : Nat) (xs : List Value) (B : Nat) (w : World) (hs : s.size ≤ 20) (ho : w.ownsRow B 5 1 v n xs) (hB : B ≤ w.heap.size) (hn : n ≤ 900000) :
    Calls Tryz.prog 73 #[v, .string s] w (PutPost B w (n + (xbytes s).length) (xs ++ xbytes s)) := by
  obtain ⟨i0, hi, hz0, hz1, hz2⟩ := info_parts infoB8
  go_enter Tryz.func73, Tryz.ntmps73
  go_wp2_with fail
  refine (callNum_any (s.size : Int) v n xs B w (by omega) (by show _ < (9223372036854775808 : Int); omega) ho hB (by omega)).mono ?_
  rintro e w1 ⟨v1, rfl, ho1, hp1⟩
  rw [Int.toNat_natCast] at ho1
  have hB1 := Nat.le_trans hB hp1.below.size
  go_wp2_with (at_builtin; refine Go.Lib.wpList_append_own_string w1 rfl (.tmp 9) (.tmp 10) 28 9 rfl B 5 i0 Tryz.underlying28 Tryz.underlying9 hi hz0 hz1 hz2 v1 (n + 8) _ rfl ho1 s rfl (by unfold maxLen; omega) (by omega) hB1 ?_; intro v2 w2 ho2 hg2 _)
  go_ret
  refine ⟨v2, rfl, ?_, hp1.trans (Puts.grown ho1 hg2 hB1)⟩
  rw [xbytes_len, show n + (8 + s.size) = n + 8 + s.size by omega]
  unfold xbytes
  rw [← List.append_assoc]
  exact ho2
/-- A value in bytes. -/
def vbytes (l : List Int) : List Value := wbytes l.length ++ u8s l
theorem vbytes_len (l : List Int) : (vbytes l).length = 8 + l.length := by
  unfold vbytes u8s
  rw [List.length_append, List.length_map, wbytes_len]
theorem atB_news' {W : World} {a : Option Addr} {l : List Int} (h : AtB W a l) : ∀ d, a = some d → ∀ j u, (u8s l)[j]? = some u → W.cell? (d.add j) = some u := fun d e j u hu => by
  unfold u8s at hu
  rw [List.getElem?_map] at hu
  obtain ⟨y, hy, rfl⟩ := Option.map_eq_some_iff.1 hu
  have hj := (List.getElem?_eq_some_iff.1 hy).1
  obtain ⟨b, off, e', _, hc, _⟩ := h j hj
  rw [e] at e'
  cases e'
  have hg : l.getD j 0 = y := by rw [List.getD_eq_getElem?_getD, hy]; rfl
  rw [hg] at hc
  rw [Go.WideShapes.add_plain]; exact hc
set_option maxRecDepth 100000 in
set_option maxHeartbeats 1000000 in
theorem callBytes_any (a : Option Addr) (l : List Int) (cap : Nat) (v : Value) (n : Nat) (xs : List Value) (B : Nat) (w : World) (hl : l.length ≤ 4000) (hat : AtB w a l) (hc : a = none → cap = 0) (hlc : l.length ≤ cap) (ho : w.ownsRow B 5 1 v n xs) (hB : B ≤ w.heap.size) (hn : n ≤ 900000) (ha : ∀ w', Puts B w w' → AtB w' a l) :
    Calls Tryz.prog 127 #[v, .slice a l.length cap] w (PutPost B w (n + (vbytes l).length) (xs ++ vbytes l)) := by
  obtain ⟨i0, hi, hz0, hz1, hz2⟩ := info_parts infoB8
  go_enter Tryz.func127, Tryz.ntmps127
  go_wp2_with fail
  refine (callNum_any (l.length : Int) v n xs B w (by omega) (by show _ < (9223372036854775808 : Int); omega) ho hB (by omega)).mono ?_
  rintro e w1 ⟨v1, rfl, ho1, hp1⟩
  rw [Int.toNat_natCast] at ho1
  have hB1 := Nat.le_trans hB hp1.below.size
  have hat1 := ha w1 hp1
  go_wp2_with (at_builtin; refine wpList_append_opt rfl (.tmp 9) (.tmp 10) 28 rfl B 5 i0 _ 1 1 Tryz.underlying28 hi hz0 hz1 hz2 rfl (by decide) v1 (n + 8) _ rfl ho1 a l.length cap (u8s l) rfl (fun h => ⟨by have := hc h; omega, hc h⟩) (by unfold u8s; rw [List.length_map, Nat.mul_one]) (atB_news' hat1) (by intro u hu; unfold u8s at hu; obtain ⟨y, _, rfl⟩ := List.mem_map.1 hu; rfl) (by unfold maxLen; omega) (by omega) hB1 ?_; intro v2 w2 ho2 hg2)
  go_ret
  refine ⟨v2, rfl, ?_, hp1.trans (Puts.grown ho1 hg2 hB1)⟩
  rw [vbytes_len, show n + (8 + l.length) = n + 8 + l.length by omega]
  unfold vbytes
  rw [← List.append_assoc]
  exact ho2
end Go.Proofs.YtaleceobkbgcnaaGreat
namespace Go.Proofs.YtaleceobkbgcnaaGreat
open Go.RowKit

def gbytes (g : Gd) : List Value := (xbytes g.1 ++ wbytes g.2.1.toNat) ++ fbytes g.2.2
def okGd (g : Gd) : Prop := g.1.size ≤ 20 ∧ 0 ≤ g.2.1 ∧ g.2.1 ≤ 1099511627776
def qbytes (x : Wr) : List Value := (xbytes x.key ++ vbytes x.val) ++ fbytes x.gone
def okWr (x : Wr) : Prop := x.key.size ≤ 20 ∧ x.val.length ≤ 4000
theorem gbytes_len (g : Gd) : (gbytes g).length = 24 + g.1.size := by simp [gbytes, fbytes, wbytes_len, xbytes_len]; omega
theorem qbytes_len (x : Wr) : (qbytes x).length = 24 + x.key.size + x.val.length := by simp [qbytes, fbytes, wbytes_len, xbytes_len, vbytes_len]; omega
set_option maxRecDepth 100000 in
set_option maxHeartbeats 1000000 in
theorem callGuard_any (a : ByteArray) (r : Int) (c : Bool) (v : Value) (n : Nat) (xs : List Value) (B : Nat) (w : World) (ha : a.size ≤ 20) (h0 : 0 ≤ r) (h1 : r ≤ 1099511627776) (ho : w.ownsRow B 5 1 v n xs) (hB : B ≤ w.heap.size) (hn : n + (24 + a.size) ≤ 900000) :
    Calls Tryz.prog 75 #[v, .agg #[.string a, .int .i64 r, .bool c]] w (PutPost B w (n + (gbytes (a, r, c)).length) (xs ++ gbytes (a, r, c))) := by
  go_enter Tryz.func75, Tryz.ntmps75
  go_wp2_with fail
  refine (callText_any a v n xs B _ ha (ho.alloc _) (by simp; omega) (by omega)).mono ?_
  rintro e w1 ⟨v1, rfl, ho1, hp1⟩
  rw [xbytes_len] at ho1
  have hx1 := fun o => hp1.cell (heap_alloc_self w _) (by decide) o
  have hB1 := hp1.below.size
  simp at hB1
  go_wp2_with fail
  refine (callNum_any r v1 _ _ B w1 h0 (by show _ < (9223372036854775808 : Int); omega) ho1 (by omega) (by omega)).mono ?_
  rintro e w2 ⟨v2, rfl, ho2, hp2⟩
  have hx2 := fun o => (hp1.trans hp2).cell (heap_alloc_self w _) (by decide) o
  have hB2 := hp2.below.size
  have hp := (((Puts.refl B w).alloc hB _).trans hp1).trans hp2
  clear hp1 hp2 hx1
  go_wp2_with fail
  refine (callFlag_any c v2 _ _ B w2 ho2 (by omega) (by omega)).mono ?_
  rintro e w3 ⟨v3, rfl, ho3, hp3⟩
  go_wp2
  go_ret
  refine ⟨v3, rfl, ?_, hp.trans hp3⟩
  rw [gbytes_len, show n + (24 + (a, r, c).1.size) = n + (8 + a.size) + 8 + 8 by show n + (24 + a.size) = _; omega]
  unfold gbytes
  rw [← List.append_assoc, ← List.append_assoc]
  exact ho3
set_option maxRecDepth 100000 in
set_option maxHeartbeats 1000000 in
theorem callWrite_any (a : ByteArray) (va : Option Addr) (l : List Int) (vc : Nat) (c : Bool) (v : Value) (n : Nat) (xs : List Value) (B : Nat) (w : World) (ha : a.size ≤ 20) (hl : l.length ≤ 4000) (hc : va = none → vc = 0) (hlc : l.length ≤ vc) (hat : ∀ w', Below B w w' → AtB w' va l)
    (ho : w.ownsRow B 5 1 v n xs) (hB : B ≤ w.heap.size) (hn : n + (24 + a.size + l.length) ≤ 900000) :
    Calls Tryz.prog 77 #[v, .agg #[.string a, .slice va l.length vc, .bool c]] w (PutPost B w (n + (qbytes ⟨a, l, c⟩).length) (xs ++ qbytes ⟨a, l, c⟩)) := by
  go_enter Tryz.func77, Tryz.ntmps77
  go_wp2_with fail
  refine (callText_any a v n xs B _ ha (ho.alloc _) (by simp; omega) (by omega)).mono ?_
  rintro e w1 ⟨v1, rfl, ho1, hp1⟩
  rw [xbytes_len] at ho1
  have hx1 := fun o => hp1.cell (heap_alloc_self w _) (by decide) o
  have hB1 := hp1.below.size
  simp at hB1
  have hw1 : Below B w w1 := ((Below.refl _ _).alloc hB _).trans hp1.below
  go_wp2_with fail
  refine (callBytes_any va l vc v1 _ _ B w1 hl (hat _ hw1) hc hlc ho1 (by omega) (by omega) (fun w' hp => hat w' (hw1.trans hp.below))).mono ?_
  rintro e w2 ⟨v2, rfl, ho2, hp2⟩
  rw [vbytes_len] at ho2
  have hx2 := fun o => (hp1.trans hp2).cell (heap_alloc_self w _) (by decide) o
  have hB2 := hp2.below.size
  have hp := (((Puts.refl B w).alloc hB _).trans hp1).trans hp2
  clear hp1 hp2 hx1
  go_wp2_with fail
  refine (callFlag_any c v2 _ _ B w2 ho2 (by omega) (by omega)).mono ?_
  rintro e w3 ⟨v3, rfl, ho3, hp3⟩
  go_wp2
  go_ret
  refine ⟨v3, rfl, ?_, hp.trans hp3⟩
  rw [qbytes_len, show n + (24 + (⟨a, l, c⟩ : Wr).key.size + (⟨a, l, c⟩ : Wr).val.length) = n + (8 + a.size) + (8 + l.length) + 8 by show n + (24 + a.size + l.length) = _; omega]
  unfold qbytes
  rw [← List.append_assoc, ← List.append_assoc]
  exact ho3

set_option maxRecDepth 100000 in
set_option maxHeartbeats 1000000 in
theorem callGuards_any (a : Option Addr) (l : List Gd) (cap : Nat) (v : Value) (n : Nat) (xs : List Value) (w0 w : World) (hl : AtG w0 a l) (hm : l.length ≤ 900000) (hok : ∀ x ∈ l, okGd x) (h0 : Below w0.heap.size w0 w)
    (ho : w.ownsRow w0.heap.size 5 1 v n xs) (hn : n + (lbytes gbytes l).length ≤ 900000) :
    Calls Tryz.prog 74 #[v, .slice a l.length cap, .func (.func 75) #[] #[]] w (PutPost w0.heap.size w (n + (lbytes gbytes l).length) (xs ++ lbytes gbytes l)) := by
  have hB := h0.size
  have HN := Lib.hid hn
  have hn1 : n ≤ 1000000 := by omega
  clear hn
  go_enter Tryz.func74, Tryz.ntmps74
  go_wp2_with fail
  refine (callNum_any (l.length : Int) v n xs w0.heap.size w (by omega) (by show _ < (9223372036854775808 : Int); omega) ho hB hn1).mono ?_
  rintro e w1 ⟨v1, rfl, ho1, hp1⟩
  rw [Int.toNat_natCast] at ho1
  go_wp2
  go_loopw [0, 15] (fun u i wr => ∃ k : Nat, k ≤ l.length ∧ i = .int .i64 k ∧ wr.ownsRow w0.heap.size 5 1 u (n + (wbytes l.length ++ (l.take k).flatMap gbytes).length) (xs ++ (wbytes l.length ++ (l.take k).flatMap gbytes)) ∧ Puts w0.heap.size w wr) (fun _ i _ => l.length - (intOf i).toNat)
  case atStart => exact ⟨0, Nat.zero_le _, rfl, by simpa [wbytes_len] using ho1, hp1⟩
  case round =>
    obtain ⟨k, hk, rfl, hown, hput⟩ := hrel
    have hbel := h0.trans hput.below
    by_cases hlt : k < l.length
    · have hsu := Lib.hid (flatMap_succ (d := g0) gbytes hlt)
      have hkok := hok (l.getD k g0) (getD_mem hlt)
      have hlen : Hid (n + ((wbytes l.length ++ (l.take k).flatMap gbytes) ++ gbytes (l.getD k g0)).length ≤ 900000) := by
        show _ ≤ _
        have h := HN.out
        rw [lbytes_split (d := g0) gbytes hlt] at h
        simp only [List.length_append] at h ⊢
        omega
      obtain ⟨b, off, ha, hb, d0, d1, d2⟩ := hl.2 k hlt; have c0 := cell_later hbel d0; have c1 := cell_later hbel d1; have c2 := cell_later hbel d2; clear d0 d1 d2 hl; subst ha
      clear hok
      generalize hq : l.getD k g0 = q at *
      clear hq
      obtain ⟨q0, q1, q2⟩ := q; simp only at c0 c1 c2; go_wp2_with fail; refine (callGuard_any _ _ _ _ _ _ _ _ hkok.1 hkok.2.1 hkok.2.2 (hown.alloc _) (by simp; have := hbel.size; omega) (by have := hlen.out; simp only [List.length_append, gbytes_len] at this ⊢; omega)).mono ?_
      rintro e w2 ⟨v2, rfl, ho2, hp2⟩
      go_wp2
      go_roundw
      case rel =>
        refine ⟨k + 1, by omega, by go_num, ?_, hput.trans (((Puts.refl _ wr).alloc hbel.size _).trans hp2)⟩
        rw [hsu.out, ← List.append_assoc (wbytes l.length), ← List.append_assoc xs, List.length_append (bs := gbytes _), ← Nat.add_assoc]
        exact ho2
      case measure => simp [intOf]; omega
    · go_wp2
      go_ret
      have hk2 : l.take k = l := List.take_of_length_le (by omega)
      rw [hk2] at hown
      exact ⟨_, rfl, hown, hput⟩
set_option maxRecDepth 100000 in
set_option maxHeartbeats 1000000 in
theorem callWrites_any (a : Option Addr) (l : List Wr) (cap : Nat) (v : Value) (n : Nat) (xs : List Value) (w0 w : World) (hl : AtW w0 a l) (hm : l.length ≤ 900000) (hok : ∀ x ∈ l, okWr x) (h0 : Below w0.heap.size w0 w)
    (ho : w.ownsRow w0.heap.size 5 1 v n xs) (hn : n + (lbytes qbytes l).length ≤ 900000) :
    Calls Tryz.prog 76 #[v, .slice a l.length cap, .func (.func 77) #[] #[]] w (PutPost w0.heap.size w (n + (lbytes qbytes l).length) (xs ++ lbytes qbytes l)) := by
  have hB := h0.size
  have HN := Lib.hid hn
  have hn1 : n ≤ 1000000 := by omega
  clear hn
  go_enter Tryz.func76, Tryz.ntmps76
  go_wp2_with fail
  refine (callNum_any (l.length : Int) v n xs w0.heap.size w (by omega) (by show _ < (9223372036854775808 : Int); omega) ho hB hn1).mono ?_
  rintro e w1 ⟨v1, rfl, ho1, hp1⟩
  rw [Int.toNat_natCast] at ho1
  go_wp2
  go_loopw [0, 15] (fun u i wr => ∃ k : Nat, k ≤ l.length ∧ i = .int .i64 k ∧ wr.ownsRow w0.heap.size 5 1 u (n + (wbytes l.length ++ (l.take k).flatMap qbytes).length) (xs ++ (wbytes l.length ++ (l.take k).flatMap qbytes)) ∧ Puts w0.heap.size w wr) (fun _ i _ => l.length - (intOf i).toNat)
  case atStart => exact ⟨0, Nat.zero_le _, rfl, by simpa [wbytes_len] using ho1, hp1⟩
  case round =>
    obtain ⟨k, hk, rfl, hown, hput⟩ := hrel
    have hbel := h0.trans hput.below
    by_cases hlt : k < l.length
    · have hsu := Lib.hid (flatMap_succ (d := r0) qbytes hlt)
      have hkok := hok (l.getD k r0) (getD_mem hlt)
      have hlen : Hid (n + ((wbytes l.length ++ (l.take k).flatMap qbytes) ++ qbytes (l.getD k r0)).length ≤ 900000) := by
        show _ ≤ _
        have h := HN.out
        rw [lbytes_split (d := r0) qbytes hlt] at h
        simp only [List.length_append] at h ⊢
        omega
      obtain ⟨b, off, va, vc, ha, hb, d0, d1, d2, hv, k1, k2, k3⟩ := hl.2 k hlt; have c0 := cell_later hbel d0; have c1 := cell_later hbel d1; have c2 := cell_later hbel d2; clear d0 d1 d2 hl; subst ha
      clear hok
      generalize hq : l.getD k r0 = q at *
      clear hq
      obtain ⟨q0, q1, q2⟩ := q; simp only at c0 c1 c2; go_wp2_with fail; refine (callWrite_any _ va _ vc _ _ _ _ _ _ hkok.1 hkok.2 k3 k1 (fun w' hb' => hv.below' ((hbel.alloc hbel.size _).trans hb')) (hown.alloc _) (by simp; have := hbel.size; omega) (by have := hlen.out; simp only [List.length_append, qbytes_len] at this ⊢; omega)).mono ?_
      rintro e w2 ⟨v2, rfl, ho2, hp2⟩
      go_wp2
      go_roundw
      case rel =>
        refine ⟨k + 1, by omega, by go_num, ?_, hput.trans (((Puts.refl _ wr).alloc hbel.size _).trans hp2)⟩
        rw [hsu.out, ← List.append_assoc (wbytes l.length), ← List.append_assoc xs, List.length_append (bs := qbytes _), ← Nat.add_assoc]
        exact ho2
      case measure => simp [intOf]; omega
    · go_wp2
      go_ret
      have hk2 : l.take k = l := List.take_of_length_le (by omega)
      rw [hk2] at hown
      exact ⟨_, rfl, hown, hput⟩

theorem lbytes_le {α : Type} {enc : α → List Value} {M : Nat} {l : List α} (h : ∀ x ∈ l, (enc x).length ≤ M) : (lbytes enc l).length ≤ 8 + l.length * M := by
  unfold lbytes
  rw [List.length_append, wbytes_len]
  have : (l.flatMap enc).length ≤ l.length * M := by
    induction l with
    | nil => simp
    | cons x r ih =>
      rw [List.flatMap_cons, List.length_append, List.length_cons, Nat.succ_mul]
      have h1 := h x (by simp)
      have h2 := ih (fun y hy => h y (by simp [hy]))
      omega
  omega
def cbytes (c : CallD) : List Value := wbytes c.frm.toNat ++ wbytes c.id.toNat ++ wbytes c.kind.toNat ++ xbytes c.key ++ wbytes c.rev.toNat ++ lbytes gbytes c.gs ++ lbytes qbytes c.ws
def callEnc (c : CallD) : List Value := if callB c then cbytes c else []
structure CallOk (c : CallD) : Prop where
  f : 0 ≤ c.frm ∧ c.frm ≤ 7
  i : 1 ≤ c.id ∧ c.id ≤ 1099511627776
  k : 1 ≤ c.kind ∧ c.kind ≤ 4
  y : c.key.size ≤ 20
  r : 0 ≤ c.rev ∧ c.rev ≤ 1099511627776
  gn : c.gs.length ≤ 20
  wn : c.ws.length ≤ 64
  g : ∀ x ∈ c.gs, okGd x
  w : ∀ x ∈ c.ws, okWr x
theorem callB_ok {c : CallD} (h : callB c = true) : CallOk c := by
  obtain ⟨frm, id, kind, key, rev, gs, ws⟩ := c
  unfold callB at h
  simp only [Bool.and_eq_true, decide_eq_true_eq] at h
  obtain ⟨⟨⟨⟨f1, f2⟩, f3⟩, f4⟩, hk⟩ := h
  have none_ok : noneB gs ws = true → gs = [] ∧ ws = [] := fun h => by
    unfold noneB at h
    simp only [Bool.and_eq_true, decide_eq_true_eq, List.length_eq_zero_iff] at h
    exact h
  have key_ok : keyB key = true → key.size ≤ 20 := fun h => by
    unfold keyB at h
    simp only [Bool.and_eq_true, decide_eq_true_eq] at h
    exact h.2
  by_cases k1 : kind = 1
  · rw [if_pos k1] at hk
    simp only [Bool.and_eq_true, decide_eq_true_eq] at hk
    obtain ⟨⟨a, b⟩, d⟩ := hk
    obtain ⟨rfl, rfl⟩ := none_ok d
    have hk1 : 1 ≤ kind ∧ kind ≤ 4 := ⟨by omega, by omega⟩
    have hr1 : 0 ≤ rev ∧ rev ≤ 1099511627776 := ⟨by omega, by omega⟩
    exact ⟨⟨f1, f2⟩, ⟨f3, f4⟩, hk1, key_ok a, hr1, by simp, by simp, by simp, by simp⟩
  · rw [if_neg k1] at hk
    by_cases k2 : kind = 2
    · rw [if_pos k2] at hk
      simp only [Bool.and_eq_true, decide_eq_true_eq] at hk
      obtain ⟨⟨a, b⟩, d⟩ := hk
      obtain ⟨rfl, rfl⟩ := none_ok d
      have hk1 : 1 ≤ kind ∧ kind ≤ 4 := ⟨by omega, by omega⟩
      have hr1 : 0 ≤ rev ∧ rev ≤ 1099511627776 := ⟨by omega, by omega⟩
      have hy : key.size ≤ 20 := by omega
      exact ⟨⟨f1, f2⟩, ⟨f3, f4⟩, hk1, hy, hr1, by simp, by simp, by simp, by simp⟩
    · rw [if_neg k2] at hk
      by_cases k3 : kind = 3
      · rw [if_pos k3] at hk
        unfold revB at hk
        simp only [Bool.and_eq_true, decide_eq_true_eq] at hk
        obtain ⟨⟨a, b⟩, d⟩ := hk
        obtain ⟨rfl, rfl⟩ := none_ok d
        have hk1 : 1 ≤ kind ∧ kind ≤ 4 := ⟨by omega, by omega⟩
        have hy : key.size ≤ 20 := by omega
        exact ⟨⟨f1, f2⟩, ⟨f3, f4⟩, hk1, hy, b, by simp, by simp, by simp, by simp⟩
      · rw [if_neg k3] at hk
        by_cases k4 : kind = 4
        · rw [if_pos k4] at hk
          unfold txnB at hk
          simp only [Bool.and_eq_true, decide_eq_true_eq, List.all_eq_true] at hk
          obtain ⟨⟨a, b⟩, ⟨⟨d1, d2⟩, d3⟩, d4⟩ := hk
          have hk1 : 1 ≤ kind ∧ kind ≤ 4 := ⟨by omega, by omega⟩
          have hr1 : 0 ≤ rev ∧ rev ≤ 1099511627776 := ⟨by omega, by omega⟩
          have hy : key.size ≤ 20 := by omega
          refine ⟨⟨f1, f2⟩, ⟨f3, f4⟩, hk1, hy, hr1, d1, d2, fun x hx => ?_, fun x hx => ?_⟩
          · have := d3 x hx
            unfold gdB keyB revB at this
            simp only [Bool.and_eq_true, decide_eq_true_eq] at this
            exact ⟨this.1.2, this.2⟩
          · have := d4 x hx
            unfold wrB keyB at this
            simp only [Bool.and_eq_true, decide_eq_true_eq] at this
            exact ⟨this.1.2, this.2⟩
        · rw [if_neg k4] at hk
          cases hk
def CallPost (w : World) (bs : List Value) (e : Ending) (w' : World) : Prop := ∃ v', e = .returned v' ∧ w'.ownsRow w.heap.size 5 1 v' bs.length bs ∧ Below w.heap.size w w'
theorem own_as {w : World} {B n : Nat} {v : Value} {xs ys : List Value} (h : w.ownsRow B 5 1 v n xs) (e : xs = ys) : w.ownsRow B 5 1 v ys.length ys := by
  subst e
  have := h.1
  rw [Nat.mul_one] at this
  rw [this]; exact h
set_option maxRecDepth 100000 in
set_option maxHeartbeats 4000000 in
theorem callPut_any (c : CallD) (h : CallH) (w : World) (hc : CallAt w c h) : Calls Tryz.prog 36 #[callV c h] w (CallPost w (callEnc c)) := by
  have hb0 : Below w.heap.size w (w.alloc (.cells (callC c h) 59)) := (Below.refl _ _).alloc (Nat.le_refl _) _
  have kb := heap_alloc_self w (.cells (callC c h) 59)
  have hc0 := hc.below hb0
  have HB := Lib.hid (And.intro hb0 (And.intro kb hc0))
  clear hb0 kb hc0 hc
  cases hm : callB c
  · go_enter Tryz.func36, Tryz.ntmps36
    go_wp2_with fail
    refine (callMay_any c h _ HB.out.2.2).mono ?_
    rintro e w1 ⟨rfl, hb1⟩
    rw [hm]
    go_wp2
    go_ret
    refine ⟨.slice none 0 0, rfl, ?_, HB.out.1.trans (hb1.mono HB.out.1.size)⟩
    unfold callEnc
    rw [hm]
    exact World.ownsRow_nil _ _ _ _
  · have ok := callB_ok hm
    have l1 := lbytes_le (M := 44) (l := c.gs) (enc := gbytes) (fun x hx => by rw [gbytes_len]; have := (ok.g x hx).1; omega)
    have l2 := lbytes_le (M := 4044) (l := c.ws) (enc := qbytes) (fun x hx => by rw [qbytes_len]; have := (ok.w x hx).1; have := (ok.w x hx).2; omega)
    have l3 := xbytes_len c.key
    have HL : Hid (8 + 8 + 8 + (xbytes c.key).length + 8 + (lbytes gbytes c.gs).length + (lbytes qbytes c.ws).length ≤ 400000) := by
      show _ ≤ _
      have := ok.gn; have := ok.wn; have := ok.y
      have a1 : c.gs.length * 44 ≤ 20 * 44 := Nat.mul_le_mul_right _ ok.gn
      have a2 : c.ws.length * 4044 ≤ 64 * 4044 := Nat.mul_le_mul_right _ ok.wn
      omega
    clear l1 l2 l3
    have OK := Lib.hid ok
    have HM := Lib.hid hm
    clear ok
    go_enter Tryz.func36, Tryz.ntmps36
    go_wp2_with fail
    refine (callMay_any c h _ HB.out.2.2).mono ?_
    rintro e wb ⟨rfl, hb1⟩
    rw [hm]
    have HI := Lib.hid (show w.heap.size < wb.heap.size by have := hb1.size; simp at this; omega)
    have HX := Lib.hid (fun o => (hb1.cell (p := ⟨w.heap.size, o, none⟩) (by simp)).trans (cell_of_obj HB.out.2.1 o))
    have hd := Lib.hid (HB.out.2.2.below hb1)
    have HW := Lib.hid (HB.out.1.trans (hb1.mono HB.out.1.size))
    clear hb1 HB hm
    have hx0 := HX.out
    have hp0 := Puts.refl wb.heap.size wb
    have ho0 := World.ownsRow_nil wb wb.heap.size 5 1
    go_wp2_with fail
    refine Calls.mono (callNum_any c.frm _ 0 [] wb.heap.size wb OK.out.f.1 (by show _ < _; have := OK.out.f.2; omega) ho0 (Nat.le_refl _) (by omega)) ?_
    rintro e w1 ⟨v1, rfl, ho1, hr1⟩
    have hp1 := hp0.trans hr1
    have hx1 := fun o => (hp1.below.cell (p := ⟨w.heap.size, o, none⟩) HI.out).trans (HX.out o)
    clear hr1 hx0 hp0 ho0
    go_wp2_with fail
    refine Calls.mono (callNum_any c.id _ _ _ wb.heap.size _ (by have := OK.out.i.1; omega) (by show _ < _; have := OK.out.i.2; omega) ho1 hp1.below.size (by omega)) ?_
    rintro e w2 ⟨v2, rfl, ho2, hr2⟩
    have hp2 := hp1.trans hr2
    have hx2 := fun o => (hp2.below.cell (p := ⟨w.heap.size, o, none⟩) HI.out).trans (HX.out o)
    clear hr2 hx1 hp1 ho1
    go_wp2_with fail
    refine Calls.mono (callNum_any c.kind _ _ _ wb.heap.size _ (by have := OK.out.k.1; omega) (by show _ < _; have := OK.out.k.2; omega) ho2 hp2.below.size (by omega)) ?_
    rintro e w3 ⟨v3, rfl, ho3, hr3⟩
    have hp3 := hp2.trans hr3
    have hx3 := fun o => (hp3.below.cell (p := ⟨w.heap.size, o, none⟩) HI.out).trans (HX.out o)
    clear hr3 hx2 hp2 ho2
    go_wp2_with fail
    refine Calls.mono (callText_any c.key _ _ _ wb.heap.size _ OK.out.y ho3 hp3.below.size (by omega)) ?_
    rintro e w4 ⟨v4, rfl, ho4, hr4⟩
    have hp4 := hp3.trans hr4
    have hx4 := fun o => (hp4.below.cell (p := ⟨w.heap.size, o, none⟩) HI.out).trans (HX.out o)
    clear hr4 hx3 hp3 ho3
    go_wp2_with fail
    refine Calls.mono (callNum_any c.rev _ _ _ wb.heap.size _ OK.out.r.1 (by show _ < _; have := OK.out.r.2; omega) ho4 hp4.below.size (by have := HL.out; omega)) ?_
    rintro e w5 ⟨v5, rfl, ho5, hr5⟩
    have hp5 := hp4.trans hr5
    have hx5 := fun o => (hp5.below.cell (p := ⟨w.heap.size, o, none⟩) HI.out).trans (HX.out o)
    clear hr5 hx4 hp4 ho4
    go_wp2_with fail
    refine Calls.mono (callGuards_any h.ga c.gs h.gc _ _ _ wb _ hd.out.gs (by have := OK.out.gn; omega) OK.out.g hp5.below ho5 (by have := HL.out; omega)) ?_
    rintro e w6 ⟨v6, rfl, ho6, hr6⟩
    have hp6 := hp5.trans hr6
    have hx6 := fun o => (hp6.below.cell (p := ⟨w.heap.size, o, none⟩) HI.out).trans (HX.out o)
    clear hr6 hx5 hp5 ho5
    go_wp2_with fail
    refine Calls.mono (callWrites_any h.wa c.ws h.wc _ _ _ wb _ hd.out.ws (by have := OK.out.wn; omega) OK.out.w hp6.below ho6 (by have := HL.out; omega)) ?_
    rintro e w7 ⟨v7, rfl, ho7, hr7⟩
    have hp7 := hp6.trans hr7
    have hx7 := fun o => (hp7.below.cell (p := ⟨w.heap.size, o, none⟩) HI.out).trans (HX.out o)
    clear hr7 hx6 hp6 ho6
    go_wp2
    go_ret
    refine ⟨v7, rfl, ?_, HW.out.trans (hp7.below.mono HW.out.size)⟩
    unfold callEnc
    rw [HM.out]
    have ho := World.ownsRow.mono ho7 HW.out.size
    refine own_as ho ?_
    simp [cbytes]
end Go.Proofs.YtaleceobkbgcnaaGreat
namespace Go.Proofs.YtaleceobkbgcnaaGreat
open Go.RowKit

/-- A reader at block R: what is still to be read lies in the memory of w0. -/
structure RdC (w0 w : World) (R : Nat) (st : List Int × Bool) : Prop where
  old : w0.heap.size ≤ R
  below : Below w0.heap.size w0 w
  obj : ∃ a cap, w.heap[R]? = some (.cells #[.slice a st.1.length cap, .bool st.2] 135) ∧ st.1.length ≤ cap ∧ cap ≤ maxLen ∧ AtB w0 a st.1 ∧ (a = none → cap = 0)
theorem AtB.take {w : World} {a : Option Addr} {l : List Int} (h : AtB w a l) (k : Nat) : AtB w a (l.take k) := fun i hi => by
  rw [List.length_take] at hi
  obtain ⟨b, off, e, hb, hc, h0, h1⟩ := h i (by omega)
  have hg : (l.take k).getD i 0 = l.getD i 0 := by simp [List.getD_eq_getElem?_getD, List.getElem?_take_of_lt (show i < k by omega)]
  rw [hg]
  exact ⟨b, off, e, hb, hc, h0, h1⟩
/-- The next n bytes, and what is left. -/
def tTake (n : Nat) (st : List Int × Bool) : List Int × (List Int × Bool) := if st.1.length < n then ([], (st.1, true)) else (st.1.take n, (st.1.drop n, st.2))
set_option maxRecDepth 100000 in
set_option maxHeartbeats 1000000 in
theorem take_no (R n : Nat) (l : List Int) (bad : Bool) (w0 w : World) (hr : RdC w0 w R (l, bad)) (h8 : l.length < n) :
    Calls Tryz.prog 128 #[.pointer (some ⟨R, 0, none⟩), .int .i64 n] w fun e w' => e = .returned (.slice none 0 0) ∧ RdC w0 w' R (l, true) ∧ w.grownBy w' (some R) := by
  obtain ⟨ho, hb, a, cap, hobj, hc1, hc2, hat, hno⟩ := hr
  have c0 := cell_of_obj hobj 0
  have c1 := cell_of_obj hobj 1
  simp at c0 c1
  have f1 := free_of_obj hobj 1
  have hi : (l.length : Int) < (n : Int) := by omega
  go_enter Tryz.func128, Tryz.ntmps128
  go_wp2
  go_ret
  exact ⟨rfl, ⟨ho, hb.trans ((Below.refl _ _).setCell (by simpa using ho) _), a, cap, obj_set1 hobj, hc1, hc2, hat, hno⟩, grown_set _ _ _ _⟩
def TakeP (w0 w : World) (R n : Nat) (l : List Int) (st : List Int × Bool) (e : Ending) (w' : World) : Prop := ∃ a c, e = .returned (.slice a n c) ∧ AtB w0 a l ∧ n ≤ c ∧ c ≤ maxLen ∧ (a = none → c = 0) ∧ RdC w0 w' R st ∧ w.grownBy w' (some R)
set_option maxRecDepth 100000 in
set_option maxHeartbeats 1000000 in
theorem take_yes (R n : Nat) (l : List Int) (bad : Bool) (w0 w : World) (hr : RdC w0 w R (l, bad)) (h8 : n ≤ l.length) :
    Calls Tryz.prog 128 #[.pointer (some ⟨R, 0, none⟩), .int .i64 n] w (TakeP w0 w R n (l.take n) (l.drop n, bad)) := by
  obtain ⟨ho, hb, a, cap, hobj, hc1, hc2, hat, hno⟩ := hr
  have c0 := cell_of_obj hobj 0
  have c1 := cell_of_obj hobj 1
  dsimp only at c0 c1 hc1 hat
  simp at c0 c1
  have HOB := Lib.hid hobj
  have HAT := Lib.hid hat
  have HNO := Lib.hid hno
  have f0 := free_of_obj hobj 0
  have hi : ¬ (l.length : Int) < (n : Int) := by omega
  have hi2 : (n : Int) ≤ (l.length : Int) := by omega
  have hk : n ≤ cap := by omega
  unfold maxLen at hc2
  rcases Nat.eq_zero_or_pos l.length with hz | hz
  · obtain rfl : n = 0 := by omega
    go_enter Tryz.func128, Tryz.ntmps128
    go_wp2
    go_ret
    refine ⟨a, cap, rfl, fun i hi => (by simp at hi), Nat.zero_le _, by unfold maxLen; omega, HNO.out, ⟨ho, hb.trans ((Below.refl _ _).setCell (by simpa using ho) _), a, cap, ?_, by simp; omega, by unfold maxLen; omega, by simpa using HAT.out, HNO.out⟩, grown_set _ _ _ _⟩
    show _ = some (Obj.cells #[.slice a l.length cap, .bool bad] 135)
    rw [hz]
    exact obj_set0 HOB.out
  · obtain ⟨b, off, rfl, hbb, _⟩ := hat 0 hz
    clear hat hobj hno
    go_enter Tryz.func128, Tryz.ntmps128
    go_wp2
    · go_ret
      refine ⟨_, _, rfl, HAT.out.take n, by omega, by unfold maxLen; omega, fun h => (by cases h), ⟨ho, hb.trans ((Below.refl _ _).setCell (by simpa using ho) _), _, 0, by rw [List.length_drop]; exact obj_set0 HOB.out, by simp; omega, by decide, fun i hi => (by simp at hi; omega), fun h => (by cases h)⟩, grown_set _ _ _ _⟩
    · go_ret
      refine ⟨_, _, rfl, HAT.out.take n, by omega, by unfold maxLen; omega, fun h => (by cases h), ⟨ho, hb.trans ((Below.refl _ _).setCell (by simpa using ho) _), _, cap - n, by rw [List.length_drop]; exact obj_set0 HOB.out, by simp; omega, by unfold maxLen; omega, HAT.out.drop n, fun h => (by cases h)⟩, grown_set _ _ _ _⟩
set_option maxRecDepth 100000 in
set_option maxHeartbeats 1000000 in
theorem num_yes (R : Nat) (l : List Int) (bad : Bool) (w0 w : World) (hr : RdC w0 w R (l, bad)) (h8 : 8 ≤ l.length) :
    Calls Tryz.prog 78 #[.pointer (some ⟨R, 0, none⟩)] w fun e w' => e = .returned (.int .i64 (wrap64 (wordOf (l.take 8)))) ∧ RdC w0 w' R (l.drop 8, bad) ∧ w.grownBy w' (some R) := by
  go_enter Tryz.func78, Tryz.ntmps78
  go_wp2_with fail
  refine (take_yes R 8 l bad w0 w hr h8).mono ?_
  rintro e w1 ⟨a, c, rfl, hat, hc1, hc2, hno, hr1, hg1⟩
  have hlen : (l.take 8).length = 8 := by rw [List.length_take]; omega
  obtain ⟨b, off, rfl, hbb, _⟩ := hat 0 (by omega)
  have hcell : ∀ k, k < 8 → w1.cell? ⟨b, off + k, none⟩ = some (.int .u8 (l.getD k 0)) ∧ 0 ≤ l.getD k 0 ∧ l.getD k 0 ≤ 255 := fun k hk => by
    obtain ⟨b', off', ha', hb', d0, d1, d2⟩ := hat k (by omega)
    simp at ha'
    obtain ⟨rfl, rfl⟩ := ha'
    have e : (l.take 8).getD k 0 = l.getD k 0 := by simp [List.getD_eq_getElem?_getD, List.getElem?_take_of_lt hk]
    rw [e] at d0 d1 d2
    exact ⟨cell_later hr1.below d0, d1, d2⟩
  unfold maxLen at hc2
  have HR := Lib.hid (And.intro hr1 hg1)
  clear hr1 hg1 hat hr hno
  go_wp2_with fail
  go_loop [3, 9] (fun x i => ∃ k : Nat, k ≤ 8 ∧ i = .int .i64 k ∧ x = .int .u64 (wordOf (l.take k)) ∧ Hid (0 ≤ wordOf (l.take k) ∧ wordOf (l.take k) < 256 ^ k)) (fun _ i => 8 - (intOf i).toNat)
  case atStart => exact ⟨0, by omega, rfl, rfl, by show _ ∧ _; simp [wordOf]⟩
  case round =>
    obtain ⟨k, hk, rfl, rfl, hx⟩ := hrel
    by_cases hlt : k < 8
    · obtain ⟨d0, d1, d2⟩ := hcell k hlt
      have hsn := Lib.hid (wordOf_snoc l k (by omega))
      clear hcell
      generalize l.getD k 0 = c at d0 d1 d2 hsn
      generalize hg : wordOf (l.take k) = x at hx hsn
      have hor := Lib.hid (or_byte x c hx.out.1 (Int.lt_of_lt_of_le hx.out.2 (pow_le k hlt)) d1 d2)
      go_wp2
      go_round
      case rel =>
        refine ⟨k + 1, by omega, by go_num, by rw [hor.out, hsn.out], ?_⟩
        show _ ∧ _
        rw [hsn.out, Int.pow_succ]
        have := hx.out
        omega
      case measure => simp [intOf]; omega
    · obtain rfl : k = 8 := by omega
      go_wp2
      go_ret
      exact ⟨rfl, HR.out.1, HR.out.2⟩
set_option maxRecDepth 100000 in
set_option maxHeartbeats 1000000 in
theorem num_no (R : Nat) (l : List Int) (bad : Bool) (w0 w : World) (hr : RdC w0 w R (l, bad)) (h8 : l.length < 8) :
    Calls Tryz.prog 78 #[.pointer (some ⟨R, 0, none⟩)] w fun e w' => e = .returned (.int .i64 0) ∧ RdC w0 w' R (l, true) ∧ w.grownBy w' (some R) := by
  go_enter Tryz.func78, Tryz.ntmps78
  go_wp2_with fail
  refine (take_no R 8 l bad w0 w hr h8).mono ?_
  rintro e w1 ⟨rfl, hr1, hg1⟩
  go_wp2_with fail
  go_loop [3, 9] (fun x i => x = .int .u64 0 ∧ i = .int .i64 0) (fun _ _ => 0)
  case atStart => exact ⟨rfl, rfl⟩
  case round =>
    obtain ⟨rfl, rfl⟩ := hrel
    go_wp2
    go_ret
    exact ⟨rfl, hr1, hg1⟩
/-- The next number, and what is left. -/
def tNum (st : List Int × Bool) : Int × (List Int × Bool) := if st.1.length < 8 then (0, (st.1, true)) else (wrap64 (wordOf (st.1.take 8)), (st.1.drop 8, st.2))
theorem num_any (R : Nat) (st : List Int × Bool) (w0 w : World) (hr : RdC w0 w R st) :
    Calls Tryz.prog 78 #[.pointer (some ⟨R, 0, none⟩)] w fun e w' => e = .returned (.int .i64 (tNum st).1) ∧ RdC w0 w' R (tNum st).2 ∧ w.grownBy w' (some R) := by
  obtain ⟨l, bad⟩ := st
  unfold tNum
  by_cases h8 : l.length < 8
  · simp only [h8, if_true]
    exact num_no R l bad w0 w hr h8
  · simp only [h8, if_false]
    exact num_yes R l bad w0 w hr (by omega)
theorem RdC.setBad {w0 w : World} {R : Nat} {st : List Int × Bool} (h : RdC w0 w R st) : RdC w0 (w.setCell ⟨R, 1, none⟩ (.bool true)) R (st.1, true) := by
  obtain ⟨ho, hb, a, cap, hobj, hc⟩ := h
  exact ⟨ho, hb.trans ((Below.refl _ _).setCell (by simpa using ho) _), a, cap, obj_set1 hobj, hc⟩
/-- How many follow, at most that many. -/
def tMany (most : Nat) (st : List Int × Bool) : Nat × (List Int × Bool) := if (tNum st).1 < 0 ∨ (most : Int) < (tNum st).1 then (0, ((tNum st).2.1, true)) else ((tNum st).1.toNat, (tNum st).2)
set_option maxRecDepth 100000 in
set_option maxHeartbeats 1000000 in
theorem many_any (R most : Nat) (st : List Int × Bool) (w0 w : World) (hr : RdC w0 w R st) (hm : most ≤ 1000000) :
    Calls Tryz.prog 129 #[.pointer (some ⟨R, 0, none⟩), .int .i64 most] w fun e w' => e = .returned (.int .i64 (tMany most st).1) ∧ RdC w0 w' R (tMany most st).2 ∧ w.grownBy w' (some R) := by
  have HT := Lib.hid (rfl : tMany most st = tMany most st)
  by_cases h1 : (tNum st).1 < 0 ∨ (most : Int) < (tNum st).1
  · have e : tMany most st = (0, ((tNum st).2.1, true)) := by unfold tMany; rw [if_pos h1]
    rw [e]
    clear e HT
    go_enter Tryz.func129, Tryz.ntmps129
    go_wp2_with fail
    refine (num_any R st w0 w hr).mono ?_
    rintro e w1 ⟨rfl, hr1, hg1⟩
    have HR := Lib.hid (And.intro hr1.setBad hg1)
    obtain ⟨_, _, a, cap, hobj, _⟩ := hr1
    have c1 := cell_of_obj hobj 1
    simp at c1
    have f1 := free_of_obj hobj 1
    generalize (tNum st).1 = x at *
    clear hobj hg1 hr
    go_wp2_with fail
    all_goals
      try (exfalso; omega)
      go_ret
      exact ⟨rfl, HR.out.1, grown_trans HR.out.2 (grown_set _ _ _ _)⟩
  · have e : tMany most st = ((tNum st).1.toNat, (tNum st).2) := by unfold tMany; rw [if_neg h1]
    rw [e]
    clear e HT
    go_enter Tryz.func129, Tryz.ntmps129
    go_wp2_with fail
    refine (num_any R st w0 w hr).mono ?_
    rintro e w1 ⟨rfl, hr1, hg1⟩
    generalize hx : (tNum st).1 = x at *
    have HX := Lib.hid hx
    clear hx
    have x0 : 0 ≤ x := by omega
    have x1 : x ≤ (most : Int) := by omega
    clear h1
    go_wp2_with fail
    go_ret
    exact ⟨ret_int (by rw [HX.out]; omega), hr1, hg1⟩
/-- The next flag. -/
def tFlag (st : List Int × Bool) : Bool × (List Int × Bool) := (decide ((tMany 1 st).1 = 1), (tMany 1 st).2)
theorem flag_any (R : Nat) (st : List Int × Bool) (w0 w : World) (hr : RdC w0 w R st) :
    Calls Tryz.prog 130 #[.pointer (some ⟨R, 0, none⟩)] w fun e w' => e = .returned (.bool (tFlag st).1) ∧ RdC w0 w' R (tFlag st).2 ∧ w.grownBy w' (some R) := by
  go_enter Tryz.func130, Tryz.ntmps130
  go_wp2_with fail
  refine (many_any R 1 st w0 w hr (by omega)).mono ?_
  rintro e w1 ⟨rfl, hr1, hg1⟩
  go_wp2
  go_ret
  refine ⟨ret_bool ?_, hr1, hg1⟩
  unfold tFlag
  rw [Bool.eq_iff_iff]
  simp
  try omega
theorem takeP_any (R n : Nat) (st : List Int × Bool) (w0 w : World) (hr : RdC w0 w R st) :
    Calls Tryz.prog 128 #[.pointer (some ⟨R, 0, none⟩), .int .i64 n] w fun e w' => ∃ a c, e = .returned (.slice a (tTake n st).1.length c) ∧ AtB w0 a (tTake n st).1 ∧ (tTake n st).1.length ≤ c ∧ c ≤ maxLen ∧ (a = none → c = 0) ∧ RdC w0 w' R (tTake n st).2 ∧ w.grownBy w' (some R) := by
  obtain ⟨l, bad⟩ := st
  by_cases h8 : l.length < n
  · have e : tTake n (l, bad) = ([], (l, true)) := by unfold tTake; rw [if_pos h8]
    rw [e]
    refine (take_no R n l bad w0 w hr h8).mono ?_
    rintro e w1 ⟨rfl, hr1, hg1⟩
    exact ⟨none, 0, rfl, fun i hi => (by simp at hi), Nat.le_refl _, Nat.zero_le _, fun _ => rfl, hr1, hg1⟩
  · have e : tTake n (l, bad) = (l.take n, (l.drop n, bad)) := by unfold tTake; rw [if_neg h8]
    have hl : (l.take n).length = n := by rw [List.length_take]; omega
    rw [e]
    refine (take_yes R n l bad w0 w hr (by omega)).mono ?_
    rintro e w1 ⟨a, c, rfl, h1, h2, h3, h4, h5, h6⟩
    exact ⟨a, c, by rw [hl], h1, by rw [hl]; exact h2, h3, h4, h5, h6⟩
theorem AtB.plain {w : World} {a : Option Addr} {l : List Int} (h : AtB w a l) (hl : 0 < l.length) : PlainA a := by
  obtain ⟨b, off, e, _⟩ := h 0 hl
  exact Or.inr ⟨b, off, e⟩
theorem conv_0 (w : World) (a : Option Addr) (c : Nat) : (convert 28 9 (.slice a 0 c)).run Tryz.prog w = .ok (.string ⟨#[]⟩) w := by
  cases a with
  | none => exact run_convert_bytes_nil w _ 5 Tryz.underlying28 Tryz.underlying5 0 c _ Tryz.underlying9
  | some b =>
    have hl : (loadCells b 0).run Tryz.prog w = .ok (([] : List Int).map (Value.int .u8)).toArray w := by
      simpa using run_loadCells_list (P := Tryz.prog) w b [] (fun j v hj => by simp at hj)
    rw [run_convert_bytes_string w 28 9 5 _ 0 c Tryz.underlying28 Tryz.underlying5 Tryz.underlying9, run_bytesToString w b 0 c [] hl]
    rfl
/-- The next text of at most that many bytes. -/
def tText (most : Nat) (st : List Int × Bool) : ByteArray × (List Int × Bool) := (strOfNums (tTake (tMany most st).1 (tMany most st).2).1, (tTake (tMany most st).1 (tMany most st).2).2)
def tBytes (most : Nat) (st : List Int × Bool) : List Int × (List Int × Bool) := tTake (tMany most st).1 (tMany most st).2
set_option maxRecDepth 100000 in
set_option maxHeartbeats 1000000 in
theorem text_any (R most : Nat) (st : List Int × Bool) (w0 w : World) (hr : RdC w0 w R st) (hm : most ≤ 1000000) :
    Calls Tryz.prog 79 #[.pointer (some ⟨R, 0, none⟩), .int .i64 most] w fun e w' => e = .returned (.string (tText most st).1) ∧ RdC w0 w' R (tText most st).2 ∧ w.grownBy w' (some R) := by
  go_enter Tryz.func79, Tryz.ntmps79
  go_wp2_with fail
  refine (many_any R most st w0 w hr hm).mono ?_
  rintro e w1 ⟨rfl, hr1, hg1⟩
  go_wp2_with fail
  refine (takeP_any R _ _ w0 w1 hr1).mono ?_
  rintro e w2 ⟨a, c, rfl, hat, hc1, hc2, hno, hr2, hg2⟩
  have HT : Hid (tText most st = (strOfNums (tTake (tMany most st).1 (tMany most st).2).1, (tTake (tMany most st).1 (tMany most st).2).2)) := rfl
  generalize tTake (tMany most st).1 (tMany most st).2 = y at *
  have hg := grown_trans hg1 hg2
  rcases Nat.eq_zero_or_pos y.1.length with hz | hz
  · have hcv := conv_0 w2 a c
    have hy : y.1 = [] := List.eq_nil_of_length_eq_zero hz
    rw [hz]
    go_wp2
    go_ret
    rw [HT.out, hy]
    exact ⟨rfl, hr2, hg⟩
  · have hcv := conv_b w2 a y.1 y.1.length c rfl (hat.plain hz) (hat.below' hr2.below)
    go_wp2
    go_ret
    rw [HT.out]
    exact ⟨rfl, hr2, hg⟩
/-- Of values that are read only the length and the memory of its own are told. -/
def BytesP (w0 w : World) (R : Nat) (l : List Int) (st : List Int × Bool) (e : Ending) (w' : World) : Prop := ∃ v, e = .returned v ∧ w'.ownsRow w.heap.size 5 1 v l.length (u8s l) ∧ RdC w0 w' R st ∧ w.grownBy w' (some R)
set_option maxRecDepth 100000 in
set_option maxHeartbeats 1000000 in
theorem bytes_any (R most : Nat) (st : List Int × Bool) (w0 w : World) (hr : RdC w0 w R st) (hm : most ≤ 1000000) (hl : st.1.length ≤ 140737488355328) (hR : R < w.heap.size) :
    Calls Tryz.prog 131 #[.pointer (some ⟨R, 0, none⟩), .int .i64 most] w (BytesP w0 w R (tBytes most st).1 (tBytes most st).2) := by
  obtain ⟨i0, hi, hz0, hz1, hz2⟩ := info_parts infoB8
  go_enter Tryz.func131, Tryz.ntmps131
  go_wp2_with fail
  refine (many_any R most st w0 w hr hm).mono ?_
  rintro e w1 ⟨rfl, hr1, hg1⟩
  have hle : (tBytes most st).1.length ≤ 1000000 := by
    have h1 : (tMany most st).1 ≤ most := by
      unfold tMany
      split <;> simp <;> omega
    unfold tBytes tTake
    split
    · simp
    · simp only [List.length_take]; omega
  go_wp2_with fail
  refine (takeP_any R _ _ w0 w1 hr1).mono ?_
  rintro e w2 ⟨a, c, rfl, hat, hc1, hc2, hno, hr2, hg2⟩
  have hg := grown_trans hg1 hg2
  have hat2 := hat.below' hr2.below
  have HT : Hid (tBytes most st = tTake (tMany most st).1 (tMany most st).2) := rfl
  rw [HT.out] at hle
  generalize tTake (tMany most st).1 (tMany most st).2 = y at *
  have hsz := hg.size
  go_wp2_with (at_builtin; refine wpList_append_opt rfl _ _ 28 rfl w.heap.size 5 i0 _ 1 1 Tryz.underlying28 hi hz0 hz1 hz2 rfl (by decide) (.slice none 0 0) 0 [] rfl (World.ownsRow_nil _ _ 5 1) a y.1.length c (u8s y.1) rfl (fun h => ⟨by have := hno h; omega, hno h⟩) (by unfold u8s; rw [List.length_map, Nat.mul_one]) (atB_news' hat2) (by intro u hu; unfold u8s at hu; obtain ⟨z, _, rfl⟩ := List.mem_map.1 hu; rfl) (by rw [Nat.zero_add]; unfold maxLen; omega) (by omega) hsz ?_; intro v3 w3 ho3 hg3)
  rw [Nat.zero_add, List.nil_append] at ho3
  go_ret
  rw [HT.out]
  obtain ⟨q1, q2, a', c', hobj, q3⟩ := hr2
  have hk := (hg3.block R (Array.getElem?_eq_some_iff.1 hobj).1 (by simp [Value.ownBlock])).trans hobj
  refine ⟨v3, rfl, ho3, ⟨q1, q2.trans ((grown_below hg3 (World.ownsRow_nil _ w2.heap.size 5 1) (Nat.le_refl _)).mono (by have := q2.size; omega)), a', c', hk, q3⟩, grown_trans hg ⟨hg3.os, hg3.tape, hg3.output, hg3.size, fun k hk2 hne => hg3.block k hk2 (by simp [Value.ownBlock])⟩⟩
end Go.Proofs.YtaleceobkbgcnaaGreat
