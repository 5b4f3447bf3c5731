/-
  How answers are written in bytes: numbers, flags, texts, values. No conditions beyond what is written in each statement.
-/
import Derived.Test.YtaleceobkbgcnaaGreatGCallA
set_option linter.unusedSimpArgs false
set_option linter.unusedVariables false
namespace Go.Proofs.YtaleceobkbgcnaaGreat.Rp
open Go.RowKit

set_option maxRecDepth 100000 in
set_option maxHeartbeats 1000000 in
theorem callNum_any (z : Int) (v : Value) (n : Nat) (xs : List Value) (B : Nat) (w : World) (h0 : 0 ≤ z) (h1 : Hid (z < 9223372036854775808)) (ho : w.ownsRow B 5 1 v n xs) (hB : B ≤ w.heap.size) (hn : n ≤ 1000000) :
    Calls Tryz.prog 110 #[v, .int .i64 z] w (PutPost B w (n + 8) (xs ++ wbytes z.toNat)) := by
  obtain ⟨x, rfl⟩ := Int.eq_ofNat_of_zero_le h0
  rw [Int.toNat_natCast]
  have hx : Hid (x < 18446744073709551616) := by show x < _; have := h1.out; omega
  have hm1 : IntKind.u64.wrap (x : Int) = x := by rw [IntWalk.u64_in _ (by have := hx.out; omega)]
  clear h1
  obtain ⟨i0, hi, hz0, hz1, hz2⟩ := info_parts infoB8
  go_enter Tryz.func110, Tryz.ntmps110
  go_wp2_with fail
  go_loopw [0, 6] (fun u i wr => ∃ k : Nat, k ≤ 8 ∧ i = .int .i64 (56 - 8 * (k : Int)) ∧ wr.ownsRow B 5 1 u (n + k) (xs ++ (wbytes x).take k) ∧ Puts B w wr) (fun _ i _ => (intOf i + 8).toNat)
  case atStart => exact ⟨0, by omega, rfl, by simpa using ho, Puts.refl _ _⟩
  case round =>
    obtain ⟨k, hk, rfl, hown, hput⟩ := hrel
    have hBw : B ≤ wr.heap.size := Nat.le_trans hB hput.below.size
    by_cases h8 : k < 8
    · have s0 : (0 : Int) ≤ 56 - 8 * (k : Int) := by omega
      have s1 : 56 - 8 * (k : Int) ≤ 56 := by omega
      have hl : n + (k + 1) ≤ maxLen := by unfold maxLen; omega
      have hl2 : (n + (k + 1)) * 1 ≤ 140737488355328 := by omega
      have hB2 : B ≤ wr.heap.size + 1 := by have := hput.below.size; omega
      go_wp2_with (at_builtin; refine wpList_append_own _ rfl (.tmp 13) (.tmp 18) 28 rfl B 5 i0 (.int .u8 0) 1 1 Tryz.underlying28 hi hz0 hz1 hz2 rfl (by decide) _ (n + k) (xs ++ (wbytes x).take k) rfl (hown.alloc _) ⟨wr.heap.size, 0, none⟩ 1 1 [wbyte x k] rfl rfl (cell_one_new _ _ _) (by simp [wbyte, Value.oneCell']) hl hl2 (by simp; exact hB2) ?_; intro v' w1 hown' hgrow hnil)
      go_roundw
      case rel =>
        refine ⟨k + 1, by omega, by go_num, ?_, ?_⟩
        · rw [wbytes_succ x k h8, ← List.append_assoc]; exact hown'
        · exact hput.trans ((Puts.refl B wr).alloc (by omega) _ |>.trans (Puts.grown (hown.alloc _) hgrow (by simp; exact hB2)))
      case measure => simp [intOf]; omega
    · go_wp2
      go_ret
      obtain rfl : k = 8 := by omega
      exact ⟨_, rfl, hown, hput⟩
set_option maxRecDepth 100000 in
theorem callFlag_any (b : Bool) (v : Value) (n : Nat) (xs : List Value) (B : Nat) (w : World) (ho : w.ownsRow B 5 1 v n xs) (hB : B ≤ w.heap.size) (hn : n ≤ 1000000) :
    Calls Tryz.prog 152 #[v, .bool b] w (PutPost B w (n + 8) (xs ++ fbytes b)) := by
  cases b
  · go_enter Tryz.func152, Tryz.ntmps152
    go_wp2_with fail
    refine (callNum_any 0 v n xs B w (by omega) (by show _ < _; omega) ho hB hn).mono ?_
    rintro e w' ⟨v', rfl, ho', hp⟩
    go_wp2
    go_ret
    exact ⟨v', rfl, ho', hp⟩
  · go_enter Tryz.func152, Tryz.ntmps152
    go_wp2_with fail
    refine (callNum_any 1 v n xs B w (by omega) (by show _ < _; omega) ho hB hn).mono ?_
    rintro e w' ⟨v', rfl, ho', hp⟩
    go_wp2
    go_ret
    exact ⟨v', rfl, ho', hp⟩
set_option maxRecDepth 100000 in
set_option maxHeartbeats 1000000 in
theorem callText_any (s : ByteArray) (v : Value) (n : Nat) (xs : List Value) (B : Nat) (w : World) (hs : s.size ≤ 20) (ho : w.ownsRow B 5 1 v n xs) (hB : B ≤ w.heap.size) (hn : n ≤ 900000) :
    Calls Tryz.prog 150 #[v, .string s] w (PutPost B w (n + (xbytes s).length) (xs ++ xbytes s)) := by
  obtain ⟨i0, hi, hz0, hz1, hz2⟩ := info_parts infoB8
  go_enter Tryz.func150, Tryz.ntmps150
  go_wp2_with fail
  refine (callNum_any (s.size : Int) v n xs B w (by omega) (by show _ < (9223372036854775808 : Int); omega) ho hB (by omega)).mono ?_
  rintro e w1 ⟨v1, rfl, ho1, hp1⟩
  rw [Int.toNat_natCast] at ho1
  have hB1 := Nat.le_trans hB hp1.below.size
  go_wp2_with (at_builtin; refine Go.Lib.wpList_append_own_string w1 rfl (.tmp 9) (.tmp 10) 28 9 rfl B 5 i0 Tryz.underlying28 Tryz.underlying9 hi hz0 hz1 hz2 v1 (n + 8) _ rfl ho1 s rfl (by unfold maxLen; omega) (by omega) hB1 ?_; intro v2 w2 ho2 hg2 _)
  go_ret
  refine ⟨v2, rfl, ?_, hp1.trans (Puts.grown ho1 hg2 hB1)⟩
  rw [xbytes_len, show n + (8 + s.size) = n + 8 + s.size by omega]
  unfold xbytes
  rw [← List.append_assoc]
  exact ho2
set_option maxRecDepth 100000 in
set_option maxHeartbeats 1000000 in
theorem callBytes_any (a : Option Addr) (l : List Int) (cap : Nat) (v : Value) (n : Nat) (xs : List Value) (B : Nat) (w : World) (hl : l.length ≤ 4000) (hat : AtB w a l) (hc : a = none → cap = 0) (hlc : l.length ≤ cap) (ho : w.ownsRow B 5 1 v n xs) (hB : B ≤ w.heap.size) (hn : n ≤ 900000) (ha : ∀ w', Puts B w w' → AtB w' a l) :
    Calls Tryz.prog 151 #[v, .slice a l.length cap] w (PutPost B w (n + (vbytes l).length) (xs ++ vbytes l)) := by
  obtain ⟨i0, hi, hz0, hz1, hz2⟩ := info_parts infoB8
  go_enter Tryz.func151, Tryz.ntmps151
  go_wp2_with fail
  refine (callNum_any (l.length : Int) v n xs B w (by omega) (by show _ < (9223372036854775808 : Int); omega) ho hB (by omega)).mono ?_
  rintro e w1 ⟨v1, rfl, ho1, hp1⟩
  rw [Int.toNat_natCast] at ho1
  have hB1 := Nat.le_trans hB hp1.below.size
  have hat1 := ha w1 hp1
  go_wp2_with (at_builtin; refine wpList_append_opt rfl (.tmp 9) (.tmp 10) 28 rfl B 5 i0 _ 1 1 Tryz.underlying28 hi hz0 hz1 hz2 rfl (by decide) v1 (n + 8) _ rfl ho1 a l.length cap (u8s l) rfl (fun h => ⟨by have := hc h; omega, hc h⟩) (by unfold u8s; rw [List.length_map, Nat.mul_one]) (atB_news' hat1) (by intro u hu; unfold u8s at hu; obtain ⟨y, _, rfl⟩ := List.mem_map.1 hu; rfl) (by unfold maxLen; omega) (by omega) hB1 ?_; intro v2 w2 ho2 hg2)
  go_ret
  refine ⟨v2, rfl, ?_, hp1.trans (Puts.grown ho1 hg2 hB1)⟩
  rw [vbytes_len, show n + (8 + l.length) = n + 8 + l.length by omega]
  unfold vbytes
  rw [← List.append_assoc]
  exact ho2
end Go.Proofs.YtaleceobkbgcnaaGreat.Rp
