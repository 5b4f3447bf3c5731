/-
  The law StoreUnder's walk. Its condition: the opening sentence.
-/
import Derived.Test.YtaleceobkbgcnaaGreatGLive
import Derived.Test.YtaleceobkbgcnaaGreatGBg
import Derived.Test.YtaleceobkbgcnaaGreatGRow
set_option linter.unusedSimpArgs false
set_option linter.unusedVariables false
namespace Go.Proofs.YtaleceobkbgcnaaGreat.Rp
open Go.RowKit

theorem mem_insD6 (x y : EntD) : ∀ E : List EntD, y ∈ insD x E ↔ y = x ∨ y ∈ E
  | [] => by simp [insD]
  | z :: r => by
    rw [insD]
    split
    · simp
    · rw [List.mem_cons, mem_insD6 x y r, List.mem_cons]
      constructor
      · rintro (h | h | h)
        · exact .inr (.inl h)
        · exact .inl h
        · exact .inr (.inr h)
      · rintro (h | h | h)
        · exact .inr (.inl h)
        · exact .inl h
        · exact .inr (.inr h)
theorem insD_len (x : EntD) : ∀ E : List EntD, (insD x E).length = E.length + 1
  | [] => rfl
  | z :: r => by
    rw [insD]
    split
    · rfl
    · rw [List.length_cons, insD_len x r, List.length_cons]
theorem putD_len (x : EntD) (E : List EntD) : (putD x E).length ≤ E.length + 1 := by
  unfold putD
  rw [insD_len]
  have := List.length_filter_le (fun y => !isK x.key y) E
  omega
def HasK (E : List EntD) (k : ByteArray) : Prop := ∃ x ∈ E, x.key = k
theorem HasK.put {E : List EntD} {k : ByteArray} (h : HasK E k) (x : EntD) : HasK (putD x E) k := by
  obtain ⟨y, hy, e⟩ := h
  by_cases hk : x.key = k
  · exact ⟨x, (mem_insD6 _ _ _).2 (.inl rfl), hk⟩
  · exact ⟨y, (mem_insD6 _ _ _).2 (.inr (List.mem_filter.2 ⟨hy, by simp [isK, e]; exact fun h => hk h.symm⟩)), e⟩
theorem HasK.self (x : EntD) (E : List EntD) : HasK (putD x E) x.key := ⟨x, (mem_insD6 _ _ _).2 (.inl rfl), rfl⟩
theorem HasK.find {E : List EntD} {k : ByteArray} (h : HasK E k) : (E.find? (isK k)).isSome = true := by
  obtain ⟨y, hy, e⟩ := h
  exact List.find?_isSome.2 ⟨y, hy, by simp [isK, e]⟩
def begB (P k : ByteArray) : Bool := decide (P.size ≤ k.size) && decide (k.extract 0 P.size = P)
/-- Of a beginning: whether a key that begins so was written behind Rev 1. -/
structure Und (P : ByteArray) (d : StoD) (b : Bool) (m : Nat) : Prop where
  t : b = decide (1 < d.T P)
  lo : 1 ≤ d.log.last
  hi : d.log.last ≤ m + 1
  has : HasK d.E (P ++ ⟨#[48]⟩)
  few : d.E.length ≤ m + 2
theorem txnF_T {d : StoD} {gs : List Gd} {x : Wr} (h : txnErr d gs [x] = 0) : (txnF d gs [x]).T = touchF d.T x.key (d.log.last + 1) x.key.size := by
  unfold txnF
  rw [if_pos h]
  rfl
theorem und_put {P k : ByteArray} {V : List Int} {d : StoD} {b : Bool} {m : Nat} (h : Und P d b m) (hP : 1 ≤ P.size) (hk : keyB k = true) (hV : V.length ≤ 4000) : Und P (txnF d [] [⟨k, V, false⟩]) (b || begB P k) (m + 1) := by
  have he : txnErr d [] [⟨k, V, false⟩] = 0 := err_put hk hV
  obtain ⟨f1, f2, _⟩ := txnF_one he
  have hT := txnF_T he
  have hlo := h.lo
  have hhi := h.hi
  have hfew := h.few
  have f1' : (txnF d [] [⟨k, V, false⟩]).E = putD ⟨k, d.log.last + 1, V⟩ d.E := by rw [f1]; rfl
  refine ⟨?_, by rw [f2]; omega, by rw [f2]; push_cast; omega, by rw [f1']; exact h.has.put _, by rw [f1']; have := putD_len ⟨k, d.log.last + 1, V⟩ d.E; omega⟩
  rw [hT, h.t]
  unfold touchF begB
  by_cases hb : P.size ≤ k.size ∧ k.extract 0 P.size = P
  · rw [if_pos ⟨hP, hb.1, hb.2.symm⟩, decide_eq_true hb.1, decide_eq_true hb.2, decide_eq_true (show 1 < d.log.last + 1 by omega)]
    simp
  · rw [if_neg (fun e => hb ⟨e.2.1, e.2.2.symm⟩)]
    have : (decide (P.size ≤ k.size) && decide (k.extract 0 P.size = P)) = false := by
      rw [Bool.and_eq_false_iff, decide_eq_false_iff_not, decide_eq_false_iff_not]
      by_cases h1 : P.size ≤ k.size
      · exact .inr fun h2 => hb ⟨h1, h2⟩
      · exact .inl h1
    rw [this, Bool.or_false]
theorem und_gone {P : ByteArray} {d : StoD} {b : Bool} {m : Nat} (h : Und P d b m) (hP : 1 ≤ P.size) (hk : keyB (P ++ ⟨#[48]⟩) = true) :
    txnErr d [] [⟨P ++ ⟨#[48]⟩, [], true⟩] = 0 ∧ 1 < (txnF d [] [⟨P ++ ⟨#[48]⟩, [], true⟩]).T P ∧ (txnF d [] [⟨P ++ ⟨#[48]⟩, [], true⟩]).log.last = d.log.last + 1 ∧ (txnF d [] [⟨P ++ ⟨#[48]⟩, [], true⟩]).E.length ≤ d.E.length := by
  have he : txnErr d [] [⟨P ++ ⟨#[48]⟩, [], true⟩] = 0 := by
    rw [err_one (by simp) (by rfl) (by simp [wrS, hk]), if_pos (by rfl), if_pos]
    simp [goneB, h.has.find]
  obtain ⟨f1, f2, _⟩ := txnF_one he
  refine ⟨he, ?_, f2, ?_⟩
  · rw [txnF_T he]
    have hlo := h.lo
    unfold touchF
    rw [if_pos]
    · omega
    · refine ⟨hP, by rw [ByteArray.size_append]; omega, ?_⟩
      exact (ByteArray.extract_append_eq_left rfl).symm
  · rw [f1, if_pos rfl]
    exact List.length_filter_le _ _
theorem und_last {P : ByteArray} {d : StoD} {q : ByteArray} (hP : keyB P = true) (hq : keyB q = true) : txnErr d [(P, 1, true)] [⟨q, [], false⟩] = if d.T P ≤ 1 then 0 else 6 := by
  rw [err_one (by simp) (by simp [gdS, hP]) (by simp [wrS, hq])]
  by_cases h : d.T P ≤ 1 <;> simp [holdAllB, holdB, h, goneB]
theorem und_first {P : ByteArray} (hP : 1 ≤ P.size) (hk : keyB (P ++ ⟨#[48]⟩) = true) (hz : P ++ ⟨#[48]⟩ ≠ ⟨#[122, 122]⟩) :
    txnErr newS [] [⟨P ++ ⟨#[48]⟩, [97], false⟩, ⟨⟨#[122, 122]⟩, [], false⟩] = 0 ∧ Und P (txnF newS [] [⟨P ++ ⟨#[48]⟩, [97], false⟩, ⟨⟨#[122, 122]⟩, [], false⟩]) false 0 := by
  have hzz : keyB ⟨#[122, 122]⟩ = true := by decide
  have hs : txnS [] [⟨P ++ ⟨#[48]⟩, [97], false⟩, ⟨⟨#[122, 122]⟩, [], false⟩] = true := by
    unfold txnS
    have : List.range 2 = [0, 1] := rfl
    simp [stepW, wrS, hk, hzz, hasB, this, hz]
  have he : txnErr newS [] [⟨P ++ ⟨#[48]⟩, [97], false⟩, ⟨⟨#[122, 122]⟩, [], false⟩] = 0 := by
    unfold txnErr
    rw [if_pos hs, if_pos (by rfl), if_pos (by simp [goneB])]
  refine ⟨he, ?_⟩
  have hl : (addD (newD 64) ([⟨P ++ ⟨#[48]⟩, [97], false⟩, ⟨⟨#[122, 122]⟩, [], false⟩].map (evD (revS newS)))).last = 1 := by
    have hf : followB (newD 64).last ([⟨P ++ ⟨#[48]⟩, [97], false⟩, ⟨⟨#[122, 122]⟩, [], false⟩].map (evD (revS newS))) = true :=
      (follow_iff _ _).2 ⟨by simp, by intro x hx; simp [evD] at hx; rcases hx with rfl | rfl <;> (show (0 : Int) < 1; decide), by simp [Rising, evD]⟩
    rw [addD_room (newD_ok 64) hf (show ((0 + 2 : Nat) : Int) ≤ 64 by decide)]
    rfl
  unfold txnF
  rw [if_pos he]
  have hT : (touchF (touchF (fun _ => 0) (P ++ ⟨#[48]⟩) 1 (P ++ ⟨#[48]⟩).size) ⟨#[122, 122]⟩ 1 (⟨#[122, 122]⟩ : ByteArray).size) P = 1 := by
    unfold touchF
    split
    · rfl
    · rw [if_pos]
      exact ⟨hP, by rw [ByteArray.size_append]; omega, (ByteArray.extract_append_eq_left rfl).symm⟩
  refine ⟨?_, ?_, ?_, ?_, ?_⟩
  · show false = decide (1 < _)
    rw [show ((writesS { newS with writes := wrap64 (newS.writes + 1) } (revS newS) [⟨P ++ ⟨#[48]⟩, [97], false⟩, ⟨⟨#[122, 122]⟩, [], false⟩]).T P) = 1 from hT]
    rfl
  · show 1 ≤ (addD (newD 64) ([⟨P ++ ⟨#[48]⟩, [97], false⟩, ⟨⟨#[122, 122]⟩, [], false⟩].map (evD (revS newS)))).last
    rw [hl]
    decide
  · show (addD (newD 64) ([⟨P ++ ⟨#[48]⟩, [97], false⟩, ⟨⟨#[122, 122]⟩, [], false⟩].map (evD (revS newS)))).last ≤ _
    rw [hl]
    decide
  · exact (HasK.self ⟨P ++ ⟨#[48]⟩, 1, [97]⟩ []).put _
  · show (putD _ (putD _ [])).length ≤ 2
    have h1 := putD_len ⟨P ++ ⟨#[48]⟩, 1, [97]⟩ []
    have h2 := putD_len ⟨⟨#[122, 122]⟩, 1, []⟩ (putD ⟨P ++ ⟨#[48]⟩, 1, [97]⟩ [])
    exact Nat.le_trans h2 (by simp at h1; omega)
def CompLive (w0 w : World) (S : Nat) (d : StoD) (n : Nat) (e : Ending) (w' : World) : Prop := e = .returned (.tuple #[]) ∧ ∃ d', (d'.E = d.E ∧ d'.T = d.T ∧ d'.log.last = d.log.last) ∧ Live w0 w' S d' n
theorem live_compact {w0 w : World} {S : Nat} {d : StoD} {n : Nat} (h : Live w0 w S d n) (rev : Int) : Calls Tryz.prog 49 #[pt S, .int .i64 rev] w (CompLive w0 w S d n) := by
  have hbw := h.bel
  obtain ⟨h, B, rfl, ha, hlo, hB, hn, _⟩ := h
  refine (stoCompact_any w B h d rev ha).mono ?_
  rintro e w' ⟨rfl, v, H, ha', ht, _⟩
  refine ⟨rfl, { d with log := cutD d.log rev }, ⟨rfl, rfl, ?_⟩, ⟨{ h with v := v, H := H }, B, rfl, ha', hlo, hB, hn, hbw.trans (ht.below hbw.size (fun x hx => hlo.ge ha hB x (.inr (.inr (.inr hx)))))⟩⟩
  show (cutD d.log rev).last = d.log.last
  unfold cutD
  split <;> rfl
set_option maxRecDepth 100000 in
set_option maxHeartbeats 4000000 in
theorem storeUnder_walk (hBG : BegunP) (pre : ByteArray) (a : Option Addr) (l : List ByteArray) (cap : Nat) (gone : Bool) (w : World) (hl : At1 w a l) (h1 : l.length ≤ cap) (h2 : cap ≤ maxLen) :
    Calls Tryz.prog 14 #[.string pre, .slice a l.length cap, .bool gone] w fun e w' => e = .returned (.bool true) ∧ Below w.heap.size w w' := by
  go_enter Tryz.func14, Tryz.ntmps14
  go_wp2_with fail
  refine (hBG _).mono ?_
  rintro e w1 ⟨rfl, hb1⟩
  go_wp2_with fail
  refine (lawText_any pre 3 (by decide) w1).mono ?_
  rintro e w' ⟨t, rfl, ht, rfl⟩
  go_wp2_with fail
  refine (live_new w1).mono ?_
  rintro e w2 ⟨S, rfl, hl2, hb2⟩
  obtain ⟨P, hP, hP1, hP2, hP3⟩ : ∃ P : ByteArray, P = ⟨#[112]⟩ ++ t ∧ (1 ≤ P.size ∧ P.size ≤ 4) ∧ P ++ ⟨#[48]⟩ ≠ ⟨#[122, 122]⟩ ∧ True := ⟨_, rfl, by
    rw [ByteArray.size_append]
    have : (⟨#[112]⟩ : ByteArray).size = 1 := rfl
    omega, fun e => by
    have := congrArg (fun b : ByteArray => b.data.toList.head?) e
    simp [ByteArray.data_append] at this, trivial⟩
  rw [← hP]
  clear hP hP3
  have HP : Hid (keyB P = true ∧ keyB (P ++ ⟨#[48]⟩) = true ∧ 1 ≤ P.size ∧ P ++ ⟨#[48]⟩ ≠ ⟨#[122, 122]⟩) := by
    have hs : (⟨#[48]⟩ : ByteArray).size = 1 := rfl
    refine ⟨?_, ?_, hP1.1, hP2⟩
    · unfold keyB
      simp only [Bool.and_eq_true, decide_eq_true_eq]
      omega
    · unfold keyB
      simp only [ByteArray.size_append, Bool.and_eq_true, decide_eq_true_eq]
      omega
  have hbw := hb1.size
  have HB1 := Lib.hid hb1
  have HA := Lib.hid hl
  have hcap : l.length ≤ 9223372036854775807 := by unfold maxLen at h2; omega
  have hcv := Go.Joins.run_convert_bytes_const_at (P := Tryz.prog) w2 28 5 #[.int .u8 97] 1 1 w2.heap.size rfl Tryz.underlying28 Tryz.underlying5
  have k0 := heap_two0 w2 (.cells #[.int .u8 97] 5 (1, 2)) (.cells #[.string (P ++ ⟨#[48]⟩), .slice (some ⟨w2.heap.size, 0, none⟩) 1 1, .bool false, .string ⟨#[122, 122]⟩, .slice none 0 0, .bool false] 73)
  have k1 := heap_two1 w2 (.cells #[.int .u8 97] 5 (1, 2)) (.cells #[.string (P ++ ⟨#[48]⟩), .slice (some ⟨w2.heap.size, 0, none⟩) 1 1, .bool false, .string ⟨#[122, 122]⟩, .slice none 0 0, .bool false] 73)
  have hnew : Below w2.heap.size w2 ((w2.alloc (.cells #[.int .u8 97] 5 (1, 2))).alloc (.cells #[.string (P ++ ⟨#[48]⟩), .slice (some ⟨w2.heap.size, 0, none⟩) 1 1, .bool false, .string ⟨#[122, 122]⟩, .slice none 0 0, .bool false] 73)) := ((Below.refl _ _).alloc (Nat.le_refl _) _).alloc (by simp) _
  have htx := live_txn hl2 hnew none [] 0 (some ⟨w2.heap.size + 1, 0, none⟩) [⟨P ++ ⟨#[48]⟩, [97], false⟩, ⟨⟨#[122, 122]⟩, [], false⟩] 2 at_guard0 (at_write2 (V := [97]) (V' := []) k1 (by rintro ⟨_, h⟩; omega) (Nat.le_refl _) (by decide) (fun h => by cases h) (fun w' ht => at_one (ht.obj k0 (by rintro ⟨_, h⟩; omega)) (by decide) (by decide)) (Nat.le_refl _) (Nat.zero_le _) (fun _ => rfl) (fun w' _ => atB_none w' none)) (Nat.le_refl _) (by decide) (by decide) (by decide) (by decide)
  have F := Lib.hid (und_first HP.out.2.2.1 HP.out.2.1 HP.out.2.2.2)
  have hPs : (P.size : Int) ≤ 4 := by omega
  have hPt : P.size ≤ 4 := hP1.2
  clear k0 k1 hnew hl2 hb1 hb2 hl h1 h2 hP1 hP2
  go_wp2_with fail
  clear hcv
  refine htx.mono ?_
  rintro e w3 ⟨rfl, hl3, -⟩
  rw [F.out.1]
  obtain ⟨d3, hu3, hl3⟩ : ∃ d3, Und P d3 false 0 ∧ Live w1 w3 S d3 1280 := ⟨_, F.out.2, hl3⟩
  have hrev := live_rev hl3
  rw [show d3.log.last = 1 by have := hu3.lo; have := hu3.hi; omega] at hrev
  have HL0 : Hid (∃ d m, m ≤ 0 ∧ Live w1 w3 S d (1280 * (0 + 1)) ∧ Und P d false m) := ⟨d3, 0, Nat.le_refl _, hl3, hu3⟩
  clear htx F hl3 hu3
  go_wp2_with fail
  refine hrev.mono ?_
  rintro e w' ⟨rfl, hw'⟩
  subst hw'
  clear hrev
  go_wp2_with fail
  go_loopw [12, 13] (fun br i wr => ∃ k : Nat, k ≤ l.length ∧ k ≤ 12 ∧ i = .int .i64 k ∧ ∃ b, br = .bool b ∧ Hid (∃ d m, m ≤ k ∧ Live w1 wr S d (1280 * (k + 1)) ∧ Und P d b m)) (fun _ i _ => 12 - (intOf i).toNat)
  case atStart => exact ⟨0, Nat.zero_le _, Nat.zero_le _, rfl, false, rfl, HL0⟩
  case round =>
    clear HL0
    obtain ⟨k, hk, hk12, rfl, b, rfl, HL⟩ := hrel
    by_cases hlt : k < l.length
    · by_cases h12 : k < 12
      · obtain ⟨d, m, hm, hl, hu⟩ := HL.out
        have hbl := hl.bel
        obtain ⟨b0, off, ha, hb0, c⟩ := HA.out.2 k hlt
        have c' := cell_later (HB1.out.trans (hbl.mono hbw)) c
        have hb0' : b0 < wr.heap.size := by have := hbl.size; omega
        have kl : (k : Int) < (l.length : Int) := by omega
        subst ha
        generalize l.getD k ByteArray.empty = s at c'
        have htxt := lawText_any s 8 (by decide) wr
        have HD := Lib.hid (And.intro hl hu)
        clear hl hu hbl c HL
        go_wp2_with fail
        refine htxt.mono ?_
        rintro e w' ⟨t8, rfl, ht8, rfl⟩
        clear htxt c'
        cases hemp : t8.toList.isEmpty
        · have hk8 : keyB t8 = true := by
            unfold keyB
            simp only [Bool.and_eq_true, decide_eq_true_eq]
            refine ⟨?_, by omega⟩
            rcases Nat.eq_zero_or_pos t8.size with h | h
            · exfalso
              have h2 : t8.toList = [] := by
                rw [ByteArray.toList_eq, Array.toList_eq_nil_iff, ← Array.size_eq_zero_iff]
                exact h
              rw [h2] at hemp
              cases hemp
            · exact h
          have hw8 : IntKind.u8.wrap (k : Int) = (k : Int) := IntWalk.u8_in _ (by omega)
          have k0 := heap_two0 wr (.cells #[.int .u8 k] 5) (.cells #[.string t8, .slice (some ⟨wr.heap.size, 0, none⟩) 1 1, .bool false] 73)
          have k1 := heap_two1 wr (.cells #[.int .u8 k] 5) (.cells #[.string t8, .slice (some ⟨wr.heap.size, 0, none⟩) 1 1, .bool false] 73)
          have hnew : Below wr.heap.size wr ((wr.alloc (.cells #[.int .u8 k] 5)).alloc (.cells #[.string t8, .slice (some ⟨wr.heap.size, 0, none⟩) 1 1, .bool false] 73)) := ((Below.refl _ _).alloc (Nat.le_refl _) _).alloc (by simp) _
          have htx := live_txn HD.out.1 hnew none [] 0 (some ⟨wr.heap.size + 1, 0, none⟩) [⟨t8, [(k : Int)], false⟩] 1 at_guard0 (at_write1 (V := [(k : Int)]) k1 (by rintro ⟨_, h⟩; omega) (Nat.le_refl _) (by show (1 : Nat) ≤ maxLen; decide) (fun h => by cases h) (fun w' ht => at_one (ht.obj k0 (by rintro ⟨_, h⟩; omega)) (by omega) (by omega))) (Nat.le_refl _) (by decide) (by omega) (by have := HD.out.2.few; omega) (by have := HD.out.2.lo; have := HD.out.2.hi; constructor <;> omega)
          have Q := Lib.hid (And.intro (err_put (d := d) (V := [(k : Int)]) hk8 (by simp)) (und_put (V := [(k : Int)]) HD.out.2 HP.out.2.2.1 hk8 (by simp)))
          clear k0 k1 hnew hk8 HD
          go_wp2_with fail
          refine htx.mono ?_
          rintro e w6 ⟨rfl, hl6, -⟩
          rw [Q.out.1]
          have HE : Hid (∃ d m, m ≤ k + 1 ∧ Live w1 w6 S d (1280 * (k + 1 + 1)) ∧ Und P d (b || begB P t8) m) := ⟨_, m + 1, by omega, hl6.mono (by omega), Q.out.2⟩
          clear htx Q hl6 hw8 hemp
          cases b
          · by_cases q1 : P.size ≤ t8.size
            · have q1' : (P.size : Int) ≤ (t8.size : Int) := by omega
              by_cases q2 : t8.extract 0 P.size = P
              · have q3 : ((t8.extract 0 P.size).toList == P.toList) = true := by rw [toList_beq, decide_eq_true q2]
                have hbb : begB P t8 = true := by unfold begB; rw [decide_eq_true q1, decide_eq_true q2]; rfl
                rw [hbb] at HE
                clear q2 hbb
                go_wp2
                go_roundw
                case rel => exact ⟨k + 1, by omega, by omega, by go_num, true, rfl, HE⟩
                case measure => simp [intOf]; omega
              · have q3 : ((t8.extract 0 P.size).toList == P.toList) = false := by rw [toList_beq, decide_eq_false q2]
                have hbb : begB P t8 = false := by unfold begB; rw [decide_eq_true q1, decide_eq_false q2]; rfl
                rw [hbb] at HE
                clear q2 hbb
                go_wp2
                go_roundw
                case rel => exact ⟨k + 1, by omega, by omega, by go_num, false, rfl, HE⟩
                case measure => simp [intOf]; omega
            · have q1' : ¬ (P.size : Int) ≤ (t8.size : Int) := by omega
              have hbb : begB P t8 = false := by unfold begB; rw [decide_eq_false q1]; rfl
              rw [hbb] at HE
              clear hbb
              go_wp2
              go_roundw
              case rel => exact ⟨k + 1, by omega, by omega, by go_num, false, rfl, HE⟩
              case measure => simp [intOf]; omega
          · rw [Bool.true_or] at HE
            go_wp2
            go_roundw
            case rel => exact ⟨k + 1, by omega, by omega, by go_num, true, rfl, HE⟩
            case measure => simp [intOf]; omega
        · have HE : Hid (∃ d m, m ≤ k + 1 ∧ Live w1 wr S d (1280 * (k + 1 + 1)) ∧ Und P d b m) := ⟨d, m, by omega, HD.out.1.mono (by omega), HD.out.2⟩
          clear HD
          go_wp2
          go_roundw
          case rel => exact ⟨k + 1, by omega, by omega, by go_num, b, rfl, HE⟩
          case measure => simp [intOf]; omega
      · obtain ⟨d, m, hm, hl, hu⟩ := HL.out
        cases gone
        · cases b
          · have HX := Lib.hid (And.intro hl (And.intro hu.t (And.intro hu.lo (And.intro (show d.log.last ≤ 100 by have := hu.hi; omega) (show d.E.length ≤ 100 by have := hu.few; omega)))))
            clear hl hu HL
            go_wp2_with fail
            have hrev := live_rev HX.out.1
            go_wp2_with fail
            refine hrev.mono ?_
            rintro e w' ⟨rfl, hw'⟩
            subst hw'
            clear hrev
            go_wp2_with fail
            refine (live_compact HX.out.1 _).mono ?_
            rintro e w21 ⟨rfl, d21, h21, hl21⟩
            have k0 := heap_two0 w21 (.cells #[.string P, .int .i64 1, .bool true] 81) (.cells #[.string ⟨#[113]⟩, .slice none 0 0, .bool false] 73)
            have k1 := heap_two1 w21 (.cells #[.string P, .int .i64 1, .bool true] 81) (.cells #[.string ⟨#[113]⟩, .slice none 0 0, .bool false] 73)
            have hnew : Below w21.heap.size w21 ((w21.alloc (.cells #[.string P, .int .i64 1, .bool true] 81)).alloc (.cells #[.string ⟨#[113]⟩, .slice none 0 0, .bool false] 73)) := ((Below.refl _ _).alloc (Nat.le_refl _) _).alloc (by simp) _
            have htx := live_txn hl21 hnew (some ⟨w21.heap.size, 0, none⟩) [(P, 1, true)] 1 (some ⟨w21.heap.size + 1, 0, none⟩) [⟨⟨#[113]⟩, [], false⟩] 1 (at_guard1 k0 (by rintro ⟨_, h⟩; omega)) (at_write1 k1 (by rintro ⟨_, h⟩; omega) (Nat.le_refl _) (Nat.zero_le _) (fun _ => rfl) (fun w' _ => atB_none w' none)) (Nat.le_refl _) (by decide) (by omega) (by rw [h21.1]; have := HX.out.2.2.2.2; omega) (by rw [h21.2.2]; have := HX.out.2.2.1; have := HX.out.2.2.2.1; constructor <;> omega)
            have herr := Lib.hid (und_last (d := d21) (q := ⟨#[113]⟩) HP.out.1 (by decide))
            have hTT : Hid ((if d21.T P ≤ 1 then (0 : Int) else 6) = if false then 6 else 0) := by
              show _ = _
              rw [h21.2.1]
              have := HX.out.2.1
              simp at this
              simp
              omega
            clear k0 k1 hnew hl21 h21 HX
            go_wp2_with fail
            refine htx.mono ?_
            rintro e w22 ⟨rfl, hl22, -⟩
            rw [herr.out, hTT.out]
            have fin := Lib.hid (HB1.out.trans (hl22.bel.mono hbw))
            clear htx herr hTT hl22
            go_wp2
            go_ret
            exact ⟨rfl, fin.out⟩
          · have HX := Lib.hid (And.intro hl (And.intro hu.t (And.intro hu.lo (And.intro (show d.log.last ≤ 100 by have := hu.hi; omega) (show d.E.length ≤ 100 by have := hu.few; omega)))))
            clear hl hu HL
            go_wp2_with fail
            have hrev := live_rev HX.out.1
            go_wp2_with fail
            refine hrev.mono ?_
            rintro e w' ⟨rfl, hw'⟩
            subst hw'
            clear hrev
            go_wp2_with fail
            refine (live_compact HX.out.1 _).mono ?_
            rintro e w21 ⟨rfl, d21, h21, hl21⟩
            have k0 := heap_two0 w21 (.cells #[.string P, .int .i64 1, .bool true] 81) (.cells #[.string ⟨#[113]⟩, .slice none 0 0, .bool false] 73)
            have k1 := heap_two1 w21 (.cells #[.string P, .int .i64 1, .bool true] 81) (.cells #[.string ⟨#[113]⟩, .slice none 0 0, .bool false] 73)
            have hnew : Below w21.heap.size w21 ((w21.alloc (.cells #[.string P, .int .i64 1, .bool true] 81)).alloc (.cells #[.string ⟨#[113]⟩, .slice none 0 0, .bool false] 73)) := ((Below.refl _ _).alloc (Nat.le_refl _) _).alloc (by simp) _
            have htx := live_txn hl21 hnew (some ⟨w21.heap.size, 0, none⟩) [(P, 1, true)] 1 (some ⟨w21.heap.size + 1, 0, none⟩) [⟨⟨#[113]⟩, [], false⟩] 1 (at_guard1 k0 (by rintro ⟨_, h⟩; omega)) (at_write1 k1 (by rintro ⟨_, h⟩; omega) (Nat.le_refl _) (Nat.zero_le _) (fun _ => rfl) (fun w' _ => atB_none w' none)) (Nat.le_refl _) (by decide) (by omega) (by rw [h21.1]; have := HX.out.2.2.2.2; omega) (by rw [h21.2.2]; have := HX.out.2.2.1; have := HX.out.2.2.2.1; constructor <;> omega)
            have herr := Lib.hid (und_last (d := d21) (q := ⟨#[113]⟩) HP.out.1 (by decide))
            have hTT : Hid ((if d21.T P ≤ 1 then (0 : Int) else 6) = if true then 6 else 0) := by
              show _ = _
              rw [h21.2.1]
              have := HX.out.2.1
              simp at this
              simp
              omega
            clear k0 k1 hnew hl21 h21 HX
            go_wp2_with fail
            refine htx.mono ?_
            rintro e w22 ⟨rfl, hl22, -⟩
            rw [herr.out, hTT.out]
            have fin := Lib.hid (HB1.out.trans (hl22.bel.mono hbw))
            clear htx herr hTT hl22
            go_wp2
            go_ret
            exact ⟨rfl, fin.out⟩
        · have k1 := heap_alloc_self wr (.cells #[.string (P ++ ⟨#[48]⟩), .slice none 0 0, .bool true] 73)
          have hnew : Below wr.heap.size wr (wr.alloc (.cells #[.string (P ++ ⟨#[48]⟩), .slice none 0 0, .bool true] 73)) := (Below.refl _ _).alloc (Nat.le_refl _) _
          have htx := live_txn hl hnew none [] 0 (some ⟨wr.heap.size, 0, none⟩) [⟨P ++ ⟨#[48]⟩, [], true⟩] 1 at_guard0 (at_write1 k1 (by rintro ⟨_, h⟩; omega) (Nat.le_refl _) (Nat.zero_le _) (fun _ => rfl) (fun w' _ => atB_none w' none)) (Nat.le_refl _) (by decide) (by omega) (by have := hu.few; omega) (by have := hu.lo; have := hu.hi; constructor <;> omega)
          have Q := Lib.hid (und_gone hu HP.out.2.2.1 HP.out.2.1)
          have QB := Lib.hid (And.intro hu.lo (And.intro hu.hi hu.few))
          clear k1 hnew hl hu HL
          go_wp2_with fail
          refine htx.mono ?_
          rintro e w6 ⟨rfl, hl6, -⟩
          rw [Q.out.1]
          have HX := Lib.hid (And.intro hl6 (And.intro (show true = decide (1 < (txnF d [] [⟨P ++ ⟨#[48]⟩, [], true⟩]).T P) from (decide_eq_true Q.out.2.1).symm) (And.intro (show 1 ≤ (txnF d [] [⟨P ++ ⟨#[48]⟩, [], true⟩]).log.last by rw [Q.out.2.2.1]; have := QB.out.1; omega) (And.intro (show (txnF d [] [⟨P ++ ⟨#[48]⟩, [], true⟩]).log.last ≤ 100 by rw [Q.out.2.2.1]; have := QB.out.2.1; omega) (show (txnF d [] [⟨P ++ ⟨#[48]⟩, [], true⟩]).E.length ≤ 100 by have := Q.out.2.2.2; have := QB.out.2.2; omega)))))
          clear htx Q QB hl6
          go_wp2_with fail
          have hrev := live_rev HX.out.1
          go_wp2_with fail
          refine hrev.mono ?_
          rintro e w' ⟨rfl, hw'⟩
          subst hw'
          clear hrev
          go_wp2_with fail
          refine (live_compact HX.out.1 _).mono ?_
          rintro e w21 ⟨rfl, d21, h21, hl21⟩
          have k0 := heap_two0 w21 (.cells #[.string P, .int .i64 1, .bool true] 81) (.cells #[.string ⟨#[113]⟩, .slice none 0 0, .bool false] 73)
          have k1 := heap_two1 w21 (.cells #[.string P, .int .i64 1, .bool true] 81) (.cells #[.string ⟨#[113]⟩, .slice none 0 0, .bool false] 73)
          have hnew : Below w21.heap.size w21 ((w21.alloc (.cells #[.string P, .int .i64 1, .bool true] 81)).alloc (.cells #[.string ⟨#[113]⟩, .slice none 0 0, .bool false] 73)) := ((Below.refl _ _).alloc (Nat.le_refl _) _).alloc (by simp) _
          have htx := live_txn hl21 hnew (some ⟨w21.heap.size, 0, none⟩) [(P, 1, true)] 1 (some ⟨w21.heap.size + 1, 0, none⟩) [⟨⟨#[113]⟩, [], false⟩] 1 (at_guard1 k0 (by rintro ⟨_, h⟩; omega)) (at_write1 k1 (by rintro ⟨_, h⟩; omega) (Nat.le_refl _) (Nat.zero_le _) (fun _ => rfl) (fun w' _ => atB_none w' none)) (Nat.le_refl _) (by decide) (by omega) (by rw [h21.1]; have := HX.out.2.2.2.2; omega) (by rw [h21.2.2]; have := HX.out.2.2.1; have := HX.out.2.2.2.1; constructor <;> omega)
          have herr := Lib.hid (und_last (d := d21) (q := ⟨#[113]⟩) HP.out.1 (by decide))
          have hTT : Hid ((if d21.T P ≤ 1 then (0 : Int) else 6) = if true then 6 else 0) := by
            show _ = _
            rw [h21.2.1]
            have := HX.out.2.1
            simp at this
            simp
            omega
          clear k0 k1 hnew hl21 h21 HX
          go_wp2_with fail
          refine htx.mono ?_
          rintro e w22 ⟨rfl, hl22, -⟩
          rw [herr.out, hTT.out]
          have fin := Lib.hid (HB1.out.trans (hl22.bel.mono hbw))
          clear htx herr hTT hl22
          go_wp2
          go_ret
          exact ⟨rfl, fin.out⟩
    · obtain ⟨d, m, hm, hl, hu⟩ := HL.out
      cases gone
      · cases b
        · have HX := Lib.hid (And.intro hl (And.intro hu.t (And.intro hu.lo (And.intro (show d.log.last ≤ 100 by have := hu.hi; omega) (show d.E.length ≤ 100 by have := hu.few; omega)))))
          clear hl hu HL
          go_wp2_with fail
          have hrev := live_rev HX.out.1
          go_wp2_with fail
          refine hrev.mono ?_
          rintro e w' ⟨rfl, hw'⟩
          subst hw'
          clear hrev
          go_wp2_with fail
          refine (live_compact HX.out.1 _).mono ?_
          rintro e w21 ⟨rfl, d21, h21, hl21⟩
          have k0 := heap_two0 w21 (.cells #[.string P, .int .i64 1, .bool true] 81) (.cells #[.string ⟨#[113]⟩, .slice none 0 0, .bool false] 73)
          have k1 := heap_two1 w21 (.cells #[.string P, .int .i64 1, .bool true] 81) (.cells #[.string ⟨#[113]⟩, .slice none 0 0, .bool false] 73)
          have hnew : Below w21.heap.size w21 ((w21.alloc (.cells #[.string P, .int .i64 1, .bool true] 81)).alloc (.cells #[.string ⟨#[113]⟩, .slice none 0 0, .bool false] 73)) := ((Below.refl _ _).alloc (Nat.le_refl _) _).alloc (by simp) _
          have htx := live_txn hl21 hnew (some ⟨w21.heap.size, 0, none⟩) [(P, 1, true)] 1 (some ⟨w21.heap.size + 1, 0, none⟩) [⟨⟨#[113]⟩, [], false⟩] 1 (at_guard1 k0 (by rintro ⟨_, h⟩; omega)) (at_write1 k1 (by rintro ⟨_, h⟩; omega) (Nat.le_refl _) (Nat.zero_le _) (fun _ => rfl) (fun w' _ => atB_none w' none)) (Nat.le_refl _) (by decide) (by omega) (by rw [h21.1]; have := HX.out.2.2.2.2; omega) (by rw [h21.2.2]; have := HX.out.2.2.1; have := HX.out.2.2.2.1; constructor <;> omega)
          have herr := Lib.hid (und_last (d := d21) (q := ⟨#[113]⟩) HP.out.1 (by decide))
          have hTT : Hid ((if d21.T P ≤ 1 then (0 : Int) else 6) = if false then 6 else 0) := by
            show _ = _
            rw [h21.2.1]
            have := HX.out.2.1
            simp at this
            simp
            omega
          clear k0 k1 hnew hl21 h21 HX
          go_wp2_with fail
          refine htx.mono ?_
          rintro e w22 ⟨rfl, hl22, -⟩
          rw [herr.out, hTT.out]
          have fin := Lib.hid (HB1.out.trans (hl22.bel.mono hbw))
          clear htx herr hTT hl22
          go_wp2
          go_ret
          exact ⟨rfl, fin.out⟩
        · have HX := Lib.hid (And.intro hl (And.intro hu.t (And.intro hu.lo (And.intro (show d.log.last ≤ 100 by have := hu.hi; omega) (show d.E.length ≤ 100 by have := hu.few; omega)))))
          clear hl hu HL
          go_wp2_with fail
          have hrev := live_rev HX.out.1
          go_wp2_with fail
          refine hrev.mono ?_
          rintro e w' ⟨rfl, hw'⟩
          subst hw'
          clear hrev
          go_wp2_with fail
          refine (live_compact HX.out.1 _).mono ?_
          rintro e w21 ⟨rfl, d21, h21, hl21⟩
          have k0 := heap_two0 w21 (.cells #[.string P, .int .i64 1, .bool true] 81) (.cells #[.string ⟨#[113]⟩, .slice none 0 0, .bool false] 73)
          have k1 := heap_two1 w21 (.cells #[.string P, .int .i64 1, .bool true] 81) (.cells #[.string ⟨#[113]⟩, .slice none 0 0, .bool false] 73)
          have hnew : Below w21.heap.size w21 ((w21.alloc (.cells #[.string P, .int .i64 1, .bool true] 81)).alloc (.cells #[.string ⟨#[113]⟩, .slice none 0 0, .bool false] 73)) := ((Below.refl _ _).alloc (Nat.le_refl _) _).alloc (by simp) _
          have htx := live_txn hl21 hnew (some ⟨w21.heap.size, 0, none⟩) [(P, 1, true)] 1 (some ⟨w21.heap.size + 1, 0, none⟩) [⟨⟨#[113]⟩, [], false⟩] 1 (at_guard1 k0 (by rintro ⟨_, h⟩; omega)) (at_write1 k1 (by rintro ⟨_, h⟩; omega) (Nat.le_refl _) (Nat.zero_le _) (fun _ => rfl) (fun w' _ => atB_none w' none)) (Nat.le_refl _) (by decide) (by omega) (by rw [h21.1]; have := HX.out.2.2.2.2; omega) (by rw [h21.2.2]; have := HX.out.2.2.1; have := HX.out.2.2.2.1; constructor <;> omega)
          have herr := Lib.hid (und_last (d := d21) (q := ⟨#[113]⟩) HP.out.1 (by decide))
          have hTT : Hid ((if d21.T P ≤ 1 then (0 : Int) else 6) = if true then 6 else 0) := by
            show _ = _
            rw [h21.2.1]
            have := HX.out.2.1
            simp at this
            simp
            omega
          clear k0 k1 hnew hl21 h21 HX
          go_wp2_with fail
          refine htx.mono ?_
          rintro e w22 ⟨rfl, hl22, -⟩
          rw [herr.out, hTT.out]
          have fin := Lib.hid (HB1.out.trans (hl22.bel.mono hbw))
          clear htx herr hTT hl22
          go_wp2
          go_ret
          exact ⟨rfl, fin.out⟩
      · have k1 := heap_alloc_self wr (.cells #[.string (P ++ ⟨#[48]⟩), .slice none 0 0, .bool true] 73)
        have hnew : Below wr.heap.size wr (wr.alloc (.cells #[.string (P ++ ⟨#[48]⟩), .slice none 0 0, .bool true] 73)) := (Below.refl _ _).alloc (Nat.le_refl _) _
        have htx := live_txn hl hnew none [] 0 (some ⟨wr.heap.size, 0, none⟩) [⟨P ++ ⟨#[48]⟩, [], true⟩] 1 at_guard0 (at_write1 k1 (by rintro ⟨_, h⟩; omega) (Nat.le_refl _) (Nat.zero_le _) (fun _ => rfl) (fun w' _ => atB_none w' none)) (Nat.le_refl _) (by decide) (by omega) (by have := hu.few; omega) (by have := hu.lo; have := hu.hi; constructor <;> omega)
        have Q := Lib.hid (und_gone hu HP.out.2.2.1 HP.out.2.1)
        have QB := Lib.hid (And.intro hu.lo (And.intro hu.hi hu.few))
        clear k1 hnew hl hu HL
        go_wp2_with fail
        refine htx.mono ?_
        rintro e w6 ⟨rfl, hl6, -⟩
        rw [Q.out.1]
        have HX := Lib.hid (And.intro hl6 (And.intro (show true = decide (1 < (txnF d [] [⟨P ++ ⟨#[48]⟩, [], true⟩]).T P) from (decide_eq_true Q.out.2.1).symm) (And.intro (show 1 ≤ (txnF d [] [⟨P ++ ⟨#[48]⟩, [], true⟩]).log.last by rw [Q.out.2.2.1]; have := QB.out.1; omega) (And.intro (show (txnF d [] [⟨P ++ ⟨#[48]⟩, [], true⟩]).log.last ≤ 100 by rw [Q.out.2.2.1]; have := QB.out.2.1; omega) (show (txnF d [] [⟨P ++ ⟨#[48]⟩, [], true⟩]).E.length ≤ 100 by have := Q.out.2.2.2; have := QB.out.2.2; omega)))))
        clear htx Q QB hl6
        go_wp2_with fail
        have hrev := live_rev HX.out.1
        go_wp2_with fail
        refine hrev.mono ?_
        rintro e w' ⟨rfl, hw'⟩
        subst hw'
        clear hrev
        go_wp2_with fail
        refine (live_compact HX.out.1 _).mono ?_
        rintro e w21 ⟨rfl, d21, h21, hl21⟩
        have k0 := heap_two0 w21 (.cells #[.string P, .int .i64 1, .bool true] 81) (.cells #[.string ⟨#[113]⟩, .slice none 0 0, .bool false] 73)
        have k1 := heap_two1 w21 (.cells #[.string P, .int .i64 1, .bool true] 81) (.cells #[.string ⟨#[113]⟩, .slice none 0 0, .bool false] 73)
        have hnew : Below w21.heap.size w21 ((w21.alloc (.cells #[.string P, .int .i64 1, .bool true] 81)).alloc (.cells #[.string ⟨#[113]⟩, .slice none 0 0, .bool false] 73)) := ((Below.refl _ _).alloc (Nat.le_refl _) _).alloc (by simp) _
        have htx := live_txn hl21 hnew (some ⟨w21.heap.size, 0, none⟩) [(P, 1, true)] 1 (some ⟨w21.heap.size + 1, 0, none⟩) [⟨⟨#[113]⟩, [], false⟩] 1 (at_guard1 k0 (by rintro ⟨_, h⟩; omega)) (at_write1 k1 (by rintro ⟨_, h⟩; omega) (Nat.le_refl _) (Nat.zero_le _) (fun _ => rfl) (fun w' _ => atB_none w' none)) (Nat.le_refl _) (by decide) (by omega) (by rw [h21.1]; have := HX.out.2.2.2.2; omega) (by rw [h21.2.2]; have := HX.out.2.2.1; have := HX.out.2.2.2.1; constructor <;> omega)
        have herr := Lib.hid (und_last (d := d21) (q := ⟨#[113]⟩) HP.out.1 (by decide))
        have hTT : Hid ((if d21.T P ≤ 1 then (0 : Int) else 6) = if true then 6 else 0) := by
          show _ = _
          rw [h21.2.1]
          have := HX.out.2.1
          simp at this
          simp
          omega
        clear k0 k1 hnew hl21 h21 HX
        go_wp2_with fail
        refine htx.mono ?_
        rintro e w22 ⟨rfl, hl22, -⟩
        rw [herr.out, hTT.out]
        have fin := Lib.hid (HB1.out.trans (hl22.bel.mono hbw))
        clear htx herr hTT hl22
        go_wp2
        go_ret
        exact ⟨rfl, fin.out⟩
end Go.Proofs.YtaleceobkbgcnaaGreat.Rp
