/-
  The law StoreGone's walk. Its condition: the opening sentence.
-/
import Derived.Test.YtaleceobkbgcnaaGreatGLive
import Derived.Test.YtaleceobkbgcnaaGreatGRow
import Derived.Test.YtaleceobkbgcnaaGreatGBg
import Derived.StillTailTactics
set_option linter.unusedSimpArgs false
set_option linter.unusedVariables false
namespace Go.Proofs.YtaleceobkbgcnaaGreat.Rp
open Go.RowKit

/-- A store with nothing in it, at Rev r; one with one key. -/
theorem gone_put {d : StoD} {K : ByteArray} {V : List Int} (hK : keyB K = true) (hV : V.length ≤ 30) (hE : d.E = []) : txnErr d [(K, 0, false)] [⟨K, V, false⟩] = 0 ∧ (txnF d [(K, 0, false)] [⟨K, V, false⟩]).E = [⟨K, d.log.last + 1, V⟩] := by
  have h : txnErr d [(K, 0, false)] [⟨K, V, false⟩] = 0 := by
    rw [err_one (by simp) (by simp [gdS, hK]) (by simp [wrS, hK]; omega), if_pos, if_pos]
    · simp [goneB]
    · simp [holdAllB, holdB, getS, hE, e0]
  refine ⟨h, ?_⟩
  rw [(txnF_one h).1, if_neg (by simp), hE]
  rfl
theorem gone_wrong {d : StoD} {K : ByteArray} {V : List Int} {r : Int} (hK : keyB K = true) (h0 : 0 ≤ r) (hE : d.E = [⟨K, r, V⟩]) : txnErr d [(K, r + 1, false)] [⟨K, [], true⟩] = 6 := by
  rw [err_one (by simp) (by simp [gdS, hK]; omega) (by simp [wrS, hK]), if_neg]
  have h : getS d K = ⟨K, r, V⟩ := by unfold getS; rw [hE]; simp [isK]
  simp [holdAllB, holdB, h]
  omega
theorem gone_right {d : StoD} {K : ByteArray} {V : List Int} {r : Int} (hK : keyB K = true) (h0 : 0 ≤ r) (hE : d.E = [⟨K, r, V⟩]) : txnErr d [(K, r, false)] [⟨K, [], true⟩] = 0 ∧ (txnF d [(K, r, false)] [⟨K, [], true⟩]).E = [] := by
  have hg : getS d K = ⟨K, r, V⟩ := by unfold getS; rw [hE]; simp [isK]
  have h : txnErr d [(K, r, false)] [⟨K, [], true⟩] = 0 := by
    rw [err_one (by simp) (by simp [gdS, hK]; omega) (by simp [wrS, hK]), if_pos, if_pos]
    · simp [goneB, hE, isK]
    · simp [holdAllB, holdB, hg]
  refine ⟨h, ?_⟩
  rw [(txnF_one h).1, if_pos rfl, hE]
  simp [delD, isK]
theorem gone_none {d : StoD} {K : ByteArray} (hK : keyB K = true) (hE : d.E = []) : txnErr d [] [⟨K, [], true⟩] = 3 := by
  rw [err_one (by simp) (by rfl) (by simp [wrS, hK]), if_pos (by rfl), if_neg]
  simp [goneB, hE]
set_option maxRecDepth 100000 in
set_option maxHeartbeats 4000000 in
theorem storeGone_walk (hBG : BegunP) (key : ByteArray) (a : Option Addr) (l : List (List Int)) (cap : Nat) (w : World) (hl : AtV w a l) (h1 : l.length ≤ cap) (h2 : cap ≤ maxLen) :
    Calls Tryz.prog 11 #[.string key, .slice a l.length cap] w fun e w' => e = .returned (.bool true) ∧ Below w.heap.size w w' := by
  go_enter Tryz.func11, Tryz.ntmps11
  go_wp2_with fail
  refine (hBG _).mono ?_
  rintro e w1 ⟨rfl, hb1⟩
  go_wp2_with fail
  refine (live_new w1).mono ?_
  rintro e w2 ⟨S, rfl, hl2, hb2⟩
  go_wp2_with fail
  obtain ⟨K, hK, hKb⟩ : ∃ K : ByteArray, K = ⟨#[107]⟩ ++ key.extract 0 (min (key.size : Int) 9).toNat ∧ keyB K = true := ⟨_, rfl, by
    unfold keyB
    simp only [ByteArray.size_append, ByteArray.size_extract, Bool.and_eq_true, decide_eq_true_eq]
    have : (⟨#[107]⟩ : ByteArray).size = 1 := rfl
    omega⟩
  rw [← hK]
  clear hK
  have HK := Lib.hid hKb
  have hKs : Hid (K.size ≤ maxLen) := by
    show _ ≤ _
    unfold keyB at hKb
    simp only [Bool.and_eq_true, decide_eq_true_eq] at hKb
    unfold maxLen
    omega
  have HL0 : Hid (∃ d, Live w1 w2 S d (5120 * 0) ∧ d.E = [] ∧ 0 ≤ d.log.last ∧ d.log.last ≤ 2 * (0 : Nat)) := ⟨_, hl2, rfl, by decide, by decide⟩
  have HA := Lib.hid hl
  have hcap : l.length ≤ 9223372036854775807 := by unfold maxLen at h2; omega
  have hbw := hb1.size
  have HB1 := Lib.hid hb1
  clear hKb hl2 hl hb1 hb2 h1 h2
  go_loopw [7] (fun i wr => ∃ k : Nat, k ≤ l.length ∧ k ≤ 8 ∧ i = .int .i64 k ∧ Hid (∃ d, Live w1 wr S d (5120 * k) ∧ d.E = [] ∧ 0 ≤ d.log.last ∧ d.log.last ≤ 2 * k)) (fun i _ => 8 - (intOf i).toNat)
  case atStart => exact ⟨0, Nat.zero_le _, Nat.zero_le _, rfl, HL0⟩
  case round =>
    clear HL0
    obtain ⟨k, hk, hk8, rfl, HL⟩ := hrel
    by_cases hlt : k < l.length
    · by_cases h8 : k < 8
      · obtain ⟨d, hl, hE, hr0, hr1⟩ := HL.out
        have hbl := hl.bel
        obtain ⟨b0, off, va, vc, ha, hb0, c, hv, g1, g2, g3⟩ := HA.out k hlt
        have c' := cell_later (HB1.out.trans (hbl.mono hbw)) c
        have hb0' : b0 < wr.heap.size := by have := hbl.size; omega
        have kl : (k : Int) < (l.length : Int) := by omega
        subst ha
        generalize hq : l.getD k [] = v at c' hv g1
        obtain ⟨V, eV, iV, jV, kV⟩ := cut_of v 30
        have aV := hv.take 30
        rw [← eV] at aV
        have cV : V.length ≤ vc := by omega
        simp only [Int.cast_ofNat_Int] at iV
        have pV := min_cut iV
        have HV : Hid (∀ w', Below w1.heap.size w1 w' → AtB w' va V) := fun w' hb => aV.below' (HB1.out.trans (hb.mono hbw))
        generalize hr : d.log.last = r at *
        have HD := Lib.hid (And.intro hl (And.intro hE hr))
        clear hl hE hr hbl c hv hq aV eV jV HL
        go_wp2_with fail
        go_quiet (fail)
        have hl3 := HD.out.1.below (below_drewN (Below.refl wr.heap.size wr) nq)
        generalize wr.drewN nq = W3 at hl3 ⊢
        clear c' pV iV
        have p := gone_put (d := d) HK.out kV HD.out.2.1
        have k0 := heap_two0 W3 (.cells #[.string K, .int .i64 0, .bool false] 81) (.cells #[.string K, .slice va V.length vc, .bool false] 73)
        have k1 := heap_two1 W3 (.cells #[.string K, .int .i64 0, .bool false] 81) (.cells #[.string K, .slice va V.length vc, .bool false] 73)
        have hnew : Below W3.heap.size W3 ((W3.alloc (.cells #[.string K, .int .i64 0, .bool false] 81)).alloc (.cells #[.string K, .slice va V.length vc, .bool false] 73)) := ((Below.refl _ _).alloc (Nat.le_refl _) _).alloc (by simp) _
        have htx := live_txn hl3 hnew (some ⟨W3.heap.size, 0, none⟩) [(K, 0, false)] 1 (some ⟨W3.heap.size + 1, 0, none⟩) [⟨K, V, false⟩] 1 (at_guard1 k0 (by rintro ⟨_, h⟩; omega)) (at_write1 k1 (by rintro ⟨_, h⟩; omega) cV g2 g3 (fun w' ht => HV.out w' ((hl3.bel.trans (hnew.mono hl3.bel.size)).trans (ht.below (B := w1.heap.size) (by have := hl3.bel.size; have := hnew.size; omega) (fun x hx => hx.1))))) (Nat.le_refl _) (by decide) (by omega) (by rw [HD.out.2.1]; decide) (by rw [HD.out.2.2]; constructor <;> omega)
        have P := Lib.hid p
        clear p k0 k1 hnew hl3
        go_wp2_with fail
        refine htx.mono ?_
        rintro e w4 ⟨rfl, hl4, -⟩
        rw [P.out.1, (txnF_one P.out.1).2.2, HD.out.2.2]
        obtain ⟨d4, hE4, hr4, hl4⟩ : ∃ d4 : StoD, d4.E = [⟨K, r + 1, V⟩] ∧ d4.log.last = r + 1 ∧ Live w1 w4 S d4 (5120 * k + 1280) := ⟨_, by rw [P.out.2, HD.out.2.2], by rw [(txnF_one P.out.1).2.1, HD.out.2.2], hl4⟩
        have H4 := Lib.hid (And.intro hE4 (And.intro hr4 hl4))
        clear htx P hE4 hr4 hl4 HD
        go_wp2_with fail
        refine (live_get H4.out.2.2 K hKs.out).mono ?_
        rintro e w5 ⟨a5, c5, rfl, hv5, hl5, -⟩
        have hgs : getS d4 K = ⟨K, r + 1, V⟩ := by unfold getS; rw [H4.out.1]; simp [isK]
        have hgf : (d4.E.find? (isK K)).isSome = true := by rw [H4.out.1]; simp [isK]
        rw [hgf, hgs]
        rw [hgs] at hv5
        obtain ⟨d5, hE5, hr5, hl5⟩ : ∃ d5 : StoD, d5.E = [⟨K, r + 1, V⟩] ∧ d5.log.last = r + 1 ∧ Live w1 w5 S d5 (5120 * k + 1280) := ⟨{ d4 with reads := wrap64 (d4.reads + 1) }, H4.out.1, H4.out.2.1, hl5⟩
        have H5 := Lib.hid (And.intro hE5 (And.intro hr5 (And.intro hl5 hv5)))
        clear hgs hgf hE5 hr5 hl5 hv5 H4
        go_wp2_with (refine wpList_store_rowTo rfl 75 (.tmp 11) (.tmp 69) rfl rfl w5.heap.size #[.string K, .int .i64 (r + 1), .slice a5 V.length c5] rfl rfl 75 #[.string ⟨#[]⟩, .int .i64 0, .slice none 0 0] (heap_alloc_self _ _) (by kernel_rfl) rfl (by kernel_rfl) ?_; refine stand ?_)
        show wpList _ _ _ _ _ _
        have k6 : ((w5.alloc (.cells #[.string ⟨#[]⟩, .int .i64 0, .slice none 0 0] 75)).setRow w5.heap.size #[.string K, .int .i64 (r + 1), .slice a5 V.length c5]).heap[w5.heap.size]? = some (.cells #[.string K, .int .i64 (r + 1), .slice a5 V.length c5] 75) := setRow_heap _ _ _ _ _ _ (heap_alloc_self _ _)
        have b6 : Below w5.heap.size w5 ((w5.alloc (.cells #[.string ⟨#[]⟩, .int .i64 0, .slice none 0 0] 75)).setRow w5.heap.size #[.string K, .int .i64 (r + 1), .slice a5 V.length c5]) := Below.setRow ((Below.refl _ _).alloc (Nat.le_refl _) _) (Nat.le_refl _) _
        have zw6 : w5.heap.size < ((w5.alloc (.cells #[.string ⟨#[]⟩, .int .i64 0, .slice none 0 0] 75)).setRow w5.heap.size #[.string K, .int .i64 (r + 1), .slice a5 V.length c5]).heap.size := by simp
        generalize ((w5.alloc (.cells #[.string ⟨#[]⟩, .int .i64 0, .slice none 0 0] 75)).setRow w5.heap.size #[.string K, .int .i64 (r + 1), .slice a5 V.length c5]) = w6 at k6 b6 zw6 ⊢
        have hl6 := H5.out.2.2.1.below b6
        have hat5 := (val_turns (S := fun _ => False) H5.out.2.2.2 (turns_of_below b6) (fun _ h => h.elim)).at.1
        have x1 := cell_of_obj k6 1
        have x2 := cell_of_obj k6 2
        simp at x1 x2
        have H6 := Lib.hid (And.intro H5.out.1 (And.intro H5.out.2.1 (And.intro hl6 (And.intro hat5 (HV.out w6 hl6.bel)))))
        clear k6 b6 hl6 hat5 H5
        go_wp2_with fail
        refine (refBytes_any a5 V c5 va V vc w6 H6.out.2.2.2.1 H6.out.2.2.2.2).mono ?_
        rintro e w' ⟨rfl, rfl⟩
        rw [show eqB V V = true from by simp [eqB]]
        clear x1 x2
        have hl6 := H6.out.2.2.1
        have k0 := heap_two0 w6 (.cells #[.string K, .int .i64 (r + 1 + 1), .bool false] 81) (.cells #[.string K, .slice none 0 0, .bool true] 73)
        have k1 := heap_two1 w6 (.cells #[.string K, .int .i64 (r + 1 + 1), .bool false] 81) (.cells #[.string K, .slice none 0 0, .bool true] 73)
        have hnew : Below w6.heap.size w6 ((w6.alloc (.cells #[.string K, .int .i64 (r + 1 + 1), .bool false] 81)).alloc (.cells #[.string K, .slice none 0 0, .bool true] 73)) := ((Below.refl _ _).alloc (Nat.le_refl _) _).alloc (by simp) _
        have htx := live_txn hl6 hnew (some ⟨w6.heap.size, 0, none⟩) [(K, (r + 1 + 1), false)] 1 (some ⟨w6.heap.size + 1, 0, none⟩) [⟨K, [], true⟩] 1 (at_guard1 k0 (by rintro ⟨_, h⟩; omega)) (at_write1 k1 (by rintro ⟨_, h⟩; omega) (Nat.le_refl _) (Nat.zero_le _) (fun _ => rfl) (fun w' ht => (fun w' _ => atB_none w' none) w' ((hl6.bel.trans (hnew.mono hl6.bel.size)).trans (ht.below (B := w1.heap.size) (by have := hl6.bel.size; have := hnew.size; omega) (fun x hx => hx.1))))) (Nat.le_refl _) (by decide) (by omega) (by rw [H6.out.1]; show (1 : Nat) ≤ 900000000; decide) (by rw [H6.out.2.1]; constructor <;> omega)
        have P := Lib.hid (gone_wrong HK.out (show 0 ≤ r + 1 by omega) H6.out.1)
        clear k0 k1 hnew hl6
        go_wp2_with fail
        refine htx.mono ?_
        rintro e w7 ⟨rfl, hl7, -⟩
        have Q := txnF_no (show txnErr d5 [(K, r + 1 + 1, false)] [⟨K, [], true⟩] ≠ 0 by rw [P.out]; decide)
        rw [P.out, Q.2.2]
        obtain ⟨d7, hE7, hr7, hl7⟩ : ∃ d7 : StoD, d7.E = [⟨K, r + 1, V⟩] ∧ d7.log.last = r + 1 ∧ Live w1 w7 S d7 (5120 * k + 1280 + 1280) := ⟨_, Q.1.trans H6.out.1, by rw [Q.2.1]; exact H6.out.2.1, hl7⟩
        have H7 := Lib.hid (And.intro hE7 hr7)
        clear htx P Q hE7 hr7 H6
        have k0 := heap_two0 w7 (.cells #[.string K, .int .i64 (r + 1), .bool false] 81) (.cells #[.string K, .slice none 0 0, .bool true] 73)
        have k1 := heap_two1 w7 (.cells #[.string K, .int .i64 (r + 1), .bool false] 81) (.cells #[.string K, .slice none 0 0, .bool true] 73)
        have hnew : Below w7.heap.size w7 ((w7.alloc (.cells #[.string K, .int .i64 (r + 1), .bool false] 81)).alloc (.cells #[.string K, .slice none 0 0, .bool true] 73)) := ((Below.refl _ _).alloc (Nat.le_refl _) _).alloc (by simp) _
        have htx := live_txn hl7 hnew (some ⟨w7.heap.size, 0, none⟩) [(K, (r + 1), false)] 1 (some ⟨w7.heap.size + 1, 0, none⟩) [⟨K, [], true⟩] 1 (at_guard1 k0 (by rintro ⟨_, h⟩; omega)) (at_write1 k1 (by rintro ⟨_, h⟩; omega) (Nat.le_refl _) (Nat.zero_le _) (fun _ => rfl) (fun w' ht => (fun w' _ => atB_none w' none) w' ((hl7.bel.trans (hnew.mono hl7.bel.size)).trans (ht.below (B := w1.heap.size) (by have := hl7.bel.size; have := hnew.size; omega) (fun x hx => hx.1))))) (Nat.le_refl _) (by decide) (by omega) (by rw [H7.out.1]; show (1 : Nat) ≤ 900000000; decide) (by rw [H7.out.2]; constructor <;> omega)
        have P := Lib.hid (gone_right HK.out (show 0 ≤ r + 1 by omega) H7.out.1)
        clear k0 k1 hnew hl7
        go_wp2_with fail
        refine htx.mono ?_
        rintro e w8 ⟨rfl, hl8, -⟩
        rw [P.out.1, (txnF_one P.out.1).2.2, H7.out.2]
        obtain ⟨d8, hE8, hr8, hl8⟩ : ∃ d8 : StoD, d8.E = [] ∧ d8.log.last = r + 1 + 1 ∧ Live w1 w8 S d8 (5120 * k + 1280 + 1280 + 1280) := ⟨_, P.out.2, by rw [(txnF_one P.out.1).2.1, H7.out.2], hl8⟩
        have H8 := Lib.hid (And.intro hE8 (And.intro hr8 hl8))
        clear htx P hE8 hr8 hl8 H7
        go_wp2_with fail
        refine (live_get H8.out.2.2 K hKs.out).mono ?_
        rintro e w9 ⟨a9, c9, rfl, -, hl9, -⟩
        have hgs : getS d8 K = e0 := by unfold getS; rw [H8.out.1]; rfl
        have hgf : (d8.E.find? (isK K)).isSome = false := by rw [H8.out.1]; rfl
        rw [hgf, hgs]
        obtain ⟨d9, hE9, hr9, hl9⟩ : ∃ d9 : StoD, d9.E = [] ∧ d9.log.last = r + 1 + 1 ∧ Live w1 w9 S d9 (5120 * k + 1280 + 1280 + 1280) := ⟨{ d8 with reads := wrap64 (d8.reads + 1) }, H8.out.1, H8.out.2.1, hl9⟩
        have H9 := Lib.hid (And.intro hE9 (And.intro hr9 hl9))
        clear hgs hgf hE9 hr9 hl9 H8
        go_wp2_with (refine wpList_store_rowTo rfl 75 (.tmp 17) (.tmp 125) rfl rfl w9.heap.size #[.string ⟨#[]⟩, .int .i64 0, .slice a9 0 c9] rfl rfl 75 #[.string ⟨#[]⟩, .int .i64 0, .slice none 0 0] (heap_alloc_self _ _) (by kernel_rfl) rfl (by kernel_rfl) ?_; refine stand ?_)
        show wpList _ _ _ _ _ _
        have k10 : ((w9.alloc (.cells #[.string ⟨#[]⟩, .int .i64 0, .slice none 0 0] 75)).setRow w9.heap.size #[.string ⟨#[]⟩, .int .i64 0, .slice a9 0 c9]).heap[w9.heap.size]? = some (.cells #[.string ⟨#[]⟩, .int .i64 0, .slice a9 0 c9] 75) := setRow_heap _ _ _ _ _ _ (heap_alloc_self _ _)
        have b10 : Below w9.heap.size w9 ((w9.alloc (.cells #[.string ⟨#[]⟩, .int .i64 0, .slice none 0 0] 75)).setRow w9.heap.size #[.string ⟨#[]⟩, .int .i64 0, .slice a9 0 c9]) := Below.setRow ((Below.refl _ _).alloc (Nat.le_refl _) _) (Nat.le_refl _) _
        have zw10 : w9.heap.size < ((w9.alloc (.cells #[.string ⟨#[]⟩, .int .i64 0, .slice none 0 0] 75)).setRow w9.heap.size #[.string ⟨#[]⟩, .int .i64 0, .slice a9 0 c9]).heap.size := by simp
        generalize ((w9.alloc (.cells #[.string ⟨#[]⟩, .int .i64 0, .slice none 0 0] 75)).setRow w9.heap.size #[.string ⟨#[]⟩, .int .i64 0, .slice a9 0 c9]) = w10 at k10 b10 zw10 ⊢
        have hl10 := H9.out.2.2.below b10
        clear k10 b10
        have k1 := heap_alloc_self w10 (.cells #[.string K, .slice none 0 0, .bool true] 73)
        have hWW : Below w10.heap.size w10 (w10.alloc (.cells #[.string K, .slice none 0 0, .bool true] 73)) := (Below.refl _ _).alloc (Nat.le_refl _) _
        have htx := live_txn hl10 hWW none [] 0 (some ⟨w10.heap.size, 0, none⟩) [⟨K, [], true⟩] 1 at_guard0 (at_write1 k1 (by rintro ⟨_, h⟩; omega) (Nat.le_refl _) (Nat.zero_le _) (fun _ => rfl) (fun w' _ => atB_none w' none)) (Nat.le_refl _) (by decide) (by omega) (by rw [H9.out.1]; decide) (by rw [H9.out.2.1]; constructor <;> omega)
        have P := Lib.hid (gone_none HK.out H9.out.1)
        clear k1 hWW hl10
        go_wp2_with fail
        refine htx.mono ?_
        rintro e w11 ⟨rfl, hl11, -⟩
        have Q := txnF_no (show txnErr d9 [] [⟨K, [], true⟩] ≠ 0 by rw [P.out]; decide)
        rw [P.out, Q.2.2]
        have HE : Hid (∃ d, Live w1 w11 S d (5120 * (k + 1)) ∧ d.E = [] ∧ 0 ≤ d.log.last ∧ d.log.last ≤ 2 * ((k + 1 : Nat) : Int)) := ⟨_, hl11.mono (by omega), Q.1.trans H9.out.1, by rw [Q.2.1, H9.out.2.1]; omega, by rw [Q.2.1, H9.out.2.1]; omega⟩
        clear htx P Q hl11 H9
        go_wp2
        go_roundw
        case rel => exact ⟨k + 1, by omega, by omega, by go_num, HE⟩
        case measure => simp [intOf]; omega
      · obtain ⟨d, hl, hE, -, -⟩ := HL.out
        have hli := live_list hl (by rw [hE]; exact List.Pairwise.nil) (by rw [hE]; intro x hx; cases hx) (by rw [hE]; decide)
        clear hl HL
        go_wp2_with fail
        refine hli.mono ?_
        rintro e w3 ⟨v3, E3, rfl, hE3, hr3, hl3, -⟩
        rw [hE] at hE3
        obtain rfl : E3 = [] := by
          have := congrArg List.length hE3
          rw [List.length_map] at this
          exact List.eq_nil_of_length_eq_zero this
        obtain ⟨a3, c3, rfl⟩ := owns_form hr3.row
        have fin := Lib.hid (HB1.out.trans (hl3.bel.mono hbw))
        clear hli hE3 hr3 hl3 hE
        go_wp2
        go_ret
        exact ⟨rfl, fin.out⟩
    · obtain ⟨d, hl, hE, -, -⟩ := HL.out
      have hli := live_list hl (by rw [hE]; exact List.Pairwise.nil) (by rw [hE]; intro x hx; cases hx) (by rw [hE]; decide)
      clear hl HL
      go_wp2_with fail
      refine hli.mono ?_
      rintro e w3 ⟨v3, E3, rfl, hE3, hr3, hl3, -⟩
      rw [hE] at hE3
      obtain rfl : E3 = [] := by
        have := congrArg List.length hE3
        rw [List.length_map] at this
        exact List.eq_nil_of_length_eq_zero this
      obtain ⟨a3, c3, rfl⟩ := owns_form hr3.row
      have fin := Lib.hid (HB1.out.trans (hl3.bel.mono hbw))
      clear hli hE3 hr3 hl3 hE
      go_wp2
      go_ret
      exact ⟨rfl, fin.out⟩
end Go.Proofs.YtaleceobkbgcnaaGreat.Rp
