/-
  The law StoreOnce's walk. Its condition: the opening sentence.
-/
import Derived.Test.YtaleceobkbgcnaaGreatGLive
import Derived.Test.YtaleceobkbgcnaaGreatGBg
set_option linter.unusedSimpArgs false
set_option linter.unusedVariables false
namespace Go.Proofs.YtaleceobkbgcnaaGreat.Rp
open Go.RowKit

/-- Of one key alone, which was written at j last; 0: never. -/
structure Once (K : ByteArray) (d : StoD) (j : Int) : Prop where
  rev : (getS d K).rev = j
  t : d.T K = j
  last : d.log.last = j
  few : d.E.length ≤ 1
  same : ∀ x ∈ d.E, x.key = K
theorem once_new (K : ByteArray) : Once K newS 0 := ⟨rfl, rfl, rfl, Nat.zero_le _, fun x hx => by cases hx⟩
theorem once_hold {K : ByteArray} {d : StoD} {j r : Int} {u : Bool} (h : Once K d j) (hr : r ≤ j) : holdAllB d [(K, r, u)] = decide (r = j) := by
  simp only [holdAllB, List.all_cons, List.all_nil, Bool.and_true, holdB]
  cases u
  · simp only [Bool.false_eq_true, if_false]
    rw [h.rev]
    exact decide_eq_decide.2 ⟨fun e => e.symm, fun e => e.symm⟩
  · simp only [if_true]
    rw [h.t]
    exact decide_eq_decide.2 ⟨fun e => by omega, fun e => by omega⟩
theorem once_err {K : ByteArray} {d : StoD} {j r : Int} {u : Bool} {V : List Int} (hK : keyB K = true) (hV : V.length ≤ 30) (h0 : 0 ≤ r) (h : Once K d j) (hr : r ≤ j) : txnErr d [(K, r, u)] [⟨K, V, false⟩] = if r = j then 0 else 6 := by
  rw [err_one (by simp) (by simp [gdS, hK]; omega) (by simp [wrS, hK]; omega), once_hold h hr]
  by_cases e : r = j <;> simp [e, goneB]
theorem once_yes {K : ByteArray} {d : StoD} {j : Int} {u : Bool} {V : List Int} (hK : keyB K = true) (hV : V.length ≤ 30) (h0 : 0 ≤ j) (h : Once K d j) : Once K (txnF d [(K, j, u)] [⟨K, V, false⟩]) (j + 1) ∧ (txnF d [(K, j, u)] [⟨K, V, false⟩]).E = [⟨K, j + 1, V⟩] := by
  have he : txnErr d [(K, j, u)] [⟨K, V, false⟩] = 0 := by rw [once_err hK hV h0 h (Int.le_refl _), if_pos rfl]
  obtain ⟨f1, f2, _⟩ := txnF_one he
  have hE : (txnF d [(K, j, u)] [⟨K, V, false⟩]).E = [⟨K, j + 1, V⟩] := by
    rw [f1, if_neg (by simp), h.last]
    have : d.E.filter (fun y => !isK K y) = [] := List.filter_eq_nil_iff.2 fun x hx => by simp [isK, h.same x hx]
    unfold putD
    dsimp only
    rw [this]
    rfl
  refine ⟨⟨?_, ?_, by rw [f2, h.last], by rw [hE]; exact Nat.le_refl 1, fun x hx => by rw [hE, List.mem_singleton] at hx; subst hx; rfl⟩, hE⟩
  · unfold getS
    rw [hE]
    simp [isK]
  · unfold txnF
    rw [if_pos he]
    show touchF d.T K (revS d) K.size K = j + 1
    unfold touchF
    have hs : 1 ≤ K.size := by
      unfold keyB at hK
      simp only [Bool.and_eq_true, decide_eq_true_eq] at hK
      exact hK.1
    rw [if_pos ⟨hs, Nat.le_refl _, by simp⟩]
    unfold revS
    rw [h.last]
theorem once_no {K : ByteArray} {d : StoD} {j r : Int} {u : Bool} {V : List Int} (hK : keyB K = true) (hV : V.length ≤ 30) (h0 : 0 ≤ r) (h : Once K d j) (hr : r < j) : Once K (txnF d [(K, r, u)] [⟨K, V, false⟩]) j ∧ (txnF d [(K, r, u)] [⟨K, V, false⟩]).E = d.E := by
  have he : txnErr d [(K, r, u)] [⟨K, V, false⟩] ≠ 0 := by rw [once_err hK hV h0 h (by omega), if_neg (by omega)]; decide
  have hf : txnF d [(K, r, u)] [⟨K, V, false⟩] = { d with writes := wrap64 (d.writes + 1) } := by unfold txnF; rw [if_neg he]
  rw [hf]
  exact ⟨⟨h.rev, h.t, h.last, h.few, h.same⟩, rfl⟩
set_option maxRecDepth 100000 in
set_option maxHeartbeats 4000000 in
theorem storeOnce_walk (hBG : BegunP) (key : ByteArray) (n : Int) (u : Bool) (w : World) :
    Calls Tryz.prog 13 #[.string key, .int .i64 n, .bool u] w fun e w' => e = .returned (.bool true) ∧ Below w.heap.size w w' := by
  obtain ⟨N, hN, en⟩ := turn_nat6 n (n := 10) (by decide) (by decide)
  go_enter Tryz.func13, Tryz.ntmps13
  go_wp2_with fail
  refine (hBG _).mono ?_
  rintro e w1 ⟨rfl, hb1⟩
  go_wp2_with fail
  refine (lawText_any key 10 (by decide) w1).mono ?_
  rintro e w' ⟨t, rfl, ht, rfl⟩
  go_wp2_with fail
  refine (live_new w1).mono ?_
  rintro e w2 ⟨S, rfl, hl2, hb2⟩
  go_wp2_with fail
  obtain ⟨K, hK, hKb⟩ : ∃ K : ByteArray, K = ⟨#[107]⟩ ++ t ∧ keyB K = true := ⟨_, rfl, by
    unfold keyB
    simp only [ByteArray.size_append, Bool.and_eq_true, decide_eq_true_eq]
    have : (⟨#[107]⟩ : ByteArray).size = 1 := rfl
    omega⟩
  rw [← hK]
  clear hK
  obtain ⟨M, hM, hM1, hM2⟩ : ∃ M : Nat, wrap64 (1 + (wrap64 (n.tmod 10 + 10)).tmod 10) = (M : Int) ∧ 1 ≤ M ∧ M ≤ 10 := by
    have e2 : (wrap64 (n.tmod 10 + 10)).tmod 10 = (N : Int) := en
    refine ⟨N + 1, ?_, by omega, by omega⟩
    rw [e2, IntWalk.wrap64_in _ (by omega)]
    omega
  rw [hM]
  have HK := Lib.hid hKb
  have hKs : Hid (K.size ≤ maxLen) := by
    show _ ≤ _
    unfold keyB at hKb
    simp only [Bool.and_eq_true, decide_eq_true_eq] at hKb
    unfold maxLen
    omega
  have HL0 : Hid (∃ d, Live w1 w2 S d (12800 * 0) ∧ Once K d (0 : Nat)) := ⟨_, hl2, once_new K⟩
  have hbw := hb1.size
  have HB1 := Lib.hid hb1
  clear hKb hl2 hb1 hb2 hM en hN
  go_loopw [9] (fun i wr => ∃ j : Nat, j ≤ 5 ∧ i = .int .i64 j ∧ Hid (∃ d, Live w1 wr S d (12800 * j) ∧ Once K d j)) (fun i _ => 5 - (intOf i).toNat)
  case atStart => exact ⟨0, Nat.zero_le _, rfl, HL0⟩
  case round =>
    clear HL0
    obtain ⟨j, hj, rfl, HL⟩ := hrel
    by_cases h5 : j < 5
    · obtain ⟨d, hl, ho⟩ := HL.out
      obtain ⟨xk, xv, hx⟩ : ∃ xk xv, getS d K = ⟨xk, j, xv⟩ := ⟨_, _, by rw [← ho.rev]⟩
      have hget := live_get hl K hKs.out
      have HO := Lib.hid ho
      clear hl ho HL
      go_wp2_with fail
      refine hget.mono ?_
      rintro e w3 ⟨a3, c3, rfl, -, hl3, -⟩
      rw [hx]
      clear hget hx
      generalize (d.E.find? (isK K)).isSome = fnd
      obtain ⟨d3, ho3, hl3⟩ : ∃ d3 : StoD, Once K d3 j ∧ Live w1 w3 S d3 (12800 * j) := ⟨{ d with reads := wrap64 (d.reads + 1) }, ⟨HO.out.rev, HO.out.t, HO.out.last, HO.out.few, HO.out.same⟩, hl3⟩
      have H3 := Lib.hid (And.intro ho3 hl3)
      clear ho3 hl3 HO
      go_wp2_with (refine wpList_store_rowTo rfl 75 (.tmp 10) (.tmp 39) rfl rfl w3.heap.size #[.string xk, .int .i64 j, .slice a3 xv.length c3] rfl rfl 75 #[.string ⟨#[]⟩, .int .i64 0, .slice none 0 0] (heap_alloc_self _ _) (by kernel_rfl) rfl (by kernel_rfl) ?_; refine stand ?_)
      show wpList _ _ _ _ _ _
      have k4 : ((w3.alloc (.cells #[.string ⟨#[]⟩, .int .i64 0, .slice none 0 0] 75)).setRow w3.heap.size #[.string xk, .int .i64 j, .slice a3 xv.length c3]).heap[w3.heap.size]? = some (.cells #[.string xk, .int .i64 j, .slice a3 xv.length c3] 75) := setRow_heap _ _ _ _ _ _ (heap_alloc_self _ _)
      have b4 : Below w3.heap.size w3 ((w3.alloc (.cells #[.string ⟨#[]⟩, .int .i64 0, .slice none 0 0] 75)).setRow w3.heap.size #[.string xk, .int .i64 j, .slice a3 xv.length c3]) := Below.setRow ((Below.refl _ _).alloc (Nat.le_refl _) _) (Nat.le_refl _) _
      have zw4 : w3.heap.size < ((w3.alloc (.cells #[.string ⟨#[]⟩, .int .i64 0, .slice none 0 0] 75)).setRow w3.heap.size #[.string xk, .int .i64 j, .slice a3 xv.length c3]).heap.size := by simp
      generalize ((w3.alloc (.cells #[.string ⟨#[]⟩, .int .i64 0, .slice none 0 0] 75)).setRow w3.heap.size #[.string xk, .int .i64 j, .slice a3 xv.length c3]) = w4 at k4 b4 zw4 ⊢
      have hl4 := H3.out.2.below b4
      have x1 := cell_of_obj k4 1
      simp at x1
      have H4 := Lib.hid (And.intro H3.out.1 hl4)
      clear k4 b4 hl4 H3
      cases u
      · go_wp2_with fail
        go_loopw [13, 14] (fun done i wr => ∃ q : Nat, q ≤ M ∧ i = .int .i64 q ∧ (∃ c : Int, done = .int .i64 c ∧ (q = 0 → c = 0) ∧ (0 < q → c = 1)) ∧ Hid (∃ d m, m ≤ 12800 * j + 1280 * q ∧ Live w1 wr S d m ∧ (q = 0 → Once K d j) ∧ (0 < q → Once K d ((j : Int) + 1) ∧ d.E = [⟨K, (j : Int) + 1, [(j : Int), 0]⟩]))) (fun _ i _ => M - (intOf i).toNat)
        case atStart => exact ⟨0, Nat.zero_le _, rfl, ⟨0, rfl, fun _ => rfl, fun h => absurd h (by omega)⟩, ⟨_, 12800 * j, by omega, H4.out.2, fun _ => H4.out.1, fun h => absurd h (by omega)⟩⟩
        case round =>
          clear H4
          obtain ⟨q, hq, rfl, ⟨c, rfl, hc0, hc1⟩, HI⟩ := hrel
          by_cases hqM : q < M
          · obtain ⟨d, m, hm, hl, hz, hp⟩ := HI.out
            have w1' : IntKind.u8.wrap (j : Int) = (j : Int) := IntWalk.u8_in _ (by omega)
            by_cases q0 : q = 0
            · subst q0
              obtain rfl := hc0 rfl
              have ho := hz rfl
              have k0 := heap_three0 wr (.cells #[.string K, .int .i64 j, .bool false] 81) (.cells #[.int .u8 j, .int .u8 0] 5) (.cells #[.string K, .slice (some ⟨wr.heap.size + 1, 0, none⟩) 2 2, .bool false] 73)
              have k1 := heap_three1 wr (.cells #[.string K, .int .i64 j, .bool false] 81) (.cells #[.int .u8 j, .int .u8 0] 5) (.cells #[.string K, .slice (some ⟨wr.heap.size + 1, 0, none⟩) 2 2, .bool false] 73)
              have k2 := heap_three2 wr (.cells #[.string K, .int .i64 j, .bool false] 81) (.cells #[.int .u8 j, .int .u8 0] 5) (.cells #[.string K, .slice (some ⟨wr.heap.size + 1, 0, none⟩) 2 2, .bool false] 73)
              have hnew := below3 wr (.cells #[.string K, .int .i64 j, .bool false] 81) (.cells #[.int .u8 j, .int .u8 0] 5) (.cells #[.string K, .slice (some ⟨wr.heap.size + 1, 0, none⟩) 2 2, .bool false] 73)
              have htx := live_txn hl hnew (some ⟨wr.heap.size, 0, none⟩) [(K, (j : Int), false)] 1 (some ⟨wr.heap.size + 1 + 1, 0, none⟩) [⟨K, [(j : Int), 0], false⟩] 1 (at_guard1 k0 (by rintro ⟨_, h⟩; omega)) (at_write1 (V := [(j : Int), 0]) k2 (by rintro ⟨_, h⟩; omega) (Nat.le_refl _) (by show (2 : Nat) ≤ maxLen; decide) (fun h => by cases h) (fun w' ht => at_two (ht.obj k1 (by rintro ⟨_, h⟩; omega)) (by omega) (by omega) (by omega) (by omega))) (Nat.le_refl _) (by decide) (by omega) (by have := ho.few; omega) (by rw [ho.last]; constructor <;> omega)
              have P := Lib.hid (And.intro ((once_err (u := false) (V := [(j : Int), 0]) HK.out (by simp) (by omega) ho (Int.le_refl _)).trans (if_pos rfl)) (once_yes (u := false) (V := [(j : Int), 0]) HK.out (by simp) (by omega) ho))
              clear k0 k1 k2 hnew ho hz hp hl hc0 hc1 HI
              go_wp2_with fail
              refine htx.mono ?_
              rintro e w6 ⟨rfl, hl6, -⟩
              rw [P.out.1]
              have HE : Hid (∃ d m, m ≤ 12800 * j + 1280 * 1 ∧ Live w1 w6 S d m ∧ (1 = 0 → Once K d j) ∧ (0 < 1 → Once K d ((j : Int) + 1) ∧ d.E = [⟨K, (j : Int) + 1, [(j : Int), 0]⟩])) := ⟨_, m + 1280, by omega, hl6, fun h => absurd h (by omega), fun _ => P.out.2⟩
              clear htx P hl6 w1'
              go_wp2
              go_roundw
              case rel => exact ⟨1, by omega, by go_num, ⟨1, by first | rfl | go_num, fun h => absurd h (by omega), fun _ => rfl⟩, HE⟩
              case measure => simp [intOf]; omega
            · obtain ⟨ho, hE⟩ := hp (by omega)
              obtain rfl := hc1 (by omega)
              have w2' : IntKind.u8.wrap (q : Int) = (q : Int) := IntWalk.u8_in _ (by omega)
              have k0 := heap_three0 wr (.cells #[.string K, .int .i64 j, .bool false] 81) (.cells #[.int .u8 j, .int .u8 (q : Int)] 5) (.cells #[.string K, .slice (some ⟨wr.heap.size + 1, 0, none⟩) 2 2, .bool false] 73)
              have k1 := heap_three1 wr (.cells #[.string K, .int .i64 j, .bool false] 81) (.cells #[.int .u8 j, .int .u8 (q : Int)] 5) (.cells #[.string K, .slice (some ⟨wr.heap.size + 1, 0, none⟩) 2 2, .bool false] 73)
              have k2 := heap_three2 wr (.cells #[.string K, .int .i64 j, .bool false] 81) (.cells #[.int .u8 j, .int .u8 (q : Int)] 5) (.cells #[.string K, .slice (some ⟨wr.heap.size + 1, 0, none⟩) 2 2, .bool false] 73)
              have hnew := below3 wr (.cells #[.string K, .int .i64 j, .bool false] 81) (.cells #[.int .u8 j, .int .u8 (q : Int)] 5) (.cells #[.string K, .slice (some ⟨wr.heap.size + 1, 0, none⟩) 2 2, .bool false] 73)
              have htx := live_txn hl hnew (some ⟨wr.heap.size, 0, none⟩) [(K, (j : Int), false)] 1 (some ⟨wr.heap.size + 1 + 1, 0, none⟩) [⟨K, [(j : Int), (q : Int)], false⟩] 1 (at_guard1 k0 (by rintro ⟨_, h⟩; omega)) (at_write1 (V := [(j : Int), (q : Int)]) k2 (by rintro ⟨_, h⟩; omega) (Nat.le_refl _) (by show (2 : Nat) ≤ maxLen; decide) (fun h => by cases h) (fun w' ht => at_two (ht.obj k1 (by rintro ⟨_, h⟩; omega)) (by omega) (by omega) (by omega) (by omega))) (Nat.le_refl _) (by decide) (by omega) (by have := ho.few; omega) (by rw [ho.last]; constructor <;> omega)
              have P := Lib.hid (And.intro ((once_err (u := false) (V := [(j : Int), (q : Int)]) (r := j) HK.out (by simp) (by omega) ho (by omega)).trans (if_neg (by omega))) (once_no (u := false) (V := [(j : Int), (q : Int)]) (r := j) HK.out (by simp) (by omega) ho (by omega)))
              have HE := Lib.hid hE
              clear k0 k1 k2 hnew ho hz hp hl hc0 hc1 HI hE
              go_wp2_with fail
              refine htx.mono ?_
              rintro e w6 ⟨rfl, hl6, -⟩
              rw [P.out.1]
              have HE : Hid (∃ d m, m ≤ 12800 * j + 1280 * (q + 1) ∧ Live w1 w6 S d m ∧ (q + 1 = 0 → Once K d j) ∧ (0 < q + 1 → Once K d ((j : Int) + 1) ∧ d.E = [⟨K, (j : Int) + 1, [(j : Int), 0]⟩])) := ⟨_, m + 1280, by omega, hl6, fun h => absurd h (by omega), fun _ => ⟨P.out.2.1, P.out.2.2.trans HE.out⟩⟩
              clear htx P hl6 w1' w2'
              go_wp2
              go_roundw
              case rel => exact ⟨q + 1, by omega, by go_num, ⟨1, rfl, fun h => absurd h (by omega), fun _ => rfl⟩, HE⟩
              case measure => simp [intOf]; omega
          · obtain ⟨d, m, hm, hl, -, hp⟩ := HI.out
            obtain ⟨ho, hE⟩ := hp (by omega)
            obtain rfl := hc1 (by omega)
            have hget := live_get hl K hKs.out
            have hgs : getS d K = ⟨K, (j : Int) + 1, [(j : Int), 0]⟩ := by unfold getS; rw [hE]; simp [isK]
            have hgf : (d.E.find? (isK K)).isSome = true := by rw [hE]; simp [isK]
            have HO := Lib.hid ho
            clear hl ho hp hc0 hc1 HI hE
            go_wp2_with fail
            refine hget.mono ?_
            rintro e w7 ⟨a7, c7, rfl, hv7, hl7, -⟩
            rw [hgs] at hv7
            rw [hgs, hgf]
            clear hget hgs hgf
            obtain ⟨d7, ho7, hl7⟩ : ∃ d7 : StoD, Once K d7 ((j : Int) + 1) ∧ Live w1 w7 S d7 m := ⟨{ d with reads := wrap64 (d.reads + 1) }, ⟨HO.out.rev, HO.out.t, HO.out.last, HO.out.few, HO.out.same⟩, hl7⟩
            have H7 := Lib.hid (And.intro ho7 (And.intro hl7 hv7))
            clear ho7 hl7 hv7 HO
            go_wp2_with (refine wpList_store_rowTo rfl 75 (.tmp 17) (.tmp 80) rfl rfl w7.heap.size #[.string K, .int .i64 ((j : Int) + 1), .slice a7 2 c7] rfl rfl 75 #[.string ⟨#[]⟩, .int .i64 0, .slice none 0 0] (heap_alloc_self _ _) (by kernel_rfl) rfl (by kernel_rfl) ?_; refine stand ?_)
            show wpList _ _ _ _ _ _
            have k8 : ((w7.alloc (.cells #[.string ⟨#[]⟩, .int .i64 0, .slice none 0 0] 75)).setRow w7.heap.size #[.string K, .int .i64 ((j : Int) + 1), .slice a7 2 c7]).heap[w7.heap.size]? = some (.cells #[.string K, .int .i64 ((j : Int) + 1), .slice a7 2 c7] 75) := setRow_heap _ _ _ _ _ _ (heap_alloc_self _ _)
            have b8 : Below w7.heap.size w7 ((w7.alloc (.cells #[.string ⟨#[]⟩, .int .i64 0, .slice none 0 0] 75)).setRow w7.heap.size #[.string K, .int .i64 ((j : Int) + 1), .slice a7 2 c7]) := Below.setRow ((Below.refl _ _).alloc (Nat.le_refl _) _) (Nat.le_refl _) _
            have zw8 : w7.heap.size < ((w7.alloc (.cells #[.string ⟨#[]⟩, .int .i64 0, .slice none 0 0] 75)).setRow w7.heap.size #[.string K, .int .i64 ((j : Int) + 1), .slice a7 2 c7]).heap.size := by simp
            generalize ((w7.alloc (.cells #[.string ⟨#[]⟩, .int .i64 0, .slice none 0 0] 75)).setRow w7.heap.size #[.string K, .int .i64 ((j : Int) + 1), .slice a7 2 c7]) = w8 at k8 b8 zw8 ⊢
            have hl8 := H7.out.2.1.below b8
            have hv8 := val_turns (S := fun _ => False) H7.out.2.2 (turns_of_below b8) (fun _ h => h.elim)
            obtain ⟨g8, rfl⟩ := own_some' hv8.1 (by simp)
            have y1 := hv8.1.cellAt 1 (by simp)
            rw [show (u8s (⟨K, (j : Int) + 1, [(j : Int), 0]⟩ : EntD).val)[1]? = some (.int .u8 0) from rfl] at y1
            have x2 := cell_of_obj k8 2
            simp at x2
            have hrev := live_rev hl8
            rw [H7.out.1.last] at hrev
            have HE : Hid (∃ d, Live w1 w8 S d (12800 * (j + 1)) ∧ Once K d ((j + 1 : Nat) : Int)) := ⟨d7, hl8.mono (by omega), by rw [show ((j + 1 : Nat) : Int) = (j : Int) + 1 by omega]; exact H7.out.1⟩
            clear k8 b8 hl8 hv8 H7
            go_wp2_with fail
            refine hrev.mono ?_
            rintro e w' ⟨rfl, hw'⟩
            subst hw'
            clear hrev x2 y1
            go_wp2
            go_roundw
            case rel => exact ⟨j + 1, by omega, by go_num, HE⟩
            case measure => simp [intOf]; omega
      · have hrev := live_rev H4.out.2
        rw [H4.out.1.last] at hrev
        go_wp2_with fail
        refine hrev.mono ?_
        rintro e w' ⟨rfl, hw'⟩
        subst hw'
        clear hrev
        go_wp2_with fail
        go_loopw [13, 14] (fun done i wr => ∃ q : Nat, q ≤ M ∧ i = .int .i64 q ∧ (∃ c : Int, done = .int .i64 c ∧ (q = 0 → c = 0) ∧ (0 < q → c = 1)) ∧ Hid (∃ d m, m ≤ 12800 * j + 1280 * q ∧ Live w1 wr S d m ∧ (q = 0 → Once K d j) ∧ (0 < q → Once K d ((j : Int) + 1) ∧ d.E = [⟨K, (j : Int) + 1, [(j : Int), 0]⟩]))) (fun _ i _ => M - (intOf i).toNat)
        case atStart => exact ⟨0, Nat.zero_le _, rfl, ⟨0, rfl, fun _ => rfl, fun h => absurd h (by omega)⟩, ⟨_, 12800 * j, by omega, H4.out.2, fun _ => H4.out.1, fun h => absurd h (by omega)⟩⟩
        case round =>
          clear H4
          obtain ⟨q, hq, rfl, ⟨c, rfl, hc0, hc1⟩, HI⟩ := hrel
          by_cases hqM : q < M
          · obtain ⟨d, m, hm, hl, hz, hp⟩ := HI.out
            have w1' : IntKind.u8.wrap (j : Int) = (j : Int) := IntWalk.u8_in _ (by omega)
            by_cases q0 : q = 0
            · subst q0
              obtain rfl := hc0 rfl
              have ho := hz rfl
              have k0 := heap_three0 wr (.cells #[.string K, .int .i64 j, .bool true] 81) (.cells #[.int .u8 j, .int .u8 0] 5) (.cells #[.string K, .slice (some ⟨wr.heap.size + 1, 0, none⟩) 2 2, .bool false] 73)
              have k1 := heap_three1 wr (.cells #[.string K, .int .i64 j, .bool true] 81) (.cells #[.int .u8 j, .int .u8 0] 5) (.cells #[.string K, .slice (some ⟨wr.heap.size + 1, 0, none⟩) 2 2, .bool false] 73)
              have k2 := heap_three2 wr (.cells #[.string K, .int .i64 j, .bool true] 81) (.cells #[.int .u8 j, .int .u8 0] 5) (.cells #[.string K, .slice (some ⟨wr.heap.size + 1, 0, none⟩) 2 2, .bool false] 73)
              have hnew := below3 wr (.cells #[.string K, .int .i64 j, .bool true] 81) (.cells #[.int .u8 j, .int .u8 0] 5) (.cells #[.string K, .slice (some ⟨wr.heap.size + 1, 0, none⟩) 2 2, .bool false] 73)
              have htx := live_txn hl hnew (some ⟨wr.heap.size, 0, none⟩) [(K, (j : Int), true)] 1 (some ⟨wr.heap.size + 1 + 1, 0, none⟩) [⟨K, [(j : Int), 0], false⟩] 1 (at_guard1 k0 (by rintro ⟨_, h⟩; omega)) (at_write1 (V := [(j : Int), 0]) k2 (by rintro ⟨_, h⟩; omega) (Nat.le_refl _) (by show (2 : Nat) ≤ maxLen; decide) (fun h => by cases h) (fun w' ht => at_two (ht.obj k1 (by rintro ⟨_, h⟩; omega)) (by omega) (by omega) (by omega) (by omega))) (Nat.le_refl _) (by decide) (by omega) (by have := ho.few; omega) (by rw [ho.last]; constructor <;> omega)
              have P := Lib.hid (And.intro ((once_err (u := true) (V := [(j : Int), 0]) HK.out (by simp) (by omega) ho (Int.le_refl _)).trans (if_pos rfl)) (once_yes (u := true) (V := [(j : Int), 0]) HK.out (by simp) (by omega) ho))
              clear k0 k1 k2 hnew ho hz hp hl hc0 hc1 HI
              go_wp2_with fail
              refine htx.mono ?_
              rintro e w6 ⟨rfl, hl6, -⟩
              rw [P.out.1]
              have HE : Hid (∃ d m, m ≤ 12800 * j + 1280 * 1 ∧ Live w1 w6 S d m ∧ (1 = 0 → Once K d j) ∧ (0 < 1 → Once K d ((j : Int) + 1) ∧ d.E = [⟨K, (j : Int) + 1, [(j : Int), 0]⟩])) := ⟨_, m + 1280, by omega, hl6, fun h => absurd h (by omega), fun _ => P.out.2⟩
              clear htx P hl6 w1'
              go_wp2
              go_roundw
              case rel => exact ⟨1, by omega, by go_num, ⟨1, by first | rfl | go_num, fun h => absurd h (by omega), fun _ => rfl⟩, HE⟩
              case measure => simp [intOf]; omega
            · obtain ⟨ho, hE⟩ := hp (by omega)
              obtain rfl := hc1 (by omega)
              have w2' : IntKind.u8.wrap (q : Int) = (q : Int) := IntWalk.u8_in _ (by omega)
              have k0 := heap_three0 wr (.cells #[.string K, .int .i64 j, .bool true] 81) (.cells #[.int .u8 j, .int .u8 (q : Int)] 5) (.cells #[.string K, .slice (some ⟨wr.heap.size + 1, 0, none⟩) 2 2, .bool false] 73)
              have k1 := heap_three1 wr (.cells #[.string K, .int .i64 j, .bool true] 81) (.cells #[.int .u8 j, .int .u8 (q : Int)] 5) (.cells #[.string K, .slice (some ⟨wr.heap.size + 1, 0, none⟩) 2 2, .bool false] 73)
              have k2 := heap_three2 wr (.cells #[.string K, .int .i64 j, .bool true] 81) (.cells #[.int .u8 j, .int .u8 (q : Int)] 5) (.cells #[.string K, .slice (some ⟨wr.heap.size + 1, 0, none⟩) 2 2, .bool false] 73)
              have hnew := below3 wr (.cells #[.string K, .int .i64 j, .bool true] 81) (.cells #[.int .u8 j, .int .u8 (q : Int)] 5) (.cells #[.string K, .slice (some ⟨wr.heap.size + 1, 0, none⟩) 2 2, .bool false] 73)
              have htx := live_txn hl hnew (some ⟨wr.heap.size, 0, none⟩) [(K, (j : Int), true)] 1 (some ⟨wr.heap.size + 1 + 1, 0, none⟩) [⟨K, [(j : Int), (q : Int)], false⟩] 1 (at_guard1 k0 (by rintro ⟨_, h⟩; omega)) (at_write1 (V := [(j : Int), (q : Int)]) k2 (by rintro ⟨_, h⟩; omega) (Nat.le_refl _) (by show (2 : Nat) ≤ maxLen; decide) (fun h => by cases h) (fun w' ht => at_two (ht.obj k1 (by rintro ⟨_, h⟩; omega)) (by omega) (by omega) (by omega) (by omega))) (Nat.le_refl _) (by decide) (by omega) (by have := ho.few; omega) (by rw [ho.last]; constructor <;> omega)
              have P := Lib.hid (And.intro ((once_err (u := true) (V := [(j : Int), (q : Int)]) (r := j) HK.out (by simp) (by omega) ho (by omega)).trans (if_neg (by omega))) (once_no (u := true) (V := [(j : Int), (q : Int)]) (r := j) HK.out (by simp) (by omega) ho (by omega)))
              have HE := Lib.hid hE
              clear k0 k1 k2 hnew ho hz hp hl hc0 hc1 HI hE
              go_wp2_with fail
              refine htx.mono ?_
              rintro e w6 ⟨rfl, hl6, -⟩
              rw [P.out.1]
              have HE : Hid (∃ d m, m ≤ 12800 * j + 1280 * (q + 1) ∧ Live w1 w6 S d m ∧ (q + 1 = 0 → Once K d j) ∧ (0 < q + 1 → Once K d ((j : Int) + 1) ∧ d.E = [⟨K, (j : Int) + 1, [(j : Int), 0]⟩])) := ⟨_, m + 1280, by omega, hl6, fun h => absurd h (by omega), fun _ => ⟨P.out.2.1, P.out.2.2.trans HE.out⟩⟩
              clear htx P hl6 w1' w2'
              go_wp2
              go_roundw
              case rel => exact ⟨q + 1, by omega, by go_num, ⟨1, rfl, fun h => absurd h (by omega), fun _ => rfl⟩, HE⟩
              case measure => simp [intOf]; omega
          · obtain ⟨d, m, hm, hl, -, hp⟩ := HI.out
            obtain ⟨ho, hE⟩ := hp (by omega)
            obtain rfl := hc1 (by omega)
            have hget := live_get hl K hKs.out
            have hgs : getS d K = ⟨K, (j : Int) + 1, [(j : Int), 0]⟩ := by unfold getS; rw [hE]; simp [isK]
            have hgf : (d.E.find? (isK K)).isSome = true := by rw [hE]; simp [isK]
            have HO := Lib.hid ho
            clear hl ho hp hc0 hc1 HI hE
            go_wp2_with fail
            refine hget.mono ?_
            rintro e w7 ⟨a7, c7, rfl, hv7, hl7, -⟩
            rw [hgs] at hv7
            rw [hgs, hgf]
            clear hget hgs hgf
            obtain ⟨d7, ho7, hl7⟩ : ∃ d7 : StoD, Once K d7 ((j : Int) + 1) ∧ Live w1 w7 S d7 m := ⟨{ d with reads := wrap64 (d.reads + 1) }, ⟨HO.out.rev, HO.out.t, HO.out.last, HO.out.few, HO.out.same⟩, hl7⟩
            have H7 := Lib.hid (And.intro ho7 (And.intro hl7 hv7))
            clear ho7 hl7 hv7 HO
            go_wp2_with (refine wpList_store_rowTo rfl 75 (.tmp 17) (.tmp 80) rfl rfl w7.heap.size #[.string K, .int .i64 ((j : Int) + 1), .slice a7 2 c7] rfl rfl 75 #[.string ⟨#[]⟩, .int .i64 0, .slice none 0 0] (heap_alloc_self _ _) (by kernel_rfl) rfl (by kernel_rfl) ?_; refine stand ?_)
            show wpList _ _ _ _ _ _
            have k8 : ((w7.alloc (.cells #[.string ⟨#[]⟩, .int .i64 0, .slice none 0 0] 75)).setRow w7.heap.size #[.string K, .int .i64 ((j : Int) + 1), .slice a7 2 c7]).heap[w7.heap.size]? = some (.cells #[.string K, .int .i64 ((j : Int) + 1), .slice a7 2 c7] 75) := setRow_heap _ _ _ _ _ _ (heap_alloc_self _ _)
            have b8 : Below w7.heap.size w7 ((w7.alloc (.cells #[.string ⟨#[]⟩, .int .i64 0, .slice none 0 0] 75)).setRow w7.heap.size #[.string K, .int .i64 ((j : Int) + 1), .slice a7 2 c7]) := Below.setRow ((Below.refl _ _).alloc (Nat.le_refl _) _) (Nat.le_refl _) _
            have zw8 : w7.heap.size < ((w7.alloc (.cells #[.string ⟨#[]⟩, .int .i64 0, .slice none 0 0] 75)).setRow w7.heap.size #[.string K, .int .i64 ((j : Int) + 1), .slice a7 2 c7]).heap.size := by simp
            generalize ((w7.alloc (.cells #[.string ⟨#[]⟩, .int .i64 0, .slice none 0 0] 75)).setRow w7.heap.size #[.string K, .int .i64 ((j : Int) + 1), .slice a7 2 c7]) = w8 at k8 b8 zw8 ⊢
            have hl8 := H7.out.2.1.below b8
            have hv8 := val_turns (S := fun _ => False) H7.out.2.2 (turns_of_below b8) (fun _ h => h.elim)
            obtain ⟨g8, rfl⟩ := own_some' hv8.1 (by simp)
            have y1 := hv8.1.cellAt 1 (by simp)
            rw [show (u8s (⟨K, (j : Int) + 1, [(j : Int), 0]⟩ : EntD).val)[1]? = some (.int .u8 0) from rfl] at y1
            have x2 := cell_of_obj k8 2
            simp at x2
            have hrev := live_rev hl8
            rw [H7.out.1.last] at hrev
            have HE : Hid (∃ d, Live w1 w8 S d (12800 * (j + 1)) ∧ Once K d ((j + 1 : Nat) : Int)) := ⟨d7, hl8.mono (by omega), by rw [show ((j + 1 : Nat) : Int) = (j : Int) + 1 by omega]; exact H7.out.1⟩
            clear k8 b8 hl8 hv8 H7
            go_wp2_with fail
            refine hrev.mono ?_
            rintro e w' ⟨rfl, hw'⟩
            subst hw'
            clear hrev x2 y1
            go_wp2
            go_roundw
            case rel => exact ⟨j + 1, by omega, by go_num, HE⟩
            case measure => simp [intOf]; omega
    · go_wp2
      go_ret
      obtain ⟨d, hl, _⟩ := HL.out
      exact ⟨rfl, HB1.out.trans (hl.bel.mono hbw)⟩
end Go.Proofs.YtaleceobkbgcnaaGreat.Rp
