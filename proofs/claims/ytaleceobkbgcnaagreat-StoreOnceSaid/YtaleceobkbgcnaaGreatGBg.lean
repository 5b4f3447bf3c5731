/-
  What the opening sentence of log, store, call and reply reckons: closed facts. No conditions beyond what is written in each statement.
-/
import Derived.Test.YtaleceobkbgcnaaGreatGRpC
import Derived.Test.YtaleceobkbgcnaaGreatBeg2
import Derived.Lib.SmallJoins
set_option linter.unusedSimpArgs false
set_option linter.unusedVariables false
namespace Go.Proofs.YtaleceobkbgcnaaGreat.Rp
open Go.RowKit

def bgL : LogD := ⟨mostOf 3, [], 0, 0⟩
def bgE : EvD := ⟨4, ⟨#[107]⟩, [], false⟩
theorem bg_follow : followB bgL.last [bgE] = true := by kernel_rfl
theorem bg_errF : errF (addD bgL [bgE]) 0 = 0 := by kernel_rfl
theorem bg_fromF : (fromF (addD bgL [bgE]) 0).length = 1 := by kernel_rfl
def bgG : List Gd := [(tA, 0, false)]
def bgX : List Wr := [⟨tA, [120], false⟩]
def bgY : List Wr := [⟨tA, [121], false⟩]
theorem bg_err1 : txnErr newS bgG bgX = 0 := by kernel_rfl
theorem bg_rev1 : txnRev newS bgG bgX = 1 := by kernel_rfl
def bgS : StoD := txnF newS bgG bgX
theorem bg_err2 : txnErr bgS bgG bgY = 6 := by kernel_rfl
theorem bg_rev2 : txnRev bgS bgG bgY = 0 := by kernel_rfl
theorem bg_E1 : bgS.E = [⟨tA, 1, [120]⟩] := by kernel_rfl
theorem bg_log1 : bgS.log.last = 1 := by kernel_rfl
def bgS2 : StoD := txnF bgS bgG bgY
theorem bg_E : bgS2.E = [⟨tA, 1, [120]⟩] := by kernel_rfl
theorem bg_get : getS bgS2 tA = ⟨tA, 1, [120]⟩ := by kernel_rfl
theorem bg_has : (bgS2.E.find? (isK tA)).isSome = true := by kernel_rfl
theorem bg_last : bgS2.log.last = 1 := by kernel_rfl
def bgC : CallD := ⟨1, 5, 2, ⟨#[]⟩, 0, [], []⟩
theorem bg_call : callB bgC = true := by kernel_rfl
theorem bg_eqC : eqCall bgC bgC = true := by kernel_rfl
def bgA : AnsD := ⟨1, 5, 2, 0, 1, [⟨tA, 1, [120]⟩], []⟩
theorem bg_ans : ansB bgA = true := by kernel_rfl
theorem bg_eqA : eqAns bgA bgA = true := by kernel_rfl
theorem bg_keyed : Keyed bgS2.E := by
  rw [bg_E]
  simp [Keyed]
def bgCL : List Int := vI (callEnc bgC)
theorem bg_encC : callEnc bgC = u8s bgCL := by kernel_rfl
theorem bg_inC : ∀ x ∈ bgCL, 0 ≤ x ∧ x ≤ 255 := by
  have h : (bgCL.all fun x => decide (0 ≤ x) && decide (x ≤ 255)) = true := by kernel_rfl
  intro x hx
  simpa using List.all_eq_true.1 h x hx
theorem bg_lenC : bgCL.length ≤ 100000 := by
  have h : decide (bgCL.length ≤ 100000) = true := by kernel_rfl
  simpa using h
theorem bg_backC : callOf bgCL = some bgC := by
  unfold bgCL callEnc
  rw [if_pos bg_call]
  exact call_back bg_call
theorem bg_atC (w : World) : CallAt w bgC c0H := ⟨⟨by decide, fun i hi => absurd hi (Nat.not_lt_zero i)⟩, ⟨by decide, fun i hi => absurd hi (Nat.not_lt_zero i)⟩⟩
def bgAL : List Int := vI (ansEnc bgA)
theorem bg_encA : ansEnc bgA = u8s bgAL := by kernel_rfl
theorem bg_inA : ∀ x ∈ bgAL, 0 ≤ x ∧ x ≤ 255 := by
  have h : (bgAL.all fun x => decide (0 ≤ x) && decide (x ≤ 255)) = true := by kernel_rfl
  intro x hx
  simpa using List.all_eq_true.1 h x hx
theorem bg_lenA : bgAL.length ≤ 100000 := by
  have h : decide (bgAL.length ≤ 100000) = true := by kernel_rfl
  simpa using h
theorem bg_backA : ansOf bgAL = some bgA := by
  unfold bgAL ansEnc
  rw [if_pos bg_ans]
  exact ans_back bg_ans
end Go.Proofs.YtaleceobkbgcnaaGreat.Rp
namespace Go.Proofs.YtaleceobkbgcnaaGreat.Rp
open Go.RowKit

theorem ev_one {w : World} {b : Nat} {x : EvD} (hb : b < w.heap.size) (c0 : w.cell? ⟨b, 0, none⟩ = some (.int .i64 x.rev)) (c1 : w.cell? ⟨b, 1, none⟩ = some (.string x.key)) (c2 : w.cell? ⟨b, 2, none⟩ = some (.slice none 0 0)) (c3 : w.cell? ⟨b, 3, none⟩ = some (.bool x.gone)) (hv : x.val = []) : AtE w (some ⟨b, 0, none⟩) [x] :=
  ⟨by simp, fun i hi => by
    obtain rfl : i = 0 := by simpa using hi
    refine ⟨b, 0, none, 0, rfl, hb, c0, c1, ?_, c3, ?_, ?_, ?_, fun _ => rfl⟩
    · simpa [hv] using c2
    · intro j hj; simp [hv] at hj
    · simp [hv]
    · decide⟩
abbrev oG : Obj := .cells #[.string tA, .int .i64 0, .bool false] 81
abbrev oY (y : Int) : Obj := .cells #[.int .u8 y] 5 (1, 2)
abbrev oW (k : Nat) : Obj := .cells #[.string tA, .slice (some ⟨k, 0, none⟩) 1 1, .bool false] 73
theorem txn_args (W : World) (h : StoH) (hlt : ∀ k, StoS h k → k < W.heap.size) (y : Int) (hy : 0 ≤ y ∧ y ≤ 255) :
    (∀ w', Turns (StoS h) (((W.alloc oG).alloc (oY y)).alloc (oW (W.heap.size + 1))) w' → AtG w' (some ⟨W.heap.size, 0, none⟩) bgG) ∧ WsAt (StoS h) (((W.alloc oG).alloc (oY y)).alloc (oW (W.heap.size + 1))) (some ⟨W.heap.size + 1 + 1, 0, none⟩) [⟨tA, [y], false⟩]
    ∧ Below W.heap.size W (((W.alloc oG).alloc (oY y)).alloc (oW (W.heap.size + 1))) := by
  have k0 : (((W.alloc oG).alloc (oY y)).alloc (oW (W.heap.size + 1))).heap[W.heap.size]? = some oG := by rw [Below.heap_alloc _ _ _ (by simp; omega), Below.heap_alloc _ _ _ (by simp)]; exact heap_alloc_self _ _
  have k1 : (((W.alloc oG).alloc (oY y)).alloc (oW (W.heap.size + 1))).heap[W.heap.size + 1]? = some (oY y) := by
    rw [Below.heap_alloc _ _ _ (by simp)]
    have := heap_alloc_self (W.alloc oG) (oY y)
    simpa using this
  have k2 : (((W.alloc oG).alloc (oY y)).alloc (oW (W.heap.size + 1))).heap[W.heap.size + 1 + 1]? = some (oW (W.heap.size + 1)) := by
    have := heap_alloc_self ((W.alloc oG).alloc (oY y)) (oW (W.heap.size + 1))
    simpa using this
  have hs : (((W.alloc oG).alloc (oY y)).alloc (oW (W.heap.size + 1))).heap.size = W.heap.size + 1 + 1 + 1 := by simp
  refine ⟨fun w' ht => ⟨by decide, fun i hi => ?_⟩, ⟨by simp, fun i hi => ?_⟩, below3 _ _ _ _⟩
  · obtain rfl : i = 0 := by simpa [bgG] using hi
    have q := ht.obj k0 (fun e => by have := hlt _ e; omega)
    exact ⟨_, 0, rfl, by have := ht.size; omega, cell_of_obj q 0, cell_of_obj q 1, cell_of_obj q 2⟩
  · obtain rfl : i = 0 := by simpa using hi
    refine ⟨_, 0, some ⟨W.heap.size + 1, 0, none⟩, 1, rfl, by simp, by decide, fun e => (by cases e), fun w' ht => ?_⟩
    have q1 := ht.obj k1 (fun e => by have := hlt _ e; omega)
    have q2 := ht.obj k2 (fun e => by have := hlt _ e; omega)
    refine ⟨by have := ht.size; omega, cell_of_obj q2 0, cell_of_obj q2 1, cell_of_obj q2 2, fun j hj => ?_⟩
    obtain rfl : j = 0 := by simpa using hj
    exact ⟨_, 0, rfl, by have := ht.size; omega, cell_of_obj q1 0, hy⟩
theorem begun1_any (w : World) : Calls Tryz.prog 62 #[] w fun e w' => e = .returned (.bool true) ∧ Below w.heap.size w w' := by
  go_enter Tryz.func62, Tryz.ntmps62
  go_wp2_with fail
  refine (begun_any _).mono ?_
  rintro e w1 ⟨rfl, hb1⟩
  go_wp2
  go_ret
  exact ⟨rfl, hb1⟩
set_option maxRecDepth 100000 in
set_option maxHeartbeats 8000000 in
theorem begun6_any (w : World) : Calls Tryz.prog 22 #[] w fun e w' => e = .returned (.bool true) ∧ Below w.heap.size w w' := by
  go_enter Tryz.func22, Tryz.ntmps22
  go_wp2_with fail
  refine (logNew_any 3 w).mono ?_
  rintro e w1 ⟨rfl, hw1⟩
  have hL1 : LogAt w1 w.heap.size w.heap.size (.slice none 0 0) [] (newD 3) := by subst hw1; exact logAt_new 3 w w.heap.size (Nat.le_refl _)
  have hb1 : Below w.heap.size w w1 := by subst hw1; exact (Below.refl _ _).alloc (Nat.le_refl _) _
  have hz1 : w1.heap.size = w.heap.size + 1 := by subst hw1; simp
  clear hw1
  go_wp2_with fail
  refine (stoNew_any w1).mono ?_
  rintro e w2 ⟨h, rfl, ha2, hb2, hn2, hlo2, -⟩
  have HLO := Lib.hid hlo2
  clear hlo2
  have H2 := Lib.hid (And.intro (hL1.below hb2) (And.intro (hb1.trans (hb2.mono (by omega))) (And.intro ha2 hn2)))
  have hz2 := hb2.size
  clear hL1 hb1 ha2 hb2 hn2
  go_wp2_with fail
  have hbE : Below w2.heap.size w2 (w2.alloc (.cells #[.int .i64 4, .string ⟨#[107]⟩, .slice none 0 0, .bool false] 30)) := (Below.refl _ _).alloc (Nat.le_refl _) _
  have kE := heap_alloc_self w2 (.cells #[.int .i64 4, .string ⟨#[107]⟩, .slice none 0 0, .bool false] 30)
  have hL3 := H2.out.1.below hbE
  have hA3 := H2.out.2.2.1.below hbE
  have hE : ∀ w', Turns (LogS w.heap.size (.slice none 0 0)) (w2.alloc (.cells #[.int .i64 4, .string ⟨#[107]⟩, .slice none 0 0, .bool false] 30)) w' → AtE w' (some ⟨w2.heap.size, 0, none⟩) [bgE] := fun w' ht => by
    have hn : ¬ LogS w.heap.size (.slice none 0 0) w2.heap.size := by rintro (e | e); omega; cases e
    have c := fun j => cell_of_obj kE j
    have q := ht.obj kE hn
    exact ev_one (by have := ht.size; simp at this; omega) (cell_of_obj q 0) (cell_of_obj q 1) (cell_of_obj q 2) (cell_of_obj q 3) rfl
  refine (logAdd_any w.heap.size w.heap.size _ [] (newD 3) (some ⟨w2.heap.size, 0, none⟩) [bgE] 1 _ hL3 (by have := hbE.size; omega) hE (by decide) (by decide)).mono ?_
  rintro e w4 ⟨rfl, v4, E4, hL4, hT4, -⟩
  rw [show followB (newD 3).last [bgE] = true from bg_follow]
  have hA4 : StoAt w4 w1.heap.size h newS := hA3.turns hT4 (fun k hk hs => by
    have := HLO.out.ge hA3 (Nat.le_refl _) k hk
    rcases hs with e | e
    · omega
    · cases e) (fun k hk => hL3.raw.tys k hk)
  have hb4 : Below w.heap.size w w4 := (H2.out.2.1.trans (hbE.mono (by have := H2.out.2.1.size; omega))).trans (hT4.below (by have := H2.out.2.1.size; have := hbE.size; omega) (fun x hx => by
    rcases hx with e | e
    · omega
    · cases e))
  have hn4 := H2.out.2.2.2
  have hz4 : w2.heap.size + 1 ≤ w4.heap.size := by have := hT4.size; simpa using this
  have H4 := Lib.hid (And.intro hL4 (And.intro hb4 (And.intro hA4 hn4)))
  clear hL3 hA3 hE hbE kE H2 hL4 hT4 hA4 hb4 hn4
  go_wp2_with fail
  refine (from_any w.heap.size w.heap.size v4 E4 _ 0 w4 H4.out.1).mono ?_
  rintro e w5 ⟨v5, E5, rfl, hE5, hr5, hb5, -⟩
  rw [show errF (addD (newD 3) [bgE]) 0 = 0 from bg_errF]
  obtain ⟨a5, c5, rfl⟩ := owns_form hr5.row
  have hl5 : E5.length = 1 := by
    have h1 : (evs E5).length = 1 := by rw [hE5]; exact bg_fromF
    simpa [evs] using h1
  rw [hl5]
  have H5 := Lib.hid (And.intro (H4.out.2.1.trans (hb5.mono (by omega))) (And.intro (H4.out.2.2.1.below hb5) H4.out.2.2.2))
  have hz5 := hb5.size
  clear hE5 hr5 hb5 hl5 H4
  obtain ⟨q1, q2, q3⟩ := txn_args w5 h H5.out.2.1.lt 120 (by decide)
  have hE0 : h.E.length = 0 := by
    have := H5.out.2.1.same
    have h2 : (h.E.map (·.1)).length = 0 := by rw [this]; rfl
    simpa using h2
  have htx := stoTxnDo_any _ w1.heap.size h newS _ bgG 1 _ bgX 1 (H5.out.2.1.below q3) q1 q2 (by decide) (by decide) (by rw [H5.out.2.2]; decide) (by omega) (by decide)
  clear q1 q2
  (try clear hE0)
  (try clear hE1)
  have hcv := Go.Joins.run_convert_bytes_const_at (P := Tryz.prog) (w5.alloc (.cells #[.string ⟨#[97]⟩, .int .i64 0, .bool false] 81)) 28 5 #[.int .u8 120] 1 1 (w5.heap.size + 1) (by simp) Tryz.underlying28 Tryz.underlying5
  go_wp2_with fail
  clear hcv
  refine htx.mono ?_
  rintro e w6 ⟨rfl, n6, L6, E6, v6, H6', ha6', hn6, hl6, hT6, -⟩
  rw [show txnRev newS bgG bgX = 1 from bg_rev1, show txnErr newS bgG bgX = 0 from bg_err1]
  obtain ⟨h6, hS6, hN6, ha6, hlo6⟩ : ∃ h6 : StoH, h6.S = h.S ∧ h6.nT = n6 ∧ StoAt w6 w1.heap.size h6 bgS ∧ StoLo w1.heap.size h6 := ⟨{ h with nT := n6, L := L6, E := E6, v := v6, H := H6' }, rfl, rfl, ha6', HLO.out⟩
  have HLO6 := Lib.hid hlo6
  clear hlo6
  have hs5 := H5.out.1.size
  have hb6 := (H5.out.1.trans (q3.mono hs5)).trans (hT6.below (B := w.heap.size) (by have := q3.size; omega) (fun x hx => by have := HLO.out.ge H5.out.2.1 (Nat.le_refl _) x hx; omega))
  have hn6' : h6.nT ≤ 1280 := by have := H5.out.2.2; omega
  have hz6 : w5.heap.size ≤ w6.heap.size := Nat.le_trans q3.size hT6.size
  have H6 := Lib.hid (And.intro hb6 (And.intro ha6 hn6'))
  rw [← hS6]
  clear hS6 ha6'
  clear htx q3 hb6 hn6' hT6 hN6 hn6 hl6 H5 ha6
  obtain ⟨q1, q2, q3⟩ := txn_args w6 h6 H6.out.2.1.lt 121 (by decide)
  have hE1 : h6.E.length = 1 := by
    have := H6.out.2.1.same
    have h2 : (h6.E.map (·.1)).length = 1 := by rw [this, bg_E1]; rfl
    simpa using h2
  have htx := stoTxnDo_any _ w1.heap.size h6 bgS _ bgG 1 _ bgY 1 (H6.out.2.1.below q3) q1 q2 (by decide) (by decide) (by have := H6.out.2.2; omega) (by omega) (by rw [bg_log1]; decide)
  clear q1 q2
  (try clear hE0)
  (try clear hE1)
  have hcv := Go.Joins.run_convert_bytes_const_at (P := Tryz.prog) (w6.alloc (.cells #[.string ⟨#[97]⟩, .int .i64 0, .bool false] 81)) 28 5 #[.int .u8 121] 1 1 (w6.heap.size + 1) (by simp) Tryz.underlying28 Tryz.underlying5
  go_wp2_with fail
  clear hcv
  refine htx.mono ?_
  rintro e w7 ⟨rfl, n7, L7, E7, v7, H7', ha7', hn7, hl7, hT7, -⟩
  rw [show txnRev bgS bgG bgY = 0 from bg_rev2, show txnErr bgS bgG bgY = 6 from bg_err2]
  obtain ⟨h7, hS7, ha7, hlo7⟩ : ∃ h7 : StoH, h7.S = h6.S ∧ StoAt w7 w1.heap.size h7 bgS2 ∧ StoLo w1.heap.size h7 := ⟨{ h6 with nT := n7, L := L7, E := E7, v := v7, H := H7' }, rfl, ha7', HLO6.out⟩
  have HLO7 := Lib.hid hlo7
  clear hlo7
  have hs6 := H6.out.1.size
  have hb7 := (H6.out.1.trans (q3.mono hs6)).trans (hT7.below (B := w.heap.size) (by have := q3.size; omega) (fun x hx => by have := HLO6.out.ge H6.out.2.1 (Nat.le_refl _) x hx; omega))
  have hz7 : w6.heap.size ≤ w7.heap.size := Nat.le_trans q3.size hT7.size
  have H7 := Lib.hid (And.intro hb7 ha7)
  rw [← hS7]
  clear hS7 ha7'
  clear htx q3 hb7 hT7 hn7 hl7 H6 ha7
  have hget := stoGet_any w7 w1.heap.size h7 bgS2 tA H7.out.2 (by decide)
  go_wp2_with fail
  refine hget.mono ?_
  rintro e w8 ⟨a8, c8, rfl, hv8, ha8, hT8⟩
  rw [bg_has]
  rw [bg_get] at hv8 ⊢
  have hs7 := H7.out.1.size
  have hb8 : Below w.heap.size w w8 := H7.out.1.trans (hT8.below (B := w.heap.size) hs7 (fun x hx => by have := HLO7.out.1; subst hx; omega))
  have hz8 : w7.heap.size ≤ w8.heap.size := hT8.size
  obtain ⟨d8, hE8, hl8, ha8⟩ : ∃ d8 : StoD, d8.E = [⟨tA, 1, [120]⟩] ∧ d8.log.last = 1 ∧ StoAt w8 w1.heap.size h7 d8 := ⟨{ bgS2 with reads := wrap64 (bgS2.reads + 1) }, bg_E, bg_last, ha8⟩
  have hS8 : h7.S < w8.heap.size := ha8.lt _ (.inl rfl)
  have H8 := Lib.hid (And.intro hb8 (And.intro ha8 (And.intro hv8 (And.intro hE8 hl8))))
  have HZ1 := Lib.hid (show w.heap.size ≤ w1.heap.size by omega)
  clear hget hb8 ha8 hv8 hT8 H7 hE8 hl8 hz7 hz6 hz5 hz4 hz2 hz1 hs7 hs6
  go_wp2_with (refine wpList_store_rowTo rfl 75 (.tmp 10) (.tmp 62) rfl rfl w8.heap.size #[.string tA, .int .i64 1, .slice a8 1 c8] rfl rfl 75 #[.string ⟨#[]⟩, .int .i64 0, .slice none 0 0] (heap_alloc_self _ _) (by kernel_rfl) rfl (by kernel_rfl) ?_; refine stand ?_)
  show wpList _ _ _ _ _ _
  have k10 : ((w8.alloc (.cells #[.string ⟨#[]⟩, .int .i64 0, .slice none 0 0] 75)).setRow w8.heap.size #[.string tA, .int .i64 1, .slice a8 1 c8]).heap[w8.heap.size]? = some (.cells #[.string tA, .int .i64 1, .slice a8 1 c8] 75) := setRow_heap _ _ _ _ _ _ (heap_alloc_self _ _)
  have b9 : Below w8.heap.size w8 ((w8.alloc (.cells #[.string ⟨#[]⟩, .int .i64 0, .slice none 0 0] 75)).setRow w8.heap.size #[.string tA, .int .i64 1, .slice a8 1 c8]) := Below.setRow ((Below.refl _ _).alloc (Nat.le_refl _) _) (Nat.le_refl _) _
  have zw9 : w8.heap.size < ((w8.alloc (.cells #[.string ⟨#[]⟩, .int .i64 0, .slice none 0 0] 75)).setRow w8.heap.size #[.string tA, .int .i64 1, .slice a8 1 c8]).heap.size := by simp
  generalize ((w8.alloc (.cells #[.string ⟨#[]⟩, .int .i64 0, .slice none 0 0] 75)).setRow w8.heap.size #[.string tA, .int .i64 1, .slice a8 1 c8]) = w9 at k10 b9 zw9 ⊢
  have H9 := Lib.hid (And.intro k10 b9)
  clear k10 b9
  go_wp2_with (refine wpList_store_rowTo rfl 59 (.tmp 12) (.tmp 64) rfl rfl w9.heap.size #[.int .i64 1, .int .i64 5, .int .i64 2, .string ⟨#[]⟩, .int .i64 0, .slice none 0 0, .slice none 0 0] rfl rfl 59 #[.int .i64 0, .int .i64 0, .int .i64 0, .string ⟨#[]⟩, .int .i64 0, .slice none 0 0, .slice none 0 0] (heap_alloc_self _ _) (by kernel_rfl) rfl (by kernel_rfl) ?_; refine stand ?_)
  show wpList _ _ _ _ _ _
  have k12 : ((w9.alloc (.cells #[.int .i64 0, .int .i64 0, .int .i64 0, .string ⟨#[]⟩, .int .i64 0, .slice none 0 0, .slice none 0 0] 59)).setRow w9.heap.size #[.int .i64 1, .int .i64 5, .int .i64 2, .string ⟨#[]⟩, .int .i64 0, .slice none 0 0, .slice none 0 0]).heap[w9.heap.size]? = some (.cells #[.int .i64 1, .int .i64 5, .int .i64 2, .string ⟨#[]⟩, .int .i64 0, .slice none 0 0, .slice none 0 0] 59) := setRow_heap _ _ _ _ _ _ (heap_alloc_self _ _)
  have b10 : Below w9.heap.size w9 ((w9.alloc (.cells #[.int .i64 0, .int .i64 0, .int .i64 0, .string ⟨#[]⟩, .int .i64 0, .slice none 0 0, .slice none 0 0] 59)).setRow w9.heap.size #[.int .i64 1, .int .i64 5, .int .i64 2, .string ⟨#[]⟩, .int .i64 0, .slice none 0 0, .slice none 0 0]) := Below.setRow ((Below.refl _ _).alloc (Nat.le_refl _) _) (Nat.le_refl _) _
  have zw10 : w9.heap.size < ((w9.alloc (.cells #[.int .i64 0, .int .i64 0, .int .i64 0, .string ⟨#[]⟩, .int .i64 0, .slice none 0 0, .slice none 0 0] 59)).setRow w9.heap.size #[.int .i64 1, .int .i64 5, .int .i64 2, .string ⟨#[]⟩, .int .i64 0, .slice none 0 0, .slice none 0 0]).heap.size := by simp
  generalize ((w9.alloc (.cells #[.int .i64 0, .int .i64 0, .int .i64 0, .string ⟨#[]⟩, .int .i64 0, .slice none 0 0, .slice none 0 0] 59)).setRow w9.heap.size #[.int .i64 1, .int .i64 5, .int .i64 2, .string ⟨#[]⟩, .int .i64 0, .slice none 0 0, .slice none 0 0]) = w10 at k12 b10 zw10 ⊢
  have H10 := Lib.hid (And.intro k12 b10)
  clear k12 b10
  go_wp2_with (refine wpList_load_rowG (by first | rfl | kernel_rfl) 59 (.tmp 12) rfl w9.heap.size rfl 59 _ (0, 0) _ H10.out.1 Tryz.underlying59 rfl (by kernel_rfl) ?_)
  refine (callPut_any bgC c0H w10 (bg_atC _)).mono ?_
  rintro e w11 ⟨v11, rfl, ho11, hb11⟩
  have hCl : (u8s bgCL).length = bgCL.length := List.length_map ..
  rw [bg_encC, hCl] at ho11
  obtain ⟨a11, c11, rfl, q1, q2, hat11⟩ := bytes_of bgCL ho11 rfl rfl bg_inC
  have hno11 : a11 = none → c11 = 0 := by
    obtain ⟨_, _, e, _, _, hno⟩ := own_len ho11
    cases e
    exact hno
  have hgc : Calls Tryz.prog 37 #[.slice a11 bgCL.length c11] w11 (fun e w' => ∃ h, e = .returned (.tuple #[callV bgC h, .bool true]) ∧ Below w11.heap.size w11 w') := by
    refine (callGet_any a11 bgCL c11 w11 hat11 q1 q2 hno11 ⟨by have := bg_lenC; dsimp only; omega, bg_inC⟩).mono ?_
    rintro e w' (⟨c, h, hr, rfl, ho, hb⟩ | ⟨hr, _⟩)
    · rw [bg_backC] at hr; cases hr; exact ⟨h, rfl, hb⟩
    · rw [bg_backC] at hr; cases hr
  have z11 := hb11.size
  have H11 := Lib.hid hb11
  clear hb11 ho11 hCl q1 q2 hat11 hno11
  generalize bgCL.length = nCL at hgc ⊢
  go_wp2_with fail
  refine hgc.mono ?_
  rintro e w12 ⟨⟨ga, gc, wa, wc⟩, rfl, hb12⟩
  clear hgc
  have z12 := hb12.size
  have H12 := Lib.hid hb12
  clear hb12
  go_wp2_with (refine wpList_store_rowTo rfl 59 (.tmp 13) (.tmp 69) rfl rfl w12.heap.size #[.int .i64 1, .int .i64 5, .int .i64 2, .string ⟨#[]⟩, .int .i64 0, .slice ga 0 gc, .slice wa 0 wc] rfl rfl 59 #[.int .i64 0, .int .i64 0, .int .i64 0, .string ⟨#[]⟩, .int .i64 0, .slice none 0 0, .slice none 0 0] (heap_alloc_self _ _) (by kernel_rfl) rfl (by kernel_rfl) ?_; refine stand ?_)
  show wpList _ _ _ _ _ _
  have k13 : ((w12.alloc (.cells #[.int .i64 0, .int .i64 0, .int .i64 0, .string ⟨#[]⟩, .int .i64 0, .slice none 0 0, .slice none 0 0] 59)).setRow w12.heap.size #[.int .i64 1, .int .i64 5, .int .i64 2, .string ⟨#[]⟩, .int .i64 0, .slice ga 0 gc, .slice wa 0 wc]).heap[w12.heap.size]? = some (.cells #[.int .i64 1, .int .i64 5, .int .i64 2, .string ⟨#[]⟩, .int .i64 0, .slice ga 0 gc, .slice wa 0 wc] 59) := setRow_heap _ _ _ _ _ _ (heap_alloc_self _ _)
  have b13 : Below w12.heap.size w12 ((w12.alloc (.cells #[.int .i64 0, .int .i64 0, .int .i64 0, .string ⟨#[]⟩, .int .i64 0, .slice none 0 0, .slice none 0 0] 59)).setRow w12.heap.size #[.int .i64 1, .int .i64 5, .int .i64 2, .string ⟨#[]⟩, .int .i64 0, .slice ga 0 gc, .slice wa 0 wc]) := Below.setRow ((Below.refl _ _).alloc (Nat.le_refl _) _) (Nat.le_refl _) _
  have zw13 : w12.heap.size < ((w12.alloc (.cells #[.int .i64 0, .int .i64 0, .int .i64 0, .string ⟨#[]⟩, .int .i64 0, .slice none 0 0, .slice none 0 0] 59)).setRow w12.heap.size #[.int .i64 1, .int .i64 5, .int .i64 2, .string ⟨#[]⟩, .int .i64 0, .slice ga 0 gc, .slice wa 0 wc]).heap.size := by simp
  generalize ((w12.alloc (.cells #[.int .i64 0, .int .i64 0, .int .i64 0, .string ⟨#[]⟩, .int .i64 0, .slice none 0 0, .slice none 0 0] 59)).setRow w12.heap.size #[.int .i64 1, .int .i64 5, .int .i64 2, .string ⟨#[]⟩, .int .i64 0, .slice ga 0 gc, .slice wa 0 wc]) = w13 at k13 b13 zw13 ⊢
  have B10 : Below w10.heap.size w10 w13 := H11.out.trans ((H12.out.trans (b13.mono z12)).mono z11)
  have B9 : Below w9.heap.size w9 w13 := H10.out.2.trans (B10.mono (Nat.le_of_lt zw10))
  have B8 : Below w8.heap.size w8 w13 := H9.out.2.trans (B9.mono (Nat.le_of_lt zw9))
  have hv13 := val_turns (S := fun _ => False) H8.out.2.2.1 (turns_of_below B8) (fun _ h => h.elim)
  have k10 := (B9.block _ zw9).trans H9.out.1
  have k12 := (B10.block _ zw10).trans H10.out.1
  have H13 := Lib.hid (And.intro (H8.out.1.trans (B8.mono H8.out.1.size)) (And.intro (H8.out.2.1.below B8) (And.intro hv13 (And.intro H8.out.2.2.2 (And.intro k10 (And.intro k12 k13))))))
  clear B10 B9 B8 hv13 k10 k12 k13 b13 H12 H11 H10 H9 H8
  have hky : Keyed d8.E := by rw [H13.out.2.2.2.1.1, ← bg_E]; exact bg_keyed
  have hks : ∀ x ∈ d8.E, x.key.size ≤ 20 := by
    rw [H13.out.2.2.2.1.1]
    intro x hx
    rw [List.mem_singleton] at hx
    subst hx
    decide
  have hof := of_list w13 w1.heap.size h7 d8 bgC c0H H13.out.2.1 (bg_atC _) bg_call rfl hky hks (by rw [H13.out.2.2.2.1.1]; decide)
  clear hky hks
  go_wp2_with (refine wpList_load_rowG (by first | rfl | kernel_rfl) 59 (.tmp 12) rfl w9.heap.size rfl 59 _ (0, 0) _ H13.out.2.2.2.2.2.1 Tryz.underlying59 rfl (by kernel_rfl) ?_)
  refine hof.mono ?_
  rintro e w14 ⟨a14, c14, E14, rfl, hE14, hr14, ha14, hT14⟩
  clear hof
  rw [H13.out.2.2.2.1.1] at hE14 hr14
  rw [H13.out.2.2.2.1.1, H13.out.2.2.2.1.2]
  have hA14 : AnsOwn w14 w13.heap.size bgA ⟨a14, c14, none, 0⟩ := ⟨⟨E14, hE14, by have := hr14.row; rw [show E14.length = 1 by rw [← List.length_map (f := fun x : EntH => x.1), hE14]; rfl] at this; exact this, hr14.val⟩, [], rfl, World.ownsRow_nil _ _ _ _, fun y hy => by cases hy⟩
  have z14 := hT14.size
  have hlS : ∀ x, x = h7.S → w.heap.size ≤ x := fun x hx => by subst hx; have := HLO7.out.1; have := HZ1.out; omega
  have k10 := hT14.obj H13.out.2.2.2.2.1 (by show ¬ (_ = _); omega)
  have k12 := hT14.obj H13.out.2.2.2.2.2.1 (by show ¬ (_ = _); omega)
  have k13 := hT14.obj H13.out.2.2.2.2.2.2 (by show ¬ (_ = _); omega)
  have hv14 := val_turns H13.out.2.2.1 hT14 (fun k hk => by subst hk; exact ⟨_, ⟨_, _, H13.out.2.1.obj⟩, by decide⟩)
  have H14 := Lib.hid (And.intro (H13.out.1.trans (hT14.below (B := w.heap.size) H13.out.1.size hlS)) (And.intro hv14 (And.intro hA14 (And.intro k10 (And.intro k12 k13)))))
  clear hE14 hr14 ha14 hT14 hA14 k10 k12 k13 hv14 H13 hlS
  go_wp2_with (refine wpList_store_rowTo rfl 111 (.tmp 15) (.tmp 73) rfl rfl w14.heap.size #[.int .i64 1, .int .i64 5, .int .i64 2, .int .i64 0, .int .i64 1, .slice a14 1 c14, .slice none 0 0] rfl rfl 111 zeroA (heap_alloc_self _ _) (by kernel_rfl) rfl (by kernel_rfl) ?_; refine stand ?_)
  show wpList _ _ _ _ _ _
  have k15 : ((w14.alloc (.cells zeroA 111)).setRow w14.heap.size #[.int .i64 1, .int .i64 5, .int .i64 2, .int .i64 0, .int .i64 1, .slice a14 1 c14, .slice none 0 0]).heap[w14.heap.size]? = some (.cells #[.int .i64 1, .int .i64 5, .int .i64 2, .int .i64 0, .int .i64 1, .slice a14 1 c14, .slice none 0 0] 111) := setRow_heap _ _ _ _ _ _ (heap_alloc_self _ _)
  have b15 : Below w14.heap.size w14 ((w14.alloc (.cells zeroA 111)).setRow w14.heap.size #[.int .i64 1, .int .i64 5, .int .i64 2, .int .i64 0, .int .i64 1, .slice a14 1 c14, .slice none 0 0]) := Below.setRow ((Below.refl _ _).alloc (Nat.le_refl _) _) (Nat.le_refl _) _
  have zw15 : w14.heap.size < ((w14.alloc (.cells zeroA 111)).setRow w14.heap.size #[.int .i64 1, .int .i64 5, .int .i64 2, .int .i64 0, .int .i64 1, .slice a14 1 c14, .slice none 0 0]).heap.size := by simp
  generalize ((w14.alloc (.cells zeroA 111)).setRow w14.heap.size #[.int .i64 1, .int .i64 5, .int .i64 2, .int .i64 0, .int .i64 1, .slice a14 1 c14, .slice none 0 0]) = w15 at k15 b15 zw15 ⊢
  have hput := ansPut_any bgA ⟨a14, c14, none, 0⟩ w15 (H14.out.2.2.1.below b15).at
  have H15 := Lib.hid (And.intro k15 b15)
  clear k15 b15
  go_wp2_with (refine wpList_load_rowG (by first | rfl | kernel_rfl) 111 (.tmp 15) rfl w14.heap.size rfl 111 _ (0, 0) _ H15.out.1 Tryz.underlying111 rfl (by kernel_rfl) ?_)
  refine hput.mono ?_
  rintro e w16 ⟨v16, rfl, ho16, hb16⟩
  have hAl : (u8s bgAL).length = bgAL.length := List.length_map ..
  rw [bg_encA, hAl] at ho16
  obtain ⟨a16, c16, rfl, q1, q2, hat16⟩ := bytes_of bgAL ho16 rfl rfl bg_inA
  have hno16 : a16 = none → c16 = 0 := by
    obtain ⟨_, _, e, _, _, hno⟩ := own_len ho16
    cases e
    exact hno
  have hga : Calls Tryz.prog 60 #[.slice a16 bgAL.length c16] w16 (fun e w' => ∃ h, e = .returned (.tuple #[ansV bgA h, .bool true]) ∧ AnsOwn w' w16.heap.size bgA h ∧ Below w16.heap.size w16 w') := by
    refine (ansGet_any a16 bgAL c16 w16 hat16 q1 q2 hno16 ⟨by have := bg_lenA; dsimp only; omega, bg_inA⟩).mono ?_
    rintro e w' (⟨c, h, hr, rfl, ho, hb⟩ | ⟨hr, _⟩)
    · rw [bg_backA] at hr; cases hr; exact ⟨h, rfl, ho, hb⟩
    · rw [bg_backA] at hr; cases hr
  have z16 := hb16.size
  have H16 := Lib.hid hb16
  clear hb16 ho16 hAl q1 q2 hat16 hno16 hput
  generalize bgAL.length = nAL at hga ⊢
  go_wp2_with fail
  refine hga.mono ?_
  rintro e w17 ⟨⟨ea, ec, va, vc⟩, rfl, ho17, hb17⟩
  clear hga
  have z17 := hb17.size
  have H17 := Lib.hid (And.intro hb17 ho17)
  clear hb17 ho17
  go_wp2_with (refine wpList_store_rowTo rfl 111 (.tmp 16) (.tmp 78) rfl rfl w17.heap.size #[.int .i64 1, .int .i64 5, .int .i64 2, .int .i64 0, .int .i64 1, .slice ea 1 ec, .slice va 0 vc] rfl rfl 111 zeroA (heap_alloc_self _ _) (by kernel_rfl) rfl (by kernel_rfl) ?_; refine stand ?_)
  show wpList _ _ _ _ _ _
  have k16 : ((w17.alloc (.cells zeroA 111)).setRow w17.heap.size #[.int .i64 1, .int .i64 5, .int .i64 2, .int .i64 0, .int .i64 1, .slice ea 1 ec, .slice va 0 vc]).heap[w17.heap.size]? = some (.cells #[.int .i64 1, .int .i64 5, .int .i64 2, .int .i64 0, .int .i64 1, .slice ea 1 ec, .slice va 0 vc] 111) := setRow_heap _ _ _ _ _ _ (heap_alloc_self _ _)
  have b18 : Below w17.heap.size w17 ((w17.alloc (.cells zeroA 111)).setRow w17.heap.size #[.int .i64 1, .int .i64 5, .int .i64 2, .int .i64 0, .int .i64 1, .slice ea 1 ec, .slice va 0 vc]) := Below.setRow ((Below.refl _ _).alloc (Nat.le_refl _) _) (Nat.le_refl _) _
  have zw18 : w17.heap.size < ((w17.alloc (.cells zeroA 111)).setRow w17.heap.size #[.int .i64 1, .int .i64 5, .int .i64 2, .int .i64 0, .int .i64 1, .slice ea 1 ec, .slice va 0 vc]).heap.size := by simp
  generalize ((w17.alloc (.cells zeroA 111)).setRow w17.heap.size #[.int .i64 1, .int .i64 5, .int .i64 2, .int .i64 0, .int .i64 1, .slice ea 1 ec, .slice va 0 vc]) = w18 at k16 b18 zw18 ⊢
  have H18 := Lib.hid (And.intro k16 b18)
  clear k16 b18
  go_wp2_with fail
  refine (begun1_any _).mono ?_
  rintro e w19 ⟨rfl, hb19⟩
  have C18 : Below w17.heap.size w17 w19 := H18.out.2.trans (hb19.mono (Nat.le_of_lt zw18))
  have C15 : Below w15.heap.size w15 w19 := H16.out.trans ((H17.out.1.trans (C18.mono z17)).mono z16)
  have C14 : Below w14.heap.size w14 w19 := H15.out.2.trans (C15.mono (Nat.le_of_lt zw15))
  have fin := H14.out.1.trans (C14.mono H14.out.1.size)
  have k10 := (C14.block _ (by omega)).trans H14.out.2.2.2.1
  have k12 := (C14.block _ (by omega)).trans H14.out.2.2.2.2.1
  have k13 := (C14.block _ (by omega)).trans H14.out.2.2.2.2.2
  have k15 := (C15.block _ zw15).trans H15.out.1
  have k16 := (hb19.block _ zw18).trans H18.out.1
  have hv := val_turns (S := fun _ => False) H14.out.2.1 (turns_of_below C14) (fun _ h => h.elim)
  have hcv : (convert 28 9 (.slice a8 1 c8)).run Tryz.prog w19 = .ok (.string ⟨#[120]⟩) w19 := by
    have h := conv_any c8 hv.at.1
    rw [show strOfNums (⟨tA, 1, [120]⟩ : EntD).val = ⟨#[120]⟩ from by kernel_rfl] at h
    exact h
  have hA1 := (H14.out.2.2.1.below C14).at
  have hA2 := (H17.out.2.below C18).at
  have HF := Lib.hid (And.intro fin (And.intro hA1 (And.intro hA2 (And.intro k10 (And.intro k12 (And.intro k13 (And.intro k15 k16)))))))
  have x1 := cell_of_obj k10 1
  have x2 := cell_of_obj k10 2
  have y5 := cell_of_obj k16 5
  have y4 := cell_of_obj k16 4
  have y0 := cell_of_obj k16 0
  simp at x1 x2 y5 y4 y0
  clear fin hA1 hA2 k10 k12 k13 k15 k16 hv C18 C15 C14 hb19 H14 H15 H16 H17 H18
  go_wp2_with (first | (refine wpList_load_rowG (by first | rfl | kernel_rfl) 59 (.tmp 12) rfl w9.heap.size rfl 59 _ (0, 0) _ HF.out.2.2.2.2.1 Tryz.underlying59 rfl (by kernel_rfl) ?_) | (refine wpList_load_rowG (by first | rfl | kernel_rfl) 59 (.tmp 13) rfl w12.heap.size rfl 59 _ (0, 0) _ HF.out.2.2.2.2.2.1 Tryz.underlying59 rfl (by kernel_rfl) ?_))
  refine (callEq_any bgC bgC c0H ⟨ga, gc, wa, wc⟩ _ (bg_atC _) ⟨⟨by decide, fun i hi => absurd hi (Nat.not_lt_zero i)⟩, ⟨by decide, fun i hi => absurd hi (Nat.not_lt_zero i)⟩⟩).mono ?_
  rintro e w20 ⟨rfl, hb20⟩
  rw [bg_eqC]
  have HF2 := Lib.hid (And.intro (HF.out.1.trans (hb20.mono HF.out.1.size)) (And.intro (HF.out.2.1.below hb20) (And.intro (HF.out.2.2.1.below hb20) (And.intro ((hb20.block _ (Array.getElem?_eq_some_iff.1 HF.out.2.2.2.2.2.2.1).1).trans HF.out.2.2.2.2.2.2.1) ((hb20.block _ (Array.getElem?_eq_some_iff.1 HF.out.2.2.2.2.2.2.2).1).trans HF.out.2.2.2.2.2.2.2)))))
  clear HF x1 x2 y5 y4 y0 hb20 hcv
  go_wp2_with (first | (refine wpList_load_rowG (by first | rfl | kernel_rfl) 111 (.tmp 15) rfl w14.heap.size rfl 111 _ (0, 0) _ HF2.out.2.2.2.1 Tryz.underlying111 rfl (by kernel_rfl) ?_) | (refine wpList_load_rowG (by first | rfl | kernel_rfl) 111 (.tmp 16) rfl w17.heap.size rfl 111 _ (0, 0) _ HF2.out.2.2.2.2 Tryz.underlying111 rfl (by kernel_rfl) ?_))
  refine (ansEq_any bgA bgA ⟨a14, c14, none, 0⟩ ⟨ea, ec, va, vc⟩ _ HF2.out.2.1 HF2.out.2.2.1).mono ?_
  rintro e w21 ⟨rfl, hb21⟩
  rw [bg_eqA]
  have k16 := (hb21.block _ (Array.getElem?_eq_some_iff.1 HF2.out.2.2.2.2).1).trans HF2.out.2.2.2.2
  have y5 := cell_of_obj k16 5
  have y4 := cell_of_obj k16 4
  have y0 := cell_of_obj k16 0
  simp at y5 y4 y0
  have fin := Lib.hid (HF2.out.1.trans (hb21.mono HF2.out.1.size))
  clear HF2 k16 hb21
  go_wp2
  go_ret
  exact ⟨rfl, fin.out⟩
end Go.Proofs.YtaleceobkbgcnaaGreat.Rp
