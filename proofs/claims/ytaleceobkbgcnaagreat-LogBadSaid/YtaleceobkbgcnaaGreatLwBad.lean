/-
  The law LogBad's walk. Its condition: the opening sentence.
-/
import Derived.Test.YtaleceobkbgcnaaGreatGLaw
import Derived.Test.YtaleceobkbgcnaaGreatGRow
import Derived.Deep.RegionHeld3
set_option linter.unusedSimpArgs false
set_option linter.unusedVariables false
namespace Go.Proofs.YtaleceobkbgcnaaGreat.Rp
open Go.RowKit

theorem AtE_take {w : World} {a : Option Addr} {l : List EvD} (h : AtE w a l) (n : Nat) : AtE w a (l.take n) :=
  ⟨by have := h.1; simp; omega, fun i hi => by
    obtain ⟨b, off, va, vc, ha, hb, c⟩ := h.2 i (by simp at hi; omega)
    exact ⟨b, off, va, vc, ha, hb, by rw [getD_take hi]; exact c⟩⟩
theorem follow_snoc {last : Int} {l : List EvD} {k : Nat} (h1 : 1 ≤ k) (h2 : k < l.length) : followB last (l.take (k + 1)) = (followB last (l.take k) && decide ((l.getD (k - 1) v0).rev ≤ (l.getD k v0).rev)) := by
  rw [Bool.eq_iff_iff, Bool.and_eq_true, decide_eq_true_eq, follow_iff, follow_iff, take_one h2]
  have hne : l.take k ≠ [] := by
    intro e
    have := congrArg List.length e
    rw [List.length_take, List.length_nil] at this
    omega
  have hlast : l.getD (k - 1) v0 ∈ l.take k := by
    rw [List.getD_eq_getElem?_getD, List.getElem?_eq_getElem (by omega)]
    exact List.mem_take_iff_getElem.2 ⟨k - 1, by omega, rfl⟩
  have hmax : Rising (l.take k) → ∀ x ∈ l.take k, x.rev ≤ (l.getD (k - 1) v0).rev := fun hr x hx => by
    have := rising_last hr x hx
    rwa [List.length_take, Nat.min_eq_left (by omega), getD_take (by simp; omega)] at this
  constructor
  · rintro ⟨_, h3, h4⟩
    have h5 := List.pairwise_append.1 h4
    exact ⟨⟨hne, fun x hx => h3 x (List.mem_append.2 (.inl hx)), h5.1⟩, h5.2.2 _ hlast _ (List.mem_singleton.2 rfl)⟩
  · rintro ⟨⟨_, h3, h4⟩, h5⟩
    refine ⟨by simp, fun x hx => ?_, List.pairwise_append.2 ⟨h4, List.pairwise_singleton _ _, fun x hx y hy => ?_⟩⟩
    · rcases List.mem_append.1 hx with hx | hx
      · exact h3 x hx
      · rw [List.mem_singleton] at hx
        subst hx
        have := h3 _ hlast
        omega
    · rw [List.mem_singleton] at hy
      subst hy
      have := hmax h4 x hx
      omega
theorem _root_.Go.Proofs.YtaleceobkbgcnaaGreat.LogAt.lt {w : World} {B G : Nat} {v : Value} {H : List EvH} {d : LogD} (h : LogAt w B G v H d) : ∀ k, LogS G v k → k < w.heap.size := by
  rintro k (rfl | hk)
  · exact (Array.getElem?_eq_some_iff.1 h.raw.obj).1
  · exact (h.raw.own.row.lt k hk).2
theorem _root_.Go.Proofs.YtaleceobkbgcnaaGreat.LogAt.ge {w : World} {B G : Nat} {v : Value} {H : List EvH} {d : LogD} (h : LogAt w B G v H d) (hG : B ≤ G) : ∀ k, LogS G v k → B ≤ k := by
  rintro k (rfl | hk)
  · exact hG
  · exact (h.raw.own.row.lt k hk).1
theorem follow_dec (last : Int) (x : EvD) : followB last [x] = decide (last < x.rev) := by
  rw [Bool.eq_iff_iff, decide_eq_true_eq, follow_iff]
  simp [Rising]
/-- What one Add of one event, or none, leaves. -/
def Added (N : Nat) (w w' : World) (m : Int) (n : Nat) (l : Int) : Prop := ∃ v H d, LogAt w' N N v H d ∧ d.most = m ∧ d.base = 0 ∧ d.evs.length ≤ n ∧ d.last = l ∧ Below w.heap.size w w'
theorem add_event {N : Nat} {w wr W : World} {v : Value} {H : List EvH} {d : LogD} {m : Int} {n g : Nat} {x : Int} {k : ByteArray} (hl : LogAt wr N N v H d) (hm : d.most = m) (hb : d.base = 0) (hn : d.evs.length ≤ n) (hnm : ((n + 1 : Nat) : Int) ≤ m) (hbw : Below w.heap.size w wr) (hN : w.heap.size ≤ N)
    (hW : Below wr.heap.size wr W) (hg : W.heap[g]? = some (.cells #[.int .i64 x, .string k, .slice none 0 0, .bool false] 30)) (hge : wr.heap.size ≤ g) :
    Calls Tryz.prog 24 #[pt N, .slice (some ⟨g, 0, none⟩) 1 1] W fun e w' => e = .returned (.bool (decide (d.last < x))) ∧ (∀ b o u, b < w.heap.size → w.cell? ⟨b, o, none⟩ = some u → w'.cell? ⟨b, o, none⟩ = some u) ∧ Added N w w' m (n + 1) (max d.last x) := by
  have hLW := hl.below hW
  have hlt := hl.lt
  have hgt := hl.ge (Nat.le_refl _)
  refine (logAdd_any N N v H d (some ⟨g, 0, none⟩) [⟨x, k, [], false⟩] 1 W hLW hLW.raw.lo (fun w' ht => ?_) (by simp) (by simp)).mono ?_
  · have q := ht.obj hg (fun e => by have := hlt _ e; omega)
    have hs := ht.size
    have hgl := (Array.getElem?_eq_some_iff.1 hg).1
    exact ev_at1 (by omega) (cell_of_obj q 0) (cell_of_obj q 1) (cell_of_obj q 2) (cell_of_obj q 3) (fun i hi => absurd hi (Nat.not_lt_zero i)) (Nat.le_refl _) (Nat.zero_le _) (fun _ => rfl)
  · rintro e w' ⟨rfl, v', H', hl', ht, _⟩
    have hbn : Below w.heap.size w w' := (hbw.trans (hW.mono hbw.size)).trans (ht.below (B := w.heap.size) (by have := hbw.size; have := hW.size; omega) (fun x hx => by have := hgt x hx; omega))
    refine ⟨by rw [follow_dec], fun b o u hb2 hc => (hbn.cell (p := ⟨b, o, none⟩) hb2).trans hc, ?_⟩
    by_cases hf : d.last < x
    · have hfo : followB d.last [⟨x, k, [], false⟩] = true := by rw [follow_dec]; exact decide_eq_true hf
      rw [addD_room hl.ok hfo (by rw [hm]; simp only [List.length_singleton]; omega)] at hl'
      exact ⟨v', H', _, hl', hm, hb, by simp; omega, by show x = _; omega, hbn⟩
    · have he : addD d [⟨x, k, [], false⟩] = d := by
        unfold addD
        rw [follow_dec, decide_eq_false hf]
        rfl
      rw [he] at hl'
      exact ⟨v', H', d, hl', hm, hb, by omega, by omega, hbn⟩
/-- Asked from its base on a log tells all that it has. -/
theorem from_base {d : LogD} (h : d.Ok) : errF d d.base = 0 ∧ fromF d d.base = d.evs := by
  have e : errF d d.base = 0 := errF_0 (by omega) (by have := h.base; omega)
  exact ⟨e, by unfold fromF; rw [if_pos e]; exact kept_same h⟩
theorem eqL_same {α : Type} {eq : α → α → Bool} (h : ∀ x, eq x x = true) : ∀ l : List α, eqL eq l l = true := by
  intro l
  induction l with
  | nil => rfl
  | cons x r ih => simp [eqL, h, ih]
theorem eqV_same (x : EvD) : eqV x x = true := by simp [eqV, eqB]
theorem eqN_same (x : EntD) : eqN x x = true := by simp [eqN, eqB]
set_option maxRecDepth 100000 in
set_option maxHeartbeats 4000000 in
theorem logBad_walk (hBG : BegunP) (a : Option Addr) (rs : List Int) (cap : Nat) (b : Option Addr) (es : List EvD) (cb : Nat) (w : World) (hr : AtJ w a rs) (h1 : rs.length ≤ cap) (h2 : cap ≤ maxLen) (he : AtE w b es) (h3 : es.length ≤ cb) (h4 : cb ≤ maxLen) (hv : ∀ e ∈ es, e.val.length ≤ reachBytes) :
    Calls Tryz.prog 3 #[.slice a rs.length cap, .slice b es.length cb] w fun e w' => e = .returned (.bool true) ∧ Below w.heap.size w w' := by
  obtain ⟨ml, eml, iml, jml, kml⟩ := cut_of es 6
  have aml := AtE_take he 6
  rw [← eml] at aml
  have hmv : ∀ e ∈ ml, e.val.length ≤ 140737488355328 := fun e h => Nat.le_trans (hv e (List.mem_of_mem_take (eml ▸ h))) (by decide)
  have cml : ml.length ≤ cb := by omega
  simp only [Int.cast_ofNat_Int] at iml
  have pml := min_cut iml
  have HM := Lib.hid (And.intro aml hmv)
  have HR := Lib.hid hr
  have hcap : rs.length ≤ 9223372036854775807 := by unfold maxLen at h2; omega
  clear eml jml aml hmv he hv h3 hr h1 h2
  go_enter Tryz.func3, Tryz.ntmps3
  go_wp2_with fail
  refine (hBG _).mono ?_
  rintro e w1 ⟨rfl, hb1⟩
  go_wp2_with fail
  refine (logNew_any 50 w1).mono ?_
  rintro e w2 ⟨rfl, hw2⟩
  have hL2 : LogAt w2 w1.heap.size w1.heap.size (.slice none 0 0) [] (newD 50) := by subst hw2; exact logAt_new 50 w1 w1.heap.size (Nat.le_refl _)
  have hbw2 : Below w.heap.size w w2 := by subst hw2; exact hb1.alloc hb1.size _
  have hN := hb1.size
  have HA2 : Hid (Added w1.heap.size w w2 50 0 0) := ⟨_, [], _, hL2, rfl, rfl, Nat.le_refl _, rfl, hbw2⟩
  clear hw2 hb1 hL2 hbw2
  go_wp2_with fail
  go_loopw [7, 8] (fun la i wr => ∃ k : Nat, k ≤ rs.length ∧ k ≤ 20 ∧ i = .int .i64 k ∧ ∃ y, la = .int .i64 y ∧ Hid (Added w1.heap.size w wr 50 k y)) (fun _ i _ => 20 - (intOf i).toNat)
  case atStart => exact ⟨0, Nat.zero_le _, Nat.zero_le _, rfl, 0, rfl, HA2⟩
  case round =>
    clear HA2
    obtain ⟨k, hk, hk20, rfl, y, rfl, HA⟩ := hrel
    by_cases hlt : k < rs.length
    · by_cases h20 : k < 20
      · obtain ⟨v, H, d, hl, hm, hbs, hn, hy, hbw⟩ := HA.out
        obtain ⟨b0, off, ha, hb0, c⟩ := HR.out k hlt
        have c' := cell_later hbw c
        have hb0' : b0 < wr.heap.size := Nat.lt_of_lt_of_le hb0 hbw.size
        have kl : (k : Int) < (rs.length : Int) := by omega
        subst ha
        have HC := Lib.hid c
        generalize rs.getD k 0 = x at c' HC
        have hadd : Hid (∀ W g, Below wr.heap.size wr W → W.heap[g]? = some (.cells #[.int .i64 x, .string ⟨#[107]⟩, .slice none 0 0, .bool false] 30) → wr.heap.size ≤ g →
            Calls Tryz.prog 24 #[pt w1.heap.size, .slice (some ⟨g, 0, none⟩) 1 1] W fun e w' => e = .returned (.bool (decide (y < x))) ∧ w'.cell? ⟨b0, off + k, none⟩ = some (.int .i64 x) ∧ Added w1.heap.size w w' 50 (k + 1) (max y x)) := by
          intro W g hW hg hge
          rw [← hy]
          refine (add_event hl hm hbs hn (by omega) hbw hN hW hg hge).mono ?_
          rintro e w' ⟨rfl, h6, h7⟩
          exact ⟨rfl, h6 _ _ _ hb0 HC.out, h7⟩
        clear hl hm hbs hn hy hbw c HA
        have HBL := Lib.hid (fun o => show Below wr.heap.size wr (wr.alloc o).drew from ((Below.refl _ _).alloc (Nat.le_refl _) o).drew)
        have HAL := Lib.hid (fun o => show ((wr.alloc o).drew).heap[wr.heap.size]? = some o from heap_alloc_self wr o)
        have hN0 := World.new_ne wr ⟨b0, off + k, none⟩ c'
        by_cases hxy : y < x
        · have hd : decide (y < x) = true := decide_eq_true hxy
          rw [hd] at hadd
          go_wp2_with fail
          go_region_held3 (fun W => W.cell? ⟨b0, off + k, none⟩ = some (.int .i64 x))
            (first | exact hc6 | go_keep)
            (first | (go_at_call 24; refine Calls.mono (hadd.out _ wr.heap.size (HBL.out _) (HAL.out _) (Nat.le_refl _)) ?_; rintro e w6 ⟨rfl, hc6, hA6⟩))
          have HA6 := Lib.hid hA6
          clear hA6 hadd
          go_wp2
          go_roundw
          case rel => exact ⟨k + 1, by omega, by omega, by go_num, max y x, by first | rfl | (congr 1; omega), HA6⟩
          case measure => simp [intOf]; omega
        · have hd : decide (y < x) = false := decide_eq_false hxy
          rw [hd] at hadd
          go_wp2_with fail
          go_region_held3 (fun W => W.cell? ⟨b0, off + k, none⟩ = some (.int .i64 x))
            (first | exact hc6 | go_keep)
            (first | (go_at_call 24; refine Calls.mono (hadd.out _ wr.heap.size (HBL.out _) (HAL.out _) (Nat.le_refl _)) ?_; rintro e w6 ⟨rfl, hc6, hA6⟩))
          have HA6 := Lib.hid hA6
          clear hA6 hadd
          go_wp2
          go_roundw
          case rel => exact ⟨k + 1, by omega, by omega, by go_num, max y x, by first | rfl | (congr 1; omega), HA6⟩
          case measure => simp [intOf]; omega
      · obtain ⟨v, H, d, hl, hm, hbs, hn, hy, hbw⟩ := HA.out
        have hlt4 := hl.lt
        obtain ⟨va, vc, rfl, -, -, -, -⟩ := hl.raw.own.row.shape
        have hBase := logBase_any _ _ _ _ _ _ w1.heap.size wr hl.raw.obj
        have hF := Lib.hid (from_base hl.ok)
        have hfr := from_any _ _ _ H d d.base wr hl
        have HL := Lib.hid (And.intro hl hbw)
        subst hy
        clear hl hbw HA hbs
        go_wp2_with fail
        refine hBase.mono ?_
        rintro e w' ⟨rfl, hw'⟩
        subst hw'
        go_wp2_with fail
        refine hfr.mono ?_
        rintro e w4 ⟨v4, E4, rfl, hE4, hr4, hb4, -⟩
        rw [hF.out.1]
        rw [hF.out.2] at hE4
        obtain ⟨a4, c4, rfl⟩ := owns_form hr4.row
        have hE4l : E4.length = d.evs.length := by rw [← hE4]; exact (List.length_map ..).symm
        have HE := Lib.hid hE4
        have hl4 := HL.out.1.below hb4
        have hbw4 := HL.out.2.trans (hb4.mono HL.out.2.size)
        rw [hE4l]
        have HB4 := Lib.hid (And.intro hr4 (And.intro hl4 (And.intro hbw4 hE4l)))
        have hE4b : E4.length ≤ 20 := by omega
        clear hBase hfr hF hE4 hE4l HL hr4 hl4 hbw4 hb4
        by_cases hz : 0 < ml.length
        · obtain ⟨b1, o1, -, -, ha1, hb1, x0, -⟩ := HM.out.1.2 0 hz
          have c1 := cell_later HB4.out.2.2.1 x0
          rw [Nat.zero_mul, Nat.add_zero] at c1
          have H1 : Hid (followB d.last (ml.take 1) = decide (d.last < (ml.getD 0 v0).rev)) := by
            show _ = _
            rw [← follow_dec]
            congr 1
            match ml, hz with
            | x :: r, _ => rfl
          have hz1 : (0 : Int) < (ml.length : Int) := by omega
          generalize (ml.getD 0 v0).rev = r0 at c1 H1
          clear x0
          subst ha1
          go_wp2_with fail
          go_loopw [11, 12] (fun ok i W => ∃ q : Nat, 1 ≤ q ∧ (q ≤ ml.length ∨ q = 1) ∧ i = .int .i64 q ∧ ok = .bool (followB d.last (ml.take q)) ∧ ∃ nd, W = w4.drewN nd) (fun _ i _ => ml.length - (intOf i).toNat)
          case atStart => exact ⟨1, Nat.le_refl _, .inr rfl, rfl, by rw [H1.out], 0, rfl⟩
          case round =>
            clear H1
            obtain ⟨q, hq1, hq2, rfl, rfl, nd, rfl⟩ := hrel
            have hbd : Below w4.heap.size w4 (w4.drewN nd) := below_drewN (Below.refl _ _) _
            by_cases hlq : q < ml.length
            · have hsn := Lib.hid (follow_snoc (last := d.last) hq1 hlq)
              obtain ⟨b1, o1, -, -, ha1, hb1, x0, -⟩ := HM.out.1.2 q hlq
              obtain ⟨b2, o2, -, -, ha2, hb2, y0, -⟩ := HM.out.1.2 (q - 1) (by omega)
              cases ha1
              cases ha2
              have hbw4 := HB4.out.2.2.1
          
              have c1 := cell_later hbw4 x0
              have c2 := cell_later hbw4 y0
              have hb1' : b1 < w4.heap.size := Nat.lt_of_lt_of_le hb1 hbw4.size
              have kl : (q : Int) < (ml.length : Int) := by omega
              have kw : IntKind.i64.wrap ((q : Int) - 1) = ((q - 1 : Nat) : Int) := by rw [IntWalk.i64_in _ (by omega)]; omega
              have kz : (0 : Int) ≤ ((q - 1 : Nat) : Int) := by omega
              have kl2 : ((q - 1 : Nat) : Int) < (ml.length : Int) := by omega
              generalize (ml.getD q v0).rev = r1 at c1 hsn
              generalize (ml.getD (q - 1) v0).rev = r2 at c2 hsn
              clear x0 y0 hbw4
              cases hf : followB d.last (ml.take q)
              · rw [hf] at hsn
                clear hf
                go_wp2_with fail
                go_quiet (fail)
                go_wp2
                go_roundw
                case rel => exact ⟨q + 1, by omega, by omega, by go_num, by rw [hsn.out]; rfl, _, rfl⟩
                case measure => simp [intOf]; omega
              · rw [hf] at hsn
                clear hf
                go_wp2_with fail
                go_quiet (fail)
                go_wp2
                go_roundw
                case rel => exact ⟨q + 1, by omega, by omega, by go_num, by rw [hsn.out]; simp, _, rfl⟩
                case measure => simp [intOf]; omega
            · have hr4 := HB4.out.1
              have hl4 := HB4.out.2.1
              have hbw4 := HB4.out.2.2.1
              clear HB4
              have hlW := hl4.below hbd
              have hbW := hbw4.trans (hbd.mono hbw4.size)
              have hadd := logAdd_any w1.heap.size w1.heap.size _ H d _ ml cb (w4.drewN nd) hlW hlW.raw.lo (fun w' ht => HM.out.1.below (hbW.trans (ht.below (B := w.heap.size) hbW.size (fun x hx => by have := hlW.ge (Nat.le_refl _) x hx; omega)))) (by omega) HM.out.2
              have hq : ml.take q = ml := List.take_of_length_le (by omega)
              rw [hq]
              have HW := Lib.hid (And.intro hbW (And.intro (hr4.below hbd) (And.intro hlW.ok (And.intro hn (And.intro hm (And.intro (hlW.ge (Nat.le_refl _)) hlt4))))))
              clear hlW hbW hr4 hq hl4 hbw4 hbd hn hm hlt4
              cases hf : followB d.last ml
              · rw [hf] at hadd
                have he : addD d ml = d := by unfold addD; rw [hf]; rfl
                rw [he] at hadd
                clear he hf
                go_wp2_with fail
                refine hadd.mono ?_
                rintro e w5 ⟨rfl, v5, H5, hl5, hT5, -⟩
                have hb5 := HW.out.1.trans (hT5.below (B := w.heap.size) HW.out.1.size (fun x hx => by have := HW.out.2.2.2.2.2.1 x hx; omega))
                have hr5 := HW.out.2.1.apart hT5 HW.out.2.2.2.2.2.2
                obtain ⟨a5, c5, rfl, -, -, -, -⟩ := hl5.raw.own.row.shape
                have hBase := logBase_any _ _ _ _ _ _ w1.heap.size w5 hl5.raw.obj
                have hF := Lib.hid (from_base hl5.ok)
                have hfr := from_any _ _ _ H5 d d.base w5 hl5
                have H5' := Lib.hid (And.intro hb5 hr5)
                clear hadd hT5 hb5 hr5 hl5
                go_wp2_with fail
                refine hBase.mono ?_
                rintro e w' ⟨rfl, hw'⟩
                subst hw'
                go_wp2_with fail
                refine hfr.mono ?_
                rintro e w7 ⟨v7, E7, rfl, hE7, hr7, hb7, -⟩
                rw [hF.out.1]
                rw [hF.out.2] at hE7
                obtain ⟨a7, c7, rfl⟩ := owns_form hr7.row
                have hE7l : E7.length = d.evs.length := by rw [← hE7]; exact (List.length_map ..).symm
                have hn4 := HW.out.2.2.2.1
                have hat7 := hr7.own.at (by omega)
                have hwas := (H5'.out.2.below hb7).own.at (by omega)
                rw [hE7] at hat7
                rw [HE.out] at hwas
                have HZ := Lib.hid (And.intro (H5'.out.1.trans (hb7.mono H5'.out.1.size)) (And.intro hwas hat7))
                rw [hE7l]
                clear hE7 hr7 hE7l hF hfr hBase hb7 hat7 hwas H5' hk hk20
                go_wp2_with fail
                refine (refEvents_any _ _ _ _ _ _ _ HZ.out.2.1 HZ.out.2.2).mono ?_
                rintro e w8 ⟨rfl, hb8⟩
                rw [eqL_same eqV_same]
                go_wp2
                go_ret
                exact ⟨rfl, HZ.out.1.trans (hb8.mono HZ.out.1.size)⟩
              · rw [hf] at hadd
                rw [addD_room HW.out.2.2.1 hf (by rw [HW.out.2.2.2.2.1]; have := HW.out.2.2.2.1; omega)] at hadd
                clear hf
                go_wp2_with fail
                refine hadd.mono ?_
                rintro e w5 ⟨rfl, v5, H5, hl5, hT5, -⟩
                have hb5 := HW.out.1.trans (hT5.below (B := w.heap.size) HW.out.1.size (fun x hx => by have := HW.out.2.2.2.2.2.1 x hx; omega))
                obtain ⟨a5, c5, rfl, -, -, -, -⟩ := hl5.raw.own.row.shape
                have hBase := logBase_any _ _ _ _ _ _ w1.heap.size w5 hl5.raw.obj
                have hF := Lib.hid (from_base hl5.ok)
                have hfr := from_any _ _ _ H5 _ d.base w5 hl5
                have H5' := Lib.hid hb5
                clear hadd hT5 hb5 hl5
                go_wp2_with fail
                refine hBase.mono ?_
                rintro e w' ⟨rfl, hw'⟩
                subst hw'
                go_wp2_with fail
                refine hfr.mono ?_
                rintro e w7 ⟨v7, E7, rfl, hE7, hr7, hb7, -⟩
                rw [hF.out.1]
                rw [hF.out.2] at hE7
                obtain ⟨a7, c7, rfl⟩ := owns_form hr7.row
                have hE7l : E7.length = d.evs.length + ml.length := by rw [← List.length_append, ← hE7]; exact (List.length_map ..).symm
                rw [hE7l]
                have fin := Lib.hid (H5'.out.trans (hb7.mono H5'.out.size))
                have hn4 := HW.out.2.2.2.1
                clear hE7 hr7 hE7l hF hfr hBase hb7 H5' hk
                go_wp2
                go_ret
                exact ⟨by first | rfl | exact ret_bool (by rw [IntWalk.wrap64_in _ (by omega)]; simp), fin.out⟩
        · have H1 : Hid (followB d.last (ml.take 1) = false) := by
            show _ = _
            rw [List.eq_nil_of_length_eq_zero (show ml.length = 0 by omega)]
            rfl
          have hz1 : ¬ (0 : Int) < (ml.length : Int) := by omega
          go_wp2_with fail
          go_loopw [11, 12] (fun ok i W => ∃ q : Nat, 1 ≤ q ∧ (q ≤ ml.length ∨ q = 1) ∧ i = .int .i64 q ∧ ok = .bool (followB d.last (ml.take q)) ∧ ∃ nd, W = w4.drewN nd) (fun _ i _ => ml.length - (intOf i).toNat)
          case atStart => exact ⟨1, Nat.le_refl _, .inr rfl, rfl, by rw [H1.out], 0, rfl⟩
          case round =>
            clear H1
            obtain ⟨q, hq1, hq2, rfl, rfl, nd, rfl⟩ := hrel
            have hbd : Below w4.heap.size w4 (w4.drewN nd) := below_drewN (Below.refl _ _) _
            by_cases hlq : q < ml.length
            · have hsn := Lib.hid (follow_snoc (last := d.last) hq1 hlq)
              obtain ⟨b1, o1, -, -, ha1, hb1, x0, -⟩ := HM.out.1.2 q hlq
              obtain ⟨b2, o2, -, -, ha2, hb2, y0, -⟩ := HM.out.1.2 (q - 1) (by omega)
              cases ha1
              cases ha2
              have hbw4 := HB4.out.2.2.1
          
              have c1 := cell_later hbw4 x0
              have c2 := cell_later hbw4 y0
              have hb1' : b1 < w4.heap.size := Nat.lt_of_lt_of_le hb1 hbw4.size
              have kl : (q : Int) < (ml.length : Int) := by omega
              have kw : IntKind.i64.wrap ((q : Int) - 1) = ((q - 1 : Nat) : Int) := by rw [IntWalk.i64_in _ (by omega)]; omega
              have kz : (0 : Int) ≤ ((q - 1 : Nat) : Int) := by omega
              have kl2 : ((q - 1 : Nat) : Int) < (ml.length : Int) := by omega
              generalize (ml.getD q v0).rev = r1 at c1 hsn
              generalize (ml.getD (q - 1) v0).rev = r2 at c2 hsn
              clear x0 y0 hbw4
              cases hf : followB d.last (ml.take q)
              · rw [hf] at hsn
                clear hf
                go_wp2_with fail
                go_quiet (fail)
                go_wp2
                go_roundw
                case rel => exact ⟨q + 1, by omega, by omega, by go_num, by rw [hsn.out]; rfl, _, rfl⟩
                case measure => simp [intOf]; omega
              · rw [hf] at hsn
                clear hf
                go_wp2_with fail
                go_quiet (fail)
                go_wp2
                go_roundw
                case rel => exact ⟨q + 1, by omega, by omega, by go_num, by rw [hsn.out]; simp, _, rfl⟩
                case measure => simp [intOf]; omega
            · have hr4 := HB4.out.1
              have hl4 := HB4.out.2.1
              have hbw4 := HB4.out.2.2.1
              clear HB4
              have hlW := hl4.below hbd
              have hbW := hbw4.trans (hbd.mono hbw4.size)
              have hadd := logAdd_any w1.heap.size w1.heap.size _ H d _ ml cb (w4.drewN nd) hlW hlW.raw.lo (fun w' ht => HM.out.1.below (hbW.trans (ht.below (B := w.heap.size) hbW.size (fun x hx => by have := hlW.ge (Nat.le_refl _) x hx; omega)))) (by omega) HM.out.2
              have hq : ml.take q = ml := List.take_of_length_le (by omega)
              rw [hq]
              have HW := Lib.hid (And.intro hbW (And.intro (hr4.below hbd) (And.intro hlW.ok (And.intro hn (And.intro hm (And.intro (hlW.ge (Nat.le_refl _)) hlt4))))))
              clear hlW hbW hr4 hq hl4 hbw4 hbd hn hm hlt4
              cases hf : followB d.last ml
              · rw [hf] at hadd
                have he : addD d ml = d := by unfold addD; rw [hf]; rfl
                rw [he] at hadd
                clear he hf
                go_wp2_with fail
                refine hadd.mono ?_
                rintro e w5 ⟨rfl, v5, H5, hl5, hT5, -⟩
                have hb5 := HW.out.1.trans (hT5.below (B := w.heap.size) HW.out.1.size (fun x hx => by have := HW.out.2.2.2.2.2.1 x hx; omega))
                have hr5 := HW.out.2.1.apart hT5 HW.out.2.2.2.2.2.2
                obtain ⟨a5, c5, rfl, -, -, -, -⟩ := hl5.raw.own.row.shape
                have hBase := logBase_any _ _ _ _ _ _ w1.heap.size w5 hl5.raw.obj
                have hF := Lib.hid (from_base hl5.ok)
                have hfr := from_any _ _ _ H5 d d.base w5 hl5
                have H5' := Lib.hid (And.intro hb5 hr5)
                clear hadd hT5 hb5 hr5 hl5
                go_wp2_with fail
                refine hBase.mono ?_
                rintro e w' ⟨rfl, hw'⟩
                subst hw'
                go_wp2_with fail
                refine hfr.mono ?_
                rintro e w7 ⟨v7, E7, rfl, hE7, hr7, hb7, -⟩
                rw [hF.out.1]
                rw [hF.out.2] at hE7
                obtain ⟨a7, c7, rfl⟩ := owns_form hr7.row
                have hE7l : E7.length = d.evs.length := by rw [← hE7]; exact (List.length_map ..).symm
                have hn4 := HW.out.2.2.2.1
                have hat7 := hr7.own.at (by omega)
                have hwas := (H5'.out.2.below hb7).own.at (by omega)
                rw [hE7] at hat7
                rw [HE.out] at hwas
                have HZ := Lib.hid (And.intro (H5'.out.1.trans (hb7.mono H5'.out.1.size)) (And.intro hwas hat7))
                rw [hE7l]
                clear hE7 hr7 hE7l hF hfr hBase hb7 hat7 hwas H5' hk hk20
                go_wp2_with fail
                refine (refEvents_any _ _ _ _ _ _ _ HZ.out.2.1 HZ.out.2.2).mono ?_
                rintro e w8 ⟨rfl, hb8⟩
                rw [eqL_same eqV_same]
                go_wp2
                go_ret
                exact ⟨rfl, HZ.out.1.trans (hb8.mono HZ.out.1.size)⟩
              · rw [hf] at hadd
                rw [addD_room HW.out.2.2.1 hf (by rw [HW.out.2.2.2.2.1]; have := HW.out.2.2.2.1; omega)] at hadd
                clear hf
                go_wp2_with fail
                refine hadd.mono ?_
                rintro e w5 ⟨rfl, v5, H5, hl5, hT5, -⟩
                have hb5 := HW.out.1.trans (hT5.below (B := w.heap.size) HW.out.1.size (fun x hx => by have := HW.out.2.2.2.2.2.1 x hx; omega))
                obtain ⟨a5, c5, rfl, -, -, -, -⟩ := hl5.raw.own.row.shape
                have hBase := logBase_any _ _ _ _ _ _ w1.heap.size w5 hl5.raw.obj
                have hF := Lib.hid (from_base hl5.ok)
                have hfr := from_any _ _ _ H5 _ d.base w5 hl5
                have H5' := Lib.hid hb5
                clear hadd hT5 hb5 hl5
                go_wp2_with fail
                refine hBase.mono ?_
                rintro e w' ⟨rfl, hw'⟩
                subst hw'
                go_wp2_with fail
                refine hfr.mono ?_
                rintro e w7 ⟨v7, E7, rfl, hE7, hr7, hb7, -⟩
                rw [hF.out.1]
                rw [hF.out.2] at hE7
                obtain ⟨a7, c7, rfl⟩ := owns_form hr7.row
                have hE7l : E7.length = d.evs.length + ml.length := by rw [← List.length_append, ← hE7]; exact (List.length_map ..).symm
                rw [hE7l]
                have fin := Lib.hid (H5'.out.trans (hb7.mono H5'.out.size))
                have hn4 := HW.out.2.2.2.1
                clear hE7 hr7 hE7l hF hfr hBase hb7 H5' hk
                go_wp2
                go_ret
                exact ⟨by first | rfl | exact ret_bool (by rw [IntWalk.wrap64_in _ (by omega)]; simp), fin.out⟩
    · obtain ⟨v, H, d, hl, hm, hbs, hn, hy, hbw⟩ := HA.out
      have hlt4 := hl.lt
      obtain ⟨va, vc, rfl, -, -, -, -⟩ := hl.raw.own.row.shape
      have hBase := logBase_any _ _ _ _ _ _ w1.heap.size wr hl.raw.obj
      have hF := Lib.hid (from_base hl.ok)
      have hfr := from_any _ _ _ H d d.base wr hl
      have HL := Lib.hid (And.intro hl hbw)
      subst hy
      clear hl hbw HA hbs
      go_wp2_with fail
      refine hBase.mono ?_
      rintro e w' ⟨rfl, hw'⟩
      subst hw'
      go_wp2_with fail
      refine hfr.mono ?_
      rintro e w4 ⟨v4, E4, rfl, hE4, hr4, hb4, -⟩
      rw [hF.out.1]
      rw [hF.out.2] at hE4
      obtain ⟨a4, c4, rfl⟩ := owns_form hr4.row
      have hE4l : E4.length = d.evs.length := by rw [← hE4]; exact (List.length_map ..).symm
      have HE := Lib.hid hE4
      have hl4 := HL.out.1.below hb4
      have hbw4 := HL.out.2.trans (hb4.mono HL.out.2.size)
      rw [hE4l]
      have HB4 := Lib.hid (And.intro hr4 (And.intro hl4 (And.intro hbw4 hE4l)))
      have hE4b : E4.length ≤ 20 := by omega
      clear hBase hfr hF hE4 hE4l HL hr4 hl4 hbw4 hb4
      by_cases hz : 0 < ml.length
      · obtain ⟨b1, o1, -, -, ha1, hb1, x0, -⟩ := HM.out.1.2 0 hz
        have c1 := cell_later HB4.out.2.2.1 x0
        rw [Nat.zero_mul, Nat.add_zero] at c1
        have H1 : Hid (followB d.last (ml.take 1) = decide (d.last < (ml.getD 0 v0).rev)) := by
          show _ = _
          rw [← follow_dec]
          congr 1
          match ml, hz with
          | x :: r, _ => rfl
        have hz1 : (0 : Int) < (ml.length : Int) := by omega
        generalize (ml.getD 0 v0).rev = r0 at c1 H1
        clear x0
        subst ha1
        go_wp2_with fail
        go_loopw [11, 12] (fun ok i W => ∃ q : Nat, 1 ≤ q ∧ (q ≤ ml.length ∨ q = 1) ∧ i = .int .i64 q ∧ ok = .bool (followB d.last (ml.take q)) ∧ ∃ nd, W = w4.drewN nd) (fun _ i _ => ml.length - (intOf i).toNat)
        case atStart => exact ⟨1, Nat.le_refl _, .inr rfl, rfl, by rw [H1.out], 0, rfl⟩
        case round =>
          clear H1
          obtain ⟨q, hq1, hq2, rfl, rfl, nd, rfl⟩ := hrel
          have hbd : Below w4.heap.size w4 (w4.drewN nd) := below_drewN (Below.refl _ _) _
          by_cases hlq : q < ml.length
          · have hsn := Lib.hid (follow_snoc (last := d.last) hq1 hlq)
            obtain ⟨b1, o1, -, -, ha1, hb1, x0, -⟩ := HM.out.1.2 q hlq
            obtain ⟨b2, o2, -, -, ha2, hb2, y0, -⟩ := HM.out.1.2 (q - 1) (by omega)
            cases ha1
            cases ha2
            have hbw4 := HB4.out.2.2.1
        
            have c1 := cell_later hbw4 x0
            have c2 := cell_later hbw4 y0
            have hb1' : b1 < w4.heap.size := Nat.lt_of_lt_of_le hb1 hbw4.size
            have kl : (q : Int) < (ml.length : Int) := by omega
            have kw : IntKind.i64.wrap ((q : Int) - 1) = ((q - 1 : Nat) : Int) := by rw [IntWalk.i64_in _ (by omega)]; omega
            have kz : (0 : Int) ≤ ((q - 1 : Nat) : Int) := by omega
            have kl2 : ((q - 1 : Nat) : Int) < (ml.length : Int) := by omega
            generalize (ml.getD q v0).rev = r1 at c1 hsn
            generalize (ml.getD (q - 1) v0).rev = r2 at c2 hsn
            clear x0 y0 hbw4
            cases hf : followB d.last (ml.take q)
            · rw [hf] at hsn
              clear hf
              go_wp2_with fail
              go_quiet (fail)
              go_wp2
              go_roundw
              case rel => exact ⟨q + 1, by omega, by omega, by go_num, by rw [hsn.out]; rfl, _, rfl⟩
              case measure => simp [intOf]; omega
            · rw [hf] at hsn
              clear hf
              go_wp2_with fail
              go_quiet (fail)
              go_wp2
              go_roundw
              case rel => exact ⟨q + 1, by omega, by omega, by go_num, by rw [hsn.out]; simp, _, rfl⟩
              case measure => simp [intOf]; omega
          · have hr4 := HB4.out.1
            have hl4 := HB4.out.2.1
            have hbw4 := HB4.out.2.2.1
            clear HB4
            have hlW := hl4.below hbd
            have hbW := hbw4.trans (hbd.mono hbw4.size)
            have hadd := logAdd_any w1.heap.size w1.heap.size _ H d _ ml cb (w4.drewN nd) hlW hlW.raw.lo (fun w' ht => HM.out.1.below (hbW.trans (ht.below (B := w.heap.size) hbW.size (fun x hx => by have := hlW.ge (Nat.le_refl _) x hx; omega)))) (by omega) HM.out.2
            have hq : ml.take q = ml := List.take_of_length_le (by omega)
            rw [hq]
            have HW := Lib.hid (And.intro hbW (And.intro (hr4.below hbd) (And.intro hlW.ok (And.intro hn (And.intro hm (And.intro (hlW.ge (Nat.le_refl _)) hlt4))))))
            clear hlW hbW hr4 hq hl4 hbw4 hbd hn hm hlt4
            cases hf : followB d.last ml
            · rw [hf] at hadd
              have he : addD d ml = d := by unfold addD; rw [hf]; rfl
              rw [he] at hadd
              clear he hf
              go_wp2_with fail
              refine hadd.mono ?_
              rintro e w5 ⟨rfl, v5, H5, hl5, hT5, -⟩
              have hb5 := HW.out.1.trans (hT5.below (B := w.heap.size) HW.out.1.size (fun x hx => by have := HW.out.2.2.2.2.2.1 x hx; omega))
              have hr5 := HW.out.2.1.apart hT5 HW.out.2.2.2.2.2.2
              obtain ⟨a5, c5, rfl, -, -, -, -⟩ := hl5.raw.own.row.shape
              have hBase := logBase_any _ _ _ _ _ _ w1.heap.size w5 hl5.raw.obj
              have hF := Lib.hid (from_base hl5.ok)
              have hfr := from_any _ _ _ H5 d d.base w5 hl5
              have H5' := Lib.hid (And.intro hb5 hr5)
              clear hadd hT5 hb5 hr5 hl5
              go_wp2_with fail
              refine hBase.mono ?_
              rintro e w' ⟨rfl, hw'⟩
              subst hw'
              go_wp2_with fail
              refine hfr.mono ?_
              rintro e w7 ⟨v7, E7, rfl, hE7, hr7, hb7, -⟩
              rw [hF.out.1]
              rw [hF.out.2] at hE7
              obtain ⟨a7, c7, rfl⟩ := owns_form hr7.row
              have hE7l : E7.length = d.evs.length := by rw [← hE7]; exact (List.length_map ..).symm
              have hn4 := HW.out.2.2.2.1
              have hat7 := hr7.own.at (by omega)
              have hwas := (H5'.out.2.below hb7).own.at (by omega)
              rw [hE7] at hat7
              rw [HE.out] at hwas
              have HZ := Lib.hid (And.intro (H5'.out.1.trans (hb7.mono H5'.out.1.size)) (And.intro hwas hat7))
              rw [hE7l]
              clear hE7 hr7 hE7l hF hfr hBase hb7 hat7 hwas H5' hk hk20
              go_wp2_with fail
              refine (refEvents_any _ _ _ _ _ _ _ HZ.out.2.1 HZ.out.2.2).mono ?_
              rintro e w8 ⟨rfl, hb8⟩
              rw [eqL_same eqV_same]
              go_wp2
              go_ret
              exact ⟨rfl, HZ.out.1.trans (hb8.mono HZ.out.1.size)⟩
            · rw [hf] at hadd
              rw [addD_room HW.out.2.2.1 hf (by rw [HW.out.2.2.2.2.1]; have := HW.out.2.2.2.1; omega)] at hadd
              clear hf
              go_wp2_with fail
              refine hadd.mono ?_
              rintro e w5 ⟨rfl, v5, H5, hl5, hT5, -⟩
              have hb5 := HW.out.1.trans (hT5.below (B := w.heap.size) HW.out.1.size (fun x hx => by have := HW.out.2.2.2.2.2.1 x hx; omega))
              obtain ⟨a5, c5, rfl, -, -, -, -⟩ := hl5.raw.own.row.shape
              have hBase := logBase_any _ _ _ _ _ _ w1.heap.size w5 hl5.raw.obj
              have hF := Lib.hid (from_base hl5.ok)
              have hfr := from_any _ _ _ H5 _ d.base w5 hl5
              have H5' := Lib.hid hb5
              clear hadd hT5 hb5 hl5
              go_wp2_with fail
              refine hBase.mono ?_
              rintro e w' ⟨rfl, hw'⟩
              subst hw'
              go_wp2_with fail
              refine hfr.mono ?_
              rintro e w7 ⟨v7, E7, rfl, hE7, hr7, hb7, -⟩
              rw [hF.out.1]
              rw [hF.out.2] at hE7
              obtain ⟨a7, c7, rfl⟩ := owns_form hr7.row
              have hE7l : E7.length = d.evs.length + ml.length := by rw [← List.length_append, ← hE7]; exact (List.length_map ..).symm
              rw [hE7l]
              have fin := Lib.hid (H5'.out.trans (hb7.mono H5'.out.size))
              have hn4 := HW.out.2.2.2.1
              clear hE7 hr7 hE7l hF hfr hBase hb7 H5' hk
              go_wp2
              go_ret
              exact ⟨by first | rfl | exact ret_bool (by rw [IntWalk.wrap64_in _ (by omega)]; simp), fin.out⟩
      · have H1 : Hid (followB d.last (ml.take 1) = false) := by
          show _ = _
          rw [List.eq_nil_of_length_eq_zero (show ml.length = 0 by omega)]
          rfl
        have hz1 : ¬ (0 : Int) < (ml.length : Int) := by omega
        go_wp2_with fail
        go_loopw [11, 12] (fun ok i W => ∃ q : Nat, 1 ≤ q ∧ (q ≤ ml.length ∨ q = 1) ∧ i = .int .i64 q ∧ ok = .bool (followB d.last (ml.take q)) ∧ ∃ nd, W = w4.drewN nd) (fun _ i _ => ml.length - (intOf i).toNat)
        case atStart => exact ⟨1, Nat.le_refl _, .inr rfl, rfl, by rw [H1.out], 0, rfl⟩
        case round =>
          clear H1
          obtain ⟨q, hq1, hq2, rfl, rfl, nd, rfl⟩ := hrel
          have hbd : Below w4.heap.size w4 (w4.drewN nd) := below_drewN (Below.refl _ _) _
          by_cases hlq : q < ml.length
          · have hsn := Lib.hid (follow_snoc (last := d.last) hq1 hlq)
            obtain ⟨b1, o1, -, -, ha1, hb1, x0, -⟩ := HM.out.1.2 q hlq
            obtain ⟨b2, o2, -, -, ha2, hb2, y0, -⟩ := HM.out.1.2 (q - 1) (by omega)
            cases ha1
            cases ha2
            have hbw4 := HB4.out.2.2.1
        
            have c1 := cell_later hbw4 x0
            have c2 := cell_later hbw4 y0
            have hb1' : b1 < w4.heap.size := Nat.lt_of_lt_of_le hb1 hbw4.size
            have kl : (q : Int) < (ml.length : Int) := by omega
            have kw : IntKind.i64.wrap ((q : Int) - 1) = ((q - 1 : Nat) : Int) := by rw [IntWalk.i64_in _ (by omega)]; omega
            have kz : (0 : Int) ≤ ((q - 1 : Nat) : Int) := by omega
            have kl2 : ((q - 1 : Nat) : Int) < (ml.length : Int) := by omega
            generalize (ml.getD q v0).rev = r1 at c1 hsn
            generalize (ml.getD (q - 1) v0).rev = r2 at c2 hsn
            clear x0 y0 hbw4
            cases hf : followB d.last (ml.take q)
            · rw [hf] at hsn
              clear hf
              go_wp2_with fail
              go_quiet (fail)
              go_wp2
              go_roundw
              case rel => exact ⟨q + 1, by omega, by omega, by go_num, by rw [hsn.out]; rfl, _, rfl⟩
              case measure => simp [intOf]; omega
            · rw [hf] at hsn
              clear hf
              go_wp2_with fail
              go_quiet (fail)
              go_wp2
              go_roundw
              case rel => exact ⟨q + 1, by omega, by omega, by go_num, by rw [hsn.out]; simp, _, rfl⟩
              case measure => simp [intOf]; omega
          · have hr4 := HB4.out.1
            have hl4 := HB4.out.2.1
            have hbw4 := HB4.out.2.2.1
            clear HB4
            have hlW := hl4.below hbd
            have hbW := hbw4.trans (hbd.mono hbw4.size)
            have hadd := logAdd_any w1.heap.size w1.heap.size _ H d _ ml cb (w4.drewN nd) hlW hlW.raw.lo (fun w' ht => HM.out.1.below (hbW.trans (ht.below (B := w.heap.size) hbW.size (fun x hx => by have := hlW.ge (Nat.le_refl _) x hx; omega)))) (by omega) HM.out.2
            have hq : ml.take q = ml := List.take_of_length_le (by omega)
            rw [hq]
            have HW := Lib.hid (And.intro hbW (And.intro (hr4.below hbd) (And.intro hlW.ok (And.intro hn (And.intro hm (And.intro (hlW.ge (Nat.le_refl _)) hlt4))))))
            clear hlW hbW hr4 hq hl4 hbw4 hbd hn hm hlt4
            cases hf : followB d.last ml
            · rw [hf] at hadd
              have he : addD d ml = d := by unfold addD; rw [hf]; rfl
              rw [he] at hadd
              clear he hf
              go_wp2_with fail
              refine hadd.mono ?_
              rintro e w5 ⟨rfl, v5, H5, hl5, hT5, -⟩
              have hb5 := HW.out.1.trans (hT5.below (B := w.heap.size) HW.out.1.size (fun x hx => by have := HW.out.2.2.2.2.2.1 x hx; omega))
              have hr5 := HW.out.2.1.apart hT5 HW.out.2.2.2.2.2.2
              obtain ⟨a5, c5, rfl, -, -, -, -⟩ := hl5.raw.own.row.shape
              have hBase := logBase_any _ _ _ _ _ _ w1.heap.size w5 hl5.raw.obj
              have hF := Lib.hid (from_base hl5.ok)
              have hfr := from_any _ _ _ H5 d d.base w5 hl5
              have H5' := Lib.hid (And.intro hb5 hr5)
              clear hadd hT5 hb5 hr5 hl5
              go_wp2_with fail
              refine hBase.mono ?_
              rintro e w' ⟨rfl, hw'⟩
              subst hw'
              go_wp2_with fail
              refine hfr.mono ?_
              rintro e w7 ⟨v7, E7, rfl, hE7, hr7, hb7, -⟩
              rw [hF.out.1]
              rw [hF.out.2] at hE7
              obtain ⟨a7, c7, rfl⟩ := owns_form hr7.row
              have hE7l : E7.length = d.evs.length := by rw [← hE7]; exact (List.length_map ..).symm
              have hn4 := HW.out.2.2.2.1
              have hat7 := hr7.own.at (by omega)
              have hwas := (H5'.out.2.below hb7).own.at (by omega)
              rw [hE7] at hat7
              rw [HE.out] at hwas
              have HZ := Lib.hid (And.intro (H5'.out.1.trans (hb7.mono H5'.out.1.size)) (And.intro hwas hat7))
              rw [hE7l]
              clear hE7 hr7 hE7l hF hfr hBase hb7 hat7 hwas H5' hk hk20
              go_wp2_with fail
              refine (refEvents_any _ _ _ _ _ _ _ HZ.out.2.1 HZ.out.2.2).mono ?_
              rintro e w8 ⟨rfl, hb8⟩
              rw [eqL_same eqV_same]
              go_wp2
              go_ret
              exact ⟨rfl, HZ.out.1.trans (hb8.mono HZ.out.1.size)⟩
            · rw [hf] at hadd
              rw [addD_room HW.out.2.2.1 hf (by rw [HW.out.2.2.2.2.1]; have := HW.out.2.2.2.1; omega)] at hadd
              clear hf
              go_wp2_with fail
              refine hadd.mono ?_
              rintro e w5 ⟨rfl, v5, H5, hl5, hT5, -⟩
              have hb5 := HW.out.1.trans (hT5.below (B := w.heap.size) HW.out.1.size (fun x hx => by have := HW.out.2.2.2.2.2.1 x hx; omega))
              obtain ⟨a5, c5, rfl, -, -, -, -⟩ := hl5.raw.own.row.shape
              have hBase := logBase_any _ _ _ _ _ _ w1.heap.size w5 hl5.raw.obj
              have hF := Lib.hid (from_base hl5.ok)
              have hfr := from_any _ _ _ H5 _ d.base w5 hl5
              have H5' := Lib.hid hb5
              clear hadd hT5 hb5 hl5
              go_wp2_with fail
              refine hBase.mono ?_
              rintro e w' ⟨rfl, hw'⟩
              subst hw'
              go_wp2_with fail
              refine hfr.mono ?_
              rintro e w7 ⟨v7, E7, rfl, hE7, hr7, hb7, -⟩
              rw [hF.out.1]
              rw [hF.out.2] at hE7
              obtain ⟨a7, c7, rfl⟩ := owns_form hr7.row
              have hE7l : E7.length = d.evs.length + ml.length := by rw [← List.length_append, ← hE7]; exact (List.length_map ..).symm
              rw [hE7l]
              have fin := Lib.hid (H5'.out.trans (hb7.mono H5'.out.size))
              have hn4 := HW.out.2.2.2.1
              clear hE7 hr7 hE7l hF hfr hBase hb7 H5' hk
              go_wp2
              go_ret
              exact ⟨by first | rfl | exact ret_bool (by rw [IntWalk.wrap64_in _ (by omega)]; simp), fin.out⟩
end Go.Proofs.YtaleceobkbgcnaaGreat.Rp
