/-
  How answers are written in bytes: entries, events, lists of them. No conditions beyond what is written in each statement.
-/
import Derived.Test.YtaleceobkbgcnaaGreatRp1
import Derived.Test.YtaleceobkbgcnaaGreatGStoB
set_option linter.unusedSimpArgs false
set_option linter.unusedVariables false
namespace Go.Proofs.YtaleceobkbgcnaaGreat.Rp
open Go.RowKit

def AtN (w : World) (a : Option Addr) (l : List EntD) : Prop :=
  l.length ≤ 9223372036854775807 ∧ ∀ i, i < l.length → ∃ b off va vc, a = some ⟨b, off, none⟩ ∧ b < w.heap.size ∧ w.cell? ⟨b, off + i * 3, none⟩ = some (.string (l.getD i e0).key) ∧ w.cell? ⟨b, off + i * 3 + 1, none⟩ = some (.int .i64 (l.getD i e0).rev) ∧ w.cell? ⟨b, off + i * 3 + 2, none⟩ = some (.slice va (l.getD i e0).val.length vc)
    ∧ AtB w va (l.getD i e0).val ∧ (l.getD i e0).val.length ≤ vc ∧ vc ≤ maxLen ∧ (va = none → vc = 0)
theorem AtN.below {w w1 : World} {a : Option Addr} {l : List EntD} (h : AtN w a l) (hb : Below w.heap.size w w1) : AtN w1 a l := ⟨h.1, fun i hi => by
  obtain ⟨b, off, va, vc, ha, hlt, c0, c1, c2, hv, k1, k2, k3⟩ := h.2 i hi
  exact ⟨b, off, va, vc, ha, Nat.lt_of_lt_of_le hlt hb.size, cell_later hb c0, cell_later hb c1, cell_later hb c2, hv.below' hb, k1, k2, k3⟩⟩
def okEn (x : EntD) : Prop := x.key.size ≤ 20 ∧ (0 ≤ x.rev ∧ x.rev ≤ 1099511627776) ∧ x.val.length ≤ 4000
def okEv (x : EvD) : Prop := x.key.size ≤ 20 ∧ (0 ≤ x.rev ∧ x.rev ≤ 1099511627776) ∧ x.val.length ≤ 4000
def nbytesE (x : EntD) : List Value := (xbytes x.key ++ wbytes x.rev.toNat) ++ vbytes x.val
def ebytes (x : EvD) : List Value := ((wbytes x.rev.toNat ++ xbytes x.key) ++ vbytes x.val) ++ fbytes x.gone
theorem nbytesE_len (x : EntD) : (nbytesE x).length = 24 + x.key.size + x.val.length := by simp [nbytesE, wbytes_len, xbytes_len, vbytes_len]; omega
theorem ebytes_len (x : EvD) : (ebytes x).length = 32 + x.key.size + x.val.length := by simp [ebytes, fbytes, wbytes_len, xbytes_len, vbytes_len]; omega
set_option maxRecDepth 100000 in
set_option maxHeartbeats 1000000 in
theorem putEntry_any (a : ByteArray) (r : Int) (va : Option Addr) (l : List Int) (vc : Nat) (v : Value) (n : Nat) (xs : List Value) (B : Nat) (w : World) (ha : a.size ≤ 20) (h0 : 0 ≤ r) (h1 : r ≤ 1099511627776) (hl : l.length ≤ 4000) (hc : va = none → vc = 0) (hlc : l.length ≤ vc) (hat : ∀ w', Below B w w' → AtB w' va l)
    (ho : w.ownsRow B 5 1 v n xs) (hB : B ≤ w.heap.size) (hn : n + (24 + a.size + l.length) ≤ 900000) :
    Calls Tryz.prog 112 #[v, .agg #[.string a, .int .i64 r, .slice va l.length vc]] w (PutPost B w (n + (nbytesE ⟨a, r, l⟩).length) (xs ++ nbytesE ⟨a, r, l⟩)) := by
  go_enter Tryz.func112, Tryz.ntmps112
  go_wp2_with fail
  refine (callText_any a v n xs B _ ha (ho.alloc _) (by simp; omega) (by omega)).mono ?_
  rintro e w1 ⟨v1, rfl, ho1, hp1⟩
  rw [xbytes_len] at ho1
  have hx1 := fun o => hp1.cell (heap_alloc_self w _) (by decide) o
  have hB1 := hp1.below.size
  simp at hB1
  have hw1 : Below B w w1 := ((Below.refl _ _).alloc hB _).trans hp1.below
  go_wp2_with fail
  refine (callNum_any r v1 _ _ B w1 h0 (by show _ < (9223372036854775808 : Int); omega) ho1 (by omega) (by omega)).mono ?_
  rintro e w2 ⟨v2, rfl, ho2, hp2⟩
  have hx2 := fun o => (hp1.trans hp2).cell (heap_alloc_self w _) (by decide) o
  have hB2 := hp2.below.size
  have hp := (((Puts.refl B w).alloc hB _).trans hp1).trans hp2
  have hw2 : Below B w w2 := hw1.trans hp2.below
  clear hp1 hp2 hx1
  go_wp2_with fail
  refine (callBytes_any va l vc v2 _ _ B w2 hl (hat _ hw2) hc hlc ho2 (by omega) (by omega) (fun w' hp => hat w' (hw2.trans hp.below))).mono ?_
  rintro e w3 ⟨v3, rfl, ho3, hp3⟩
  rw [vbytes_len] at ho3
  go_wp2
  go_ret
  refine ⟨v3, rfl, ?_, hp.trans hp3⟩
  rw [nbytesE_len, show n + (24 + (⟨a, r, l⟩ : EntD).key.size + (⟨a, r, l⟩ : EntD).val.length) = n + (8 + a.size) + 8 + (8 + l.length) by show n + (24 + a.size + l.length) = _; omega]
  unfold nbytesE
  rw [← List.append_assoc, ← List.append_assoc]
  exact ho3
set_option maxRecDepth 100000 in
set_option maxHeartbeats 1000000 in
theorem putEvent_any (r : Int) (a : ByteArray) (va : Option Addr) (l : List Int) (vc : Nat) (c : Bool) (v : Value) (n : Nat) (xs : List Value) (B : Nat) (w : World) (ha : a.size ≤ 20) (h0 : 0 ≤ r) (h1 : r ≤ 1099511627776) (hl : l.length ≤ 4000) (hc : va = none → vc = 0) (hlc : l.length ≤ vc) (hat : ∀ w', Below B w w' → AtB w' va l)
    (ho : w.ownsRow B 5 1 v n xs) (hB : B ≤ w.heap.size) (hn : n + (32 + a.size + l.length) ≤ 900000) :
    Calls Tryz.prog 114 #[v, .agg #[.int .i64 r, .string a, .slice va l.length vc, .bool c]] w (PutPost B w (n + (ebytes ⟨r, a, l, c⟩).length) (xs ++ ebytes ⟨r, a, l, c⟩)) := by
  go_enter Tryz.func114, Tryz.ntmps114
  go_wp2_with fail
  refine (callNum_any r v _ _ B _ h0 (by show _ < (9223372036854775808 : Int); omega) (ho.alloc _) (by simp; omega) (by omega)).mono ?_
  rintro e w1 ⟨v1, rfl, ho1, hp1⟩
  have hx1 := fun o => hp1.cell (heap_alloc_self w _) (by decide) o
  have hB1 := hp1.below.size
  simp at hB1
  have hw1 : Below B w w1 := ((Below.refl _ _).alloc hB _).trans hp1.below
  go_wp2_with fail
  refine (callText_any a v1 _ _ B w1 ha ho1 (by omega) (by omega)).mono ?_
  rintro e w2 ⟨v2, rfl, ho2, hp2⟩
  rw [xbytes_len] at ho2
  have hx2 := fun o => (hp1.trans hp2).cell (heap_alloc_self w _) (by decide) o
  have hB2 := hp2.below.size
  have hp := (((Puts.refl B w).alloc hB _).trans hp1).trans hp2
  have hp12 := hp1.trans hp2
  have hw2 : Below B w w2 := hw1.trans hp2.below
  clear hp1 hp2 hx1
  go_wp2_with fail
  refine (callBytes_any va l vc v2 _ _ B w2 hl (hat _ hw2) hc hlc ho2 (by omega) (by omega) (fun w' hp => hat w' (hw2.trans hp.below))).mono ?_
  rintro e w3 ⟨v3, rfl, ho3, hp3⟩
  rw [vbytes_len] at ho3
  have hx3 := fun o => (hp12.trans hp3).cell (heap_alloc_self w _) (by decide) o
  have hB3 := hp3.below.size
  have hpp := hp.trans hp3
  clear hp hp3 hp12 hx2
  go_wp2_with fail
  refine (callFlag_any c v3 _ _ B w3 ho3 (by omega) (by omega)).mono ?_
  rintro e w4 ⟨v4, rfl, ho4, hp4⟩
  go_wp2
  go_ret
  refine ⟨v4, rfl, ?_, hpp.trans hp4⟩
  rw [ebytes_len, show n + (32 + (⟨r, a, l, c⟩ : EvD).key.size + (⟨r, a, l, c⟩ : EvD).val.length) = n + 8 + (8 + a.size) + (8 + l.length) + 8 by show n + (32 + a.size + l.length) = _; omega]
  unfold ebytes
  rw [← List.append_assoc, ← List.append_assoc, ← List.append_assoc]
  exact ho4

set_option maxRecDepth 100000 in
set_option maxHeartbeats 1000000 in
theorem putEntries_any (a : Option Addr) (l : List EntD) (cap : Nat) (v : Value) (n : Nat) (xs : List Value) (w0 w : World) (hl : AtN w0 a l) (hm : l.length ≤ 900000) (hok : ∀ x ∈ l, okEn x) (h0 : Below w0.heap.size w0 w)
    (ho : w.ownsRow w0.heap.size 5 1 v n xs) (hn : n + (lbytes nbytesE l).length ≤ 900000) :
    Calls Tryz.prog 111 #[v, .slice a l.length cap, .func (.func 112) #[] #[]] w (PutPost w0.heap.size w (n + (lbytes nbytesE l).length) (xs ++ lbytes nbytesE l)) := by
  have hB := h0.size
  have HN := Lib.hid hn
  have hn1 : n ≤ 1000000 := by omega
  clear hn
  go_enter Tryz.func111, Tryz.ntmps111
  go_wp2_with fail
  refine (callNum_any (l.length : Int) v n xs w0.heap.size w (by omega) (by show _ < (9223372036854775808 : Int); omega) ho hB hn1).mono ?_
  rintro e w1 ⟨v1, rfl, ho1, hp1⟩
  rw [Int.toNat_natCast] at ho1
  go_wp2
  go_loopw [0, 15] (fun u i wr => ∃ k : Nat, k ≤ l.length ∧ i = .int .i64 k ∧ wr.ownsRow w0.heap.size 5 1 u (n + (wbytes l.length ++ (l.take k).flatMap nbytesE).length) (xs ++ (wbytes l.length ++ (l.take k).flatMap nbytesE)) ∧ Puts w0.heap.size w wr) (fun _ i _ => l.length - (intOf i).toNat)
  case atStart => exact ⟨0, Nat.zero_le _, rfl, by simpa [wbytes_len] using ho1, hp1⟩
  case round =>
    obtain ⟨k, hk, rfl, hown, hput⟩ := hrel
    have hbel := h0.trans hput.below
    by_cases hlt : k < l.length
    · have hsu := Lib.hid (flatMap_succ (d := e0) nbytesE hlt)
      have hkok := hok (l.getD k e0) (getD_mem hlt)
      have hlen : Hid (n + ((wbytes l.length ++ (l.take k).flatMap nbytesE) ++ nbytesE (l.getD k e0)).length ≤ 900000) := by
        show _ ≤ _
        have h := HN.out
        rw [lbytes_split (d := e0) nbytesE hlt] at h
        simp only [List.length_append] at h ⊢
        omega
      obtain ⟨b, off, va, vc, ha, hb, d0, d1, d2, hv, k1, k2, k3⟩ := hl.2 k hlt; have c0 := cell_later hbel d0; have c1 := cell_later hbel d1; have c2 := cell_later hbel d2; clear d0 d1 d2 hl; subst ha
      clear hok
      generalize hq : l.getD k e0 = q at *
      clear hq
      obtain ⟨q0, q1, q2⟩ := q; simp only at c0 c1 c2; go_wp2_with fail; refine (putEntry_any _ _ va _ vc _ _ _ _ _ hkok.1 hkok.2.1.1 hkok.2.1.2 hkok.2.2 k3 k1 (fun w' hb' => hv.below' ((hbel.alloc hbel.size _).trans hb')) (hown.alloc _) (by simp; have := hbel.size; omega) (by have := hlen.out; simp only [List.length_append, nbytesE_len] at this ⊢; omega)).mono ?_
      rintro e w2 ⟨v2, rfl, ho2, hp2⟩
      go_wp2
      go_roundw
      case rel =>
        refine ⟨k + 1, by omega, by go_num, ?_, hput.trans (((Puts.refl _ wr).alloc hbel.size _).trans hp2)⟩
        rw [hsu.out, ← List.append_assoc (wbytes l.length), ← List.append_assoc xs, List.length_append (bs := nbytesE _), ← Nat.add_assoc]
        exact ho2
      case measure => simp [intOf]; omega
    · go_wp2
      go_ret
      have hk2 : l.take k = l := List.take_of_length_le (by omega)
      rw [hk2] at hown
      exact ⟨_, rfl, hown, hput⟩
set_option maxRecDepth 100000 in
set_option maxHeartbeats 1000000 in
theorem putEvents_any (a : Option Addr) (l : List EvD) (cap : Nat) (v : Value) (n : Nat) (xs : List Value) (w0 w : World) (hl : AtE w0 a l) (hm : l.length ≤ 900000) (hok : ∀ x ∈ l, okEv x) (h0 : Below w0.heap.size w0 w)
    (ho : w.ownsRow w0.heap.size 5 1 v n xs) (hn : n + (lbytes ebytes l).length ≤ 900000) :
    Calls Tryz.prog 113 #[v, .slice a l.length cap, .func (.func 114) #[] #[]] w (PutPost w0.heap.size w (n + (lbytes ebytes l).length) (xs ++ lbytes ebytes l)) := by
  have hB := h0.size
  have HN := Lib.hid hn
  have hn1 : n ≤ 1000000 := by omega
  clear hn
  go_enter Tryz.func113, Tryz.ntmps113
  go_wp2_with fail
  refine (callNum_any (l.length : Int) v n xs w0.heap.size w (by omega) (by show _ < (9223372036854775808 : Int); omega) ho hB hn1).mono ?_
  rintro e w1 ⟨v1, rfl, ho1, hp1⟩
  rw [Int.toNat_natCast] at ho1
  go_wp2
  go_loopw [0, 15] (fun u i wr => ∃ k : Nat, k ≤ l.length ∧ i = .int .i64 k ∧ wr.ownsRow w0.heap.size 5 1 u (n + (wbytes l.length ++ (l.take k).flatMap ebytes).length) (xs ++ (wbytes l.length ++ (l.take k).flatMap ebytes)) ∧ Puts w0.heap.size w wr) (fun _ i _ => l.length - (intOf i).toNat)
  case atStart => exact ⟨0, Nat.zero_le _, rfl, by simpa [wbytes_len] using ho1, hp1⟩
  case round =>
    obtain ⟨k, hk, rfl, hown, hput⟩ := hrel
    have hbel := h0.trans hput.below
    by_cases hlt : k < l.length
    · have hsu := Lib.hid (flatMap_succ (d := v0) ebytes hlt)
      have hkok := hok (l.getD k v0) (getD_mem hlt)
      have hlen : Hid (n + ((wbytes l.length ++ (l.take k).flatMap ebytes) ++ ebytes (l.getD k v0)).length ≤ 900000) := by
        show _ ≤ _
        have h := HN.out
        rw [lbytes_split (d := v0) ebytes hlt] at h
        simp only [List.length_append] at h ⊢
        omega
      obtain ⟨b, off, va, vc, ha, hb, d0, d1, d2, d3, hv, k1, k2, k3⟩ := hl.2 k hlt; have c0 := cell_later hbel d0; have c1 := cell_later hbel d1; have c2 := cell_later hbel d2; have c3 := cell_later hbel d3; clear d0 d1 d2 d3 hl; subst ha
      clear hok
      generalize hq : l.getD k v0 = q at *
      clear hq
      obtain ⟨q0, q1, q2, q3⟩ := q; simp only at c0 c1 c2 c3; go_wp2_with fail; refine (putEvent_any _ _ va _ vc _ _ _ _ _ _ hkok.1 hkok.2.1.1 hkok.2.1.2 hkok.2.2 k3 k1 (fun w' hb' => hv.below' ((hbel.alloc hbel.size _).trans hb')) (hown.alloc _) (by simp; have := hbel.size; omega) (by have := hlen.out; simp only [List.length_append, ebytes_len] at this ⊢; omega)).mono ?_
      rintro e w2 ⟨v2, rfl, ho2, hp2⟩
      go_wp2
      go_roundw
      case rel =>
        refine ⟨k + 1, by omega, by go_num, ?_, hput.trans (((Puts.refl _ wr).alloc hbel.size _).trans hp2)⟩
        rw [hsu.out, ← List.append_assoc (wbytes l.length), ← List.append_assoc xs, List.length_append (bs := ebytes _), ← Nat.add_assoc]
        exact ho2
      case measure => simp [intOf]; omega
    · go_wp2
      go_ret
      have hk2 : l.take k = l := List.take_of_length_le (by omega)
      rw [hk2] at hown
      exact ⟨_, rfl, hown, hput⟩
end Go.Proofs.YtaleceobkbgcnaaGreat.Rp
namespace Go.Proofs.YtaleceobkbgcnaaGreat.Rp
open Go.RowKit

/-- An answer, and where its lists lie. -/
structure AnsD where
  to : Int
  id : Int
  kind : Int
  err : Int
  rev : Int
  es : List EntD
  vs : List EvD
structure AnsH where
  ea : Option Addr
  ec : Nat
  va : Option Addr
  vc : Nat
abbrev ansC (x : AnsD) (h : AnsH) : Array Value := #[.int .i64 x.to, .int .i64 x.id, .int .i64 x.kind, .int .i64 x.err, .int .i64 x.rev, .slice h.ea x.es.length h.ec, .slice h.va x.vs.length h.vc]
abbrev ansV (x : AnsD) (h : AnsH) : Value := .agg (ansC x h)
structure AnsAt (w : World) (x : AnsD) (h : AnsH) : Prop where
  es : AtN w h.ea x.es
  vs : AtE w h.va x.vs
theorem AnsAt.below {w w1 : World} {x : AnsD} {h : AnsH} (hc : AnsAt w x h) (hb : Below w.heap.size w w1) : AnsAt w1 x h := ⟨hc.es.below hb, hc.vs.below hb⟩
def beB (k : ByteArray) (r : Int) (l : List Int) : Bool := keyB k && (decide (1 ≤ r) && decide (r ≤ 1099511627776)) && decide (l.length ≤ 4000)
def enB (x : EntD) : Bool := beB x.key x.rev x.val
def evB (x : EvD) : Bool := beB x.key x.rev x.val && !(x.gone && decide (0 < x.val.length))
def ansB (x : AnsD) : Bool := (decide (0 ≤ x.to) && decide (x.to ≤ 7) && decide (1 ≤ x.id) && decide (x.id ≤ 1099511627776)) && (decide (1 ≤ x.kind) && decide (x.kind ≤ 4) && decide (0 ≤ x.err) && decide (x.err ≤ 9) && decide (0 ≤ x.rev) && decide (x.rev ≤ 1099511627776)) &&
  (decide (x.es.length ≤ 100) && decide (x.vs.length ≤ 100)) && (x.es.all enB && x.vs.all evB)
theorem mayBe_any (s : ByteArray) (r : Int) (a : Option Addr) (l : List Int) (c : Nat) (w : World) : Calls Tryz.prog 149 #[.string s, .int .i64 r, .slice a l.length c] w fun e w' => e = .returned (.bool (beB s r l)) ∧ w' = w := by
  have HE : Hid (beB s r l = true ↔ (1 ≤ s.size ∧ s.size ≤ 20) ∧ (1 ≤ r ∧ r ≤ 1099511627776) ∧ l.length ≤ 4000) := by
    show _ ↔ _
    unfold beB keyB
    simp only [Bool.and_eq_true, decide_eq_true_eq, and_assoc]
  go_enter Tryz.func149, Tryz.ntmps149
  go_wp2_with fail
  all_goals
    go_ret
    refine ⟨ret_bool ?_, rfl⟩
    rw [Bool.eq_iff_iff, HE.out]
    simp
    try omega
set_option maxRecDepth 100000 in
set_option maxHeartbeats 4000000 in
theorem ansMay_any (x : AnsD) (h : AnsH) (w : World) (hc : AnsAt w x h) :
    Calls Tryz.prog 109 #[ansV x h] w fun e w' => e = .returned (.bool (ansB x)) ∧ Below w.heap.size w w' := by
  have hb0 : Below w.heap.size w (w.alloc (.cells (ansC x h) 111)) := (Below.refl _ _).alloc (Nat.le_refl _) _
  have kB := heap_new w (.cells (ansC x h) 111)
  have HB0 := Lib.hid (And.intro hb0 kB)
  have HG := Lib.hid hc.es
  have HW := Lib.hid hc.vs
  have gm := hc.es.1
  have wm := hc.vs.1
  clear hb0 kB hc
  obtain ⟨to, id, kind, err, rev, es, vs⟩ := x
  obtain ⟨ea, ec, va, vc⟩ := h
  dsimp only at *
  by_cases h1 : 0 ≤ to ∧ to ≤ 7 ∧ 1 ≤ id ∧ id ≤ 1099511627776
  rotate_left
  · have HF : Hid (ansB ⟨to, id, kind, err, rev, es, vs⟩ = false) := by
      show _ = _
      unfold ansB
      dsimp only
      have : (decide (0 ≤ to) && decide (to ≤ 7) && decide (1 ≤ id) && decide (id ≤ 1099511627776)) = false := by
        rw [Bool.eq_false_iff]
        simp only [ne_eq, Bool.and_eq_true, decide_eq_true_eq]
        omega
      rw [this]; rfl
    as_aux_lemma =>
      go_enter Tryz.func109, Tryz.ntmps109
      go_wp2_with fail
      all_goals
        first
          | (exfalso; omega)
          | (go_ret
             exact ⟨ret_bool (by rw [HF.out]), HB0.out.1⟩)
  obtain ⟨f1, f2, f3, f4⟩ := h1
  by_cases h2 : 1 ≤ kind ∧ kind ≤ 4 ∧ 0 ≤ err ∧ err ≤ 9 ∧ 0 ≤ rev ∧ rev ≤ 1099511627776
  rotate_left
  · have HF : Hid (ansB ⟨to, id, kind, err, rev, es, vs⟩ = false) := by
      show _ = _
      unfold ansB
      dsimp only
      have : (decide (1 ≤ kind) && decide (kind ≤ 4) && decide (0 ≤ err) && decide (err ≤ 9) && decide (0 ≤ rev) && decide (rev ≤ 1099511627776)) = false := by
        rw [Bool.eq_false_iff]
        simp only [ne_eq, Bool.and_eq_true, decide_eq_true_eq]
        omega
      rw [this]; simp
    as_aux_lemma =>
      go_enter Tryz.func109, Tryz.ntmps109
      go_wp2_with fail
      all_goals
        first
          | (exfalso; omega)
          | (go_ret
             exact ⟨ret_bool (by rw [HF.out]), HB0.out.1⟩)
  obtain ⟨k1, k2, k3, k4, k5, k6⟩ := h2
  have HC : Hid (ansB ⟨to, id, kind, err, rev, es, vs⟩ = ((decide (es.length ≤ 100) && decide (vs.length ≤ 100)) && (es.all enB && vs.all evB))) := by
    show _ = _
    unfold ansB
    dsimp only
    rw [decide_eq_true f1, decide_eq_true f2, decide_eq_true f3, decide_eq_true f4, decide_eq_true k1, decide_eq_true k2, decide_eq_true k3, decide_eq_true k4, decide_eq_true k5, decide_eq_true k6]
    rfl
  by_cases h100 : (es.length : Int) ≤ 100
  rotate_left
  · have HF : Hid (ansB ⟨to, id, kind, err, rev, es, vs⟩ = false) := by
      show _ = _
      rw [HC.out, decide_eq_false (show ¬ es.length ≤ 100 by omega)]; rfl
    clear HC
    as_aux_lemma =>
      go_enter Tryz.func109, Tryz.ntmps109
      go_wp2_with fail
      all_goals
        first
          | (exfalso; omega)
          | (go_ret
             exact ⟨ret_bool (by rw [HF.out]), HB0.out.1⟩)
  by_cases v100 : (vs.length : Int) ≤ 100
  rotate_left
  · have HF : Hid (ansB ⟨to, id, kind, err, rev, es, vs⟩ = false) := by
      show _ = _
      rw [HC.out, decide_eq_false (show ¬ vs.length ≤ 100 by omega)]; simp
    clear HC
    as_aux_lemma =>
      go_enter Tryz.func109, Tryz.ntmps109
      go_wp2_with fail
      all_goals
        first
          | (exfalso; omega)
          | (go_ret
             exact ⟨ret_bool (by rw [HF.out]), HB0.out.1⟩)
  have HT : Hid (ansB ⟨to, id, kind, err, rev, es, vs⟩ = (es.all enB && vs.all evB)) := by
    show _ = _
    rw [HC.out, decide_eq_true (show es.length ≤ 100 by omega), decide_eq_true (show vs.length ≤ 100 by omega)]; rfl
  clear HC
  generalize ansB ⟨to, id, kind, err, rev, es, vs⟩ = RES at *
  go_enter Tryz.func109, Tryz.ntmps109
  go_wp2_with fail
  clear f1 f2 f3 f4 k1 k2 k3 k4 k5 k6
  go_loopw [66] (fun i wr => ∃ k : Nat, k ≤ es.length ∧ i = .int .i64 k ∧ Hid (RES = ((es.drop k).all enB && vs.all evB)) ∧ Hid (Below w.heap.size w wr ∧ wr.heap[w.heap.size]? = some (.cells #[.int .i64 to, .int .i64 id, .int .i64 kind, .int .i64 err, .int .i64 rev, .slice ea es.length ec, .slice va vs.length vc] 111))) (fun i _ => es.length - (intOf i).toNat)
  case atStart => exact ⟨0, Nat.zero_le _, rfl, HT, HB0⟩
  case round =>
    clear HT HB0
    obtain ⟨k, hk, rfl, HT, HB⟩ := hrel
    by_cases hlt : k < es.length
    · obtain ⟨b, off, xa, xc, ha, hb, d0, d1, d2, _, _, _, _⟩ := HG.out.2 k hlt
      have c0 := cell_later HB.out.1 d0
      have c1 := cell_later HB.out.1 d1
      have c2 := cell_later HB.out.1 d2
      have hdrop := Lib.hid (all_drop (d := e0) enB hlt)
      clear d0 d1 d2 HG HW
      subst ha
      generalize hq : es.getD k e0 = q at c0 c1 c2 hdrop
      obtain ⟨q0, q1, q2⟩ := q
      simp only at c0 c1 c2
      clear hq
      have hle := HB.out.1.size
      have kH := heap_older' HB.out.2
      have hx : Hid (enB ⟨q0, q1, q2⟩ = beB q0 q1 q2) := rfl
      go_wp2_with fail
      refine (mayBe_any _ _ _ _ _ _).mono ?_
      rintro e w1 ⟨rfl, rfl⟩
      cases x0 : beB q0 q1 q2
      · rw [x0] at hx
        go_wp2
        go_ret
        exact ⟨ret_bool (by rw [HT.out, hdrop.out, hx.out]; rfl), HB.out.1.alloc hle _⟩
      · rw [x0] at hx
        go_wp2
        go_roundw
        case rel => exact ⟨k + 1, by omega, by go_num, by show _ = _; rw [HT.out, hdrop.out, hx.out]; rfl, HB.out.1.alloc hle _, kH _⟩
        case measure => simp [intOf]; omega
    · have HT2 : Hid (RES = vs.all evB) := by show _ = _; rw [HT.out, List.drop_eq_nil_of_le (by omega)]; rfl
      have cT := fun o => cell_of_obj HB.out.2 o
      clear HT HG
      go_wp2_with fail
      clear cT
      go_loopw [82] (fun i wr => ∃ k : Nat, k ≤ vs.length ∧ i = .int .i64 k ∧ Hid (RES = (vs.drop k).all evB) ∧ Hid (Below w.heap.size w wr)) (fun i _ => vs.length - (intOf i).toNat)
      case atStart => exact ⟨0, Nat.zero_le _, rfl, HT2, HB.out.1⟩
      case round =>
        clear HT2 HB hlt hk
        obtain ⟨k, hk, rfl, HT, HB⟩ := hrel
        by_cases hlt : k < vs.length
        · obtain ⟨b, off, xa, xc, ha, hb, d0, d1, d2, d3, _, _, _, _⟩ := HW.out.2 k hlt
          have c0 := cell_later HB.out d0
          have c1 := cell_later HB.out d1
          have c2 := cell_later HB.out d2
          have c3 := cell_later HB.out d3
          have hdrop := Lib.hid (all_drop (d := v0) evB hlt)
          clear d0 d1 d2 d3 HW
          subst ha
          generalize hq : vs.getD k v0 = q at c0 c1 c2 c3 hdrop
          obtain ⟨q0, q1, q2, q3⟩ := q
          simp only at c0 c1 c2 c3
          clear hq
          have hle := HB.out.size
          have hx : Hid (evB ⟨q0, q1, q2, q3⟩ = (beB q1 q0 q2 && !(q3 && decide (0 < q2.length)))) := rfl
          go_wp2_with fail
          refine (mayBe_any _ _ _ _ _ _).mono ?_
          rintro e w1 ⟨rfl, rfl⟩
          cases x0 : beB q1 q0 q2
          · rw [x0] at hx
            go_wp2
            go_ret
            exact ⟨ret_bool (by rw [HT.out, hdrop.out, hx.out]; rfl), HB.out.alloc hle _⟩
          · rw [x0] at hx
            cases q3
            · go_wp2
              go_roundw
              case rel => exact ⟨k + 1, by omega, by go_num, by show _ = _; rw [HT.out, hdrop.out, hx.out]; rfl, HB.out.alloc hle _⟩
              case measure => simp [intOf]; omega
            · by_cases x1 : (0 : Int) < (q2.length : Int)
              · have e1 : decide (0 < q2.length) = true := decide_eq_true (by omega)
                rw [e1] at hx
                go_wp2
                go_ret
                exact ⟨ret_bool (by rw [HT.out, hdrop.out, hx.out]; rfl), HB.out.alloc hle _⟩
              · have e1 : decide (0 < q2.length) = false := decide_eq_false (by omega)
                rw [e1] at hx
                go_wp2
                go_roundw
                case rel => exact ⟨k + 1, by omega, by go_num, by show _ = _; rw [HT.out, hdrop.out, hx.out]; rfl, HB.out.alloc hle _⟩
                case measure => simp [intOf]; omega
        · go_wp2
          go_ret
          exact ⟨ret_bool (by rw [HT.out, List.drop_eq_nil_of_le (by omega)]; rfl), HB.out⟩
end Go.Proofs.YtaleceobkbgcnaaGreat.Rp
