/-
  What is written is read back: bytes of objects. No conditions beyond what is written in each statement.
-/
import Derived.Test.YtaleceobkbgcnaaGreatBeg1
set_option linter.unusedSimpArgs false
set_option linter.unusedVariables false
namespace Go.Proofs.YtaleceobkbgcnaaGreat
open Go.RowKit

def vI (l : List Value) : List Int := l.map valInt
theorem vI_app (a b : List Value) : vI (a ++ b) = vI a ++ vI b := List.map_append
theorem vI_len (a : List Value) : (vI a).length = a.length := List.length_map _
theorem vI_word (x : Nat) : vI (wbytes x) = [wbyteI x 0, wbyteI x 1, wbyteI x 2, wbyteI x 3, wbyteI x 4, wbyteI x 5, wbyteI x 6, wbyteI x 7] := rfl
theorem word_back (x : Nat) (h : x < 18446744073709551616) : wordOf (vI (wbytes x)) = x := by
  rw [vI_word]
  show ((((((((0 * 256 + wbyteI x 0) * 256 + wbyteI x 1) * 256 + wbyteI x 2) * 256 + wbyteI x 3) * 256 + wbyteI x 4) * 256 + wbyteI x 5) * 256 + wbyteI x 6) * 256 + wbyteI x 7) = (x : Int)
  have e0 : wbyteI x 0 = (x : Int) / 72057594037927936 := by show (x : Int) / 72057594037927936 % 256 = _; omega
  have e1 : (x : Int) / 72057594037927936 * 256 + wbyteI x 1 = (x : Int) / 281474976710656 := by show _ + (x : Int) / 281474976710656 % 256 = _; omega
  have e2 : (x : Int) / 281474976710656 * 256 + wbyteI x 2 = (x : Int) / 1099511627776 := by show _ + (x : Int) / 1099511627776 % 256 = _; omega
  have e3 : (x : Int) / 1099511627776 * 256 + wbyteI x 3 = (x : Int) / 4294967296 := by show _ + (x : Int) / 4294967296 % 256 = _; omega
  have e4 : (x : Int) / 4294967296 * 256 + wbyteI x 4 = (x : Int) / 16777216 := by show _ + (x : Int) / 16777216 % 256 = _; omega
  have e5 : (x : Int) / 16777216 * 256 + wbyteI x 5 = (x : Int) / 65536 := by show _ + (x : Int) / 65536 % 256 = _; omega
  have e6 : (x : Int) / 65536 * 256 + wbyteI x 6 = (x : Int) / 256 := by show _ + (x : Int) / 256 % 256 = _; omega
  have e7 : (x : Int) / 256 * 256 + wbyteI x 7 = (x : Int) := by show _ + (x : Int) / 1 % 256 = _; omega
  rw [Int.zero_mul, Int.zero_add, e0, e1, e2, e3, e4, e5, e6, e7]
theorem gWord_back (x : Nat) (h : x < 18446744073709551616) (r : List Int) (b : Bool) : gWord (vI (wbytes x) ++ r, b) = ((x : Int), (r, b)) := by
  have hl : (vI (wbytes x)).length = 8 := by rw [vI_len, wbytes_len]
  unfold gWord
  rw [if_neg (by simp only [List.length_append, hl]; omega), List.take_left' hl, List.drop_left' hl, word_back x h]

/-- What is written so is read so. -/
def Rt {α : Type} (get : RS → α × RS) (enc : α → List Value) (x : α) : Prop := ∀ r b, get (vI (enc x) ++ r, b) = (x, (r, b))
theorem rt_num {x : Int} (h : okInt x) : Rt gNum ibytes x := fun r b => by
  obtain ⟨h0, h1⟩ := h
  unfold gNum ibytes
  rw [gWord_back x.toNat (by omega)]
  show (toI _, _) = _
  unfold toI
  rw [if_pos (by omega), Int.toNat_of_nonneg h0]
theorem rt_flag (x : Bool) : Rt gFlag fbytes x := fun r b => by
  unfold gFlag
  cases x
  · have g := gWord_back 0 (by decide) r b
    show (if (gWord (vI (wbytes 0) ++ r, b)).1 = 0 then _ else _) = _
    rw [g]; rfl
  · have g := gWord_back 1 (by decide) r b
    show (if (gWord (vI (wbytes 1) ++ r, b)).1 = 0 then _ else if (gWord (vI (wbytes 1) ++ r, b)).1 = 1 then _ else _) = _
    rw [g]; rfl

set_option maxRecDepth 100000 in
theorem letter_digit : ∀ c : Fin 256, nameByte c.1 = true → 1 ≤ digitN c.1 ∧ digitN c.1 ≤ 37 ∧ lettersL.getD (digitN c.1 - 1) 0 = (c.1 : Int) := by decide
theorem numL_concat (l : List UInt8) (c : UInt8) : numL (l ++ [c]) = numL l * 37 + digitN c.toNat := by
  unfold numL
  rw [List.foldl_append]; rfl
theorem name_back : ∀ (k : Nat) (l : List UInt8), l.length ≤ k → allName l = true → nameN k (numL l) = l.map fun c => (c.toNat : Int) := by
  intro k
  induction k with
  | zero =>
    intro l hl _
    obtain rfl : l = [] := List.eq_nil_of_length_eq_zero (by omega)
    rfl
  | succ k ih =>
    intro l hl ha
    rcases List.eq_nil_or_concat l with rfl | ⟨r, c, rfl⟩
    · exact nameN_zero _
    · rw [List.concat_eq_append] at *
      have hc : nameByte c.toNat = true := by unfold allName at ha; rw [List.all_append] at ha; simp at ha; exact ha.2
      have hr : allName r = true := by unfold allName at *; rw [List.all_append] at ha; simp at ha ⊢; exact ha.1
      obtain ⟨d1, d2, d3⟩ := letter_digit ⟨c.toNat, c.toNat_lt⟩ hc
      simp only at d1 d2 d3
      rw [numL_concat, nameN_succ _ _ (by omega), List.map_append]
      have e : (((numL r * 37 + digitN c.toNat : Nat) : Int) - 1) / 37 = (numL r : Int) := by omega
      have e2 : ((((numL r * 37 + digitN c.toNat : Nat) : Int) - 1) % 37).toNat = digitN c.toNat - 1 := by omega
      rw [e, ih r (by simp at hl; omega) hr]
      unfold letterI
      rw [e2, d3]
      rfl
theorem strOf_nat (s : ByteArray) : strOfNums (s.data.toList.map fun c => (c.toNat : Int)) = s := by
  unfold strOfNums
  rw [List.map_map]
  have : ((fun n : Int => UInt8.ofNat n.toNat) ∘ fun c : UInt8 => (c.toNat : Int)) = id := by
    funext c
    simp
  rw [this, List.map_id]
theorem rt_name {s : ByteArray} (h : okName s) : Rt gName nbytes s := fun r b => by
  have hl : s.data.toList.length ≤ 12 := by simpa using h.1
  have hn := numL_le s.data.toList hl
  unfold gName nbytes
  rw [gWord_back _ (by omega)]
  show (strOfNums (nameN 13 ((numL s.data.toList : Nat) : Int)), _) = _
  rw [name_back 13 s.data.toList (by omega) h.2, strOf_nat]
theorem rt_pair {x : Str2} (h : okPair x) : Rt gPair pbytes x := fun r b => by
  unfold gPair pbytes
  rw [vI_app, List.append_assoc, rt_name h.1]
  simp only [rt_name h.2 r b]
theorem rt_tol {t : Tol} (h : okTol t) : Rt gToler tbytes t := fun r b => by
  unfold gToler tbytes
  rw [vI_app, vI_app, List.append_assoc, List.append_assoc, rt_name h.1]
  simp only [rt_name h.2 _ b, rt_flag t.2.2 r b]
theorem rt_many {α : Type} {get : RS → α × RS} {enc : α → List Value} : ∀ (l : List α), (∀ x ∈ l, Rt get enc x) → ∀ r b, gMany get l.length (vI (l.flatMap enc) ++ r, b) = (l, (r, b)) := by
  intro l
  induction l with
  | nil => intro _ r b; rfl
  | cons x t ih =>
    intro h r b
    rw [List.flatMap_cons, vI_app, List.append_assoc, List.length_cons]
    unfold gMany
    rw [h x (by simp), ih (fun y hy => h y (by simp [hy]))]
theorem rt_list {α : Type} {get : RS → α × RS} {enc : α → List Value} {l : List α} (h : ∀ x ∈ l, Rt get enc x) (hl : l.length ≤ 6) : Rt (gList get) (lbytes enc) l := fun r b => by
  unfold gList lbytes
  rw [vI_app, List.append_assoc, gWord_back _ (by omega)]
  show (if 6 < ((l.length : Nat) : Int) then _ else _) = _
  rw [if_neg (by omega)]
  exact rt_many l h r b
theorem rt_term {t : Trm} (h : okTrm t) (hv : t.vals.length ≤ 6) : Rt gTerm rbytes t := fun r b => by
  obtain ⟨h1, h2, _, h3⟩ := h
  have a := rt_name h1
  have c := rt_num h2
  have d := rt_list (enc := nbytes) (fun v hv => rt_name (h3 v hv)) hv
  unfold gTerm rbytes
  unfold ibytes Rt at c
  rw [vI_app, vI_app, List.append_assoc, List.append_assoc, a]
  simp only [c, d r b]
theorem rt_res {x y z : Int} (h1 : okInt x) (h2 : okInt y) (h3 : okInt z) (r : List Int) (b : Bool) : gRes (vI (resBytes x y z) ++ r, b) = ((x, y, z), (r, b)) := by
  have a := rt_num h1
  have c := rt_num h2
  have d := rt_num h3
  unfold ibytes Rt at a c d
  unfold gRes resBytes
  rw [vI_app, vI_app, List.append_assoc, List.append_assoc, a]
  simp only [c, d]
theorem gOpen_back (kind : Nat) (hk : kind < 9223372036854775808) (r : List Int) : gOpen (kind : Int) (vI (wbytes kind) ++ r) = (r, false) := by
  have a := rt_num (x := (kind : Int)) ⟨by omega, by omega⟩ r false
  unfold ibytes at a
  rw [Int.toNat_natCast] at a
  unfold gOpen
  rw [a]
  simp
theorem pod_back {p : PodD} (h : podB p = true) (ht : p.term < 9223372036854775808) : getPodR (vI (podBytes p)) = some p := by
  obtain ⟨h1, h2, h3, h4, h5, h6, h7, h8, h9, h10, h11, h12⟩ := podB_parts h
  obtain ⟨s1, s2, s3, s4, s5⟩ := spreadB_ok h11
  obtain ⟨q1, q2⟩ := placeB_ok h12
  obtain ⟨a1, a2, a3⟩ := withinB_ok h6 (by decide)
  have n1 := rt_name (okName_of h1)
  have n2 := rt_name s5
  have n3 := rt_name q1
  have u := rt_num (x := p.uid) ⟨by omega, by omega⟩
  have v := rt_num (x := p.prio) ⟨by omega, by omega⟩
  have sk := rt_num (x := p.skew) ⟨by omega, by omega⟩
  have te := rt_num (x := p.term) ⟨q2, ht⟩
  unfold ibytes Rt at u v sk te
  have lp := rt_list (enc := ibytes) (fun x hx => rt_num ((portsB_ok h7).2 x hx)) (portsB_ok h7).1
  have ll := rt_list (enc := pbytes) (fun x hx => rt_pair ((mayL_ok h8).2 x hx)) (mayL_ok h8).1
  have lt : ∀ {ts : List Trm}, mayT ts = true → Rt (gList gTerm) (lbytes rbytes) ts := fun {ts} e => rt_list (enc := rbytes) (fun x hx => rt_term ((mayT_ok e).2.1 x hx) ((mayT_ok e).2.2 x hx)) (mayT_ok e).1
  have lo := rt_list (enc := tbytes) (fun x hx => rt_tol ((mayTols_ok h10).2 x hx)) (mayTols_ok h10).1
  have l1 := lt h9
  have l2 := lt s1
  have l3 := lt s2
  have re := rt_res a1 a2 a3
  have hg : gPod (gOpen 1 (vI (podBytes p))) = (p, ([], false)) := by
    unfold podBytes
    simp only [vI_app, List.append_assoc]
    have o := gOpen_back 1 (by decide)
    rw [show ((1 : Nat) : Int) = 1 from rfl] at o
    rw [o]
    have te' := te [] false
    rw [List.append_nil] at te'
    unfold gPod
    rw [n1]
    simp only [u, v, re, lp _ _, ll _ _, l1 _ _, lo _ _, n2 _ _, l2 _ _, sk, l3 _ _, n3 _ _, te']
  unfold getPodR
  rw [hg]
  simp [h]
end Go.Proofs.YtaleceobkbgcnaaGreat
namespace Go.Proofs.YtaleceobkbgcnaaGreat
open Go.RowKit

theorem byte_at {x p b m low : Int} (hm : 0 < m) (hx : x = (p * 256 + b) * m + low) (h0 : 0 ≤ b) (h1 : b ≤ 255) (l0 : 0 ≤ low) (l1 : low < m) : x / m % 256 = b := by
  have e : x / m = p * 256 + b := by
    rw [hx, Int.add_comm, Int.add_mul_ediv_right _ _ (by omega), Int.ediv_eq_zero_of_lt l0 l1, Int.zero_add]
  rw [e]; omega
theorem word_inv (t : List Int) (hb : Bytes t) (hl : t.length = 8) : vI (wbytes (wordOf t).toNat) = t := by
  match t, hl with
  | [b0, b1, b2, b3, b4, b5, b6, b7], _ =>
    have g0 := hb b0 (by simp)
    have g1 := hb b1 (by simp)
    have g2 := hb b2 (by simp)
    have g3 := hb b3 (by simp)
    have g4 := hb b4 (by simp)
    have g5 := hb b5 (by simp)
    have g6 := hb b6 (by simp)
    have g7 := hb b7 (by simp)
    have hx : wordOf [b0, b1, b2, b3, b4, b5, b6, b7] = ((((((((0 * 256 + b0) * 256 + b1) * 256 + b2) * 256 + b3) * 256 + b4) * 256 + b5) * 256 + b6) * 256 + b7) := rfl
    generalize wordOf [b0, b1, b2, b3, b4, b5, b6, b7] = x at hx
    have hn : ((x.toNat : Nat) : Int) = x := by omega
    rw [vI_word]
    have e0 : wbyteI x.toNat 0 = b0 := by
      show (x.toNat : Int) / 72057594037927936 % 256 = b0
      rw [hn]; exact byte_at (p := 0) (low := (((((b1 * 256 + b2) * 256 + b3) * 256 + b4) * 256 + b5) * 256 + b6) * 256 + b7) (by decide) (by omega) g0.1 g0.2 (by omega) (by omega)
    have e1 : wbyteI x.toNat 1 = b1 := by
      show (x.toNat : Int) / 281474976710656 % 256 = b1
      rw [hn]; exact byte_at (p := b0) (low := ((((b2 * 256 + b3) * 256 + b4) * 256 + b5) * 256 + b6) * 256 + b7) (by decide) (by omega) g1.1 g1.2 (by omega) (by omega)
    have e2 : wbyteI x.toNat 2 = b2 := by
      show (x.toNat : Int) / 1099511627776 % 256 = b2
      rw [hn]; exact byte_at (p := b0 * 256 + b1) (low := (((b3 * 256 + b4) * 256 + b5) * 256 + b6) * 256 + b7) (by decide) (by omega) g2.1 g2.2 (by omega) (by omega)
    have e3 : wbyteI x.toNat 3 = b3 := by
      show (x.toNat : Int) / 4294967296 % 256 = b3
      rw [hn]; exact byte_at (p := (b0 * 256 + b1) * 256 + b2) (low := ((b4 * 256 + b5) * 256 + b6) * 256 + b7) (by decide) (by omega) g3.1 g3.2 (by omega) (by omega)
    have e4 : wbyteI x.toNat 4 = b4 := by
      show (x.toNat : Int) / 16777216 % 256 = b4
      rw [hn]; exact byte_at (p := ((b0 * 256 + b1) * 256 + b2) * 256 + b3) (low := (b5 * 256 + b6) * 256 + b7) (by decide) (by omega) g4.1 g4.2 (by omega) (by omega)
    have e5 : wbyteI x.toNat 5 = b5 := by
      show (x.toNat : Int) / 65536 % 256 = b5
      rw [hn]; exact byte_at (p := (((b0 * 256 + b1) * 256 + b2) * 256 + b3) * 256 + b4) (low := b6 * 256 + b7) (by decide) (by omega) g5.1 g5.2 (by omega) (by omega)
    have e6 : wbyteI x.toNat 6 = b6 := by
      show (x.toNat : Int) / 256 % 256 = b6
      rw [hn]; exact byte_at (p := ((((b0 * 256 + b1) * 256 + b2) * 256 + b3) * 256 + b4) * 256 + b5) (low := b7) (by decide) (by omega) g6.1 g6.2 (by omega) (by omega)
    have e7 : wbyteI x.toNat 7 = b7 := by
      show (x.toNat : Int) / 1 % 256 = b7
      rw [hn]; exact byte_at (p := (((((b0 * 256 + b1) * 256 + b2) * 256 + b3) * 256 + b4) * 256 + b5) * 256 + b6) (low := 0) (by decide) (by omega) g7.1 g7.2 (by omega) (by omega)
    rw [e0, e1, e2, e3, e4, e5, e6, e7]

/-- What is left is an end of what was there. -/
def Sf {α : Type} (get : RS → α × RS) : Prop := ∀ st, ∃ n, (get st).2.1 = st.1.drop n
theorem Sf.bytes {α : Type} {get : RS → α × RS} (h : Sf get) {st : RS} (hb : Bytes st.1) : Bytes (get st).2.1 := by
  obtain ⟨n, e⟩ := h st
  rw [e]
  exact fun x hx => hb x (List.mem_of_mem_drop hx)
theorem drop_two {l m r : List Int} (h1 : ∃ n, m = l.drop n) (h2 : ∃ n, r = m.drop n) : ∃ n, r = l.drop n := by
  obtain ⟨a, rfl⟩ := h1
  obtain ⟨b, rfl⟩ := h2
  exact ⟨a + b, by rw [List.drop_drop]⟩
theorem sf_word : Sf gWord := fun st => by
  unfold gWord
  split
  · exact ⟨0, rfl⟩
  · exact ⟨8, rfl⟩
theorem sf_num : Sf gNum := fun st => sf_word st
theorem sf_name : Sf gName := fun st => sf_word st
theorem sf_flag : Sf gFlag := fun st => by
  unfold gFlag
  split
  · exact sf_word st
  · split
    · exact sf_word st
    · exact sf_word st
theorem sf_pair : Sf gPair := fun st => drop_two (sf_name st) (sf_name _)
theorem sf_tol : Sf gToler := fun st => drop_two (drop_two (sf_name st) (sf_name _)) (sf_flag _)
theorem sf_res (st : RS) : ∃ n, (gRes st).2.1 = st.1.drop n := drop_two (drop_two (sf_num st) (sf_num _)) (sf_num _)
theorem sf_many {α : Type} {get : RS → α × RS} (h : Sf get) : ∀ n, Sf (gMany get n) := by
  intro n
  induction n with
  | zero => exact fun st => ⟨0, rfl⟩
  | succ n ih => exact fun st => drop_two (h st) (ih _)
theorem sf_list {α : Type} {get : RS → α × RS} (h : Sf get) : Sf (gList get) := fun st => by
  unfold gList
  split
  · exact sf_word st
  · exact drop_two (sf_word st) (sf_many h _ _)
theorem sf_term : Sf gTerm := fun st => drop_two (drop_two (sf_name st) (sf_num _)) (sf_list sf_name _)

/-- What is read well was written so. -/
def Iv {α : Type} (get : RS → α × RS) (enc : α → List Value) (ok : α → Prop) : Prop :=
  ∀ st, Bytes st.1 → (get st).2.2 = false → ok (get st).1 → st.2 = false ∧ st.1 = vI (enc (get st).1) ++ (get st).2.1
theorem iv_word (st : RS) (hb : Bytes st.1) (h : (gWord st).2.2 = false) : st.2 = false ∧ st.1 = vI (wbytes (gWord st).1.toNat) ++ (gWord st).2.1 := by
  unfold gWord at h ⊢
  by_cases hl : st.1.length < 8
  · rw [if_pos hl] at h; cases h
  · rw [if_neg hl] at h ⊢
    refine ⟨h, ?_⟩
    show st.1 = vI (wbytes (wordOf (st.1.take 8)).toNat) ++ st.1.drop 8
    rw [word_inv _ (fun x hx => hb x (List.mem_of_mem_take hx)) (by rw [List.length_take]; omega), List.take_append_drop]
theorem iv_num : Iv gNum ibytes okInt := fun st hb h ok => by
  have hw := gWord_le hb
  obtain ⟨h1, h2⟩ := iv_word st hb h
  refine ⟨h1, ?_⟩
  have e : (gNum st).1 = (gWord st).1 := by
    have := ok.1
    unfold gNum at this ⊢
    simp only at this ⊢
    unfold toI at this ⊢
    split at this <;> split <;> omega
  unfold ibytes
  rw [e]
  exact h2
theorem iv_flag : Iv gFlag fbytes (fun _ => True) := fun st hb h _ => by
  have hw := gWord_le hb
  unfold gFlag at h ⊢
  by_cases h0 : (gWord st).1 = 0
  · rw [if_pos h0] at h ⊢
    obtain ⟨h1, h2⟩ := iv_word st hb h
    rw [h0] at h2
    exact ⟨h1, h2⟩
  · rw [if_neg h0] at h ⊢
    by_cases h1 : (gWord st).1 = 1
    · rw [if_pos h1] at h ⊢
      obtain ⟨h1', h2⟩ := iv_word st hb h
      rw [h1] at h2
      exact ⟨h1', h2⟩
    · rw [if_neg h1] at h; cases h
set_option maxRecDepth 100000 in
theorem digit_letter : ∀ n : Fin 37, digitN (UInt8.ofNat (lettersL.getD n.1 0).toNat).toNat = n.1 + 1 := by decide
theorem numL_back : ∀ (k : Nat) (x : Int), 0 ≤ x → (nameN k x).length < k → numL ((nameN k x).map fun n => UInt8.ofNat n.toNat) = x.toNat := by
  intro k
  induction k with
  | zero => intro x _ h; omega
  | succ k ih =>
    intro x h0 h
    by_cases hx : x ≤ 0
    · obtain rfl : x = 0 := by omega
      rw [nameN_zero]; rfl
    · rw [nameN_succ _ _ (by omega)] at h ⊢
      simp only [List.length_append, List.length_cons, List.length_nil] at h
      have hd := digit_letter ⟨((x - 1) % 37).toNat, by omega⟩
      simp only at hd
      rw [List.map_append, List.map_cons, List.map_nil, numL_concat, ih _ (by omega) (by omega)]
      unfold letterI
      rw [hd]
      omega
theorem iv_name : Iv gName nbytes okName := fun st hb h ok => by
  have hw := gWord_le hb
  obtain ⟨h1, h2⟩ := iv_word st hb h
  refine ⟨h1, ?_⟩
  have hs : (nameN 13 (gWord st).1).length ≤ 12 := by
    have := ok.1
    unfold gName at this
    rw [strOfNums_size] at this
    exact this
  have e := numL_back 13 (gWord st).1 hw.1 (by omega)
  unfold nbytes gName
  rw [strOfNums_data, e]
  exact h2
theorem iv_pair : Iv gPair pbytes okPair := fun st hb h ok => by
  obtain ⟨a2, b2⟩ := iv_name (gName st).2 (sf_name.bytes hb) h ok.2
  obtain ⟨a1, b1⟩ := iv_name st hb a2 ok.1
  refine ⟨a1, ?_⟩
  show st.1 = vI (nbytes (gName st).1 ++ nbytes (gName (gName st).2).1) ++ (gName (gName st).2).2.1
  rw [vI_app, List.append_assoc, ← b2]
  exact b1
theorem iv_tol : Iv gToler tbytes okTol := fun st hb h ok => by
  have c1 := sf_name.bytes hb
  have c2 := sf_name.bytes c1
  obtain ⟨a3, b3⟩ := iv_flag (gName (gName st).2).2 c2 h trivial
  obtain ⟨a2, b2⟩ := iv_name (gName st).2 c1 a3 ok.2
  obtain ⟨a1, b1⟩ := iv_name st hb a2 ok.1
  refine ⟨a1, ?_⟩
  show st.1 = vI ((nbytes (gName st).1 ++ nbytes (gName (gName st).2).1) ++ fbytes (gFlag (gName (gName st).2).2).1) ++ (gFlag (gName (gName st).2).2).2.1
  rw [vI_app, vI_app, List.append_assoc, List.append_assoc, ← b3, ← b2]
  exact b1
theorem iv_res (st : RS) (hb : Bytes st.1) (h : (gRes st).2.2 = false) (h1 : okInt (gRes st).1.1) (h2 : okInt (gRes st).1.2.1) (h3 : okInt (gRes st).1.2.2) : st.2 = false ∧ st.1 = vI (resBytes (gRes st).1.1 (gRes st).1.2.1 (gRes st).1.2.2) ++ (gRes st).2.1 := by
  have c1 := sf_num.bytes hb
  have c2 := sf_num.bytes c1
  obtain ⟨a3, b3⟩ := iv_num (gNum (gNum st).2).2 c2 h h3
  obtain ⟨a2, b2⟩ := iv_num (gNum st).2 c1 a3 h2
  obtain ⟨a1, b1⟩ := iv_num st hb a2 h1
  refine ⟨a1, ?_⟩
  show st.1 = vI ((ibytes (gNum st).1 ++ ibytes (gNum (gNum st).2).1) ++ ibytes (gNum (gNum (gNum st).2).2).1) ++ (gNum (gNum (gNum st).2).2).2.1
  rw [vI_app, vI_app, List.append_assoc, List.append_assoc, ← b3, ← b2]
  exact b1
theorem iv_many {α : Type} {get : RS → α × RS} {enc : α → List Value} {ok : α → Prop} (hs : Sf get) (hi : Iv get enc ok) : ∀ n st, Bytes st.1 → (gMany get n st).2.2 = false → (∀ x ∈ (gMany get n st).1, ok x) →
    st.2 = false ∧ st.1 = vI ((gMany get n st).1.flatMap enc) ++ (gMany get n st).2.1 ∧ (gMany get n st).1.length = n := by
  intro n
  induction n with
  | zero => intro st _ h _; exact ⟨h, rfl, rfl⟩
  | succ n ih =>
    intro st hb h ok
    unfold gMany at h ok ⊢
    obtain ⟨a2, b2, c2⟩ := ih (get st).2 (hs.bytes hb) h (fun x hx => ok x (by simp [hx]))
    obtain ⟨a1, b1⟩ := hi st hb a2 (ok _ (by simp))
    refine ⟨a1, ?_, by simp [c2]⟩
    rw [List.flatMap_cons, vI_app, List.append_assoc]
    simp only
    rw [← b2]
    exact b1
theorem iv_list {α : Type} {get : RS → α × RS} {enc : α → List Value} {ok : α → Prop} (hs : Sf get) (hi : Iv get enc ok) : Iv (gList get) (lbytes enc) (fun l => ∀ x ∈ l, ok x) := fun st hb h ok => by
  have hw := gWord_le hb
  unfold gList at h ok ⊢
  by_cases h6 : 6 < (gWord st).1
  · rw [if_pos h6] at h; cases h
  · rw [if_neg h6] at h ok ⊢
    obtain ⟨a2, b2, c2⟩ := iv_many hs hi _ (gWord st).2 (sf_word.bytes hb) h ok
    obtain ⟨a1, b1⟩ := iv_word st hb a2
    refine ⟨a1, ?_⟩
    unfold lbytes
    rw [c2, vI_app, List.append_assoc, ← b2]
    exact b1
theorem iv_term : Iv gTerm rbytes okTrm := fun st hb h ok => by
  obtain ⟨o1, o2, _, o3⟩ := ok
  have c1 := sf_name.bytes hb
  have c2 := sf_num.bytes c1
  obtain ⟨a3, b3⟩ := iv_list sf_name iv_name (gNum (gName st).2).2 c2 h o3
  obtain ⟨a2, b2⟩ := iv_num (gName st).2 c1 a3 o2
  obtain ⟨a1, b1⟩ := iv_name st hb a2 o1
  refine ⟨a1, ?_⟩
  show st.1 = vI ((nbytes (gName st).1 ++ ibytes (gNum (gName st).2).1) ++ lbytes nbytes (gList gName (gNum (gName st).2).2).1) ++ (gList gName (gNum (gName st).2).2).2.1
  rw [vI_app, vI_app, List.append_assoc, List.append_assoc, ← b3, ← b2]
  exact b1
theorem iv_open {kind : Nat} (hk : kind < 9223372036854775808) {l : List Int} (hb : Bytes l) (h : (gOpen kind l).2 = false) : l = vI (wbytes kind) ++ (gOpen kind l).1 ∧ Bytes (gOpen kind l).1 := by
  unfold gOpen at h ⊢
  by_cases hn : (gNum (l, false)).1 = (kind : Int)
  · rw [if_pos hn] at h ⊢
    obtain ⟨_, b1⟩ := iv_num (l, false) hb h (by rw [hn]; exact ⟨by omega, by omega⟩)
    rw [hn] at b1
    unfold ibytes at b1
    rw [Int.toNat_natCast] at b1
    exact ⟨b1, sf_num.bytes (st := (l, false)) hb⟩
  · rw [if_neg hn] at h; cases h
set_option maxHeartbeats 1000000 in
theorem iv_pod (st : RS) (hb : Bytes st.1) (h : (gPod st).2.2 = false) (ok : podB (gPod st).1 = true) (ht : (gPod st).1.term < 9223372036854775808) : st.2 = false ∧ vI (wbytes 1) ++ st.1 = vI (podBytes (gPod st).1) ++ (gPod st).2.1 := by
  obtain ⟨h1, h2, h3, h4, h5, h6, h7, h8, h9, h10, h11, h12⟩ := podB_parts ok
  obtain ⟨s1, s2, s3, s4, s5⟩ := spreadB_ok h11
  obtain ⟨q1, q2⟩ := placeB_ok h12
  obtain ⟨r1, r2, r3⟩ := withinB_ok h6 (by decide)
  have okT : ∀ {ts : List Trm}, mayT ts = true → ∀ t ∈ ts, okTrm t := fun e => (mayT_ok e).2.1
  have n1 := okName_of h1
  have u1 : okInt (gPod st).1.uid := ⟨by omega, by omega⟩
  have u2 : okInt (gPod st).1.prio := ⟨by omega, by omega⟩
  have u3 : okInt (gPod st).1.skew := ⟨by omega, by omega⟩
  have u4 : okInt (gPod st).1.term := ⟨q2, ht⟩
  have p1 := (portsB_ok h7).2
  have p2 := (mayL_ok h8).2
  have p3 := okT h9
  have p4 := (mayTols_ok h10).2
  have p5 := okT s1
  have p6 := okT s2
  clear h1 h2 h3 h4 h5 h6 h7 h8 h9 h10 h11 h12 s1 s2 s3 s4 q2 ht ok okT
  unfold gPod at *
  simp only at *
  generalize e1 : gName st = t1 at *
  have c1 : Bytes t1.2.1 := by rw [← e1]; exact sf_name.bytes hb
  generalize e2 : gNum t1.2 = t2 at *
  have c2 : Bytes t2.2.1 := by rw [← e2]; exact sf_num.bytes c1
  generalize e3 : gNum t2.2 = t3 at *
  have c3 : Bytes t3.2.1 := by rw [← e3]; exact sf_num.bytes c2
  generalize e4 : gRes t3.2 = t4 at *
  have c4 : Bytes t4.2.1 := by
    obtain ⟨n, e⟩ := sf_res t3.2
    rw [← e4, e]; exact fun x hx => c3 x (List.mem_of_mem_drop hx)
  generalize e5 : gList gNum t4.2 = t5 at *
  have c5 : Bytes t5.2.1 := by rw [← e5]; exact (sf_list sf_num).bytes c4
  generalize e6 : gList gPair t5.2 = t6 at *
  have c6 : Bytes t6.2.1 := by rw [← e6]; exact (sf_list sf_pair).bytes c5
  generalize e7 : gList gTerm t6.2 = t7 at *
  have c7 : Bytes t7.2.1 := by rw [← e7]; exact (sf_list sf_term).bytes c6
  generalize e8 : gList gToler t7.2 = t8 at *
  have c8 : Bytes t8.2.1 := by rw [← e8]; exact (sf_list sf_tol).bytes c7
  generalize e9 : gName t8.2 = t9 at *
  have c9 : Bytes t9.2.1 := by rw [← e9]; exact sf_name.bytes c8
  generalize e10 : gList gTerm t9.2 = t10 at *
  have c10 : Bytes t10.2.1 := by rw [← e10]; exact (sf_list sf_term).bytes c9
  generalize e11 : gNum t10.2 = t11 at *
  have c11 : Bytes t11.2.1 := by rw [← e11]; exact sf_num.bytes c10
  generalize e12 : gList gTerm t11.2 = t12 at *
  have c12 : Bytes t12.2.1 := by rw [← e12]; exact (sf_list sf_term).bytes c11
  generalize e13 : gName t12.2 = t13 at *
  have c13 : Bytes t13.2.1 := by rw [← e13]; exact sf_name.bytes c12
  generalize e14 : gNum t13.2 = t14 at *
  obtain ⟨k14, b14⟩ := iv_num t13.2 c13 (by rw [e14]; exact h) (by rw [e14]; exact u4)
  obtain ⟨k13, b13⟩ := iv_name t12.2 c12 (by rw [e13]; exact k14) (by rw [e13]; exact q1)
  obtain ⟨k12, b12⟩ := iv_list sf_term iv_term t11.2 c11 (by rw [e12]; exact k13) (by rw [e12]; exact p6)
  obtain ⟨k11, b11⟩ := iv_num t10.2 c10 (by rw [e11]; exact k12) (by rw [e11]; exact u3)
  obtain ⟨k10, b10⟩ := iv_list sf_term iv_term t9.2 c9 (by rw [e10]; exact k11) (by rw [e10]; exact p5)
  obtain ⟨k9, b9⟩ := iv_name t8.2 c8 (by rw [e9]; exact k10) (by rw [e9]; exact s5)
  obtain ⟨k8, b8⟩ := iv_list sf_tol iv_tol t7.2 c7 (by rw [e8]; exact k9) (by rw [e8]; exact p4)
  obtain ⟨k7, b7⟩ := iv_list sf_term iv_term t6.2 c6 (by rw [e7]; exact k8) (by rw [e7]; exact p3)
  obtain ⟨k6, b6⟩ := iv_list sf_pair iv_pair t5.2 c5 (by rw [e6]; exact k7) (by rw [e6]; exact p2)
  obtain ⟨k5, b5⟩ := iv_list sf_num iv_num t4.2 c4 (by rw [e5]; exact k6) (by rw [e5]; exact p1)
  obtain ⟨k4, b4⟩ := iv_res t3.2 c3 (by rw [e4]; exact k5) (by rw [e4]; exact r1) (by rw [e4]; exact r2) (by rw [e4]; exact r3)
  obtain ⟨k3, b3⟩ := iv_num t2.2 c2 (by rw [e3]; exact k4) (by rw [e3]; exact u2)
  obtain ⟨k2, b2⟩ := iv_num t1.2 c1 (by rw [e2]; exact k3) (by rw [e2]; exact u1)
  obtain ⟨k1, b1⟩ := iv_name st hb (by rw [e1]; exact k2) (by rw [e1]; exact n1)
  refine ⟨k1, ?_⟩
  rw [e1] at b1
  rw [e2] at b2
  rw [e3] at b3
  rw [e4] at b4
  rw [e5] at b5
  rw [e6] at b6
  rw [e7] at b7
  rw [e8] at b8
  rw [e9] at b9
  rw [e10] at b10
  rw [e11] at b11
  rw [e12] at b12
  rw [e13] at b13
  rw [e14] at b14
  unfold ibytes at b2 b3 b11 b14
  unfold podBytes
  simp only [vI_app, List.append_assoc]
  rw [← b14, ← b13, ← b12, ← b11, ← b10, ← b9, ← b8, ← b7, ← b6, ← b5, ← b4, ← b3, ← b2, ← b1]
theorem toI_lt {x : Int} (h : x < 18446744073709551616) : toI x < 9223372036854775808 := by unfold toI; split <;> omega
theorem gNum_lt {st : RS} (h : Bytes st.1) : (gNum st).1 < 9223372036854775808 := toI_lt (gWord_le h).2
theorem gPod_term (st : RS) (hb : Bytes st.1) : ∃ s : RS, Bytes s.1 ∧ (gPod st).1.term = (gNum s).1 := by
  unfold gPod
  simp only
  generalize e1 : gName st = t1
  have c1 : Bytes t1.2.1 := by rw [← e1]; exact sf_name.bytes hb
  generalize e2 : gNum t1.2 = t2
  have c2 : Bytes t2.2.1 := by rw [← e2]; exact sf_num.bytes c1
  generalize e3 : gNum t2.2 = t3
  have c3 : Bytes t3.2.1 := by rw [← e3]; exact sf_num.bytes c2
  generalize e4 : gRes t3.2 = t4
  have c4 : Bytes t4.2.1 := by
    obtain ⟨n, e⟩ := sf_res t3.2
    rw [← e4, e]; exact fun x hx => c3 x (List.mem_of_mem_drop hx)
  generalize e5 : gList gNum t4.2 = t5
  have c5 : Bytes t5.2.1 := by rw [← e5]; exact (sf_list sf_num).bytes c4
  generalize e6 : gList gPair t5.2 = t6
  have c6 : Bytes t6.2.1 := by rw [← e6]; exact (sf_list sf_pair).bytes c5
  generalize e7 : gList gTerm t6.2 = t7
  have c7 : Bytes t7.2.1 := by rw [← e7]; exact (sf_list sf_term).bytes c6
  generalize e8 : gList gToler t7.2 = t8
  have c8 : Bytes t8.2.1 := by rw [← e8]; exact (sf_list sf_tol).bytes c7
  generalize e9 : gName t8.2 = t9
  have c9 : Bytes t9.2.1 := by rw [← e9]; exact sf_name.bytes c8
  generalize e10 : gList gTerm t9.2 = t10
  have c10 : Bytes t10.2.1 := by rw [← e10]; exact (sf_list sf_term).bytes c9
  generalize e11 : gNum t10.2 = t11
  have c11 : Bytes t11.2.1 := by rw [← e11]; exact sf_num.bytes c10
  generalize e12 : gList gTerm t11.2 = t12
  have c12 : Bytes t12.2.1 := by rw [← e12]; exact (sf_list sf_term).bytes c11
  generalize e13 : gName t12.2 = t13
  have c13 : Bytes t13.2.1 := by rw [← e13]; exact sf_name.bytes c12
  exact ⟨_, c13, rfl⟩
/-- Bytes of which there is a pod are that pod's. -/
theorem pod_inv {l : List Int} (hb : Bytes l) {q : PodD} (h : getPodR l = some q) : podB q = true ∧ q.term < 9223372036854775808 ∧ l = vI (podBytes q) := by
  unfold getPodR at h
  split at h
  · next hc =>
    simp only [Option.some.injEq] at h
    subst h
    simp only [Bool.and_eq_true, Bool.not_eq_true', decide_eq_true_eq] at hc
    obtain ⟨⟨h1, h2⟩, h3⟩ := hc
    have hbo : Bytes (gOpen 1 l).1 := by
      unfold gOpen
      split
      · exact sf_num.bytes (st := (l, false)) hb
      · exact sf_num.bytes (st := (l, false)) hb
    have ht : (gPod (gOpen 1 l)).1.term < 9223372036854775808 := by
      obtain ⟨s, hs, e⟩ := gPod_term (gOpen 1 l) hbo
      rw [e]
      exact gNum_lt hs
    obtain ⟨k, b⟩ := iv_pod (gOpen 1 l) hbo h1 h3 ht
    have o := (iv_open (kind := 1) (by decide) hb k).1
    refine ⟨h3, ht, ?_⟩
    rw [List.eq_nil_of_length_eq_zero h2, List.append_nil] at b
    rw [← b]
    exact o
  · cases h
end Go.Proofs.YtaleceobkbgcnaaGreat
