/-
  What is written is read back: bytes of objects. No conditions beyond what is written in each statement.
-/
import Derived.Test.YtnobgmdknalpdaaBeg1
set_option linter.unusedSimpArgs false
set_option linter.unusedVariables false
namespace Go.Proofs.Ytnobgmdknalpdaa
open Go.RowKit

def vI (l : List Value) : List Int := l.map valInt
theorem vI_app (a b : List Value) : vI (a ++ b) = vI a ++ vI b := List.map_append
theorem vI_len (a : List Value) : (vI a).length = a.length := List.length_map _
theorem vI_word (x : Nat) : vI (wbytes x) = [wbyteI x 0, wbyteI x 1, wbyteI x 2, wbyteI x 3, wbyteI x 4, wbyteI x 5, wbyteI x 6, wbyteI x 7] := rfl
theorem word_back (x : Nat) (h : x < 18446744073709551616) : wordOf (vI (wbytes x)) = x := by
  rw [vI_word]
  show ((((((((0 * 256 + wbyteI x 0) * 256 + wbyteI x 1) * 256 + wbyteI x 2) * 256 + wbyteI x 3) * 256 + wbyteI x 4) * 256 + wbyteI x 5) * 256 + wbyteI x 6) * 256 + wbyteI x 7) = (x : Int)
  have e0 : wbyteI x 0 = (x : Int) / 72057594037927936 := by show (x : Int) / 72057594037927936 % 256 = _; omega
  have e1 : (x : Int) / 72057594037927936 * 256 + wbyteI x 1 = (x : Int) / 281474976710656 := by show _ + (x : Int) / 281474976710656 % 256 = _; omega
  have e2 : (x : Int) / 281474976710656 * 256 + wbyteI x 2 = (x : Int) / 1099511627776 := by show _ + (x : Int) / 1099511627776 % 256 = _; omega
  have e3 : (x : Int) / 1099511627776 * 256 + wbyteI x 3 = (x : Int) / 4294967296 := by show _ + (x : Int) / 4294967296 % 256 = _; omega
  have e4 : (x : Int) / 4294967296 * 256 + wbyteI x 4 = (x : Int) / 16777216 := by show _ + (x : Int) / 16777216 % 256 = _; omega
  have e5 : (x : Int) / 16777216 * 256 + wbyteI x 5 = (x : Int) / 65536 := by show _ + (x : Int) / 65536 % 256 = _; omega
  have e6 : (x : Int) / 65536 * 256 + wbyteI x 6 = (x : Int) / 256 := by show _ + (x : Int) / 256 % 256 = _; omega
  have e7 : (x : Int) / 256 * 256 + wbyteI x 7 = (x : Int) := by show _ + (x : Int) / 1 % 256 = _; omega
  rw [Int.zero_mul, Int.zero_add, e0, e1, e2, e3, e4, e5, e6, e7]
theorem gWord_back (x : Nat) (h : x < 18446744073709551616) (r : List Int) (b : Bool) : gWord (vI (wbytes x) ++ r, b) = ((x : Int), (r, b)) := by
  have hl : (vI (wbytes x)).length = 8 := by rw [vI_len, wbytes_len]
  unfold gWord
  rw [if_neg (by simp only [List.length_append, hl]; omega), List.take_left' hl, List.drop_left' hl, word_back x h]

/-- What is written so is read so. -/
def Rt {α : Type} (get : RS → α × RS) (enc : α → List Value) (x : α) : Prop := ∀ r b, get (vI (enc x) ++ r, b) = (x, (r, b))
theorem rt_num {x : Int} (h : okInt x) : Rt gNum ibytes x := fun r b => by
  obtain ⟨h0, h1⟩ := h
  unfold gNum ibytes
  rw [gWord_back x.toNat (by omega)]
  show (toI _, _) = _
  unfold toI
  rw [if_pos (by omega), Int.toNat_of_nonneg h0]
theorem rt_flag (x : Bool) : Rt gFlag fbytes x := fun r b => by
  unfold gFlag
  cases x
  · have g := gWord_back 0 (by decide) r b
    show (if (gWord (vI (wbytes 0) ++ r, b)).1 = 0 then _ else _) = _
    rw [g]; rfl
  · have g := gWord_back 1 (by decide) r b
    show (if (gWord (vI (wbytes 1) ++ r, b)).1 = 0 then _ else if (gWord (vI (wbytes 1) ++ r, b)).1 = 1 then _ else _) = _
    rw [g]; rfl

set_option maxRecDepth 100000 in
theorem letter_digit : ∀ c : Fin 256, nameByte c.1 = true → 1 ≤ digitN c.1 ∧ digitN c.1 ≤ 37 ∧ lettersL.getD (digitN c.1 - 1) 0 = (c.1 : Int) := by decide
theorem numL_concat (l : List UInt8) (c : UInt8) : numL (l ++ [c]) = numL l * 37 + digitN c.toNat := by
  unfold numL
  rw [List.foldl_append]; rfl
theorem name_back : ∀ (k : Nat) (l : List UInt8), l.length ≤ k → allName l = true → nameN k (numL l) = l.map fun c => (c.toNat : Int) := by
  intro k
  induction k with
  | zero =>
    intro l hl _
    obtain rfl : l = [] := List.eq_nil_of_length_eq_zero (by omega)
    rfl
  | succ k ih =>
    intro l hl ha
    rcases List.eq_nil_or_concat l with rfl | ⟨r, c, rfl⟩
    · exact nameN_zero _
    · rw [List.concat_eq_append] at *
      have hc : nameByte c.toNat = true := by unfold allName at ha; rw [List.all_append] at ha; simp at ha; exact ha.2
      have hr : allName r = true := by unfold allName at *; rw [List.all_append] at ha; simp at ha ⊢; exact ha.1
      obtain ⟨d1, d2, d3⟩ := letter_digit ⟨c.toNat, c.toNat_lt⟩ hc
      simp only at d1 d2 d3
      rw [numL_concat, nameN_succ _ _ (by omega), List.map_append]
      have e : (((numL r * 37 + digitN c.toNat : Nat) : Int) - 1) / 37 = (numL r : Int) := by omega
      have e2 : ((((numL r * 37 + digitN c.toNat : Nat) : Int) - 1) % 37).toNat = digitN c.toNat - 1 := by omega
      rw [e, ih r (by simp at hl; omega) hr]
      unfold letterI
      rw [e2, d3]
      rfl
theorem strOf_nat (s : ByteArray) : strOfNums (s.data.toList.map fun c => (c.toNat : Int)) = s := by
  unfold strOfNums
  rw [List.map_map]
  have : ((fun n : Int => UInt8.ofNat n.toNat) ∘ fun c : UInt8 => (c.toNat : Int)) = id := by
    funext c
    simp
  rw [this, List.map_id]
theorem rt_name {s : ByteArray} (h : okName s) : Rt gName nbytes s := fun r b => by
  have hl : s.data.toList.length ≤ 12 := by simpa using h.1
  have hn := numL_le s.data.toList hl
  unfold gName nbytes
  rw [gWord_back _ (by omega)]
  show (strOfNums (nameN 13 ((numL s.data.toList : Nat) : Int)), _) = _
  rw [name_back 13 s.data.toList (by omega) h.2, strOf_nat]
theorem rt_pair {x : Str2} (h : okPair x) : Rt gPair pbytes x := fun r b => by
  unfold gPair pbytes
  rw [vI_app, List.append_assoc, rt_name h.1]
  simp only [rt_name h.2 r b]
theorem rt_tol {t : Tol} (h : okTol t) : Rt gToler tbytes t := fun r b => by
  unfold gToler tbytes
  rw [vI_app, vI_app, List.append_assoc, List.append_assoc, rt_name h.1]
  simp only [rt_name h.2 _ b, rt_flag t.2.2 r b]
theorem rt_many {α : Type} {get : RS → α × RS} {enc : α → List Value} : ∀ (l : List α), (∀ x ∈ l, Rt get enc x) → ∀ r b, gMany get l.length (vI (l.flatMap enc) ++ r, b) = (l, (r, b)) := by
  intro l
  induction l with
  | nil => intro _ r b; rfl
  | cons x t ih =>
    intro h r b
    rw [List.flatMap_cons, vI_app, List.append_assoc, List.length_cons]
    unfold gMany
    rw [h x (by simp), ih (fun y hy => h y (by simp [hy]))]
theorem rt_list {α : Type} {get : RS → α × RS} {enc : α → List Value} {l : List α} (h : ∀ x ∈ l, Rt get enc x) (hl : l.length ≤ 6) : Rt (gList get) (lbytes enc) l := fun r b => by
  unfold gList lbytes
  rw [vI_app, List.append_assoc, gWord_back _ (by omega)]
  show (if 6 < ((l.length : Nat) : Int) then _ else _) = _
  rw [if_neg (by omega)]
  exact rt_many l h r b
theorem rt_term {t : Trm} (h : okTrm t) (hv : t.vals.length ≤ 6) : Rt gTerm rbytes t := fun r b => by
  obtain ⟨h1, h2, _, h3⟩ := h
  have a := rt_name h1
  have c := rt_num h2
  have d := rt_list (enc := nbytes) (fun v hv => rt_name (h3 v hv)) hv
  unfold gTerm rbytes
  unfold ibytes Rt at c
  rw [vI_app, vI_app, List.append_assoc, List.append_assoc, a]
  simp only [c, d r b]
theorem rt_res {x y z : Int} (h1 : okInt x) (h2 : okInt y) (h3 : okInt z) (r : List Int) (b : Bool) : gRes (vI (resBytes x y z) ++ r, b) = ((x, y, z), (r, b)) := by
  have a := rt_num h1
  have c := rt_num h2
  have d := rt_num h3
  unfold ibytes Rt at a c d
  unfold gRes resBytes
  rw [vI_app, vI_app, List.append_assoc, List.append_assoc, a]
  simp only [c, d]
theorem gOpen_back (kind : Nat) (hk : kind < 9223372036854775808) (r : List Int) : gOpen (kind : Int) (vI (wbytes kind) ++ r) = (r, false) := by
  have a := rt_num (x := (kind : Int)) ⟨by omega, by omega⟩ r false
  unfold ibytes at a
  rw [Int.toNat_natCast] at a
  unfold gOpen
  rw [a]
  simp
theorem pod_back {p : PodD} (h : podB p = true) (ht : p.term < 9223372036854775808) : getPodR (vI (podBytes p)) = some p := by
  obtain ⟨h1, h2, h3, h4, h5, h6, h7, h8, h9, h10, h11, h12⟩ := podB_parts h
  obtain ⟨s1, s2, s3, s4, s5⟩ := spreadB_ok h11
  obtain ⟨q1, q2⟩ := placeB_ok h12
  obtain ⟨a1, a2, a3⟩ := withinB_ok h6 (by decide)
  have n1 := rt_name (okName_of h1)
  have n2 := rt_name s5
  have n3 := rt_name q1
  have u := rt_num (x := p.uid) ⟨by omega, by omega⟩
  have v := rt_num (x := p.prio) ⟨by omega, by omega⟩
  have sk := rt_num (x := p.skew) ⟨by omega, by omega⟩
  have te := rt_num (x := p.term) ⟨q2, ht⟩
  unfold ibytes Rt at u v sk te
  have lp := rt_list (enc := ibytes) (fun x hx => rt_num ((portsB_ok h7).2 x hx)) (portsB_ok h7).1
  have ll := rt_list (enc := pbytes) (fun x hx => rt_pair ((mayL_ok h8).2 x hx)) (mayL_ok h8).1
  have lt : ∀ {ts : List Trm}, mayT ts = true → Rt (gList gTerm) (lbytes rbytes) ts := fun {ts} e => rt_list (enc := rbytes) (fun x hx => rt_term ((mayT_ok e).2.1 x hx) ((mayT_ok e).2.2 x hx)) (mayT_ok e).1
  have lo := rt_list (enc := tbytes) (fun x hx => rt_tol ((mayTols_ok h10).2 x hx)) (mayTols_ok h10).1
  have l1 := lt h9
  have l2 := lt s1
  have l3 := lt s2
  have re := rt_res a1 a2 a3
  have hg : gPod (gOpen 1 (vI (podBytes p))) = (p, ([], false)) := by
    unfold podBytes
    simp only [vI_app, List.append_assoc]
    have o := gOpen_back 1 (by decide)
    rw [show ((1 : Nat) : Int) = 1 from rfl] at o
    rw [o]
    have te' := te [] false
    rw [List.append_nil] at te'
    unfold gPod
    rw [n1]
    simp only [u, v, re, lp _ _, ll _ _, l1 _ _, lo _ _, n2 _ _, l2 _ _, sk, l3 _ _, n3 _ _, te']
  unfold getPodR
  rw [hg]
  simp [h]
end Go.Proofs.Ytnobgmdknalpdaa
