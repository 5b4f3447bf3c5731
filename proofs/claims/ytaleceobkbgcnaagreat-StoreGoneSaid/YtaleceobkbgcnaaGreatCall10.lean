/-
  What is written of a call is read back, and what is read well was written so. No conditions beyond what is written in each statement.
-/
import Derived.Test.YtaleceobkbgcnaaGreatCall9
import Derived.Test.YtaleceobkbgcnaaGreatGRound
set_option linter.unusedSimpArgs false
set_option linter.unusedVariables false
namespace Go.Proofs.YtaleceobkbgcnaaGreat
open Go.RowKit

theorem ct_num {x : Int} (h0 : 0 ≤ x) (h1 : x ≤ 9223372036854775807) : Rt tNum (fun x => wbytes x.toNat) x := fun r b => by
  have hl : (vI (wbytes x.toNat)).length = 8 := by rw [vI_len, wbytes_len]
  unfold tNum
  rw [if_neg (by simp only [List.length_append, hl]; omega), List.take_left' hl, List.drop_left' hl, word_back _ (by omega), IntWalk.wrap64_in _ (by omega), Int.toNat_of_nonneg h0]
theorem ct_many {n most : Nat} (h : n ≤ most) (hm : most ≤ 1000000) (r : List Int) (b : Bool) : tMany most (vI (wbytes n) ++ r, b) = (n, (r, b)) := by
  have g := ct_num (x := (n : Int)) (by omega) (by omega) r b
  simp only [Int.toNat_natCast] at g
  unfold tMany
  rw [g, if_neg (by show ¬ ((n : Int) < 0 ∨ (most : Int) < (n : Int)); omega)]
  simp
theorem ct_flag (x : Bool) : Rt tFlag fbytes x := fun r b => by
  unfold tFlag fbytes
  rw [ct_many (by cases x <;> decide) (by decide)]
  cases x <;> rfl
theorem ct_take {l : List Int} {n : Nat} (h : l.length = n) (r : List Int) (b : Bool) : tTake n (l ++ r, b) = (l, (r, b)) := by
  unfold tTake
  rw [if_neg (by simp only [List.length_append]; omega), List.take_left' h, List.drop_left' h]
theorem vI_str (s : ByteArray) : vI (Go.Lib.strCells s) = s.data.toList.map fun c => (c.toNat : Int) := by
  unfold vI Go.Lib.strCells
  rw [List.map_map]; rfl
theorem vI_u8s (l : List Int) : vI (u8s l) = l := by
  unfold vI u8s
  rw [List.map_map]
  exact List.map_id _
theorem ct_text {s : ByteArray} {most : Nat} (h : s.size ≤ most) (hm : most ≤ 1000000) : Rt (tText most) xbytes s := fun r b => by
  unfold tText xbytes
  rw [vI_app, List.append_assoc, ct_many h hm]
  rw [ct_take (by rw [vI_str, List.length_map]; rfl), vI_str, strOf_nat]
theorem ct_bytes {l : List Int} {most : Nat} (h : l.length ≤ most) (hm : most ≤ 1000000) : Rt (tBytes most) vbytes l := fun r b => by
  unfold tBytes vbytes
  rw [vI_app, List.append_assoc, ct_many h hm, vI_u8s, ct_take rfl]
theorem ct_guard {g : Gd} (h : okGd g) : Rt tGuard gbytes g := fun r b => by
  obtain ⟨k, x, u⟩ := g
  obtain ⟨h1, h2, h3⟩ := h
  dsimp only at *
  have a := ct_text (s := k) (most := 20) h1 (by decide)
  have c := ct_num (x := x) h2 (by omega)
  have d := ct_flag u
  unfold Rt at a c d
  unfold tGuard gbytes
  rw [vI_app, vI_app, List.append_assoc, List.append_assoc, a, c, d]
theorem ct_write {x : Wr} (h : okWr x) : Rt tWrite qbytes x := fun r b => by
  obtain ⟨k, v, u⟩ := x
  obtain ⟨h1, h2⟩ := h
  dsimp only at *
  have a := ct_text (s := k) (most := 20) h1 (by decide)
  have c := ct_bytes (l := v) (most := 4000) h2 (by decide)
  have d := ct_flag u
  unfold Rt at a c d
  unfold tWrite qbytes
  rw [vI_app, vI_app, List.append_assoc, List.append_assoc, a, c, d]
theorem ct_loop {α : Type} {get : RS → α × RS} {enc : α → List Value} : ∀ (l : List α), (∀ x ∈ l, Rt get enc x) → ∀ r b, tLoop get l.length (vI (l.flatMap enc) ++ r, b) = (l, (r, b)) := by
  intro l
  induction l with
  | nil => intro _ r b; rfl
  | cons x t ih =>
    intro h r b
    rw [List.flatMap_cons, vI_app, List.append_assoc, List.length_cons]
    unfold tLoop
    rw [h x (by simp), ih (fun y hy => h y (by simp [hy]))]
theorem ct_list {α : Type} {get : RS → α × RS} {enc : α → List Value} {l : List α} {most : Nat} (h : ∀ x ∈ l, Rt get enc x) (hl : l.length ≤ most) (hm : most ≤ 1000000) : Rt (tList get most) (lbytes enc) l := fun r b => by
  unfold tList lbytes
  rw [vI_app, List.append_assoc, ct_many hl hm]
  exact ct_loop l h r b
/-- What is written of a call is read as it. -/
theorem call_back {c : CallD} (h : callB c = true) : callOf (vI (cbytes c)) = some c := by
  have ok := callB_ok h
  have a1 := ct_num ok.f.1 (by have := ok.f.2; omega)
  have a2 := ct_num (show 0 ≤ c.id by have := ok.i.1; omega) (by have := ok.i.2; omega)
  have a3 := ct_num (show 0 ≤ c.kind by have := ok.k.1; omega) (by have := ok.k.2; omega)
  have a4 := ct_text (s := c.key) (most := 20) ok.y (by decide)
  have a5 := ct_num ok.r.1 (by have := ok.r.2; omega)
  have a6 := ct_list (l := c.gs) (most := 20) (fun x hx => ct_guard (ok.g x hx)) ok.gn (by decide)
  have a7 := ct_list (l := c.ws) (most := 64) (fun x hx => ct_write (ok.w x hx)) ok.wn (by decide)
  unfold Rt at a1 a2 a3 a4 a5 a6 a7
  have e : tCall (vI (cbytes c)) = (c, ([], false)) := by
    unfold tCall cbytes
    simp only [vI_app, List.append_assoc]
    rw [a1, a2, a3, a4, a5, a6]
    have := a7 [] false
    rw [List.append_nil] at this
    rw [this]
  unfold callOf
  rw [e]
  dsimp only
  rw [h]; rfl

/-- What is read well was written so. -/
def Cv {α : Type} (get : RS → α × RS) (enc : α → List Value) (ok : α → Prop) : Prop := ∀ st, Bytes st.1 → (get st).2.2 = false → ok (get st).1 → st.2 = false ∧ st.1 = vI (enc (get st).1) ++ (get st).2.1
theorem Rest.bytes {s t : RS} (h : Rest s t) (hb : Bytes s.1) : Bytes t.1 := fun x hx => hb x (h.2 x hx)
theorem cv_num : Cv tNum (fun x => wbytes x.toNat) (fun x => 0 ≤ x) := fun st hb h0 h1 => by
  unfold tNum at *
  by_cases h8 : st.1.length < 8
  · rw [if_pos h8] at h0
    cases h0
  · rw [if_neg h8] at h0 h1 ⊢
    dsimp only at *
    have hl : (st.1.take 8).length = 8 := by rw [List.length_take]; omega
    have hbt : Bytes (st.1.take 8) := fun x hx => hb x (List.mem_of_mem_take hx)
    have hw := word_inv _ hbt hl
    have hr := wordOf_le _ hbt (by omega)
    refine ⟨h0, ?_⟩
    have e : wrap64 (wordOf (st.1.take 8)) = wordOf (st.1.take 8) := by
      unfold wrap64 at *
      omega
    rw [e, hw, List.take_append_drop]
theorem cv_many {most : Nat} {st : RS} (hb : Bytes st.1) (h0 : (tMany most st).2.2 = false) : st.2 = false ∧ st.1 = vI (wbytes (tMany most st).1) ++ (tMany most st).2.1 := by
  unfold tMany at *
  split at h0
  · cases h0
  · rename_i hc
    rw [if_neg hc]
    exact cv_num st hb h0 (by omega)
theorem cv_flag : Cv tFlag fbytes (fun _ => True) := fun st hb h0 _ => by
  have h1 := cv_many (most := 1) hb h0
  have h2 := many_le 1 st
  unfold tFlag fbytes
  refine ⟨h1.1, ?_⟩
  have e : (if decide ((tMany 1 st).1 = 1) = true then 1 else 0) = (tMany 1 st).1 := by
    by_cases hc : (tMany 1 st).1 = 1
    · simp [hc]
    · simp [hc]; omega
  dsimp only
  rw [e]
  exact h1.2
theorem cv_take {n : Nat} {st : RS} (h0 : (tTake n st).2.2 = false) : st.2 = false ∧ (tTake n st).1.length = n ∧ st.1 = (tTake n st).1 ++ (tTake n st).2.1 := by
  unfold tTake at *
  split at h0
  · cases h0
  · rename_i hc
    rw [if_neg hc]
    exact ⟨h0, by rw [List.length_take]; omega, (List.take_append_drop n st.1).symm⟩
theorem cv_bytes (most : Nat) : Cv (tBytes most) vbytes (fun _ => True) := fun st hb h0 _ => by
  have h1 := cv_take h0
  have h2 := cv_many hb h1.1
  refine ⟨h2.1, ?_⟩
  unfold vbytes
  have hl : (tBytes most st).1.length = (tMany most st).1 := h1.2.1
  rw [vI_app, vI_u8s, hl, List.append_assoc]
  rw [h2.2]
  congr 1
  exact h1.2.2
theorem vI_strOf {l : List Int} (hb : Bytes l) : vI (Go.Lib.strCells (strOfNums l)) = l := by
  rw [vI_str, strOfNums_data, List.map_map]
  conv => rhs; rw [← List.map_id l]
  refine List.map_congr_left fun y hy => ?_
  have := hb y hy
  simp only [Function.comp, id]
  rw [UInt8.toNat_ofNat_of_lt' (by show y.toNat < 256; omega)]
  omega
theorem cv_text (most : Nat) : Cv (tText most) xbytes (fun _ => True) := fun st hb h0 _ => by
  have h1 := cv_take h0
  have h2 := cv_many hb h1.1
  refine ⟨h2.1, ?_⟩
  have hbt : Bytes (tTake (tMany most st).1 (tMany most st).2).1 := fun x hx => hb x ((rest_many most st).2 x ((rest_take _ _).2 x hx))
  unfold xbytes tText
  dsimp only
  rw [vI_app, strOfNums_size, h1.2.1, vI_strOf hbt, List.append_assoc]
  conv => lhs; rw [h2.2]
  congr 1
  exact h1.2.2
theorem cv_guard : Cv tGuard gbytes (fun g => 0 ≤ g.2.1) := fun st hb h0 h1 => by
  have b1 := (rest_text 20 st).bytes hb
  have b2 := (rest_num (tText 20 st).2).bytes b1
  have c3 := cv_flag _ b2 h0 trivial
  have c2 := cv_num _ b1 c3.1 h1
  have c1 := cv_text 20 _ hb c2.1 trivial
  refine ⟨c1.1, ?_⟩
  unfold gbytes tGuard
  dsimp only
  rw [vI_app, vI_app, List.append_assoc, List.append_assoc]
  conv => lhs; rw [c1.2, c2.2, c3.2]
theorem cv_write : Cv tWrite qbytes (fun _ => True) := fun st hb h0 _ => by
  have b1 := (rest_text 20 st).bytes hb
  have b2 := (rest_bytes 4000 (tText 20 st).2).1.bytes b1
  have c3 := cv_flag _ b2 h0 trivial
  have c2 := cv_bytes 4000 _ b1 c3.1 trivial
  have c1 := cv_text 20 _ hb c2.1 trivial
  refine ⟨c1.1, ?_⟩
  unfold qbytes tWrite
  dsimp only
  rw [vI_app, vI_app, List.append_assoc, List.append_assoc]
  conv => lhs; rw [c1.2, c2.2, c3.2]
theorem cv_loop {α : Type} {get : RS → α × RS} {enc : α → List Value} {ok : α → Prop} (hi : Cv get enc ok) (hr : ∀ s, Rest s (get s).2) :
    ∀ (n : Nat) (st : RS), Bytes st.1 → (tLoop get n st).2.2 = false → (∀ x ∈ (tLoop get n st).1, ok x) → st.2 = false ∧ (tLoop get n st).1.length = n ∧ st.1 = vI ((tLoop get n st).1.flatMap enc) ++ (tLoop get n st).2.1
  | 0, st, _, h0, _ => ⟨h0, rfl, rfl⟩
  | n + 1, st, hb, h0, h1 => by
    unfold tLoop at h0 h1 ⊢
    dsimp only at *
    have c2 := cv_loop hi hr n (get st).2 ((hr st).bytes hb) h0 (fun x hx => h1 x (List.mem_cons_of_mem _ hx))
    have c1 := hi st hb c2.1 (h1 _ (List.mem_cons_self ..))
    refine ⟨c1.1, by rw [List.length_cons, c2.2.1], ?_⟩
    rw [List.flatMap_cons, vI_app, List.append_assoc]
    conv => lhs; rw [c1.2, c2.2.2]
theorem cv_list {α : Type} {get : RS → α × RS} {enc : α → List Value} {ok : α → Prop} (hi : Cv get enc ok) (hr : ∀ s, Rest s (get s).2) (most : Nat) : Cv (tList get most) (lbytes enc) (fun l => ∀ x ∈ l, ok x) := fun st hb h0 h1 => by
  have c2 := cv_loop hi hr _ _ ((rest_many most st).bytes hb) h0 h1
  have c1 := cv_many hb c2.1
  refine ⟨c1.1, ?_⟩
  unfold lbytes
  have hl : (tList get most st).1.length = (tMany most st).1 := c2.2.1
  rw [vI_app, hl, List.append_assoc]
  conv => lhs; rw [c1.2, c2.2.2]
  rfl
theorem Cv.at {α : Type} {get : RS → α × RS} {enc : α → List Value} {ok : α → Prop} (h : Cv get enc ok) {st : RS} {x : α} {s : RS} (e : get st = (x, s)) (hb : Bytes st.1) (h0 : s.2 = false) (h1 : ok x) : st.2 = false ∧ st.1 = vI (enc x) ++ s.1 := by
  have := h st hb
  rw [e] at this
  exact this h0 h1
theorem rest_at {α : Type} {get : RS → α × RS} {st : RS} {x : α} {s : RS} (h : Rest st (get st).2) (e : get st = (x, s)) (hb : Bytes st.1) : Bytes s.1 := by
  rw [e] at h
  exact h.bytes hb
theorem tCall_at {l : List Int} {x1 x2 x3 x5 : Int} {x4 : ByteArray} {x6 : List Gd} {x7 : List Wr} {s1 s2 s3 s4 s5 s6 s7 : RS} (e1 : tNum (l, false) = (x1, s1)) (e2 : tNum s1 = (x2, s2)) (e3 : tNum s2 = (x3, s3)) (e4 : tText 20 s3 = (x4, s4)) (e5 : tNum s4 = (x5, s5)) (e6 : tList tGuard 20 s5 = (x6, s6)) (e7 : tList tWrite 64 s6 = (x7, s7)) : tCall l = (⟨x1, x2, x3, x4, x5, x6, x7⟩, s7) := by
  unfold tCall
  simp only [e1, e2, e3, e4, e5, e6, e7]
/-- Bytes of which there is a call are its own. -/
theorem call_inv {l : List Int} (hb : Bytes l) {c : CallD} (h : callOf l = some c) : callB c = true ∧ l = vI (cbytes c) := by
  obtain ⟨x1, s1, e1⟩ : ∃ x s, tNum (l, false) = (x, s) := ⟨_, _, rfl⟩
  obtain ⟨x2, s2, e2⟩ : ∃ x s, tNum s1 = (x, s) := ⟨_, _, rfl⟩
  obtain ⟨x3, s3, e3⟩ : ∃ x s, tNum s2 = (x, s) := ⟨_, _, rfl⟩
  obtain ⟨x4, s4, e4⟩ : ∃ x s, tText 20 s3 = (x, s) := ⟨_, _, rfl⟩
  obtain ⟨x5, s5, e5⟩ : ∃ x s, tNum s4 = (x, s) := ⟨_, _, rfl⟩
  obtain ⟨x6, s6, e6⟩ : ∃ x s, tList tGuard 20 s5 = (x, s) := ⟨_, _, rfl⟩
  obtain ⟨x7, s7, e7⟩ : ∃ x s, tList tWrite 64 s6 = (x, s) := ⟨_, _, rfl⟩
  unfold callOf at h
  rw [tCall_at e1 e2 e3 e4 e5 e6 e7] at h
  dsimp only at h
  split at h
  · rename_i hc
    cases h
    simp only [Bool.and_eq_true, Bool.not_eq_true', decide_eq_true_eq] at hc
    obtain ⟨⟨h0, h1⟩, h2⟩ := hc
    refine ⟨h2, ?_⟩
    have ok := callB_ok h2
    have r1 := rest_at (rest_num _) e1 hb
    have r2 := rest_at (rest_num _) e2 r1
    have r3 := rest_at (rest_num _) e3 r2
    have r4 := rest_at (rest_text 20 _) e4 r3
    have r5 := rest_at (rest_num _) e5 r4
    have r6 := rest_at (rest_list rest_guard 20 _) e6 r5
    have i7 := (cv_list cv_write rest_write 64).at e7 r6 h0 (fun _ _ => trivial)
    have i6 := (cv_list cv_guard rest_guard 20).at e6 r5 i7.1 (fun x hx => (ok.g x hx).2.1)
    have i5 := cv_num.at e5 r4 i6.1 ok.r.1
    have i4 := (cv_text 20).at e4 r3 i5.1 trivial
    have i3 := cv_num.at e3 r2 i4.1 (by have := ok.k.1; dsimp only at this; omega)
    have i2 := cv_num.at e2 r1 i3.1 (by have := ok.i.1; dsimp only at this; omega)
    have i1 := cv_num.at e1 hb i2.1 ok.f.1
    have q7 := i7.2
    rw [List.eq_nil_of_length_eq_zero h1, List.append_nil] at q7
    unfold cbytes
    simp only [vI_app, List.append_assoc]
    have := i1.2
    rw [i2.2, i3.2, i4.2, i5.2, i6.2, q7] at this
    exact this
  · cases h
end Go.Proofs.YtaleceobkbgcnaaGreat
