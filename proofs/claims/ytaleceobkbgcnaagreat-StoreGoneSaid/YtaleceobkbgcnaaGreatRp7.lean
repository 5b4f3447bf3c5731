/-
  How answers are read: Get. No conditions beyond what is written in each statement.
-/
import Derived.Test.YtaleceobkbgcnaaGreatRp6
import Derived.Test.YtaleceobkbgcnaaGreatRp5
set_option linter.unusedSimpArgs false
set_option linter.unusedVariables false
namespace Go.Proofs.YtaleceobkbgcnaaGreat.Rp
open Go.RowKit

theorem AtN_of {w : World} {N : Nat} {a : Option Addr} {cap : Nat} {l : List EntH} (h : w.ownsRow N 75 3 (.slice a l.length cap) l.length (l.flatMap cellsN)) (hv : ∀ x ∈ l, ownN w N x) : AtN w a (l.map (·.1)) := by
  refine ⟨by simpa using owned_le h, fun i hi => ?_⟩
  have hi : i < l.length := by simpa using hi
  obtain ⟨b, rfl, hb, hc0⟩ := owned_cells h (j := 0) hi (by omega)
  obtain ⟨b1, hb1, _, hc1⟩ := owned_cells h (j := 1) hi (by omega)
  obtain ⟨b2, hb2, _, hc2⟩ := owned_cells h (j := 2) hi (by omega)
  simp at hb1
  subst hb1
  simp at hb2
  subst hb2
  have hg : (l.map (·.1)).getD i e0 = (l.getD i (e0, none, 0)).1 := by simp [List.getD_eq_getElem?_getD, List.getElem?_eq_getElem hi]
  have hmem : l.getD i (e0, none, 0) ∈ l := getD_mem hi
  rw [hg]
  obtain ⟨q1, q2, q3, q4⟩ := ValOwn.at (hv _ hmem)
  refine ⟨_, 0, (l.getD i (e0, none, 0)).2.1, (l.getD i (e0, none, 0)).2.2, rfl, hb, ?_, ?_, ?_, q1, q2, q3, q4⟩
  · rw [show 0 + i * 3 = 0 + i * 3 + 0 by omega]
    exact hc0.trans (flat_at (f := cellsN) (sz := 3) (j := 0) (l := l) (d := (e0, none, 0)) (fun _ => rfl) hi (by decide))
  · exact hc1.trans (flat_at (f := cellsN) (sz := 3) (j := 1) (l := l) (d := (e0, none, 0)) (fun _ => rfl) hi (by decide))
  · exact hc2.trans (flat_at (f := cellsN) (sz := 3) (j := 2) (l := l) (d := (e0, none, 0)) (fun _ => rfl) hi (by decide))
theorem AtV_of {w : World} {N : Nat} {a : Option Addr} {cap : Nat} {l : List EvH} (h : w.ownsRow N 30 4 (.slice a l.length cap) l.length (l.flatMap cellsV)) (hv : ∀ x ∈ l, ownV w N x) : AtE w a (l.map (·.1)) := by
  refine ⟨by simpa using owned_le h, fun i hi => ?_⟩
  have hi : i < l.length := by simpa using hi
  obtain ⟨b, rfl, hb, hc0⟩ := owned_cells h (j := 0) hi (by omega)
  obtain ⟨b1, hb1, _, hc1⟩ := owned_cells h (j := 1) hi (by omega)
  obtain ⟨b2, hb2, _, hc2⟩ := owned_cells h (j := 2) hi (by omega)
  obtain ⟨b3, hb3, _, hc3⟩ := owned_cells h (j := 3) hi (by omega)
  simp at hb1
  subst hb1
  simp at hb2
  subst hb2
  simp at hb3
  subst hb3
  have hg : (l.map (·.1)).getD i v0 = (l.getD i (v0, none, 0)).1 := by simp [List.getD_eq_getElem?_getD, List.getElem?_eq_getElem hi]
  have hmem : l.getD i (v0, none, 0) ∈ l := getD_mem hi
  rw [hg]
  obtain ⟨q1, q2, q3, q4⟩ := ValOwn.at (hv _ hmem)
  refine ⟨_, 0, (l.getD i (v0, none, 0)).2.1, (l.getD i (v0, none, 0)).2.2, rfl, hb, ?_, ?_, ?_, ?_, q1, q2, q3, q4⟩
  · rw [show 0 + i * 4 = 0 + i * 4 + 0 by omega]
    exact hc0.trans (flat_at (f := cellsV) (sz := 4) (j := 0) (l := l) (d := (v0, none, 0)) (fun _ => rfl) hi (by decide))
  · exact hc1.trans (flat_at (f := cellsV) (sz := 4) (j := 1) (l := l) (d := (v0, none, 0)) (fun _ => rfl) hi (by decide))
  · exact hc2.trans (flat_at (f := cellsV) (sz := 4) (j := 2) (l := l) (d := (v0, none, 0)) (fun _ => rfl) hi (by decide))
  · exact hc3.trans (flat_at (f := cellsV) (sz := 4) (j := 3) (l := l) (d := (v0, none, 0)) (fun _ => rfl) hi (by decide))
/-- An answer whose lists lie in memory that began at block N. -/
def AnsOwn (w : World) (N : Nat) (x : AnsD) (h : AnsH) : Prop :=
  (∃ l : List EntH, l.map (·.1) = x.es ∧ w.ownsRow N 75 3 (.slice h.ea x.es.length h.ec) x.es.length (l.flatMap cellsN) ∧ ∀ y ∈ l, ownN w N y) ∧ ∃ l : List EvH, l.map (·.1) = x.vs ∧ w.ownsRow N 30 4 (.slice h.va x.vs.length h.vc) x.vs.length (l.flatMap cellsV) ∧ ∀ y ∈ l, ownV w N y
theorem AnsOwn.at {w : World} {N : Nat} {x : AnsD} {h : AnsH} (ho : AnsOwn w N x h) : AnsAt w x h := by
  obtain ⟨⟨l, e, h2, h3⟩, m, f, k2, k3⟩ := ho
  have hl : x.es.length = l.length := by rw [← e, List.length_map]
  have hm : x.vs.length = m.length := by rw [← f, List.length_map]
  rw [hl] at h2
  rw [hm] at k2
  exact ⟨by rw [← e]; exact AtN_of h2 h3, by rw [← f]; exact AtV_of k2 k3⟩
theorem AnsOwn.keep {w w' : World} {N : Nat} {x : AnsD} {h : AnsH} {R : Nat} (ho : AnsOwn w N x h) (hg : w.grownBy w' (some R)) (hR : R < N) : AnsOwn w' N x h := by
  obtain ⟨⟨l, e, h2, h3⟩, m, f, k2, k3⟩ := ho
  exact ⟨⟨l, e, h2.kept hg (Or.inr (fun e => by have := (h2.lt R e).1; omega)), fun y hy => val_grown (h3 y hy) hg hR⟩, m, f, k2.kept hg (Or.inr (fun e => by have := (k2.lt R e).1; omega)), fun y hy => val_grown (k3 y hy) hg hR⟩
theorem AnsOwn.mono {w : World} {N N' : Nat} {x : AnsD} {h : AnsH} (ho : AnsOwn w N x h) (hN : N' ≤ N) : AnsOwn w N' x h := by
  obtain ⟨⟨l, e, h2, h3⟩, m, f, k2, k3⟩ := ho
  exact ⟨⟨l, e, World.ownsRow.mono h2 hN, fun y hy => ValOwn.mono (h3 y hy) hN⟩, m, f, World.ownsRow.mono k2 hN, fun y hy => ValOwn.mono (k3 y hy) hN⟩
theorem AnsOwn.below {w w' : World} {N : Nat} {x : AnsD} {h : AnsH} (ho : AnsOwn w N x h) (hb : Below w.heap.size w w') : AnsOwn w' N x h := by
  obtain ⟨⟨l, e, h2, h3⟩, m, f, k2, k3⟩ := ho
  exact ⟨⟨l, e, own_below h2 hb, fun y hy => ⟨own_below (h3 y hy).1 hb, (h3 y hy).2⟩⟩, m, f, own_below k2 hb, fun y hy => ⟨own_below (k3 y hy).1 hb, (k3 y hy).2⟩⟩
def x0D : AnsD := ⟨0, 0, 0, 0, 0, [], []⟩
def x0H : AnsH := ⟨none, 0, none, 0⟩
abbrev zeroA : Array Value := #[.int .i64 0, .int .i64 0, .int .i64 0, .int .i64 0, .int .i64 0, .slice none 0 0, .slice none 0 0]
/-- What the bytes say, and what is left of them. -/
def tAns (l : List Int) : AnsD × (List Int × Bool) :=
  let t := tNum (l, false)
  let i := tNum t.2
  let k := tNum i.2
  let r := tNum k.2
  let v := tNum r.2
  let e := tList tEntry 100 v.2
  let w := tList tEvent 100 e.2
  (⟨t.1, i.1, k.1, r.1, v.1, e.1, w.1⟩, w.2)
/-- The answer of which just these are the bytes. -/
def ansOf (l : List Int) : Option AnsD := if (!(tAns l).2.2 && decide ((tAns l).2.1.length = 0)) && ansB (tAns l).1 then some (tAns l).1 else none
/-- What Get tells: an answer of its own, or zero and false. -/
def AnsGot (w : World) (r : Option AnsD) (e : Ending) (w' : World) : Prop :=
  (∃ x h, r = some x ∧ e = .returned (.tuple #[ansV x h, .bool true]) ∧ AnsOwn w' w.heap.size x h ∧ Below w.heap.size w w') ∨ (r = none ∧ e = .returned (.tuple #[ansV x0D x0H, .bool false]) ∧ Below w.heap.size w w')
/-- The result's block, the reader, the answer that is being read. -/
structure GA (w wr : World) (st : List Int × Bool) (cs : Array Value) : Prop where
  bel : Below w.heap.size w wr
  size : w.heap.size + 3 ≤ wr.heap.size
  rd : RdC (w.alloc (.cells zeroA 111)) wr (w.heap.size + 1) st
  a : wr.heap[w.heap.size]? = some (.cells zeroA 111)
  b : wr.heap[w.heap.size + 2]? = some (.cells cs 111)
theorem GA.get {w wr w2 : World} {st st2 : List Int × Bool} {cs : Array Value} (h : GA w wr st cs) (hg : wr.grownBy w2 (some (w.heap.size + 1))) (hr : RdC (w.alloc (.cells zeroA 111)) w2 (w.heap.size + 1) st2) : GA w w2 st2 cs where
  bel := h.bel.grown (row := some (w.heap.size + 1)) hg h.bel.size (fun k hk => by cases hk; omega)
  size := Nat.le_trans h.size hg.size
  rd := hr
  a := (hg.block _ (by have := h.size; omega) (by simp)).trans h.a
  b := (hg.block _ (by have := h.size; omega) (by simp)).trans h.b
theorem GA.set {w wr : World} {st : List Int × Bool} {cs : Array Value} (h : GA w wr st cs) (j : Nat) (v : Value) : GA w (wr.setCell ⟨w.heap.size + 2, j, none⟩ v) st (cs.setIfInBounds j v) where
  bel := h.bel.setCell (by show _ ≤ w.heap.size + 2; omega) v
  size := by simpa [World.setCell] using h.size
  rd := h.rd.set (by omega)
  a := (Below.heap_setCell _ _ _ _ (by show w.heap.size ≠ w.heap.size + 2; omega)).trans h.a
  b := obj_setN h.b rfl
theorem ga_start {w : World} {a : Option Addr} {l : List Int} {cap : Nat} (hat : AtB w a l) (h1 : l.length ≤ cap) (h2 : cap ≤ maxLen) (hno : a = none → cap = 0) :
    GA w (((w.alloc (.cells zeroA 111)).alloc (.cells #[.slice a l.length cap, .bool false] 171)).alloc (.cells zeroA 111)) (l, false) zeroA where
  bel := (((Below.refl _ _).alloc (Nat.le_refl _) _).alloc (by simp) _).alloc (by simp; omega) _
  size := by simp
  rd := ⟨by simp, ((Below.refl _ _).alloc (Nat.le_refl _) _).alloc (by simp) _, a, cap, by
    rw [Below.heap_alloc _ _ _ (by simp)]
    have := heap_alloc_self (w.alloc (.cells zeroA 111)) (.cells #[.slice a l.length cap, .bool false] 171)
    simpa using this, h1, h2, hat.below' ((Below.refl _ _).alloc (Nat.le_refl _) _), hno⟩
  a := by rw [Below.heap_alloc _ _ _ (by simp; omega), Below.heap_alloc _ _ _ (by simp)]; exact heap_alloc_self _ _
  b := by
    have := heap_alloc_self ((w.alloc (.cells zeroA 111)).alloc (.cells #[.slice a l.length cap, .bool false] 171)) (.cells zeroA 111)
    simpa using this
theorem byt_num {s : List Int × Bool} (h : Byt s) : Byt (tNum s).2 := h.rest (rest_num s)
set_option maxRecDepth 100000 in
set_option maxHeartbeats 4000000 in
theorem ansGet_any (a : Option Addr) (l : List Int) (cap : Nat) (w : World) (hat : AtB w a l) (h1 : l.length ≤ cap) (h2 : cap ≤ maxLen) (hno : a = none → cap = 0) (hB : Byt (l, false)) :
    Calls Tryz.prog 60 #[.slice a l.length cap] w (AnsGot w (ansOf l)) := by
  have H := Lib.hid (ga_start hat h1 h2 hno)
  have HT : Hid (tAns l = (⟨(tNum (l, false)).1, (tNum (tNum (l, false)).2).1, (tNum (tNum (tNum (l, false)).2).2).1, (tNum (tNum (tNum (tNum (l, false)).2).2).2).1, (tNum (tNum (tNum (tNum (tNum (l, false)).2).2).2).2).1, (tList tEntry 100 (tNum (tNum (tNum (tNum (tNum (l, false)).2).2).2).2).2).1, (tList tEvent 100 (tList tEntry 100 (tNum (tNum (tNum (tNum (tNum (l, false)).2).2).2).2).2).2).1⟩, (tList tEvent 100 (tList tEntry 100 (tNum (tNum (tNum (tNum (tNum (l, false)).2).2).2).2).2).2).2)) := rfl
  have HB : Hid (Byt (tNum (tNum (tNum (tNum (tNum (l, false)).2).2).2).2).2 ∧ Byt (tList tEntry 100 (tNum (tNum (tNum (tNum (tNum (l, false)).2).2).2).2).2).2) := by
    have b5 := byt_num (byt_num (byt_num (byt_num (byt_num hB))))
    exact ⟨b5, b5.rest (rest_list rest_entry 100 _)⟩
  have HC : Hid (ansOf l = if (!(tAns l).2.2 && decide ((tAns l).2.1.length = 0)) && ansB (tAns l).1 then some (tAns l).1 else none) := rfl
  clear hat h1 h2 hno hB
  go_enter Tryz.func60, Tryz.ntmps60
  go_wp2_with fail
  try clear cB fB
  refine (num_any (w.heap.size + 1) (l, false) (w.alloc (.cells zeroA 111)) _ H.out.rd).mono ?_
  rintro e w1 ⟨rfl, hr, hg⟩
  have S := H.out.get hg hr
  clear H hr hg
  generalize tNum (l, false) = y at *
  obtain ⟨x1, s1⟩ := y
  dsimp only at *
  have cB := cell_of_obj S.b 0
  have fB := free_of_obj S.b 0
  simp at cB
  have S2 := S.set 0 (.int .i64 x1)
  simp at S2
  have H := Lib.hid S2
  clear S S2
  go_wp2_with fail
  try clear cB fB
  refine (num_any (w.heap.size + 1) s1 (w.alloc (.cells zeroA 111)) _ H.out.rd).mono ?_
  rintro e w2 ⟨rfl, hr, hg⟩
  have S := H.out.get hg hr
  clear H hr hg
  generalize tNum s1 = y at *
  obtain ⟨x2, s2⟩ := y
  dsimp only at *
  have cB := cell_of_obj S.b 1
  have fB := free_of_obj S.b 1
  simp at cB
  have S2 := S.set 1 (.int .i64 x2)
  simp at S2
  have H := Lib.hid S2
  clear S S2
  go_wp2_with fail
  try clear cB fB
  refine (num_any (w.heap.size + 1) s2 (w.alloc (.cells zeroA 111)) _ H.out.rd).mono ?_
  rintro e w3 ⟨rfl, hr, hg⟩
  have S := H.out.get hg hr
  clear H hr hg
  generalize tNum s2 = y at *
  obtain ⟨x3, s3⟩ := y
  dsimp only at *
  have cB := cell_of_obj S.b 2
  have fB := free_of_obj S.b 2
  simp at cB
  have S2 := S.set 2 (.int .i64 x3)
  simp at S2
  have H := Lib.hid S2
  clear S S2
  go_wp2_with fail
  try clear cB fB
  refine (num_any (w.heap.size + 1) s3 (w.alloc (.cells zeroA 111)) _ H.out.rd).mono ?_
  rintro e w4 ⟨rfl, hr, hg⟩
  have S := H.out.get hg hr
  clear H hr hg
  generalize tNum s3 = y at *
  obtain ⟨x4, s4⟩ := y
  dsimp only at *
  have cB := cell_of_obj S.b 3
  have fB := free_of_obj S.b 3
  simp at cB
  have S2 := S.set 3 (.int .i64 x4)
  simp at S2
  have H := Lib.hid S2
  clear S S2
  go_wp2_with fail
  try clear cB fB
  refine (num_any (w.heap.size + 1) s4 (w.alloc (.cells zeroA 111)) _ H.out.rd).mono ?_
  rintro e w5 ⟨rfl, hr, hg⟩
  have S := H.out.get hg hr
  clear H hr hg
  generalize tNum s4 = y at *
  obtain ⟨x5, s5⟩ := y
  dsimp only at *
  have cB := cell_of_obj S.b 4
  have fB := free_of_obj S.b 4
  simp at cB
  have S2 := S.set 4 (.int .i64 x5)
  simp at S2
  have H := Lib.hid S2
  clear S S2
  go_wp2_with fail
  clear cB fB
  refine (getEntries_any (w.heap.size + 1) s5 (w.alloc (.cells zeroA 111)) _ H.out.rd HB.out.1).mono ?_
  rintro e w6 ⟨v6, l6, rfl, hm6, ho6, hv6, hr, hg⟩
  obtain ⟨ga, gc, rfl⟩ := owns_form ho6
  have S := H.out.get hg hr
  have hz := H.out.size
  have hz' : w.heap.size + 3 ≤ (w5.setCell ⟨w.heap.size + 2, 4, none⟩ (.int .i64 x5)).heap.size := by simpa [World.setCell] using hz
  have hl6 : l6.length = (tList tEntry 100 s5).1.length := by rw [← hm6, List.length_map]
  rw [hl6] at ho6
  rw [hl6]
  have HG := Lib.hid (show ∃ l : List EntH, l.map (fun x : EntH => x.1) = (tList tEntry 100 s5).1 ∧ w6.ownsRow (w.heap.size + 3) 75 3 (.slice ga (tList tEntry 100 s5).1.length gc) (tList tEntry 100 s5).1.length (l.flatMap cellsN) ∧ ∀ y ∈ l, ownN w6 (w.heap.size + 3) y from ⟨l6, hm6, World.ownsRow.mono ho6 hz', fun y hy => ValOwn.mono (hv6 y hy) hz'⟩)
  clear H hr hg ho6 hz hz' hv6 hm6 hl6
  generalize tList tEntry 100 s5 = y at *
  obtain ⟨x6, s6⟩ := y
  dsimp only at *
  have cB := cell_of_obj S.b 5
  have fB := free_of_obj S.b 5
  simp at cB
  have S2 := S.set 5 (.slice ga x6.length gc)
  simp at S2
  have H := Lib.hid S2
  clear S S2
  go_wp2_with fail
  clear cB fB
  refine (getEvents_any (w.heap.size + 1) s6 (w.alloc (.cells zeroA 111)) _ H.out.rd HB.out.2).mono ?_
  rintro e w7 ⟨v7, l7, rfl, hm7, ho7, hv7, hr, hg⟩
  obtain ⟨wa, wc, rfl⟩ := owns_form ho7
  have S := H.out.get hg hr
  have hz := H.out.size
  have hz' : w.heap.size + 3 ≤ (w6.setCell ⟨w.heap.size + 2, 5, none⟩ (.slice ga x6.length gc)).heap.size := by simpa [World.setCell] using hz
  have hG3 : ∃ l : List EntH, l.map (fun x : EntH => x.1) = x6 ∧ w7.ownsRow (w.heap.size + 3) 75 3 (.slice ga x6.length gc) x6.length (l.flatMap cellsN) ∧ ∀ y ∈ l, ownN w7 (w.heap.size + 3) y := by
    obtain ⟨l, e, h2, h3⟩ := HG.out
    have g1 := h2.kept (grown_set w6 (w.heap.size + 2) 5 (.slice ga x6.length gc)) (Or.inr (fun e => by have := (h2.lt _ e).1; omega))
    exact ⟨l, e, g1.kept hg (Or.inr (fun e => by have := (g1.lt _ e).1; omega)), fun y hy => val_grown (val_grown (h3 y hy) (grown_set w6 (w.heap.size + 2) 5 (.slice ga x6.length gc)) (by omega)) hg (by omega)⟩
  have hl7 : l7.length = (tList tEvent 100 s6).1.length := by rw [← hm7, List.length_map]
  rw [hl7] at ho7
  rw [hl7]
  have hO : AnsOwn w7 (w.heap.size + 3) ⟨x1, x2, x3, x4, x5, x6, (tList tEvent 100 s6).1⟩ ⟨ga, gc, wa, wc⟩ := ⟨hG3, l7, hm7, World.ownsRow.mono ho7 hz', fun y hy => ValOwn.mono (hv7 y hy) hz'⟩
  have HO := Lib.hid hO
  clear H hr hg ho7 hz hz' hv7 hG3 HG hm7 hl7 hO
  generalize tList tEvent 100 s6 = y at *
  obtain ⟨x7, s7⟩ := y
  dsimp only at *
  have cB := cell_of_obj S.b 6
  have fB := free_of_obj S.b 6
  simp at cB
  have S2 := S.set 6 (.slice wa x7.length wc)
  simp at S2
  have H := Lib.hid S2
  clear S S2
  go_wp2_with fail
  clear cB fB
  refine (callWhole_any (w.heap.size + 1) s7 (w.alloc (.cells zeroA 111)) _ H.out.rd).mono ?_
  rintro e w8 ⟨rfl, rfl⟩
  have HO2 := Lib.hid (HO.out.keep (grown_set w7 (w.heap.size + 2) 6 (.slice wa x7.length wc)) (by omega))
  clear HO HB
  have HC2 : Hid (ansOf l = if (!s7.2 && decide (s7.1.length = 0)) && ansB ⟨x1, x2, x3, x4, x5, x6, x7⟩ then some ⟨x1, x2, x3, x4, x5, x6, x7⟩ else none) := by
    show _ = _
    rw [HC.out, HT.out]
  clear HC HT
  generalize (w7.setCell ⟨w.heap.size + 2, 6, none⟩ (.slice wa x7.length wc)) = W at *
  cases hw : (!s7.2 && decide (s7.1.length = 0))
  · rw [hw] at HC2
    go_wp2_with (refine wpList_store_rowTo rfl 111 (.tmp 2) (.tmp 38) rfl rfl w.heap.size zeroA rfl rfl 111 zeroA H.out.a (by kernel_rfl) rfl (by kernel_rfl) ?_)
    refine bodyPost_ret (v := .tuple #[.agg zeroA, .bool false]) (results_row2 Tryz.results60 _ _ w.heap.size 111 zeroA (0, 0) _ rfl (setRow_heap _ _ _ _ _ _ H.out.a) Tryz.underlying111 rfl (by kernel_rfl)) rfl ?_
    exact Or.inr ⟨HC2.out, rfl, Below.setRow H.out.bel (Nat.le_refl _) _⟩
  · rw [hw] at HC2
    have cB := fun j => cell_of_obj H.out.b j
    go_wp2_with fail
    clear cB
    refine (ansMay_any ⟨x1, x2, x3, x4, x5, x6, x7⟩ ⟨ga, gc, wa, wc⟩ _ HO2.out.at).mono ?_
    rintro e wc' ⟨rfl, hbc⟩
    have hz := H.out.size
    have kA := (hbc.block _ (by omega)).trans H.out.a
    have kB := (hbc.block _ (by omega)).trans H.out.b
    have HK := Lib.hid (And.intro (HO2.out.below hbc) (And.intro (H.out.bel.trans (hbc.mono H.out.bel.size)) (And.intro kA kB)))
    clear H HO2 hbc kA kB
    cases hm : ansB ⟨x1, x2, x3, x4, x5, x6, x7⟩
    · rw [hm] at HC2
      go_wp2_with (refine wpList_store_rowTo rfl 111 (.tmp 2) (.tmp 38) rfl rfl w.heap.size zeroA rfl rfl 111 zeroA HK.out.2.2.1 (by kernel_rfl) rfl (by kernel_rfl) ?_)
      refine bodyPost_ret (v := .tuple #[.agg zeroA, .bool false]) (results_row2 Tryz.results60 _ _ w.heap.size 111 zeroA (0, 0) _ rfl (setRow_heap _ _ _ _ _ _ HK.out.2.2.1) Tryz.underlying111 rfl (by kernel_rfl)) rfl ?_
      exact Or.inr ⟨HC2.out, rfl, Below.setRow HK.out.2.1 (Nat.le_refl _) _⟩
    · rw [hm] at HC2
      go_wp2_with (first | (refine wpList_load_row rfl 111 (.tmp 5) rfl (w.heap.size + 2) rfl 111 _ (0, 0) _ HK.out.2.2.2 Tryz.underlying111 rfl (by kernel_rfl) ?_) | (refine wpList_store_rowTo rfl 111 (.tmp 2) (.tmp 39) rfl rfl w.heap.size _ rfl rfl 111 zeroA HK.out.2.2.1 (by kernel_rfl) rfl (by kernel_rfl) ?_))
      refine bodyPost_ret (v := .tuple #[ansV ⟨x1, x2, x3, x4, x5, x6, x7⟩ ⟨ga, gc, wa, wc⟩, .bool true]) (results_row2 Tryz.results60 _ _ w.heap.size 111 _ (0, 0) _ rfl (setRow_heap _ _ _ _ _ _ HK.out.2.2.1) Tryz.underlying111 rfl (by kernel_rfl)) rfl ?_
      exact Or.inl ⟨_, ⟨ga, gc, wa, wc⟩, HC2.out, rfl, (HK.out.1.keep (grown_setRow _ w.heap.size _) (by omega)).mono (by omega), Below.setRow HK.out.2.1 (Nat.le_refl _) _⟩
end Go.Proofs.YtaleceobkbgcnaaGreat.Rp
