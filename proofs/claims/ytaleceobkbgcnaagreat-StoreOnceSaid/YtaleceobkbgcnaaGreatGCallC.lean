/-
  How calls are read: the call as a whole. No conditions beyond what is written in each statement.
-/
import Derived.Test.YtaleceobkbgcnaaGreatGCallB
import Derived.Test.YtaleceobkbgcnaaGreatGGetC
set_option linter.unusedSimpArgs false
set_option linter.unusedVariables false
namespace Go.Proofs.YtaleceobkbgcnaaGreat
open Go.RowKit

theorem AtG_of {w : World} {N : Nat} {a : Option Addr} {cap : Nat} {l : List Gd} (h : w.ownsRow N 81 3 (.slice a l.length cap) l.length (l.flatMap cellsG)) : AtG w a l := ⟨owned_le h, fun i hi => by
  obtain ⟨b, rfl, hb, hc⟩ := owned_cells h (j := 0) hi (by omega)
  obtain ⟨b', hb', _, hd⟩ := owned_cells h (j := 1) hi (by omega)
  obtain ⟨b'', hb'', _, he⟩ := owned_cells h (j := 2) hi (by omega)
  simp at hb' hb''
  subst hb'
  subst hb''
  refine ⟨b, 0, rfl, hb, ?_, ?_, ?_⟩
  · rw [show 0 + i * 3 = 0 + i * 3 + 0 by omega]
    exact hc.trans (flat_at (f := cellsG) (sz := 3) (j := 0) (l := l) (d := g0) (fun _ => rfl) hi (by decide))
  · exact hd.trans (flat_at (f := cellsG) (sz := 3) (j := 1) (l := l) (d := g0) (fun _ => rfl) hi (by decide))
  · exact he.trans (flat_at (f := cellsG) (sz := 3) (j := 2) (l := l) (d := g0) (fun _ => rfl) hi (by decide))⟩
theorem AtW_of {w : World} {N : Nat} {a : Option Addr} {cap : Nat} {l : List WrH} (h : w.ownsRow N 73 3 (.slice a l.length cap) l.length (l.flatMap cellsW)) (hv : ∀ x ∈ l, ownW w N x) : AtW w a (l.map (·.1)) := by
  refine ⟨by simpa using owned_le h, fun i hi => ?_⟩
  have hi : i < l.length := by simpa using hi
  obtain ⟨b, rfl, hb, hc⟩ := owned_cells h (j := 0) hi (by omega)
  obtain ⟨b', hb', _, hd⟩ := owned_cells h (j := 1) hi (by omega)
  obtain ⟨b'', hb'', _, he⟩ := owned_cells h (j := 2) hi (by omega)
  simp at hb' hb''
  subst hb'
  subst hb''
  have hg : (l.map (·.1)).getD i r0 = (l.getD i (r0, none, 0)).1 := by simp [List.getD_eq_getElem?_getD, List.getElem?_eq_getElem hi]
  have hmem : l.getD i (r0, none, 0) ∈ l := getD_mem hi
  rw [hg]
  obtain ⟨v1, v2, v3, v4⟩ := ValOwn.at (hv _ hmem)
  refine ⟨b, 0, (l.getD i (r0, none, 0)).2.1, (l.getD i (r0, none, 0)).2.2, rfl, hb, ?_, ?_, ?_, v1, v2, v3, v4⟩
  · rw [show 0 + i * 3 = 0 + i * 3 + 0 by omega]
    exact hc.trans (flat_at (f := cellsW) (sz := 3) (j := 0) (l := l) (d := (r0, none, 0)) (fun _ => rfl) hi (by decide))
  · exact hd.trans (flat_at (f := cellsW) (sz := 3) (j := 1) (l := l) (d := (r0, none, 0)) (fun _ => rfl) hi (by decide))
  · exact he.trans (flat_at (f := cellsW) (sz := 3) (j := 2) (l := l) (d := (r0, none, 0)) (fun _ => rfl) hi (by decide))
/-- A call whose lists lie in memory that began at block N. -/
def CallOwn (w : World) (N : Nat) (c : CallD) (h : CallH) : Prop :=
  w.ownsRow N 81 3 (.slice h.ga c.gs.length h.gc) c.gs.length (c.gs.flatMap cellsG) ∧ ∃ l : List WrH, l.map (·.1) = c.ws ∧ w.ownsRow N 73 3 (.slice h.wa c.ws.length h.wc) c.ws.length (l.flatMap cellsW) ∧ ∀ x ∈ l, ownW w N x
theorem CallOwn.at {w : World} {N : Nat} {c : CallD} {h : CallH} (ho : CallOwn w N c h) : CallAt w c h := by
  obtain ⟨h1, l, e, h2, h3⟩ := ho
  have hl : c.ws.length = l.length := by rw [← e, List.length_map]
  rw [hl] at h2
  exact ⟨AtG_of h1, by rw [← e]; exact AtW_of h2 h3⟩
theorem CallOwn.keep {w w' : World} {N : Nat} {c : CallD} {h : CallH} {R : Nat} (ho : CallOwn w N c h) (hg : w.grownBy w' (some R)) (hR : R < N) : CallOwn w' N c h := by
  obtain ⟨h1, l, e, h2, h3⟩ := ho
  exact ⟨h1.kept hg (Or.inr (fun e => by have := (h1.lt R e).1; omega)), l, e, h2.kept hg (Or.inr (fun e => by have := (h2.lt R e).1; omega)), fun x hx => val_grown (h3 x hx) hg hR⟩
theorem CallOwn.mono {w : World} {N N' : Nat} {c : CallD} {h : CallH} (ho : CallOwn w N c h) (hN : N' ≤ N) : CallOwn w N' c h := by
  obtain ⟨h1, l, e, h2, h3⟩ := ho
  exact ⟨World.ownsRow.mono h1 hN, l, e, World.ownsRow.mono h2 hN, fun x hx => ValOwn.mono (h3 x hx) hN⟩
theorem CallOwn.below {w w' : World} {N : Nat} {c : CallD} {h : CallH} (ho : CallOwn w N c h) (hb : Below w.heap.size w w') : CallOwn w' N c h := by
  obtain ⟨h1, l, e, h2, h3⟩ := ho
  exact ⟨own_below h1 hb, l, e, own_below h2 hb, fun x hx => ⟨own_below (h3 x hx).1 hb, (h3 x hx).2⟩⟩
theorem callWhole_any (R : Nat) (st : List Int × Bool) (w0 w : World) (hr : RdC w0 w R st) :
    Calls Tryz.prog 84 #[.pointer (some ⟨R, 0, none⟩)] w fun e w' => e = .returned (.bool (!st.2 && decide (st.1.length = 0))) ∧ w' = w := by
  obtain ⟨_, _, a, cap, hobj, _, hc2, _, _⟩ := hr
  obtain ⟨l, bad⟩ := st
  have c0 := cell_of_obj hobj 0
  have c1 := cell_of_obj hobj 1
  simp at c0 c1
  cases bad
  · go_enter Tryz.func84, Tryz.ntmps84
    go_wp2
    go_ret
    refine ⟨ret_bool ?_, rfl⟩
    cases l <;> simp <;> omega
  · go_enter Tryz.func84, Tryz.ntmps84
    go_wp2
    go_ret
    exact ⟨ret_bool (by simp), rfl⟩
def c0D : CallD := ⟨0, 0, 0, ⟨#[]⟩, 0, [], []⟩
def c0H : CallH := ⟨none, 0, none, 0⟩
abbrev zeroC : Array Value := #[.int .i64 0, .int .i64 0, .int .i64 0, .string ⟨#[]⟩, .int .i64 0, .slice none 0 0, .slice none 0 0]
/-- What the bytes say, and what is left of them. -/
def tCall (l : List Int) : CallD × (List Int × Bool) :=
  let f := tNum (l, false)
  let i := tNum f.2
  let k := tNum i.2
  let y := tText 20 k.2
  let r := tNum y.2
  let g := tList tGuard 20 r.2
  let w := tList tWrite 64 g.2
  (⟨f.1, i.1, k.1, y.1, r.1, g.1, w.1⟩, w.2)
/-- The call of which just these are the bytes. -/
def callOf (l : List Int) : Option CallD := if (!(tCall l).2.2 && decide ((tCall l).2.1.length = 0)) && callB (tCall l).1 then some (tCall l).1 else none
/-- What Get tells: a call of its own, or zero and false. -/
def CallGot (w : World) (r : Option CallD) (e : Ending) (w' : World) : Prop :=
  (∃ c h, r = some c ∧ e = .returned (.tuple #[callV c h, .bool true]) ∧ CallOwn w' w.heap.size c h ∧ Below w.heap.size w w') ∨ (r = none ∧ e = .returned (.tuple #[callV c0D c0H, .bool false]) ∧ Below w.heap.size w w')
/-- The result's block, the reader, the call that is being read. -/
structure GC (w wr : World) (st : List Int × Bool) (cs : Array Value) : Prop where
  bel : Below w.heap.size w wr
  size : w.heap.size + 3 ≤ wr.heap.size
  rd : RdC (w.alloc (.cells zeroC 59)) wr (w.heap.size + 1) st
  a : wr.heap[w.heap.size]? = some (.cells zeroC 59)
  b : wr.heap[w.heap.size + 2]? = some (.cells cs 59)
theorem GC.get {w wr w2 : World} {st st2 : List Int × Bool} {cs : Array Value} (h : GC w wr st cs) (hg : wr.grownBy w2 (some (w.heap.size + 1))) (hr : RdC (w.alloc (.cells zeroC 59)) w2 (w.heap.size + 1) st2) : GC w w2 st2 cs where
  bel := h.bel.grown (row := some (w.heap.size + 1)) hg h.bel.size (fun k hk => by cases hk; omega)
  size := Nat.le_trans h.size hg.size
  rd := hr
  a := (hg.block _ (by have := h.size; omega) (by simp)).trans h.a
  b := (hg.block _ (by have := h.size; omega) (by simp)).trans h.b
theorem GC.set {w wr : World} {st : List Int × Bool} {cs : Array Value} (h : GC w wr st cs) (j : Nat) (v : Value) : GC w (wr.setCell ⟨w.heap.size + 2, j, none⟩ v) st (cs.setIfInBounds j v) where
  bel := h.bel.setCell (by show _ ≤ w.heap.size + 2; omega) v
  size := by simpa [World.setCell] using h.size
  rd := h.rd.set (by omega)
  a := (Below.heap_setCell _ _ _ _ (by show w.heap.size ≠ w.heap.size + 2; omega)).trans h.a
  b := obj_setN h.b rfl
theorem gc_start {w : World} {a : Option Addr} {l : List Int} {cap : Nat} (hat : AtB w a l) (h1 : l.length ≤ cap) (h2 : cap ≤ maxLen) (hno : a = none → cap = 0) :
    GC w (((w.alloc (.cells zeroC 59)).alloc (.cells #[.slice a l.length cap, .bool false] 135)).alloc (.cells zeroC 59)) (l, false) zeroC where
  bel := (((Below.refl _ _).alloc (Nat.le_refl _) _).alloc (by simp) _).alloc (by simp; omega) _
  size := by simp
  rd := ⟨by simp, ((Below.refl _ _).alloc (Nat.le_refl _) _).alloc (by simp) _, a, cap, by
    rw [Below.heap_alloc _ _ _ (by simp)]
    have := heap_alloc_self (w.alloc (.cells zeroC 59)) (.cells #[.slice a l.length cap, .bool false] 135)
    simpa using this, h1, h2, hat.below' ((Below.refl _ _).alloc (Nat.le_refl _) _), hno⟩
  a := by rw [Below.heap_alloc _ _ _ (by simp; omega), Below.heap_alloc _ _ _ (by simp)]; exact heap_alloc_self _ _
  b := by
    have := heap_alloc_self ((w.alloc (.cells zeroC 59)).alloc (.cells #[.slice a l.length cap, .bool false] 135)) (.cells zeroC 59)
    simpa using this
end Go.Proofs.YtaleceobkbgcnaaGreat
namespace Go.Proofs.YtaleceobkbgcnaaGreat
open Go.RowKit

theorem rest_loop {α : Type} {get : List Int × Bool → α × (List Int × Bool)} (h : ∀ s, Rest s (get s).2) : ∀ (n : Nat) (s : List Int × Bool), Rest s (tLoop get n s).2
  | 0, s => Rest.refl s
  | n + 1, s => (h s).trans (rest_loop h n _)
theorem rest_list {α : Type} {get : List Int × Bool → α × (List Int × Bool)} (h : ∀ s, Rest s (get s).2) (most : Nat) (s : List Int × Bool) : Rest s (tList get most s).2 := (rest_many most s).trans (rest_loop h _ _)
theorem byt_num {s : List Int × Bool} (h : Byt s) : Byt (tNum s).2 := h.rest (rest_num s)
set_option maxRecDepth 100000 in
set_option maxHeartbeats 4000000 in
theorem callGet_any (a : Option Addr) (l : List Int) (cap : Nat) (w : World) (hat : AtB w a l) (h1 : l.length ≤ cap) (h2 : cap ≤ maxLen) (hno : a = none → cap = 0) (hB : Byt (l, false)) :
    Calls Tryz.prog 37 #[.slice a l.length cap] w (CallGot w (callOf l)) := by
  have H := Lib.hid (gc_start hat h1 h2 hno)
  have HT : Hid (tCall l = (⟨(tNum (l, false)).1, (tNum (tNum (l, false)).2).1, (tNum (tNum (tNum (l, false)).2).2).1, (tText 20 (tNum (tNum (tNum (l, false)).2).2).2).1, (tNum (tText 20 (tNum (tNum (tNum (l, false)).2).2).2).2).1, (tList tGuard 20 (tNum (tText 20 (tNum (tNum (tNum (l, false)).2).2).2).2).2).1, (tList tWrite 64 (tList tGuard 20 (tNum (tText 20 (tNum (tNum (tNum (l, false)).2).2).2).2).2).2).1⟩, (tList tWrite 64 (tList tGuard 20 (tNum (tText 20 (tNum (tNum (tNum (l, false)).2).2).2).2).2).2).2)) := rfl
  have HB : Hid (Byt (tNum (tText 20 (tNum (tNum (tNum (l, false)).2).2).2).2).2 ∧ Byt (tList tGuard 20 (tNum (tText 20 (tNum (tNum (tNum (l, false)).2).2).2).2).2).2) := by
    have b3 := byt_num (byt_num (byt_num hB))
    have b5 := byt_num (b3.rest (rest_text 20 _))
    exact ⟨b5, b5.rest (rest_list rest_guard 20 _)⟩
  have HC : Hid (callOf l = if (!(tCall l).2.2 && decide ((tCall l).2.1.length = 0)) && callB (tCall l).1 then some (tCall l).1 else none) := rfl
  clear hat h1 h2 hno hB
  go_enter Tryz.func37, Tryz.ntmps37
  go_wp2_with fail
  try clear cB fB
  refine (num_any (w.heap.size + 1) (l, false) (w.alloc (.cells zeroC 59)) _ H.out.rd).mono ?_
  rintro e w1 ⟨rfl, hr, hg⟩
  have S := H.out.get hg hr
  skip
  clear H hr hg
  generalize tNum (l, false) = y at *
  obtain ⟨x1, s1⟩ := y
  dsimp only at *
  have cB := cell_of_obj S.b 0
  have fB := free_of_obj S.b 0
  simp at cB
  have S2 := S.set 0 (.int .i64 x1)
  simp at S2
  have H := Lib.hid S2
  clear S S2
  go_wp2_with fail
  try clear cB fB
  refine (num_any (w.heap.size + 1) s1 (w.alloc (.cells zeroC 59)) _ H.out.rd).mono ?_
  rintro e w2 ⟨rfl, hr, hg⟩
  have S := H.out.get hg hr
  skip
  clear H hr hg
  generalize tNum s1 = y at *
  obtain ⟨x2, s2⟩ := y
  dsimp only at *
  have cB := cell_of_obj S.b 1
  have fB := free_of_obj S.b 1
  simp at cB
  have S2 := S.set 1 (.int .i64 x2)
  simp at S2
  have H := Lib.hid S2
  clear S S2
  go_wp2_with fail
  try clear cB fB
  refine (num_any (w.heap.size + 1) s2 (w.alloc (.cells zeroC 59)) _ H.out.rd).mono ?_
  rintro e w3 ⟨rfl, hr, hg⟩
  have S := H.out.get hg hr
  skip
  clear H hr hg
  generalize tNum s2 = y at *
  obtain ⟨x3, s3⟩ := y
  dsimp only at *
  have cB := cell_of_obj S.b 2
  have fB := free_of_obj S.b 2
  simp at cB
  have S2 := S.set 2 (.int .i64 x3)
  simp at S2
  have H := Lib.hid S2
  clear S S2
  go_wp2_with fail
  try clear cB fB
  refine (text_any (w.heap.size + 1) 20 s3 (w.alloc (.cells zeroC 59)) _ H.out.rd (by omega)).mono ?_
  rintro e w4 ⟨rfl, hr, hg⟩
  have S := H.out.get hg hr
  skip
  clear H hr hg
  generalize tText 20 s3 = y at *
  obtain ⟨x4, s4⟩ := y
  dsimp only at *
  have cB := cell_of_obj S.b 3
  have fB := free_of_obj S.b 3
  simp at cB
  have S2 := S.set 3 (.string x4)
  simp at S2
  have H := Lib.hid S2
  clear S S2
  go_wp2_with fail
  try clear cB fB
  refine (num_any (w.heap.size + 1) s4 (w.alloc (.cells zeroC 59)) _ H.out.rd).mono ?_
  rintro e w5 ⟨rfl, hr, hg⟩
  have S := H.out.get hg hr
  skip
  clear H hr hg
  generalize tNum s4 = y at *
  obtain ⟨x5, s5⟩ := y
  dsimp only at *
  have cB := cell_of_obj S.b 4
  have fB := free_of_obj S.b 4
  simp at cB
  have S2 := S.set 4 (.int .i64 x5)
  simp at S2
  have H := Lib.hid S2
  clear S S2
  go_wp2_with fail
  clear cB fB
  refine (getGuards_any (w.heap.size + 1) s5 (w.alloc (.cells zeroC 59)) _ H.out.rd HB.out.1).mono ?_
  rintro e w6 ⟨v6, l6, rfl, hm6, ho6, _, hr, hg⟩
  rw [List.map_id'] at hm6
  subst hm6
  obtain ⟨ga, gc, rfl⟩ := owns_form ho6
  have S := H.out.get hg hr
  have hz := H.out.size
  have HG := Lib.hid (World.ownsRow.mono (base' := w.heap.size + 3) ho6 (by simpa [World.setCell] using hz))
  clear H hr hg ho6 hz
  generalize tList tGuard 20 s5 = y at *
  obtain ⟨x6, s6⟩ := y
  dsimp only at *
  have cB := cell_of_obj S.b 5
  have fB := free_of_obj S.b 5
  simp at cB
  have S2 := S.set 5 (.slice ga x6.length gc)
  simp at S2
  have H := Lib.hid S2
  clear S S2
  go_wp2_with fail
  clear cB fB
  refine (getWrites_any (w.heap.size + 1) s6 (w.alloc (.cells zeroC 59)) _ H.out.rd HB.out.2).mono ?_
  rintro e w7 ⟨v7, l7, rfl, hm7, ho7, hv7, hr, hg⟩
  obtain ⟨wa, wc, rfl⟩ := owns_form ho7
  have S := H.out.get hg hr
  have hz := H.out.size
  have hz' : w.heap.size + 3 ≤ (w6.setCell ⟨w.heap.size + 2, 5, none⟩ (.slice ga x6.length gc)).heap.size := by simpa [World.setCell] using hz
  have hG2 := HG.out.kept (grown_set w6 (w.heap.size + 2) 5 (.slice ga x6.length gc)) (Or.inr (fun e => by have := (HG.out.lt _ e).1; omega))
  have hG3 := hG2.kept hg (Or.inr (fun e => by have := (hG2.lt _ e).1; omega))
  have hl7 : l7.length = (tList tWrite 64 s6).1.length := by rw [← hm7, List.length_map]
  rw [hl7] at ho7
  rw [hl7]
  have hO : CallOwn w7 (w.heap.size + 3) ⟨x1, x2, x3, x4, x5, x6, (tList tWrite 64 s6).1⟩ ⟨ga, gc, wa, wc⟩ := ⟨hG3, l7, hm7, World.ownsRow.mono ho7 hz', fun x hx => ValOwn.mono (hv7 x hx) hz'⟩
  have HO := Lib.hid hO
  clear H hr hg ho7 hz hz' hv7 hG2 hG3 HG hm7 hl7 hO
  generalize tList tWrite 64 s6 = y at *
  obtain ⟨x7, s7⟩ := y
  dsimp only at *
  have cB := cell_of_obj S.b 6
  have fB := free_of_obj S.b 6
  simp at cB
  have S2 := S.set 6 (.slice wa x7.length wc)
  simp at S2
  have H := Lib.hid S2
  clear S S2
  go_wp2_with fail
  clear cB fB
  refine (callWhole_any (w.heap.size + 1) s7 (w.alloc (.cells zeroC 59)) _ H.out.rd).mono ?_
  rintro e w8 ⟨rfl, rfl⟩
  have HO2 := Lib.hid (HO.out.keep (grown_set w7 (w.heap.size + 2) 6 (.slice wa x7.length wc)) (by omega))
  clear HO HB
  have HC2 : Hid (callOf l = if (!s7.2 && decide (s7.1.length = 0)) && callB ⟨x1, x2, x3, x4, x5, x6, x7⟩ then some ⟨x1, x2, x3, x4, x5, x6, x7⟩ else none) := by
    show _ = _
    rw [HC.out, HT.out]
  clear HC HT
  generalize (w7.setCell ⟨w.heap.size + 2, 6, none⟩ (.slice wa x7.length wc)) = W at *
  cases hw : (!s7.2 && decide (s7.1.length = 0))
  · rw [hw] at HC2
    go_wp2_with (refine wpList_store_rowTo rfl 59 (.tmp 2) (.tmp 40) rfl rfl w.heap.size zeroC rfl rfl 59 zeroC H.out.a (by kernel_rfl) rfl (by kernel_rfl) ?_)
    refine bodyPost_ret (v := .tuple #[.agg zeroC, .bool false]) (results_row2 Tryz.results37 _ _ w.heap.size 59 zeroC (0, 0) _ rfl (setRow_heap _ _ _ _ _ _ H.out.a) Tryz.underlying59 rfl (by kernel_rfl)) rfl ?_
    exact Or.inr ⟨HC2.out, rfl, Below.setRow H.out.bel (Nat.le_refl _) _⟩
  · rw [hw] at HC2
    have cB := fun j => cell_of_obj H.out.b j
    go_wp2_with fail
    clear cB
    refine (callMay_any ⟨x1, x2, x3, x4, x5, x6, x7⟩ ⟨ga, gc, wa, wc⟩ _ HO2.out.at).mono ?_
    rintro e wc' ⟨rfl, hbc⟩
    have hz := H.out.size
    have kA := (hbc.block _ (by omega)).trans H.out.a
    have kB := (hbc.block _ (by omega)).trans H.out.b
    have HK := Lib.hid (And.intro (HO2.out.below hbc) (And.intro (H.out.bel.trans (hbc.mono H.out.bel.size)) (And.intro kA kB)))
    clear H HO2 hbc kA kB
    cases hm : callB ⟨x1, x2, x3, x4, x5, x6, x7⟩
    · rw [hm] at HC2
      go_wp2_with (refine wpList_store_rowTo rfl 59 (.tmp 2) (.tmp 40) rfl rfl w.heap.size zeroC rfl rfl 59 zeroC HK.out.2.2.1 (by kernel_rfl) rfl (by kernel_rfl) ?_)
      refine bodyPost_ret (v := .tuple #[.agg zeroC, .bool false]) (results_row2 Tryz.results37 _ _ w.heap.size 59 zeroC (0, 0) _ rfl (setRow_heap _ _ _ _ _ _ HK.out.2.2.1) Tryz.underlying59 rfl (by kernel_rfl)) rfl ?_
      exact Or.inr ⟨HC2.out, rfl, Below.setRow HK.out.2.1 (Nat.le_refl _) _⟩
    · rw [hm] at HC2
      go_wp2_with (first | (refine wpList_load_row rfl 59 (.tmp 5) rfl (w.heap.size + 2) rfl 59 _ (0, 0) _ HK.out.2.2.2 Tryz.underlying59 rfl (by kernel_rfl) ?_) | (refine wpList_store_rowTo rfl 59 (.tmp 2) (.tmp 41) rfl rfl w.heap.size _ rfl rfl 59 zeroC HK.out.2.2.1 (by kernel_rfl) rfl (by kernel_rfl) ?_))
      refine bodyPost_ret (v := .tuple #[callV ⟨x1, x2, x3, x4, x5, x6, x7⟩ ⟨ga, gc, wa, wc⟩, .bool true]) (results_row2 Tryz.results37 _ _ w.heap.size 59 _ (0, 0) _ rfl (setRow_heap _ _ _ _ _ _ HK.out.2.2.1) Tryz.underlying59 rfl (by kernel_rfl)) rfl ?_
      exact Or.inl ⟨_, ⟨ga, gc, wa, wc⟩, HC2.out, rfl, (HK.out.1.keep (grown_setRow _ w.heap.size _) (by omega)).mono (by omega), Below.setRow HK.out.2.1 (Nat.le_refl _) _⟩
end Go.Proofs.YtaleceobkbgcnaaGreat
