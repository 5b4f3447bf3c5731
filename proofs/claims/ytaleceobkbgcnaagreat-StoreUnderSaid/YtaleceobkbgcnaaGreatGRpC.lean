/-
  What a store is asked: one. No conditions beyond what is written in each statement.
-/
import Derived.Test.YtaleceobkbgcnaaGreatGRpB
import Derived.Test.YtaleceobkbgcnaaGreatSto10
set_option linter.unusedSimpArgs false
set_option linter.unusedVariables false
namespace Go.Proofs.YtaleceobkbgcnaaGreat.Rp
open Go.RowKit

/-- The entry of a key alone, if there is one. -/
def oneE (d : StoD) (k : ByteArray) : List EntD := if (d.E.find? (isK k)).isSome then [getS d k] else []
/-- What one tells. -/
def OneP (w : World) (B : Nat) (h : StoH) (d : StoD) (k : ByteArray) (e : Ending) (w' : World) : Prop :=
  ∃ v E, e = .returned (.tuple #[v, .int .i64 (if (d.E.find? (isK k)).isSome then 0 else 3)]) ∧ E.map (·.1) = oneE d k ∧ EnRow w' w.heap.size v E ∧ StoAt w' B h { d with reads := wrap64 (d.reads + 1) } ∧ Turns (fun x => x = h.S) w w'
set_option maxRecDepth 100000 in
set_option maxHeartbeats 2000000 in
theorem one_any (w : World) (B : Nat) (h : StoH) (d : StoD) (k : ByteArray) (ha : StoAt w B h d) (hk : k.size ≤ maxLen) : Calls Tryz.prog 102 #[pt h.S, .string k] w (OneP w B h d k) := by
  have hg := stoGet_any w B h d k ha hk
  clear ha
  go_enter Tryz.func102, Tryz.ntmps102
  go_wp2_with fail
  refine hg.mono ?_
  rintro e w1 ⟨a, c, rfl, hv, ha1, ht1⟩
  clear hg
  have HE : Hid (∀ b, (d.E.find? (isK k)).isSome = b → (oneE d k = if b then [getS d k] else [])) := fun b hb => by unfold oneE; rw [hb]
  have HP : Hid (∀ b, (d.E.find? (isK k)).isSome = b → ∀ e w', (∃ v E, e = .returned (.tuple #[v, .int .i64 (if b then 0 else 3)]) ∧ E.map (·.1) = oneE d k ∧ EnRow w' w.heap.size v E ∧ StoAt w' B h { d with reads := wrap64 (d.reads + 1) } ∧ Turns (fun x => x = h.S) w w') → OneP w B h d k e w') := fun b hb e w' hh => by subst hb; exact hh
  generalize hq : (d.E.find? (isK k)).isSome = b at *
  have HX := Lib.hid (And.intro ha1 (And.intro ht1 (And.intro hv hq)))
  clear ha1 ht1 hv hq
  generalize getS d k = x at *
  obtain ⟨xk, xr, xv⟩ := x
  dsimp only at *
  generalize OneP w B h d k = Q at *
  have hba : ∀ o, Below w1.heap.size w1 (w1.alloc o) := fun o => (Below.refl _ _).alloc (Nat.le_refl _) o
  cases b
  · go_wp2_with fail
    refine HP.out _ rfl _ _ ⟨.slice none 0 0, [], rfl, by rw [HE.out _ rfl]; rfl, EnRow.nil _ _, HX.out.1.below (hba _), HX.out.2.1.trans (turns_of_below (hba _))⟩
  · go_wp2_with fail
    have hb2 : Below w1.heap.size w1 ((w1.alloc (.cells #[.string xk, .int .i64 xr, .slice a xv.length c] 75)).alloc (.cells #[.string xk, .int .i64 xr, .slice a xv.length c] 75)) := (hba _).alloc (by simp) _
    have hs := HX.out.2.1.size
    have hrow := World.ownsRow.mono (base' := w.heap.size) (own_one (w := w1.alloc (.cells #[.string xk, .int .i64 xr, .slice a xv.length c] 75)) (t := 75) (sz := 3) #[.string xk, .int .i64 xr, .slice a xv.length c] rfl) (by simp; omega)
    rw [show (w1.alloc (.cells #[.string xk, .int .i64 xr, .slice a xv.length c] 75)).heap.size = w1.heap.size + 1 by simp] at hrow
    refine HP.out _ rfl _ _ ⟨.slice (some ⟨w1.heap.size + 1, 0, none⟩) 1 1, [(⟨xk, xr, xv⟩, a, c)], rfl, by rw [HE.out _ rfl]; rfl, ⟨hrow, fun y hy => ?_⟩, HX.out.1.below hb2, HX.out.2.1.trans (turns_of_below hb2)⟩
    simp at hy
    subst hy
    exact ⟨own_below HX.out.2.2.1.1 hb2, HX.out.2.2.1.2⟩
end Go.Proofs.YtaleceobkbgcnaaGreat.Rp
namespace Go.Proofs.YtaleceobkbgcnaaGreat.Rp
open Go.RowKit

abbrev startA (c : CallD) : Array Value := #[.int .i64 c.frm, .int .i64 c.id, .int .i64 c.kind, .int .i64 0, .int .i64 0, .slice none 0 0, .slice none 0 0]
/-- The call's box, the result's block, the answer that is being made. -/
structure OfS (w w' : World) (c : CallD) (ch : CallH) (cs : Array Value) : Prop where
  c : w'.heap[w.heap.size]? = some (.cells (callC c ch) 59)
  o : w'.heap[w.heap.size + 1]? = some (.cells zeroA 111)
  a : w'.heap[w.heap.size + 2]? = some (.cells cs 111)
  size : w.heap.size + 3 ≤ w'.heap.size
theorem OfS.turns {S : Nat → Prop} {w w' w2 : World} {c : CallD} {ch : CallH} {cs : Array Value} (h : OfS w w' c ch cs) (ht : Turns S w' w2) (hS : ∀ k, S k → k < w.heap.size ∨ w.heap.size + 3 ≤ k) : OfS w w2 c ch cs where
  c := ht.obj h.c (fun k => by have := hS _ k; omega)
  o := ht.obj h.o (fun k => by have := hS _ k; omega)
  a := ht.obj h.a (fun k => by have := hS _ k; omega)
  size := Nat.le_trans h.size ht.size
theorem OfS.below {w w' w2 : World} {c : CallD} {ch : CallH} {cs : Array Value} (h : OfS w w' c ch cs) (hb : Below w'.heap.size w' w2) : OfS w w2 c ch cs := h.turns (S := fun _ => False) (turns_of_below hb) (fun _ h => h.elim)
theorem OfS.set {w w' : World} {c : CallD} {ch : CallH} {cs : Array Value} (h : OfS w w' c ch cs) (j : Nat) (v : Value) : OfS w (w'.setCell ⟨w.heap.size + 2, j, none⟩ v) c ch (cs.setIfInBounds j v) where
  c := (Below.heap_setCell _ _ _ _ (by show w.heap.size ≠ w.heap.size + 2; omega)).trans h.c
  o := (Below.heap_setCell _ _ _ _ (by show w.heap.size + 1 ≠ w.heap.size + 2; omega)).trans h.o
  a := obj_setN h.a rfl
  size := by simpa [World.setCell] using h.size
theorem of_start (w : World) (c : CallD) (ch : CallH) : OfS w (((w.alloc (.cells (callC c ch) 59)).alloc (.cells zeroA 111)).alloc (.cells (startA c) 111)) c ch (startA c) where
  c := by rw [Below.heap_alloc _ _ _ (by simp; omega), Below.heap_alloc _ _ _ (by simp)]; exact heap_alloc_self _ _
  o := by
    rw [Below.heap_alloc _ _ _ (by simp)]
    have := heap_alloc_self (w.alloc (.cells (callC c ch) 59)) (.cells zeroA 111)
    simpa using this
  a := by
    have := heap_alloc_self ((w.alloc (.cells (callC c ch) 59)).alloc (.cells zeroA 111)) (.cells (startA c) 111)
    simpa using this
  size := by simp
theorem below3 (w : World) (o1 o2 o3 : Obj) : Below w.heap.size w (((w.alloc o1).alloc o2).alloc o3) := (((Below.refl _ _).alloc (Nat.le_refl _) _).alloc (by simp) _).alloc (by simp; omega) _
set_option maxRecDepth 100000 in
set_option maxHeartbeats 2000000 in
theorem of_no (w : World) (S : Nat) (c : CallD) (ch : CallH) (hc : CallAt w c ch) (hno : callB c = false) :
    Calls Tryz.prog 59 #[pt S, callV c ch] w fun e w' => e = .returned (ansV ⟨c.frm, c.id, c.kind, 1, 0, [], []⟩ x0H) ∧ Below w.heap.size w w' := by
  have hb0 := below3 w (.cells (callC c ch) 59) (.cells zeroA 111) (.cells (startA c) 111)
  have H0 := Lib.hid (And.intro (of_start w c ch) (And.intro hb0 (hc.below hb0)))
  clear hb0 hc
  have HN := Lib.hid hno
  clear hno
  obtain ⟨c1, c2, c3, c4, c5, c6, c7⟩ := c
  obtain ⟨h1, h2, h3, h4⟩ := ch
  dsimp only at *
  go_enter Tryz.func59, Tryz.ntmps59
  go_wp2_with fail
  refine (callMay_any ⟨c1, c2, c3, c4, c5, c6, c7⟩ ⟨h1, h2, h3, h4⟩ _ H0.out.2.2).mono ?_
  rintro e w1 ⟨rfl, hb1⟩
  rw [HN.out]
  have hs1 := H0.out.1.below hb1
  have hb := H0.out.2.1.trans (hb1.mono H0.out.2.1.size)
  have cA := cell_of_obj hs1.a 3
  simp at cA
  have fA := free_of_obj hs1.a 3
  have HS := Lib.hid (And.intro (hs1.set 3 (.int .i64 1)) (hb.setCell (p := ⟨w.heap.size + 2, 3, none⟩) (by show w.heap.size ≤ w.heap.size + 2; omega) (.int .i64 1)))
  clear hs1 hb hb1 H0
  go_wp2_with (first | (refine wpList_load_row rfl 111 (.tmp 5) rfl (w.heap.size + 2) rfl 111 _ (0, 0) _ HS.out.1.a Tryz.underlying111 rfl (by kernel_rfl) ?_) | (refine wpList_store_rowTo rfl 111 (.tmp 4) (.tmp 17) rfl rfl (w.heap.size + 1) _ rfl rfl 111 zeroA HS.out.1.o (by kernel_rfl) rfl (by kernel_rfl) ?_))
  refine bodyPost_ret (results_cell_row Tryz.results59 _ _ (w.heap.size + 1) 111 _ (0, 0) _ rfl (setRow_heap _ _ _ _ _ _ HS.out.1.o) Tryz.underlying111 rfl (by kernel_rfl)) rfl ?_
  exact ⟨rfl, Below.setRow HS.out.2 (by omega) _⟩
end Go.Proofs.YtaleceobkbgcnaaGreat.Rp
namespace Go.Proofs.YtaleceobkbgcnaaGreat.Rp
open Go.RowKit

theorem sto_set {w w' : World} {B : Nat} {h : StoH} {d : StoD} {c : CallD} {ch : CallH} {cs : Array Value} (ha : StoAt w' B h d) (ho : OfS w w' c ch cs) (hlt : ∀ k, StoS h k → k ≠ w.heap.size + 2) (j : Nat) (v : Value) : StoAt (w'.setCell ⟨w.heap.size + 2, j, none⟩ v) B h d :=
  ha.turns (S := fun k => k = w.heap.size + 2) (turns_of_grown (grown_set _ _ _ _) (fun k hk => by cases hk; rfl)) (fun k hk e => hlt k hk e) (fun k hk => by subst hk; exact ⟨_, ⟨_, _, ho.a⟩, by decide⟩)
theorem sto_row {w w' : World} {B : Nat} {h : StoH} {d : StoD} {c : CallD} {ch : CallH} {cs : Array Value} (ha : StoAt w' B h d) (ho : OfS w w' c ch cs) (hlt : ∀ k, StoS h k → k ≠ w.heap.size + 1) (xs : Array Value) : StoAt (w'.setRow (w.heap.size + 1) xs) B h d :=
  ha.turns (S := fun k => k = w.heap.size + 1) (turns_of_grown (grown_setRow _ _ _) (fun k hk => by cases hk; rfl)) (fun k hk e => hlt k hk e) (fun k hk => by subst hk; exact ⟨_, ⟨_, _, ho.o⟩, by decide⟩)
theorem turns_set {S : Nat → Prop} {w w' : World} (ht : Turns S w w') (k j : Nat) (v : Value) (hk : w.heap.size ≤ k) : Turns S w (w'.setCell ⟨k, j, none⟩ v) :=
  ht.transN (R := fun x => x = k) (turns_of_grown (grown_set _ _ _ _) (fun x hx => by cases hx; rfl)) (fun x hx => .inr (by omega))
theorem turns_row {S : Nat → Prop} {w w' : World} (ht : Turns S w w') (k : Nat) (xs : Array Value) (hk : w.heap.size ≤ k) : Turns S w (w'.setRow k xs) :=
  ht.transN (R := fun x => x = k) (turns_of_grown (grown_setRow _ _ _) (fun x hx => by cases hx; rfl)) (fun x hx => .inr (by omega))
theorem en_keep {w w' : World} {N R : Nat} {v : Value} {E : List EntH} (h : EnRow w N v E) (hg : w.grownBy w' (some R)) (hR : R < N) : EnRow w' N v E :=
  ⟨h.row.kept hg (Or.inr (fun e => by have := (h.row.lt R e).1; omega)), fun x hx => val_grown (h.val x hx) hg hR⟩
/-- What Of tells of a list. -/
def OfList (w : World) (B : Nat) (h : StoH) (d : StoD) (c : CallD) (e : Ending) (w' : World) : Prop :=
  ∃ a cap E, e = .returned (ansV ⟨c.frm, c.id, 2, 0, d.log.last, d.E, []⟩ ⟨a, cap, none, 0⟩) ∧ E.map (·.1) = d.E ∧ EnRow w' w.heap.size (.slice a d.E.length cap) E ∧ StoAt w' B h { d with reads := wrap64 (d.reads + 1) } ∧ Turns (fun x => x = h.S) w w'
set_option maxRecDepth 100000 in
set_option maxHeartbeats 4000000 in
theorem of_list (w : World) (B : Nat) (h : StoH) (d : StoD) (c : CallD) (ch : CallH) (ha : StoAt w B h d) (hc : CallAt w c ch) (hyes : callB c = true) (hk2 : c.kind = 2) (hs : Keyed d.E) (hk : ∀ x ∈ d.E, x.key.size ≤ 20) (hn : d.E.length ≤ 1000000000) :
    Calls Tryz.prog 59 #[pt h.S, callV c ch] w (OfList w B h d c) := by
  have hb0 := below3 w (.cells (callC c ch) 59) (.cells zeroA 111) (.cells (startA c) 111)
  have hlt := ha.lt
  have H0 := Lib.hid (And.intro (of_start w c ch) (And.intro hb0 (And.intro (hc.below hb0) (ha.below hb0))))
  have HN := Lib.hid (And.intro hyes (And.intro hs (And.intro hk hn)))
  have HL := Lib.hid hlt
  clear hb0 hc ha hyes hs hk hn hlt
  obtain ⟨c1, c2, c3, c4, c5, c6, c7⟩ := c
  obtain ⟨h1, h2, h3, h4⟩ := ch
  dsimp only at *
  subst hk2
  go_enter Tryz.func59, Tryz.ntmps59
  go_wp2_with fail
  refine (callMay_any ⟨c1, c2, 2, c4, c5, c6, c7⟩ ⟨h1, h2, h3, h4⟩ _ H0.out.2.2.1).mono ?_
  rintro e w1 ⟨rfl, hb1⟩
  rw [HN.out.1]
  have hs1 := H0.out.1.below hb1
  have hl := stoList_any w1 B h d (H0.out.2.2.2.below hb1) HN.out.2.1 HN.out.2.2.1 HN.out.2.2.2
  have hb := H0.out.2.1.trans (hb1.mono H0.out.2.1.size)
  have cC := cell_of_obj hs1.c 2
  simp at cC
  have H1 := Lib.hid (And.intro hs1 hb)
  clear hs1 hb hb1 H0 HN
  go_wp2_with fail
  refine hl.mono ?_
  rintro e w2 ⟨v, E, rfl, hE, hrow, ha2, ht2⟩
  clear hl cC
  obtain ⟨va, vc, rfl⟩ := owns_form hrow.row
  have hEl : E.length = d.E.length := by rw [← hE, List.length_map]
  rw [hEl]
  have hS1 : h.S < w.heap.size := HL.out _ (.inl rfl)
  have hs2 := H1.out.1.turns ht2 (fun k hk => by subst hk; exact .inl hS1)
  have hsz := H1.out.1.size
  have hT2 : Turns (fun x => x = h.S) w w2 := (turns_of_below H1.out.2).trans ht2
  have hs3 := hs2.set 5 (.slice va d.E.length vc)
  have ha3 := sto_set ha2 hs2 (fun k hk => by have := HL.out k hk; omega) 5 (.slice va d.E.length vc)
  have hr3 := en_keep hrow (grown_set w2 (w.heap.size + 2) 5 (.slice va d.E.length vc)) (by omega)
  have hT3 := turns_set hT2 (w.heap.size + 2) 5 (.slice va d.E.length vc) (by omega)
  have cA := cell_of_obj hs2.a 5
  simp at cA
  have fA := free_of_obj hs2.a 5
  rw [hEl] at hr3
  have H3 := Lib.hid (And.intro hs3 (And.intro ha3 (And.intro hr3 (And.intro hT3 (And.intro hE hsz)))))
  clear hs2 hs3 ha2 ha3 hrow hr3 hT2 hT3 hE hEl ht2 H1 hsz
  go_wp2_with fail
  clear cA fA
  refine (stoRev_any _ B h _ H3.out.2.1).mono ?_
  rintro e w3 ⟨rfl, rfl⟩
  have cB := cell_of_obj H3.out.1.a 4
  simp at cB
  have fB := free_of_obj H3.out.1.a 4
  generalize (w2.setCell ⟨w.heap.size + 2, 5, none⟩ (.slice va d.E.length vc)) = W3 at *
  have hs4 := H3.out.1.set 4 (.int .i64 d.log.last)
  have ha4 := sto_set H3.out.2.1 H3.out.1 (fun k hk => by have := HL.out k hk; omega) 4 (.int .i64 d.log.last)
  have hr4 := en_keep H3.out.2.2.1 (grown_set W3 (w.heap.size + 2) 4 (.int .i64 d.log.last)) (by have := H3.out.2.2.2.2.2; omega)
  have hT4 := turns_set H3.out.2.2.2.1 (w.heap.size + 2) 4 (.int .i64 d.log.last) (by omega)
  have H4 := Lib.hid (And.intro hs4 (And.intro ha4 (And.intro hr4 (And.intro hT4 H3.out.2.2.2.2))))
  clear hs4 ha4 hr4 hT4 H3
  go_wp2_with (first | (refine wpList_load_row rfl 111 (.tmp 5) rfl (w.heap.size + 2) rfl 111 _ (0, 0) _ H4.out.1.a Tryz.underlying111 rfl (by kernel_rfl) ?_) | (refine wpList_store_rowTo rfl 111 (.tmp 4) (.tmp 60) rfl rfl (w.heap.size + 1) _ rfl rfl 111 zeroA H4.out.1.o (by kernel_rfl) rfl (by kernel_rfl) ?_))
  refine bodyPost_ret (results_cell_row Tryz.results59 _ _ (w.heap.size + 1) 111 _ (0, 0) _ rfl (setRow_heap _ _ _ _ _ _ H4.out.1.o) Tryz.underlying111 rfl (by kernel_rfl)) rfl ?_
  have hz := H4.out.2.2.2.2.2
  exact ⟨va, vc, E, rfl, H4.out.2.2.2.2.1, (en_keep H4.out.2.2.1 (grown_setRow _ (w.heap.size + 1) _) (by omega)).mono (by omega), sto_row H4.out.2.1 H4.out.1 (fun k hk => by have := HL.out k hk; omega) _, turns_row H4.out.2.2.2.1 (w.heap.size + 1) _ (by omega)⟩
end Go.Proofs.YtaleceobkbgcnaaGreat.Rp
