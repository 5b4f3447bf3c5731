/-
  How calls are read: guards, writes. No conditions beyond what is written in each statement.
-/
import Derived.Test.YtaleceobkbgcnaaGreatGCallA
import Derived.Test.YtaleceobkbgcnaaGreatGLogA
import Derived.Test.YtaleceobkbgcnaaGreatGLogB
import Derived.Test.YtaleceobkbgcnaaGreatGGetB
set_option linter.unusedSimpArgs false
set_option linter.unusedVariables false
namespace Go.Proofs.YtaleceobkbgcnaaGreat
open Go.RowKit

theorem RdC.kept {w0 w w' : World} {R : Nat} {st : List Int × Bool} (h : RdC w0 w R st) (hb : Below w0.heap.size w w') (hR : w'.heap[R]? = w.heap[R]?) : RdC w0 w' R st := by
  obtain ⟨ho, hb0, a, cap, hobj, hc⟩ := h
  exact ⟨ho, hb0.trans hb, a, cap, hR.trans hobj, hc⟩
theorem RdC.lt {w0 w : World} {R : Nat} {st : List Int × Bool} (h : RdC w0 w R st) : R < w.heap.size := by
  obtain ⟨_, _, a, cap, hobj, _⟩ := h
  exact (Array.getElem?_eq_some_iff.1 hobj).1
theorem RdC.alloc {w0 w : World} {R : Nat} {st : List Int × Bool} (h : RdC w0 w R st) (o : Obj) : RdC w0 (w.alloc o) R st :=
  h.kept ((Below.refl _ _).alloc (Nat.le_trans h.old (Nat.le_of_lt h.lt)) o) (heap_alloc_old w o h.lt)
theorem RdC.set {w0 w : World} {R A j : Nat} {v : Value} {st : List Int × Bool} (h : RdC w0 w R st) (hA : R < A) : RdC w0 (w.setCell ⟨A, j, none⟩ v) R st :=
  h.kept ((Below.refl _ _).setCell (by have := h.old; show _ ≤ A; omega) _) (heap_setCell_other w ⟨A, j, none⟩ R v (by show R ≠ A; omega))
theorem RdC.row {w0 w : World} {R A : Nat} {cs : Array Value} {st : List Int × Bool} (h : RdC w0 w R st) (hA : R < A) : RdC w0 (w.setRow A cs) R st :=
  h.kept (Below.setRow (Below.refl _ _) (by have := h.old; omega) _) (setRow_other w A R cs (by omega))
/-- A world in which two blocks have been laid, and the reader's has turned. -/
structure Two (w W : World) (R : Nat) (o1 o2 : Obj) : Prop where
  os : W.os = w.os
  tape : W.tape = w.tape
  output : W.output = w.output
  size : w.heap.size + 2 ≤ W.heap.size
  block : ∀ k, k < w.heap.size → k ≠ R → W.heap[k]? = w.heap[k]?
  fst : W.heap[w.heap.size]? = some o1
  snd : W.heap[w.heap.size + 1]? = some o2
theorem two_of (w : World) (R : Nat) (o1 o2 : Obj) : Two w ((w.alloc o1).alloc o2) R o1 o2 :=
  ⟨rfl, rfl, rfl, by simp, fun k hk _ => by rw [heap_alloc_old _ _ (by simp; omega), heap_alloc_old _ _ hk], heap_two0 w o1 o2, heap_two1 w o1 o2⟩
theorem Two.get {w W W' : World} {R : Nat} {o1 o2 : Obj} (h : Two w W R o1 o2) (hR : R < w.heap.size) (hg : W.grownBy W' (some R)) : Two w W' R o1 o2 :=
  ⟨hg.os.trans h.os, hg.tape.trans h.tape, hg.output.trans h.output, Nat.le_trans h.size hg.size, fun k hk hne => (hg.block k (by have := h.size; omega) (by simp; omega)).trans (h.block k hk hne),
    (hg.block _ (by have := h.size; omega) (by simp; omega)).trans h.fst, (hg.block _ (by have := h.size; omega) (by simp; omega)).trans h.snd⟩
theorem Two.set {w W : World} {R j : Nat} {o1 : Obj} {cs : Array Value} {t : TypeId} {v : Value} (h : Two w W R o1 (.cells cs t (0, 0))) : Two w (W.setCell ⟨w.heap.size + 1, j, none⟩ v) R o1 (.cells (cs.setIfInBounds j v) t (0, 0)) :=
  ⟨h.os, h.tape, h.output, by simpa [World.setCell] using h.size, fun k hk hne => (Below.heap_setCell _ _ _ _ (by show k ≠ w.heap.size + 1; omega)).trans (h.block k hk hne), (Below.heap_setCell _ _ _ _ (by show w.heap.size ≠ w.heap.size + 1; omega)).trans h.fst, obj_setN h.snd rfl⟩
theorem Two.grown {w W : World} {R : Nat} {o1 o2 : Obj} (h : Two w W R o1 o2) (cs : Array Value) : w.grownBy (W.setRow w.heap.size cs) (some R) :=
  ⟨h.os, h.tape, h.output, by have := h.size; simp; omega, fun k hk hne => (setRow_other W w.heap.size k cs (by omega)).trans (h.block k hk (fun e => hne (by rw [e])))⟩
def tGuard (st : List Int × Bool) : Gd × (List Int × Bool) := (((tText 20 st).1, (tNum (tText 20 st).2).1, (tFlag (tNum (tText 20 st).2).2).1), (tFlag (tNum (tText 20 st).2).2).2)
set_option maxRecDepth 100000 in
set_option maxHeartbeats 2000000 in
theorem getGuard_any (R : Nat) (st : List Int × Bool) (w0 w : World) (hr : RdC w0 w R st) :
    Calls Tryz.prog 81 #[.pointer (some ⟨R, 0, none⟩)] w fun e w' => e = .returned (.agg #[.string (tGuard st).1.1, .int .i64 (tGuard st).1.2.1, .bool (tGuard st).1.2.2]) ∧ RdC w0 w' R (tGuard st).2 ∧ w.grownBy w' (some R) := by
  have hR := hr.lt
  have H0 := Lib.hid (And.intro (two_of w R (.cells #[.string ⟨#[]⟩, .int .i64 0, .bool false] 81) (.cells #[.string ⟨#[]⟩, .int .i64 0, .bool false] 81)) ((hr.alloc (.cells #[.string ⟨#[]⟩, .int .i64 0, .bool false] 81)).alloc (.cells #[.string ⟨#[]⟩, .int .i64 0, .bool false] 81)))
  have HT : Hid (tGuard st = (((tText 20 st).1, (tNum (tText 20 st).2).1, (tFlag (tNum (tText 20 st).2).2).1), (tFlag (tNum (tText 20 st).2).2).2)) := rfl
  clear hr
  go_enter Tryz.func81, Tryz.ntmps81
  go_wp2_with fail
  refine (text_any R 20 st w0 _ H0.out.2 (by omega)).mono ?_
  rintro e w1 ⟨rfl, hr1, hg1⟩
  have H1 := Lib.hid (And.intro (H0.out.1.get hR hg1) hr1)
  clear H0 hr1 hg1
  generalize tText 20 st = y1 at *
  obtain ⟨k, s1⟩ := y1
  dsimp only at *
  have c0 := cell_of_obj H1.out.1.snd 0
  simp at c0
  have f0 := free_of_obj H1.out.1.snd 0
  go_wp2_with fail
  clear c0 f0
  refine (num_any R s1 w0 _ (H1.out.2.set (by omega))).mono ?_
  rintro e w2 ⟨rfl, hr2, hg2⟩
  have H2 := Lib.hid (And.intro (H1.out.1.set.get hR hg2) hr2)
  clear H1 hr2 hg2
  generalize tNum s1 = y2 at *
  obtain ⟨r, s2⟩ := y2
  dsimp only at *
  have c1 := cell_of_obj H2.out.1.snd 1
  simp at c1
  have f1 := free_of_obj H2.out.1.snd 1
  go_wp2_with fail
  clear c1 f1
  refine (flag_any R s2 w0 _ (H2.out.2.set (by omega))).mono ?_
  rintro e w3 ⟨rfl, hr3, hg3⟩
  have H3 := Lib.hid (And.intro (H2.out.1.set.get hR hg3) hr3)
  clear H2 hr3 hg3
  generalize tFlag s2 = y3 at *
  obtain ⟨f, s3⟩ := y3
  dsimp only at *
  have c2 := cell_of_obj H3.out.1.snd 2
  have d0 := cell_of_obj H3.out.1.snd 0
  have d1 := cell_of_obj H3.out.1.snd 1
  simp at c2 d0 d1
  have f2 := free_of_obj H3.out.1.snd 2
  have H4 := Lib.hid (H3.out.1.set (j := 2) (v := .bool f))
  go_wp2_with (refine wpList_store_rowTo rfl 81 (.tmp 2) (.tmp 13) rfl rfl w.heap.size #[.string k, .int .i64 r, .bool f] rfl rfl 81 #[.string ⟨#[]⟩, .int .i64 0, .bool false] H4.out.fst (by kernel_rfl) rfl (by kernel_rfl) ?_)
  refine bodyPost_ret (results_cell_row Tryz.results81 _ _ w.heap.size 81 _ (0, 0) _ rfl (setRow_heap _ _ _ _ _ _ H4.out.fst) Tryz.underlying81 rfl (by kernel_rfl)) rfl ?_
  refine ⟨by rw [HT.out], by rw [HT.out]; exact (H3.out.2.set (by omega)).row hR, H4.out.grown _⟩
end Go.Proofs.YtaleceobkbgcnaaGreat
namespace Go.Proofs.YtaleceobkbgcnaaGreat
open Go.RowKit

/-- What is left of a list is the end of it. -/
def Rest (s t : List Int × Bool) : Prop := t.1.length ≤ s.1.length ∧ ∀ y ∈ t.1, y ∈ s.1
theorem Rest.refl (s : List Int × Bool) : Rest s s := ⟨Nat.le_refl _, fun _ h => h⟩
theorem Rest.trans {s t u : List Int × Bool} (h : Rest s t) (k : Rest t u) : Rest s u := ⟨Nat.le_trans k.1 h.1, fun y hy => h.2 y (k.2 y hy)⟩
theorem rest_take (n : Nat) (s : List Int × Bool) : Rest s (tTake n s).2 ∧ ∀ y ∈ (tTake n s).1, y ∈ s.1 := by
  unfold tTake
  split
  · exact ⟨⟨Nat.le_refl _, fun _ h => h⟩, fun y hy => by cases hy⟩
  · exact ⟨⟨by simp, fun y hy => List.mem_of_mem_drop hy⟩, fun y hy => List.mem_of_mem_take hy⟩
theorem rest_num (s : List Int × Bool) : Rest s (tNum s).2 := by
  unfold tNum
  split
  · exact ⟨Nat.le_refl _, fun _ h => h⟩
  · exact ⟨by simp, fun y hy => List.mem_of_mem_drop hy⟩
theorem rest_many (m : Nat) (s : List Int × Bool) : Rest s (tMany m s).2 := by
  unfold tMany
  split
  · exact ⟨(rest_num s).1, (rest_num s).2⟩
  · exact rest_num s
theorem rest_text (m : Nat) (s : List Int × Bool) : Rest s (tText m s).2 := (rest_many m s).trans (rest_take _ _).1
theorem rest_bytes (m : Nat) (s : List Int × Bool) : Rest s (tBytes m s).2 ∧ ∀ y ∈ (tBytes m s).1, y ∈ s.1 := ⟨(rest_many m s).trans (rest_take _ _).1, fun y hy => (rest_many m s).2 y ((rest_take _ _).2 y hy)⟩
theorem rest_flag (s : List Int × Bool) : Rest s (tFlag s).2 := rest_many 1 s
theorem bytes_le (m : Nat) (s : List Int × Bool) : (tBytes m s).1.length ≤ m := by
  have h1 : (tMany m s).1 ≤ m := by
    unfold tMany
    split <;> simp <;> omega
  unfold tBytes tTake
  split
  · simp
  · simp only [List.length_take]; omega
/-- Bytes only. -/
def Byt (s : List Int × Bool) : Prop := s.1.length ≤ 140737488355328 ∧ ∀ y ∈ s.1, 0 ≤ y ∧ y ≤ 255
theorem Byt.rest {s t : List Int × Bool} (h : Byt s) (r : Rest s t) : Byt t := ⟨Nat.le_trans r.1 h.1, fun y hy => h.2 y (r.2 y hy)⟩
def tWrite (st : List Int × Bool) : Wr × (List Int × Bool) := (⟨(tText 20 st).1, (tBytes 4000 (tText 20 st).2).1, (tFlag (tBytes 4000 (tText 20 st).2).2).1⟩, (tFlag (tBytes 4000 (tText 20 st).2).2).2)
theorem rest_write (st : List Int × Bool) : Rest st (tWrite st).2 := by
  unfold tWrite
  exact ((rest_text 20 st).trans (rest_bytes 4000 (tText 20 st).2).1).trans (rest_flag (tBytes 4000 (tText 20 st).2).2)
theorem rest_guard (st : List Int × Bool) : Rest st (tGuard st).2 := by
  unfold tGuard
  exact ((rest_text 20 st).trans (rest_num (tText 20 st).2)).trans (rest_flag (tNum (tText 20 st).2).2)
theorem val_grown {w w' : World} {B R : Nat} {l : List Int} {a : Option Addr} {c : Nat} (h : ValOwn w B l a c) (hg : w.grownBy w' (some R)) (hR : R < B) : ValOwn w' B l a c :=
  ⟨World.ownsRow.kept h.1 hg (Or.inr (fun e => by have := (h.1.lt R e).1; omega)), h.2⟩
theorem val_set {w : World} {B A j : Nat} {v : Value} {l : List Int} {a : Option Addr} {c : Nat} (h : ValOwn w B l a c) (hA : A < B) : ValOwn (w.setCell ⟨A, j, none⟩ v) B l a c := val_grown h (grown_set w A j v) hA
def WriteG (w0 w : World) (R : Nat) (st : List Int × Bool) (e : Ending) (w' : World) : Prop := ∃ a c, e = .returned (.agg #[.string (tWrite st).1.key, .slice a (tWrite st).1.val.length c, .bool (tWrite st).1.gone]) ∧ ValOwn w' w.heap.size (tWrite st).1.val a c ∧ RdC w0 w' R (tWrite st).2 ∧ w.grownBy w' (some R)
set_option maxRecDepth 100000 in
set_option maxHeartbeats 2000000 in
theorem getWrite_any (R : Nat) (st : List Int × Bool) (w0 w : World) (hr : RdC w0 w R st) (hB : Byt st) : Calls Tryz.prog 83 #[.pointer (some ⟨R, 0, none⟩)] w (WriteG w0 w R st) := by
  have hR := hr.lt
  have H0 := Lib.hid (And.intro (two_of w R (.cells #[.string ⟨#[]⟩, .slice none 0 0, .bool false] 73) (.cells #[.string ⟨#[]⟩, .slice none 0 0, .bool false] 73)) ((hr.alloc (.cells #[.string ⟨#[]⟩, .slice none 0 0, .bool false] 73)).alloc (.cells #[.string ⟨#[]⟩, .slice none 0 0, .bool false] 73)))
  have HT : Hid (tWrite st = (⟨(tText 20 st).1, (tBytes 4000 (tText 20 st).2).1, (tFlag (tBytes 4000 (tText 20 st).2).2).1⟩, (tFlag (tBytes 4000 (tText 20 st).2).2).2)) := rfl
  have HBy := Lib.hid hB
  have HR1 := Lib.hid (rest_text 20 st)
  clear hr hB
  go_enter Tryz.func83, Tryz.ntmps83
  go_wp2_with fail
  refine (text_any R 20 st w0 _ H0.out.2 (by omega)).mono ?_
  rintro e w1 ⟨rfl, hr1, hg1⟩
  have H1 := Lib.hid (And.intro (H0.out.1.get hR hg1) hr1)
  clear H0 hr1 hg1
  generalize tText 20 st = y1 at *
  obtain ⟨k, s1⟩ := y1
  dsimp only at *
  have HB1 := Lib.hid (HBy.out.rest HR1.out)
  have HR2 := Lib.hid (rest_bytes 4000 s1)
  have HR3 := Lib.hid (bytes_le 4000 s1)
  clear HBy HR1
  have c0 := cell_of_obj H1.out.1.snd 0
  simp at c0
  have f0 := free_of_obj H1.out.1.snd 0
  go_wp2_with fail
  clear c0 f0
  refine (bytes_any R 4000 s1 w0 _ (H1.out.2.set (by omega)) (by omega) HB1.out.1 (by have := H1.out.1.size; simp [World.setCell]; omega)).mono ?_
  rintro e w2 ⟨v2, rfl, ho2, hr2, hg2⟩
  have H2 := Lib.hid (And.intro (H1.out.1.set.get hR hg2) hr2)
  have hsz1 := H1.out.1.size
  obtain ⟨a2, c2, rfl, z1, z2, z3⟩ := own_len ho2
  have HV := Lib.hid (show ValOwn w2 (w.heap.size + 2) (tBytes 4000 s1).1 a2 c2 from ⟨World.ownsRow.mono ho2 (by simpa [World.setCell] using hsz1), fun y hy => HB1.out.2 y (HR2.out.2 y hy)⟩)
  clear H1 hr2 hg2 ho2
  generalize tBytes 4000 s1 = y2 at *
  obtain ⟨l, s2⟩ := y2
  dsimp only at *
  have c1 := cell_of_obj H2.out.1.snd 1
  simp at c1
  have f1 := free_of_obj H2.out.1.snd 1
  go_wp2_with fail
  clear c1 f1
  refine (flag_any R s2 w0 _ (H2.out.2.set (by omega))).mono ?_
  rintro e w3 ⟨rfl, hr3, hg3⟩
  have H3 := Lib.hid (And.intro (H2.out.1.set.get hR hg3) hr3)
  have HV3 := Lib.hid (val_grown (val_set HV.out (j := 1) (v := .slice a2 l.length c2) (show w.heap.size + 1 < w.heap.size + 2 by omega)) hg3 (by omega))
  clear H2 hr3 hg3 HV
  generalize tFlag s2 = y3 at *
  obtain ⟨f, s3⟩ := y3
  dsimp only at *
  have c2' := cell_of_obj H3.out.1.snd 2
  have d0 := cell_of_obj H3.out.1.snd 0
  have d1 := cell_of_obj H3.out.1.snd 1
  simp at c2' d0 d1
  have f2 := free_of_obj H3.out.1.snd 2
  have H4 := Lib.hid (H3.out.1.set (j := 2) (v := .bool f))
  go_wp2_with (refine wpList_store_rowTo rfl 73 (.tmp 2) (.tmp 13) rfl rfl w.heap.size #[.string k, .slice a2 l.length c2, .bool f] rfl rfl 73 #[.string ⟨#[]⟩, .slice none 0 0, .bool false] H4.out.fst (by kernel_rfl) rfl (by kernel_rfl) ?_)
  refine bodyPost_ret (results_cell_row Tryz.results83 _ _ w.heap.size 73 _ (0, 0) _ rfl (setRow_heap _ _ _ _ _ _ H4.out.fst) Tryz.underlying73 rfl (by kernel_rfl)) rfl ?_
  refine ⟨a2, c2, by rw [HT.out], ?_, by rw [HT.out]; exact (H3.out.2.set (by omega)).row hR, H4.out.grown _⟩
  rw [HT.out]
  have hv := val_grown (val_set HV3.out (j := 2) (v := .bool f) (show w.heap.size + 1 < w.heap.size + 2 by omega)) (grown_setRow _ w.heap.size #[.string k, .slice a2 l.length c2, .bool f]) (by omega)
  exact ⟨World.ownsRow.mono hv.1 (by omega), hv.2⟩
end Go.Proofs.YtaleceobkbgcnaaGreat
namespace Go.Proofs.YtaleceobkbgcnaaGreat
open Go.RowKit

theorem RdC.own {w0 w w' : World} {R : Nat} {st : List Int × Bool} {v : Value} (h : RdC w0 w R st) (hg : w.grownBy w' v.ownBlock) (h1 : ∀ j, v.ownBlock = some j → w0.heap.size ≤ j) (h2 : ∀ j, v.ownBlock = some j → j ≠ R) : RdC w0 w' R st := by
  obtain ⟨ho, hb, a, cap, hobj, hc⟩ := h
  have hR : R < w.heap.size := (Array.getElem?_eq_some_iff.1 hobj).1
  exact ⟨ho, hb.grown hg hb.size h1, a, cap, by rw [hg.block R hR (fun e => h2 R e.symm rfl)]; exact hobj, hc⟩
theorem many_le (most : Nat) (st : List Int × Bool) : (tMany most st).1 ≤ most := by
  unfold tMany
  split <;> simp <;> omega
def tLoop {α : Type} (get : List Int × Bool → α × (List Int × Bool)) : Nat → List Int × Bool → List α × (List Int × Bool)
  | 0, st => ([], st)
  | n + 1, st => ((get st).1 :: (tLoop get n (get st).2).1, (tLoop get n (get st).2).2)
/-- The next list of at most that many. -/
def tList {α : Type} (get : List Int × Bool → α × (List Int × Bool)) (most : Nat) (st : List Int × Bool) : List α × (List Int × Bool) := tLoop get (tMany most st).1 (tMany most st).2
/-- What a call that reads a list tells: a list of its own, and each element's own memory. -/
def ElsP {α ε : Type} (w0 w : World) (R : Nat) (t : TypeId) (sz : Nat) (cells : ε → List Value) (dat : ε → α) (own : World → Nat → ε → Prop) (g : List α × (List Int × Bool)) (e : Ending) (w' : World) : Prop :=
  ∃ (v : Value) (l : List ε), e = .returned v ∧ l.map dat = g.1 ∧ w'.ownsRow w.heap.size t sz v l.length (l.flatMap cells) ∧ (∀ x ∈ l, own w' w.heap.size x) ∧ RdC w0 w' R g.2 ∧ w.grownBy w' (some R)
def cellsG (x : Gd) : List Value := [.string x.1, .int .i64 x.2.1, .bool x.2.2]
def ownG (_ : World) (_ : Nat) (_ : Gd) : Prop := True
abbrev WrH := Wr × Option Addr × Nat
def cellsW (x : WrH) : List Value := [.string x.1.key, .slice x.2.1 x.1.val.length x.2.2, .bool x.1.gone]
def ownW (w : World) (N : Nat) (x : WrH) : Prop := ValOwn w N x.1.val x.2.1 x.2.2
theorem ValOwn.mono {w : World} {N N' : Nat} {l : List Int} {a : Option Addr} {c : Nat} (h : ValOwn w N l a c) (hN : N' ≤ N) : ValOwn w N' l a c := ⟨World.ownsRow.mono h.1 hN, h.2⟩
theorem val_row {w w' : World} {o : Obj} {N B t sz n : Nat} {v : Value} {xs : List Value} {l : List Int} {a : Option Addr} {c : Nat} (h : ValOwn w N l a c) (hv : w.ownsRow B t sz v n xs) (hg : (w.alloc o).grownBy w' v.ownBlock) (hne : t ≠ 5) : ValOwn w' N l a c :=
  ⟨World.ownsRow.kept (World.ownsRow.alloc h.1 o) hg (own_apart h.1 hv hne), h.2⟩

theorem infoG : (Tryz.prog.info? 81).map (fun i => (i.zero, i.size, i.bytes)) = some (some (.agg #[.string ⟨#[]⟩, .int .i64 0, .bool false]), 3, 32) := by kernel_rfl
set_option maxRecDepth 100000 in
set_option maxHeartbeats 2000000 in
theorem getGuards_any (R : Nat) (st : List Int × Bool) (w0 w : World) (hr : RdC w0 w R st) (hB : Byt st) :
    Calls Tryz.prog 80 #[.pointer (some ⟨R, 0, none⟩), .int .i64 20, .func (.func 81) #[] #[]] w (ElsP w0 w R 81 3 cellsG (fun x : Gd => x) ownG (tList tGuard 20 st)) := by
  obtain ⟨i0, hi, hz0, hz1, hz2⟩ := info_parts infoG
  have HI := Lib.hid (And.intro hi (And.intro hz0 (And.intro hz1 hz2)))
  clear hi hz0 hz1 hz2
  have hR := hr.lt
  have hO := hr.old
  have hlen : ∀ x : Gd, (cellsG x).length = 3 := fun x => rfl
  have HR := Lib.hid (And.intro hr (And.intro hB (And.intro (rest_many 20 st) (many_le 20 st))))
  have HG : Hid (tList tGuard 20 st = tLoop tGuard (tMany 20 st).1 (tMany 20 st).2) := rfl
  clear hr hB
  go_enter Tryz.func80, Tryz.ntmps80
  go_wp2_with fail
  refine (many_any R 20 st w0 _ HR.out.1 (by omega)).mono ?_
  rintro e w1 ⟨rfl, hr1, hg1⟩
  have hs1 := hg1.size
  have hm2 := HR.out.2.2.2
  have H1 := Lib.hid (And.intro hr1 (And.intro ((Fr.refl w.heap.size R w).grown (Nat.le_refl _) hg1) (HR.out.2.1.rest HR.out.2.2.1)))
  clear hr1 hg1 HR
  generalize tMany 20 st = y at *
  obtain ⟨m, s0⟩ := y
  dsimp only at *
  go_wp2_with fail
  go_loopw [7, 11] (fun u i wr => ∃ k : Nat, k ≤ m ∧ i = .int .i64 k ∧ ∃ (l : List Gd) (s : List Int × Bool), Hid (l.length = k) ∧ wr.ownsRow w.heap.size 81 3 u k (l.flatMap cellsG) ∧ Hid (∀ x ∈ l, ownG wr w.heap.size x) ∧ RdC w0 wr R s ∧ Hid (Byt s) ∧ Fr w.heap.size R w wr
      ∧ Hid (tLoop tGuard m s0 = (l.map (fun x : Gd => x) ++ (tLoop tGuard (m - k) s).1, (tLoop tGuard (m - k) s).2))) (fun _ i _ => m - (intOf i).toNat)
  case atStart => exact ⟨0, Nat.zero_le _, rfl, [], s0, rfl, World.ownsRow_nil _ _ _ _, fun x hx => by simp at hx, H1.out.1, H1.out.2.2, H1.out.2.1, rfl⟩
  case round =>
    obtain ⟨k, hk, rfl, l, s, hl, hown, hall, hrd, hby, hfr, hmany⟩ := hrel
    by_cases hlt : k < m
    · have hfs := hfr.size
      go_wp2_with fail
      refine (getGuard_any R s w0 _ hrd).mono ?_; rintro e w2 ⟨rfl, hr2, hg2⟩; have hov : ownG w2 w.heap.size (tGuard s).1 := trivial
      have hs2 := hg2.size
      have hown2 := hown.kept hg2 (Or.inr (fun e => by have := (hown.lt R e).1; omega))
      have hall2 : Hid (∀ x ∈ l, ownG w2 w.heap.size x) := fun x hx => trivial
      have HV := Lib.hid hov
      have hfr2 := hfr.grown (by omega) hg2
      have hby2 := hby.out.rest (rest_guard s)
      have hl1 : k + 1 ≤ maxLen := by unfold maxLen; omega
      have hl2 : (k + 1) * 32 ≤ 140737488355328 := by omega
      have hB2 : w.heap.size ≤ w2.heap.size + 1 := by omega
      clear hrd hown hfr hg2 hov hall hby
      go_wp2_with (at_builtin; refine stand ?_)
      show wpList _ _ _ _ _ _
      refine wpList_append_own _ rfl _ _ 54 rfl w.heap.size 81 i0 (.agg #[.string ⟨#[]⟩, .int .i64 0, .bool false]) 3 32 Tryz.underlying54 HI.out.1 HI.out.2.1 HI.out.2.2.1 HI.out.2.2.2 rfl (by decide) _ k (l.flatMap cellsG) rfl (hown2.alloc _) ⟨w2.heap.size, 0, none⟩ 1 1 (cellsG (tGuard s).1) rfl (hlen _) (new_cells _ _ _) (by simp [cellsG, Value.oneCell']) hl1 hl2 (by simp; exact hB2) ?_
      intro v' w3 hown' hgrow hnil
      have hN : ∀ j, (Value.ownBlock _) = some j → w.heap.size ≤ j := fun j hj => (hown2.lt j hj).1
      have hfr3 := (hfr2.alloc (by omega) _).own (by simp; omega) hgrow hN
      have hrd3 := (hr2.alloc _).own hgrow (fun j hj => by have := hN j hj; omega) (fun j hj => by have := hN j hj; omega)
      have HN := Lib.hid (And.intro hown' (And.intro hfr3 (And.intro hrd3 (show ∀ x ∈ l ++ [(tGuard s).1], ownG w3 w.heap.size x from fun x hx => by
        have hx2 : ownG w2 w.heap.size x := by
          rcases List.mem_append.1 hx with h | h
          · exact hall2.out x h
          · simp at h; subst h; exact HV.out
        exact trivial))))
      clear hown' hfr3 hrd3 hfr2 hgrow hN hr2 hown2 hnil
      go_wp2_with fail
      go_roundw
      case rel =>
        refine ⟨k + 1, by omega, by go_num, l ++ [(tGuard s).1], (tGuard s).2, by show _ = _; simp [hl.out], by simpa using HN.out.1, HN.out.2.2.2, HN.out.2.2.1, hby2, HN.out.2.1, ?_⟩
        show _ = _
        rw [hmany.out, show m - k = (m - (k + 1)) + 1 by omega]
        simp [tLoop]
      case measure => simp [intOf]; omega
    · obtain rfl : k = m := by omega
      go_wp2
      go_ret
      have hmm := hmany.out
      rw [Nat.sub_self] at hmm
      have hg : tList tGuard 20 st = (l.map (fun x : Gd => x), s) := by rw [HG.out, hmm]; simp [tLoop]
      refine ⟨_, l, rfl, by rw [hg], ?_, hall.out, ?_, hfr.out⟩
      · rw [hl.out]; exact hown
      · rw [hg]; exact hrd
theorem infoWr : (Tryz.prog.info? 73).map (fun i => (i.zero, i.size, i.bytes)) = some (some (.agg #[.string ⟨#[]⟩, .slice none 0 0, .bool false]), 3, 48) := by kernel_rfl
set_option maxRecDepth 100000 in
set_option maxHeartbeats 2000000 in
theorem getWrites_any (R : Nat) (st : List Int × Bool) (w0 w : World) (hr : RdC w0 w R st) (hB : Byt st) :
    Calls Tryz.prog 82 #[.pointer (some ⟨R, 0, none⟩), .int .i64 64, .func (.func 83) #[] #[]] w (ElsP w0 w R 73 3 cellsW (fun x : WrH => x.1) ownW (tList tWrite 64 st)) := by
  obtain ⟨i0, hi, hz0, hz1, hz2⟩ := info_parts infoWr
  have HI := Lib.hid (And.intro hi (And.intro hz0 (And.intro hz1 hz2)))
  clear hi hz0 hz1 hz2
  have hR := hr.lt
  have hO := hr.old
  have hlen : ∀ x : WrH, (cellsW x).length = 3 := fun x => rfl
  have HR := Lib.hid (And.intro hr (And.intro hB (And.intro (rest_many 64 st) (many_le 64 st))))
  have HG : Hid (tList tWrite 64 st = tLoop tWrite (tMany 64 st).1 (tMany 64 st).2) := rfl
  clear hr hB
  go_enter Tryz.func82, Tryz.ntmps82
  go_wp2_with fail
  refine (many_any R 64 st w0 _ HR.out.1 (by omega)).mono ?_
  rintro e w1 ⟨rfl, hr1, hg1⟩
  have hs1 := hg1.size
  have hm2 := HR.out.2.2.2
  have H1 := Lib.hid (And.intro hr1 (And.intro ((Fr.refl w.heap.size R w).grown (Nat.le_refl _) hg1) (HR.out.2.1.rest HR.out.2.2.1)))
  clear hr1 hg1 HR
  generalize tMany 64 st = y at *
  obtain ⟨m, s0⟩ := y
  dsimp only at *
  go_wp2_with fail
  go_loopw [7, 11] (fun u i wr => ∃ k : Nat, k ≤ m ∧ i = .int .i64 k ∧ ∃ (l : List WrH) (s : List Int × Bool), Hid (l.length = k) ∧ wr.ownsRow w.heap.size 73 3 u k (l.flatMap cellsW) ∧ Hid (∀ x ∈ l, ownW wr w.heap.size x) ∧ RdC w0 wr R s ∧ Hid (Byt s) ∧ Fr w.heap.size R w wr
      ∧ Hid (tLoop tWrite m s0 = (l.map (fun x : WrH => x.1) ++ (tLoop tWrite (m - k) s).1, (tLoop tWrite (m - k) s).2))) (fun _ i _ => m - (intOf i).toNat)
  case atStart => exact ⟨0, Nat.zero_le _, rfl, [], s0, rfl, World.ownsRow_nil _ _ _ _, fun x hx => by simp at hx, H1.out.1, H1.out.2.2, H1.out.2.1, rfl⟩
  case round =>
    obtain ⟨k, hk, rfl, l, s, hl, hown, hall, hrd, hby, hfr, hmany⟩ := hrel
    by_cases hlt : k < m
    · have hfs := hfr.size
      go_wp2_with fail
      refine (getWrite_any R s w0 _ hrd hby.out).mono ?_; rintro e w2 ⟨a, cap, rfl, hv0, hr2, hg2⟩; have hov : ownW w2 w.heap.size ((tWrite s).1, a, cap) := ValOwn.mono hv0 (by omega)
      have hs2 := hg2.size
      have hown2 := hown.kept hg2 (Or.inr (fun e => by have := (hown.lt R e).1; omega))
      have hall2 : Hid (∀ x ∈ l, ownW w2 w.heap.size x) := fun x hx => val_grown (hall.out x hx) hg2 (by omega)
      have HV := Lib.hid hov
      have hfr2 := hfr.grown (by omega) hg2
      have hby2 := hby.out.rest (rest_write s)
      have hl1 : k + 1 ≤ maxLen := by unfold maxLen; omega
      have hl2 : (k + 1) * 48 ≤ 140737488355328 := by omega
      have hB2 : w.heap.size ≤ w2.heap.size + 1 := by omega
      clear hrd hown hfr hg2 hov hall hby
      go_wp2_with (at_builtin; refine stand ?_)
      show wpList _ _ _ _ _ _
      refine wpList_append_own _ rfl _ _ 55 rfl w.heap.size 73 i0 (.agg #[.string ⟨#[]⟩, .slice none 0 0, .bool false]) 3 48 Tryz.underlying55 HI.out.1 HI.out.2.1 HI.out.2.2.1 HI.out.2.2.2 rfl (by decide) _ k (l.flatMap cellsW) rfl (hown2.alloc _) ⟨w2.heap.size, 0, none⟩ 1 1 (cellsW ((tWrite s).1, a, cap)) rfl (hlen _) (new_cells _ _ _) (by simp [cellsW, Value.oneCell']) hl1 hl2 (by simp; exact hB2) ?_
      intro v' w3 hown' hgrow hnil
      have hN : ∀ j, (Value.ownBlock _) = some j → w.heap.size ≤ j := fun j hj => (hown2.lt j hj).1
      have hfr3 := (hfr2.alloc (by omega) _).own (by simp; omega) hgrow hN
      have hrd3 := (hr2.alloc _).own hgrow (fun j hj => by have := hN j hj; omega) (fun j hj => by have := hN j hj; omega)
      have HN := Lib.hid (And.intro hown' (And.intro hfr3 (And.intro hrd3 (show ∀ x ∈ l ++ [((tWrite s).1, a, cap)], ownW w3 w.heap.size x from fun x hx => by
        have hx2 : ownW w2 w.heap.size x := by
          rcases List.mem_append.1 hx with h | h
          · exact hall2.out x h
          · simp at h; subst h; exact HV.out
        exact val_row hx2 hown2 hgrow (by decide)))))
      clear hown' hfr3 hrd3 hfr2 hgrow hN hr2 hown2 hnil
      go_wp2_with fail
      go_roundw
      case rel =>
        refine ⟨k + 1, by omega, by go_num, l ++ [((tWrite s).1, a, cap)], (tWrite s).2, by show _ = _; simp [hl.out], by simpa using HN.out.1, HN.out.2.2.2, HN.out.2.2.1, hby2, HN.out.2.1, ?_⟩
        show _ = _
        rw [hmany.out, show m - k = (m - (k + 1)) + 1 by omega]
        simp [tLoop]
      case measure => simp [intOf]; omega
    · obtain rfl : k = m := by omega
      go_wp2
      go_ret
      have hmm := hmany.out
      rw [Nat.sub_self] at hmm
      have hg : tList tWrite 64 st = (l.map (fun x : WrH => x.1), s) := by rw [HG.out, hmm]; simp [tLoop]
      refine ⟨_, l, rfl, by rw [hg], ?_, hall.out, ?_, hfr.out⟩
      · rw [hl.out]; exact hown
      · rw [hg]; exact hrd
end Go.Proofs.YtaleceobkbgcnaaGreat
