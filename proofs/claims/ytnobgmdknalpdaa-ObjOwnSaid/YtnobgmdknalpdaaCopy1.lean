/-
  The contracts of obj's copies of lists, and of nodes. Their conditions: how many bytes a list takes.
-/
import Derived.Test.YtnobgmdknalpdaaOpen1
import Derived.Test.YtnobgmdknalpdaaLReg
import Derived.Test.YtnobgmdknalpdaaLAgain0
set_option linter.unusedSimpArgs false
set_option linter.unusedVariables false
namespace Go.Proofs.Ytnobgmdknalpdaa
open Go.RowKit

theorem infoI4 : (Try.prog.info? 3).map (fun i => (i.zero, i.size, i.bytes)) = some (some (.int .i64 0), 1, 8) := by kernel_rfl
theorem infoS4 : (Try.prog.info? 9).map (fun i => (i.zero, i.size, i.bytes)) = some (some (.string ⟨#[]⟩), 1, 16) := by kernel_rfl
abbrev cellsI (x : Int) : List Value := [.int .i64 x]
abbrev cellsS (x : ByteArray) : List Value := [.string x]
theorem one1I (l : List Int) : ∀ u ∈ l.flatMap cellsI, u.oneCell' = true := by
  intro u hu
  obtain ⟨x, _, hx⟩ := List.mem_flatMap.1 hu
  simp at hx
  subst hx; rfl
theorem one1S (l : List ByteArray) : ∀ u ∈ l.flatMap cellsS, u.oneCell' = true := by
  intro u hu
  obtain ⟨x, _, hx⟩ := List.mem_flatMap.1 hu
  simp at hx
  subst hx; rfl
theorem newsI {w : World} {a : Option Addr} {l : List Int} (h : AtI w a l) : ∀ b, a = some b → ∀ j u, (l.flatMap cellsI)[j]? = some u → w.cell? (b.add j) = some u := by
  intro b hb j u hu
  have hpos : 0 < l.length := by
    rcases Nat.eq_zero_or_pos l.length with e | e
    · rw [List.eq_nil_of_length_eq_zero e] at hu; simp at hu
    · exact e
  obtain ⟨b0, off, rfl, _, _⟩ := h.2 0 hpos
  cases hb
  refine row_cells (enc := cellsI) (sz := 1) (fun _ => rfl) (by decide) (0 : Int) (fun i hi j hj => ?_) j u hu
  obtain ⟨b', off', ha', _, c0⟩ := h.2 i hi
  simp at ha'
  obtain ⟨rfl, rfl⟩ := ha'
  match j, hj with
  | 0, _ => rw [Nat.mul_one]; exact c0
theorem newsS {w : World} {a : Option Addr} {l : List ByteArray} (h : At1 w a l) : ∀ b, a = some b → ∀ j u, (l.flatMap cellsS)[j]? = some u → w.cell? (b.add j) = some u := by
  intro b hb j u hu
  have hpos : 0 < l.length := by
    rcases Nat.eq_zero_or_pos l.length with e | e
    · rw [List.eq_nil_of_length_eq_zero e] at hu; simp at hu
    · exact e
  obtain ⟨b0, off, rfl, _, _⟩ := h.2 0 hpos
  cases hb
  refine row_cells (enc := cellsS) (sz := 1) (fun _ => rfl) (by decide) ByteArray.empty (fun i hi j hj => ?_) j u hu
  obtain ⟨b', off', ha', _, c0⟩ := h.2 i hi
  simp at ha'
  obtain ⟨rfl, rfl⟩ := ha'
  match j, hj with
  | 0, _ => rw [Nat.mul_one]; exact c0
set_option maxHeartbeats 1000000 in
theorem copyI_any (a : Option Addr) (l : List Int) (cap : Nat) (w : World) (hl : AtI w a l) (hc : CapOk a l.length cap) (hb : l.length * 8 ≤ 140737488355328) :
    Calls Try.prog 28 #[.slice a l.length cap] w fun e w' => ∃ a' c', e = .returned (.slice a' l.length c') ∧ w'.ownsRow w.heap.size 3 1 (.slice a' l.length c') l.length (l.flatMap cellsI) ∧ Below w.heap.size w w' := by
  obtain ⟨iX, h0, h1, h2, h3⟩ := info_parts infoI4
  have hm : l.length ≤ maxLen := Nat.le_trans hc.1 hc.2.1
  go_enter Try.func28, Try.ntmps28
  go_wp2_with (at_builtin; refine stand ?_)
  show wpList _ _ _ _ _ _
  refine wpList_append_opt rfl _ _ 24 rfl w.heap.size 3 iX _ 1 8 Try.underlying24 h0 h1 h2 h3 rfl (by decide) (.slice none 0 0) 0 [] rfl (World.ownsRow_nil _ _ 3 1) a l.length cap (l.flatMap cellsI) rfl (fun h => by have := hc.2.2 h; have := hc.1; omega) (by rw [flat_len (sz := 1) (fun _ => rfl)]) (newsI hl) (one1I _) (by rw [Nat.zero_add]; exact hm) (by rw [Nat.zero_add]; exact hb) (Nat.le_refl _) ?_
  intro v' w' o' g'
  rw [Nat.zero_add, List.nil_append] at o'
  obtain ⟨a', c', rfl, _, _, _⟩ := own_len o'
  go_wp2
  go_ret
  exact ⟨a', c', rfl, o', grown_below g' (World.ownsRow_nil _ _ 3 1) (Nat.le_refl _)⟩
set_option maxHeartbeats 1000000 in
theorem copyS_any (a : Option Addr) (l : List ByteArray) (cap : Nat) (w : World) (hl : At1 w a l) (hc : CapOk a l.length cap) (hb : l.length * 16 ≤ 140737488355328) :
    Calls Try.prog 83 #[.slice a l.length cap] w fun e w' => ∃ a' c', e = .returned (.slice a' l.length c') ∧ w'.ownsRow w.heap.size 9 1 (.slice a' l.length c') l.length (l.flatMap cellsS) ∧ Below w.heap.size w w' := by
  obtain ⟨iX, h0, h1, h2, h3⟩ := info_parts infoS4
  have hm : l.length ≤ maxLen := Nat.le_trans hc.1 hc.2.1
  go_enter Try.func83, Try.ntmps83
  go_wp2_with (at_builtin; refine stand ?_)
  show wpList _ _ _ _ _ _
  refine wpList_append_opt rfl _ _ 38 rfl w.heap.size 9 iX _ 1 16 Try.underlying38 h0 h1 h2 h3 rfl (by decide) (.slice none 0 0) 0 [] rfl (World.ownsRow_nil _ _ 9 1) a l.length cap (l.flatMap cellsS) rfl (fun h => by have := hc.2.2 h; have := hc.1; omega) (by rw [flat_len (sz := 1) (fun _ => rfl)]) (newsS hl) (one1S _) (by rw [Nat.zero_add]; exact hm) (by rw [Nat.zero_add]; exact hb) (Nat.le_refl _) ?_
  intro v' w' o' g'
  rw [Nat.zero_add, List.nil_append] at o'
  obtain ⟨a', c', rfl, _, _, _⟩ := own_len o'
  go_wp2
  go_ret
  exact ⟨a', c', rfl, o', grown_below g' (World.ownsRow_nil _ _ 9 1) (Nat.le_refl _)⟩
set_option maxHeartbeats 1000000 in
theorem copyP_any (a : Option Addr) (l : List Str2) (cap : Nat) (w : World) (hl : At2 w a l) (hc : CapOk a l.length cap) (hb : l.length * 32 ≤ 140737488355328) :
    Calls Try.prog 29 #[.slice a l.length cap] w fun e w' => ∃ a' c', e = .returned (.slice a' l.length c') ∧ w'.ownsRow w.heap.size 36 2 (.slice a' l.length c') l.length (l.flatMap cells2) ∧ Below w.heap.size w w' := by
  obtain ⟨iX, h0, h1, h2, h3⟩ := info_parts infoP2
  have hm : l.length ≤ maxLen := Nat.le_trans hc.1 hc.2.1
  go_enter Try.func29, Try.ntmps29
  go_wp2_with (at_builtin; refine stand ?_)
  show wpList _ _ _ _ _ _
  refine wpList_append_opt rfl _ _ 25 rfl w.heap.size 36 iX _ 2 32 Try.underlying25 h0 h1 h2 h3 rfl (by decide) (.slice none 0 0) 0 [] rfl (World.ownsRow_nil _ _ 36 2) a l.length cap (l.flatMap cells2) rfl (fun h => by have := hc.2.2 h; have := hc.1; omega) (by rw [flat_len (sz := 2) (fun _ => rfl)]) (news2 hl) (one2 _) (by rw [Nat.zero_add]; exact hm) (by rw [Nat.zero_add]; exact hb) (Nat.le_refl _) ?_
  intro v' w' o' g'
  rw [Nat.zero_add, List.nil_append] at o'
  obtain ⟨a', c', rfl, _, _, _⟩ := own_len o'
  go_wp2
  go_ret
  exact ⟨a', c', rfl, o', grown_below g' (World.ownsRow_nil _ _ 36 2) (Nat.le_refl _)⟩
set_option maxHeartbeats 1000000 in
theorem copyN_any (a : Option Addr) (l : List Str2) (cap : Nat) (w : World) (hl : At2 w a l) (hc : CapOk a l.length cap) (hb : l.length * 32 ≤ 140737488355328) :
    Calls Try.prog 32 #[.slice a l.length cap] w fun e w' => ∃ a' c', e = .returned (.slice a' l.length c') ∧ w'.ownsRow w.heap.size 44 2 (.slice a' l.length c') l.length (l.flatMap cells2) ∧ Below w.heap.size w w' := by
  obtain ⟨iX, h0, h1, h2, h3⟩ := info_parts infoN2
  have hm : l.length ≤ maxLen := Nat.le_trans hc.1 hc.2.1
  go_enter Try.func32, Try.ntmps32
  go_wp2_with (at_builtin; refine stand ?_)
  show wpList _ _ _ _ _ _
  refine wpList_append_opt rfl _ _ 30 rfl w.heap.size 44 iX _ 2 32 Try.underlying30 h0 h1 h2 h3 rfl (by decide) (.slice none 0 0) 0 [] rfl (World.ownsRow_nil _ _ 44 2) a l.length cap (l.flatMap cells2) rfl (fun h => by have := hc.2.2 h; have := hc.1; omega) (by rw [flat_len (sz := 2) (fun _ => rfl)]) (news2 hl) (one2 _) (by rw [Nat.zero_add]; exact hm) (by rw [Nat.zero_add]; exact hb) (Nat.le_refl _) ?_
  intro v' w' o' g'
  rw [Nat.zero_add, List.nil_append] at o'
  obtain ⟨a', c', rfl, _, _, _⟩ := own_len o'
  go_wp2
  go_ret
  exact ⟨a', c', rfl, o', grown_below g' (World.ownsRow_nil _ _ 44 2) (Nat.le_refl _)⟩
set_option maxHeartbeats 1000000 in
theorem copyL_any (a : Option Addr) (l : List Tol) (cap : Nat) (w : World) (hl : AtL w a l) (hc : CapOk a l.length cap) (hb : l.length * 40 ≤ 140737488355328) :
    Calls Try.prog 31 #[.slice a l.length cap] w fun e w' => ∃ a' c', e = .returned (.slice a' l.length c') ∧ w'.ownsRow w.heap.size 42 3 (.slice a' l.length c') l.length (l.flatMap cells3) ∧ Below w.heap.size w w' := by
  obtain ⟨iX, h0, h1, h2, h3⟩ := info_parts infoL2
  have hm : l.length ≤ maxLen := Nat.le_trans hc.1 hc.2.1
  go_enter Try.func31, Try.ntmps31
  go_wp2_with (at_builtin; refine stand ?_)
  show wpList _ _ _ _ _ _
  refine wpList_append_opt rfl _ _ 27 rfl w.heap.size 42 iX _ 3 40 Try.underlying27 h0 h1 h2 h3 rfl (by decide) (.slice none 0 0) 0 [] rfl (World.ownsRow_nil _ _ 42 3) a l.length cap (l.flatMap cells3) rfl (fun h => by have := hc.2.2 h; have := hc.1; omega) (by rw [flat_len (sz := 3) (fun _ => rfl)]) (news3 hl) (one3 _) (by rw [Nat.zero_add]; exact hm) (by rw [Nat.zero_add]; exact hb) (Nat.le_refl _) ?_
  intro v' w' o' g'
  rw [Nat.zero_add, List.nil_append] at o'
  obtain ⟨a', c', rfl, _, _, _⟩ := own_len o'
  go_wp2
  go_ret
  exact ⟨a', c', rfl, o', grown_below g' (World.ownsRow_nil _ _ 42 3) (Nat.le_refl _)⟩

theorem own_setc {w : World} {N : Nat} {t : TypeId} {sz : Nat} {v : Value} {n : Nat} {xs : List Value} (h : w.ownsRow N t sz v n xs) {A : Nat} (hA : A < N) (j : Nat) (u : Value) : (w.setCell ⟨A, j, none⟩ u).ownsRow N t sz v n xs :=
  World.ownsRow.kept h (grown_set w A j u) (by
    cases hv : v.ownBlock with
    | none => exact Or.inl rfl
    | some g => exact Or.inr (fun e => by have := (h.lt g hv).1; cases e; omega))
/-- How many bytes a node's lists may take. -/
structure NodeSz (p : NodeD) : Prop where
  labels : p.labels.length * 32 ≤ 140737488355328
  taints : p.taints.length * 32 ≤ 140737488355328
def NodeRows (w : World) (N : Nat) (p : NodeD) (h : NodeH) : Prop := w.ownsRow N 36 2 (.slice h.la p.labels.length h.lc) p.labels.length (p.labels.flatMap cells2) ∧ w.ownsRow N 44 2 (.slice h.ta p.taints.length h.tc) p.taints.length (p.taints.flatMap cells2)
theorem NodeRows.at {w : World} {N : Nat} {p : NodeD} {h : NodeH} (ho : NodeRows w N p h) : NodeAt w p h := ⟨own_at2 ho.1 rfl, owned_le ho.1, own_at2 ho.2 rfl, owned_le ho.2⟩
set_option maxRecDepth 100000 in
set_option maxHeartbeats 4000000 in
theorem copyNode_any (p : NodeD) (h : NodeH) (w : World) (hp : NodeAt w p h) (hl : CapOk h.la p.labels.length h.lc) (ht : CapOk h.ta p.taints.length h.tc) (hz : NodeSz p) :
    Calls Try.prog 8 #[nodeV p h] w fun e w' => ∃ k, e = .returned (nodeV p k) ∧ NodeRows w' w.heap.size p k ∧ Below w.heap.size w w' := by
  obtain ⟨la, lc, ta, tc⟩ := h
  obtain ⟨p1, p2, p3, p4⟩ := hp
  simp only at p1 p3 hl ht
  go_enter Try.func8, Try.ntmps8
  go_wp2_with fail
  have hb0 : Below w.heap.size w ((w.alloc (nodeBox p ⟨la, lc, ta, tc⟩)).alloc (.cells #[.string ⟨#[]⟩, .int .i64 0, .int .i64 0, .int .i64 0, .slice none 0 0, .slice none 0 0] 32)) := ((Below.refl _ _).alloc (Nat.le_refl _) _).alloc (by simp) _
  refine Calls.mono (copyP_any la p.labels lc _ (p1.below hb0) hl hz.labels) ?_
  rintro e w1 ⟨a1, c1, rfl, o1, hb1⟩
  have kA := (hb1.block w.heap.size (by simp <;> omega)).trans (heap_allocC w _ _)
  have kB := (hb1.block (w.heap.size + 1) (by simp)).trans (heap_allocD w _ _)
  have hz1 := hb1.size
  simp at hz1 o1
  have bw1 : Below w.heap.size w w1 := hb0.trans (hb1.mono (by simp; omega))
  have cA := fun o => cell_of_obj kA o
  have fA := fun o => free_of_obj kA o
  have kA2 : (w1.setCell ⟨w.heap.size, 4, none⟩ (.slice a1 p.labels.length c1)).heap[w.heap.size]? = some (.cells #[.string p.name, .int .i64 p.r0, .int .i64 p.r1, .int .i64 p.r2, .slice a1 p.labels.length c1, .slice ta p.taints.length tc] 32) := by have h := obj_setN (j := 4) (v := .slice a1 p.labels.length c1) kA rfl; simpa using h
  have kB2 : (w1.setCell ⟨w.heap.size, 4, none⟩ (.slice a1 p.labels.length c1)).heap[w.heap.size + 1]? = some (.cells #[.string ⟨#[]⟩, .int .i64 0, .int .i64 0, .int .i64 0, .slice none 0 0, .slice none 0 0] 32) := by rw [heap_setCell_other w1 ⟨w.heap.size, 4, none⟩ (w.heap.size + 1) _ (by simp)]; exact kB
  have o1' := own_setc o1 (A := w.heap.size) (by omega) 4 (.slice a1 p.labels.length c1)
  have bw2 : Below w.heap.size w (w1.setCell ⟨w.heap.size, 4, none⟩ (.slice a1 p.labels.length c1)) := bw1.setCell (Nat.le_refl _) _
  have K2 := Lib.hid (And.intro kA2 (And.intro kB2 (And.intro o1' bw2)))
  clear hb0 hb1 kA kB o1 bw1 kA2 kB2 o1' bw2 p1 hl
  go_wp2_with fail
  refine Calls.mono (copyN_any ta p.taints tc _ (p3.below K2.out.2.2.2) ht hz.taints) ?_
  rintro e w2 ⟨a2, c2, rfl, o2, hb2⟩
  have hz2 := hb2.size
  simp at hz2 o2
  have kA := (hb2.block w.heap.size (by simp; omega)).trans K2.out.1
  have kB := (hb2.block (w.heap.size + 1) (by simp; omega)).trans K2.out.2.1
  have oo1 := own_below K2.out.2.2.1 hb2
  have bw3 := K2.out.2.2.2.trans (hb2.mono (by simp; omega))
  have cA2 := fun o => cell_of_obj kA o
  have fA2 := fun o => free_of_obj kA o
  have cB2 := fun o => cell_of_obj kB o
  have fB2 := fun o => free_of_obj kB o
  have K3 := Lib.hid (And.intro oo1 (And.intro o2 (And.intro bw3 kB)))
  clear K2 hb2 kA kB oo1 o2 bw3 cA fA
  go_wp2
  have q0 : (w2.setCell ⟨w.heap.size, 5, none⟩ (.slice a2 p.taints.length c2)).heap[w.heap.size + 1]? = some (.cells #[.string ⟨#[]⟩, .int .i64 0, .int .i64 0, .int .i64 0, .slice none 0 0, .slice none 0 0] 32) := by rw [heap_setCell_other w2 ⟨w.heap.size, 5, none⟩ (w.heap.size + 1) _ (by simp)]; exact K3.out.2.2.2
  have q6 := obj_setN (j := 5) (v := .slice a2 p.taints.length c2) (obj_setN (j := 4) (v := .slice a1 p.labels.length c1) (obj_setN (j := 3) (v := .int .i64 p.r2) (obj_setN (j := 2) (v := .int .i64 p.r1) (obj_setN (j := 1) (v := .int .i64 p.r0) (obj_setN (j := 0) (v := .string p.name) q0 rfl) rfl) rfl) rfl) rfl) rfl
  refine bodyPost_ret (v := nodeV p ⟨a1, c1, a2, c2⟩) (results_cell_row Try.results8 _ _ (w.heap.size + 1) 32 _ (0, 0) _ rfl (by simpa using q6) Try.underlying32 rfl (by kernel_rfl)) rfl ?_
  refine ⟨⟨a1, c1, a2, c2⟩, rfl, ⟨?_, ?_⟩, ?_⟩
  · refine World.ownsRow.mono (base := w.heap.size + 1 + 1) ?_ (by omega)
    iterate 7 refine own_setc ?_ (by omega) _ _
    exact K3.out.1
  · refine World.ownsRow.mono (base := w1.heap.size) ?_ (by omega)
    iterate 7 refine own_setc ?_ (by omega) _ _
    exact K3.out.2.1
  · exact (((((((K3.out.2.2.1.setCell (Nat.le_refl _) _).setCell (by simp) _).setCell (by simp) _).setCell (by simp) _).setCell (by simp) _).setCell (by simp) _).setCell (by simp) _)
end Go.Proofs.Ytnobgmdknalpdaa
