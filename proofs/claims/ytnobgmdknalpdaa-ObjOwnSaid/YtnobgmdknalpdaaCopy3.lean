/-
  The contract of obj.CopyPod. Its conditions: how many bytes the lists take.
-/
import Derived.Test.YtnobgmdknalpdaaCopy2
set_option linter.unusedSimpArgs false
set_option linter.unusedVariables false
namespace Go.Proofs.Ytnobgmdknalpdaa
open Go.RowKit

theorem AtTH.below {w w1 : World} {a : Option Addr} {L : List TrmH} (h : AtTH w a L) (hb : Below w.heap.size w w1) : AtTH w1 a L := fun b e j u hu => cell_laterA hb (h b e j u hu)
theorem HeldC.below {w w1 : World} {L : List TrmH} (h : HeldC w L) (hb : Below w.heap.size w w1) : HeldC w1 L := fun i hi => ⟨(h i hi).1.below hb, (h i hi).2⟩
/-- Two lists in different blocks. -/
def Apart (r s : RowF) : Prop := r.v.ownBlock = none ∨ r.v.ownBlock ≠ s.v.ownBlock
theorem Apart.symm {r s : RowF} (h : Apart r s) : Apart s r := by
  unfold Apart at *
  rcases h with h | h
  · cases hs : s.v.ownBlock with
    | none => exact Or.inl rfl
    | some g => exact Or.inr (by rw [h]; simp)
  · exact Or.inr fun e => h e.symm
theorem apart_later {w1 w2 : World} {N M : Nat} {r s : RowF} (hr : r.In w1 N) (hs : s.In w2 M) (hM : w1.heap.size ≤ M) : Apart s r := by
  unfold Apart
  cases hb : s.v.ownBlock with
  | none => exact Or.inl rfl
  | some g =>
    refine Or.inr fun e => ?_
    have l1 := (World.ownsRow.lt hs g hb).1
    have l2 := (World.ownsRow.lt hr g e.symm).2
    omega
/-- A list of terms that is to be copied: where its Vals lie, and how many bytes all take. -/
structure TrmsC (w : World) (a : Option Addr) (l : List Trm) (cap : Nat) : Prop where
  cap : CapOk a l.length cap
  sz : l.length * 48 ≤ 140737488351232
  held : ∃ L : List TrmH, L.map (·.1) = l ∧ AtTH w a L ∧ HeldC w L
theorem TrmsC.below {w w1 : World} {a : Option Addr} {l : List Trm} {cap : Nat} (h : TrmsC w a l cap) (hb : Below w.heap.size w w1) : TrmsC w1 a l cap := by
  obtain ⟨h1, h2, L, e, h3, h4⟩ := h
  exact ⟨h1, h2, L, e, h3.below hb, h4.below hb⟩
theorem copyTerms_rows (a : Option Addr) (l : List Trm) (cap : Nat) (w : World) (h : TrmsC w a l cap) :
    Calls Try.prog 30 #[.slice a l.length cap] w fun e w' => ∃ a' c' L', e = .returned (.slice a' l.length c') ∧ L'.map (·.1) = l ∧ (∀ r ∈ rowsT a' c' L', r.In w' w.heap.size) ∧ (rowsT a' c' L').Pairwise Apart ∧ Below w.heap.size w w' := by
  obtain ⟨hc, hz, L, rfl, h3, h4⟩ := h
  rw [List.length_map] at hc hz ⊢
  refine Calls.mono (copyTerms_any a L cap w h3 hc (Nat.le_trans hz (by decide)) h4) ?_
  rintro e w' ⟨a', c', L', rfl, he, ho, hv, hp, hb⟩
  refine ⟨a', c', L', rfl, he, ?_, ?_, hb⟩
  · intro r hr
    simp only [rowsT, List.mem_cons, List.mem_map] at hr
    rcases hr with rfl | ⟨x, hx, rfl⟩
    · exact ho
    · exact hv x hx
  · rw [rowsT, List.pairwise_cons]
    refine ⟨fun r hr => ?_, ?_⟩
    · obtain ⟨x, hx, rfl⟩ := List.mem_map.1 hr
      exact own_apart ho (hv x hx) (by show 9 ≠ 40; decide)
    · rw [List.pairwise_map]
      refine hp.imp fun {x y} hxy => ?_
      unfold Apart
      cases hb : (rowS x.2.1 x.2.2 x.1.vals).v.ownBlock with
      | none => exact Or.inl rfl
      | some g => exact Or.inr fun e => Nat.lt_irrefl _ (hxy g g hb e.symm)

/-- A pod that is to be copied. -/
structure PodC (w : World) (p : PodD) (h : PodH) : Prop where
  ports : AtI w h.pa p.ports ∧ CapOk h.pa p.ports.length h.pc ∧ p.ports.length * 8 ≤ 140737488351232
  labels : At2 w h.la p.labels ∧ CapOk h.la p.labels.length h.lc ∧ p.labels.length * 32 ≤ 140737488351232
  sel : TrmsC w h.sa p.sel h.sc
  tols : AtL w h.ta p.tols ∧ CapOk h.ta p.tols.length h.tc ∧ p.tols.length * 40 ≤ 140737488351232
  anti : TrmsC w h.aa p.anti h.ac
  even : TrmsC w h.ea p.even h.ec
abbrev podCs (p : PodD) (h : PodH) : Array Value := #[.string p.name, .int .i64 p.uid, .int .i64 p.prio, .int .i64 p.r0, .int .i64 p.r1, .int .i64 p.r2, .slice h.pa p.ports.length h.pc, .slice h.la p.labels.length h.lc, .slice h.sa p.sel.length h.sc,
  .slice h.ta p.tols.length h.tc, .string p.topo, .slice h.aa p.anti.length h.ac, .int .i64 p.skew, .slice h.ea p.even.length h.ec, .string p.node, .int .i64 p.term]
/-- Where a copy of a pod stands: its block, the result's block, the lists that are copied. -/
structure CP (w W : World) (p : PodD) (h : PodH) (Rs : List RowF) : Prop where
  a : W.heap[w.heap.size]? = some (.cells (podCs p h) 29)
  b : W.heap[w.heap.size + 1]? = some (.cells zeroCells 29)
  c : Below w.heap.size w W
  s : w.heap.size + 2 ≤ W.heap.size
  r : ∀ r ∈ Rs, r.In W w.heap.size
  p : Rs.Pairwise Apart
theorem in_setc {w : World} {N : Nat} {r : RowF} (h : r.In w N) {A : Nat} (hA : A < N) (j : Nat) (u : Value) : r.In (w.setCell ⟨A, j, none⟩ u) N := own_setc h hA j u
theorem CP.step {w W W2 : World} {p : PodD} {h h' : PodH} {Rs R2 : List RowF} (H : CP w W p h Rs) (hb : Below W.heap.size W W2) (hr : ∀ r ∈ R2, r.In W2 W.heap.size) (hp : R2.Pairwise Apart) (j : Nat) (v : Value) (hv : (podCs p h).setIfInBounds j v = podCs p h')
    (ht : ∀ r ∈ Rs, 29 ≠ r.t) : CP w (W2.setCell ⟨w.heap.size, j, none⟩ v) p h' (R2 ++ Rs) := by
  have hs := H.s
  have hs2 := hb.size
  have kA := (hb.block w.heap.size (by omega)).trans H.a
  have kB := (hb.block (w.heap.size + 1) (by omega)).trans H.b
  have rr : ∀ r ∈ Rs, r.In W2 w.heap.size := fun r hr => own_below (H.r r hr) hb
  refine ⟨?_, ?_, (H.c.trans (hb.mono (by omega))).setCell (Nat.le_refl _) _, by simp; omega, ?_, ?_⟩
  · rw [← hv]; exact obj_setN (j := j) (v := v) kA rfl
  · rw [heap_setCell_other W2 ⟨w.heap.size, j, none⟩ (w.heap.size + 1) _ (by simp)]; exact kB
  · intro r hr'
    rcases List.mem_append.1 hr' with h1 | h1
    · exact World.ownsRow.mono (in_setc (hr r h1) (by omega) j v) (by omega)
    · exact World.ownsRow.kept (rr r h1) (grown_set W2 w.heap.size j v) (Or.inr (own_ne (rr r h1) ⟨_, _, kA⟩ (ht r h1)))
  · rw [List.pairwise_append]
    exact ⟨hp, H.p, fun r h1 s h2 => apart_later (H.r s h2) (hr r h1) (Nat.le_refl _)⟩
/-- A copy of a pod, in memory of its own. -/
def PodNew (w : World) (N : Nat) (p : PodD) (h : PodH) : Prop := ∃ Ls La Le, Ls.map (·.1) = p.sel ∧ La.map (·.1) = p.anti ∧ Le.map (·.1) = p.even ∧ (∀ r ∈ podRows p h Ls La Le, r.In w N) ∧ (podRows p h Ls La Le).Pairwise Apart
theorem PodNew.own {w : World} {N : Nat} {p : PodD} {h : PodH} (hn : PodNew w N p h) : PodOwn w N p h := by
  obtain ⟨Ls, La, Le, e1, e2, e3, hr, _⟩ := hn
  exact ⟨Ls, La, Le, e1, e2, e3, hr⟩
theorem one_row {r : RowF} {w : World} {N : Nat} (h : r.In w N) : ∀ s ∈ [r], s.In w N := fun s hs => by rw [List.mem_singleton] at hs; subst hs; exact h
theorem trows_ty {a : Option Addr} {c : Nat} {L : List TrmH} : ∀ r ∈ rowsT a c L, 29 ≠ r.t := by
  intro r hr
  simp only [rowsT, List.mem_cons, List.mem_map] at hr
  rcases hr with rfl | ⟨x, _, rfl⟩
  all_goals (intro e; simp [rowT, rowS] at e)
theorem app_ty {R S : List RowF} (h1 : ∀ r ∈ R, 29 ≠ r.t) (h2 : ∀ r ∈ S, 29 ≠ r.t) : ∀ r ∈ R ++ S, 29 ≠ r.t := fun r hr => (List.mem_append.1 hr).elim (h1 r) (h2 r)
theorem one_ty {r : RowF} (h : 29 ≠ r.t) : ∀ s ∈ [r], 29 ≠ s.t := fun s hs => by rw [List.mem_singleton] at hs; subst hs; exact h
set_option maxRecDepth 100000 in
set_option maxHeartbeats 8000000 in
theorem copyPod_any (p : PodD) (h : PodH) (w : World) (hp : PodC w p h) :
    Calls Try.prog 7 #[podV p h] w fun e w' => ∃ k, e = .returned (podV p k) ∧ PodNew w' w.heap.size p k ∧ Below w.heap.size w w' := by
  obtain ⟨pa, pc, la, lc, sa, sc, ta, tc, aa, ac, ea, ec⟩ := h
  obtain ⟨x1, x2, x3, x4, x5, x6⟩ := hp
  simp only at x1 x2 x3 x4 x5 x6
  have K0 : Hid (CP w ((w.alloc (podBox p ⟨pa, pc, la, lc, sa, sc, ta, tc, aa, ac, ea, ec⟩)).alloc (.cells zeroCells 29)) p ⟨pa, pc, la, lc, sa, sc, ta, tc, aa, ac, ea, ec⟩ []) :=
    ⟨heap_allocC w _ _, heap_allocD w _ _, ((Below.refl _ _).alloc (Nat.le_refl _) _).alloc (by simp) _, by simp, fun r h => by simp at h, List.Pairwise.nil⟩
  have y0 : ∀ r ∈ ([] : List RowF), 29 ≠ r.t := fun r h => by simp at h
  go_enter Try.func7, Try.ntmps7
  go_wp2_with fail
  refine Calls.mono (copyI_any pa p.ports pc _ (x1.1.below K0.out.c) x1.2.1 (Nat.le_trans x1.2.2 (by decide))) ?_
  rintro e w1 ⟨a1, c1, rfl, o1, hb1⟩
  have y1 := app_ty (R := [rowI a1 c1 p.ports]) (one_ty (by show 29 ≠ 3; decide)) y0
  have k1 := (hb1.block w.heap.size (Nat.lt_of_lt_of_le (Nat.lt_succ_of_lt (Nat.lt_succ_self _)) K0.out.s)).trans K0.out.a
  have cA1 := fun o => cell_of_obj k1 o
  have fA1 := fun o => free_of_obj k1 o
  have K1 := Lib.hid (CP.step (h' := ⟨a1, c1, la, lc, sa, sc, ta, tc, aa, ac, ea, ec⟩) (R2 := [rowI a1 c1 p.ports]) K0.out hb1 (one_row o1) (List.pairwise_singleton _ _) 6 (.slice a1 p.ports.length c1) rfl y0)
  clear k1 hb1 o1 K0
  go_wp2_with fail
  refine Calls.mono (copyP_any la p.labels lc _ (x2.1.below K1.out.c) x2.2.1 (Nat.le_trans x2.2.2 (by decide))) ?_
  rintro e w2 ⟨a2, c2, rfl, o2, hb2⟩
  have y2 := app_ty (R := [rowP 36 a2 c2 p.labels]) (one_ty (by show 29 ≠ 36; decide)) y1
  have k2 := (hb2.block w.heap.size (Nat.lt_of_lt_of_le (Nat.lt_succ_of_lt (Nat.lt_succ_self _)) K1.out.s)).trans K1.out.a
  have cA2 := fun o => cell_of_obj k2 o
  have fA2 := fun o => free_of_obj k2 o
  have K2 := Lib.hid (CP.step (h' := ⟨a1, c1, a2, c2, sa, sc, ta, tc, aa, ac, ea, ec⟩) (R2 := [rowP 36 a2 c2 p.labels]) K1.out hb2 (one_row o2) (List.pairwise_singleton _ _) 7 (.slice a2 p.labels.length c2) rfl y1)
  clear k2 hb2 o2 K1
  go_wp2_with fail
  refine Calls.mono (copyTerms_rows sa p.sel sc _ (x3.below K2.out.c)) ?_
  rintro e w3 ⟨a3, c3, L3, rfl, e3, o3, p3, hb3⟩
  have y3 := app_ty (R := rowsT a3 c3 L3) trows_ty y2
  have k3 := (hb3.block w.heap.size (Nat.lt_of_lt_of_le (Nat.lt_succ_of_lt (Nat.lt_succ_self _)) K2.out.s)).trans K2.out.a
  have cA3 := fun o => cell_of_obj k3 o
  have fA3 := fun o => free_of_obj k3 o
  have K3 := Lib.hid (CP.step (h' := ⟨a1, c1, a2, c2, a3, c3, ta, tc, aa, ac, ea, ec⟩) (R2 := rowsT a3 c3 L3) K2.out hb3 o3 p3 8 (.slice a3 p.sel.length c3) rfl y2)
  clear k3 hb3 o3 K2
  go_wp2_with fail
  refine Calls.mono (copyL_any ta p.tols tc _ (x4.1.below K3.out.c) x4.2.1 (Nat.le_trans x4.2.2 (by decide))) ?_
  rintro e w4 ⟨a4, c4, rfl, o4, hb4⟩
  have y4 := app_ty (R := [rowL a4 c4 p.tols]) (one_ty (by show 29 ≠ 42; decide)) y3
  have k4 := (hb4.block w.heap.size (Nat.lt_of_lt_of_le (Nat.lt_succ_of_lt (Nat.lt_succ_self _)) K3.out.s)).trans K3.out.a
  have cA4 := fun o => cell_of_obj k4 o
  have fA4 := fun o => free_of_obj k4 o
  have K4 := Lib.hid (CP.step (h' := ⟨a1, c1, a2, c2, a3, c3, a4, c4, aa, ac, ea, ec⟩) (R2 := [rowL a4 c4 p.tols]) K3.out hb4 (one_row o4) (List.pairwise_singleton _ _) 9 (.slice a4 p.tols.length c4) rfl y3)
  clear k4 hb4 o4 K3
  go_wp2_with fail
  refine Calls.mono (copyTerms_rows aa p.anti ac _ (x5.below K4.out.c)) ?_
  rintro e w5 ⟨a5, c5, L5, rfl, e5, o5, p5, hb5⟩
  have y5 := app_ty (R := rowsT a5 c5 L5) trows_ty y4
  have k5 := (hb5.block w.heap.size (Nat.lt_of_lt_of_le (Nat.lt_succ_of_lt (Nat.lt_succ_self _)) K4.out.s)).trans K4.out.a
  have cA5 := fun o => cell_of_obj k5 o
  have fA5 := fun o => free_of_obj k5 o
  have K5 := Lib.hid (CP.step (h' := ⟨a1, c1, a2, c2, a3, c3, a4, c4, a5, c5, ea, ec⟩) (R2 := rowsT a5 c5 L5) K4.out hb5 o5 p5 11 (.slice a5 p.anti.length c5) rfl y4)
  clear k5 hb5 o5 K4
  go_wp2_with fail
  refine Calls.mono (copyTerms_rows ea p.even ec _ (x6.below K5.out.c)) ?_
  rintro e w6 ⟨a6, c6, L6, rfl, e6, o6, p6, hb6⟩
  have y6 := app_ty (R := rowsT a6 c6 L6) trows_ty y5
  have k6 := (hb6.block w.heap.size (Nat.lt_of_lt_of_le (Nat.lt_succ_of_lt (Nat.lt_succ_self _)) K5.out.s)).trans K5.out.a
  have cA6 := fun o => cell_of_obj k6 o
  have fA6 := fun o => free_of_obj k6 o
  have K6 := Lib.hid (CP.step (h' := ⟨a1, c1, a2, c2, a3, c3, a4, c4, a5, c5, a6, c6⟩) (R2 := rowsT a6 c6 L6) K5.out hb6 o6 p6 13 (.slice a6 p.even.length c6) rfl y5)
  clear k6 hb6 o6 K5
  go_wp2_with (refine wpList_store_rowTo rfl 29 (.tmp 2) (.tmp 27) rfl rfl (w.heap.size + 1) (podCs p ⟨a1, c1, a2, c2, a3, c3, a4, c4, a5, c5, a6, c6⟩) rfl rfl 29 zeroCells K6.out.b (by kernel_rfl) rfl (by kernel_rfl) ?_)
  refine bodyPost_ret (v := podV p ⟨a1, c1, a2, c2, a3, c3, a4, c4, a5, c5, a6, c6⟩) (results_cell_row Try.results7 _ _ (w.heap.size + 1) 29 _ (0, 0) _ rfl (setRow_heap _ _ _ _ _ _ K6.out.b) Try.underlying29 rfl (by kernel_rfl)) rfl ?_
  refine ⟨⟨a1, c1, a2, c2, a3, c3, a4, c4, a5, c5, a6, c6⟩, rfl, ⟨L3, L5, L6, e3, e5, e6, fun r hr => ?_, K6.out.p⟩, Below.setRow K6.out.c (by omega) _⟩
  exact World.ownsRow.kept (K6.out.r r hr) (grown_setRow _ _ _) (Or.inr (own_ne (K6.out.r r hr) ⟨_, _, K6.out.b⟩ (y6 r hr)))
end Go.Proofs.Ytnobgmdknalpdaa
