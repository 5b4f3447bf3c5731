/-
  The law ObjOwn: whatever the input, it returns true, and each argument reads as it did. No conditions beyond those that the given row names (what comes in takes no more bytes than its form's reach).
-/
import Derived.Test.YtnobgmdknalpdaaOpen2
import Derived.Test.YtnobgmdknalpdaaLOwn
import Derived.SizedLaws
set_option linter.unusedSimpArgs false
set_option linter.unusedVariables false
namespace Go.Proofs.Ytnobgmdknalpdaa
open Go.ChangeShapes Go.WideShapes Go.ChangeAt Go.RowKit

section
variable {H : Type} {enc : TypeId × Value → H} {w : World} {base : Nat} {sp : Nat → Bool} {held : Bool} {fuel : Nat} {cs : List Value} {x : DataW H × List MemPlace} {A : Option Addr} {C : Nat}
theorem pairs_texts {l : List Str2} (h : DataW.trod enc Try.prog w base sp held fuel 25 [.slice A l.length C] = some x) (hf : Fits 25 x.1) (hat : At2 w A l) : ∀ s ∈ l, s.1.size ≤ reachBytes ∧ s.2.size ≤ reachBytes := by
  obtain ⟨a', len, cap', e0, hc, hb, hx⟩ := open_elsS Try.underlying25 cellsPair (by decide) h hf
  simp at e0
  obtain ⟨rfl, rfl, rfl⟩ := e0
  intro s hs
  obtain ⟨i, hi, rfl⟩ := List.mem_iff_getElem.1 hs
  obtain ⟨b, off, ha, hbb, cs', n, y, hlen, hcc, hy, hfy⟩ := hx i hi
  obtain ⟨b', off', ha', _, c0, c1⟩ := hat i hi
  rw [ha] at ha'
  cases ha'
  obtain ⟨y0, y1, m, rfl, hl, h0, h1⟩ := trod_struct2 Try.underlying36 hy
  have f0 := fits_part (xs := [y0, y1]) (i := 0) Try.underlying36 hfy rfl rfl
  have f1 := fits_part (xs := [y0, y1]) (i := 1) Try.underlying36 hfy rfl rfl
  obtain ⟨k0, k1, rfl⟩ := list2 hlen
  dsimp only at h0 h1 f0 f1
  rw [cellsStr] at h0 h1
  obtain ⟨s0, z0, rfl, _⟩ := DataW.trod_string Try.underlying9 h0
  obtain ⟨s1, z1, rfl, _⟩ := DataW.trod_string Try.underlying9 h1
  simp at z0 z1
  subst z0 z1
  have d0 := hcc 0 (by decide)
  have d1 := hcc 1 (by decide)
  rw [Nat.add_zero, c0] at d0
  rw [c1] at d1
  simp [List.getD_eq_getElem?_getD, List.getElem?_eq_getElem hi] at d0 d1
  rw [d0, d1]
  exact ⟨fits_str f0, fits_str f1⟩
theorem taints_texts {l : List Str2} (h : DataW.trod enc Try.prog w base sp held fuel 30 [.slice A l.length C] = some x) (hf : Fits 30 x.1) (hat : At2 w A l) : ∀ s ∈ l, s.1.size ≤ reachBytes ∧ s.2.size ≤ reachBytes := by
  obtain ⟨a', len, cap', e0, hc, hb, hx⟩ := open_elsS Try.underlying30 cellsTaint (by decide) h hf
  simp at e0
  obtain ⟨rfl, rfl, rfl⟩ := e0
  intro s hs
  obtain ⟨i, hi, rfl⟩ := List.mem_iff_getElem.1 hs
  obtain ⟨b, off, ha, hbb, cs', n, y, hlen, hcc, hy, hfy⟩ := hx i hi
  obtain ⟨b', off', ha', _, c0, c1⟩ := hat i hi
  rw [ha] at ha'
  cases ha'
  obtain ⟨y0, y1, m, rfl, hl, h0, h1⟩ := trod_struct2 Try.underlying44 hy
  have f0 := fits_part (xs := [y0, y1]) (i := 0) Try.underlying44 hfy rfl rfl
  have f1 := fits_part (xs := [y0, y1]) (i := 1) Try.underlying44 hfy rfl rfl
  obtain ⟨k0, k1, rfl⟩ := list2 hlen
  dsimp only at h0 h1 f0 f1
  rw [cellsStr] at h0 h1
  obtain ⟨s0, z0, rfl, _⟩ := DataW.trod_string Try.underlying9 h0
  obtain ⟨s1, z1, rfl, _⟩ := DataW.trod_string Try.underlying9 h1
  simp at z0 z1
  subst z0 z1
  have d0 := hcc 0 (by decide)
  have d1 := hcc 1 (by decide)
  rw [Nat.add_zero, c0] at d0
  rw [c1] at d1
  simp [List.getD_eq_getElem?_getD, List.getElem?_eq_getElem hi] at d0 d1
  rw [d0, d1]
  exact ⟨fits_str f0, fits_str f1⟩
theorem strs_texts {l : List ByteArray} (h : DataW.trod enc Try.prog w base sp held fuel 38 [.slice A l.length C] = some x) (hf : Fits 38 x.1) (hat : At1 w A l) : ∀ s ∈ l, s.size ≤ reachBytes := by
  obtain ⟨a', len, cap', e0, hc, hb, hx⟩ := open_elsS Try.underlying38 cellsStr (by decide) h hf
  simp at e0
  obtain ⟨rfl, rfl, rfl⟩ := e0
  intro s hs
  obtain ⟨i, hi, rfl⟩ := List.mem_iff_getElem.1 hs
  obtain ⟨b, off, ha, hbb, cs', n, y, hlen, hcc, hy, hfy⟩ := hx i hi
  obtain ⟨b', off', ha', _, c0⟩ := hat.2 i hi
  rw [ha] at ha'
  cases ha'
  obtain ⟨s0, rfl, rfl, _⟩ := DataW.trod_string Try.underlying9 hy
  have d0 := hcc 0 (by decide)
  rw [Nat.add_zero, Nat.mul_one, c0] at d0
  simp [List.getD_eq_getElem?_getD, List.getElem?_eq_getElem hi] at d0
  rw [d0]
  exact fits_str hfy
theorem terms_texts {l : List Trm} (h : DataW.trod enc Try.prog w base sp held fuel 26 [.slice A l.length C] = some x) (hf : Fits 26 x.1) (hat : AtT w A l) : ∀ t ∈ l, ∀ v ∈ t.vals, v.size ≤ reachBytes := by
  obtain ⟨a', len, cap', e0, hc, hb, hx⟩ := open_elsS Try.underlying26 cellsTerm (by decide) h hf
  simp at e0
  obtain ⟨rfl, rfl, rfl⟩ := e0
  intro t hs
  obtain ⟨i, hi, rfl⟩ := List.mem_iff_getElem.1 hs
  obtain ⟨b, off, ha, hbb, cs', n, y, hlen, hcc, hy, hfy⟩ := hx i hi
  obtain ⟨b', off', va, vc, ha', _, c0, c1, c2, hv⟩ := hat.2 i hi
  rw [ha] at ha'
  cases ha'
  obtain ⟨y0, y1, y2, m, rfl, hl, h0, h1, h2⟩ := Go.Deep.trod_struct3 Try.underlying40 hy
  have f2 := fits_part (xs := [y0, y1, y2]) (i := 2) Try.underlying40 hfy rfl rfl
  obtain ⟨k0, k1, k2, rfl⟩ := list3 hlen
  dsimp only at h0 h1 h2 f2
  rw [cellsStr] at h0
  rw [cellsInt] at h1
  rw [cellsStrs] at h2
  obtain ⟨s0, z0, _, _⟩ := DataW.trod_string Try.underlying9 h0
  obtain ⟨s1, z1, _, _⟩ := DataW.trod_int Try.underlying3 h1
  simp at z0 z1
  have hg : l.getD i t0 = l[i] := by simp [List.getD_eq_getElem?_getD, hi]
  rw [hg] at c2 hv
  have d2 := hcc 2 (by decide)
  rw [c2] at d2
  subst z0 z1
  simp at h2
  have e2 : k2 = .slice va l[i].vals.length vc := by simpa using d2.symm
  rw [e2] at h2
  exact strs_texts h2 f2 hv
set_option maxRecDepth 100000 in
set_option maxHeartbeats 4000000 in
theorem pod_texts {n : Nat} {p : PodD} {h : PodH} (ht : DataW.trod enc Try.prog w base sp held n 29 [.string p.name, .int .i64 p.uid, .int .i64 p.prio, .int .i64 p.r0, .int .i64 p.r1, .int .i64 p.r2, .slice h.pa p.ports.length h.pc, .slice h.la p.labels.length h.lc, .slice h.sa p.sel.length h.sc, .slice h.ta p.tols.length h.tc, .string p.topo, .slice h.aa p.anti.length h.ac, .int .i64 p.skew, .slice h.ea p.even.length h.ec, .string p.node, .int .i64 p.term] = some x) (fx : Fits 29 x.1) (hi : PodIn w p h) : (∀ s ∈ p.labels, s.1.size ≤ reachBytes ∧ s.2.size ≤ reachBytes) ∧ (∀ t ∈ p.sel, ∀ v ∈ t.vals, v.size ≤ reachBytes) ∧ (∀ t ∈ p.anti, ∀ v ∈ t.vals, v.size ≤ reachBytes) ∧ ∀ t ∈ p.even, ∀ v ∈ t.vals, v.size ≤ reachBytes := by
  obtain ⟨xs, m, _, rfl, hl, hn, hf⟩ := DataW.trod_struct Try.underlying29 ht
  obtain ⟨y5, h5⟩ := get_some hn (by decide) (hf 5 _ rfl)
  have f5 := fits_part (i := 5) Try.underlying29 fx rfl ((hf 5 _ rfl).symm.trans h5)
  change DataW.trod enc Try.prog w base sp held m 25 (([.string p.name, .int .i64 p.uid, .int .i64 p.prio, .int .i64 p.r0, .int .i64 p.r1, .int .i64 p.r2, .slice h.pa p.ports.length h.pc, .slice h.la p.labels.length h.lc, .slice h.sa p.sel.length h.sc, .slice h.ta p.tols.length h.tc, .string p.topo, .slice h.aa p.anti.length h.ac, .int .i64 p.skew, .slice h.ea p.even.length h.ec, .string p.node, .int .i64 p.term] : List Value).drop 7 |>.take (Try.prog.cellsOf 25)) = some y5 at h5
  change Fits 25 y5.1 at f5
  rw [cellsPairs] at h5
  change DataW.trod enc Try.prog w base sp held m 25 [.slice h.la p.labels.length h.lc] = some y5 at h5
  obtain ⟨y6, h6⟩ := get_some hn (by decide) (hf 6 _ rfl)
  have f6 := fits_part (i := 6) Try.underlying29 fx rfl ((hf 6 _ rfl).symm.trans h6)
  change DataW.trod enc Try.prog w base sp held m 26 (([.string p.name, .int .i64 p.uid, .int .i64 p.prio, .int .i64 p.r0, .int .i64 p.r1, .int .i64 p.r2, .slice h.pa p.ports.length h.pc, .slice h.la p.labels.length h.lc, .slice h.sa p.sel.length h.sc, .slice h.ta p.tols.length h.tc, .string p.topo, .slice h.aa p.anti.length h.ac, .int .i64 p.skew, .slice h.ea p.even.length h.ec, .string p.node, .int .i64 p.term] : List Value).drop 8 |>.take (Try.prog.cellsOf 26)) = some y6 at h6
  change Fits 26 y6.1 at f6
  rw [cellsTerms] at h6
  change DataW.trod enc Try.prog w base sp held m 26 [.slice h.sa p.sel.length h.sc] = some y6 at h6
  obtain ⟨y9, h9⟩ := get_some hn (by decide) (hf 9 _ rfl)
  have f9 := fits_part (i := 9) Try.underlying29 fx rfl ((hf 9 _ rfl).symm.trans h9)
  change DataW.trod enc Try.prog w base sp held m 26 (([.string p.name, .int .i64 p.uid, .int .i64 p.prio, .int .i64 p.r0, .int .i64 p.r1, .int .i64 p.r2, .slice h.pa p.ports.length h.pc, .slice h.la p.labels.length h.lc, .slice h.sa p.sel.length h.sc, .slice h.ta p.tols.length h.tc, .string p.topo, .slice h.aa p.anti.length h.ac, .int .i64 p.skew, .slice h.ea p.even.length h.ec, .string p.node, .int .i64 p.term] : List Value).drop 11 |>.take (Try.prog.cellsOf 26)) = some y9 at h9
  change Fits 26 y9.1 at f9
  rw [cellsTerms] at h9
  change DataW.trod enc Try.prog w base sp held m 26 [.slice h.aa p.anti.length h.ac] = some y9 at h9
  obtain ⟨y11, h11⟩ := get_some hn (by decide) (hf 11 _ rfl)
  have f11 := fits_part (i := 11) Try.underlying29 fx rfl ((hf 11 _ rfl).symm.trans h11)
  change DataW.trod enc Try.prog w base sp held m 26 (([.string p.name, .int .i64 p.uid, .int .i64 p.prio, .int .i64 p.r0, .int .i64 p.r1, .int .i64 p.r2, .slice h.pa p.ports.length h.pc, .slice h.la p.labels.length h.lc, .slice h.sa p.sel.length h.sc, .slice h.ta p.tols.length h.tc, .string p.topo, .slice h.aa p.anti.length h.ac, .int .i64 p.skew, .slice h.ea p.even.length h.ec, .string p.node, .int .i64 p.term] : List Value).drop 13 |>.take (Try.prog.cellsOf 26)) = some y11 at h11
  change Fits 26 y11.1 at f11
  rw [cellsTerms] at h11
  change DataW.trod enc Try.prog w base sp held m 26 [.slice h.ea p.even.length h.ec] = some y11 at h11
  exact ⟨pairs_texts h5 f5 hi.at'.labels, terms_texts h6 f6 hi.at'.sel, terms_texts h9 f9 hi.at'.anti, terms_texts h11 f11 hi.at'.even⟩
set_option maxRecDepth 100000 in
set_option maxHeartbeats 4000000 in
theorem node_texts {n : Nat} {p : NodeD} {h : NodeH} (ht : DataW.trod enc Try.prog w base sp held n 32 [.string p.name, .int .i64 p.r0, .int .i64 p.r1, .int .i64 p.r2, .slice h.la p.labels.length h.lc, .slice h.ta p.taints.length h.tc] = some x) (fx : Fits 32 x.1) (hi : NodeIn w p h) : (∀ s ∈ p.labels, s.1.size ≤ reachBytes ∧ s.2.size ≤ reachBytes) ∧ ∀ s ∈ p.taints, s.1.size ≤ reachBytes ∧ s.2.size ≤ reachBytes := by
  obtain ⟨xs, m, _, rfl, hl, hn, hf⟩ := DataW.trod_struct Try.underlying32 ht
  obtain ⟨y2, h2⟩ := get_some hn (by decide) (hf 2 _ rfl)
  have f2 := fits_part (i := 2) Try.underlying32 fx rfl ((hf 2 _ rfl).symm.trans h2)
  change DataW.trod enc Try.prog w base sp held m 25 (([.string p.name, .int .i64 p.r0, .int .i64 p.r1, .int .i64 p.r2, .slice h.la p.labels.length h.lc, .slice h.ta p.taints.length h.tc] : List Value).drop 4 |>.take (Try.prog.cellsOf 25)) = some y2 at h2
  change Fits 25 y2.1 at f2
  rw [cellsPairs] at h2
  change DataW.trod enc Try.prog w base sp held m 25 [.slice h.la p.labels.length h.lc] = some y2 at h2
  obtain ⟨y3, h3⟩ := get_some hn (by decide) (hf 3 _ rfl)
  have f3 := fits_part (i := 3) Try.underlying32 fx rfl ((hf 3 _ rfl).symm.trans h3)
  change DataW.trod enc Try.prog w base sp held m 30 (([.string p.name, .int .i64 p.r0, .int .i64 p.r1, .int .i64 p.r2, .slice h.la p.labels.length h.lc, .slice h.ta p.taints.length h.tc] : List Value).drop 5 |>.take (Try.prog.cellsOf 30)) = some y3 at h3
  change Fits 30 y3.1 at f3
  rw [cellsTaints] at h3
  change DataW.trod enc Try.prog w base sp held m 30 [.slice h.ta p.taints.length h.tc] = some y3 at h3
  exact ⟨pairs_texts h2 f2 hi.at'.labels, taints_texts h3 f3 hi.at'.taints⟩
end
set_option maxRecDepth 100000 in
theorem arg_podT {H : Type} {enc : TypeId × Value → H} {W : World} {base : Nat} {v : Value} {d : DataW H} {p : List MemPlace} (hv : Value.okWide Try.prog W .any base 29 v) (h : DataW.Trod enc Try.prog W 0 (fun _ => true) true 29 v d p) (hf : Fits 29 d) :
    ∃ (p : PodD) (h : PodH), v = podV p h ∧ PodIn W p h ∧ PodC W p h ∧ (∀ s ∈ p.labels, s.1.size ≤ reachBytes ∧ s.2.size ≤ reachBytes) ∧ (∀ t ∈ p.sel, ∀ v ∈ t.vals, v.size ≤ reachBytes) ∧ (∀ t ∈ p.anti, ∀ v ∈ t.vals, v.size ≤ reachBytes) ∧ ∀ t ∈ p.even, ∀ v ∈ t.vals, v.size ≤ reachBytes := by
  obtain ⟨q, k, rfl, hi⟩ := arg_pod hv h
  obtain ⟨fuel, ht⟩ := h
  exact ⟨q, k, rfl, hi, (pod_fits ht hf hi).1, pod_texts ht hf hi⟩
set_option maxRecDepth 100000 in
theorem arg_nodeT {H : Type} {enc : TypeId × Value → H} {W : World} {base : Nat} {v : Value} {d : DataW H} {p : List MemPlace} (hv : Value.okWide Try.prog W .any base 32 v) (h : DataW.Trod enc Try.prog W 0 (fun _ => true) true 32 v d p) (hf : Fits 32 d) :
    ∃ (p : NodeD) (h : NodeH), v = nodeV p h ∧ NodeIn W p h ∧ NodeSz p ∧ (∀ s ∈ p.labels, s.1.size ≤ reachBytes ∧ s.2.size ≤ reachBytes) ∧ ∀ s ∈ p.taints, s.1.size ≤ reachBytes ∧ s.2.size ≤ reachBytes := by
  obtain ⟨q, k, rfl, hi⟩ := arg_node hv h
  obtain ⟨fuel, ht⟩ := h
  exact ⟨q, k, rfl, hi, (node_fits ht hf).1, node_texts ht hf hi⟩

set_option maxRecDepth 100000 in
theorem objOwn_lifted (os : Os) (started : os.Started) (H : Type) (enc : TypeId × Value → H) :
    ReturnsInHanded {} Try.checked os 3 .any (Rows.objOwnSpec.pre6 enc Try.prog Try.f3 Rows.objOwnRow.domain false) (Rows.objOwnSpec.post enc Try.prog Try.f3 false true false false) := by
  refine returnsInHanded_of_change_sized (C := Try.checked) own0 started (by kernel_rfl) Try.func3
    (ChangeSpec.witness6 (enc := enc) (C := Try.checked) false ⟨#[], #[.agg #[.string ⟨#[]⟩, .int .i64 0, .int .i64 0, .int .i64 0, .int .i64 0, .int .i64 0, .slice none 0 0, .slice none 0 0, .slice none 0 0, .slice none 0 0, .string ⟨#[]⟩, .slice none 0 0, .int .i64 0, .slice none 0 0, .string ⟨#[]⟩, .int .i64 0], .agg #[.string ⟨#[]⟩, .int .i64 0, .int .i64 0, .int .i64 0, .slice none 0 0, .slice none 0 0]], []⟩ 8 (by kernel_rfl) (by kernel_rfl) (by kernel_rfl) (by kernel_rfl)) ?_
  intro W base args ds gs before hval0 hW hcnd hwt _
  have hval : ∀ (j : Nat) t v, Try.f3.params[j]? = some t → args[j]? = some v → Value.okWide Try.prog W .any base t v := hval0
  have hW' := hW
  obtain ⟨p, q, hA0, hV, rfl, hfz, hnd⟩ := hW
  have hA : DataW.TrodAll enc Try.prog W 0 (fun _ => true) true Try.f3.params.toList args.toList ds p := hA0
  obtain ⟨rfl, rfl⟩ := trodVars_none hV
  simp only [List.append_nil] at hW'
  have hback := fun W' (bel : Below W.heap.size W W') => trodAll_below bel (readable (by kernel_rfl)) hA hW'.lt
  rw [Try.params3] at hA hval
  clear hA0 hval0
  obtain ⟨v0, v1, d0, d1, p0, p1, rfl, rfl, rfl, h0, h1⟩ := trodAll_two hA
  have f0 : Fits 29 d0 := fits_each hwt (j := 0) rfl rfl
  have f1 : Fits 32 d1 := fits_each hwt (j := 1) rfl rfl
  obtain ⟨p, h, rfl, hp, hc, t1, t2, t3, t4⟩ := arg_podT (hval 0 29 v0 rfl rfl) h0 f0
  obtain ⟨n, k, rfl, hn, hz, t5, t6⟩ := arg_nodeT (hval 1 32 v1 rfl rfl) h1 f1
  refine (objOwn_walk p h n k W hp hc hn hz ⟨fun s hs => (t1 s hs).2, t2, t3, t4, fun s hs => (t5 s hs).1, fun s hs => (t6 s hs).2⟩).mono fun e W' ⟨he, bel⟩ => ?_
  subst he
  exact ⟨_, rfl, _, _, _, [], _, [], hW', trodAll_mk1 (shut_bool Try.underlying4 _), hback W' bel, rfl, bel.frame _, fun h => by cases h⟩

theorem objOwn_holds : Rows.ObjOwnSaid :=
  OpenClaim.holds_of_wide 3 Try.f3 rfl rfl rfl rfl rfl rfl rfl ⟨rfl, rfl, rfl, rfl, rfl⟩ rfl rfl rfl rfl rfl (by kernel_rfl) Try.func3 (by kernel_rfl)
    (of_decide_eq_true (by kernel_rfl)) (by unfold Func.isWrapper; first | (rw [if_pos (by decide +kernel)]; kernel_rfl) | (rw [if_neg (by decide +kernel)]; exact ⟨rfl, rfl⟩))
    (fun os started H enc _ => objOwn_lifted os started H enc)
#print axioms objOwn_holds
end Go.Proofs.Ytnobgmdknalpdaa
