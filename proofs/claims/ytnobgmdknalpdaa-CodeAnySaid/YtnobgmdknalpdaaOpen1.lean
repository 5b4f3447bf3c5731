/-
  How a pod and a node that are handed in are opened. No conditions beyond what is written in each statement.
-/
import Derived.Test.YtnobgmdknalpdaaRow0
import Derived.Test.YtnobgmdknalpdaaNode1
set_option linter.unusedSimpArgs false
set_option linter.unusedVariables false
namespace Go.Proofs.Ytnobgmdknalpdaa
open Go.RowKit Go.ChangeShapes Go.WideShapes Go.Deep

theorem list16 {α : Type} {l : List α} (h : l.length = 16) : ∃ a b c d e f g i j k m n o p q r, l = [a, b, c, d, e, f, g, i, j, k, m, n, o, p, q, r] := by
  match l, h with
  | [a, b, c, d, e, f, g, i, j, k, m, n, o, p, q, r], _ => exact ⟨a, b, c, d, e, f, g, i, j, k, m, n, o, p, q, r, rfl⟩
theorem list6 {α : Type} {l : List α} (h : l.length = 6) : ∃ a b c d e f, l = [a, b, c, d, e, f] := by
  match l, h with
  | [a, b, c, d, e, f], _ => exact ⟨a, b, c, d, e, f, rfl⟩
theorem le63 {n c : Nat} (h1 : n ≤ c) (h2 : c ≤ maxLen) : n ≤ 9223372036854775807 := by unfold maxLen at h2; omega
theorem cellsPod : Try.prog.cellsOf 29 = 16 := by kernel_rfl
theorem cellsNode : Try.prog.cellsOf 32 = 6 := by kernel_rfl
theorem cellsInts : Try.prog.cellsOf 24 = 1 := by kernel_rfl
theorem cellsPairs : Try.prog.cellsOf 25 = 1 := by kernel_rfl
theorem cellsTerms : Try.prog.cellsOf 26 = 1 := by kernel_rfl
theorem cellsTolers : Try.prog.cellsOf 27 = 1 := by kernel_rfl
theorem cellsTaints : Try.prog.cellsOf 30 = 1 := by kernel_rfl
/-- A slice that is handed in: how long it may be. -/
def CapOk (a : Option Addr) (n cap : Nat) : Prop := n ≤ cap ∧ cap ≤ maxLen ∧ (a = none → cap = 0)
/-- A pod that is handed in. -/
structure PodIn (w : World) (p : PodD) (h : PodH) : Prop where
  at' : PodAt w p h
  uid : (Lit.int .i64 p.uid).wf = true
  prio : (Lit.int .i64 p.prio).wf = true
  r0 : (Lit.int .i64 p.r0).wf = true
  r1 : (Lit.int .i64 p.r1).wf = true
  r2 : (Lit.int .i64 p.r2).wf = true
  skew : (Lit.int .i64 p.skew).wf = true
  term : (Lit.int .i64 p.term).wf = true
  name : p.name.size ≤ maxLen
  topo : p.topo.size ≤ maxLen
  node : p.node.size ≤ maxLen
  pc : CapOk h.pa p.ports.length h.pc
  lc : CapOk h.la p.labels.length h.lc
  sc : CapOk h.sa p.sel.length h.sc
  tc : CapOk h.ta p.tols.length h.tc
  ac : CapOk h.aa p.anti.length h.ac
  ec : CapOk h.ea p.even.length h.ec
  labels : ∀ i, i < p.labels.length → (p.labels.getD i e2).1.size ≤ maxLen ∧ (p.labels.getD i e2).2.size ≤ maxLen
  sel : ∀ t ∈ p.sel, SzT t
  anti : ∀ t ∈ p.anti, SzT t
  even : ∀ t ∈ p.even, SzT t
structure NodeIn (w : World) (p : NodeD) (h : NodeH) : Prop where
  at' : NodeAt w p h
  r0 : (Lit.int .i64 p.r0).wf = true
  r1 : (Lit.int .i64 p.r1).wf = true
  r2 : (Lit.int .i64 p.r2).wf = true
  name : p.name.size ≤ maxLen
  lc : CapOk h.la p.labels.length h.lc
  tc : CapOk h.ta p.taints.length h.tc
  labels : ∀ i, i < p.labels.length → (p.labels.getD i e2).1.size ≤ maxLen ∧ (p.labels.getD i e2).2.size ≤ maxLen
  taints : ∀ i, i < p.taints.length → (p.taints.getD i e2).1.size ≤ maxLen ∧ (p.taints.getD i e2).2.size ≤ maxLen

section
variable {H : Type} {enc : TypeId × Value → H} {w : World} {base : Nat} {sp : Nat → Bool} {held : Bool} {fuel : Nat} {cs : List Value} {x : DataW H × List MemPlace}
theorem get_some {α : Type} {l : List α} {n i : Nat} {o : Option α} (hl : l.length = n) (hi : i < n) (h : o = l[i]?) : ∃ y, o = some y := by
  subst hl
  rw [List.getElem?_eq_getElem hi] at h
  exact ⟨_, h⟩
set_option maxRecDepth 100000 in
set_option maxHeartbeats 4000000 in
theorem open_node_el {n : Nat} (h : DataW.trod enc Try.prog w base sp held n 32 cs = some x) : ∃ (p : NodeD) (h : NodeH), cs = [.string p.name, .int .i64 p.r0, .int .i64 p.r1, .int .i64 p.r2, .slice h.la p.labels.length h.lc, .slice h.ta p.taints.length h.tc] ∧ NodeIn w p h := by
  obtain ⟨xs, m, _, _, hl, hn, hf⟩ := DataW.trod_struct Try.underlying32 h
  rw [cellsNode] at hl
  obtain ⟨c0, c1, c2, c3, c4, c5, rfl⟩ := list6 hl
  obtain ⟨y0, h0⟩ := get_some hn (by decide) (hf 0 _ rfl)
  obtain ⟨y1, h1⟩ := get_some hn (by decide) (hf 1 _ rfl)
  obtain ⟨y2, h2⟩ := get_some hn (by decide) (hf 2 _ rfl)
  obtain ⟨y3, h3⟩ := get_some hn (by decide) (hf 3 _ rfl)
  clear hf hn
  change DataW.trod enc Try.prog w base sp held m 9 (([c0, c1, c2, c3, c4, c5].drop 0).take (Try.prog.cellsOf 9)) = some y0 at h0
  change DataW.trod enc Try.prog w base sp held m 23 (([c0, c1, c2, c3, c4, c5].drop 1).take (Try.prog.cellsOf 23)) = some y1 at h1
  change DataW.trod enc Try.prog w base sp held m 25 (([c0, c1, c2, c3, c4, c5].drop 4).take (Try.prog.cellsOf 25)) = some y2 at h2
  change DataW.trod enc Try.prog w base sp held m 30 (([c0, c1, c2, c3, c4, c5].drop 5).take (Try.prog.cellsOf 30)) = some y3 at h3
  rw [cellsStr] at h0
  rw [cellsRes] at h1
  rw [cellsPairs] at h2
  rw [cellsTaints] at h3
  obtain ⟨s0, e0, _, z0⟩ := DataW.trod_string Try.underlying9 h0
  obtain ⟨r0, r1, r2, e1, w0, w1, w2⟩ := open_res_el h1
  obtain ⟨la, l, lc, e2', l1, l2, l3, l4, l5⟩ := open_pairs h2
  obtain ⟨ta, t, tc, e3', t1, t2, t3, t4, t5⟩ := open_taints h3
  simp at e0 e1 e2' e3'
  obtain ⟨rfl, rfl, rfl⟩ := e1
  subst e0 e2' e3'
  exact ⟨⟨s0, r0, r1, r2, l, t⟩, ⟨la, lc, ta, tc⟩, rfl, ⟨⟨l4, le63 l1 l2, t4, le63 t1 t2⟩, w0, w1, w2, z0, ⟨l1, l2, l3⟩, ⟨t1, t2, t3⟩, l5, t5⟩⟩
set_option maxRecDepth 100000 in
set_option maxHeartbeats 4000000 in
theorem open_pod_el {n : Nat} (h : DataW.trod enc Try.prog w base sp held n 29 cs = some x) : ∃ (p : PodD) (h : PodH), cs = [.string p.name, .int .i64 p.uid, .int .i64 p.prio, .int .i64 p.r0, .int .i64 p.r1, .int .i64 p.r2, .slice h.pa p.ports.length h.pc, .slice h.la p.labels.length h.lc, .slice h.sa p.sel.length h.sc, .slice h.ta p.tols.length h.tc, .string p.topo, .slice h.aa p.anti.length h.ac, .int .i64 p.skew, .slice h.ea p.even.length h.ec, .string p.node, .int .i64 p.term] ∧ PodIn w p h := by
  obtain ⟨xs, m, _, _, hl, hn, hf⟩ := DataW.trod_struct Try.underlying29 h
  rw [cellsPod] at hl
  obtain ⟨c0, c1, c2, c3, c4, c5, c6, c7, c8, c9, c10, c11, c12, c13, c14, c15, rfl⟩ := list16 hl
  obtain ⟨y0, h0⟩ := get_some hn (by decide) (hf 0 _ rfl)
  obtain ⟨y1, h1⟩ := get_some hn (by decide) (hf 1 _ rfl)
  obtain ⟨y2, h2⟩ := get_some hn (by decide) (hf 2 _ rfl)
  obtain ⟨y3, h3⟩ := get_some hn (by decide) (hf 3 _ rfl)
  obtain ⟨y4, h4⟩ := get_some hn (by decide) (hf 4 _ rfl)
  obtain ⟨y5, h5⟩ := get_some hn (by decide) (hf 5 _ rfl)
  obtain ⟨y6, h6⟩ := get_some hn (by decide) (hf 6 _ rfl)
  obtain ⟨y7, h7⟩ := get_some hn (by decide) (hf 7 _ rfl)
  obtain ⟨y8, h8⟩ := get_some hn (by decide) (hf 8 _ rfl)
  obtain ⟨y9, h9⟩ := get_some hn (by decide) (hf 9 _ rfl)
  obtain ⟨y10, h10⟩ := get_some hn (by decide) (hf 10 _ rfl)
  obtain ⟨y11, h11⟩ := get_some hn (by decide) (hf 11 _ rfl)
  obtain ⟨y12, h12⟩ := get_some hn (by decide) (hf 12 _ rfl)
  obtain ⟨y13, h13⟩ := get_some hn (by decide) (hf 13 _ rfl)
  clear hf hn
  change DataW.trod enc Try.prog w base sp held m 9 (([c0, c1, c2, c3, c4, c5, c6, c7, c8, c9, c10, c11, c12, c13, c14, c15].drop 0).take (Try.prog.cellsOf 9)) = some y0 at h0
  change DataW.trod enc Try.prog w base sp held m 2 (([c0, c1, c2, c3, c4, c5, c6, c7, c8, c9, c10, c11, c12, c13, c14, c15].drop 1).take (Try.prog.cellsOf 2)) = some y1 at h1
  change DataW.trod enc Try.prog w base sp held m 3 (([c0, c1, c2, c3, c4, c5, c6, c7, c8, c9, c10, c11, c12, c13, c14, c15].drop 2).take (Try.prog.cellsOf 3)) = some y2 at h2
  change DataW.trod enc Try.prog w base sp held m 23 (([c0, c1, c2, c3, c4, c5, c6, c7, c8, c9, c10, c11, c12, c13, c14, c15].drop 3).take (Try.prog.cellsOf 23)) = some y3 at h3
  change DataW.trod enc Try.prog w base sp held m 24 (([c0, c1, c2, c3, c4, c5, c6, c7, c8, c9, c10, c11, c12, c13, c14, c15].drop 6).take (Try.prog.cellsOf 24)) = some y4 at h4
  change DataW.trod enc Try.prog w base sp held m 25 (([c0, c1, c2, c3, c4, c5, c6, c7, c8, c9, c10, c11, c12, c13, c14, c15].drop 7).take (Try.prog.cellsOf 25)) = some y5 at h5
  change DataW.trod enc Try.prog w base sp held m 26 (([c0, c1, c2, c3, c4, c5, c6, c7, c8, c9, c10, c11, c12, c13, c14, c15].drop 8).take (Try.prog.cellsOf 26)) = some y6 at h6
  change DataW.trod enc Try.prog w base sp held m 27 (([c0, c1, c2, c3, c4, c5, c6, c7, c8, c9, c10, c11, c12, c13, c14, c15].drop 9).take (Try.prog.cellsOf 27)) = some y7 at h7
  change DataW.trod enc Try.prog w base sp held m 9 (([c0, c1, c2, c3, c4, c5, c6, c7, c8, c9, c10, c11, c12, c13, c14, c15].drop 10).take (Try.prog.cellsOf 9)) = some y8 at h8
  change DataW.trod enc Try.prog w base sp held m 26 (([c0, c1, c2, c3, c4, c5, c6, c7, c8, c9, c10, c11, c12, c13, c14, c15].drop 11).take (Try.prog.cellsOf 26)) = some y9 at h9
  change DataW.trod enc Try.prog w base sp held m 3 (([c0, c1, c2, c3, c4, c5, c6, c7, c8, c9, c10, c11, c12, c13, c14, c15].drop 12).take (Try.prog.cellsOf 3)) = some y10 at h10
  change DataW.trod enc Try.prog w base sp held m 26 (([c0, c1, c2, c3, c4, c5, c6, c7, c8, c9, c10, c11, c12, c13, c14, c15].drop 13).take (Try.prog.cellsOf 26)) = some y11 at h11
  change DataW.trod enc Try.prog w base sp held m 9 (([c0, c1, c2, c3, c4, c5, c6, c7, c8, c9, c10, c11, c12, c13, c14, c15].drop 14).take (Try.prog.cellsOf 9)) = some y12 at h12
  change DataW.trod enc Try.prog w base sp held m 2 (([c0, c1, c2, c3, c4, c5, c6, c7, c8, c9, c10, c11, c12, c13, c14, c15].drop 15).take (Try.prog.cellsOf 2)) = some y13 at h13
  rw [cellsStr] at h0 h8 h12
  rw [cellsI64] at h1 h13
  rw [cellsInt] at h2 h10
  rw [cellsRes] at h3
  rw [cellsInts] at h4
  rw [cellsPairs] at h5
  rw [cellsTerms] at h6 h9 h11
  rw [cellsTolers] at h7
  obtain ⟨s0, e0, _, z0⟩ := DataW.trod_string Try.underlying9 h0
  obtain ⟨s8, e8, _, z8⟩ := DataW.trod_string Try.underlying9 h8
  obtain ⟨s12, e12, _, z12⟩ := DataW.trod_string Try.underlying9 h12
  obtain ⟨i1, e1, _, w1⟩ := DataW.trod_int Try.underlying2 h1
  obtain ⟨i13, e13, _, w13⟩ := DataW.trod_int Try.underlying2 h13
  obtain ⟨i2, e2', _, w2⟩ := DataW.trod_int Try.underlying3 h2
  obtain ⟨i10, e10, _, w10⟩ := DataW.trod_int Try.underlying3 h10
  obtain ⟨r0, r1, r2, e3', v0, v1, v2⟩ := open_res_el h3
  obtain ⟨pa, p, pc, e4, p1, p2, p3, p4, p5⟩ := open_ints64 h4
  obtain ⟨la, l, lc, e5, l1, l2, l3, l4, l5⟩ := open_pairs h5
  obtain ⟨sa, s, sc, e6, s1, s2, s3, s4, s5⟩ := open_terms h6
  obtain ⟨ta, t, tc, e7, t1, t2, t3, t4, t5⟩ := open_tolers h7
  obtain ⟨aa, a, ac, e9, a1, a2, a3, a4, a5⟩ := open_terms h9
  obtain ⟨ea, ev, ec, e11, f1, f2, f3, f4, f5⟩ := open_terms h11
  simp at e0 e1 e2' e3' e4 e5 e6 e7 e8 e9 e10 e11 e12 e13
  obtain ⟨rfl, rfl, rfl⟩ := e3'
  subst e0 e1 e2' e4 e5 e6 e7 e8 e9 e10 e11 e12 e13
  exact ⟨⟨s0, i1, i2, r0, r1, r2, p, l, s, t, s8, a, i10, ev, s12, i13⟩, ⟨pa, pc, la, lc, sa, sc, ta, tc, aa, ac, ea, ec⟩, rfl, ⟨⟨p4, l4, le63 l1 l2, s4, t4, a4, f4⟩, w1, w2, v0, v1, v2, w10, w13, z0, z8, z12, ⟨p1, p2, p3⟩, ⟨l1, l2, l3⟩, ⟨s1, s2, s3⟩, ⟨t1, t2, t3⟩, ⟨a1, a2, a3⟩, ⟨f1, f2, f3⟩, l5, s5, a5, f5⟩⟩
end
set_option maxRecDepth 100000 in
theorem arg_pod {H : Type} {enc : TypeId × Value → H} {W : World} {base : Nat} {v : Value} {d : DataW H} {p : List MemPlace} (hv : Value.okWide Try.prog W .any base 29 v) (h : DataW.Trod enc Try.prog W 0 (fun _ => true) true 29 v d p) :
    ∃ (p : PodD) (h : PodH), v = podV p h ∧ PodIn W p h := by
  obtain ⟨fuel, hf⟩ := h
  obtain ⟨cs, rfl, _⟩ := okWide_struct Try.underlying29 hv
  obtain ⟨p, h, e, hp⟩ := open_pod_el hf
  refine ⟨p, h, ?_, hp⟩
  rw [show cs = #[.string p.name, .int .i64 p.uid, .int .i64 p.prio, .int .i64 p.r0, .int .i64 p.r1, .int .i64 p.r2, .slice h.pa p.ports.length h.pc, .slice h.la p.labels.length h.lc, .slice h.sa p.sel.length h.sc, .slice h.ta p.tols.length h.tc, .string p.topo, .slice h.aa p.anti.length h.ac, .int .i64 p.skew, .slice h.ea p.even.length h.ec, .string p.node, .int .i64 p.term] from Array.toList_inj.mp (by simpa [Value.cells] using e)]
set_option maxRecDepth 100000 in
theorem arg_node {H : Type} {enc : TypeId × Value → H} {W : World} {base : Nat} {v : Value} {d : DataW H} {p : List MemPlace} (hv : Value.okWide Try.prog W .any base 32 v) (h : DataW.Trod enc Try.prog W 0 (fun _ => true) true 32 v d p) :
    ∃ (p : NodeD) (h : NodeH), v = nodeV p h ∧ NodeIn W p h := by
  obtain ⟨fuel, hf⟩ := h
  obtain ⟨cs, rfl, _⟩ := okWide_struct Try.underlying32 hv
  obtain ⟨p, h, e, hp⟩ := open_node_el hf
  refine ⟨p, h, ?_, hp⟩
  rw [show cs = #[.string p.name, .int .i64 p.r0, .int .i64 p.r1, .int .i64 p.r2, .slice h.la p.labels.length h.lc, .slice h.ta p.taints.length h.tc] from Array.toList_inj.mp (by simpa [Value.cells] using e)]
end Go.Proofs.Ytnobgmdknalpdaa
