/-
  Pods and nodes that came in: how many bytes their lists take, by the form's own reach. Its conditions: that reach.
-/
import Derived.Test.YtnobgmdknalpdaaCopy3
import Derived.SizedLaws
set_option linter.unusedSimpArgs false
set_option linter.unusedVariables false
namespace Go.Proofs.Ytnobgmdknalpdaa
open Go.RowKit Go.ChangeShapes Go.WideShapes Go.Deep

theorem at1_same {w : World} {a : Option Addr} {l l' : List ByteArray} (h : At1 w a l) (h' : At1 w a l') (hn : l.length = l'.length) : l = l' := by
  apply List.ext_getElem hn
  intro i h1 h2
  obtain ⟨b, off, rfl, _, c⟩ := h.2 i h1
  obtain ⟨b', off', e, _, c'⟩ := h'.2 i h2
  simp at e
  obtain ⟨rfl, rfl⟩ := e
  rw [c] at c'
  simpa [List.getD_eq_getElem?_getD, h1, h2] using c'
theorem bytesI : Try.prog.bytesOf 3 = 8 := by kernel_rfl
theorem bytesS : Try.prog.bytesOf 9 = 16 := by kernel_rfl
theorem bytesP : Try.prog.bytesOf 36 = 32 := by kernel_rfl
theorem bytesN : Try.prog.bytesOf 44 = 32 := by kernel_rfl
theorem bytesL : Try.prog.bytesOf 42 = 40 := by kernel_rfl
theorem bytesT : Try.prog.bytesOf 40 = 48 := by kernel_rfl
section
variable {H : Type} {enc : TypeId × Value → H} {w : World} {base : Nat} {sp : Nat → Bool} {held : Bool} {fuel : Nat} {cs : List Value} {x : DataW H × List MemPlace}
/-- What was read takes no more than the form's reach. -/
def Fits (t : TypeId) (d : DataW H) : Prop := ∀ n ∈ d.weights Try.prog t, n ≤ reachBytes
theorem fits_each {ts : List TypeId} {ds : List (DataW H)} (h : (DataW.weightsEach Try.prog ts ds).all (· ≤ reachBytes) = true) {j : Nat} {t : TypeId} {d : DataW H} (ht : ts[j]? = some t) (hd : ds[j]? = some d) : Fits t d := fun n hn => by
  have := List.all_eq_true.1 h _ (DataW.weights_mem_each ht hd n hn)
  simpa using this
theorem fits_part {t : TypeId} {fs : Array Field} {xs : List (DataW H × List MemPlace)} (ht : Try.prog.underlying t = some (.struct fs)) (h : Fits t (.agg (xs.map (·.1)))) {i : Nat} {f : Field} {y : DataW H × List MemPlace} (hf : fs[i]? = some f) (hy : xs[i]? = some y) : Fits f.type y.1 := fun n hn => h n (by
  simp only [DataW.weights, ht]
  exact DataW.weights_mem_each (j := i) (by simp [hf]) (by simp [hy]) n hn)
theorem fits_str {t : TypeId} {s : ByteArray} (h : Fits (H := H) t (.lit (.string s.data.toList))) : s.size ≤ reachBytes := by
  have := h s.data.toList.length (by simp [DataW.weights])
  simpa using this
theorem weights_all {e : TypeId} : ∀ {l : List (DataW H)} {d : DataW H}, d ∈ l → ∀ n ∈ d.weights Try.prog e, n ∈ DataW.weightsAll Try.prog e l
  | [], d, h, n, hn => by simp at h
  | d0 :: r, d, h, n, hn => by
    simp only [DataW.weightsAll, List.mem_append]
    rcases List.mem_cons.1 h with rfl | h
    · exact Or.inl hn
    · exact Or.inr (weights_all h n hn)
theorem fits_len {t e : TypeId} (ht : Try.prog.underlying t = some (.slice e)) {a : Option Addr} {len cap : Nat} (h : DataW.trod enc Try.prog w base sp held fuel t [.slice a len cap] = some x) (hx : Fits t x.1) : len * Try.prog.bytesOf e ≤ reachBytes := by
  rcases open_slice ht h with ⟨e0, _⟩ | ⟨a', len', cap', m, n, D, Pl, e0, hb, hl, hm, hmm, rfl, _⟩
  · simp at e0
    rw [e0.2.1]; simp
  · simp at e0
    obtain ⟨_, rfl, _⟩ := e0
    have := hx ((len + (m - len)) * Try.prog.bytesOf e) (by simp [DataW.weights, ht])
    exact Nat.le_trans (Nat.mul_le_mul_right _ (by omega)) this
theorem open_elsS {t e : TypeId} {S : Nat} (ht : Try.prog.underlying t = some (.slice e)) (hS : Try.prog.cellsOf e = S) (hpos : 0 < S) (h : DataW.trod enc Try.prog w base sp held fuel t cs = some x) (hf : Fits t x.1) :
    ∃ (a : Option Addr) (len cap : Nat), cs = [.slice a len cap] ∧ CapOk a len cap ∧ len * Try.prog.bytesOf e ≤ reachBytes ∧ ∀ i, i < len → ∃ b off, a = some ⟨b, off, none⟩ ∧ b < w.heap.size ∧ ∃ (cs' : List Value) (n : Nat) (y : DataW H × List MemPlace),
      cs'.length = S ∧ (∀ j, j < S → w.cell? ⟨b, off + i * S + j, none⟩ = cs'[j]?) ∧ DataW.trod enc Try.prog w base sp held n e cs' = some y ∧ Fits e y.1 := by
  have h' := h
  rcases open_slice ht h with ⟨rfl, _⟩ | ⟨a, len, cap, m, n, D, Pl, rfl, hb, hl, hm, hmm, rfl, hx⟩
  · exact ⟨none, 0, 0, rfl, ⟨Nat.le_refl _, Nat.zero_le _, fun _ => rfl⟩, by simp, fun i hi => by omega⟩
  · have hlm : len ≤ m := by rw [hmm]; split <;> omega
    have hb0 := fits_len ht h' hf
    rw [hS] at hx
    refine ⟨some a, len, cap, rfl, ⟨hl, hm, (fun h => by cases h)⟩, hb0, fun i hi => ?_⟩
    obtain ⟨b, off, spot⟩ := a
    have hspot : spot = none := by
      obtain ⟨cs0, h1, _⟩ := hx 0 (by omega)
      obtain ⟨_, hlen, hc⟩ := World.cells?_some h1
      have h0 := hc 0 hpos
      rw [List.getElem?_eq_getElem (by omega)] at h0
      simpa [Addr.add] using World.cell?_spot h0
    subst hspot
    obtain ⟨cs', h1, h2⟩ := hx i (by omega)
    obtain ⟨_, hlen, hc⟩ := World.cells?_some h1
    have hcell : ∀ j, j < S → w.cell? ⟨b, off + i * S + j, none⟩ = cs'[j]? := fun j hj => by
      have := hc j hj
      rw [add_add, add_plain, ← Nat.add_assoc] at this
      exact this
    have h0 := hcell 0 hpos
    rw [List.getElem?_eq_getElem (by omega)] at h0
    refine ⟨b, off, rfl, cell_lt h0, cs', n, _, hlen, hcell, h2, fun k hk => hf k ?_⟩
    simp only [DataW.weights, ht, List.mem_cons, List.mem_append]
    exact Or.inr (Or.inl (weights_all (List.mem_map.2 ⟨i, List.mem_range.2 hi, rfl⟩) k hk))
theorem open_term_elS {n : Nat} (h : DataW.trod enc Try.prog w base sp held n 40 cs = some x) (hf : Fits 40 x.1) :
    ∃ q : TrmH, cs = cellsT q ∧ At1 w q.2.1 q.1.vals ∧ CapOk q.2.1 q.1.vals.length q.2.2 ∧ q.1.vals.length * 16 ≤ reachBytes := by
  obtain ⟨y0, y1, y2, m, rfl, hl, h0, h1, h2⟩ := trod_struct3 Try.underlying40 h
  have f2 := fits_part (xs := [y0, y1, y2]) (i := 2) Try.underlying40 hf rfl rfl
  rw [cellsTerm] at hl
  obtain ⟨c0, c1, c2, rfl⟩ := list3 hl
  dsimp only at h0 h1 h2 f2
  rw [cellsStr] at h0
  rw [cellsInt] at h1
  rw [cellsStrs] at h2
  obtain ⟨s0, e0, _, z0⟩ := DataW.trod_string Try.underlying9 h0
  obtain ⟨s1, e1, _, z1⟩ := DataW.trod_int Try.underlying3 h1
  obtain ⟨va, l, vcap, e2, hll, hmm, hn, hat, hsv⟩ := open_strs h2
  have hb := h2
  rw [e2] at hb
  have hb := fits_len Try.underlying38 hb f2
  rw [bytesS] at hb
  simp at e0 e1 e2
  subst e0 e1 e2
  exact ⟨(⟨_, _, l⟩, va, vcap), rfl, hat, ⟨hll, hmm, hn⟩, hb⟩
theorem open_termsS (h : DataW.trod enc Try.prog w base sp held fuel 26 cs = some x) (hf : Fits 26 x.1) {a : Option Addr} {l : List Trm} {cap : Nat} (hcs : cs = [.slice a l.length cap]) (hat : AtT w a l) : TrmsC w a l cap := by
  obtain ⟨a', len, cap', e0, hc, hb, hx⟩ := open_elsS Try.underlying26 cellsTerm (by decide) h hf
  rw [hcs] at e0
  simp at e0
  obtain ⟨rfl, e1, rfl⟩ := e0
  subst e1
  rw [bytesT] at hb
  obtain ⟨L, hL, hp⟩ := list_of (n := l.length) (p := fun i (q : TrmH) => (At1 w q.2.1 q.1.vals ∧ CapOk q.2.1 q.1.vals.length q.2.2 ∧ q.1.vals.length * 16 ≤ reachBytes) ∧ ∃ b off, a = some ⟨b, off, none⟩ ∧ ∀ j, j < 3 → w.cell? ⟨b, off + i * 3 + j, none⟩ = (cellsT q)[j]?) (t0, none, 0) (fun i hi => by
    obtain ⟨b, off, ha, hbb, cs', n, y, hlen, hcc, hy, hfy⟩ := hx i hi
    obtain ⟨q, rfl, h1, h2, h3⟩ := open_term_elS hy hfy
    exact ⟨q, ⟨h1, h2, h3⟩, b, off, ha, hcc⟩)
  have hr : reachBytes ≤ 140737488355328 := by decide
  refine ⟨hc, Nat.le_trans hb (by decide), L, ?_, ?_, fun i hi => ?_⟩
  · apply List.ext_getElem (by simp [hL])
    intro i h1 h2
    obtain ⟨⟨v1, _, _⟩, b, off, rfl, hc3⟩ := hp i h2
    obtain ⟨b', off', va, vc, e, _, c0, c1, c2, hv⟩ := hat.2 i h2
    simp at e
    obtain ⟨rfl, rfl⟩ := e
    have hi : i < L.length := by omega
    have hg : L.getD i (t0, none, 0) = L[i] := by simp [List.getD_eq_getElem?_getD, hi]
    have hg' : l.getD i t0 = l[i] := by simp [List.getD_eq_getElem?_getD, h2]
    rw [hg] at hc3 v1
    rw [hg'] at c0 c1 c2 hv
    have d0 := hc3 0 (by decide)
    have d1 := hc3 1 (by decide)
    have d2 := hc3 2 (by decide)
    rw [Nat.add_zero, c0] at d0
    rw [c1] at d1
    rw [c2] at d2
    simp only [List.getElem_map]
    generalize L[i] = q at *
    generalize l[i] = t at *
    obtain ⟨⟨qk, qn, qv⟩, qa, qc⟩ := q
    obtain ⟨tk, tn, tv⟩ := t
    simp [cellsT] at d0 d1 d2
    obtain ⟨rfl, e3, rfl⟩ := d2
    simp only at hv v1 e3
    rw [at1_same v1 hv e3.symm, d0, d1]
  · intro b hb j u hu
    have hpos : 0 < l.length := by
      rcases Nat.eq_zero_or_pos l.length with e | e
      · rw [List.eq_nil_of_length_eq_zero (hL.trans e)] at hu; simp at hu
      · exact e
    obtain ⟨_, b0, off, rfl, _⟩ := hp 0 hpos
    cases hb
    refine row_cells (enc := cellsT) (sz := 3) (fun _ => rfl) (by decide) (t0, none, 0) (fun i hi j hj => ?_) j u hu
    obtain ⟨_, b', off', ha', hcc⟩ := hp i (by omega)
    simp at ha'
    obtain ⟨rfl, rfl⟩ := ha'
    exact hcc j hj
  · rw [hL] at hi
    obtain ⟨⟨h1, h2, h3⟩, _⟩ := hp i hi
    exact ⟨h1, h2, Nat.le_trans h3 hr⟩
set_option maxRecDepth 100000 in
set_option maxHeartbeats 4000000 in
/-- The strings and lists of a pod that was read. -/
theorem pod_fits {n : Nat} {p : PodD} {h : PodH} (ht : DataW.trod enc Try.prog w base sp held n 29 [.string p.name, .int .i64 p.uid, .int .i64 p.prio, .int .i64 p.r0, .int .i64 p.r1, .int .i64 p.r2, .slice h.pa p.ports.length h.pc, .slice h.la p.labels.length h.lc, .slice h.sa p.sel.length h.sc, .slice h.ta p.tols.length h.tc, .string p.topo, .slice h.aa p.anti.length h.ac, .int .i64 p.skew, .slice h.ea p.even.length h.ec, .string p.node, .int .i64 p.term] = some x) (fx : Fits 29 x.1) (hi : PodIn w p h) :
    PodC w p h ∧ p.name.size ≤ reachBytes ∧ p.topo.size ≤ reachBytes ∧ p.node.size ≤ reachBytes := by
  obtain ⟨xs, m, _, rfl, hl, hn, hf⟩ := DataW.trod_struct Try.underlying29 ht
  have hr : reachBytes ≤ 140737488355328 := by decide
  obtain ⟨y0, h0⟩ := get_some hn (by decide) (hf 0 _ rfl)
  have f0 := fits_part (i := 0) Try.underlying29 fx rfl ((hf 0 _ rfl).symm.trans h0)
  change DataW.trod enc Try.prog w base sp held m 9 (([.string p.name, .int .i64 p.uid, .int .i64 p.prio, .int .i64 p.r0, .int .i64 p.r1, .int .i64 p.r2, .slice h.pa p.ports.length h.pc, .slice h.la p.labels.length h.lc, .slice h.sa p.sel.length h.sc, .slice h.ta p.tols.length h.tc, .string p.topo, .slice h.aa p.anti.length h.ac, .int .i64 p.skew, .slice h.ea p.even.length h.ec, .string p.node, .int .i64 p.term] : List Value).drop 0 |>.take (Try.prog.cellsOf 9)) = some y0 at h0
  change Fits 9 y0.1 at f0
  rw [cellsStr] at h0
  change DataW.trod enc Try.prog w base sp held m 9 [.string p.name] = some y0 at h0
  obtain ⟨y4, h4⟩ := get_some hn (by decide) (hf 4 _ rfl)
  have f4 := fits_part (i := 4) Try.underlying29 fx rfl ((hf 4 _ rfl).symm.trans h4)
  change DataW.trod enc Try.prog w base sp held m 24 (([.string p.name, .int .i64 p.uid, .int .i64 p.prio, .int .i64 p.r0, .int .i64 p.r1, .int .i64 p.r2, .slice h.pa p.ports.length h.pc, .slice h.la p.labels.length h.lc, .slice h.sa p.sel.length h.sc, .slice h.ta p.tols.length h.tc, .string p.topo, .slice h.aa p.anti.length h.ac, .int .i64 p.skew, .slice h.ea p.even.length h.ec, .string p.node, .int .i64 p.term] : List Value).drop 6 |>.take (Try.prog.cellsOf 24)) = some y4 at h4
  change Fits 24 y4.1 at f4
  rw [cellsInts] at h4
  change DataW.trod enc Try.prog w base sp held m 24 [.slice h.pa p.ports.length h.pc] = some y4 at h4
  obtain ⟨y5, h5⟩ := get_some hn (by decide) (hf 5 _ rfl)
  have f5 := fits_part (i := 5) Try.underlying29 fx rfl ((hf 5 _ rfl).symm.trans h5)
  change DataW.trod enc Try.prog w base sp held m 25 (([.string p.name, .int .i64 p.uid, .int .i64 p.prio, .int .i64 p.r0, .int .i64 p.r1, .int .i64 p.r2, .slice h.pa p.ports.length h.pc, .slice h.la p.labels.length h.lc, .slice h.sa p.sel.length h.sc, .slice h.ta p.tols.length h.tc, .string p.topo, .slice h.aa p.anti.length h.ac, .int .i64 p.skew, .slice h.ea p.even.length h.ec, .string p.node, .int .i64 p.term] : List Value).drop 7 |>.take (Try.prog.cellsOf 25)) = some y5 at h5
  change Fits 25 y5.1 at f5
  rw [cellsPairs] at h5
  change DataW.trod enc Try.prog w base sp held m 25 [.slice h.la p.labels.length h.lc] = some y5 at h5
  obtain ⟨y6, h6⟩ := get_some hn (by decide) (hf 6 _ rfl)
  have f6 := fits_part (i := 6) Try.underlying29 fx rfl ((hf 6 _ rfl).symm.trans h6)
  change DataW.trod enc Try.prog w base sp held m 26 (([.string p.name, .int .i64 p.uid, .int .i64 p.prio, .int .i64 p.r0, .int .i64 p.r1, .int .i64 p.r2, .slice h.pa p.ports.length h.pc, .slice h.la p.labels.length h.lc, .slice h.sa p.sel.length h.sc, .slice h.ta p.tols.length h.tc, .string p.topo, .slice h.aa p.anti.length h.ac, .int .i64 p.skew, .slice h.ea p.even.length h.ec, .string p.node, .int .i64 p.term] : List Value).drop 8 |>.take (Try.prog.cellsOf 26)) = some y6 at h6
  change Fits 26 y6.1 at f6
  rw [cellsTerms] at h6
  change DataW.trod enc Try.prog w base sp held m 26 [.slice h.sa p.sel.length h.sc] = some y6 at h6
  obtain ⟨y7, h7⟩ := get_some hn (by decide) (hf 7 _ rfl)
  have f7 := fits_part (i := 7) Try.underlying29 fx rfl ((hf 7 _ rfl).symm.trans h7)
  change DataW.trod enc Try.prog w base sp held m 27 (([.string p.name, .int .i64 p.uid, .int .i64 p.prio, .int .i64 p.r0, .int .i64 p.r1, .int .i64 p.r2, .slice h.pa p.ports.length h.pc, .slice h.la p.labels.length h.lc, .slice h.sa p.sel.length h.sc, .slice h.ta p.tols.length h.tc, .string p.topo, .slice h.aa p.anti.length h.ac, .int .i64 p.skew, .slice h.ea p.even.length h.ec, .string p.node, .int .i64 p.term] : List Value).drop 9 |>.take (Try.prog.cellsOf 27)) = some y7 at h7
  change Fits 27 y7.1 at f7
  rw [cellsTolers] at h7
  change DataW.trod enc Try.prog w base sp held m 27 [.slice h.ta p.tols.length h.tc] = some y7 at h7
  obtain ⟨y8, h8⟩ := get_some hn (by decide) (hf 8 _ rfl)
  have f8 := fits_part (i := 8) Try.underlying29 fx rfl ((hf 8 _ rfl).symm.trans h8)
  change DataW.trod enc Try.prog w base sp held m 9 (([.string p.name, .int .i64 p.uid, .int .i64 p.prio, .int .i64 p.r0, .int .i64 p.r1, .int .i64 p.r2, .slice h.pa p.ports.length h.pc, .slice h.la p.labels.length h.lc, .slice h.sa p.sel.length h.sc, .slice h.ta p.tols.length h.tc, .string p.topo, .slice h.aa p.anti.length h.ac, .int .i64 p.skew, .slice h.ea p.even.length h.ec, .string p.node, .int .i64 p.term] : List Value).drop 10 |>.take (Try.prog.cellsOf 9)) = some y8 at h8
  change Fits 9 y8.1 at f8
  rw [cellsStr] at h8
  change DataW.trod enc Try.prog w base sp held m 9 [.string p.topo] = some y8 at h8
  obtain ⟨y9, h9⟩ := get_some hn (by decide) (hf 9 _ rfl)
  have f9 := fits_part (i := 9) Try.underlying29 fx rfl ((hf 9 _ rfl).symm.trans h9)
  change DataW.trod enc Try.prog w base sp held m 26 (([.string p.name, .int .i64 p.uid, .int .i64 p.prio, .int .i64 p.r0, .int .i64 p.r1, .int .i64 p.r2, .slice h.pa p.ports.length h.pc, .slice h.la p.labels.length h.lc, .slice h.sa p.sel.length h.sc, .slice h.ta p.tols.length h.tc, .string p.topo, .slice h.aa p.anti.length h.ac, .int .i64 p.skew, .slice h.ea p.even.length h.ec, .string p.node, .int .i64 p.term] : List Value).drop 11 |>.take (Try.prog.cellsOf 26)) = some y9 at h9
  change Fits 26 y9.1 at f9
  rw [cellsTerms] at h9
  change DataW.trod enc Try.prog w base sp held m 26 [.slice h.aa p.anti.length h.ac] = some y9 at h9
  obtain ⟨y11, h11⟩ := get_some hn (by decide) (hf 11 _ rfl)
  have f11 := fits_part (i := 11) Try.underlying29 fx rfl ((hf 11 _ rfl).symm.trans h11)
  change DataW.trod enc Try.prog w base sp held m 26 (([.string p.name, .int .i64 p.uid, .int .i64 p.prio, .int .i64 p.r0, .int .i64 p.r1, .int .i64 p.r2, .slice h.pa p.ports.length h.pc, .slice h.la p.labels.length h.lc, .slice h.sa p.sel.length h.sc, .slice h.ta p.tols.length h.tc, .string p.topo, .slice h.aa p.anti.length h.ac, .int .i64 p.skew, .slice h.ea p.even.length h.ec, .string p.node, .int .i64 p.term] : List Value).drop 13 |>.take (Try.prog.cellsOf 26)) = some y11 at h11
  change Fits 26 y11.1 at f11
  rw [cellsTerms] at h11
  change DataW.trod enc Try.prog w base sp held m 26 [.slice h.ea p.even.length h.ec] = some y11 at h11
  obtain ⟨y12, h12⟩ := get_some hn (by decide) (hf 12 _ rfl)
  have f12 := fits_part (i := 12) Try.underlying29 fx rfl ((hf 12 _ rfl).symm.trans h12)
  change DataW.trod enc Try.prog w base sp held m 9 (([.string p.name, .int .i64 p.uid, .int .i64 p.prio, .int .i64 p.r0, .int .i64 p.r1, .int .i64 p.r2, .slice h.pa p.ports.length h.pc, .slice h.la p.labels.length h.lc, .slice h.sa p.sel.length h.sc, .slice h.ta p.tols.length h.tc, .string p.topo, .slice h.aa p.anti.length h.ac, .int .i64 p.skew, .slice h.ea p.even.length h.ec, .string p.node, .int .i64 p.term] : List Value).drop 14 |>.take (Try.prog.cellsOf 9)) = some y12 at h12
  change Fits 9 y12.1 at f12
  rw [cellsStr] at h12
  change DataW.trod enc Try.prog w base sp held m 9 [.string p.node] = some y12 at h12
  clear hf
  have b4 := fits_len Try.underlying24 h4 f4
  have b5 := fits_len Try.underlying25 h5 f5
  have b7 := fits_len Try.underlying27 h7 f7
  rw [bytesI] at b4
  rw [bytesP] at b5
  rw [bytesL] at b7
  obtain ⟨s0, e0, rfl, _⟩ := DataW.trod_string Try.underlying9 h0
  obtain ⟨s8, e8, rfl, _⟩ := DataW.trod_string Try.underlying9 h8
  obtain ⟨s12, e12, rfl, _⟩ := DataW.trod_string Try.underlying9 h12
  simp at e0 e8 e12
  subst e0 e8 e12
  exact ⟨⟨⟨hi.at'.ports, hi.pc, Nat.le_trans b4 (by decide)⟩, ⟨hi.at'.labels, hi.lc, Nat.le_trans b5 (by decide)⟩, open_termsS h6 f6 rfl hi.at'.sel, ⟨hi.at'.tols, hi.tc, Nat.le_trans b7 (by decide)⟩, open_termsS h9 f9 rfl hi.at'.anti, open_termsS h11 f11 rfl hi.at'.even⟩, fits_str f0, fits_str f8, fits_str f12⟩
set_option maxRecDepth 100000 in
set_option maxHeartbeats 4000000 in
theorem node_fits {n : Nat} {p : NodeD} {h : NodeH} (ht : DataW.trod enc Try.prog w base sp held n 32 [.string p.name, .int .i64 p.r0, .int .i64 p.r1, .int .i64 p.r2, .slice h.la p.labels.length h.lc, .slice h.ta p.taints.length h.tc] = some x) (fx : Fits 32 x.1) : NodeSz p ∧ p.name.size ≤ reachBytes := by
  obtain ⟨xs, m, _, rfl, hl, hn, hf⟩ := DataW.trod_struct Try.underlying32 ht
  have hr : reachBytes ≤ 140737488355328 := by decide
  obtain ⟨y0, h0⟩ := get_some hn (by decide) (hf 0 _ rfl)
  have f0 := fits_part (i := 0) Try.underlying32 fx rfl ((hf 0 _ rfl).symm.trans h0)
  change DataW.trod enc Try.prog w base sp held m 9 (([.string p.name, .int .i64 p.r0, .int .i64 p.r1, .int .i64 p.r2, .slice h.la p.labels.length h.lc, .slice h.ta p.taints.length h.tc] : List Value).drop 0 |>.take (Try.prog.cellsOf 9)) = some y0 at h0
  change Fits 9 y0.1 at f0
  rw [cellsStr] at h0
  change DataW.trod enc Try.prog w base sp held m 9 [.string p.name] = some y0 at h0
  obtain ⟨y2, h2⟩ := get_some hn (by decide) (hf 2 _ rfl)
  have f2 := fits_part (i := 2) Try.underlying32 fx rfl ((hf 2 _ rfl).symm.trans h2)
  change DataW.trod enc Try.prog w base sp held m 25 (([.string p.name, .int .i64 p.r0, .int .i64 p.r1, .int .i64 p.r2, .slice h.la p.labels.length h.lc, .slice h.ta p.taints.length h.tc] : List Value).drop 4 |>.take (Try.prog.cellsOf 25)) = some y2 at h2
  change Fits 25 y2.1 at f2
  rw [cellsPairs] at h2
  change DataW.trod enc Try.prog w base sp held m 25 [.slice h.la p.labels.length h.lc] = some y2 at h2
  obtain ⟨y3, h3⟩ := get_some hn (by decide) (hf 3 _ rfl)
  have f3 := fits_part (i := 3) Try.underlying32 fx rfl ((hf 3 _ rfl).symm.trans h3)
  change DataW.trod enc Try.prog w base sp held m 30 (([.string p.name, .int .i64 p.r0, .int .i64 p.r1, .int .i64 p.r2, .slice h.la p.labels.length h.lc, .slice h.ta p.taints.length h.tc] : List Value).drop 5 |>.take (Try.prog.cellsOf 30)) = some y3 at h3
  change Fits 30 y3.1 at f3
  rw [cellsTaints] at h3
  change DataW.trod enc Try.prog w base sp held m 30 [.slice h.ta p.taints.length h.tc] = some y3 at h3
  clear hf
  have b2 := fits_len Try.underlying25 h2 f2
  have b3 := fits_len Try.underlying30 h3 f3
  rw [bytesP] at b2
  rw [bytesN] at b3
  obtain ⟨s0, e0, rfl, _⟩ := DataW.trod_string Try.underlying9 h0
  simp at e0
  subst e0
  exact ⟨⟨Nat.le_trans b2 hr, Nat.le_trans b3 hr⟩, fits_str f0⟩
end
set_option maxRecDepth 100000 in
theorem arg_podS {H : Type} {enc : TypeId × Value → H} {W : World} {base : Nat} {v : Value} {d : DataW H} {p : List MemPlace} (hv : Value.okWide Try.prog W .any base 29 v) (h : DataW.Trod enc Try.prog W 0 (fun _ => true) true 29 v d p) (hf : Fits 29 d) :
    ∃ (p : PodD) (h : PodH), v = podV p h ∧ PodIn W p h ∧ PodC W p h ∧ p.name.size ≤ reachBytes ∧ p.topo.size ≤ reachBytes ∧ p.node.size ≤ reachBytes := by
  obtain ⟨q, k, rfl, hi⟩ := arg_pod hv h
  obtain ⟨fuel, ht⟩ := h
  exact ⟨q, k, rfl, hi, pod_fits ht hf hi⟩
set_option maxRecDepth 100000 in
theorem arg_nodeS {H : Type} {enc : TypeId × Value → H} {W : World} {base : Nat} {v : Value} {d : DataW H} {p : List MemPlace} (hv : Value.okWide Try.prog W .any base 32 v) (h : DataW.Trod enc Try.prog W 0 (fun _ => true) true 32 v d p) (hf : Fits 32 d) :
    ∃ (p : NodeD) (h : NodeH), v = nodeV p h ∧ NodeIn W p h ∧ NodeSz p ∧ p.name.size ≤ reachBytes := by
  obtain ⟨q, k, rfl, hi⟩ := arg_node hv h
  obtain ⟨fuel, ht⟩ := h
  exact ⟨q, k, rfl, hi, node_fits ht hf⟩
end Go.Proofs.Ytnobgmdknalpdaa
