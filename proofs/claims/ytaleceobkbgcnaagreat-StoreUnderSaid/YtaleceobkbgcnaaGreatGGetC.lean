/-
  What is known of an object while it is read: its own block, the reader, the lists that were read so far.
-/
import Derived.Test.YtaleceobkbgcnaaGreatGGetB
import Derived.Great.BuildSlice
import Derived.Laws.Rows
import Derived.Laws.Tables
set_option linter.unusedSimpArgs false
set_option linter.unusedVariables false
namespace Go.Proofs.YtaleceobkbgcnaaGreat
open Go.RowKit

/-- A row of the call's own: its type, cells of an element, value, elements, cells. -/
structure RowF where
  t : TypeId
  sz : Nat
  v : Value
  n : Nat
  xs : List Value
def RowF.In (r : RowF) (w : World) (N : Nat) : Prop := w.ownsRow N r.t r.sz r.v r.n r.xs
theorem RowF.In.kept {r : RowF} {w w' : World} {N : Nat} (h : r.In w N) (hb : Below w.heap.size w w') : r.In w' N :=
  World.ownsRow.kept (row := none) h ⟨hb.os, hb.tape, hb.output, hb.size, fun k hk _ => hb.block k hk⟩ (by cases hv : r.v.ownBlock <;> simp)

structure PS (ty : TypeId) (w w0 w' : World) (A B R N1 : Nat) (st : RS) (cA cB : Array Value) (rows : List RowF) : Prop where
  bel : Below w.heap.size w w'
  rd : Rd w0 w' R st.1 st.2
  a : w'.heap[A]? = some (.cells cA ty)
  b : w'.heap[B]? = some (.cells cB ty)
  own : ∀ r ∈ rows, r.In w' N1
  tys : ∀ r ∈ rows, ty ≠ r.t
  la : w.heap.size ≤ A
  lr : w.heap.size ≤ R
  lb : w.heap.size ≤ B
  l0b : w0.heap.size ≤ B
  ar : A ≠ R
  br : B ≠ R
  ab : A ≠ B
  rn : R < N1
theorem PS.get {ty : TypeId} {w w0 w' w2 : World} {A B R N1 : Nat} {st st2 : RS} {cA cB : Array Value} {rows : List RowF} (h : PS ty w w0 w' A B R N1 st cA cB rows) (hg : w'.grownBy w2 (some R)) (hr : Rd w0 w2 R st2.1 st2.2) : PS ty w w0 w2 A B R N1 st2 cA cB rows where
  bel := h.bel.grown (row := some R) hg h.bel.size (fun k hk => by cases hk; exact h.lr)
  rd := hr
  a := (hg.block A (Array.getElem?_eq_some_iff.1 h.a).1 (fun e => h.ar (Option.some.inj e))).trans h.a
  b := (hg.block B (Array.getElem?_eq_some_iff.1 h.b).1 (fun e => h.br (Option.some.inj e))).trans h.b
  own := fun r hr' => World.ownsRow.kept (h.own r hr') hg (Or.inr (fun e => by have := (World.ownsRow.lt (h.own r hr') R e).1; have := h.rn; omega))
  tys := h.tys
  la := h.la
  lr := h.lr
  lb := h.lb
  l0b := h.l0b
  ar := h.ar
  br := h.br
  ab := h.ab
  rn := h.rn
theorem PS.set {ty : TypeId} {w w0 w' : World} {A B R N1 : Nat} {st : RS} {cA cB : Array Value} {rows : List RowF} (h : PS ty w w0 w' A B R N1 st cA cB rows) (j : Nat) (v : Value) : PS ty w w0 (w'.setCell ⟨B, j, none⟩ v) A B R N1 st cA (cB.setIfInBounds j v) rows where
  bel := h.bel.setCell h.lb v
  rd := h.rd.grown (grown_set _ _ _ _) h.br h.l0b
  a := (Below.heap_setCell _ _ _ _ h.ab).trans h.a
  b := obj_setN h.b rfl
  own := fun r hr => own_set (h.own r hr) ⟨_, _, h.b⟩ (h.tys r hr)
  tys := h.tys
  la := h.la
  lr := h.lr
  lb := h.lb
  l0b := h.l0b
  ar := h.ar
  br := h.br
  ab := h.ab
  rn := h.rn
theorem PS.add {ty : TypeId} {w w0 w' : World} {A B R N1 : Nat} {st : RS} {cA cB : Array Value} {rows : List RowF} (h : PS ty w w0 w' A B R N1 st cA cB rows) (more : List RowF) (ho : ∀ r ∈ more, r.In w' N1) (ht : ∀ r ∈ more, ty ≠ r.t) : PS ty w w0 w' A B R N1 st cA cB (more ++ rows) where
  bel := h.bel
  rd := h.rd
  a := h.a
  b := h.b
  own := fun r hr => (List.mem_append.1 hr).elim (ho r) (h.own r)
  tys := fun r hr => (List.mem_append.1 hr).elim (ht r) (h.tys r)
  la := h.la
  lr := h.lr
  lb := h.lb
  l0b := h.l0b
  ar := h.ar
  br := h.br
  ab := h.ab
  rn := h.rn

/-- The rows of the lists of each kind. -/
def rowI (a : Option Addr) (cap : Nat) (l : List Int) : RowF := ⟨3, 1, .slice a l.length cap, l.length, l.flatMap (fun x : Int => [Value.int .i64 x])⟩
def rowS (a : Option Addr) (cap : Nat) (l : List ByteArray) : RowF := ⟨9, 1, .slice a l.length cap, l.length, strCells l⟩
def rowP (ty : TypeId) (a : Option Addr) (cap : Nat) (l : List Str2) : RowF := ⟨ty, 2, .slice a l.length cap, l.length, l.flatMap (fun x : Str2 => [Value.string x.1, Value.string x.2])⟩
def rowL (a : Option Addr) (cap : Nat) (l : List Tol) : RowF := ⟨246, 3, .slice a l.length cap, l.length, l.flatMap (fun x : Tol => [Value.string x.1, Value.string x.2.1, Value.bool x.2.2])⟩
def rowT (a : Option Addr) (cap : Nat) (l : List TrmH) : RowF := ⟨244, 3, .slice a l.length cap, l.length, l.flatMap cellsT⟩
def rowsT (a : Option Addr) (cap : Nat) (l : List TrmH) : List RowF := rowT a cap l :: l.map fun x => rowS x.2.1 x.2.2 x.1.vals

theorem owned_cells {w : World} {N : Nat} {t : TypeId} {sz : Nat} {a : Option Addr} {cap n : Nat} {xs : List Value} (h : w.ownsRow N t sz (.slice a n cap) n xs) {i j : Nat} (hi : i < n) (hj : j < sz) :
    ∃ b, a = some ⟨b, 0, none⟩ ∧ b < w.heap.size ∧ w.cell? ⟨b, 0 + i * sz + j, none⟩ = xs[i * sz + j]? := by
  rcases h.2 with ⟨hv, hn⟩ | ⟨g, c, cur, hv, _, hg, hnc, hcm, hcs, hx⟩
  · omega
  · simp at hv
    obtain ⟨rfl, _⟩ := hv
    refine ⟨g, rfl, (Array.getElem?_eq_some_iff.1 hg).1, ?_⟩
    rw [cell_of_obj hg, Nat.zero_add, ← hx, List.getElem?_take_of_lt]
    · simp
    · have : (i + 1) * sz ≤ n * sz := Nat.mul_le_mul_right _ hi
      rw [Nat.add_mul, Nat.one_mul] at this
      omega
theorem flat_at {α : Type} {f : α → List Value} {sz : Nat} (hf : ∀ x, (f x).length = sz) : ∀ {l : List α} {i j : Nat} {d : α}, i < l.length → j < sz → (l.flatMap f)[i * sz + j]? = (f (l.getD i d))[j]?
  | [], i, j, d, hi, hj => by simp at hi
  | x :: r, 0, j, d, hi, hj => by
    rw [List.flatMap_cons, List.getElem?_append_left (by rw [hf]; omega)]
    simp
  | x :: r, i + 1, j, d, hi, hj => by
    rw [List.flatMap_cons, List.getElem?_append_right (by rw [hf, Nat.add_mul]; omega), hf, show (i + 1) * sz + j - sz = i * sz + j by rw [Nat.add_mul]; omega, flat_at hf (d := d) (by simpa using hi) hj]
    simp

theorem AtI_of {w : World} {N : Nat} {a : Option Addr} {cap : Nat} {l : List Int} (h : (rowI a cap l).In w N) (hm : l.length ≤ 9223372036854775807) : AtI w a l := ⟨hm, fun i hi => by
  obtain ⟨b, rfl, hb, hc⟩ := owned_cells h (j := 0) hi (by show 0 < 1; omega)
  refine ⟨b, 0, rfl, hb, ?_⟩
  rw [show 0 + i = 0 + i * 1 + 0 by omega]
  exact hc.trans (flat_at (f := fun x : Int => [Value.int .i64 x]) (sz := 1) (j := 0) (l := l) (d := 0) (fun _ => rfl) hi (by decide))⟩
theorem At1_of {w : World} {N : Nat} {a : Option Addr} {cap : Nat} {l : List ByteArray} (h : (rowS a cap l).In w N) (hm : l.length ≤ 9223372036854775807) : At1 w a l := ⟨hm, fun i hi => by
  obtain ⟨b, rfl, hb, hc⟩ := owned_cells h (j := 0) hi (by show 0 < 1; omega)
  refine ⟨b, 0, rfl, hb, ?_⟩
  rw [show 0 + i = 0 + i * 1 + 0 by omega]
  exact hc.trans (flat_at (f := fun x : ByteArray => [Value.string x]) (sz := 1) (j := 0) (l := l) (d := ByteArray.empty) (fun _ => rfl) hi (by decide))⟩
theorem At2_of {w : World} {N : Nat} {ty : TypeId} {a : Option Addr} {cap : Nat} {l : List Str2} (h : (rowP ty a cap l).In w N) : At2 w a l := fun i hi => by
  obtain ⟨b, rfl, hb, hc⟩ := owned_cells h (j := 0) hi (by show 0 < 2; omega)
  obtain ⟨b', hb', _, hd⟩ := owned_cells h (j := 1) hi (by show 1 < 2; omega)
  simp at hb'
  subst hb'
  refine ⟨b, 0, rfl, hb, ?_, ?_⟩
  · rw [show 0 + i * 2 = 0 + i * 2 + 0 by omega]
    exact hc.trans (flat_at (f := fun x : Str2 => [Value.string x.1, Value.string x.2]) (sz := 2) (j := 0) (l := l) (d := e2) (fun _ => rfl) hi (by decide))
  · exact hd.trans (flat_at (f := fun x : Str2 => [Value.string x.1, Value.string x.2]) (sz := 2) (j := 1) (l := l) (d := e2) (fun _ => rfl) hi (by decide))
theorem AtL_of {w : World} {N : Nat} {a : Option Addr} {cap : Nat} {l : List Tol} (h : (rowL a cap l).In w N) (hm : l.length ≤ 9223372036854775807) : AtL w a l := ⟨hm, fun i hi => by
  obtain ⟨b, rfl, hb, hc⟩ := owned_cells h (j := 0) hi (by show 0 < 3; omega)
  obtain ⟨b', hb', _, hd⟩ := owned_cells h (j := 1) hi (by show 1 < 3; omega)
  obtain ⟨b'', hb'', _, he⟩ := owned_cells h (j := 2) hi (by show 2 < 3; omega)
  simp at hb' hb''
  subst hb'
  subst hb''
  refine ⟨b, 0, rfl, hb, ?_, ?_, ?_⟩
  · rw [show 0 + i * 3 = 0 + i * 3 + 0 by omega]
    exact hc.trans (flat_at (f := fun x : Tol => [Value.string x.1, Value.string x.2.1, Value.bool x.2.2]) (sz := 3) (j := 0) (l := l) (d := e3) (fun _ => rfl) hi (by decide))
  · exact hd.trans (flat_at (f := fun x : Tol => [Value.string x.1, Value.string x.2.1, Value.bool x.2.2]) (sz := 3) (j := 1) (l := l) (d := e3) (fun _ => rfl) hi (by decide))
  · exact he.trans (flat_at (f := fun x : Tol => [Value.string x.1, Value.string x.2.1, Value.bool x.2.2]) (sz := 3) (j := 2) (l := l) (d := e3) (fun _ => rfl) hi (by decide))⟩
end Go.Proofs.YtaleceobkbgcnaaGreat
namespace Go.Proofs.YtaleceobkbgcnaaGreat
open Go.RowKit

theorem owned_le {w : World} {N : Nat} {t : TypeId} {sz : Nat} {v : Value} {n : Nat} {xs : List Value} (h : w.ownsRow N t sz v n xs) : n ≤ 9223372036854775807 := by
  rcases h.2 with ⟨_, rfl⟩ | ⟨g, c, cur, _, _, _, h1, h2, _⟩
  · omega
  · unfold maxLen at h2; omega
theorem AtT_of {w : World} {N : Nat} {a : Option Addr} {cap : Nat} {l : List TrmH} (h : ∀ r ∈ rowsT a cap l, r.In w N) : AtT w a (l.map (·.1)) := by
  have h0 : (rowT a cap l).In w N := h _ (by simp [rowsT])
  have hv : ∀ x ∈ l, (rowS x.2.1 x.2.2 x.1.vals).In w N := fun x hx => h _ (by simp only [rowsT, List.mem_cons, List.mem_map]; exact Or.inr ⟨x, hx, rfl⟩)
  have hm : l.length ≤ 9223372036854775807 := owned_le h0
  refine ⟨by simpa using hm, fun i hi => ?_⟩
  have hi : i < l.length := by simpa using hi
  obtain ⟨b, rfl, hb, hc⟩ := owned_cells h0 (j := 0) hi (by show 0 < 3; omega)
  obtain ⟨b', hb', _, hd⟩ := owned_cells h0 (j := 1) hi (by show 1 < 3; omega)
  obtain ⟨b'', hb'', _, he⟩ := owned_cells h0 (j := 2) hi (by show 2 < 3; omega)
  simp at hb' hb''
  subst hb'
  subst hb''
  have hg : (l.map (·.1)).getD i t0 = (l.getD i (t0, none, 0)).1 := by simp [List.getD_eq_getElem?_getD, List.getElem?_eq_getElem hi]
  have hmem : l.getD i (t0, none, 0) ∈ l := getD_mem hi
  rw [hg]
  have hv1 := hv _ hmem
  refine ⟨b, 0, (l.getD i (t0, none, 0)).2.1, (l.getD i (t0, none, 0)).2.2, rfl, hb, ?_, ?_, ?_, At1_of hv1 (owned_le hv1)⟩
  · rw [show 0 + i * 3 = 0 + i * 3 + 0 by omega]
    exact hc.trans (flat_at (f := cellsT) (sz := 3) (j := 0) (l := l) (d := (t0, none, 0)) (fun _ => rfl) hi (by decide))
  · exact hd.trans (flat_at (f := cellsT) (sz := 3) (j := 1) (l := l) (d := (t0, none, 0)) (fun _ => rfl) hi (by decide))
  · exact he.trans (flat_at (f := cellsT) (sz := 3) (j := 2) (l := l) (d := (t0, none, 0)) (fun _ => rfl) hi (by decide))

def podRows (p : PodD) (h : PodH) (Ls La Le : List TrmH) : List RowF :=
  rowsT h.ea h.ec Le ++ (rowsT h.aa h.ac La ++ ([rowL h.ta h.tc p.tols] ++ (rowsT h.sa h.sc Ls ++ ([rowP 230 h.la h.lc p.labels] ++ ([rowI h.pa h.pc p.ports] ++ [])))))
/-- The lists of a pod lie in memory that began at block N. -/
def PodOwn (w : World) (N : Nat) (p : PodD) (h : PodH) : Prop := ∃ Ls La Le, Ls.map (·.1) = p.sel ∧ La.map (·.1) = p.anti ∧ Le.map (·.1) = p.even ∧ ∀ r ∈ podRows p h Ls La Le, r.In w N
theorem PodOwn.at {w : World} {N : Nat} {p : PodD} {h : PodH} (ho : PodOwn w N p h) : PodAt w p h := by
  obtain ⟨Ls, La, Le, e1, e2, e3, hr⟩ := ho
  have hI : (rowI h.pa h.pc p.ports).In w N := hr _ (by simp [podRows])
  have hP : (rowP 230 h.la h.lc p.labels).In w N := hr _ (by simp [podRows])
  have hL : (rowL h.ta h.tc p.tols).In w N := hr _ (by simp [podRows])
  refine ⟨AtI_of hI (owned_le hI), At2_of hP, owned_le hP, ?_, AtL_of hL (owned_le hL), ?_, ?_⟩
  · rw [← e1]; exact AtT_of (N := N) fun r hr' => hr r (by simp only [podRows, List.mem_append]; exact Or.inr (Or.inr (Or.inr (Or.inl hr'))))
  · rw [← e2]; exact AtT_of (N := N) fun r hr' => hr r (by simp only [podRows, List.mem_append]; exact Or.inr (Or.inl hr'))
  · rw [← e3]; exact AtT_of (N := N) fun r hr' => hr r (by simp only [podRows, List.mem_append]; exact Or.inl hr')
theorem PodOwn.below {w w' : World} {N : Nat} {p : PodD} {h : PodH} (ho : PodOwn w N p h) (hb : Below w.heap.size w w') : PodOwn w' N p h := by
  obtain ⟨Ls, La, Le, e1, e2, e3, hr⟩ := ho
  exact ⟨Ls, La, Le, e1, e2, e3, fun r hr' => (hr r hr').kept hb⟩

theorem PodOwn.mono {w : World} {N N' : Nat} {p : PodD} {h : PodH} (ho : PodOwn w N p h) (hN : N' ≤ N) : PodOwn w N' p h := by
  obtain ⟨Ls, La, Le, e1, e2, e3, hr⟩ := ho
  exact ⟨Ls, La, Le, e1, e2, e3, fun r hr' => World.ownsRow.mono (hr r hr') hN⟩
theorem podRows_ty {p : PodD} {h : PodH} {Ls La Le : List TrmH} : ∀ r ∈ podRows p h Ls La Le, 217 ≠ r.t ∧ True := by
  intro r hr
  simp only [podRows, rowsT, List.mem_append, List.mem_cons, List.mem_map, List.not_mem_nil, or_false] at hr
  rcases hr with (rfl | ⟨x, _, rfl⟩) | (rfl | ⟨x, _, rfl⟩) | rfl | (rfl | ⟨x, _, rfl⟩) | rfl | rfl
  all_goals (refine ⟨?_, trivial⟩; intro e; simp [rowT, rowS, rowL, rowP, rowI] at e)
theorem grown_setRow (w : World) (A : Nat) (cs : Array Value) : w.grownBy (w.setRow A cs) (some A) :=
  ⟨rfl, rfl, rfl, by simp, fun k _ hk => setRow_other w A k cs (fun e => hk (by rw [e]))⟩
theorem Below.setRow {B : Nat} {a w : World} (h : Below B a w) {A : Nat} (hA : B ≤ A) (cs : Array Value) : Below B a (w.setRow A cs) :=
  h.trans ⟨rfl, rfl, rfl, by simp, fun k hk => setRow_other w A k cs (by omega)⟩
/-- A result that lies in a block, and one that lies in a slot. -/
theorem results_row2 {P : Program} {fn : Func} {p q : Tmp} {ty : TypeId} (h : fn.results = #[.cell p ty, .tmp q]) (tmps : Array Value) (w : World) (g : Nat) (t : TypeId) (cs : Array Value) (fr : Nat × Nat) (d : TypeDesc)
    (hp : tmps.getD p undef = .pointer (some ⟨g, 0, none⟩)) (hg : w.heap[g]? = some (.cells cs t fr))
    (hu : P.underlying ty = some d) (hd : (match d with | .struct _ | .array _ _ => true | _ => false) = true) (hi : (P.info? ty).map (·.size) = some cs.size) :
    (results fn tmps).run P w = .ok (.tuple #[.agg cs, tmps.getD q undef]) w := by
  have hp' : tmps[p]?.getD undef = .pointer (some ⟨g, 0, none⟩) := by simpa using hp
  simp [results, h, hp', asAddr, run_loadVar_row w g t ty cs fr d hg hu hd hi]

/-- A pod of one's own, beside a block of whole pods. -/
def PodBeside (w : World) (N : Nat) (p : PodD) (h : PodH) (A : Nat) : Prop := PodOwn w N p h ∧ HasTy w A 217
theorem PodBeside.setRow {w : World} {N : Nat} {p : PodD} {h : PodH} {A : Nat} (hb : PodBeside w N p h A) (cs : Array Value) : PodOwn (w.setRow A cs) N p h := by
  obtain ⟨⟨Ls, La, Le, e1, e2, e3, hr⟩, hA⟩ := hb
  exact ⟨Ls, La, Le, e1, e2, e3, fun r hr' => World.ownsRow.kept (hr r hr') (grown_setRow w A cs) (Or.inr (own_ne (hr r hr') hA (podRows_ty r hr').1))⟩

def gPod (st : RS) : PodD × RS :=
  let a := gName st
  let b := gNum a.2
  let c := gNum b.2
  let d := gRes c.2
  let e := gList gNum d.2
  let f := gList gPair e.2
  let g := gList gTerm f.2
  let i := gList gToler g.2
  let j := gName i.2
  let k := gList gTerm j.2
  let l := gNum k.2
  let m := gList gTerm l.2
  let n := gName m.2
  let o := gNum n.2
  (⟨a.1, b.1, c.1, d.1.1, d.1.2.1, d.1.2.2, e.1, f.1, g.1, i.1, j.1, k.1, l.1, m.1, n.1, o.1⟩, o.2)

theorem rowsT_in {w : World} {N : Nat} {a : Option Addr} {cap : Nat} {l : List TrmH} (h : w.ownsRow N 244 3 (.slice a l.length cap) l.length (l.flatMap cellsT)) (hv : ∀ x ∈ l, OwnV w N x) : ∀ r ∈ rowsT a cap l, r.In w N := by
  intro r hr
  simp only [rowsT, List.mem_cons, List.mem_map] at hr
  rcases hr with rfl | ⟨x, hx, rfl⟩
  · exact h
  · exact hv x hx
theorem rowsT_ty (a : Option Addr) (cap : Nat) (l : List TrmH) : ∀ r ∈ rowsT a cap l, 217 ≠ r.t := by
  intro r hr
  simp only [rowsT, List.mem_cons, List.mem_map] at hr
  rcases hr with rfl | ⟨x, hx, rfl⟩
  · show (217 : TypeId) ≠ 244; decide
  · show (217 : TypeId) ≠ 9; decide
theorem rowI_in {w : World} {N : Nat} {a : Option Addr} {cap : Nat} {l : List Int} (h : w.ownsRow N 3 1 (.slice a l.length cap) l.length (l.flatMap (fun x : Int => [Value.int .i64 x]))) : ∀ r ∈ [rowI a cap l], r.In w N := by
  intro r hr
  simp only [List.mem_cons, List.not_mem_nil, or_false] at hr
  subst hr
  exact h
theorem rowP_in {w : World} {N : Nat} {ty : TypeId} {a : Option Addr} {cap : Nat} {l : List Str2} (h : w.ownsRow N ty 2 (.slice a l.length cap) l.length (l.flatMap (fun x : Str2 => [Value.string x.1, Value.string x.2]))) : ∀ r ∈ [rowP ty a cap l], r.In w N := by
  intro r hr
  simp only [List.mem_cons, List.not_mem_nil, or_false] at hr
  subst hr
  exact h
theorem rowL_in {w : World} {N : Nat} {a : Option Addr} {cap : Nat} {l : List Tol} (h : w.ownsRow N 246 3 (.slice a l.length cap) l.length (l.flatMap (fun x : Tol => [Value.string x.1, Value.string x.2.1, Value.bool x.2.2]))) : ∀ r ∈ [rowL a cap l], r.In w N := by
  intro r hr
  simp only [List.mem_cons, List.not_mem_nil, or_false] at hr
  subst hr
  exact h
theorem rowI_ty (a : Option Addr) (cap : Nat) (l : List Int) : ∀ r ∈ [rowI a cap l], 217 ≠ r.t := by intro r hr; simp only [List.mem_cons, List.not_mem_nil, or_false] at hr; subst hr; show (217 : TypeId) ≠ 3; decide
theorem rowP_ty (a : Option Addr) (cap : Nat) (l : List Str2) : ∀ r ∈ [rowP 230 a cap l], 217 ≠ r.t := by intro r hr; simp only [List.mem_cons, List.not_mem_nil, or_false] at hr; subst hr; show (217 : TypeId) ≠ 230; decide
theorem rowL_ty (a : Option Addr) (cap : Nat) (l : List Tol) : ∀ r ∈ [rowL a cap l], 217 ≠ r.t := by intro r hr; simp only [List.mem_cons, List.not_mem_nil, or_false] at hr; subst hr; show (217 : TypeId) ≠ 246; decide
end Go.Proofs.YtaleceobkbgcnaaGreat
