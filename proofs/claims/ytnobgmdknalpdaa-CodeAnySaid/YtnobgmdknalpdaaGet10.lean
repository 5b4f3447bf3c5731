/-
  What is known of an object while it is read: its own block, the reader, the lists that were read so far.
-/
import Derived.Test.YtnobgmdknalpdaaGet9
set_option linter.unusedSimpArgs false
set_option linter.unusedVariables false
namespace Go.Proofs.Ytnobgmdknalpdaa
open Go.RowKit

/-- A row of the call's own: its type, cells of an element, value, elements, cells. -/
structure RowF where
  t : TypeId
  sz : Nat
  v : Value
  n : Nat
  xs : List Value
def RowF.In (r : RowF) (w : World) (N : Nat) : Prop := w.ownsRow N r.t r.sz r.v r.n r.xs
theorem RowF.In.kept {r : RowF} {w w' : World} {N : Nat} (h : r.In w N) (hb : Below w.heap.size w w') : r.In w' N :=
  World.ownsRow.kept (row := none) h ⟨hb.os, hb.tape, hb.output, hb.size, fun k hk _ => hb.block k hk⟩ (by cases hv : r.v.ownBlock <;> simp)

structure PS (ty : TypeId) (w w0 w' : World) (A B R N1 : Nat) (st : RS) (cA cB : Array Value) (rows : List RowF) : Prop where
  bel : Below w.heap.size w w'
  rd : Rd w0 w' R st.1 st.2
  a : w'.heap[A]? = some (.cells cA ty)
  b : w'.heap[B]? = some (.cells cB ty)
  own : ∀ r ∈ rows, r.In w' N1
  tys : ∀ r ∈ rows, ty ≠ r.t
  la : w.heap.size ≤ A
  lr : w.heap.size ≤ R
  lb : w.heap.size ≤ B
  l0b : w0.heap.size ≤ B
  ar : A ≠ R
  br : B ≠ R
  ab : A ≠ B
  rn : R < N1
theorem PS.get {ty : TypeId} {w w0 w' w2 : World} {A B R N1 : Nat} {st st2 : RS} {cA cB : Array Value} {rows : List RowF} (h : PS ty w w0 w' A B R N1 st cA cB rows) (hg : w'.grownBy w2 (some R)) (hr : Rd w0 w2 R st2.1 st2.2) : PS ty w w0 w2 A B R N1 st2 cA cB rows where
  bel := h.bel.grown (row := some R) hg h.bel.size (fun k hk => by cases hk; exact h.lr)
  rd := hr
  a := (hg.block A (Array.getElem?_eq_some_iff.1 h.a).1 (fun e => h.ar (Option.some.inj e))).trans h.a
  b := (hg.block B (Array.getElem?_eq_some_iff.1 h.b).1 (fun e => h.br (Option.some.inj e))).trans h.b
  own := fun r hr' => World.ownsRow.kept (h.own r hr') hg (Or.inr (fun e => by have := (World.ownsRow.lt (h.own r hr') R e).1; have := h.rn; omega))
  tys := h.tys
  la := h.la
  lr := h.lr
  lb := h.lb
  l0b := h.l0b
  ar := h.ar
  br := h.br
  ab := h.ab
  rn := h.rn
theorem PS.set {ty : TypeId} {w w0 w' : World} {A B R N1 : Nat} {st : RS} {cA cB : Array Value} {rows : List RowF} (h : PS ty w w0 w' A B R N1 st cA cB rows) (j : Nat) (v : Value) : PS ty w w0 (w'.setCell ⟨B, j, none⟩ v) A B R N1 st cA (cB.setIfInBounds j v) rows where
  bel := h.bel.setCell h.lb v
  rd := h.rd.grown (grown_set _ _ _ _) h.br h.l0b
  a := (Below.heap_setCell _ _ _ _ h.ab).trans h.a
  b := obj_setN h.b rfl
  own := fun r hr => own_set (h.own r hr) ⟨_, _, h.b⟩ (h.tys r hr)
  tys := h.tys
  la := h.la
  lr := h.lr
  lb := h.lb
  l0b := h.l0b
  ar := h.ar
  br := h.br
  ab := h.ab
  rn := h.rn
theorem PS.add {ty : TypeId} {w w0 w' : World} {A B R N1 : Nat} {st : RS} {cA cB : Array Value} {rows : List RowF} (h : PS ty w w0 w' A B R N1 st cA cB rows) (more : List RowF) (ho : ∀ r ∈ more, r.In w' N1) (ht : ∀ r ∈ more, ty ≠ r.t) : PS ty w w0 w' A B R N1 st cA cB (more ++ rows) where
  bel := h.bel
  rd := h.rd
  a := h.a
  b := h.b
  own := fun r hr => (List.mem_append.1 hr).elim (ho r) (h.own r)
  tys := fun r hr => (List.mem_append.1 hr).elim (ht r) (h.tys r)
  la := h.la
  lr := h.lr
  lb := h.lb
  l0b := h.l0b
  ar := h.ar
  br := h.br
  ab := h.ab
  rn := h.rn

/-- The rows of the lists of each kind. -/
def rowI (a : Option Addr) (cap : Nat) (l : List Int) : RowF := ⟨3, 1, .slice a l.length cap, l.length, l.flatMap (fun x : Int => [Value.int .i64 x])⟩
def rowS (a : Option Addr) (cap : Nat) (l : List ByteArray) : RowF := ⟨9, 1, .slice a l.length cap, l.length, strCells l⟩
def rowP (ty : TypeId) (a : Option Addr) (cap : Nat) (l : List Str2) : RowF := ⟨ty, 2, .slice a l.length cap, l.length, l.flatMap (fun x : Str2 => [Value.string x.1, Value.string x.2])⟩
def rowL (a : Option Addr) (cap : Nat) (l : List Tol) : RowF := ⟨42, 3, .slice a l.length cap, l.length, l.flatMap (fun x : Tol => [Value.string x.1, Value.string x.2.1, Value.bool x.2.2])⟩
def rowT (a : Option Addr) (cap : Nat) (l : List TrmH) : RowF := ⟨40, 3, .slice a l.length cap, l.length, l.flatMap cellsT⟩
def rowsT (a : Option Addr) (cap : Nat) (l : List TrmH) : List RowF := rowT a cap l :: l.map fun x => rowS x.2.1 x.2.2 x.1.vals

theorem owned_cells {w : World} {N : Nat} {t : TypeId} {sz : Nat} {a : Option Addr} {cap n : Nat} {xs : List Value} (h : w.ownsRow N t sz (.slice a n cap) n xs) {i j : Nat} (hi : i < n) (hj : j < sz) :
    ∃ b, a = some ⟨b, 0, none⟩ ∧ b < w.heap.size ∧ w.cell? ⟨b, 0 + i * sz + j, none⟩ = xs[i * sz + j]? := by
  rcases h.2 with ⟨hv, hn⟩ | ⟨g, c, cur, hv, _, hg, hnc, hcm, hcs, hx⟩
  · omega
  · simp at hv
    obtain ⟨rfl, _⟩ := hv
    refine ⟨g, rfl, (Array.getElem?_eq_some_iff.1 hg).1, ?_⟩
    rw [cell_of_obj hg, Nat.zero_add, ← hx, List.getElem?_take_of_lt]
    · simp
    · have : (i + 1) * sz ≤ n * sz := Nat.mul_le_mul_right _ hi
      rw [Nat.add_mul, Nat.one_mul] at this
      omega
theorem flat_at {α : Type} {f : α → List Value} {sz : Nat} (hf : ∀ x, (f x).length = sz) : ∀ {l : List α} {i j : Nat} {d : α}, i < l.length → j < sz → (l.flatMap f)[i * sz + j]? = (f (l.getD i d))[j]?
  | [], i, j, d, hi, hj => by simp at hi
  | x :: r, 0, j, d, hi, hj => by
    rw [List.flatMap_cons, List.getElem?_append_left (by rw [hf]; omega)]
    simp
  | x :: r, i + 1, j, d, hi, hj => by
    rw [List.flatMap_cons, List.getElem?_append_right (by rw [hf, Nat.add_mul]; omega), hf, show (i + 1) * sz + j - sz = i * sz + j by rw [Nat.add_mul]; omega, flat_at hf (d := d) (by simpa using hi) hj]
    simp

theorem AtI_of {w : World} {N : Nat} {a : Option Addr} {cap : Nat} {l : List Int} (h : (rowI a cap l).In w N) (hm : l.length ≤ 9223372036854775807) : AtI w a l := ⟨hm, fun i hi => by
  obtain ⟨b, rfl, hb, hc⟩ := owned_cells h (j := 0) hi (by show 0 < 1; omega)
  refine ⟨b, 0, rfl, hb, ?_⟩
  rw [show 0 + i = 0 + i * 1 + 0 by omega]
  exact hc.trans (flat_at (f := fun x : Int => [Value.int .i64 x]) (sz := 1) (j := 0) (l := l) (d := 0) (fun _ => rfl) hi (by decide))⟩
theorem At1_of {w : World} {N : Nat} {a : Option Addr} {cap : Nat} {l : List ByteArray} (h : (rowS a cap l).In w N) (hm : l.length ≤ 9223372036854775807) : At1 w a l := ⟨hm, fun i hi => by
  obtain ⟨b, rfl, hb, hc⟩ := owned_cells h (j := 0) hi (by show 0 < 1; omega)
  refine ⟨b, 0, rfl, hb, ?_⟩
  rw [show 0 + i = 0 + i * 1 + 0 by omega]
  exact hc.trans (flat_at (f := fun x : ByteArray => [Value.string x]) (sz := 1) (j := 0) (l := l) (d := ByteArray.empty) (fun _ => rfl) hi (by decide))⟩
theorem At2_of {w : World} {N : Nat} {ty : TypeId} {a : Option Addr} {cap : Nat} {l : List Str2} (h : (rowP ty a cap l).In w N) : At2 w a l := fun i hi => by
  obtain ⟨b, rfl, hb, hc⟩ := owned_cells h (j := 0) hi (by show 0 < 2; omega)
  obtain ⟨b', hb', _, hd⟩ := owned_cells h (j := 1) hi (by show 1 < 2; omega)
  simp at hb'
  subst hb'
  refine ⟨b, 0, rfl, hb, ?_, ?_⟩
  · rw [show 0 + i * 2 = 0 + i * 2 + 0 by omega]
    exact hc.trans (flat_at (f := fun x : Str2 => [Value.string x.1, Value.string x.2]) (sz := 2) (j := 0) (l := l) (d := e2) (fun _ => rfl) hi (by decide))
  · exact hd.trans (flat_at (f := fun x : Str2 => [Value.string x.1, Value.string x.2]) (sz := 2) (j := 1) (l := l) (d := e2) (fun _ => rfl) hi (by decide))
theorem AtL_of {w : World} {N : Nat} {a : Option Addr} {cap : Nat} {l : List Tol} (h : (rowL a cap l).In w N) (hm : l.length ≤ 9223372036854775807) : AtL w a l := ⟨hm, fun i hi => by
  obtain ⟨b, rfl, hb, hc⟩ := owned_cells h (j := 0) hi (by show 0 < 3; omega)
  obtain ⟨b', hb', _, hd⟩ := owned_cells h (j := 1) hi (by show 1 < 3; omega)
  obtain ⟨b'', hb'', _, he⟩ := owned_cells h (j := 2) hi (by show 2 < 3; omega)
  simp at hb' hb''
  subst hb'
  subst hb''
  refine ⟨b, 0, rfl, hb, ?_, ?_, ?_⟩
  · rw [show 0 + i * 3 = 0 + i * 3 + 0 by omega]
    exact hc.trans (flat_at (f := fun x : Tol => [Value.string x.1, Value.string x.2.1, Value.bool x.2.2]) (sz := 3) (j := 0) (l := l) (d := e3) (fun _ => rfl) hi (by decide))
  · exact hd.trans (flat_at (f := fun x : Tol => [Value.string x.1, Value.string x.2.1, Value.bool x.2.2]) (sz := 3) (j := 1) (l := l) (d := e3) (fun _ => rfl) hi (by decide))
  · exact he.trans (flat_at (f := fun x : Tol => [Value.string x.1, Value.string x.2.1, Value.bool x.2.2]) (sz := 3) (j := 2) (l := l) (d := e3) (fun _ => rfl) hi (by decide))⟩
end Go.Proofs.Ytnobgmdknalpdaa
