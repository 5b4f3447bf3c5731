/-
  How an argument that is a slice, a struct or an array is opened, element by element. No conditions beyond what is written in each statement.
-/
import Derived.Test.YtaleceobkbgcnaaGreatObj1
import Derived.ProofKit
import Derived.OpenShut
import Derived.Deep.Slices
import Derived.Deep.Strs
set_option linter.unusedSimpArgs false
set_option linter.unusedVariables false
namespace Go.Proofs.YtaleceobkbgcnaaGreat
open Go.RowKit Go.ChangeShapes Go.WideShapes Go.Deep

theorem cell_lt {w : World} {b off : Nat} {v : Value} (h : w.cell? ⟨b, off, none⟩ = some v) : b < w.heap.size := by
  unfold World.cell? at h
  split at h
  · rename_i he; exact (Array.getElem?_eq_some_iff.1 he).1
  · simp at h
theorem list_of {α : Type} [Inhabited α] {n : Nat} {p : Nat → α → Prop} (d : α) (h : ∀ i, i < n → ∃ x, p i x) : ∃ l : List α, l.length = n ∧ ∀ i, i < n → p i (l.getD i d) := by
  obtain ⟨f, hf⟩ := choose_lt h
  refine ⟨(List.range n).map f, by simp, fun i hi => ?_⟩
  have e : ((List.range n).map f).getD i d = f i := by simp [List.getD_eq_getElem?_getD, hi]
  rw [e]; exact hf i hi

theorem list2 {α : Type} {l : List α} (h : l.length = 2) : ∃ a b, l = [a, b] := by
  match l, h with
  | [a, b], _ => exact ⟨a, b, rfl⟩
theorem list3 {α : Type} {l : List α} (h : l.length = 3) : ∃ a b c, l = [a, b, c] := by
  match l, h with
  | [a, b, c], _ => exact ⟨a, b, c, rfl⟩
theorem cellsStr : Tryz.prog.cellsOf 9 = 1 := by kernel_rfl
theorem cellsInt : Tryz.prog.cellsOf 3 = 1 := by kernel_rfl
theorem cellsI64 : Tryz.prog.cellsOf 2 = 1 := by kernel_rfl
theorem cellsU8 : Tryz.prog.cellsOf 5 = 1 := by kernel_rfl
theorem cellsBool : Tryz.prog.cellsOf 4 = 1 := by kernel_rfl
theorem cellsStrs : Tryz.prog.cellsOf 88 = 1 := by kernel_rfl
theorem cellsPair : Tryz.prog.cellsOf 230 = 2 := by kernel_rfl
theorem cellsTaint : Tryz.prog.cellsOf 232 = 2 := by kernel_rfl
theorem cellsToler : Tryz.prog.cellsOf 246 = 3 := by kernel_rfl
theorem cellsTerm : Tryz.prog.cellsOf 244 = 3 := by kernel_rfl
theorem cellsRes : Tryz.prog.cellsOf 210 = 3 := by kernel_rfl

section
variable {H : Type} {enc : TypeId × Value → H} {w : World} {base : Nat} {sp : Nat → Bool} {held : Bool} {fuel : Nat} {cs : List Value} {x : DataW H × List MemPlace}

/-- The elements of a slice, one by one: where each lies, and what its cells are. -/
theorem open_els {t e : TypeId} {S : Nat} (ht : Tryz.prog.underlying t = some (.slice e)) (hS : Tryz.prog.cellsOf e = S) (hpos : 0 < S) (h : DataW.trod enc Tryz.prog w base sp held fuel t cs = some x) :
    ∃ (a : Option Addr) (len cap : Nat), cs = [.slice a len cap] ∧ len ≤ cap ∧ cap ≤ maxLen ∧ (a = none → cap = 0) ∧ ∀ i, i < len → ∃ b off, a = some ⟨b, off, none⟩ ∧ b < w.heap.size ∧ ∃ (cs' : List Value) (n : Nat) (y : DataW H × List MemPlace),
      cs'.length = S ∧ (∀ j, j < S → w.cell? ⟨b, off + i * S + j, none⟩ = cs'[j]?) ∧ DataW.trod enc Tryz.prog w base sp held n e cs' = some y := by
  rcases open_slice ht h with ⟨rfl, _⟩ | ⟨a, len, cap, m, n, D, Pl, rfl, hb, hl, hm, hmm, _, hx⟩
  · exact ⟨none, 0, 0, rfl, Nat.le_refl _, Nat.zero_le _, fun _ => rfl, fun i hi => by omega⟩
  · have hlm : len ≤ m := by rw [hmm]; split <;> omega
    rw [hS] at hx
    refine ⟨some a, len, cap, rfl, hl, hm, (fun h => by cases h), fun i hi => ?_⟩
    obtain ⟨b, off, spot⟩ := a
    have hspot : spot = none := by
      obtain ⟨cs0, h1, _⟩ := hx 0 (by omega)
      obtain ⟨_, hlen, hc⟩ := World.cells?_some h1
      have h0 := hc 0 hpos
      rw [List.getElem?_eq_getElem (by omega)] at h0
      simpa [Addr.add] using World.cell?_spot h0
    subst hspot
    obtain ⟨cs', h1, h2⟩ := hx i (by omega)
    obtain ⟨_, hlen, hc⟩ := World.cells?_some h1
    have hcell : ∀ j, j < S → w.cell? ⟨b, off + i * S + j, none⟩ = cs'[j]? := fun j hj => by
      have := hc j hj
      rw [add_add, add_plain, ← Nat.add_assoc] at this
      exact this
    have h0 := hcell 0 hpos
    rw [List.getElem?_eq_getElem (by omega)] at h0
    exact ⟨b, off, rfl, cell_lt h0, cs', n, _, hlen, hcell, h2⟩

theorem open_pair_el {n : Nat} (h : DataW.trod enc Tryz.prog w base sp held n 230 cs = some x) : ∃ k v : ByteArray, cs = [.string k, .string v] ∧ k.size ≤ maxLen ∧ v.size ≤ maxLen := by
  obtain ⟨y0, y1, m, _, hl, h0, h1⟩ := trod_struct2 Tryz.underlying230 h
  rw [cellsPair] at hl
  obtain ⟨c0, c1, rfl⟩ := list2 hl
  dsimp only at h0 h1
  rw [cellsStr] at h0 h1
  obtain ⟨s0, e0, _, z0⟩ := DataW.trod_string Tryz.underlying9 h0
  obtain ⟨s1, e1, _, z1⟩ := DataW.trod_string Tryz.underlying9 h1
  simp at e0 e1
  subst e0 e1
  exact ⟨_, _, rfl, z0, z1⟩
theorem open_taint_el {n : Nat} (h : DataW.trod enc Tryz.prog w base sp held n 232 cs = some x) : ∃ k v : ByteArray, cs = [.string k, .string v] ∧ k.size ≤ maxLen ∧ v.size ≤ maxLen := by
  obtain ⟨y0, y1, m, _, hl, h0, h1⟩ := trod_struct2 Tryz.underlying232 h
  rw [cellsTaint] at hl
  obtain ⟨c0, c1, rfl⟩ := list2 hl
  dsimp only at h0 h1
  rw [cellsStr] at h0 h1
  obtain ⟨s0, e0, _, z0⟩ := DataW.trod_string Tryz.underlying9 h0
  obtain ⟨s1, e1, _, z1⟩ := DataW.trod_string Tryz.underlying9 h1
  simp at e0 e1
  subst e0 e1
  exact ⟨_, _, rfl, z0, z1⟩
theorem open_toler_el {n : Nat} (h : DataW.trod enc Tryz.prog w base sp held n 246 cs = some x) : ∃ (k v : ByteArray) (b : Bool), cs = [.string k, .string v, .bool b] ∧ k.size ≤ maxLen ∧ v.size ≤ maxLen := by
  obtain ⟨y0, y1, y2, m, _, hl, h0, h1, h2⟩ := trod_struct3 Tryz.underlying246 h
  rw [cellsToler] at hl
  obtain ⟨c0, c1, c2, rfl⟩ := list3 hl
  dsimp only at h0 h1 h2
  rw [cellsStr] at h0 h1
  rw [cellsBool] at h2
  obtain ⟨s0, e0, _, z0⟩ := DataW.trod_string Tryz.underlying9 h0
  obtain ⟨s1, e1, _, z1⟩ := DataW.trod_string Tryz.underlying9 h1
  obtain ⟨s2, e2, _⟩ := DataW.trod_bool Tryz.underlying4 h2
  simp at e0 e1 e2
  subst e0 e1 e2
  exact ⟨_, _, _, rfl, z0, z1⟩

/-- Slices of strings, integers, bytes, pairs, taints, tolerations. -/
theorem open_strs (h : DataW.trod enc Tryz.prog w base sp held fuel 88 cs = some x) :
    ∃ (a : Option Addr) (l : List ByteArray) (cap : Nat), cs = [.slice a l.length cap] ∧ l.length ≤ cap ∧ cap ≤ maxLen ∧ (a = none → cap = 0) ∧ At1 w a l ∧ ∀ i, i < l.length → (l.getD i ByteArray.empty).size ≤ maxLen := by
  obtain ⟨a, len, cap, rfl, hl, hm, hn, hx⟩ := open_els Tryz.underlying88 cellsStr (by decide) h
  obtain ⟨l, rfl, hp⟩ := list_of (p := fun i (s : ByteArray) => s.size ≤ maxLen ∧ ∃ b off, a = some ⟨b, off, none⟩ ∧ b < w.heap.size ∧ w.cell? ⟨b, off + i, none⟩ = some (.string s)) ByteArray.empty (fun i hi => by
    obtain ⟨b, off, ha, hb, cs', n, y, hlen, hc, hy⟩ := hx i hi
    obtain ⟨s, rfl, _, z⟩ := DataW.trod_string Tryz.underlying9 hy
    exact ⟨s, z, b, off, ha, hb, by simpa using hc 0 (by decide)⟩)
  exact ⟨a, l, cap, rfl, hl, hm, hn, ⟨by unfold maxLen at hm; omega, fun i hi => (hp i hi).2⟩, fun i hi => (hp i hi).1⟩
theorem open_ints64 (h : DataW.trod enc Tryz.prog w base sp held fuel 39 cs = some x) :
    ∃ (a : Option Addr) (l : List Int) (cap : Nat), cs = [.slice a l.length cap] ∧ l.length ≤ cap ∧ cap ≤ maxLen ∧ (a = none → cap = 0) ∧ AtI w a l ∧ ∀ i, i < l.length → (Lit.int .i64 (l.getD i 0)).wf = true := by
  obtain ⟨a, len, cap, rfl, hl, hm, hn, hx⟩ := open_els Tryz.underlying39 cellsInt (by decide) h
  obtain ⟨l, rfl, hp⟩ := list_of (p := fun i (s : Int) => (Lit.int .i64 s).wf = true ∧ ∃ b off, a = some ⟨b, off, none⟩ ∧ b < w.heap.size ∧ w.cell? ⟨b, off + i, none⟩ = some (.int .i64 s)) (0 : Int) (fun i hi => by
    obtain ⟨b, off, ha, hb, cs', n, y, hlen, hc, hy⟩ := hx i hi
    obtain ⟨s, rfl, _, z⟩ := DataW.trod_int Tryz.underlying3 hy
    exact ⟨s, z, b, off, ha, hb, by simpa using hc 0 (by decide)⟩)
  exact ⟨a, l, cap, rfl, hl, hm, hn, ⟨by unfold maxLen at hm; omega, fun i hi => (hp i hi).2⟩, fun i hi => (hp i hi).1⟩
theorem open_pairs (h : DataW.trod enc Tryz.prog w base sp held fuel 213 cs = some x) :
    ∃ (a : Option Addr) (l : List Str2) (cap : Nat), cs = [.slice a l.length cap] ∧ l.length ≤ cap ∧ cap ≤ maxLen ∧ (a = none → cap = 0) ∧ At2 w a l ∧ ∀ i, i < l.length → (l.getD i e2).1.size ≤ maxLen ∧ (l.getD i e2).2.size ≤ maxLen := by
  obtain ⟨a, len, cap, rfl, hl, hm, hn, hx⟩ := open_els Tryz.underlying213 cellsPair (by decide) h
  obtain ⟨l, rfl, hp⟩ := list_of (p := fun i (s : Str2) => (s.1.size ≤ maxLen ∧ s.2.size ≤ maxLen) ∧ ∃ b off, a = some ⟨b, off, none⟩ ∧ b < w.heap.size ∧ w.cell? ⟨b, off + i * 2, none⟩ = some (.string s.1) ∧ w.cell? ⟨b, off + i * 2 + 1, none⟩ = some (.string s.2)) e2 (fun i hi => by
    obtain ⟨b, off, ha, hb, cs', n, y, hlen, hc, hy⟩ := hx i hi
    obtain ⟨k, v, rfl, z0, z1⟩ := open_pair_el hy
    exact ⟨(k, v), ⟨z0, z1⟩, b, off, ha, hb, by simpa using hc 0 (by decide), by simpa using hc 1 (by decide)⟩)
  exact ⟨a, l, cap, rfl, hl, hm, hn, fun i hi => (hp i hi).2, fun i hi => (hp i hi).1⟩
theorem open_taints (h : DataW.trod enc Tryz.prog w base sp held fuel 233 cs = some x) :
    ∃ (a : Option Addr) (l : List Str2) (cap : Nat), cs = [.slice a l.length cap] ∧ l.length ≤ cap ∧ cap ≤ maxLen ∧ (a = none → cap = 0) ∧ At2 w a l ∧ ∀ i, i < l.length → (l.getD i e2).1.size ≤ maxLen ∧ (l.getD i e2).2.size ≤ maxLen := by
  obtain ⟨a, len, cap, rfl, hl, hm, hn, hx⟩ := open_els Tryz.underlying233 cellsTaint (by decide) h
  obtain ⟨l, rfl, hp⟩ := list_of (p := fun i (s : Str2) => (s.1.size ≤ maxLen ∧ s.2.size ≤ maxLen) ∧ ∃ b off, a = some ⟨b, off, none⟩ ∧ b < w.heap.size ∧ w.cell? ⟨b, off + i * 2, none⟩ = some (.string s.1) ∧ w.cell? ⟨b, off + i * 2 + 1, none⟩ = some (.string s.2)) e2 (fun i hi => by
    obtain ⟨b, off, ha, hb, cs', n, y, hlen, hc, hy⟩ := hx i hi
    obtain ⟨k, v, rfl, z0, z1⟩ := open_taint_el hy
    exact ⟨(k, v), ⟨z0, z1⟩, b, off, ha, hb, by simpa using hc 0 (by decide), by simpa using hc 1 (by decide)⟩)
  exact ⟨a, l, cap, rfl, hl, hm, hn, fun i hi => (hp i hi).2, fun i hi => (hp i hi).1⟩
theorem open_tolers (h : DataW.trod enc Tryz.prog w base sp held fuel 215 cs = some x) :
    ∃ (a : Option Addr) (l : List Tol) (cap : Nat), cs = [.slice a l.length cap] ∧ l.length ≤ cap ∧ cap ≤ maxLen ∧ (a = none → cap = 0) ∧ AtL w a l ∧ ∀ i, i < l.length → (l.getD i e3).1.size ≤ maxLen ∧ (l.getD i e3).2.1.size ≤ maxLen := by
  obtain ⟨a, len, cap, rfl, hl, hm, hn, hx⟩ := open_els Tryz.underlying215 cellsToler (by decide) h
  obtain ⟨l, rfl, hp⟩ := list_of (p := fun i (s : Tol) => (s.1.size ≤ maxLen ∧ s.2.1.size ≤ maxLen) ∧ ∃ b off, a = some ⟨b, off, none⟩ ∧ b < w.heap.size ∧ w.cell? ⟨b, off + i * 3, none⟩ = some (.string s.1) ∧ w.cell? ⟨b, off + i * 3 + 1, none⟩ = some (.string s.2.1) ∧ w.cell? ⟨b, off + i * 3 + 2, none⟩ = some (.bool s.2.2)) e3 (fun i hi => by
    obtain ⟨b, off, ha, hb, cs', n, y, hlen, hc, hy⟩ := hx i hi
    obtain ⟨k, v, c, rfl, z0, z1⟩ := open_toler_el hy
    exact ⟨(k, v, c), ⟨z0, z1⟩, b, off, ha, hb, by simpa using hc 0 (by decide), by simpa using hc 1 (by decide), by simpa using hc 2 (by decide)⟩)
  exact ⟨a, l, cap, rfl, hl, hm, hn, ⟨by unfold maxLen at hm; omega, fun i hi => (hp i hi).2⟩, fun i hi => (hp i hi).1⟩

instance : Inhabited Trm := ⟨t0⟩
/-- No string of a term is too long. -/
def SzT (t : Trm) : Prop := t.key.size ≤ maxLen ∧ ∀ v ∈ t.vals, v.size ≤ maxLen
theorem mem_getD {α : Type} {l : List α} {p : α → Prop} {d : α} (h : ∀ i, i < l.length → p (l.getD i d)) : ∀ x ∈ l, p x := by
  intro x hx
  obtain ⟨i, hi, rfl⟩ := List.getElem_of_mem hx
  have := h i hi
  rwa [List.getD_eq_getElem?_getD, List.getElem?_eq_getElem hi] at this
theorem open_term_el {n : Nat} (h : DataW.trod enc Tryz.prog w base sp held n 244 cs = some x) :
    ∃ (t : Trm) (va : Option Addr) (vcap : Nat), cs = [.string t.key, .int .i64 t.kind, .slice va t.vals.length vcap] ∧ t.vals.length ≤ vcap ∧ vcap ≤ maxLen ∧ At1 w va t.vals ∧ (Lit.int .i64 t.kind).wf = true ∧ SzT t := by
  obtain ⟨y0, y1, y2, m, _, hl, h0, h1, h2⟩ := trod_struct3 Tryz.underlying244 h
  rw [cellsTerm] at hl
  obtain ⟨c0, c1, c2, rfl⟩ := list3 hl
  dsimp only at h0 h1 h2
  rw [cellsStr] at h0
  rw [cellsInt] at h1
  rw [cellsStrs] at h2
  obtain ⟨s0, e0, _, z0⟩ := DataW.trod_string Tryz.underlying9 h0
  obtain ⟨s1, e1, _, z1⟩ := DataW.trod_int Tryz.underlying3 h1
  obtain ⟨va, l, vcap, e2, hll, hmm, _, hat, hsv⟩ := open_strs h2
  simp at e0 e1 e2
  subst e0 e1 e2
  exact ⟨⟨_, _, l⟩, va, vcap, rfl, hll, hmm, hat, z1, z0, mem_getD hsv⟩
theorem open_terms (h : DataW.trod enc Tryz.prog w base sp held fuel 214 cs = some x) :
    ∃ (a : Option Addr) (l : List Trm) (cap : Nat), cs = [.slice a l.length cap] ∧ l.length ≤ cap ∧ cap ≤ maxLen ∧ (a = none → cap = 0) ∧ AtT w a l ∧ ∀ t ∈ l, SzT t := by
  obtain ⟨a, len, cap, rfl, hl, hm, hn, hx⟩ := open_els Tryz.underlying214 cellsTerm (by decide) h
  obtain ⟨l, rfl, hp⟩ := list_of (p := fun i (s : Trm) => SzT s ∧ ∃ b off va vcap, a = some ⟨b, off, none⟩ ∧ b < w.heap.size ∧ w.cell? ⟨b, off + i * 3, none⟩ = some (.string s.key) ∧ w.cell? ⟨b, off + i * 3 + 1, none⟩ = some (.int .i64 s.kind) ∧ w.cell? ⟨b, off + i * 3 + 2, none⟩ = some (.slice va s.vals.length vcap) ∧ At1 w va s.vals) t0 (fun i hi => by
    obtain ⟨b, off, ha, hb, cs', n, y, hlen, hc, hy⟩ := hx i hi
    obtain ⟨t, va, vcap, rfl, _, _, hat, _, hsz⟩ := open_term_el hy
    exact ⟨t, hsz, b, off, va, vcap, ha, hb, by simpa using hc 0 (by decide), by simpa using hc 1 (by decide), by simpa using hc 2 (by decide), hat⟩)
  exact ⟨a, l, cap, rfl, hl, hm, hn, ⟨by unfold maxLen at hm; omega, fun i hi => (hp i hi).2⟩, mem_getD fun i hi => (hp i hi).1⟩

/-- An amount. -/
theorem open_res_el {n : Nat} (h : DataW.trod enc Tryz.prog w base sp held n 210 cs = some x) : ∃ a b c : Int, cs = [.int .i64 a, .int .i64 b, .int .i64 c] ∧ (Lit.int .i64 a).wf = true ∧ (Lit.int .i64 b).wf = true ∧ (Lit.int .i64 c).wf = true := by
  obtain ⟨xs, m, _, _, hl, hn, hf⟩ := DataW.trod_array Tryz.underlying210 h
  rw [cellsRes] at hl
  rw [cellsI64] at hf
  obtain ⟨c0, c1, c2, rfl⟩ := list3 hl
  have g := fun i hi => hf i hi
  have h0 := hf 0 (by decide)
  have h1 := hf 1 (by decide)
  have h2 := hf 2 (by decide)
  rw [List.getElem?_eq_getElem (by omega)] at h0 h1 h2
  obtain ⟨s0, e0, _, z0⟩ := DataW.trod_int Tryz.underlying2 h0
  obtain ⟨s1, e1, _, z1⟩ := DataW.trod_int Tryz.underlying2 h1
  obtain ⟨s2, e2, _, z2⟩ := DataW.trod_int Tryz.underlying2 h2
  simp at e0 e1 e2
  subst e0 e1 e2
  exact ⟨_, _, _, rfl, z0, z1, z2⟩
end
end Go.Proofs.YtaleceobkbgcnaaGreat
