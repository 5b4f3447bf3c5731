/-
  Appending whole slices in a region that draws its order. No conditions beyond what is written in each statement.
-/
import Derived.Test.YtnobgmdknalpdaaLApp
import Derived.Deep.AppendLies
import Derived.Deep.RegionHeldLaw
import Derived.Deep.RegionLaw
set_option linter.unusedSimpArgs false
set_option linter.unusedVariables false
namespace Go.Proofs.Ytnobgmdknalpdaa
open Go.RowKit

/-- append(s, x...) at a step of such a region, whatever slice x is. -/
theorem step_append_opt {P : Program} {w : World} {ops : Array Oper} {o : Oper} {a : Act} {K : Act → World → Prop} {Q : Exit → Act → World → Prop} {E : Prop} (hgd : o.guard = none) (s x : Operand) (t : TypeId)
    (ho : o.op = .call { callee := .builtin .append, args := #[s, x], argTypes := #[t, t] })
    (base : Nat) (e : TypeId) (i : TypeInfo) (z : Value) (size bytes : Nat) (ht : P.underlying t = some (.slice e)) (hi : P.info? e = some i) (hz : i.zero = some z)
    (hsize : i.size = size) (hby : i.bytes = bytes) (hzs : z.cells.size = size) (hsz : 0 < size)
    (v : Value) (n : Nat) (xs : List Value) (hs : a.eval s = v) (hown : w.ownsRow base e size v n xs)
    (ad : Option Addr) (m c : Nat) (news : List Value) (hx : a.eval x = .slice ad m c) (hnone : ad = none → m = 0 ∧ c = 0) (hl : news.length = m * size) (hnews : ∀ b, ad = some b → ∀ j u, news[j]? = some u → w.cell? (b.add j) = some u) (h1 : ∀ u ∈ news, u.oneCell' = true)
    (h63 : n + m ≤ maxLen) (hbytes : (n + m) * bytes ≤ 140737488355328) (hbase : base ≤ w.heap.size)
    (h : ∀ v' w', w'.ownsRow base e size v' (n + m) (xs ++ news) → w.grownBy w' v.ownBlock → K (a.put o.dst v') w') :
    if Region.wanted o (yielded ops a.tmps) = true then Oper.wp P o a w K Q else E := by
  have hw : Region.wanted o (yielded ops a.tmps) = true := by simp [Region.wanted, hgd]
  rw [if_pos hw]
  cases ad with
  | none =>
    obtain ⟨rfl, rfl⟩ := hnone rfl
    have hn : news = [] := List.eq_nil_of_length_eq_zero (by simpa using hl)
    subst hn
    have hrun := run_append_owned_none (P := P) (w := w) base t o.type e i size ht hi v n xs hown
    have hk := h v w (by simpa using hown) (grown_refl _ _)
    unfold Oper.wp
    simp [execOp, ho, resolve, invoke, builtin, hs, hx, hrun, Result.andThen]
    exact hk
  | some b =>
    exact wp_append_own w s x t ho base e i z size bytes ht hi hz hsize hby hzs hsz v n xs hs hown b m c news hx hl (hnews b rfl) h1 h63 hbytes hbase (fun v' w' h2 h3 _ => h v' w' h2 h3)
theorem cell_lt' {w : World} {b off : Nat} {v : Value} (h : w.cell? ⟨b, off, none⟩ = some v) : b < w.heap.size := World.block_lt_of_cell? w _ h
/-- What a region keeps: all old memory, three cells, two cells. -/
theorem s3_alloc {w W : World} {b : Nat} {u1 u2 u3 : Value} (h : Below w.heap.size w W ∧ W.cell? ⟨b, 0, none⟩ = some u1 ∧ W.cell? ⟨b, 1, none⟩ = some u2 ∧ W.cell? ⟨b, 2, none⟩ = some u3) (o : Obj) :
    Below w.heap.size w (W.alloc o) ∧ (W.alloc o).cell? ⟨b, 0, none⟩ = some u1 ∧ (W.alloc o).cell? ⟨b, 1, none⟩ = some u2 ∧ (W.alloc o).cell? ⟨b, 2, none⟩ = some u3 := by
  have hb : Below W.heap.size W (W.alloc o) := (Below.refl _ _).alloc (Nat.le_refl _) o
  exact ⟨h.1.trans (hb.mono h.1.size), cell_laterA hb h.2.1, cell_laterA hb h.2.2.1, cell_laterA hb h.2.2.2⟩
theorem s3_later {w W W' : World} {b : Nat} {u1 u2 u3 : Value} (h : Below w.heap.size w W ∧ W.cell? ⟨b, 0, none⟩ = some u1 ∧ W.cell? ⟨b, 1, none⟩ = some u2 ∧ W.cell? ⟨b, 2, none⟩ = some u3) (hb : Below W.heap.size W W') :
    Below w.heap.size w W' ∧ W'.cell? ⟨b, 0, none⟩ = some u1 ∧ W'.cell? ⟨b, 1, none⟩ = some u2 ∧ W'.cell? ⟨b, 2, none⟩ = some u3 :=
  ⟨h.1.trans (hb.mono h.1.size), cell_laterA hb h.2.1, cell_laterA hb h.2.2.1, cell_laterA hb h.2.2.2⟩

theorem s3_grown {w W W' : World} {b : Nat} {u1 u2 u3 : Value} (h : Below w.heap.size w W ∧ W.cell? ⟨b, 0, none⟩ = some u1 ∧ W.cell? ⟨b, 1, none⟩ = some u2 ∧ W.cell? ⟨b, 2, none⟩ = some u3) (hb : Below w.heap.size W W') (hlt : b < w.heap.size) :
    Below w.heap.size w W' ∧ W'.cell? ⟨b, 0, none⟩ = some u1 ∧ W'.cell? ⟨b, 1, none⟩ = some u2 ∧ W'.cell? ⟨b, 2, none⟩ = some u3 :=
  ⟨h.1.trans hb, (hb.cell (p := ⟨b, 0, none⟩) hlt).trans h.2.1, (hb.cell (p := ⟨b, 1, none⟩) hlt).trans h.2.2.1, (hb.cell (p := ⟨b, 2, none⟩) hlt).trans h.2.2.2⟩
theorem s2_alloc {w W : World} {b : Nat} {u1 u2 : Value} (h : Below w.heap.size w W ∧ W.cell? ⟨b, 0, none⟩ = some u1 ∧ W.cell? ⟨b, 1, none⟩ = some u2) (o : Obj) :
    Below w.heap.size w (W.alloc o) ∧ (W.alloc o).cell? ⟨b, 0, none⟩ = some u1 ∧ (W.alloc o).cell? ⟨b, 1, none⟩ = some u2 := by
  have hb : Below W.heap.size W (W.alloc o) := (Below.refl _ _).alloc (Nat.le_refl _) o
  exact ⟨h.1.trans (hb.mono h.1.size), cell_laterA hb h.2.1, cell_laterA hb h.2.2⟩
theorem s2_later {w W W' : World} {b : Nat} {u1 u2 : Value} (h : Below w.heap.size w W ∧ W.cell? ⟨b, 0, none⟩ = some u1 ∧ W.cell? ⟨b, 1, none⟩ = some u2) (hb : Below W.heap.size W W') :
    Below w.heap.size w W' ∧ W'.cell? ⟨b, 0, none⟩ = some u1 ∧ W'.cell? ⟨b, 1, none⟩ = some u2 :=
  ⟨h.1.trans (hb.mono h.1.size), cell_laterA hb h.2.1, cell_laterA hb h.2.2⟩
theorem s2_grown {w W W' : World} {b : Nat} {u1 u2 : Value} (h : Below w.heap.size w W ∧ W.cell? ⟨b, 0, none⟩ = some u1 ∧ W.cell? ⟨b, 1, none⟩ = some u2) (hb : Below w.heap.size W W') (hlt : b < w.heap.size) :
    Below w.heap.size w W' ∧ W'.cell? ⟨b, 0, none⟩ = some u1 ∧ W'.cell? ⟨b, 1, none⟩ = some u2 :=
  ⟨h.1.trans hb, (hb.cell (p := ⟨b, 0, none⟩) hlt).trans h.2.1, (hb.cell (p := ⟨b, 1, none⟩) hlt).trans h.2.2⟩
theorem grown_nil {w w' : World} (hg : w.grownBy w' (Value.slice none 0 0).ownBlock) : Below w.heap.size w w' :=
  (Below.refl _ _).grown hg (Nat.le_refl _) (fun k hk => by simp [Value.ownBlock] at hk)
theorem grown_kept {w w' : World} (hg : w.grownBy w' (Value.slice none 0 0).ownBlock) (k : Nat) (o : Obj) (h : w.heap[k]? = some o) : w'.heap[k]? = some o :=
  (hg.block k (Array.getElem?_eq_some_iff.1 h).1 (by simp [Value.ownBlock])).trans h
end Go.Proofs.Ytnobgmdknalpdaa
