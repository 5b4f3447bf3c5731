/-
  Stores: Watch, Compact. No conditions beyond what is written in each statement.
-/
import Derived.Test.YtaleceobkbgcnaaGreatSto10
set_option linter.unusedSimpArgs false
set_option linter.unusedVariables false
namespace Go.Proofs.YtaleceobkbgcnaaGreat
open Go.RowKit

/-- What Watch tells. -/
def WatchP (w : World) (B : Nat) (h : StoH) (d : StoD) (rev : Int) (e : Ending) (w' : World) : Prop :=
  ∃ v H, e = .returned (.tuple #[v, .int .i64 (errF d.log rev)]) ∧ evs H = fromF d.log rev ∧ EvRow w' w.heap.size v H ∧ StoAt w' B h { d with reads := wrap64 (d.reads + 1) } ∧ Turns (fun x => x = h.S) w w' ∧ (errF d.log rev ≠ 0 → v = .slice none 0 0)
set_option maxRecDepth 100000 in
set_option maxHeartbeats 2000000 in
theorem stoWatch_any (w : World) (B : Nat) (h : StoH) (d : StoD) (rev : Int) (ha : StoAt w B h d) : Calls Tryz.prog 44 #[pt h.S, .int .i64 rev] w (WatchP w B h d rev) := by
  have c3 := cell_of_obj ha.obj 3
  simp at c3
  have hoff := off_any h.S _ _ h.G _ _ w ha.obj
  have hadd := addInt_any h.S 3 d.reads w c3 (free_of_obj ha.obj 3)
  obtain ⟨ha1, ht1⟩ := ha.count (wrap64 (d.reads + 1))
  clear ha c3
  go_enter Tryz.func44, Tryz.ntmps44
  go_wp2_with fail
  refine hoff.mono ?_
  rintro e W0 ⟨rfl, rfl⟩
  clear hoff
  go_wp2_with fail
  refine hadd.mono ?_
  rintro e w1 ⟨rfl, rfl⟩
  clear hadd
  generalize W0.setCell ⟨h.S, 3, none⟩ (.int .i64 (wrap64 (d.reads + 1))) = W1 at *
  have c2 := cell_of_obj ha1.obj 2
  simp at c2
  have hfr := from_any B h.G h.v h.H d.log rev W1 ha1.log
  have HA := Lib.hid (And.intro ha1 ht1)
  clear ha1 ht1
  go_wp2_with fail
  refine hfr.mono ?_
  rintro e w2 ⟨v, H, rfl, h1, h2, h3, h4⟩
  clear hfr
  go_wp2_with fail
  try refine bodyPost_ret (results_tmp2 Tryz.results44 _ _ _) rfl ?_
  exact ⟨v, H, rfl, h1, h2.mono HA.out.2.size, HA.out.1.below h3, HA.out.2.trans (turns_of_below h3), h4⟩
/-- What Compact leaves. -/
def CompP (w : World) (B : Nat) (h : StoH) (d : StoD) (rev : Int) (e : Ending) (w' : World) : Prop :=
  e = .returned (.tuple #[]) ∧ ∃ v H, StoAt w' B { h with v := v, H := H } { d with log := cutD d.log rev } ∧ Turns (LogS h.G h.v) w w' ∧ (v.ownBlock = h.v.ownBlock ∨ ∃ k, v.ownBlock = some k ∧ w.heap.size ≤ k)
set_option maxRecDepth 100000 in
set_option maxHeartbeats 2000000 in
theorem stoCompact_any (w : World) (B : Nat) (h : StoH) (d : StoD) (rev : Int) (ha : StoAt w B h d) : Calls Tryz.prog 49 #[pt h.S, .int .i64 rev] w (CompP w B h d rev) := by
  have hoff := off_any h.S _ _ h.G _ _ w ha.obj
  have c2 := cell_of_obj ha.obj 2
  simp at c2
  have hcut := cut_any B h.G h.v h.H d.log rev w ha.log
  have HA := Lib.hid ha
  clear ha
  go_enter Tryz.func49, Tryz.ntmps49
  go_wp2_with fail
  refine hoff.mono ?_
  rintro e W0 ⟨rfl, rfl⟩
  clear hoff
  go_wp2_with fail
  refine hcut.mono ?_
  rintro e w1 ⟨rfl, hs⟩
  clear hcut
  obtain ⟨v, H, h1, h2, h3⟩ := HA.out.adds hs
  have HY := Lib.hid (And.intro h1 (And.intro h2 h3))
  clear h1 h2 h3 hs
  go_wp2_with fail
  exact bodyPost_end (v := .tuple #[]) (by simp [results, Tryz.results49, go_sem]) rfl ⟨rfl, v, H, HY.out⟩
/-- Entries in a slice that is all the call's own. -/
structure EnRow (w : World) (N : Nat) (v : Value) (E : List EntH) : Prop where
  row : w.ownsRow N 75 3 v E.length (E.flatMap fun x => (entC x).toList)
  val : ∀ x ∈ E, ValOwn w N x.1.val x.2.1 x.2.2
theorem rowEn_ty {w : World} {N : Nat} {v : Value} {n : Nat} {xs : List Value} (h : w.ownsRow N 75 3 v n xs) {k : Nat} (hk : v.ownBlock = some k) : HasTy w k 75 := by
  rcases h.2 with ⟨rfl, _⟩ | ⟨g, cap, cur, rfl, _, hg, _⟩
  · cases hk
  · cases hk
    exact ⟨_, _, hg⟩
theorem EnRow.nil (w : World) (N : Nat) : EnRow w N (.slice none 0 0) [] := ⟨World.ownsRow_nil _ _ _ _, fun x hx => by cases hx⟩
theorem EnRow.mono {w : World} {N N' : Nat} {v : Value} {E : List EntH} (h : EnRow w N v E) (hN : N' ≤ N) : EnRow w N' v E := ⟨World.ownsRow.mono h.row hN, fun x hx => ⟨World.ownsRow.mono (h.val x hx).1 hN, (h.val x hx).2⟩⟩
theorem EnRow.below {w w' : World} {N : Nat} {v : Value} {E : List EntH} (h : EnRow w N v E) (hb : Below w.heap.size w w') : EnRow w' N v E :=
  ⟨row_turns (S := fun _ => False) h.row (turns_of_below hb) (fun _ _ h => h), fun x hx => val_turns (S := fun _ => False) (h.val x hx) (turns_of_below hb) (fun _ h => h.elim)⟩
theorem EnRow.snoc {w w2 : World} {N : Nat} {v v2 : Value} {E : List EntH} {x : EntH} (h : EnRow w N v E) (hx : ValOwn w N x.1.val x.2.1 x.2.2) (hg : w.grownBy w2 v.ownBlock)
    (ho : w2.ownsRow N 75 3 v2 (E.length + 1) (E.flatMap (fun x => (entC x).toList) ++ (entC x).toList)) : EnRow w2 N v2 (E ++ [x]) := by
  have ht : Turns (fun k => v.ownBlock = some k) w w2 := turns_of_grown hg fun k hk => hk
  have hS : ∀ k, v.ownBlock = some k → ∃ t, HasTy w k t ∧ t ≠ 5 := fun k hk => ⟨_, rowEn_ty h.row hk, by decide⟩
  refine ⟨by simpa using ho, fun y hy => ?_⟩
  rcases List.mem_append.1 hy with hy | hy
  · exact val_turns (h.val y hy) ht hS
  · rw [List.mem_singleton] at hy
    subst hy
    exact val_turns hx ht hS
end Go.Proofs.YtaleceobkbgcnaaGreat
