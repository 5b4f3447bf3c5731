/-
  The law StoreOwn: whatever the input, it returns true, and each argument reads as it did. No conditions.
-/
import Derived.Test.YtaleceobkbgcnaaGreatGRow
import Derived.Test.YtaleceobkbgcnaaGreatFaD
import Derived.Test.YtaleceobkbgcnaaGreatLwSOwn
import Derived.Test.YtaleceobkbgcnaaGreatGBg
set_option linter.unusedSimpArgs false
set_option linter.unusedVariables false
namespace Go.Proofs.YtaleceobkbgcnaaGreat
open Go.ChangeShapes Go.WideShapes Go.ChangeAt Go.RowKit

theorem storeOwn_inPlace : (Rows.storeOwnRow.inPlace == Tryz.prog.inPlace 10) = true := by kernel_rfl
theorem storeOwn_unfollowed : (Rows.storeOwnRow.unfollowed == Tryz.prog.unfollowed 10) = true := by kernel_rfl
theorem storeOwn_recurses : (Rows.storeOwnRow.recurses == Tryz.prog.recurses 10) = true := by kernel_rfl
theorem storeOwn_named : (Rows.storeOwnRow.named == Tryz.prog.varsNamed 10) = true := by kernel_rfl
theorem storeOwn_closed : joinedFacts Tryz.prog 10 Tryz.f10 Rows.storeOwnSpec Rows.storeOwnRow = true := by
  have hl : (Rows.storeOwnRow.lifted == Tryz.prog.liftsFinal) = true := fact_lift
  have hm : (Tryz.prog.make == some Rows.storeOwnRow.make) = true := fact_make
  have hk : (Rows.storeOwnRow.plainKeys == Tryz.prog.plainKeys) = true := fact_keys
  unfold joinedFacts
  simp only [Bool.and_eq_true]
  repeat' apply And.intro
  all_goals (first | with_reducible exact fact_laid | with_reducible exact fact_maps | with_reducible exact fact_stops | with_reducible exact fact_knobs | with_reducible exact fact_heard | with_reducible exact fact_enter | with_reducible exact hl | with_reducible exact hm | with_reducible exact hk | with_reducible exact storeOwn_inPlace | with_reducible exact storeOwn_unfollowed | with_reducible exact storeOwn_recurses | with_reducible exact storeOwn_named | kernel_rfl)
set_option maxRecDepth 100000 in
theorem storeOwn_lifted (os : Os) (started : os.Started) (H : Type) (enc : TypeId × Value → H) :
    ReturnsInHanded {} Tryz.checked os 10 .any (Rows.storeOwnSpec.pre6 enc Tryz.prog Tryz.f10 Rows.storeOwnRow.domain false) (Rows.storeOwnSpec.post enc Tryz.prog Tryz.f10 false true false false) := by
  refine returnsInHanded_of_change_sized (C := Tryz.checked) own0 started (by kernel_rfl) Tryz.func10
    (ChangeSpec.witness6 (enc := enc) (C := Tryz.checked) false ⟨#[], #[.slice none 0 0], []⟩ 8 (by kernel_rfl) (by kernel_rfl) (by kernel_rfl) (by kernel_rfl)) ?_
  intro W base args ds gs before hval0 hW hcnd hwt _
  have hval : ∀ (j : Nat) t v, Tryz.f10.params[j]? = some t → args[j]? = some v → Value.okWide Tryz.prog W .any base t v := hval0
  have hW' := hW
  obtain ⟨p, q, hA0, hV, rfl, hfz, hnd⟩ := hW
  have hA : DataW.TrodAll enc Tryz.prog W 0 (fun _ => true) true Tryz.f10.params.toList args.toList ds p := hA0
  obtain ⟨rfl, rfl⟩ := trodVars_none hV
  simp only [List.append_nil] at hW'
  have hback := fun W' (bel : Below W.heap.size W W') => trodAll_below bel (readable (by kernel_rfl)) hA hW'.lt
  rw [Tryz.params10] at hA hval
  clear hA0 hval0
  obtain ⟨v0, d0, rfl, rfl, h0⟩ := trodAll_one hA
  obtain ⟨a, l, cap, rfl, ⟨h1, h2, h3⟩, hl, _⟩ := arg_bytes6 (hval 0 28 v0 rfl rfl) h0 (reach_each hwt (j := 0) rfl rfl)
  refine (Rp.storeOwn_walk Rp.begun6_any a l cap W hl h1 h2 h3).mono fun e W' ⟨he, bel⟩ => ?_
  subst he
  exact ⟨_, rfl, _, _, _, [], _, [], hW', trodAll_mk1 (shut_bool Tryz.underlying4 _), hback W' bel, rfl, bel.frame _, fun h => by cases h⟩

theorem storeOwn_holds : Rows.StoreOwnSaid :=
  OpenClaim.holds_of_wide 10 Tryz.f10 rfl rfl rfl rfl rfl rfl rfl ⟨rfl, rfl, rfl, rfl, rfl⟩ rfl rfl rfl rfl rfl (by kernel_rfl) Tryz.func10 storeOwn_closed
    (of_decide_eq_true (by kernel_rfl)) (by unfold Func.isWrapper; first | (rw [if_pos (by decide +kernel)]; kernel_rfl) | (rw [if_neg (by decide +kernel)]; exact ⟨rfl, rfl⟩))
    (fun os started H enc _ => storeOwn_lifted os started H enc)
#print axioms storeOwn_holds
end Go.Proofs.YtaleceobkbgcnaaGreat
