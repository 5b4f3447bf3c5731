/-
  The law StoreGone: whatever the input, it returns true, and each argument reads as it did. No conditions.
-/
import Derived.Test.YtaleceobkbgcnaaGreatGRow
import Derived.Test.YtaleceobkbgcnaaGreatFaD
import Derived.Test.YtaleceobkbgcnaaGreatLwGone
import Derived.Test.YtaleceobkbgcnaaGreatGBg
import Derived.ChangeMaps5
set_option linter.unusedSimpArgs false
set_option linter.unusedVariables false
namespace Go.Proofs.YtaleceobkbgcnaaGreat
open Go.ChangeShapes Go.WideShapes Go.ChangeAt Go.RowKit
open Go.ChangeMaps (open_string)

theorem storeGone_inPlace : (Rows.storeGoneRow.inPlace == Tryz.prog.inPlace 11) = true := by kernel_rfl
theorem storeGone_unfollowed : (Rows.storeGoneRow.unfollowed == Tryz.prog.unfollowed 11) = true := by kernel_rfl
theorem storeGone_recurses : (Rows.storeGoneRow.recurses == Tryz.prog.recurses 11) = true := by kernel_rfl
theorem storeGone_named : (Rows.storeGoneRow.named == Tryz.prog.varsNamed 11) = true := by kernel_rfl
theorem storeGone_closed : joinedFacts Tryz.prog 11 Tryz.f11 Rows.storeGoneSpec Rows.storeGoneRow = true := by
  have hl : (Rows.storeGoneRow.lifted == Tryz.prog.liftsFinal) = true := fact_lift
  have hm : (Tryz.prog.make == some Rows.storeGoneRow.make) = true := fact_make
  have hk : (Rows.storeGoneRow.plainKeys == Tryz.prog.plainKeys) = true := fact_keys
  unfold joinedFacts
  simp only [Bool.and_eq_true]
  repeat' apply And.intro
  all_goals (first | with_reducible exact fact_laid | with_reducible exact fact_maps | with_reducible exact fact_stops | with_reducible exact fact_knobs | with_reducible exact fact_heard | with_reducible exact fact_enter | with_reducible exact hl | with_reducible exact hm | with_reducible exact hk | with_reducible exact storeGone_inPlace | with_reducible exact storeGone_unfollowed | with_reducible exact storeGone_recurses | with_reducible exact storeGone_named | kernel_rfl)
set_option maxRecDepth 100000 in
theorem storeGone_lifted (os : Os) (started : os.Started) (H : Type) (enc : TypeId × Value → H) :
    ReturnsInHanded {} Tryz.checked os 11 .any (Rows.storeGoneSpec.pre6 enc Tryz.prog Tryz.f11 Rows.storeGoneRow.domain false) (Rows.storeGoneSpec.post enc Tryz.prog Tryz.f11 false true false false) := by
  refine returnsInHanded_of_change_sized (C := Tryz.checked) own0 started (by kernel_rfl) Tryz.func11
    (ChangeSpec.witness6 (enc := enc) (C := Tryz.checked) false ⟨#[], #[.string ⟨#[]⟩, .slice none 0 0], []⟩ 8 (by kernel_rfl) (by kernel_rfl) (by kernel_rfl) (by kernel_rfl)) ?_
  intro W base args ds gs before hval0 hW hcnd hwt _
  have hval : ∀ (j : Nat) t v, Tryz.f11.params[j]? = some t → args[j]? = some v → Value.okWide Tryz.prog W .any base t v := hval0
  have hW' := hW
  obtain ⟨p, q, hA0, hV, rfl, hfz, hnd⟩ := hW
  have hA : DataW.TrodAll enc Tryz.prog W 0 (fun _ => true) true Tryz.f11.params.toList args.toList ds p := hA0
  obtain ⟨rfl, rfl⟩ := trodVars_none hV
  simp only [List.append_nil] at hW'
  have hback := fun W' (bel : Below W.heap.size W W') => trodAll_below bel (readable (by kernel_rfl)) hA hW'.lt
  rw [Tryz.params11] at hA hval
  clear hA0 hval0
  obtain ⟨v0, v1, d0, d1, p0, p1, rfl, rfl, rfl, h0, h1⟩ := trodAll_two hA
  obtain ⟨key, rfl, rfl, rfl, _⟩ := open_string Tryz.underlying9 (hval 0 9 v0 rfl rfl) h0
  obtain ⟨a, l, cap, rfl, ⟨c1, c2, c3⟩, hl⟩ := arg_vals6 (hval 1 66 v1 rfl rfl) h1 (reach_each hwt (j := 1) rfl rfl)
  refine (Rp.storeGone_walk Rp.begun6_any key a l cap W hl c1 c2).mono fun e W' ⟨he, bel⟩ => ?_
  subst he
  exact ⟨_, rfl, _, _, _, [], _, [], hW', trodAll_mk1 (shut_bool Tryz.underlying4 _), hback W' bel, rfl, bel.frame _, fun h => by cases h⟩

theorem storeGone_holds : Rows.StoreGoneSaid :=
  OpenClaim.holds_of_wide 11 Tryz.f11 rfl rfl rfl rfl rfl rfl rfl ⟨rfl, rfl, rfl, rfl, rfl⟩ rfl rfl rfl rfl rfl (by kernel_rfl) Tryz.func11 storeGone_closed
    (of_decide_eq_true (by kernel_rfl)) (by unfold Func.isWrapper; first | (rw [if_pos (by decide +kernel)]; kernel_rfl) | (rw [if_neg (by decide +kernel)]; exact ⟨rfl, rfl⟩))
    (fun os started H enc _ => storeGone_lifted os started H enc)
#print axioms storeGone_holds
end Go.Proofs.YtaleceobkbgcnaaGreat
