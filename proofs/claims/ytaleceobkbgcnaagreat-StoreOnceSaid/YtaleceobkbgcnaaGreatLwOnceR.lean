/-
  The law StoreOnce: whatever the input, it returns true, and each argument reads as it did. No conditions.
-/
import Derived.Test.YtaleceobkbgcnaaGreatGRow
import Derived.Test.YtaleceobkbgcnaaGreatFaD
import Derived.Test.YtaleceobkbgcnaaGreatLwOnce
import Derived.Test.YtaleceobkbgcnaaGreatGBg
import Derived.ChangeMaps5
set_option linter.unusedSimpArgs false
set_option linter.unusedVariables false
namespace Go.Proofs.YtaleceobkbgcnaaGreat
open Go.ChangeShapes Go.WideShapes Go.ChangeAt Go.RowKit
open Go.ChangeMaps (open_string)

theorem storeOnce_inPlace : (Rows.storeOnceRow.inPlace == Tryz.prog.inPlace 13) = true := by kernel_rfl
theorem storeOnce_unfollowed : (Rows.storeOnceRow.unfollowed == Tryz.prog.unfollowed 13) = true := by kernel_rfl
theorem storeOnce_recurses : (Rows.storeOnceRow.recurses == Tryz.prog.recurses 13) = true := by kernel_rfl
theorem storeOnce_named : (Rows.storeOnceRow.named == Tryz.prog.varsNamed 13) = true := by kernel_rfl
theorem storeOnce_closed : joinedFacts Tryz.prog 13 Tryz.f13 Rows.storeOnceSpec Rows.storeOnceRow = true := by
  have hl : (Rows.storeOnceRow.lifted == Tryz.prog.liftsFinal) = true := fact_lift
  have hm : (Tryz.prog.make == some Rows.storeOnceRow.make) = true := fact_make
  have hk : (Rows.storeOnceRow.plainKeys == Tryz.prog.plainKeys) = true := fact_keys
  unfold joinedFacts
  simp only [Bool.and_eq_true]
  repeat' apply And.intro
  all_goals (first | with_reducible exact fact_laid | with_reducible exact fact_maps | with_reducible exact fact_stops | with_reducible exact fact_knobs | with_reducible exact fact_heard | with_reducible exact fact_enter | with_reducible exact hl | with_reducible exact hm | with_reducible exact hk | with_reducible exact storeOnce_inPlace | with_reducible exact storeOnce_unfollowed | with_reducible exact storeOnce_recurses | with_reducible exact storeOnce_named | kernel_rfl)
set_option maxRecDepth 100000 in
theorem storeOnce_lifted (os : Os) (started : os.Started) (H : Type) (enc : TypeId × Value → H) :
    ReturnsInHanded {} Tryz.checked os 13 .any (Rows.storeOnceSpec.pre6 enc Tryz.prog Tryz.f13 Rows.storeOnceRow.domain false) (Rows.storeOnceSpec.post enc Tryz.prog Tryz.f13 false true false false) := by
  refine returnsInHanded_of_change_sized (C := Tryz.checked) own0 started (by kernel_rfl) Tryz.func13
    (ChangeSpec.witness6 (enc := enc) (C := Tryz.checked) false ⟨#[], #[.string ⟨#[]⟩, .int .i64 0, .bool false], []⟩ 8 (by kernel_rfl) (by kernel_rfl) (by kernel_rfl) (by kernel_rfl)) ?_
  intro W base args ds gs before hval0 hW hcnd hwt _
  have hval : ∀ (j : Nat) t v, Tryz.f13.params[j]? = some t → args[j]? = some v → Value.okWide Tryz.prog W .any base t v := hval0
  have hW' := hW
  obtain ⟨p, q, hA0, hV, rfl, hfz, hnd⟩ := hW
  have hA : DataW.TrodAll enc Tryz.prog W 0 (fun _ => true) true Tryz.f13.params.toList args.toList ds p := hA0
  obtain ⟨rfl, rfl⟩ := trodVars_none hV
  simp only [List.append_nil] at hW'
  have hback := fun W' (bel : Below W.heap.size W W') => trodAll_below bel (readable (by kernel_rfl)) hA hW'.lt
  rw [Tryz.params13] at hA hval
  clear hA0 hval0
  obtain ⟨v0, v1, v2, d0, d1, d2, p0, p1, p2, rfl, rfl, rfl, h0, h1, h2⟩ := trodAll_three hA
  obtain ⟨key, rfl, rfl, rfl, _⟩ := open_string Tryz.underlying9 (hval 0 9 v0 rfl rfl) h0
  obtain ⟨n, rfl, rfl, rfl, _⟩ := open_int Tryz.underlying3 (hval 1 3 v1 rfl rfl) h1
  obtain ⟨u, rfl, rfl, rfl⟩ := open_bool Tryz.underlying4 (hval 2 4 v2 rfl rfl) h2
  refine (Rp.storeOnce_walk Rp.begun6_any key n u W).mono fun e W' ⟨he, bel⟩ => ?_
  subst he
  exact ⟨_, rfl, _, _, _, [], _, [], hW', trodAll_mk1 (shut_bool Tryz.underlying4 _), hback W' bel, rfl, bel.frame _, fun h => by cases h⟩

theorem storeOnce_holds : Rows.StoreOnceSaid :=
  OpenClaim.holds_of_wide 13 Tryz.f13 rfl rfl rfl rfl rfl rfl rfl ⟨rfl, rfl, rfl, rfl, rfl⟩ rfl rfl rfl rfl rfl (by kernel_rfl) Tryz.func13 storeOnce_closed
    (of_decide_eq_true (by kernel_rfl)) (by unfold Func.isWrapper; first | (rw [if_pos (by decide +kernel)]; kernel_rfl) | (rw [if_neg (by decide +kernel)]; exact ⟨rfl, rfl⟩))
    (fun os started H enc _ => storeOnce_lifted os started H enc)
#print axioms storeOnce_holds
end Go.Proofs.YtaleceobkbgcnaaGreat
