/-
  The law LogBad: whatever the input, it returns true, and each argument reads as it did. No conditions.
-/
import Derived.Test.YtaleceobkbgcnaaGreatGRow
import Derived.Test.YtaleceobkbgcnaaGreatFaD
import Derived.Test.YtaleceobkbgcnaaGreatLwBad
import Derived.Test.YtaleceobkbgcnaaGreatGBg
set_option linter.unusedSimpArgs false
set_option linter.unusedVariables false
namespace Go.Proofs.YtaleceobkbgcnaaGreat
open Go.ChangeShapes Go.WideShapes Go.ChangeAt Go.RowKit

theorem logBad_inPlace : (Rows.logBadRow.inPlace == Tryz.prog.inPlace 3) = true := by kernel_rfl
theorem logBad_unfollowed : (Rows.logBadRow.unfollowed == Tryz.prog.unfollowed 3) = true := by kernel_rfl
theorem logBad_recurses : (Rows.logBadRow.recurses == Tryz.prog.recurses 3) = true := by kernel_rfl
theorem logBad_named : (Rows.logBadRow.named == Tryz.prog.varsNamed 3) = true := by kernel_rfl
theorem logBad_closed : joinedFacts Tryz.prog 3 Tryz.f3 Rows.logBadSpec Rows.logBadRow = true := by
  have hl : (Rows.logBadRow.lifted == Tryz.prog.liftsFinal) = true := fact_lift
  have hm : (Tryz.prog.make == some Rows.logBadRow.make) = true := fact_make
  have hk : (Rows.logBadRow.plainKeys == Tryz.prog.plainKeys) = true := fact_keys
  unfold joinedFacts
  simp only [Bool.and_eq_true]
  repeat' apply And.intro
  all_goals (first | with_reducible exact fact_laid | with_reducible exact fact_maps | with_reducible exact fact_stops | with_reducible exact fact_knobs | with_reducible exact fact_heard | with_reducible exact fact_enter | with_reducible exact hl | with_reducible exact hm | with_reducible exact hk | with_reducible exact logBad_inPlace | with_reducible exact logBad_unfollowed | with_reducible exact logBad_recurses | with_reducible exact logBad_named | kernel_rfl)
set_option maxRecDepth 100000 in
theorem logBad_lifted (os : Os) (started : os.Started) (H : Type) (enc : TypeId × Value → H) :
    ReturnsInHanded {} Tryz.checked os 3 .any (Rows.logBadSpec.pre6 enc Tryz.prog Tryz.f3 Rows.logBadRow.domain false) (Rows.logBadSpec.post enc Tryz.prog Tryz.f3 false true false false) := by
  refine returnsInHanded_of_change_sized (C := Tryz.checked) own0 started (by kernel_rfl) Tryz.func3
    (ChangeSpec.witness6 (enc := enc) (C := Tryz.checked) false ⟨#[], #[.slice none 0 0, .slice none 0 0], []⟩ 8 (by kernel_rfl) (by kernel_rfl) (by kernel_rfl) (by kernel_rfl)) ?_
  intro W base args ds gs before hval0 hW hcnd hwt _
  have hval : ∀ (j : Nat) t v, Tryz.f3.params[j]? = some t → args[j]? = some v → Value.okWide Tryz.prog W .any base t v := hval0
  have hW' := hW
  obtain ⟨p, q, hA0, hV, rfl, hfz, hnd⟩ := hW
  have hA : DataW.TrodAll enc Tryz.prog W 0 (fun _ => true) true Tryz.f3.params.toList args.toList ds p := hA0
  obtain ⟨rfl, rfl⟩ := trodVars_none hV
  simp only [List.append_nil] at hW'
  have hback := fun W' (bel : Below W.heap.size W W') => trodAll_below bel (readable (by kernel_rfl)) hA hW'.lt
  rw [Tryz.params3] at hA hval
  clear hA0 hval0
  obtain ⟨v0, v1, d0, d1, p0, p1, rfl, rfl, rfl, h0, h1⟩ := trodAll_two hA
  obtain ⟨a, rs, cap, rfl, ⟨c1, c2, c3⟩, hr, _⟩ := arg_i64s6 (hval 0 22 v0 rfl rfl) h0
  obtain ⟨b, es, cb, rfl, ⟨c4, c5, c6⟩, he, _, hv⟩ := arg_events6 (hval 1 23 v1 rfl rfl) h1 (reach_each hwt (j := 1) rfl rfl)
  refine (Rp.logBad_walk Rp.begun6_any a rs cap b es cb W hr c1 c2 he c4 c5 (fun e h => (hv e h).1)).mono fun e W' ⟨he, bel⟩ => ?_
  subst he
  exact ⟨_, rfl, _, _, _, [], _, [], hW', trodAll_mk1 (shut_bool Tryz.underlying4 _), hback W' bel, rfl, bel.frame _, fun h => by cases h⟩

theorem logBad_holds : Rows.LogBadSaid :=
  OpenClaim.holds_of_wide 3 Tryz.f3 rfl rfl rfl rfl rfl rfl rfl ⟨rfl, rfl, rfl, rfl, rfl⟩ rfl rfl rfl rfl rfl (by kernel_rfl) Tryz.func3 logBad_closed
    (of_decide_eq_true (by kernel_rfl)) (by unfold Func.isWrapper; first | (rw [if_pos (by decide +kernel)]; kernel_rfl) | (rw [if_neg (by decide +kernel)]; exact ⟨rfl, rfl⟩))
    (fun os started H enc _ => logBad_lifted os started H enc)
#print axioms logBad_holds
end Go.Proofs.YtaleceobkbgcnaaGreat
