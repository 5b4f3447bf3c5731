/-
  The law TaintMore: whatever the input, it returns true, and each argument reads as it did. No conditions.
-/
import Derived.Test.YtnimplldkambhabRow0
import Derived.Test.YtnimplldkambhabLMoreT
set_option linter.unusedSimpArgs false
set_option linter.unusedVariables false
namespace Go.Proofs.Ytnimplldkambhab
open Go.ChangeShapes Go.WideShapes Go.ChangeAt Go.RowKit

set_option maxRecDepth 100000 in
theorem taintMore_lifted (os : Os) (started : os.Started) (H : Type) (enc : TypeId × Value → H) :
    ReturnsInHanded {} Try.checked os 7 .any (Rows.taintMoreSpec.pre6 enc Try.prog Try.f7 Rows.taintMoreRow.domain false) (Rows.taintMoreSpec.post enc Try.prog Try.f7 false true false false) := by
  refine returnsInHanded_of_change (C := Try.checked) own0 started (by kernel_rfl) Try.func7
    (ChangeSpec.witness6 (enc := enc) (C := Try.checked) false ⟨#[], #[.slice none 0 0, .slice none 0 0, .agg #[.string ⟨#[]⟩, .string ⟨#[]⟩, .bool false], .agg #[.string ⟨#[]⟩, .string ⟨#[]⟩]], []⟩ 8 (by kernel_rfl) (by kernel_rfl) (by kernel_rfl) (by kernel_rfl)) ?_
  intro W base args ds gs before hval0 hW hcnd _
  have hval : ∀ (j : Nat) t v, Try.f7.params[j]? = some t → args[j]? = some v → Value.okWide Try.prog W .any base t v := hval0
  have hW' := hW
  obtain ⟨p, q, hA0, hV, rfl, hfz, hnd⟩ := hW
  have hA : DataW.TrodAll enc Try.prog W 0 (fun _ => true) true Try.f7.params.toList args.toList ds p := hA0
  obtain ⟨rfl, rfl⟩ := trodVars_none hV
  simp only [List.append_nil] at hW'
  have hback := fun W' (bel : Below W.heap.size W W') => trodAll_below bel (readable (by kernel_rfl)) hA hW'.lt
  rw [Try.params7] at hA hval
  clear hA0 hval0
  obtain ⟨v0, v1, v2, v3, d0, d1, d2, d3, p0, p1, p2, p3, rfl, rfl, rfl, h0, h1, h2, h3⟩ := trodAll_four hA
  obtain ⟨a, l, cap, rfl, lc, cm, na, hl, _⟩ := arg_tolers (hval 0 40 v0 rfl rfl) h0
  obtain ⟨b, x, cb, rfl, lb, cmb, nb, hx, _⟩ := arg_taints (hval 1 41 v1 rfl rfl) h1
  obtain ⟨k, v, c, rfl⟩ := arg_toler (hval 2 43 v2 rfl rfl) h2
  obtain ⟨xk, xv, rfl⟩ := arg_taint (hval 3 44 v3 rfl rfl) h3
  refine (taintMore_walk a l cap b x cb k v c xk xv W hl hx lc lb cm cmb na nb).mono fun e W' ⟨he, bel⟩ => ?_
  subst he
  exact ⟨_, rfl, _, _, _, [], _, [], hW', trodAll_mk1 (shut_bool Try.underlying4 _), hback W' bel, rfl, bel.frame _, fun h => by cases h⟩

theorem taintMore_holds : Rows.TaintMoreSaid :=
  OpenClaim.holds_of_wide 7 Try.f7 rfl rfl rfl rfl rfl rfl rfl ⟨rfl, rfl, rfl, rfl, rfl⟩ rfl rfl rfl rfl rfl (by kernel_rfl) Try.func7 (by kernel_rfl)
    (of_decide_eq_true (by kernel_rfl)) (by unfold Func.isWrapper; first | (rw [if_pos (by decide +kernel)]; kernel_rfl) | (rw [if_neg (by decide +kernel)]; exact ⟨rfl, rfl⟩))
    (fun os started H enc _ => taintMore_lifted os started H enc)
#print axioms taintMore_holds
end Go.Proofs.Ytnimplldkambhab
