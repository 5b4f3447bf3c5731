/-
  The law LabelTerms: whatever the input, it returns true, and each argument reads as it did. No conditions.
-/
import Derived.Test.YtnimplldkambhabRow0
import Derived.Test.YtnimplldkambhabLTerms
set_option linter.unusedSimpArgs false
set_option linter.unusedVariables false
namespace Go.Proofs.Ytnimplldkambhab
open Go.ChangeShapes Go.WideShapes Go.ChangeAt Go.RowKit

set_option maxRecDepth 100000 in
theorem arg_term {H : Type} {enc : TypeId × Value → H} {W : World} {base : Nat} {v : Value} {d : DataW H} {p : List MemPlace} (hv : Value.okWide Try.prog W .any base 34 v) (h : DataW.Trod enc Try.prog W 0 (fun _ => true) true 34 v d p) :
    ∃ (t : Trm) (va : Option Addr) (vcap : Nat), v = .agg #[.string t.key, .int .i64 t.kind, .slice va t.vals.length vcap] ∧ At1 W va t.vals ∧ SzT t := by
  obtain ⟨fuel, hf⟩ := h
  obtain ⟨cs, rfl, _⟩ := okWide_struct Try.underlying34 hv
  obtain ⟨t, va, vcap, e, _, _, hat, _, hz⟩ := open_term_el hf
  refine ⟨t, va, vcap, ?_, hat, hz⟩
  have e2 : cs.toList = [.string t.key, .int .i64 t.kind, .slice va t.vals.length vcap] := by simpa [Value.cells] using e
  rw [show cs = #[.string t.key, .int .i64 t.kind, .slice va t.vals.length vcap] from Array.toList_inj.mp (by rw [e2])]

set_option maxRecDepth 100000 in
theorem labelTerms_lifted (os : Os) (started : os.Started) (H : Type) (enc : TypeId × Value → H) :
    ReturnsInHanded {} Try.checked os 6 .any (Rows.labelTermsSpec.pre6 enc Try.prog Try.f6 Rows.labelTermsRow.domain false) (Rows.labelTermsSpec.post enc Try.prog Try.f6 false true false false) := by
  refine returnsInHanded_of_change (C := Try.checked) own0 started (by kernel_rfl) Try.func6
    (ChangeSpec.witness6 (enc := enc) (C := Try.checked) false ⟨#[], #[.agg #[.string ⟨#[]⟩, .int .i64 0, .slice none 0 0], .int .i64 0], []⟩ 8 (by kernel_rfl) (by kernel_rfl) (by kernel_rfl) (by kernel_rfl)) ?_
  intro W base args ds gs before hval0 hW hcnd _
  have hval : ∀ (j : Nat) t v, Try.f6.params[j]? = some t → args[j]? = some v → Value.okWide Try.prog W .any base t v := hval0
  have hW' := hW
  obtain ⟨p, q, hA0, hV, rfl, hfz, hnd⟩ := hW
  have hA : DataW.TrodAll enc Try.prog W 0 (fun _ => true) true Try.f6.params.toList args.toList ds p := hA0
  obtain ⟨rfl, rfl⟩ := trodVars_none hV
  simp only [List.append_nil] at hW'
  have hback := fun W' (bel : Below W.heap.size W W') => trodAll_below bel (readable (by kernel_rfl)) hA hW'.lt
  rw [Try.params6] at hA hval
  clear hA0 hval0
  obtain ⟨v0, v1, d0, d1, p0, p1, rfl, rfl, rfl, h0, h1⟩ := trodAll_two hA
  obtain ⟨t, va, vcap, rfl, hat, hz⟩ := arg_term (hval 0 34 v0 rfl rfl) h0
  obtain ⟨n, rfl, rfl, rfl, w1⟩ := open_int Try.underlying3 (hval 1 3 v1 rfl rfl) h1
  refine (labelTerms_walk t.key t.kind va t.vals vcap n W hat hz).mono fun e W' ⟨he, bel⟩ => ?_
  subst he
  exact ⟨_, rfl, _, _, _, [], _, [], hW', trodAll_mk1 (shut_bool Try.underlying4 _), hback W' bel, rfl, bel.frame _, fun h => by cases h⟩

theorem labelTerms_holds : Rows.LabelTermsSaid :=
  OpenClaim.holds_of_wide 6 Try.f6 rfl rfl rfl rfl rfl rfl rfl ⟨rfl, rfl, rfl, rfl, rfl⟩ rfl rfl rfl rfl rfl (by kernel_rfl) Try.func6 (by kernel_rfl)
    (of_decide_eq_true (by kernel_rfl)) (by unfold Func.isWrapper; first | (rw [if_pos (by decide +kernel)]; kernel_rfl) | (rw [if_neg (by decide +kernel)]; exact ⟨rfl, rfl⟩))
    (fun os started H enc _ => labelTerms_lifted os started H enc)
#print axioms labelTerms_holds
end Go.Proofs.Ytnimplldkambhab
