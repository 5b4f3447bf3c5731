/-
  No cell of these rows narrows 'for every input' (looked for: loops, veiled, ifaces, maps, wideKeys, modest, calm, conditions, laid).
  DERIVED. THE GIVEN ROWS OF THIS SEAT. 9 by the template 'for every input the law returns true; each argument reads behind the call as it read before'; 0 by the template 'total and deterministic' (their statements: YtnimplldkambhabTotals.lean).
  GIVEN WITH THE SEED: the statements are not yours to turn. If you find one false, say at which input.
  Laid BY PROGRAM, IN A SANDBOX (cutbox-rows.mjs): the forced cells as the released guide's own fill.sh prints them over the translation d882044df9e9771a… (all of the seat's roots in one cut). By AI agents, Wed Nov 11 2026. No macro, syntax, notation, axiom, sorry.
-/
import Derived.Test.YtnimplldkambhabChecked
import GoSem.Claim
import GoSem.ClaimJoined
import GoSem.ClaimMapViews
import Derived.JoinedTies
import Derived.KernelRfl
namespace Go.Proofs.Ytnimplldkambhab
/- THE CELL 'sum', in the pinned program and in every row, IS THE sha256 OF THE DUMP (.gsa) THAT YtnimplldkambhabProg.lean LOADS. Nothing in Lean hashes anything: it is a label: what it is worth is what the hold of that sum in a sandbox is worth. -/
noncomputable def Try.pinned : Pinned := { name := "ytnimplldkambhab", sum := "d882044df9e9771aea8de525e88ed30b69a03a7c2b0838c5ce0d8e271e9e7f8b", checked := Try.checked }
namespace Rows
def none {H : Type} : Left H := { results := [], args := [] }

/-- 'interrexlaw1.LabelFirst': WHATEVER THE INPUT: true; the input reads as it did. -/
def labelFirstSpec : ChangeSpec := { name := "labelFirst", fn := fun _ => fun
  | [d1, d2, d3, d4] => { results := [.lit (.bool true)], args := [d1, d2, d3, d4] }
  | _ => none }
def labelFirstRow : OpenClaim := { program := "ytnimplldkambhab", sum := "d882044df9e9771aea8de525e88ed30b69a03a7c2b0838c5ce0d8e271e9e7f8b", func := "interrex/interrexlaw1.LabelFirst", spec := "labelFirst", unfollowed := true, recurses := true, apart := false }
def LabelFirstSaid : Prop := labelFirstRow.holds Try.pinned (OpenSpec.ofChange labelFirstSpec)

/-- ITS FALSE NEIGHBOUR: 'it returns false'. Refute it at one input. -/
def labelFirstWrong : ChangeSpec := { name := "labelFirst", fn := fun _ => fun
  | [d1, d2, d3, d4] => { results := [.lit (.bool false)], args := [d1, d2, d3, d4] }
  | _ => none }
def LabelFirstWrongFalsely : Prop := labelFirstRow.holds Try.pinned (OpenSpec.ofChange labelFirstWrong)

/-- 'interrexlaw1.LabelRising': WHATEVER THE INPUT: true; the input reads as it did. -/
def labelRisingSpec : ChangeSpec := { name := "labelRising", fn := fun _ => fun
  | [d1, d2, d3] => { results := [.lit (.bool true)], args := [d1, d2, d3] }
  | _ => none }
def labelRisingRow : OpenClaim := { program := "ytnimplldkambhab", sum := "d882044df9e9771aea8de525e88ed30b69a03a7c2b0838c5ce0d8e271e9e7f8b", func := "interrex/interrexlaw1.LabelRising", spec := "labelRising", unfollowed := true, recurses := true, apart := false }
def LabelRisingSaid : Prop := labelRisingRow.holds Try.pinned (OpenSpec.ofChange labelRisingSpec)

/-- ITS FALSE NEIGHBOUR: 'it returns false'. Refute it at one input. -/
def labelRisingWrong : ChangeSpec := { name := "labelRising", fn := fun _ => fun
  | [d1, d2, d3] => { results := [.lit (.bool false)], args := [d1, d2, d3] }
  | _ => none }
def LabelRisingWrongFalsely : Prop := labelRisingRow.holds Try.pinned (OpenSpec.ofChange labelRisingWrong)

/-- 'interrexlaw1.LabelMore': WHATEVER THE INPUT: true; the input reads as it did. -/
def labelMoreSpec : ChangeSpec := { name := "labelMore", fn := fun _ => fun
  | [d1, d2, d3] => { results := [.lit (.bool true)], args := [d1, d2, d3] }
  | _ => none }
def labelMoreRow : OpenClaim := { program := "ytnimplldkambhab", sum := "d882044df9e9771aea8de525e88ed30b69a03a7c2b0838c5ce0d8e271e9e7f8b", func := "interrex/interrexlaw1.LabelMore", spec := "labelMore", unfollowed := true, recurses := true, apart := false }
def LabelMoreSaid : Prop := labelMoreRow.holds Try.pinned (OpenSpec.ofChange labelMoreSpec)

/-- ITS FALSE NEIGHBOUR: 'it returns false'. Refute it at one input. -/
def labelMoreWrong : ChangeSpec := { name := "labelMore", fn := fun _ => fun
  | [d1, d2, d3] => { results := [.lit (.bool false)], args := [d1, d2, d3] }
  | _ => none }
def LabelMoreWrongFalsely : Prop := labelMoreRow.holds Try.pinned (OpenSpec.ofChange labelMoreWrong)

/-- 'interrexlaw1.LabelTerms': WHATEVER THE INPUT: true; the input reads as it did. -/
def labelTermsSpec : ChangeSpec := { name := "labelTerms", fn := fun _ => fun
  | [d1, d2] => { results := [.lit (.bool true)], args := [d1, d2] }
  | _ => none }
def labelTermsRow : OpenClaim := { program := "ytnimplldkambhab", sum := "d882044df9e9771aea8de525e88ed30b69a03a7c2b0838c5ce0d8e271e9e7f8b", func := "interrex/interrexlaw1.LabelTerms", spec := "labelTerms", unfollowed := true, recurses := true, apart := false }
def LabelTermsSaid : Prop := labelTermsRow.holds Try.pinned (OpenSpec.ofChange labelTermsSpec)

/-- ITS FALSE NEIGHBOUR: 'it returns false'. Refute it at one input. -/
def labelTermsWrong : ChangeSpec := { name := "labelTerms", fn := fun _ => fun
  | [d1, d2] => { results := [.lit (.bool false)], args := [d1, d2] }
  | _ => none }
def LabelTermsWrongFalsely : Prop := labelTermsRow.holds Try.pinned (OpenSpec.ofChange labelTermsWrong)

/-- 'interrexlaw1.TaintMore': WHATEVER THE INPUT: true; the input reads as it did. -/
def taintMoreSpec : ChangeSpec := { name := "taintMore", fn := fun _ => fun
  | [d1, d2, d3, d4] => { results := [.lit (.bool true)], args := [d1, d2, d3, d4] }
  | _ => none }
def taintMoreRow : OpenClaim := { program := "ytnimplldkambhab", sum := "d882044df9e9771aea8de525e88ed30b69a03a7c2b0838c5ce0d8e271e9e7f8b", func := "interrex/interrexlaw1.TaintMore", spec := "taintMore", unfollowed := true, recurses := true, apart := false }
def TaintMoreSaid : Prop := taintMoreRow.holds Try.pinned (OpenSpec.ofChange taintMoreSpec)

/-- ITS FALSE NEIGHBOUR: 'it returns false'. Refute it at one input. -/
def taintMoreWrong : ChangeSpec := { name := "taintMore", fn := fun _ => fun
  | [d1, d2, d3, d4] => { results := [.lit (.bool false)], args := [d1, d2, d3, d4] }
  | _ => none }
def TaintMoreWrongFalsely : Prop := taintMoreRow.holds Try.pinned (OpenSpec.ofChange taintMoreWrong)

/-- 'interrexlaw1.TaintKinds': WHATEVER THE INPUT: true; the input reads as it did. -/
def taintKindsSpec : ChangeSpec := { name := "taintKinds", fn := fun _ => fun
  | [d1, d2, d3] => { results := [.lit (.bool true)], args := [d1, d2, d3] }
  | _ => none }
def taintKindsRow : OpenClaim := { program := "ytnimplldkambhab", sum := "d882044df9e9771aea8de525e88ed30b69a03a7c2b0838c5ce0d8e271e9e7f8b", func := "interrex/interrexlaw1.TaintKinds", spec := "taintKinds", unfollowed := true, recurses := true, apart := false }
def TaintKindsSaid : Prop := taintKindsRow.holds Try.pinned (OpenSpec.ofChange taintKindsSpec)

/-- ITS FALSE NEIGHBOUR: 'it returns false'. Refute it at one input. -/
def taintKindsWrong : ChangeSpec := { name := "taintKinds", fn := fun _ => fun
  | [d1, d2, d3] => { results := [.lit (.bool false)], args := [d1, d2, d3] }
  | _ => none }
def TaintKindsWrongFalsely : Prop := taintKindsRow.holds Try.pinned (OpenSpec.ofChange taintKindsWrong)

/-- 'interrexlaw1.ObjPart': WHATEVER THE INPUT: true; the input reads as it did. -/
def objPartSpec : ChangeSpec := { name := "objPart", fn := fun _ => fun
  | [d1, d2, d3] => { results := [.lit (.bool true)], args := [d1, d2, d3] }
  | _ => none }
def objPartRow : OpenClaim := { program := "ytnimplldkambhab", sum := "d882044df9e9771aea8de525e88ed30b69a03a7c2b0838c5ce0d8e271e9e7f8b", func := "interrex/interrexlaw1.ObjPart", spec := "objPart", unfollowed := true, recurses := true, apart := false }
def ObjPartSaid : Prop := objPartRow.holds Try.pinned (OpenSpec.ofChange objPartSpec)

/-- ITS FALSE NEIGHBOUR: 'it returns false'. Refute it at one input. -/
def objPartWrong : ChangeSpec := { name := "objPart", fn := fun _ => fun
  | [d1, d2, d3] => { results := [.lit (.bool false)], args := [d1, d2, d3] }
  | _ => none }
def ObjPartWrongFalsely : Prop := objPartRow.holds Try.pinned (OpenSpec.ofChange objPartWrong)

/-- 'interrexlaw1.CodeRoom': WHATEVER THE INPUT: true; the input reads as it did. -/
def codeRoomSpec : ChangeSpec := { name := "codeRoom", fn := fun _ => fun
  | [d1, d2] => { results := [.lit (.bool true)], args := [d1, d2] }
  | _ => none }
def codeRoomRow : OpenClaim := { program := "ytnimplldkambhab", sum := "d882044df9e9771aea8de525e88ed30b69a03a7c2b0838c5ce0d8e271e9e7f8b", func := "interrex/interrexlaw1.CodeRoom", spec := "codeRoom", unfollowed := true, recurses := true, apart := false }
def CodeRoomSaid : Prop := codeRoomRow.holds Try.pinned (OpenSpec.ofChange codeRoomSpec)

/-- ITS FALSE NEIGHBOUR: 'it returns false'. Refute it at one input. -/
def codeRoomWrong : ChangeSpec := { name := "codeRoom", fn := fun _ => fun
  | [d1, d2] => { results := [.lit (.bool false)], args := [d1, d2] }
  | _ => none }
def CodeRoomWrongFalsely : Prop := codeRoomRow.holds Try.pinned (OpenSpec.ofChange codeRoomWrong)

/-- 'interrexlaw1.CodeNames': WHATEVER THE INPUT: true; the input reads as it did. -/
def codeNamesSpec : ChangeSpec := { name := "codeNames", fn := fun _ => fun
  | [d1, d2] => { results := [.lit (.bool true)], args := [d1, d2] }
  | _ => none }
def codeNamesRow : OpenClaim := { program := "ytnimplldkambhab", sum := "d882044df9e9771aea8de525e88ed30b69a03a7c2b0838c5ce0d8e271e9e7f8b", func := "interrex/interrexlaw1.CodeNames", spec := "codeNames", unfollowed := true, recurses := true, apart := false }
def CodeNamesSaid : Prop := codeNamesRow.holds Try.pinned (OpenSpec.ofChange codeNamesSpec)

/-- ITS FALSE NEIGHBOUR: 'it returns false'. Refute it at one input. -/
def codeNamesWrong : ChangeSpec := { name := "codeNames", fn := fun _ => fun
  | [d1, d2] => { results := [.lit (.bool false)], args := [d1, d2] }
  | _ => none }
def CodeNamesWrongFalsely : Prop := codeNamesRow.holds Try.pinned (OpenSpec.ofChange codeNamesWrong)

/- THE SECOND FORM. 'bulk': how many values and letters a reading holds, each counted each time it is reached (what is shared counts as often as it is met; a slice's spare places count too). A statement '..UptoSaid' is the law's where the arguments, and the package variables that the reading takes, are together of bulk at most 1048576: NARROWER than '..Said'. Prove '..Said' where nothing that the law and all that it calls make is longer than what came in: it says more and counts as full. Else prove '..UptoSaid'. A law counts once. -/
mutual
def uptoBulk {H : Type} : DataW H → Nat
  | .lit (.string bytes) => bytes.length + 1
  | .lit _ => 1
  | .nil => 1
  | .ptr d => uptoBulk d + 1
  | .slice elems spare => uptoBulkAll elems + uptoBulkAll spare + 1
  | .agg parts => uptoBulkAll parts + 1
  | .iface _ d => uptoBulk d + 1
  | .map entries => uptoBulkEntries entries + 1
  | .held _ => 1
def uptoBulkAll {H : Type} : List (DataW H) → Nat
  | [] => 0
  | d :: r => uptoBulk d + uptoBulkAll r
def uptoBulkEntries {H : Type} : List (Lit × DataW H) → Nat
  | [] => 0
  | x :: r => uptoBulkEntry x + uptoBulkEntries r
def uptoBulkEntry {H : Type} : Lit × DataW H → Nat
  | (.string bytes, d) => bytes.length + uptoBulk d + 1
  | (_, d) => uptoBulk d + 1
 end
def uptoSmall : (H : Type) → List (DataW H) → Bool := fun _ ds => decide (uptoBulkAll ds ≤ 1048576)
def OpenSpec.upto (s : _root_.Go.ChangeSpec) : _root_.Go.OpenSpec := { _root_.Go.OpenSpec.ofChange s with cond := some uptoSmall }

/-- 'interrexlaw1.LabelFirst', WHERE WHAT IT READS IS OF BULK AT MOST 1048576: true; the input reads as it did. -/
def labelFirstUptoRow : OpenClaim := { program := "ytnimplldkambhab", sum := "d882044df9e9771aea8de525e88ed30b69a03a7c2b0838c5ce0d8e271e9e7f8b", func := "interrex/interrexlaw1.LabelFirst", spec := "labelFirst", unfollowed := true, recurses := true, apart := false, narrowed := true }
def LabelFirstUptoSaid : Prop := labelFirstUptoRow.holds Try.pinned (OpenSpec.upto labelFirstSpec)

/-- 'interrexlaw1.LabelRising', WHERE WHAT IT READS IS OF BULK AT MOST 1048576: true; the input reads as it did. -/
def labelRisingUptoRow : OpenClaim := { program := "ytnimplldkambhab", sum := "d882044df9e9771aea8de525e88ed30b69a03a7c2b0838c5ce0d8e271e9e7f8b", func := "interrex/interrexlaw1.LabelRising", spec := "labelRising", unfollowed := true, recurses := true, apart := false, narrowed := true }
def LabelRisingUptoSaid : Prop := labelRisingUptoRow.holds Try.pinned (OpenSpec.upto labelRisingSpec)

/-- 'interrexlaw1.LabelMore', WHERE WHAT IT READS IS OF BULK AT MOST 1048576: true; the input reads as it did. -/
def labelMoreUptoRow : OpenClaim := { program := "ytnimplldkambhab", sum := "d882044df9e9771aea8de525e88ed30b69a03a7c2b0838c5ce0d8e271e9e7f8b", func := "interrex/interrexlaw1.LabelMore", spec := "labelMore", unfollowed := true, recurses := true, apart := false, narrowed := true }
def LabelMoreUptoSaid : Prop := labelMoreUptoRow.holds Try.pinned (OpenSpec.upto labelMoreSpec)

/-- 'interrexlaw1.LabelTerms', WHERE WHAT IT READS IS OF BULK AT MOST 1048576: true; the input reads as it did. -/
def labelTermsUptoRow : OpenClaim := { program := "ytnimplldkambhab", sum := "d882044df9e9771aea8de525e88ed30b69a03a7c2b0838c5ce0d8e271e9e7f8b", func := "interrex/interrexlaw1.LabelTerms", spec := "labelTerms", unfollowed := true, recurses := true, apart := false, narrowed := true }
def LabelTermsUptoSaid : Prop := labelTermsUptoRow.holds Try.pinned (OpenSpec.upto labelTermsSpec)

/-- 'interrexlaw1.TaintMore', WHERE WHAT IT READS IS OF BULK AT MOST 1048576: true; the input reads as it did. -/
def taintMoreUptoRow : OpenClaim := { program := "ytnimplldkambhab", sum := "d882044df9e9771aea8de525e88ed30b69a03a7c2b0838c5ce0d8e271e9e7f8b", func := "interrex/interrexlaw1.TaintMore", spec := "taintMore", unfollowed := true, recurses := true, apart := false, narrowed := true }
def TaintMoreUptoSaid : Prop := taintMoreUptoRow.holds Try.pinned (OpenSpec.upto taintMoreSpec)

/-- 'interrexlaw1.TaintKinds', WHERE WHAT IT READS IS OF BULK AT MOST 1048576: true; the input reads as it did. -/
def taintKindsUptoRow : OpenClaim := { program := "ytnimplldkambhab", sum := "d882044df9e9771aea8de525e88ed30b69a03a7c2b0838c5ce0d8e271e9e7f8b", func := "interrex/interrexlaw1.TaintKinds", spec := "taintKinds", unfollowed := true, recurses := true, apart := false, narrowed := true }
def TaintKindsUptoSaid : Prop := taintKindsUptoRow.holds Try.pinned (OpenSpec.upto taintKindsSpec)

/-- 'interrexlaw1.ObjPart', WHERE WHAT IT READS IS OF BULK AT MOST 1048576: true; the input reads as it did. -/
def objPartUptoRow : OpenClaim := { program := "ytnimplldkambhab", sum := "d882044df9e9771aea8de525e88ed30b69a03a7c2b0838c5ce0d8e271e9e7f8b", func := "interrex/interrexlaw1.ObjPart", spec := "objPart", unfollowed := true, recurses := true, apart := false, narrowed := true }
def ObjPartUptoSaid : Prop := objPartUptoRow.holds Try.pinned (OpenSpec.upto objPartSpec)

/-- 'interrexlaw1.CodeRoom', WHERE WHAT IT READS IS OF BULK AT MOST 1048576: true; the input reads as it did. -/
def codeRoomUptoRow : OpenClaim := { program := "ytnimplldkambhab", sum := "d882044df9e9771aea8de525e88ed30b69a03a7c2b0838c5ce0d8e271e9e7f8b", func := "interrex/interrexlaw1.CodeRoom", spec := "codeRoom", unfollowed := true, recurses := true, apart := false, narrowed := true }
def CodeRoomUptoSaid : Prop := codeRoomUptoRow.holds Try.pinned (OpenSpec.upto codeRoomSpec)

/-- 'interrexlaw1.CodeNames', WHERE WHAT IT READS IS OF BULK AT MOST 1048576: true; the input reads as it did. -/
def codeNamesUptoRow : OpenClaim := { program := "ytnimplldkambhab", sum := "d882044df9e9771aea8de525e88ed30b69a03a7c2b0838c5ce0d8e271e9e7f8b", func := "interrex/interrexlaw1.CodeNames", spec := "codeNames", unfollowed := true, recurses := true, apart := false, narrowed := true }
def CodeNamesUptoSaid : Prop := codeNamesUptoRow.holds Try.pinned (OpenSpec.upto codeNamesSpec)

end Rows
end Go.Proofs.Ytnimplldkambhab
