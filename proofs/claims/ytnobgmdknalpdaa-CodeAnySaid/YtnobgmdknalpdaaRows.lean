/-
  No cell of these rows narrows 'for every input' (looked for: loops, veiled, ifaces, maps, wideKeys, modest, calm, conditions, laid).
  DERIVED. THE GIVEN ROWS OF THIS SEAT. 3 by the template 'for every input the law returns true; each argument reads behind the call as it read before'; 0 by the template 'total and deterministic' (their statements: YtnobgmdknalpdaaTotals.lean).
  GIVEN WITH THE SEED: the statements are not yours to turn. If you find one false, say at which input.
  Laid BY PROGRAM, IN A SANDBOX (cutbox-rows.mjs): the forced cells as the released guide's own fill.sh prints them over the translation f23e5fa810362232… (all of the seat's roots in one cut). By AI agents, Wed Nov 11 2026. No macro, syntax, notation, axiom, sorry.
-/
import Derived.Test.YtnobgmdknalpdaaChecked
import GoSem.Claim
import GoSem.ClaimJoined
import GoSem.ClaimMapViews
import Derived.JoinedTies
import Derived.KernelRfl
namespace Go.Proofs.Ytnobgmdknalpdaa
/- THE CELL 'sum', in the pinned program and in every row, IS THE sha256 OF THE DUMP (.gsa) THAT YtnobgmdknalpdaaProg.lean LOADS. Nothing in Lean hashes anything: it is a label: what it is worth is what the hold of that sum in a sandbox is worth. -/
noncomputable def Try.pinned : Pinned := { name := "ytnobgmdknalpdaa", sum := "f23e5fa810362232fc2272bb57d60362fe4428dfcb8adbf50b9705ec958655f8", checked := Try.checked }
namespace Rows
def none {H : Type} : Left H := { results := [], args := [] }

/-- 'interrexlaw1.ObjOwn': WHATEVER THE INPUT: true; the input reads as it did. -/
def objOwnSpec : ChangeSpec := { name := "objOwn", fn := fun _ => fun
  | [d1, d2] => { results := [.lit (.bool true)], args := [d1, d2] }
  | _ => none }
def objOwnRow : OpenClaim := { program := "ytnobgmdknalpdaa", sum := "f23e5fa810362232fc2272bb57d60362fe4428dfcb8adbf50b9705ec958655f8", func := "interrex/interrexlaw1.ObjOwn", spec := "objOwn", unfollowed := true, recurses := true, apart := false }
def ObjOwnSaid : Prop := objOwnRow.holds Try.pinned (OpenSpec.ofChange objOwnSpec)

/-- ITS FALSE NEIGHBOUR: 'it returns false'. Refute it at one input. -/
def objOwnWrong : ChangeSpec := { name := "objOwn", fn := fun _ => fun
  | [d1, d2] => { results := [.lit (.bool false)], args := [d1, d2] }
  | _ => none }
def ObjOwnWrongFalsely : Prop := objOwnRow.holds Try.pinned (OpenSpec.ofChange objOwnWrong)

/-- 'interrexlaw1.CodeAny': WHATEVER THE INPUT: true; the input reads as it did. -/
def codeAnySpec : ChangeSpec := { name := "codeAny", fn := fun _ => fun
  | [d1, d2, d3, d4, d5] => { results := [.lit (.bool true)], args := [d1, d2, d3, d4, d5] }
  | _ => none }
def codeAnyRow : OpenClaim := { program := "ytnobgmdknalpdaa", sum := "f23e5fa810362232fc2272bb57d60362fe4428dfcb8adbf50b9705ec958655f8", func := "interrex/interrexlaw1.CodeAny", spec := "codeAny", unfollowed := true, recurses := true, apart := false }
def CodeAnySaid : Prop := codeAnyRow.holds Try.pinned (OpenSpec.ofChange codeAnySpec)

/-- ITS FALSE NEIGHBOUR: 'it returns false'. Refute it at one input. -/
def codeAnyWrong : ChangeSpec := { name := "codeAny", fn := fun _ => fun
  | [d1, d2, d3, d4, d5] => { results := [.lit (.bool false)], args := [d1, d2, d3, d4, d5] }
  | _ => none }
def CodeAnyWrongFalsely : Prop := codeAnyRow.holds Try.pinned (OpenSpec.ofChange codeAnyWrong)

/-- 'interrexlaw1.ObjPart': WHATEVER THE INPUT: true; the input reads as it did. -/
def objPartSpec : ChangeSpec := { name := "objPart", fn := fun _ => fun
  | [d1, d2, d3] => { results := [.lit (.bool true)], args := [d1, d2, d3] }
  | _ => none }
def objPartRow : OpenClaim := { program := "ytnobgmdknalpdaa", sum := "f23e5fa810362232fc2272bb57d60362fe4428dfcb8adbf50b9705ec958655f8", func := "interrex/interrexlaw1.ObjPart", spec := "objPart", unfollowed := true, recurses := true, apart := false }
def ObjPartSaid : Prop := objPartRow.holds Try.pinned (OpenSpec.ofChange objPartSpec)

/-- ITS FALSE NEIGHBOUR: 'it returns false'. Refute it at one input. -/
def objPartWrong : ChangeSpec := { name := "objPart", fn := fun _ => fun
  | [d1, d2, d3] => { results := [.lit (.bool false)], args := [d1, d2, d3] }
  | _ => none }
def ObjPartWrongFalsely : Prop := objPartRow.holds Try.pinned (OpenSpec.ofChange objPartWrong)

/- THE SECOND FORM. 'bulk': how many values and letters a reading holds, each counted each time it is reached (what is shared counts as often as it is met; a slice's spare places count too). A statement '..UptoSaid' is the law's where the arguments, and the package variables that the reading takes, are together of bulk at most 1048576: NARROWER than '..Said'. Prove '..Said' where nothing that the law and all that it calls make is longer than what came in: it says more and counts as full. Else prove '..UptoSaid'. A law counts once. -/
mutual
def uptoBulk {H : Type} : DataW H → Nat
  | .lit (.string bytes) => bytes.length + 1
  | .lit _ => 1
  | .nil => 1
  | .ptr d => uptoBulk d + 1
  | .slice elems spare => uptoBulkAll elems + uptoBulkAll spare + 1
  | .agg parts => uptoBulkAll parts + 1
  | .iface _ d => uptoBulk d + 1
  | .map entries => uptoBulkEntries entries + 1
  | .held _ => 1
def uptoBulkAll {H : Type} : List (DataW H) → Nat
  | [] => 0
  | d :: r => uptoBulk d + uptoBulkAll r
def uptoBulkEntries {H : Type} : List (Lit × DataW H) → Nat
  | [] => 0
  | x :: r => uptoBulkEntry x + uptoBulkEntries r
def uptoBulkEntry {H : Type} : Lit × DataW H → Nat
  | (.string bytes, d) => bytes.length + uptoBulk d + 1
  | (_, d) => uptoBulk d + 1
 end
def uptoSmall : (H : Type) → List (DataW H) → Bool := fun _ ds => decide (uptoBulkAll ds ≤ 1048576)
def OpenSpec.upto (s : _root_.Go.ChangeSpec) : _root_.Go.OpenSpec := { _root_.Go.OpenSpec.ofChange s with cond := some uptoSmall }

/-- 'interrexlaw1.ObjOwn', WHERE WHAT IT READS IS OF BULK AT MOST 1048576: true; the input reads as it did. -/
def objOwnUptoRow : OpenClaim := { program := "ytnobgmdknalpdaa", sum := "f23e5fa810362232fc2272bb57d60362fe4428dfcb8adbf50b9705ec958655f8", func := "interrex/interrexlaw1.ObjOwn", spec := "objOwn", unfollowed := true, recurses := true, apart := false, narrowed := true }
def ObjOwnUptoSaid : Prop := objOwnUptoRow.holds Try.pinned (OpenSpec.upto objOwnSpec)

/-- 'interrexlaw1.CodeAny', WHERE WHAT IT READS IS OF BULK AT MOST 1048576: true; the input reads as it did. -/
def codeAnyUptoRow : OpenClaim := { program := "ytnobgmdknalpdaa", sum := "f23e5fa810362232fc2272bb57d60362fe4428dfcb8adbf50b9705ec958655f8", func := "interrex/interrexlaw1.CodeAny", spec := "codeAny", unfollowed := true, recurses := true, apart := false, narrowed := true }
def CodeAnyUptoSaid : Prop := codeAnyUptoRow.holds Try.pinned (OpenSpec.upto codeAnySpec)

/-- 'interrexlaw1.ObjPart', WHERE WHAT IT READS IS OF BULK AT MOST 1048576: true; the input reads as it did. -/
def objPartUptoRow : OpenClaim := { program := "ytnobgmdknalpdaa", sum := "f23e5fa810362232fc2272bb57d60362fe4428dfcb8adbf50b9705ec958655f8", func := "interrex/interrexlaw1.ObjPart", spec := "objPart", unfollowed := true, recurses := true, apart := false, narrowed := true }
def ObjPartUptoSaid : Prop := objPartUptoRow.holds Try.pinned (OpenSpec.upto objPartSpec)

end Rows
end Go.Proofs.Ytnobgmdknalpdaa
