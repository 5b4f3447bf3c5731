/-
  No cell of these rows narrows 'for every input' (looked for: loops, veiled, ifaces, maps, wideKeys, modest, calm, conditions, laid).
  DERIVED. THE GIVEN ROWS OF THIS SEAT. 12 by the template 'for every input the law returns true; each argument reads behind the call as it read before'; 0 by the template 'total and deterministic' (their statements: YtnimplldkambhaaTotals.lean).
  GIVEN WITH THE SEED: the statements are not yours to turn. If you find one false, say at which input.
  Laid BY PROGRAM, IN A SANDBOX (cutbox-rows.mjs): the forced cells as the released guide's own fill.sh prints them over the translation 6e4baf07ac8e0fc6… (all of the seat's roots in one cut). By AI agents, Wed Nov 11 2026. No macro, syntax, notation, axiom, sorry.
-/
import Derived.Test.YtnimplldkambhaaChecked
import GoSem.Claim
import GoSem.ClaimJoined
import GoSem.ClaimMapViews
import Derived.JoinedTies
import Derived.KernelRfl
namespace Go.Proofs.Ytnimplldkambhaa
/- THE CELL 'sum', in the pinned program and in every row, IS THE sha256 OF THE DUMP (.gsa) THAT YtnimplldkambhaaProg.lean LOADS. Nothing in Lean hashes anything: it is a label: what it is worth is what the hold of that sum in a sandbox is worth. -/
noncomputable def Try.pinned : Pinned := { name := "ytnimplldkambhaa", sum := "6e4baf07ac8e0fc678eaa5dd2d075a1879757b0c51eba83650718bab69ceb818", checked := Try.checked }
namespace Rows
def none {H : Type} : Left H := { results := [], args := [] }

/-- 'interrexlaw1.QtyTurn': WHATEVER THE INPUT: true; the input reads as it did. -/
def qtyTurnSpec : ChangeSpec := { name := "qtyTurn", fn := fun _ => fun
  | [d1, d2, d3] => { results := [.lit (.bool true)], args := [d1, d2, d3] }
  | _ => none }
def qtyTurnRow : OpenClaim := { program := "ytnimplldkambhaa", sum := "6e4baf07ac8e0fc678eaa5dd2d075a1879757b0c51eba83650718bab69ceb818", func := "interrex/interrexlaw1.QtyTurn", spec := "qtyTurn", unfollowed := true, recurses := true, apart := false }
def QtyTurnSaid : Prop := qtyTurnRow.holds Try.pinned (OpenSpec.ofChange qtyTurnSpec)

/-- ITS FALSE NEIGHBOUR: 'it returns false'. Refute it at one input. -/
def qtyTurnWrong : ChangeSpec := { name := "qtyTurn", fn := fun _ => fun
  | [d1, d2, d3] => { results := [.lit (.bool false)], args := [d1, d2, d3] }
  | _ => none }
def QtyTurnWrongFalsely : Prop := qtyTurnRow.holds Try.pinned (OpenSpec.ofChange qtyTurnWrong)

/-- 'interrexlaw1.QtyShare': WHATEVER THE INPUT: true; the input reads as it did. -/
def qtyShareSpec : ChangeSpec := { name := "qtyShare", fn := fun _ => fun
  | [d1, d2, d3] => { results := [.lit (.bool true)], args := [d1, d2, d3] }
  | _ => none }
def qtyShareRow : OpenClaim := { program := "ytnimplldkambhaa", sum := "6e4baf07ac8e0fc678eaa5dd2d075a1879757b0c51eba83650718bab69ceb818", func := "interrex/interrexlaw1.QtyShare", spec := "qtyShare", unfollowed := true, recurses := true, apart := false }
def QtyShareSaid : Prop := qtyShareRow.holds Try.pinned (OpenSpec.ofChange qtyShareSpec)

/-- ITS FALSE NEIGHBOUR: 'it returns false'. Refute it at one input. -/
def qtyShareWrong : ChangeSpec := { name := "qtyShare", fn := fun _ => fun
  | [d1, d2, d3] => { results := [.lit (.bool false)], args := [d1, d2, d3] }
  | _ => none }
def QtyShareWrongFalsely : Prop := qtyShareRow.holds Try.pinned (OpenSpec.ofChange qtyShareWrong)

/-- 'interrexlaw1.LabelAll': WHATEVER THE INPUT: true; the input reads as it did. -/
def labelAllSpec : ChangeSpec := { name := "labelAll", fn := fun _ => fun
  | [d1, d2, d3, d4] => { results := [.lit (.bool true)], args := [d1, d2, d3, d4] }
  | _ => none }
def labelAllRow : OpenClaim := { program := "ytnimplldkambhaa", sum := "6e4baf07ac8e0fc678eaa5dd2d075a1879757b0c51eba83650718bab69ceb818", func := "interrex/interrexlaw1.LabelAll", spec := "labelAll", unfollowed := true, recurses := true, apart := false }
def LabelAllSaid : Prop := labelAllRow.holds Try.pinned (OpenSpec.ofChange labelAllSpec)

/-- ITS FALSE NEIGHBOUR: 'it returns false'. Refute it at one input. -/
def labelAllWrong : ChangeSpec := { name := "labelAll", fn := fun _ => fun
  | [d1, d2, d3, d4] => { results := [.lit (.bool false)], args := [d1, d2, d3, d4] }
  | _ => none }
def LabelAllWrongFalsely : Prop := labelAllRow.holds Try.pinned (OpenSpec.ofChange labelAllWrong)

/-- 'interrexlaw1.LabelOther': WHATEVER THE INPUT: true; the input reads as it did. -/
def labelOtherSpec : ChangeSpec := { name := "labelOther", fn := fun _ => fun
  | [d1, d2, d3] => { results := [.lit (.bool true)], args := [d1, d2, d3] }
  | _ => none }
def labelOtherRow : OpenClaim := { program := "ytnimplldkambhaa", sum := "6e4baf07ac8e0fc678eaa5dd2d075a1879757b0c51eba83650718bab69ceb818", func := "interrex/interrexlaw1.LabelOther", spec := "labelOther", unfollowed := true, recurses := true, apart := false }
def LabelOtherSaid : Prop := labelOtherRow.holds Try.pinned (OpenSpec.ofChange labelOtherSpec)

/-- ITS FALSE NEIGHBOUR: 'it returns false'. Refute it at one input. -/
def labelOtherWrong : ChangeSpec := { name := "labelOther", fn := fun _ => fun
  | [d1, d2, d3] => { results := [.lit (.bool false)], args := [d1, d2, d3] }
  | _ => none }
def LabelOtherWrongFalsely : Prop := labelOtherRow.holds Try.pinned (OpenSpec.ofChange labelOtherWrong)

/-- 'interrexlaw1.LabelBoth': WHATEVER THE INPUT: true; the input reads as it did. -/
def labelBothSpec : ChangeSpec := { name := "labelBoth", fn := fun _ => fun
  | [d1, d2, d3] => { results := [.lit (.bool true)], args := [d1, d2, d3] }
  | _ => none }
def labelBothRow : OpenClaim := { program := "ytnimplldkambhaa", sum := "6e4baf07ac8e0fc678eaa5dd2d075a1879757b0c51eba83650718bab69ceb818", func := "interrex/interrexlaw1.LabelBoth", spec := "labelBoth", unfollowed := true, recurses := true, apart := false }
def LabelBothSaid : Prop := labelBothRow.holds Try.pinned (OpenSpec.ofChange labelBothSpec)

/-- ITS FALSE NEIGHBOUR: 'it returns false'. Refute it at one input. -/
def labelBothWrong : ChangeSpec := { name := "labelBoth", fn := fun _ => fun
  | [d1, d2, d3] => { results := [.lit (.bool false)], args := [d1, d2, d3] }
  | _ => none }
def LabelBothWrongFalsely : Prop := labelBothRow.holds Try.pinned (OpenSpec.ofChange labelBothWrong)

/-- 'interrexlaw1.TaintAll': WHATEVER THE INPUT: true; the input reads as it did. -/
def taintAllSpec : ChangeSpec := { name := "taintAll", fn := fun _ => fun
  | [d1, d2] => { results := [.lit (.bool true)], args := [d1, d2] }
  | _ => none }
def taintAllRow : OpenClaim := { program := "ytnimplldkambhaa", sum := "6e4baf07ac8e0fc678eaa5dd2d075a1879757b0c51eba83650718bab69ceb818", func := "interrex/interrexlaw1.TaintAll", spec := "taintAll", unfollowed := true, recurses := true, apart := false }
def TaintAllSaid : Prop := taintAllRow.holds Try.pinned (OpenSpec.ofChange taintAllSpec)

/-- ITS FALSE NEIGHBOUR: 'it returns false'. Refute it at one input. -/
def taintAllWrong : ChangeSpec := { name := "taintAll", fn := fun _ => fun
  | [d1, d2] => { results := [.lit (.bool false)], args := [d1, d2] }
  | _ => none }
def TaintAllWrongFalsely : Prop := taintAllRow.holds Try.pinned (OpenSpec.ofChange taintAllWrong)

/-- 'interrexlaw1.ObjOwn': WHATEVER THE INPUT: true; the input reads as it did. -/
def objOwnSpec : ChangeSpec := { name := "objOwn", fn := fun _ => fun
  | [d1, d2] => { results := [.lit (.bool true)], args := [d1, d2] }
  | _ => none }
def objOwnRow : OpenClaim := { program := "ytnimplldkambhaa", sum := "6e4baf07ac8e0fc678eaa5dd2d075a1879757b0c51eba83650718bab69ceb818", func := "interrex/interrexlaw1.ObjOwn", spec := "objOwn", unfollowed := true, recurses := true, apart := false }
def ObjOwnSaid : Prop := objOwnRow.holds Try.pinned (OpenSpec.ofChange objOwnSpec)

/-- ITS FALSE NEIGHBOUR: 'it returns false'. Refute it at one input. -/
def objOwnWrong : ChangeSpec := { name := "objOwn", fn := fun _ => fun
  | [d1, d2] => { results := [.lit (.bool false)], args := [d1, d2] }
  | _ => none }
def ObjOwnWrongFalsely : Prop := objOwnRow.holds Try.pinned (OpenSpec.ofChange objOwnWrong)

/-- 'interrexlaw1.CodeAny': WHATEVER THE INPUT: true; the input reads as it did. -/
def codeAnySpec : ChangeSpec := { name := "codeAny", fn := fun _ => fun
  | [d1, d2, d3, d4, d5] => { results := [.lit (.bool true)], args := [d1, d2, d3, d4, d5] }
  | _ => none }
def codeAnyRow : OpenClaim := { program := "ytnimplldkambhaa", sum := "6e4baf07ac8e0fc678eaa5dd2d075a1879757b0c51eba83650718bab69ceb818", func := "interrex/interrexlaw1.CodeAny", spec := "codeAny", unfollowed := true, recurses := true, apart := false }
def CodeAnySaid : Prop := codeAnyRow.holds Try.pinned (OpenSpec.ofChange codeAnySpec)

/-- ITS FALSE NEIGHBOUR: 'it returns false'. Refute it at one input. -/
def codeAnyWrong : ChangeSpec := { name := "codeAny", fn := fun _ => fun
  | [d1, d2, d3, d4, d5] => { results := [.lit (.bool false)], args := [d1, d2, d3, d4, d5] }
  | _ => none }
def CodeAnyWrongFalsely : Prop := codeAnyRow.holds Try.pinned (OpenSpec.ofChange codeAnyWrong)

/-- 'interrexlaw1.CodeKey': WHATEVER THE INPUT: true; the input reads as it did. -/
def codeKeySpec : ChangeSpec := { name := "codeKey", fn := fun _ => fun
  | [d1, d2, d3] => { results := [.lit (.bool true)], args := [d1, d2, d3] }
  | _ => none }
def codeKeyRow : OpenClaim := { program := "ytnimplldkambhaa", sum := "6e4baf07ac8e0fc678eaa5dd2d075a1879757b0c51eba83650718bab69ceb818", func := "interrex/interrexlaw1.CodeKey", spec := "codeKey", unfollowed := true, recurses := true, apart := false }
def CodeKeySaid : Prop := codeKeyRow.holds Try.pinned (OpenSpec.ofChange codeKeySpec)

/-- ITS FALSE NEIGHBOUR: 'it returns false'. Refute it at one input. -/
def codeKeyWrong : ChangeSpec := { name := "codeKey", fn := fun _ => fun
  | [d1, d2, d3] => { results := [.lit (.bool false)], args := [d1, d2, d3] }
  | _ => none }
def CodeKeyWrongFalsely : Prop := codeKeyRow.holds Try.pinned (OpenSpec.ofChange codeKeyWrong)

/-- 'interrexlaw1.CodeAgain': WHATEVER THE INPUT: true; the input reads as it did. -/
def codeAgainSpec : ChangeSpec := { name := "codeAgain", fn := fun _ => fun
  | [d1, d2, d3] => { results := [.lit (.bool true)], args := [d1, d2, d3] }
  | _ => none }
def codeAgainRow : OpenClaim := { program := "ytnimplldkambhaa", sum := "6e4baf07ac8e0fc678eaa5dd2d075a1879757b0c51eba83650718bab69ceb818", func := "interrex/interrexlaw1.CodeAgain", spec := "codeAgain", unfollowed := true, recurses := true, apart := false }
def CodeAgainSaid : Prop := codeAgainRow.holds Try.pinned (OpenSpec.ofChange codeAgainSpec)

/-- ITS FALSE NEIGHBOUR: 'it returns false'. Refute it at one input. -/
def codeAgainWrong : ChangeSpec := { name := "codeAgain", fn := fun _ => fun
  | [d1, d2, d3] => { results := [.lit (.bool false)], args := [d1, d2, d3] }
  | _ => none }
def CodeAgainWrongFalsely : Prop := codeAgainRow.holds Try.pinned (OpenSpec.ofChange codeAgainWrong)

/-- 'interrexlaw1.QtyEdge': WHATEVER THE INPUT: true; the input reads as it did. -/
def qtyEdgeSpec : ChangeSpec := { name := "qtyEdge", fn := fun _ => fun
  | [d1, d2] => { results := [.lit (.bool true)], args := [d1, d2] }
  | _ => none }
def qtyEdgeRow : OpenClaim := { program := "ytnimplldkambhaa", sum := "6e4baf07ac8e0fc678eaa5dd2d075a1879757b0c51eba83650718bab69ceb818", func := "interrex/interrexlaw1.QtyEdge", spec := "qtyEdge", unfollowed := true, recurses := true, apart := false }
def QtyEdgeSaid : Prop := qtyEdgeRow.holds Try.pinned (OpenSpec.ofChange qtyEdgeSpec)

/-- ITS FALSE NEIGHBOUR: 'it returns false'. Refute it at one input. -/
def qtyEdgeWrong : ChangeSpec := { name := "qtyEdge", fn := fun _ => fun
  | [d1, d2] => { results := [.lit (.bool false)], args := [d1, d2] }
  | _ => none }
def QtyEdgeWrongFalsely : Prop := qtyEdgeRow.holds Try.pinned (OpenSpec.ofChange qtyEdgeWrong)

/-- 'interrexlaw1.QtyFits': WHATEVER THE INPUT: true; the input reads as it did. -/
def qtyFitsSpec : ChangeSpec := { name := "qtyFits", fn := fun _ => fun
  | [d1, d2, d3] => { results := [.lit (.bool true)], args := [d1, d2, d3] }
  | _ => none }
def qtyFitsRow : OpenClaim := { program := "ytnimplldkambhaa", sum := "6e4baf07ac8e0fc678eaa5dd2d075a1879757b0c51eba83650718bab69ceb818", func := "interrex/interrexlaw1.QtyFits", spec := "qtyFits", unfollowed := true, recurses := true, apart := false }
def QtyFitsSaid : Prop := qtyFitsRow.holds Try.pinned (OpenSpec.ofChange qtyFitsSpec)

/-- ITS FALSE NEIGHBOUR: 'it returns false'. Refute it at one input. -/
def qtyFitsWrong : ChangeSpec := { name := "qtyFits", fn := fun _ => fun
  | [d1, d2, d3] => { results := [.lit (.bool false)], args := [d1, d2, d3] }
  | _ => none }
def QtyFitsWrongFalsely : Prop := qtyFitsRow.holds Try.pinned (OpenSpec.ofChange qtyFitsWrong)

/- THE SECOND FORM. 'bulk': how many values and letters a reading holds, each counted each time it is reached (what is shared counts as often as it is met; a slice's spare places count too). A statement '..UptoSaid' is the law's where the arguments, and the package variables that the reading takes, are together of bulk at most 1048576: NARROWER than '..Said'. Prove '..Said' where nothing that the law and all that it calls make is longer than what came in: it says more and counts as full. Else prove '..UptoSaid'. A law counts once. -/
mutual
def uptoBulk {H : Type} : DataW H → Nat
  | .lit (.string bytes) => bytes.length + 1
  | .lit _ => 1
  | .nil => 1
  | .ptr d => uptoBulk d + 1
  | .slice elems spare => uptoBulkAll elems + uptoBulkAll spare + 1
  | .agg parts => uptoBulkAll parts + 1
  | .iface _ d => uptoBulk d + 1
  | .map entries => uptoBulkEntries entries + 1
  | .held _ => 1
def uptoBulkAll {H : Type} : List (DataW H) → Nat
  | [] => 0
  | d :: r => uptoBulk d + uptoBulkAll r
def uptoBulkEntries {H : Type} : List (Lit × DataW H) → Nat
  | [] => 0
  | x :: r => uptoBulkEntry x + uptoBulkEntries r
def uptoBulkEntry {H : Type} : Lit × DataW H → Nat
  | (.string bytes, d) => bytes.length + uptoBulk d + 1
  | (_, d) => uptoBulk d + 1
 end
def uptoSmall : (H : Type) → List (DataW H) → Bool := fun _ ds => decide (uptoBulkAll ds ≤ 1048576)
def OpenSpec.upto (s : _root_.Go.ChangeSpec) : _root_.Go.OpenSpec := { _root_.Go.OpenSpec.ofChange s with cond := some uptoSmall }

/-- 'interrexlaw1.QtyTurn', WHERE WHAT IT READS IS OF BULK AT MOST 1048576: true; the input reads as it did. -/
def qtyTurnUptoRow : OpenClaim := { program := "ytnimplldkambhaa", sum := "6e4baf07ac8e0fc678eaa5dd2d075a1879757b0c51eba83650718bab69ceb818", func := "interrex/interrexlaw1.QtyTurn", spec := "qtyTurn", unfollowed := true, recurses := true, apart := false, narrowed := true }
def QtyTurnUptoSaid : Prop := qtyTurnUptoRow.holds Try.pinned (OpenSpec.upto qtyTurnSpec)

/-- 'interrexlaw1.QtyShare', WHERE WHAT IT READS IS OF BULK AT MOST 1048576: true; the input reads as it did. -/
def qtyShareUptoRow : OpenClaim := { program := "ytnimplldkambhaa", sum := "6e4baf07ac8e0fc678eaa5dd2d075a1879757b0c51eba83650718bab69ceb818", func := "interrex/interrexlaw1.QtyShare", spec := "qtyShare", unfollowed := true, recurses := true, apart := false, narrowed := true }
def QtyShareUptoSaid : Prop := qtyShareUptoRow.holds Try.pinned (OpenSpec.upto qtyShareSpec)

/-- 'interrexlaw1.LabelAll', WHERE WHAT IT READS IS OF BULK AT MOST 1048576: true; the input reads as it did. -/
def labelAllUptoRow : OpenClaim := { program := "ytnimplldkambhaa", sum := "6e4baf07ac8e0fc678eaa5dd2d075a1879757b0c51eba83650718bab69ceb818", func := "interrex/interrexlaw1.LabelAll", spec := "labelAll", unfollowed := true, recurses := true, apart := false, narrowed := true }
def LabelAllUptoSaid : Prop := labelAllUptoRow.holds Try.pinned (OpenSpec.upto labelAllSpec)

/-- 'interrexlaw1.LabelOther', WHERE WHAT IT READS IS OF BULK AT MOST 1048576: true; the input reads as it did. -/
def labelOtherUptoRow : OpenClaim := { program := "ytnimplldkambhaa", sum := "6e4baf07ac8e0fc678eaa5dd2d075a1879757b0c51eba83650718bab69ceb818", func := "interrex/interrexlaw1.LabelOther", spec := "labelOther", unfollowed := true, recurses := true, apart := false, narrowed := true }
def LabelOtherUptoSaid : Prop := labelOtherUptoRow.holds Try.pinned (OpenSpec.upto labelOtherSpec)

/-- 'interrexlaw1.LabelBoth', WHERE WHAT IT READS IS OF BULK AT MOST 1048576: true; the input reads as it did. -/
def labelBothUptoRow : OpenClaim := { program := "ytnimplldkambhaa", sum := "6e4baf07ac8e0fc678eaa5dd2d075a1879757b0c51eba83650718bab69ceb818", func := "interrex/interrexlaw1.LabelBoth", spec := "labelBoth", unfollowed := true, recurses := true, apart := false, narrowed := true }
def LabelBothUptoSaid : Prop := labelBothUptoRow.holds Try.pinned (OpenSpec.upto labelBothSpec)

/-- 'interrexlaw1.TaintAll', WHERE WHAT IT READS IS OF BULK AT MOST 1048576: true; the input reads as it did. -/
def taintAllUptoRow : OpenClaim := { program := "ytnimplldkambhaa", sum := "6e4baf07ac8e0fc678eaa5dd2d075a1879757b0c51eba83650718bab69ceb818", func := "interrex/interrexlaw1.TaintAll", spec := "taintAll", unfollowed := true, recurses := true, apart := false, narrowed := true }
def TaintAllUptoSaid : Prop := taintAllUptoRow.holds Try.pinned (OpenSpec.upto taintAllSpec)

/-- 'interrexlaw1.ObjOwn', WHERE WHAT IT READS IS OF BULK AT MOST 1048576: true; the input reads as it did. -/
def objOwnUptoRow : OpenClaim := { program := "ytnimplldkambhaa", sum := "6e4baf07ac8e0fc678eaa5dd2d075a1879757b0c51eba83650718bab69ceb818", func := "interrex/interrexlaw1.ObjOwn", spec := "objOwn", unfollowed := true, recurses := true, apart := false, narrowed := true }
def ObjOwnUptoSaid : Prop := objOwnUptoRow.holds Try.pinned (OpenSpec.upto objOwnSpec)

/-- 'interrexlaw1.CodeAny', WHERE WHAT IT READS IS OF BULK AT MOST 1048576: true; the input reads as it did. -/
def codeAnyUptoRow : OpenClaim := { program := "ytnimplldkambhaa", sum := "6e4baf07ac8e0fc678eaa5dd2d075a1879757b0c51eba83650718bab69ceb818", func := "interrex/interrexlaw1.CodeAny", spec := "codeAny", unfollowed := true, recurses := true, apart := false, narrowed := true }
def CodeAnyUptoSaid : Prop := codeAnyUptoRow.holds Try.pinned (OpenSpec.upto codeAnySpec)

/-- 'interrexlaw1.CodeKey', WHERE WHAT IT READS IS OF BULK AT MOST 1048576: true; the input reads as it did. -/
def codeKeyUptoRow : OpenClaim := { program := "ytnimplldkambhaa", sum := "6e4baf07ac8e0fc678eaa5dd2d075a1879757b0c51eba83650718bab69ceb818", func := "interrex/interrexlaw1.CodeKey", spec := "codeKey", unfollowed := true, recurses := true, apart := false, narrowed := true }
def CodeKeyUptoSaid : Prop := codeKeyUptoRow.holds Try.pinned (OpenSpec.upto codeKeySpec)

/-- 'interrexlaw1.CodeAgain', WHERE WHAT IT READS IS OF BULK AT MOST 1048576: true; the input reads as it did. -/
def codeAgainUptoRow : OpenClaim := { program := "ytnimplldkambhaa", sum := "6e4baf07ac8e0fc678eaa5dd2d075a1879757b0c51eba83650718bab69ceb818", func := "interrex/interrexlaw1.CodeAgain", spec := "codeAgain", unfollowed := true, recurses := true, apart := false, narrowed := true }
def CodeAgainUptoSaid : Prop := codeAgainUptoRow.holds Try.pinned (OpenSpec.upto codeAgainSpec)

/-- 'interrexlaw1.QtyEdge', WHERE WHAT IT READS IS OF BULK AT MOST 1048576: true; the input reads as it did. -/
def qtyEdgeUptoRow : OpenClaim := { program := "ytnimplldkambhaa", sum := "6e4baf07ac8e0fc678eaa5dd2d075a1879757b0c51eba83650718bab69ceb818", func := "interrex/interrexlaw1.QtyEdge", spec := "qtyEdge", unfollowed := true, recurses := true, apart := false, narrowed := true }
def QtyEdgeUptoSaid : Prop := qtyEdgeUptoRow.holds Try.pinned (OpenSpec.upto qtyEdgeSpec)

/-- 'interrexlaw1.QtyFits', WHERE WHAT IT READS IS OF BULK AT MOST 1048576: true; the input reads as it did. -/
def qtyFitsUptoRow : OpenClaim := { program := "ytnimplldkambhaa", sum := "6e4baf07ac8e0fc678eaa5dd2d075a1879757b0c51eba83650718bab69ceb818", func := "interrex/interrexlaw1.QtyFits", spec := "qtyFits", unfollowed := true, recurses := true, apart := false, narrowed := true }
def QtyFitsUptoSaid : Prop := qtyFitsUptoRow.holds Try.pinned (OpenSpec.upto qtyFitsSpec)

end Rows
end Go.Proofs.Ytnimplldkambhaa
