/-
  No cell of these rows narrows 'for every input' (looked for: loops, veiled, ifaces, maps, wideKeys, modest, calm, conditions, laid).
  DERIVED. THE GIVEN ROWS OF THIS SEAT. 19 by the template 'for every input the law returns true; each argument reads behind the call as it read before'; 0 by the template 'total and deterministic' (their statements: YtaleceobkbgcnaaGreatTotals.lean).
  GIVEN WITH THE SEED: the statements are not yours to turn. If you find one false, say at which input.
  Laid BY PROGRAM, IN A SANDBOX (cutbox-rows.mjs): the forced cells as the released guide's own fill.sh prints them over the translation 2d71fb3558b2714e… (all of the seat's roots in one cut). By AI agents, Wed Nov 11 2026. No macro, syntax, notation, axiom, sorry.
-/
import Derived.Test.YtaleceobkbgcnaaGreatChecked
import GoSem.Claim
import GoSem.ClaimJoined
import GoSem.ClaimMapViews
import Derived.JoinedTies
import Derived.KernelRfl
namespace Go.Proofs.YtaleceobkbgcnaaGreat
/- THE CELL 'sum', in the pinned program and in every row, IS THE sha256 OF THE DUMP (.gsa) THAT YtaleceobkbgcnaaGreatProg.lean LOADS. Nothing in Lean hashes anything: it is a label: what it is worth is what the hold of that sum in a sandbox is worth. -/
noncomputable def Tryz.pinned : Pinned := { name := "ytaleceobkbgcnaagreat", sum := "2d71fb3558b2714e86858bb916d261c3e10a8dd28ff1201bb38f373e1384c957", checked := Tryz.checked }
namespace Rows
def none {H : Type} : Left H := { results := [], args := [] }

/-- 'interrexlaw6.LogBad': WHATEVER THE INPUT: true; the input reads as it did. -/
def logBadSpec : ChangeSpec := { name := "logBad", fn := fun _ => fun
  | [d1, d2] => { results := [.lit (.bool true)], args := [d1, d2] }
  | _ => none }
def logBadRow : OpenClaim := { program := "ytaleceobkbgcnaagreat", sum := "2d71fb3558b2714e86858bb916d261c3e10a8dd28ff1201bb38f373e1384c957", func := "interrex/interrexlaw6.LogBad", spec := "logBad", inPlace := ["sync/atomic.AddInt64"], unfollowed := true, recurses := true, apart := false }
def LogBadSaid : Prop := logBadRow.holds Tryz.pinned (OpenSpec.ofChange logBadSpec)

/-- ITS FALSE NEIGHBOUR: 'it returns false'. Refute it at one input. -/
def logBadWrong : ChangeSpec := { name := "logBad", fn := fun _ => fun
  | [d1, d2] => { results := [.lit (.bool false)], args := [d1, d2] }
  | _ => none }
def LogBadWrongFalsely : Prop := logBadRow.holds Tryz.pinned (OpenSpec.ofChange logBadWrong)

/-- 'interrexlaw6.LogOwn': WHATEVER THE INPUT: true; the input reads as it did. -/
def logOwnSpec : ChangeSpec := { name := "logOwn", fn := fun _ => fun
  | [d] => { results := [.lit (.bool true)], args := [d] }
  | _ => none }
def logOwnRow : OpenClaim := { program := "ytaleceobkbgcnaagreat", sum := "2d71fb3558b2714e86858bb916d261c3e10a8dd28ff1201bb38f373e1384c957", func := "interrex/interrexlaw6.LogOwn", spec := "logOwn", inPlace := ["sync/atomic.AddInt64"], unfollowed := true, recurses := true, apart := false }
def LogOwnSaid : Prop := logOwnRow.holds Tryz.pinned (OpenSpec.ofChange logOwnSpec)

/-- ITS FALSE NEIGHBOUR: 'it returns false'. Refute it at one input. -/
def logOwnWrong : ChangeSpec := { name := "logOwn", fn := fun _ => fun
  | [d] => { results := [.lit (.bool false)], args := [d] }
  | _ => none }
def LogOwnWrongFalsely : Prop := logOwnRow.holds Tryz.pinned (OpenSpec.ofChange logOwnWrong)

/-- 'interrexlaw6.LogKeeps': WHATEVER THE INPUT: true; the input reads as it did. -/
def logKeepsSpec : ChangeSpec := { name := "logKeeps", fn := fun _ => fun
  | [d1, d2] => { results := [.lit (.bool true)], args := [d1, d2] }
  | _ => none }
def logKeepsRow : OpenClaim := { program := "ytaleceobkbgcnaagreat", sum := "2d71fb3558b2714e86858bb916d261c3e10a8dd28ff1201bb38f373e1384c957", func := "interrex/interrexlaw6.LogKeeps", spec := "logKeeps", inPlace := ["sync/atomic.AddInt64"], unfollowed := true, recurses := true, apart := false }
def LogKeepsSaid : Prop := logKeepsRow.holds Tryz.pinned (OpenSpec.ofChange logKeepsSpec)

/-- ITS FALSE NEIGHBOUR: 'it returns false'. Refute it at one input. -/
def logKeepsWrong : ChangeSpec := { name := "logKeeps", fn := fun _ => fun
  | [d1, d2] => { results := [.lit (.bool false)], args := [d1, d2] }
  | _ => none }
def LogKeepsWrongFalsely : Prop := logKeepsRow.holds Tryz.pinned (OpenSpec.ofChange logKeepsWrong)

/-- 'interrexlaw6.LogOn': WHATEVER THE INPUT: true; the input reads as it did. -/
def logOnSpec : ChangeSpec := { name := "logOn", fn := fun _ => fun
  | [d1, d2, d3] => { results := [.lit (.bool true)], args := [d1, d2, d3] }
  | _ => none }
def logOnRow : OpenClaim := { program := "ytaleceobkbgcnaagreat", sum := "2d71fb3558b2714e86858bb916d261c3e10a8dd28ff1201bb38f373e1384c957", func := "interrex/interrexlaw6.LogOn", spec := "logOn", inPlace := ["sync/atomic.AddInt64"], unfollowed := true, recurses := true, apart := false }
def LogOnSaid : Prop := logOnRow.holds Tryz.pinned (OpenSpec.ofChange logOnSpec)

/-- ITS FALSE NEIGHBOUR: 'it returns false'. Refute it at one input. -/
def logOnWrong : ChangeSpec := { name := "logOn", fn := fun _ => fun
  | [d1, d2, d3] => { results := [.lit (.bool false)], args := [d1, d2, d3] }
  | _ => none }
def LogOnWrongFalsely : Prop := logOnRow.holds Tryz.pinned (OpenSpec.ofChange logOnWrong)

/-- 'interrexlaw6.LogAll': WHATEVER THE INPUT: true; the input reads as it did. -/
def logAllSpec : ChangeSpec := { name := "logAll", fn := fun _ => fun
  | [d1, d2, d3] => { results := [.lit (.bool true)], args := [d1, d2, d3] }
  | _ => none }
def logAllRow : OpenClaim := { program := "ytaleceobkbgcnaagreat", sum := "2d71fb3558b2714e86858bb916d261c3e10a8dd28ff1201bb38f373e1384c957", func := "interrex/interrexlaw6.LogAll", spec := "logAll", inPlace := ["sync/atomic.AddInt64"], unfollowed := true, recurses := true, apart := false }
def LogAllSaid : Prop := logAllRow.holds Tryz.pinned (OpenSpec.ofChange logAllSpec)

/-- ITS FALSE NEIGHBOUR: 'it returns false'. Refute it at one input. -/
def logAllWrong : ChangeSpec := { name := "logAll", fn := fun _ => fun
  | [d1, d2, d3] => { results := [.lit (.bool false)], args := [d1, d2, d3] }
  | _ => none }
def LogAllWrongFalsely : Prop := logAllRow.holds Tryz.pinned (OpenSpec.ofChange logAllWrong)

/-- 'interrexlaw6.CallTurn': WHATEVER THE INPUT: true; the input reads as it did. -/
def callTurnSpec : ChangeSpec := { name := "callTurn", fn := fun _ => fun
  | [d] => { results := [.lit (.bool true)], args := [d] }
  | _ => none }
def callTurnRow : OpenClaim := { program := "ytaleceobkbgcnaagreat", sum := "2d71fb3558b2714e86858bb916d261c3e10a8dd28ff1201bb38f373e1384c957", func := "interrex/interrexlaw6.CallTurn", spec := "callTurn", inPlace := ["sync/atomic.AddInt64"], unfollowed := true, recurses := true, apart := false }
def CallTurnSaid : Prop := callTurnRow.holds Tryz.pinned (OpenSpec.ofChange callTurnSpec)

/-- ITS FALSE NEIGHBOUR: 'it returns false'. Refute it at one input. -/
def callTurnWrong : ChangeSpec := { name := "callTurn", fn := fun _ => fun
  | [d] => { results := [.lit (.bool false)], args := [d] }
  | _ => none }
def CallTurnWrongFalsely : Prop := callTurnRow.holds Tryz.pinned (OpenSpec.ofChange callTurnWrong)

/-- 'interrexlaw6.CallAny': WHATEVER THE INPUT: true; the input reads as it did. -/
def callAnySpec : ChangeSpec := { name := "callAny", fn := fun _ => fun
  | [d1, d2, d3, d4] => { results := [.lit (.bool true)], args := [d1, d2, d3, d4] }
  | _ => none }
def callAnyRow : OpenClaim := { program := "ytaleceobkbgcnaagreat", sum := "2d71fb3558b2714e86858bb916d261c3e10a8dd28ff1201bb38f373e1384c957", func := "interrex/interrexlaw6.CallAny", spec := "callAny", inPlace := ["sync/atomic.AddInt64"], unfollowed := true, recurses := true, apart := false }
def CallAnySaid : Prop := callAnyRow.holds Tryz.pinned (OpenSpec.ofChange callAnySpec)

/-- ITS FALSE NEIGHBOUR: 'it returns false'. Refute it at one input. -/
def callAnyWrong : ChangeSpec := { name := "callAny", fn := fun _ => fun
  | [d1, d2, d3, d4] => { results := [.lit (.bool false)], args := [d1, d2, d3, d4] }
  | _ => none }
def CallAnyWrongFalsely : Prop := callAnyRow.holds Tryz.pinned (OpenSpec.ofChange callAnyWrong)

/-- 'interrexlaw6.StoreOwn': WHATEVER THE INPUT: true; the input reads as it did. -/
def storeOwnSpec : ChangeSpec := { name := "storeOwn", fn := fun _ => fun
  | [d] => { results := [.lit (.bool true)], args := [d] }
  | _ => none }
def storeOwnRow : OpenClaim := { program := "ytaleceobkbgcnaagreat", sum := "2d71fb3558b2714e86858bb916d261c3e10a8dd28ff1201bb38f373e1384c957", func := "interrex/interrexlaw6.StoreOwn", spec := "storeOwn", inPlace := ["sync/atomic.AddInt64"], unfollowed := true, recurses := true, apart := false }
def StoreOwnSaid : Prop := storeOwnRow.holds Tryz.pinned (OpenSpec.ofChange storeOwnSpec)

/-- ITS FALSE NEIGHBOUR: 'it returns false'. Refute it at one input. -/
def storeOwnWrong : ChangeSpec := { name := "storeOwn", fn := fun _ => fun
  | [d] => { results := [.lit (.bool false)], args := [d] }
  | _ => none }
def StoreOwnWrongFalsely : Prop := storeOwnRow.holds Tryz.pinned (OpenSpec.ofChange storeOwnWrong)

/-- 'interrexlaw6.StoreGone': WHATEVER THE INPUT: true; the input reads as it did. -/
def storeGoneSpec : ChangeSpec := { name := "storeGone", fn := fun _ => fun
  | [d1, d2] => { results := [.lit (.bool true)], args := [d1, d2] }
  | _ => none }
def storeGoneRow : OpenClaim := { program := "ytaleceobkbgcnaagreat", sum := "2d71fb3558b2714e86858bb916d261c3e10a8dd28ff1201bb38f373e1384c957", func := "interrex/interrexlaw6.StoreGone", spec := "storeGone", inPlace := ["sync/atomic.AddInt64"], unfollowed := true, recurses := true, apart := false }
def StoreGoneSaid : Prop := storeGoneRow.holds Tryz.pinned (OpenSpec.ofChange storeGoneSpec)

/-- ITS FALSE NEIGHBOUR: 'it returns false'. Refute it at one input. -/
def storeGoneWrong : ChangeSpec := { name := "storeGone", fn := fun _ => fun
  | [d1, d2] => { results := [.lit (.bool false)], args := [d1, d2] }
  | _ => none }
def StoreGoneWrongFalsely : Prop := storeGoneRow.holds Tryz.pinned (OpenSpec.ofChange storeGoneWrong)

/-- 'interrexlaw6.StoreForm': WHATEVER THE INPUT: true; the input reads as it did. -/
def storeFormSpec : ChangeSpec := { name := "storeForm", fn := fun _ => fun
  | [d1, d2, d3] => { results := [.lit (.bool true)], args := [d1, d2, d3] }
  | _ => none }
def storeFormRow : OpenClaim := { program := "ytaleceobkbgcnaagreat", sum := "2d71fb3558b2714e86858bb916d261c3e10a8dd28ff1201bb38f373e1384c957", func := "interrex/interrexlaw6.StoreForm", spec := "storeForm", inPlace := ["sync/atomic.AddInt64"], unfollowed := true, recurses := true, apart := false }
def StoreFormSaid : Prop := storeFormRow.holds Tryz.pinned (OpenSpec.ofChange storeFormSpec)

/-- ITS FALSE NEIGHBOUR: 'it returns false'. Refute it at one input. -/
def storeFormWrong : ChangeSpec := { name := "storeForm", fn := fun _ => fun
  | [d1, d2, d3] => { results := [.lit (.bool false)], args := [d1, d2, d3] }
  | _ => none }
def StoreFormWrongFalsely : Prop := storeFormRow.holds Tryz.pinned (OpenSpec.ofChange storeFormWrong)

/-- 'interrexlaw6.StoreOnce': WHATEVER THE INPUT: true; the input reads as it did. -/
def storeOnceSpec : ChangeSpec := { name := "storeOnce", fn := fun _ => fun
  | [d1, d2, d3] => { results := [.lit (.bool true)], args := [d1, d2, d3] }
  | _ => none }
def storeOnceRow : OpenClaim := { program := "ytaleceobkbgcnaagreat", sum := "2d71fb3558b2714e86858bb916d261c3e10a8dd28ff1201bb38f373e1384c957", func := "interrex/interrexlaw6.StoreOnce", spec := "storeOnce", inPlace := ["sync/atomic.AddInt64"], unfollowed := true, recurses := true, apart := false }
def StoreOnceSaid : Prop := storeOnceRow.holds Tryz.pinned (OpenSpec.ofChange storeOnceSpec)

/-- ITS FALSE NEIGHBOUR: 'it returns false'. Refute it at one input. -/
def storeOnceWrong : ChangeSpec := { name := "storeOnce", fn := fun _ => fun
  | [d1, d2, d3] => { results := [.lit (.bool false)], args := [d1, d2, d3] }
  | _ => none }
def StoreOnceWrongFalsely : Prop := storeOnceRow.holds Tryz.pinned (OpenSpec.ofChange storeOnceWrong)

/-- 'interrexlaw6.StoreUnder': WHATEVER THE INPUT: true; the input reads as it did. -/
def storeUnderSpec : ChangeSpec := { name := "storeUnder", fn := fun _ => fun
  | [d1, d2, d3] => { results := [.lit (.bool true)], args := [d1, d2, d3] }
  | _ => none }
def storeUnderRow : OpenClaim := { program := "ytaleceobkbgcnaagreat", sum := "2d71fb3558b2714e86858bb916d261c3e10a8dd28ff1201bb38f373e1384c957", func := "interrex/interrexlaw6.StoreUnder", spec := "storeUnder", inPlace := ["sync/atomic.AddInt64"], unfollowed := true, recurses := true, apart := false }
def StoreUnderSaid : Prop := storeUnderRow.holds Tryz.pinned (OpenSpec.ofChange storeUnderSpec)

/-- ITS FALSE NEIGHBOUR: 'it returns false'. Refute it at one input. -/
def storeUnderWrong : ChangeSpec := { name := "storeUnder", fn := fun _ => fun
  | [d1, d2, d3] => { results := [.lit (.bool false)], args := [d1, d2, d3] }
  | _ => none }
def StoreUnderWrongFalsely : Prop := storeUnderRow.holds Tryz.pinned (OpenSpec.ofChange storeUnderWrong)

/-- 'interrexlaw6.StoreAll': WHATEVER THE INPUT: true; the input reads as it did. -/
def storeAllSpec : ChangeSpec := { name := "storeAll", fn := fun _ => fun
  | [d1, d2] => { results := [.lit (.bool true)], args := [d1, d2] }
  | _ => none }
def storeAllRow : OpenClaim := { program := "ytaleceobkbgcnaagreat", sum := "2d71fb3558b2714e86858bb916d261c3e10a8dd28ff1201bb38f373e1384c957", func := "interrex/interrexlaw6.StoreAll", spec := "storeAll", inPlace := ["sync/atomic.AddInt64", "sync/atomic.LoadInt64"], unfollowed := true, recurses := true, apart := false }
def StoreAllSaid : Prop := storeAllRow.holds Tryz.pinned (OpenSpec.ofChange storeAllSpec)

/-- ITS FALSE NEIGHBOUR: 'it returns false'. Refute it at one input. -/
def storeAllWrong : ChangeSpec := { name := "storeAll", fn := fun _ => fun
  | [d1, d2] => { results := [.lit (.bool false)], args := [d1, d2] }
  | _ => none }
def StoreAllWrongFalsely : Prop := storeAllRow.holds Tryz.pinned (OpenSpec.ofChange storeAllWrong)

/-- 'interrexlaw6.StoreReplay': WHATEVER THE INPUT: true; the input reads as it did. -/
def storeReplaySpec : ChangeSpec := { name := "storeReplay", fn := fun _ => fun
  | [d1, d2] => { results := [.lit (.bool true)], args := [d1, d2] }
  | _ => none }
def storeReplayRow : OpenClaim := { program := "ytaleceobkbgcnaagreat", sum := "2d71fb3558b2714e86858bb916d261c3e10a8dd28ff1201bb38f373e1384c957", func := "interrex/interrexlaw6.StoreReplay", spec := "storeReplay", inPlace := ["sync/atomic.AddInt64"], unfollowed := true, recurses := true, apart := false }
def StoreReplaySaid : Prop := storeReplayRow.holds Tryz.pinned (OpenSpec.ofChange storeReplaySpec)

/-- ITS FALSE NEIGHBOUR: 'it returns false'. Refute it at one input. -/
def storeReplayWrong : ChangeSpec := { name := "storeReplay", fn := fun _ => fun
  | [d1, d2] => { results := [.lit (.bool false)], args := [d1, d2] }
  | _ => none }
def StoreReplayWrongFalsely : Prop := storeReplayRow.holds Tryz.pinned (OpenSpec.ofChange storeReplayWrong)

/-- 'interrexlaw6.StoreWhole': WHATEVER THE INPUT: true; the input reads as it did. -/
def storeWholeSpec : ChangeSpec := { name := "storeWhole", fn := fun _ => fun
  | [d1, d2, d3] => { results := [.lit (.bool true)], args := [d1, d2, d3] }
  | _ => none }
def storeWholeRow : OpenClaim := { program := "ytaleceobkbgcnaagreat", sum := "2d71fb3558b2714e86858bb916d261c3e10a8dd28ff1201bb38f373e1384c957", func := "interrex/interrexlaw6.StoreWhole", spec := "storeWhole", inPlace := ["sync/atomic.AddInt64"], unfollowed := true, recurses := true, apart := false }
def StoreWholeSaid : Prop := storeWholeRow.holds Tryz.pinned (OpenSpec.ofChange storeWholeSpec)

/-- ITS FALSE NEIGHBOUR: 'it returns false'. Refute it at one input. -/
def storeWholeWrong : ChangeSpec := { name := "storeWhole", fn := fun _ => fun
  | [d1, d2, d3] => { results := [.lit (.bool false)], args := [d1, d2, d3] }
  | _ => none }
def StoreWholeWrongFalsely : Prop := storeWholeRow.holds Tryz.pinned (OpenSpec.ofChange storeWholeWrong)

/-- 'interrexlaw6.StoreGuards': WHATEVER THE INPUT: true; the input reads as it did. -/
def storeGuardsSpec : ChangeSpec := { name := "storeGuards", fn := fun _ => fun
  | [d1, d2, d3] => { results := [.lit (.bool true)], args := [d1, d2, d3] }
  | _ => none }
def storeGuardsRow : OpenClaim := { program := "ytaleceobkbgcnaagreat", sum := "2d71fb3558b2714e86858bb916d261c3e10a8dd28ff1201bb38f373e1384c957", func := "interrex/interrexlaw6.StoreGuards", spec := "storeGuards", inPlace := ["sync/atomic.AddInt64"], unfollowed := true, recurses := true, apart := false }
def StoreGuardsSaid : Prop := storeGuardsRow.holds Tryz.pinned (OpenSpec.ofChange storeGuardsSpec)

/-- ITS FALSE NEIGHBOUR: 'it returns false'. Refute it at one input. -/
def storeGuardsWrong : ChangeSpec := { name := "storeGuards", fn := fun _ => fun
  | [d1, d2, d3] => { results := [.lit (.bool false)], args := [d1, d2, d3] }
  | _ => none }
def StoreGuardsWrongFalsely : Prop := storeGuardsRow.holds Tryz.pinned (OpenSpec.ofChange storeGuardsWrong)

/-- 'interrexlaw6.StoreWatch': WHATEVER THE INPUT: true; the input reads as it did. -/
def storeWatchSpec : ChangeSpec := { name := "storeWatch", fn := fun _ => fun
  | [d1, d2] => { results := [.lit (.bool true)], args := [d1, d2] }
  | _ => none }
def storeWatchRow : OpenClaim := { program := "ytaleceobkbgcnaagreat", sum := "2d71fb3558b2714e86858bb916d261c3e10a8dd28ff1201bb38f373e1384c957", func := "interrex/interrexlaw6.StoreWatch", spec := "storeWatch", inPlace := ["sync/atomic.AddInt64"], unfollowed := true, recurses := true, apart := false }
def StoreWatchSaid : Prop := storeWatchRow.holds Tryz.pinned (OpenSpec.ofChange storeWatchSpec)

/-- ITS FALSE NEIGHBOUR: 'it returns false'. Refute it at one input. -/
def storeWatchWrong : ChangeSpec := { name := "storeWatch", fn := fun _ => fun
  | [d1, d2] => { results := [.lit (.bool false)], args := [d1, d2] }
  | _ => none }
def StoreWatchWrongFalsely : Prop := storeWatchRow.holds Tryz.pinned (OpenSpec.ofChange storeWatchWrong)

/-- 'interrexlaw6.ReplyOf': WHATEVER THE INPUT: true; the input reads as it did. -/
def replyOfSpec : ChangeSpec := { name := "replyOf", fn := fun _ => fun
  | [d1, d2] => { results := [.lit (.bool true)], args := [d1, d2] }
  | _ => none }
def replyOfRow : OpenClaim := { program := "ytaleceobkbgcnaagreat", sum := "2d71fb3558b2714e86858bb916d261c3e10a8dd28ff1201bb38f373e1384c957", func := "interrex/interrexlaw6.ReplyOf", spec := "replyOf", inPlace := ["sync/atomic.AddInt64"], unfollowed := true, recurses := true, apart := false }
def ReplyOfSaid : Prop := replyOfRow.holds Tryz.pinned (OpenSpec.ofChange replyOfSpec)

/-- ITS FALSE NEIGHBOUR: 'it returns false'. Refute it at one input. -/
def replyOfWrong : ChangeSpec := { name := "replyOf", fn := fun _ => fun
  | [d1, d2] => { results := [.lit (.bool false)], args := [d1, d2] }
  | _ => none }
def ReplyOfWrongFalsely : Prop := replyOfRow.holds Tryz.pinned (OpenSpec.ofChange replyOfWrong)

/-- 'interrexlaw6.ReplyTwice': WHATEVER THE INPUT: true; the input reads as it did. -/
def replyTwiceSpec : ChangeSpec := { name := "replyTwice", fn := fun _ => fun
  | [d1, d2, d3] => { results := [.lit (.bool true)], args := [d1, d2, d3] }
  | _ => none }
def replyTwiceRow : OpenClaim := { program := "ytaleceobkbgcnaagreat", sum := "2d71fb3558b2714e86858bb916d261c3e10a8dd28ff1201bb38f373e1384c957", func := "interrex/interrexlaw6.ReplyTwice", spec := "replyTwice", inPlace := ["sync/atomic.AddInt64"], unfollowed := true, recurses := true, apart := false }
def ReplyTwiceSaid : Prop := replyTwiceRow.holds Tryz.pinned (OpenSpec.ofChange replyTwiceSpec)

/-- ITS FALSE NEIGHBOUR: 'it returns false'. Refute it at one input. -/
def replyTwiceWrong : ChangeSpec := { name := "replyTwice", fn := fun _ => fun
  | [d1, d2, d3] => { results := [.lit (.bool false)], args := [d1, d2, d3] }
  | _ => none }
def ReplyTwiceWrongFalsely : Prop := replyTwiceRow.holds Tryz.pinned (OpenSpec.ofChange replyTwiceWrong)

/- THE SECOND FORM. 'bulk': how many values and letters a reading holds, each counted each time it is reached (what is shared counts as often as it is met; a slice's spare places count too). A statement '..UptoSaid' is the law's where the arguments, and the package variables that the reading takes, are together of bulk at most 1048576: NARROWER than '..Said'. Prove '..Said' where nothing that the law and all that it calls make is longer than what came in: it says more and counts as full. Else prove '..UptoSaid'. A law counts once. -/
mutual
def uptoBulk {H : Type} : DataW H → Nat
  | .lit (.string bytes) => bytes.length + 1
  | .lit _ => 1
  | .nil => 1
  | .ptr d => uptoBulk d + 1
  | .slice elems spare => uptoBulkAll elems + uptoBulkAll spare + 1
  | .agg parts => uptoBulkAll parts + 1
  | .iface _ d => uptoBulk d + 1
  | .map entries => uptoBulkEntries entries + 1
  | .held _ => 1
def uptoBulkAll {H : Type} : List (DataW H) → Nat
  | [] => 0
  | d :: r => uptoBulk d + uptoBulkAll r
def uptoBulkEntries {H : Type} : List (Lit × DataW H) → Nat
  | [] => 0
  | x :: r => uptoBulkEntry x + uptoBulkEntries r
def uptoBulkEntry {H : Type} : Lit × DataW H → Nat
  | (.string bytes, d) => bytes.length + uptoBulk d + 1
  | (_, d) => uptoBulk d + 1
 end
def uptoSmall : (H : Type) → List (DataW H) → Bool := fun _ ds => decide (uptoBulkAll ds ≤ 1048576)
def OpenSpec.upto (s : _root_.Go.ChangeSpec) : _root_.Go.OpenSpec := { _root_.Go.OpenSpec.ofChange s with cond := some uptoSmall }

/-- 'interrexlaw6.LogBad', WHERE WHAT IT READS IS OF BULK AT MOST 1048576: true; the input reads as it did. -/
def logBadUptoRow : OpenClaim := { program := "ytaleceobkbgcnaagreat", sum := "2d71fb3558b2714e86858bb916d261c3e10a8dd28ff1201bb38f373e1384c957", func := "interrex/interrexlaw6.LogBad", spec := "logBad", inPlace := ["sync/atomic.AddInt64"], unfollowed := true, recurses := true, apart := false, narrowed := true }
def LogBadUptoSaid : Prop := logBadUptoRow.holds Tryz.pinned (OpenSpec.upto logBadSpec)

/-- 'interrexlaw6.LogOwn', WHERE WHAT IT READS IS OF BULK AT MOST 1048576: true; the input reads as it did. -/
def logOwnUptoRow : OpenClaim := { program := "ytaleceobkbgcnaagreat", sum := "2d71fb3558b2714e86858bb916d261c3e10a8dd28ff1201bb38f373e1384c957", func := "interrex/interrexlaw6.LogOwn", spec := "logOwn", inPlace := ["sync/atomic.AddInt64"], unfollowed := true, recurses := true, apart := false, narrowed := true }
def LogOwnUptoSaid : Prop := logOwnUptoRow.holds Tryz.pinned (OpenSpec.upto logOwnSpec)

/-- 'interrexlaw6.LogKeeps', WHERE WHAT IT READS IS OF BULK AT MOST 1048576: true; the input reads as it did. -/
def logKeepsUptoRow : OpenClaim := { program := "ytaleceobkbgcnaagreat", sum := "2d71fb3558b2714e86858bb916d261c3e10a8dd28ff1201bb38f373e1384c957", func := "interrex/interrexlaw6.LogKeeps", spec := "logKeeps", inPlace := ["sync/atomic.AddInt64"], unfollowed := true, recurses := true, apart := false, narrowed := true }
def LogKeepsUptoSaid : Prop := logKeepsUptoRow.holds Tryz.pinned (OpenSpec.upto logKeepsSpec)

/-- 'interrexlaw6.LogOn', WHERE WHAT IT READS IS OF BULK AT MOST 1048576: true; the input reads as it did. -/
def logOnUptoRow : OpenClaim := { program := "ytaleceobkbgcnaagreat", sum := "2d71fb3558b2714e86858bb916d261c3e10a8dd28ff1201bb38f373e1384c957", func := "interrex/interrexlaw6.LogOn", spec := "logOn", inPlace := ["sync/atomic.AddInt64"], unfollowed := true, recurses := true, apart := false, narrowed := true }
def LogOnUptoSaid : Prop := logOnUptoRow.holds Tryz.pinned (OpenSpec.upto logOnSpec)

/-- 'interrexlaw6.LogAll', WHERE WHAT IT READS IS OF BULK AT MOST 1048576: true; the input reads as it did. -/
def logAllUptoRow : OpenClaim := { program := "ytaleceobkbgcnaagreat", sum := "2d71fb3558b2714e86858bb916d261c3e10a8dd28ff1201bb38f373e1384c957", func := "interrex/interrexlaw6.LogAll", spec := "logAll", inPlace := ["sync/atomic.AddInt64"], unfollowed := true, recurses := true, apart := false, narrowed := true }
def LogAllUptoSaid : Prop := logAllUptoRow.holds Tryz.pinned (OpenSpec.upto logAllSpec)

/-- 'interrexlaw6.CallTurn', WHERE WHAT IT READS IS OF BULK AT MOST 1048576: true; the input reads as it did. -/
def callTurnUptoRow : OpenClaim := { program := "ytaleceobkbgcnaagreat", sum := "2d71fb3558b2714e86858bb916d261c3e10a8dd28ff1201bb38f373e1384c957", func := "interrex/interrexlaw6.CallTurn", spec := "callTurn", inPlace := ["sync/atomic.AddInt64"], unfollowed := true, recurses := true, apart := false, narrowed := true }
def CallTurnUptoSaid : Prop := callTurnUptoRow.holds Tryz.pinned (OpenSpec.upto callTurnSpec)

/-- 'interrexlaw6.CallAny', WHERE WHAT IT READS IS OF BULK AT MOST 1048576: true; the input reads as it did. -/
def callAnyUptoRow : OpenClaim := { program := "ytaleceobkbgcnaagreat", sum := "2d71fb3558b2714e86858bb916d261c3e10a8dd28ff1201bb38f373e1384c957", func := "interrex/interrexlaw6.CallAny", spec := "callAny", inPlace := ["sync/atomic.AddInt64"], unfollowed := true, recurses := true, apart := false, narrowed := true }
def CallAnyUptoSaid : Prop := callAnyUptoRow.holds Tryz.pinned (OpenSpec.upto callAnySpec)

/-- 'interrexlaw6.StoreOwn', WHERE WHAT IT READS IS OF BULK AT MOST 1048576: true; the input reads as it did. -/
def storeOwnUptoRow : OpenClaim := { program := "ytaleceobkbgcnaagreat", sum := "2d71fb3558b2714e86858bb916d261c3e10a8dd28ff1201bb38f373e1384c957", func := "interrex/interrexlaw6.StoreOwn", spec := "storeOwn", inPlace := ["sync/atomic.AddInt64"], unfollowed := true, recurses := true, apart := false, narrowed := true }
def StoreOwnUptoSaid : Prop := storeOwnUptoRow.holds Tryz.pinned (OpenSpec.upto storeOwnSpec)

/-- 'interrexlaw6.StoreGone', WHERE WHAT IT READS IS OF BULK AT MOST 1048576: true; the input reads as it did. -/
def storeGoneUptoRow : OpenClaim := { program := "ytaleceobkbgcnaagreat", sum := "2d71fb3558b2714e86858bb916d261c3e10a8dd28ff1201bb38f373e1384c957", func := "interrex/interrexlaw6.StoreGone", spec := "storeGone", inPlace := ["sync/atomic.AddInt64"], unfollowed := true, recurses := true, apart := false, narrowed := true }
def StoreGoneUptoSaid : Prop := storeGoneUptoRow.holds Tryz.pinned (OpenSpec.upto storeGoneSpec)

/-- 'interrexlaw6.StoreForm', WHERE WHAT IT READS IS OF BULK AT MOST 1048576: true; the input reads as it did. -/
def storeFormUptoRow : OpenClaim := { program := "ytaleceobkbgcnaagreat", sum := "2d71fb3558b2714e86858bb916d261c3e10a8dd28ff1201bb38f373e1384c957", func := "interrex/interrexlaw6.StoreForm", spec := "storeForm", inPlace := ["sync/atomic.AddInt64"], unfollowed := true, recurses := true, apart := false, narrowed := true }
def StoreFormUptoSaid : Prop := storeFormUptoRow.holds Tryz.pinned (OpenSpec.upto storeFormSpec)

/-- 'interrexlaw6.StoreOnce', WHERE WHAT IT READS IS OF BULK AT MOST 1048576: true; the input reads as it did. -/
def storeOnceUptoRow : OpenClaim := { program := "ytaleceobkbgcnaagreat", sum := "2d71fb3558b2714e86858bb916d261c3e10a8dd28ff1201bb38f373e1384c957", func := "interrex/interrexlaw6.StoreOnce", spec := "storeOnce", inPlace := ["sync/atomic.AddInt64"], unfollowed := true, recurses := true, apart := false, narrowed := true }
def StoreOnceUptoSaid : Prop := storeOnceUptoRow.holds Tryz.pinned (OpenSpec.upto storeOnceSpec)

/-- 'interrexlaw6.StoreUnder', WHERE WHAT IT READS IS OF BULK AT MOST 1048576: true; the input reads as it did. -/
def storeUnderUptoRow : OpenClaim := { program := "ytaleceobkbgcnaagreat", sum := "2d71fb3558b2714e86858bb916d261c3e10a8dd28ff1201bb38f373e1384c957", func := "interrex/interrexlaw6.StoreUnder", spec := "storeUnder", inPlace := ["sync/atomic.AddInt64"], unfollowed := true, recurses := true, apart := false, narrowed := true }
def StoreUnderUptoSaid : Prop := storeUnderUptoRow.holds Tryz.pinned (OpenSpec.upto storeUnderSpec)

/-- 'interrexlaw6.StoreAll', WHERE WHAT IT READS IS OF BULK AT MOST 1048576: true; the input reads as it did. -/
def storeAllUptoRow : OpenClaim := { program := "ytaleceobkbgcnaagreat", sum := "2d71fb3558b2714e86858bb916d261c3e10a8dd28ff1201bb38f373e1384c957", func := "interrex/interrexlaw6.StoreAll", spec := "storeAll", inPlace := ["sync/atomic.AddInt64", "sync/atomic.LoadInt64"], unfollowed := true, recurses := true, apart := false, narrowed := true }
def StoreAllUptoSaid : Prop := storeAllUptoRow.holds Tryz.pinned (OpenSpec.upto storeAllSpec)

/-- 'interrexlaw6.StoreReplay', WHERE WHAT IT READS IS OF BULK AT MOST 1048576: true; the input reads as it did. -/
def storeReplayUptoRow : OpenClaim := { program := "ytaleceobkbgcnaagreat", sum := "2d71fb3558b2714e86858bb916d261c3e10a8dd28ff1201bb38f373e1384c957", func := "interrex/interrexlaw6.StoreReplay", spec := "storeReplay", inPlace := ["sync/atomic.AddInt64"], unfollowed := true, recurses := true, apart := false, narrowed := true }
def StoreReplayUptoSaid : Prop := storeReplayUptoRow.holds Tryz.pinned (OpenSpec.upto storeReplaySpec)

/-- 'interrexlaw6.StoreWhole', WHERE WHAT IT READS IS OF BULK AT MOST 1048576: true; the input reads as it did. -/
def storeWholeUptoRow : OpenClaim := { program := "ytaleceobkbgcnaagreat", sum := "2d71fb3558b2714e86858bb916d261c3e10a8dd28ff1201bb38f373e1384c957", func := "interrex/interrexlaw6.StoreWhole", spec := "storeWhole", inPlace := ["sync/atomic.AddInt64"], unfollowed := true, recurses := true, apart := false, narrowed := true }
def StoreWholeUptoSaid : Prop := storeWholeUptoRow.holds Tryz.pinned (OpenSpec.upto storeWholeSpec)

/-- 'interrexlaw6.StoreGuards', WHERE WHAT IT READS IS OF BULK AT MOST 1048576: true; the input reads as it did. -/
def storeGuardsUptoRow : OpenClaim := { program := "ytaleceobkbgcnaagreat", sum := "2d71fb3558b2714e86858bb916d261c3e10a8dd28ff1201bb38f373e1384c957", func := "interrex/interrexlaw6.StoreGuards", spec := "storeGuards", inPlace := ["sync/atomic.AddInt64"], unfollowed := true, recurses := true, apart := false, narrowed := true }
def StoreGuardsUptoSaid : Prop := storeGuardsUptoRow.holds Tryz.pinned (OpenSpec.upto storeGuardsSpec)

/-- 'interrexlaw6.StoreWatch', WHERE WHAT IT READS IS OF BULK AT MOST 1048576: true; the input reads as it did. -/
def storeWatchUptoRow : OpenClaim := { program := "ytaleceobkbgcnaagreat", sum := "2d71fb3558b2714e86858bb916d261c3e10a8dd28ff1201bb38f373e1384c957", func := "interrex/interrexlaw6.StoreWatch", spec := "storeWatch", inPlace := ["sync/atomic.AddInt64"], unfollowed := true, recurses := true, apart := false, narrowed := true }
def StoreWatchUptoSaid : Prop := storeWatchUptoRow.holds Tryz.pinned (OpenSpec.upto storeWatchSpec)

/-- 'interrexlaw6.ReplyOf', WHERE WHAT IT READS IS OF BULK AT MOST 1048576: true; the input reads as it did. -/
def replyOfUptoRow : OpenClaim := { program := "ytaleceobkbgcnaagreat", sum := "2d71fb3558b2714e86858bb916d261c3e10a8dd28ff1201bb38f373e1384c957", func := "interrex/interrexlaw6.ReplyOf", spec := "replyOf", inPlace := ["sync/atomic.AddInt64"], unfollowed := true, recurses := true, apart := false, narrowed := true }
def ReplyOfUptoSaid : Prop := replyOfUptoRow.holds Tryz.pinned (OpenSpec.upto replyOfSpec)

/-- 'interrexlaw6.ReplyTwice', WHERE WHAT IT READS IS OF BULK AT MOST 1048576: true; the input reads as it did. -/
def replyTwiceUptoRow : OpenClaim := { program := "ytaleceobkbgcnaagreat", sum := "2d71fb3558b2714e86858bb916d261c3e10a8dd28ff1201bb38f373e1384c957", func := "interrex/interrexlaw6.ReplyTwice", spec := "replyTwice", inPlace := ["sync/atomic.AddInt64"], unfollowed := true, recurses := true, apart := false, narrowed := true }
def ReplyTwiceUptoSaid : Prop := replyTwiceUptoRow.holds Tryz.pinned (OpenSpec.upto replyTwiceSpec)

end Rows
end Go.Proofs.YtaleceobkbgcnaaGreat
