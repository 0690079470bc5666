/-
  No cell of these rows narrows 'for every input' (looked for: loops, veiled, ifaces, maps, wideKeys, modest, calm, conditions, laid).
  DERIVED. THE GIVEN ROWS OF THIS SEAT. 20 by the template 'for every input the law returns true; each argument reads behind the call as it read before'; 0 by the template 'total and deterministic' (their statements: YtcckpiehpjiniaaTotals.lean).
  GIVEN WITH THE SEED: the statements are not yours to turn. If you find one false, say at which input.
  Laid BY PROGRAM, IN A SANDBOX (cutbox-rows.mjs): the forced cells as the released guide's own fill.sh prints them over the translation e0293004145205e5… (all of the seat's roots in one cut). By AI agents, Wed Nov 11 2026. No macro, syntax, notation, axiom, sorry.
-/
import Derived.Test.YtcckpiehpjiniaaChecked
import GoSem.Claim
import GoSem.ClaimJoined
import GoSem.ClaimMapViews
import Derived.JoinedTies
import Derived.KernelRfl
namespace Go.Proofs.Ytcckpiehpjiniaa
/- THE CELL 'sum', in the pinned program and in every row, IS THE sha256 OF THE DUMP (.gsa) THAT YtcckpiehpjiniaaProg.lean LOADS. Nothing in Lean hashes anything: it is a label: what it is worth is what the hold of that sum in a sandbox is worth. -/
noncomputable def Try.pinned : Pinned := { name := "ytcckpiehpjiniaa", sum := "e0293004145205e56a68ff75549f458aa82d180ffa48a9fd2aa02ae887f481cb", checked := Try.checked }
namespace Rows
def none {H : Type} : Left H := { results := [], args := [] }

/-- 'laws.FnExactBorderWord': WHATEVER THE INPUT: true; the input reads as it did. -/
def fnExactBorderWordSpec : ChangeSpec := { name := "fnExactBorderWord", fn := fun _ => fun
  | [d] => { results := [.lit (.bool true)], args := [d] }
  | _ => none }
def fnExactBorderWordRow : OpenClaim := { program := "ytcckpiehpjiniaa", sum := "e0293004145205e56a68ff75549f458aa82d180ffa48a9fd2aa02ae887f481cb", func := "loop.example/g01136/laws.FnExactBorderWord", spec := "fnExactBorderWord", inPlace := ["internal/abi.NoEscape"], unfollowed := true, recurses := true, apart := false }
def FnExactBorderWordSaid : Prop := fnExactBorderWordRow.holds Try.pinned (OpenSpec.ofChange fnExactBorderWordSpec)

/-- ITS FALSE NEIGHBOUR: 'it returns false'. Refute it at one input. -/
def fnExactBorderWordWrong : ChangeSpec := { name := "fnExactBorderWord", fn := fun _ => fun
  | [d] => { results := [.lit (.bool false)], args := [d] }
  | _ => none }
def FnExactBorderWordWrongFalsely : Prop := fnExactBorderWordRow.holds Try.pinned (OpenSpec.ofChange fnExactBorderWordWrong)

/-- 'laws.FnExactFromBorder': WHATEVER THE INPUT: true; the input reads as it did. -/
def fnExactFromBorderSpec : ChangeSpec := { name := "fnExactFromBorder", fn := fun _ => fun
  | [d] => { results := [.lit (.bool true)], args := [d] }
  | _ => none }
def fnExactFromBorderRow : OpenClaim := { program := "ytcckpiehpjiniaa", sum := "e0293004145205e56a68ff75549f458aa82d180ffa48a9fd2aa02ae887f481cb", func := "loop.example/g01136/laws.FnExactFromBorder", spec := "fnExactFromBorder", unfollowed := true, recurses := true, apart := false }
def FnExactFromBorderSaid : Prop := fnExactFromBorderRow.holds Try.pinned (OpenSpec.ofChange fnExactFromBorderSpec)

/-- ITS FALSE NEIGHBOUR: 'it returns false'. Refute it at one input. -/
def fnExactFromBorderWrong : ChangeSpec := { name := "fnExactFromBorder", fn := fun _ => fun
  | [d] => { results := [.lit (.bool false)], args := [d] }
  | _ => none }
def FnExactFromBorderWrongFalsely : Prop := fnExactFromBorderRow.holds Try.pinned (OpenSpec.ofChange fnExactFromBorderWrong)

/-- 'laws.FnExactRimHook': WHATEVER THE INPUT: true; the input reads as it did. -/
def fnExactRimHookSpec : ChangeSpec := { name := "fnExactRimHook", fn := fun _ => fun
  | [d1, d2, d3] => { results := [.lit (.bool true)], args := [d1, d2, d3] }
  | _ => none }
def fnExactRimHookRow : OpenClaim := { program := "ytcckpiehpjiniaa", sum := "e0293004145205e56a68ff75549f458aa82d180ffa48a9fd2aa02ae887f481cb", func := "loop.example/g01136/laws.FnExactRimHook", spec := "fnExactRimHook", unfollowed := true, recurses := true, apart := false }
def FnExactRimHookSaid : Prop := fnExactRimHookRow.holds Try.pinned (OpenSpec.ofChange fnExactRimHookSpec)

/-- ITS FALSE NEIGHBOUR: 'it returns false'. Refute it at one input. -/
def fnExactRimHookWrong : ChangeSpec := { name := "fnExactRimHook", fn := fun _ => fun
  | [d1, d2, d3] => { results := [.lit (.bool false)], args := [d1, d2, d3] }
  | _ => none }
def FnExactRimHookWrongFalsely : Prop := fnExactRimHookRow.holds Try.pinned (OpenSpec.ofChange fnExactRimHookWrong)

/-- 'laws.FnExactWithoutRim': WHATEVER THE INPUT: true; the input reads as it did. -/
def fnExactWithoutRimSpec : ChangeSpec := { name := "fnExactWithoutRim", fn := fun _ => fun
  | [d1, d2, d3] => { results := [.lit (.bool true)], args := [d1, d2, d3] }
  | _ => none }
def fnExactWithoutRimRow : OpenClaim := { program := "ytcckpiehpjiniaa", sum := "e0293004145205e56a68ff75549f458aa82d180ffa48a9fd2aa02ae887f481cb", func := "loop.example/g01136/laws.FnExactWithoutRim", spec := "fnExactWithoutRim", unfollowed := true, recurses := true, apart := false }
def FnExactWithoutRimSaid : Prop := fnExactWithoutRimRow.holds Try.pinned (OpenSpec.ofChange fnExactWithoutRimSpec)

/-- ITS FALSE NEIGHBOUR: 'it returns false'. Refute it at one input. -/
def fnExactWithoutRimWrong : ChangeSpec := { name := "fnExactWithoutRim", fn := fun _ => fun
  | [d1, d2, d3] => { results := [.lit (.bool false)], args := [d1, d2, d3] }
  | _ => none }
def FnExactWithoutRimWrongFalsely : Prop := fnExactWithoutRimRow.holds Try.pinned (OpenSpec.ofChange fnExactWithoutRimWrong)

/-- 'laws.FnExactAreBeads': WHATEVER THE INPUT: true; the input reads as it did. -/
def fnExactAreBeadsSpec : ChangeSpec := { name := "fnExactAreBeads", fn := fun _ => fun
  | [d] => { results := [.lit (.bool true)], args := [d] }
  | _ => none }
def fnExactAreBeadsRow : OpenClaim := { program := "ytcckpiehpjiniaa", sum := "e0293004145205e56a68ff75549f458aa82d180ffa48a9fd2aa02ae887f481cb", func := "loop.example/g01136/laws.FnExactAreBeads", spec := "fnExactAreBeads", unfollowed := true, recurses := true, apart := false }
def FnExactAreBeadsSaid : Prop := fnExactAreBeadsRow.holds Try.pinned (OpenSpec.ofChange fnExactAreBeadsSpec)

/-- ITS FALSE NEIGHBOUR: 'it returns false'. Refute it at one input. -/
def fnExactAreBeadsWrong : ChangeSpec := { name := "fnExactAreBeads", fn := fun _ => fun
  | [d] => { results := [.lit (.bool false)], args := [d] }
  | _ => none }
def FnExactAreBeadsWrongFalsely : Prop := fnExactAreBeadsRow.holds Try.pinned (OpenSpec.ofChange fnExactAreBeadsWrong)

/-- 'laws.FnExactBeadsOf': WHATEVER THE INPUT: true; the input reads as it did. -/
def fnExactBeadsOfSpec : ChangeSpec := { name := "fnExactBeadsOf", fn := fun _ => fun
  | [d1, d2] => { results := [.lit (.bool true)], args := [d1, d2] }
  | _ => none }
def fnExactBeadsOfRow : OpenClaim := { program := "ytcckpiehpjiniaa", sum := "e0293004145205e56a68ff75549f458aa82d180ffa48a9fd2aa02ae887f481cb", func := "loop.example/g01136/laws.FnExactBeadsOf", spec := "fnExactBeadsOf", unfollowed := true, recurses := true, apart := false }
def FnExactBeadsOfSaid : Prop := fnExactBeadsOfRow.holds Try.pinned (OpenSpec.ofChange fnExactBeadsOfSpec)

/-- ITS FALSE NEIGHBOUR: 'it returns false'. Refute it at one input. -/
def fnExactBeadsOfWrong : ChangeSpec := { name := "fnExactBeadsOf", fn := fun _ => fun
  | [d1, d2] => { results := [.lit (.bool false)], args := [d1, d2] }
  | _ => none }
def FnExactBeadsOfWrongFalsely : Prop := fnExactBeadsOfRow.holds Try.pinned (OpenSpec.ofChange fnExactBeadsOfWrong)

/-- 'laws.FnExactFromBeads': WHATEVER THE INPUT: true; the input reads as it did. -/
def fnExactFromBeadsSpec : ChangeSpec := { name := "fnExactFromBeads", fn := fun _ => fun
  | [d] => { results := [.lit (.bool true)], args := [d] }
  | _ => none }
def fnExactFromBeadsRow : OpenClaim := { program := "ytcckpiehpjiniaa", sum := "e0293004145205e56a68ff75549f458aa82d180ffa48a9fd2aa02ae887f481cb", func := "loop.example/g01136/laws.FnExactFromBeads", spec := "fnExactFromBeads", unfollowed := true, recurses := true, apart := false }
def FnExactFromBeadsSaid : Prop := fnExactFromBeadsRow.holds Try.pinned (OpenSpec.ofChange fnExactFromBeadsSpec)

/-- ITS FALSE NEIGHBOUR: 'it returns false'. Refute it at one input. -/
def fnExactFromBeadsWrong : ChangeSpec := { name := "fnExactFromBeads", fn := fun _ => fun
  | [d] => { results := [.lit (.bool false)], args := [d] }
  | _ => none }
def FnExactFromBeadsWrongFalsely : Prop := fnExactFromBeadsRow.holds Try.pinned (OpenSpec.ofChange fnExactFromBeadsWrong)

/-- 'laws.FnExactShiftBeads': WHATEVER THE INPUT: true; the input reads as it did. -/
def fnExactShiftBeadsSpec : ChangeSpec := { name := "fnExactShiftBeads", fn := fun _ => fun
  | [d1, d2] => { results := [.lit (.bool true)], args := [d1, d2] }
  | _ => none }
def fnExactShiftBeadsRow : OpenClaim := { program := "ytcckpiehpjiniaa", sum := "e0293004145205e56a68ff75549f458aa82d180ffa48a9fd2aa02ae887f481cb", func := "loop.example/g01136/laws.FnExactShiftBeads", spec := "fnExactShiftBeads", unfollowed := true, recurses := true, apart := false }
def FnExactShiftBeadsSaid : Prop := fnExactShiftBeadsRow.holds Try.pinned (OpenSpec.ofChange fnExactShiftBeadsSpec)

/-- ITS FALSE NEIGHBOUR: 'it returns false'. Refute it at one input. -/
def fnExactShiftBeadsWrong : ChangeSpec := { name := "fnExactShiftBeads", fn := fun _ => fun
  | [d1, d2] => { results := [.lit (.bool false)], args := [d1, d2] }
  | _ => none }
def FnExactShiftBeadsWrongFalsely : Prop := fnExactShiftBeadsRow.holds Try.pinned (OpenSpec.ofChange fnExactShiftBeadsWrong)

/-- 'laws.FnExactLeastBeads': WHATEVER THE INPUT: true; the input reads as it did. -/
def fnExactLeastBeadsSpec : ChangeSpec := { name := "fnExactLeastBeads", fn := fun _ => fun
  | [d] => { results := [.lit (.bool true)], args := [d] }
  | _ => none }
def fnExactLeastBeadsRow : OpenClaim := { program := "ytcckpiehpjiniaa", sum := "e0293004145205e56a68ff75549f458aa82d180ffa48a9fd2aa02ae887f481cb", func := "loop.example/g01136/laws.FnExactLeastBeads", spec := "fnExactLeastBeads", unfollowed := true, recurses := true, apart := false }
def FnExactLeastBeadsSaid : Prop := fnExactLeastBeadsRow.holds Try.pinned (OpenSpec.ofChange fnExactLeastBeadsSpec)

/-- ITS FALSE NEIGHBOUR: 'it returns false'. Refute it at one input. -/
def fnExactLeastBeadsWrong : ChangeSpec := { name := "fnExactLeastBeads", fn := fun _ => fun
  | [d] => { results := [.lit (.bool false)], args := [d] }
  | _ => none }
def FnExactLeastBeadsWrongFalsely : Prop := fnExactLeastBeadsRow.holds Try.pinned (OpenSpec.ofChange fnExactLeastBeadsWrong)

/-- 'laws.FnExactIsAbacus': WHATEVER THE INPUT: true; the input reads as it did. -/
def fnExactIsAbacusSpec : ChangeSpec := { name := "fnExactIsAbacus", fn := fun _ => fun
  | [d] => { results := [.lit (.bool true)], args := [d] }
  | _ => none }
def fnExactIsAbacusRow : OpenClaim := { program := "ytcckpiehpjiniaa", sum := "e0293004145205e56a68ff75549f458aa82d180ffa48a9fd2aa02ae887f481cb", func := "loop.example/g01136/laws.FnExactIsAbacus", spec := "fnExactIsAbacus", unfollowed := true, recurses := true, apart := false }
def FnExactIsAbacusSaid : Prop := fnExactIsAbacusRow.holds Try.pinned (OpenSpec.ofChange fnExactIsAbacusSpec)

/-- ITS FALSE NEIGHBOUR: 'it returns false'. Refute it at one input. -/
def fnExactIsAbacusWrong : ChangeSpec := { name := "fnExactIsAbacus", fn := fun _ => fun
  | [d] => { results := [.lit (.bool false)], args := [d] }
  | _ => none }
def FnExactIsAbacusWrongFalsely : Prop := fnExactIsAbacusRow.holds Try.pinned (OpenSpec.ofChange fnExactIsAbacusWrong)

/-- 'laws.FnExactAbacusOf': WHATEVER THE INPUT: true; the input reads as it did. -/
def fnExactAbacusOfSpec : ChangeSpec := { name := "fnExactAbacusOf", fn := fun _ => fun
  | [d1, d2, d3] => { results := [.lit (.bool true)], args := [d1, d2, d3] }
  | _ => none }
def fnExactAbacusOfRow : OpenClaim := { program := "ytcckpiehpjiniaa", sum := "e0293004145205e56a68ff75549f458aa82d180ffa48a9fd2aa02ae887f481cb", func := "loop.example/g01136/laws.FnExactAbacusOf", spec := "fnExactAbacusOf", unfollowed := true, recurses := true, apart := false }
def FnExactAbacusOfSaid : Prop := fnExactAbacusOfRow.holds Try.pinned (OpenSpec.ofChange fnExactAbacusOfSpec)

/-- ITS FALSE NEIGHBOUR: 'it returns false'. Refute it at one input. -/
def fnExactAbacusOfWrong : ChangeSpec := { name := "fnExactAbacusOf", fn := fun _ => fun
  | [d1, d2, d3] => { results := [.lit (.bool false)], args := [d1, d2, d3] }
  | _ => none }
def FnExactAbacusOfWrongFalsely : Prop := fnExactAbacusOfRow.holds Try.pinned (OpenSpec.ofChange fnExactAbacusOfWrong)

/-- 'laws.FnExactRunnersOf': WHATEVER THE INPUT: true; the input reads as it did. -/
def fnExactRunnersOfSpec : ChangeSpec := { name := "fnExactRunnersOf", fn := fun _ => fun
  | [d] => { results := [.lit (.bool true)], args := [d] }
  | _ => none }
def fnExactRunnersOfRow : OpenClaim := { program := "ytcckpiehpjiniaa", sum := "e0293004145205e56a68ff75549f458aa82d180ffa48a9fd2aa02ae887f481cb", func := "loop.example/g01136/laws.FnExactRunnersOf", spec := "fnExactRunnersOf", unfollowed := true, recurses := true, apart := false }
def FnExactRunnersOfSaid : Prop := fnExactRunnersOfRow.holds Try.pinned (OpenSpec.ofChange fnExactRunnersOfSpec)

/-- ITS FALSE NEIGHBOUR: 'it returns false'. Refute it at one input. -/
def fnExactRunnersOfWrong : ChangeSpec := { name := "fnExactRunnersOf", fn := fun _ => fun
  | [d] => { results := [.lit (.bool false)], args := [d] }
  | _ => none }
def FnExactRunnersOfWrongFalsely : Prop := fnExactRunnersOfRow.holds Try.pinned (OpenSpec.ofChange fnExactRunnersOfWrong)

/-- 'laws.FnExactFromRunners': WHATEVER THE INPUT: true; the input reads as it did. -/
def fnExactFromRunnersSpec : ChangeSpec := { name := "fnExactFromRunners", fn := fun _ => fun
  | [d] => { results := [.lit (.bool true)], args := [d] }
  | _ => none }
def fnExactFromRunnersRow : OpenClaim := { program := "ytcckpiehpjiniaa", sum := "e0293004145205e56a68ff75549f458aa82d180ffa48a9fd2aa02ae887f481cb", func := "loop.example/g01136/laws.FnExactFromRunners", spec := "fnExactFromRunners", unfollowed := true, recurses := true, apart := false }
def FnExactFromRunnersSaid : Prop := fnExactFromRunnersRow.holds Try.pinned (OpenSpec.ofChange fnExactFromRunnersSpec)

/-- ITS FALSE NEIGHBOUR: 'it returns false'. Refute it at one input. -/
def fnExactFromRunnersWrong : ChangeSpec := { name := "fnExactFromRunners", fn := fun _ => fun
  | [d] => { results := [.lit (.bool false)], args := [d] }
  | _ => none }
def FnExactFromRunnersWrongFalsely : Prop := fnExactFromRunnersRow.holds Try.pinned (OpenSpec.ofChange fnExactFromRunnersWrong)

/-- 'laws.FnExactCountsOf': WHATEVER THE INPUT: true; the input reads as it did. -/
def fnExactCountsOfSpec : ChangeSpec := { name := "fnExactCountsOf", fn := fun _ => fun
  | [d] => { results := [.lit (.bool true)], args := [d] }
  | _ => none }
def fnExactCountsOfRow : OpenClaim := { program := "ytcckpiehpjiniaa", sum := "e0293004145205e56a68ff75549f458aa82d180ffa48a9fd2aa02ae887f481cb", func := "loop.example/g01136/laws.FnExactCountsOf", spec := "fnExactCountsOf", unfollowed := true, recurses := true, apart := false }
def FnExactCountsOfSaid : Prop := fnExactCountsOfRow.holds Try.pinned (OpenSpec.ofChange fnExactCountsOfSpec)

/-- ITS FALSE NEIGHBOUR: 'it returns false'. Refute it at one input. -/
def fnExactCountsOfWrong : ChangeSpec := { name := "fnExactCountsOf", fn := fun _ => fun
  | [d] => { results := [.lit (.bool false)], args := [d] }
  | _ => none }
def FnExactCountsOfWrongFalsely : Prop := fnExactCountsOfRow.holds Try.pinned (OpenSpec.ofChange fnExactCountsOfWrong)

/-- 'laws.FnExactMoveBead': WHATEVER THE INPUT: true; the input reads as it did. -/
def fnExactMoveBeadSpec : ChangeSpec := { name := "fnExactMoveBead", fn := fun _ => fun
  | [d1, d2] => { results := [.lit (.bool true)], args := [d1, d2] }
  | _ => none }
def fnExactMoveBeadRow : OpenClaim := { program := "ytcckpiehpjiniaa", sum := "e0293004145205e56a68ff75549f458aa82d180ffa48a9fd2aa02ae887f481cb", func := "loop.example/g01136/laws.FnExactMoveBead", spec := "fnExactMoveBead", unfollowed := true, recurses := true, apart := false }
def FnExactMoveBeadSaid : Prop := fnExactMoveBeadRow.holds Try.pinned (OpenSpec.ofChange fnExactMoveBeadSpec)

/-- ITS FALSE NEIGHBOUR: 'it returns false'. Refute it at one input. -/
def fnExactMoveBeadWrong : ChangeSpec := { name := "fnExactMoveBead", fn := fun _ => fun
  | [d1, d2] => { results := [.lit (.bool false)], args := [d1, d2] }
  | _ => none }
def FnExactMoveBeadWrongFalsely : Prop := fnExactMoveBeadRow.holds Try.pinned (OpenSpec.ofChange fnExactMoveBeadWrong)

/-- 'laws.FnExactLiftBead': WHATEVER THE INPUT: true; the input reads as it did. -/
def fnExactLiftBeadSpec : ChangeSpec := { name := "fnExactLiftBead", fn := fun _ => fun
  | [d1, d2] => { results := [.lit (.bool true)], args := [d1, d2] }
  | _ => none }
def fnExactLiftBeadRow : OpenClaim := { program := "ytcckpiehpjiniaa", sum := "e0293004145205e56a68ff75549f458aa82d180ffa48a9fd2aa02ae887f481cb", func := "loop.example/g01136/laws.FnExactLiftBead", spec := "fnExactLiftBead", unfollowed := true, recurses := true, apart := false }
def FnExactLiftBeadSaid : Prop := fnExactLiftBeadRow.holds Try.pinned (OpenSpec.ofChange fnExactLiftBeadSpec)

/-- ITS FALSE NEIGHBOUR: 'it returns false'. Refute it at one input. -/
def fnExactLiftBeadWrong : ChangeSpec := { name := "fnExactLiftBead", fn := fun _ => fun
  | [d1, d2] => { results := [.lit (.bool false)], args := [d1, d2] }
  | _ => none }
def FnExactLiftBeadWrongFalsely : Prop := fnExactLiftBeadRow.holds Try.pinned (OpenSpec.ofChange fnExactLiftBeadWrong)

/-- 'laws.FnExactPushDown': WHATEVER THE INPUT: true; the input reads as it did. -/
def fnExactPushDownSpec : ChangeSpec := { name := "fnExactPushDown", fn := fun _ => fun
  | [d] => { results := [.lit (.bool true)], args := [d] }
  | _ => none }
def fnExactPushDownRow : OpenClaim := { program := "ytcckpiehpjiniaa", sum := "e0293004145205e56a68ff75549f458aa82d180ffa48a9fd2aa02ae887f481cb", func := "loop.example/g01136/laws.FnExactPushDown", spec := "fnExactPushDown", unfollowed := true, recurses := true, apart := false }
def FnExactPushDownSaid : Prop := fnExactPushDownRow.holds Try.pinned (OpenSpec.ofChange fnExactPushDownSpec)

/-- ITS FALSE NEIGHBOUR: 'it returns false'. Refute it at one input. -/
def fnExactPushDownWrong : ChangeSpec := { name := "fnExactPushDown", fn := fun _ => fun
  | [d] => { results := [.lit (.bool false)], args := [d] }
  | _ => none }
def FnExactPushDownWrongFalsely : Prop := fnExactPushDownRow.holds Try.pinned (OpenSpec.ofChange fnExactPushDownWrong)

/-- 'laws.FnExactMovableBeads': WHATEVER THE INPUT: true; the input reads as it did. -/
def fnExactMovableBeadsSpec : ChangeSpec := { name := "fnExactMovableBeads", fn := fun _ => fun
  | [d] => { results := [.lit (.bool true)], args := [d] }
  | _ => none }
def fnExactMovableBeadsRow : OpenClaim := { program := "ytcckpiehpjiniaa", sum := "e0293004145205e56a68ff75549f458aa82d180ffa48a9fd2aa02ae887f481cb", func := "loop.example/g01136/laws.FnExactMovableBeads", spec := "fnExactMovableBeads", unfollowed := true, recurses := true, apart := false }
def FnExactMovableBeadsSaid : Prop := fnExactMovableBeadsRow.holds Try.pinned (OpenSpec.ofChange fnExactMovableBeadsSpec)

/-- ITS FALSE NEIGHBOUR: 'it returns false'. Refute it at one input. -/
def fnExactMovableBeadsWrong : ChangeSpec := { name := "fnExactMovableBeads", fn := fun _ => fun
  | [d] => { results := [.lit (.bool false)], args := [d] }
  | _ => none }
def FnExactMovableBeadsWrongFalsely : Prop := fnExactMovableBeadsRow.holds Try.pinned (OpenSpec.ofChange fnExactMovableBeadsWrong)

/-- 'laws.FnExactMayaOf': WHATEVER THE INPUT: true; the input reads as it did. -/
def fnExactMayaOfSpec : ChangeSpec := { name := "fnExactMayaOf", fn := fun _ => fun
  | [d] => { results := [.lit (.bool true)], args := [d] }
  | _ => none }
def fnExactMayaOfRow : OpenClaim := { program := "ytcckpiehpjiniaa", sum := "e0293004145205e56a68ff75549f458aa82d180ffa48a9fd2aa02ae887f481cb", func := "loop.example/g01136/laws.FnExactMayaOf", spec := "fnExactMayaOf", unfollowed := true, recurses := true, apart := false }
def FnExactMayaOfSaid : Prop := fnExactMayaOfRow.holds Try.pinned (OpenSpec.ofChange fnExactMayaOfSpec)

/-- ITS FALSE NEIGHBOUR: 'it returns false'. Refute it at one input. -/
def fnExactMayaOfWrong : ChangeSpec := { name := "fnExactMayaOf", fn := fun _ => fun
  | [d] => { results := [.lit (.bool false)], args := [d] }
  | _ => none }
def FnExactMayaOfWrongFalsely : Prop := fnExactMayaOfRow.holds Try.pinned (OpenSpec.ofChange fnExactMayaOfWrong)

/-- 'laws.FnExactFromMaya': WHATEVER THE INPUT: true; the input reads as it did. -/
def fnExactFromMayaSpec : ChangeSpec := { name := "fnExactFromMaya", fn := fun _ => fun
  | [d] => { results := [.lit (.bool true)], args := [d] }
  | _ => none }
def fnExactFromMayaRow : OpenClaim := { program := "ytcckpiehpjiniaa", sum := "e0293004145205e56a68ff75549f458aa82d180ffa48a9fd2aa02ae887f481cb", func := "loop.example/g01136/laws.FnExactFromMaya", spec := "fnExactFromMaya", unfollowed := true, recurses := true, apart := false }
def FnExactFromMayaSaid : Prop := fnExactFromMayaRow.holds Try.pinned (OpenSpec.ofChange fnExactFromMayaSpec)

/-- ITS FALSE NEIGHBOUR: 'it returns false'. Refute it at one input. -/
def fnExactFromMayaWrong : ChangeSpec := { name := "fnExactFromMaya", fn := fun _ => fun
  | [d] => { results := [.lit (.bool false)], args := [d] }
  | _ => none }
def FnExactFromMayaWrongFalsely : Prop := fnExactFromMayaRow.holds Try.pinned (OpenSpec.ofChange fnExactFromMayaWrong)

/- THE SECOND FORM. 'bulk': how many values and letters a reading holds, each counted each time it is reached (what is shared counts as often as it is met; a slice's spare places count too). A statement '..UptoSaid' is the law's where the arguments, and the package variables that the reading takes, are together of bulk at most 1048576: NARROWER than '..Said'. Prove '..Said' where nothing that the law and all that it calls make is longer than what came in: it says more and counts as full. Else prove '..UptoSaid'. A law counts once. -/
mutual
def uptoBulk {H : Type} : DataW H → Nat
  | .lit (.string bytes) => bytes.length + 1
  | .lit _ => 1
  | .nil => 1
  | .ptr d => uptoBulk d + 1
  | .slice elems spare => uptoBulkAll elems + uptoBulkAll spare + 1
  | .agg parts => uptoBulkAll parts + 1
  | .iface _ d => uptoBulk d + 1
  | .map entries => uptoBulkEntries entries + 1
  | .held _ => 1
def uptoBulkAll {H : Type} : List (DataW H) → Nat
  | [] => 0
  | d :: r => uptoBulk d + uptoBulkAll r
def uptoBulkEntries {H : Type} : List (Lit × DataW H) → Nat
  | [] => 0
  | x :: r => uptoBulkEntry x + uptoBulkEntries r
def uptoBulkEntry {H : Type} : Lit × DataW H → Nat
  | (.string bytes, d) => bytes.length + uptoBulk d + 1
  | (_, d) => uptoBulk d + 1
 end
def uptoSmall : (H : Type) → List (DataW H) → Bool := fun _ ds => decide (uptoBulkAll ds ≤ 1048576)
def OpenSpec.upto (s : _root_.Go.ChangeSpec) : _root_.Go.OpenSpec := { _root_.Go.OpenSpec.ofChange s with cond := some uptoSmall }

/-- 'laws.FnExactBorderWord', WHERE WHAT IT READS IS OF BULK AT MOST 1048576: true; the input reads as it did. -/
def fnExactBorderWordUptoRow : OpenClaim := { program := "ytcckpiehpjiniaa", sum := "e0293004145205e56a68ff75549f458aa82d180ffa48a9fd2aa02ae887f481cb", func := "loop.example/g01136/laws.FnExactBorderWord", spec := "fnExactBorderWord", inPlace := ["internal/abi.NoEscape"], unfollowed := true, recurses := true, apart := false, narrowed := true }
def FnExactBorderWordUptoSaid : Prop := fnExactBorderWordUptoRow.holds Try.pinned (OpenSpec.upto fnExactBorderWordSpec)

/-- 'laws.FnExactFromBorder', WHERE WHAT IT READS IS OF BULK AT MOST 1048576: true; the input reads as it did. -/
def fnExactFromBorderUptoRow : OpenClaim := { program := "ytcckpiehpjiniaa", sum := "e0293004145205e56a68ff75549f458aa82d180ffa48a9fd2aa02ae887f481cb", func := "loop.example/g01136/laws.FnExactFromBorder", spec := "fnExactFromBorder", unfollowed := true, recurses := true, apart := false, narrowed := true }
def FnExactFromBorderUptoSaid : Prop := fnExactFromBorderUptoRow.holds Try.pinned (OpenSpec.upto fnExactFromBorderSpec)

/-- 'laws.FnExactRimHook', WHERE WHAT IT READS IS OF BULK AT MOST 1048576: true; the input reads as it did. -/
def fnExactRimHookUptoRow : OpenClaim := { program := "ytcckpiehpjiniaa", sum := "e0293004145205e56a68ff75549f458aa82d180ffa48a9fd2aa02ae887f481cb", func := "loop.example/g01136/laws.FnExactRimHook", spec := "fnExactRimHook", unfollowed := true, recurses := true, apart := false, narrowed := true }
def FnExactRimHookUptoSaid : Prop := fnExactRimHookUptoRow.holds Try.pinned (OpenSpec.upto fnExactRimHookSpec)

/-- 'laws.FnExactWithoutRim', WHERE WHAT IT READS IS OF BULK AT MOST 1048576: true; the input reads as it did. -/
def fnExactWithoutRimUptoRow : OpenClaim := { program := "ytcckpiehpjiniaa", sum := "e0293004145205e56a68ff75549f458aa82d180ffa48a9fd2aa02ae887f481cb", func := "loop.example/g01136/laws.FnExactWithoutRim", spec := "fnExactWithoutRim", unfollowed := true, recurses := true, apart := false, narrowed := true }
def FnExactWithoutRimUptoSaid : Prop := fnExactWithoutRimUptoRow.holds Try.pinned (OpenSpec.upto fnExactWithoutRimSpec)

/-- 'laws.FnExactAreBeads', WHERE WHAT IT READS IS OF BULK AT MOST 1048576: true; the input reads as it did. -/
def fnExactAreBeadsUptoRow : OpenClaim := { program := "ytcckpiehpjiniaa", sum := "e0293004145205e56a68ff75549f458aa82d180ffa48a9fd2aa02ae887f481cb", func := "loop.example/g01136/laws.FnExactAreBeads", spec := "fnExactAreBeads", unfollowed := true, recurses := true, apart := false, narrowed := true }
def FnExactAreBeadsUptoSaid : Prop := fnExactAreBeadsUptoRow.holds Try.pinned (OpenSpec.upto fnExactAreBeadsSpec)

/-- 'laws.FnExactBeadsOf', WHERE WHAT IT READS IS OF BULK AT MOST 1048576: true; the input reads as it did. -/
def fnExactBeadsOfUptoRow : OpenClaim := { program := "ytcckpiehpjiniaa", sum := "e0293004145205e56a68ff75549f458aa82d180ffa48a9fd2aa02ae887f481cb", func := "loop.example/g01136/laws.FnExactBeadsOf", spec := "fnExactBeadsOf", unfollowed := true, recurses := true, apart := false, narrowed := true }
def FnExactBeadsOfUptoSaid : Prop := fnExactBeadsOfUptoRow.holds Try.pinned (OpenSpec.upto fnExactBeadsOfSpec)

/-- 'laws.FnExactFromBeads', WHERE WHAT IT READS IS OF BULK AT MOST 1048576: true; the input reads as it did. -/
def fnExactFromBeadsUptoRow : OpenClaim := { program := "ytcckpiehpjiniaa", sum := "e0293004145205e56a68ff75549f458aa82d180ffa48a9fd2aa02ae887f481cb", func := "loop.example/g01136/laws.FnExactFromBeads", spec := "fnExactFromBeads", unfollowed := true, recurses := true, apart := false, narrowed := true }
def FnExactFromBeadsUptoSaid : Prop := fnExactFromBeadsUptoRow.holds Try.pinned (OpenSpec.upto fnExactFromBeadsSpec)

/-- 'laws.FnExactShiftBeads', WHERE WHAT IT READS IS OF BULK AT MOST 1048576: true; the input reads as it did. -/
def fnExactShiftBeadsUptoRow : OpenClaim := { program := "ytcckpiehpjiniaa", sum := "e0293004145205e56a68ff75549f458aa82d180ffa48a9fd2aa02ae887f481cb", func := "loop.example/g01136/laws.FnExactShiftBeads", spec := "fnExactShiftBeads", unfollowed := true, recurses := true, apart := false, narrowed := true }
def FnExactShiftBeadsUptoSaid : Prop := fnExactShiftBeadsUptoRow.holds Try.pinned (OpenSpec.upto fnExactShiftBeadsSpec)

/-- 'laws.FnExactLeastBeads', WHERE WHAT IT READS IS OF BULK AT MOST 1048576: true; the input reads as it did. -/
def fnExactLeastBeadsUptoRow : OpenClaim := { program := "ytcckpiehpjiniaa", sum := "e0293004145205e56a68ff75549f458aa82d180ffa48a9fd2aa02ae887f481cb", func := "loop.example/g01136/laws.FnExactLeastBeads", spec := "fnExactLeastBeads", unfollowed := true, recurses := true, apart := false, narrowed := true }
def FnExactLeastBeadsUptoSaid : Prop := fnExactLeastBeadsUptoRow.holds Try.pinned (OpenSpec.upto fnExactLeastBeadsSpec)

/-- 'laws.FnExactIsAbacus', WHERE WHAT IT READS IS OF BULK AT MOST 1048576: true; the input reads as it did. -/
def fnExactIsAbacusUptoRow : OpenClaim := { program := "ytcckpiehpjiniaa", sum := "e0293004145205e56a68ff75549f458aa82d180ffa48a9fd2aa02ae887f481cb", func := "loop.example/g01136/laws.FnExactIsAbacus", spec := "fnExactIsAbacus", unfollowed := true, recurses := true, apart := false, narrowed := true }
def FnExactIsAbacusUptoSaid : Prop := fnExactIsAbacusUptoRow.holds Try.pinned (OpenSpec.upto fnExactIsAbacusSpec)

/-- 'laws.FnExactAbacusOf', WHERE WHAT IT READS IS OF BULK AT MOST 1048576: true; the input reads as it did. -/
def fnExactAbacusOfUptoRow : OpenClaim := { program := "ytcckpiehpjiniaa", sum := "e0293004145205e56a68ff75549f458aa82d180ffa48a9fd2aa02ae887f481cb", func := "loop.example/g01136/laws.FnExactAbacusOf", spec := "fnExactAbacusOf", unfollowed := true, recurses := true, apart := false, narrowed := true }
def FnExactAbacusOfUptoSaid : Prop := fnExactAbacusOfUptoRow.holds Try.pinned (OpenSpec.upto fnExactAbacusOfSpec)

/-- 'laws.FnExactRunnersOf', WHERE WHAT IT READS IS OF BULK AT MOST 1048576: true; the input reads as it did. -/
def fnExactRunnersOfUptoRow : OpenClaim := { program := "ytcckpiehpjiniaa", sum := "e0293004145205e56a68ff75549f458aa82d180ffa48a9fd2aa02ae887f481cb", func := "loop.example/g01136/laws.FnExactRunnersOf", spec := "fnExactRunnersOf", unfollowed := true, recurses := true, apart := false, narrowed := true }
def FnExactRunnersOfUptoSaid : Prop := fnExactRunnersOfUptoRow.holds Try.pinned (OpenSpec.upto fnExactRunnersOfSpec)

/-- 'laws.FnExactFromRunners', WHERE WHAT IT READS IS OF BULK AT MOST 1048576: true; the input reads as it did. -/
def fnExactFromRunnersUptoRow : OpenClaim := { program := "ytcckpiehpjiniaa", sum := "e0293004145205e56a68ff75549f458aa82d180ffa48a9fd2aa02ae887f481cb", func := "loop.example/g01136/laws.FnExactFromRunners", spec := "fnExactFromRunners", unfollowed := true, recurses := true, apart := false, narrowed := true }
def FnExactFromRunnersUptoSaid : Prop := fnExactFromRunnersUptoRow.holds Try.pinned (OpenSpec.upto fnExactFromRunnersSpec)

/-- 'laws.FnExactCountsOf', WHERE WHAT IT READS IS OF BULK AT MOST 1048576: true; the input reads as it did. -/
def fnExactCountsOfUptoRow : OpenClaim := { program := "ytcckpiehpjiniaa", sum := "e0293004145205e56a68ff75549f458aa82d180ffa48a9fd2aa02ae887f481cb", func := "loop.example/g01136/laws.FnExactCountsOf", spec := "fnExactCountsOf", unfollowed := true, recurses := true, apart := false, narrowed := true }
def FnExactCountsOfUptoSaid : Prop := fnExactCountsOfUptoRow.holds Try.pinned (OpenSpec.upto fnExactCountsOfSpec)

/-- 'laws.FnExactMoveBead', WHERE WHAT IT READS IS OF BULK AT MOST 1048576: true; the input reads as it did. -/
def fnExactMoveBeadUptoRow : OpenClaim := { program := "ytcckpiehpjiniaa", sum := "e0293004145205e56a68ff75549f458aa82d180ffa48a9fd2aa02ae887f481cb", func := "loop.example/g01136/laws.FnExactMoveBead", spec := "fnExactMoveBead", unfollowed := true, recurses := true, apart := false, narrowed := true }
def FnExactMoveBeadUptoSaid : Prop := fnExactMoveBeadUptoRow.holds Try.pinned (OpenSpec.upto fnExactMoveBeadSpec)

/-- 'laws.FnExactLiftBead', WHERE WHAT IT READS IS OF BULK AT MOST 1048576: true; the input reads as it did. -/
def fnExactLiftBeadUptoRow : OpenClaim := { program := "ytcckpiehpjiniaa", sum := "e0293004145205e56a68ff75549f458aa82d180ffa48a9fd2aa02ae887f481cb", func := "loop.example/g01136/laws.FnExactLiftBead", spec := "fnExactLiftBead", unfollowed := true, recurses := true, apart := false, narrowed := true }
def FnExactLiftBeadUptoSaid : Prop := fnExactLiftBeadUptoRow.holds Try.pinned (OpenSpec.upto fnExactLiftBeadSpec)

/-- 'laws.FnExactPushDown', WHERE WHAT IT READS IS OF BULK AT MOST 1048576: true; the input reads as it did. -/
def fnExactPushDownUptoRow : OpenClaim := { program := "ytcckpiehpjiniaa", sum := "e0293004145205e56a68ff75549f458aa82d180ffa48a9fd2aa02ae887f481cb", func := "loop.example/g01136/laws.FnExactPushDown", spec := "fnExactPushDown", unfollowed := true, recurses := true, apart := false, narrowed := true }
def FnExactPushDownUptoSaid : Prop := fnExactPushDownUptoRow.holds Try.pinned (OpenSpec.upto fnExactPushDownSpec)

/-- 'laws.FnExactMovableBeads', WHERE WHAT IT READS IS OF BULK AT MOST 1048576: true; the input reads as it did. -/
def fnExactMovableBeadsUptoRow : OpenClaim := { program := "ytcckpiehpjiniaa", sum := "e0293004145205e56a68ff75549f458aa82d180ffa48a9fd2aa02ae887f481cb", func := "loop.example/g01136/laws.FnExactMovableBeads", spec := "fnExactMovableBeads", unfollowed := true, recurses := true, apart := false, narrowed := true }
def FnExactMovableBeadsUptoSaid : Prop := fnExactMovableBeadsUptoRow.holds Try.pinned (OpenSpec.upto fnExactMovableBeadsSpec)

/-- 'laws.FnExactMayaOf', WHERE WHAT IT READS IS OF BULK AT MOST 1048576: true; the input reads as it did. -/
def fnExactMayaOfUptoRow : OpenClaim := { program := "ytcckpiehpjiniaa", sum := "e0293004145205e56a68ff75549f458aa82d180ffa48a9fd2aa02ae887f481cb", func := "loop.example/g01136/laws.FnExactMayaOf", spec := "fnExactMayaOf", unfollowed := true, recurses := true, apart := false, narrowed := true }
def FnExactMayaOfUptoSaid : Prop := fnExactMayaOfUptoRow.holds Try.pinned (OpenSpec.upto fnExactMayaOfSpec)

/-- 'laws.FnExactFromMaya', WHERE WHAT IT READS IS OF BULK AT MOST 1048576: true; the input reads as it did. -/
def fnExactFromMayaUptoRow : OpenClaim := { program := "ytcckpiehpjiniaa", sum := "e0293004145205e56a68ff75549f458aa82d180ffa48a9fd2aa02ae887f481cb", func := "loop.example/g01136/laws.FnExactFromMaya", spec := "fnExactFromMaya", unfollowed := true, recurses := true, apart := false, narrowed := true }
def FnExactFromMayaUptoSaid : Prop := fnExactFromMayaUptoRow.holds Try.pinned (OpenSpec.upto fnExactFromMayaSpec)

end Rows
end Go.Proofs.Ytcckpiehpjiniaa
