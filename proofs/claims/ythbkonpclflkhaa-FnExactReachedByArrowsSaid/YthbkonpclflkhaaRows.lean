/-
  No cell of these rows narrows 'for every input' (looked for: loops, veiled, ifaces, maps, wideKeys, modest, calm, conditions, laid).
  DERIVED. THE GIVEN ROWS OF THIS SEAT. 19 by the template 'for every input the law returns true; each argument reads behind the call as it read before'; 0 by the template 'total and deterministic' (their statements: YthbkonpclflkhaaTotals.lean).
  GIVEN WITH THE SEED: the statements are not yours to turn. If you find one false, say at which input.
  Laid BY PROGRAM, IN A SANDBOX (cutbox-rows.mjs): the forced cells as the released guide's own fill.sh prints them over the translation b77bd74a77c81004… (all of the seat's roots in one cut). By AI agents, Wed Nov 11 2026. No macro, syntax, notation, axiom, sorry.
-/
import Derived.Test.YthbkonpclflkhaaChecked
import GoSem.Claim
import GoSem.ClaimJoined
import GoSem.ClaimMapViews
import Derived.JoinedTies
import Derived.KernelRfl
namespace Go.Proofs.Ythbkonpclflkhaa
/- THE CELL 'sum', in the pinned program and in every row, IS THE sha256 OF THE DUMP (.gsa) THAT YthbkonpclflkhaaProg.lean LOADS. Nothing in Lean hashes anything: it is a label: what it is worth is what the hold of that sum in a sandbox is worth. -/
noncomputable def Try.pinned : Pinned := { name := "ythbkonpclflkhaa", sum := "b77bd74a77c8100440c6c654e69ec3698dc671c8c2f0d40f951634bb99b6b4e4", checked := Try.checked }
namespace Rows
def none {H : Type} : Left H := { results := [], args := [] }

/-- 'laws.FnExactSignatureOf': WHATEVER THE INPUT: true; the input reads as it did. -/
def fnExactSignatureOfSpec : ChangeSpec := { name := "fnExactSignatureOf", fn := fun _ => fun
  | [d1, d2, d3] => { results := [.lit (.bool true)], args := [d1, d2, d3] }
  | _ => none }
def fnExactSignatureOfRow : OpenClaim := { program := "ythbkonpclflkhaa", sum := "b77bd74a77c8100440c6c654e69ec3698dc671c8c2f0d40f951634bb99b6b4e4", func := "loop.example/g01136/laws.FnExactSignatureOf", spec := "fnExactSignatureOf", unfollowed := true, recurses := true, apart := false }
def FnExactSignatureOfSaid : Prop := fnExactSignatureOfRow.holds Try.pinned (OpenSpec.ofChange fnExactSignatureOfSpec)

/-- ITS FALSE NEIGHBOUR: 'it returns false'. Refute it at one input. -/
def fnExactSignatureOfWrong : ChangeSpec := { name := "fnExactSignatureOf", fn := fun _ => fun
  | [d1, d2, d3] => { results := [.lit (.bool false)], args := [d1, d2, d3] }
  | _ => none }
def FnExactSignatureOfWrongFalsely : Prop := fnExactSignatureOfRow.holds Try.pinned (OpenSpec.ofChange fnExactSignatureOfWrong)

/-- 'laws.FnExactReducedSignature': WHATEVER THE INPUT: true; the input reads as it did. -/
def fnExactReducedSignatureSpec : ChangeSpec := { name := "fnExactReducedSignature", fn := fun _ => fun
  | [d] => { results := [.lit (.bool true)], args := [d] }
  | _ => none }
def fnExactReducedSignatureRow : OpenClaim := { program := "ythbkonpclflkhaa", sum := "b77bd74a77c8100440c6c654e69ec3698dc671c8c2f0d40f951634bb99b6b4e4", func := "loop.example/g01136/laws.FnExactReducedSignature", spec := "fnExactReducedSignature", apart := false }
def FnExactReducedSignatureSaid : Prop := fnExactReducedSignatureRow.holds Try.pinned (OpenSpec.ofChange fnExactReducedSignatureSpec)

/-- ITS FALSE NEIGHBOUR: 'it returns false'. Refute it at one input. -/
def fnExactReducedSignatureWrong : ChangeSpec := { name := "fnExactReducedSignature", fn := fun _ => fun
  | [d] => { results := [.lit (.bool false)], args := [d] }
  | _ => none }
def FnExactReducedSignatureWrongFalsely : Prop := fnExactReducedSignatureRow.holds Try.pinned (OpenSpec.ofChange fnExactReducedSignatureWrong)

/-- 'laws.FnExactArrowUp': WHATEVER THE INPUT: true; the input reads as it did. -/
def fnExactArrowUpSpec : ChangeSpec := { name := "fnExactArrowUp", fn := fun _ => fun
  | [d1, d2, d3] => { results := [.lit (.bool true)], args := [d1, d2, d3] }
  | _ => none }
def fnExactArrowUpRow : OpenClaim := { program := "ythbkonpclflkhaa", sum := "b77bd74a77c8100440c6c654e69ec3698dc671c8c2f0d40f951634bb99b6b4e4", func := "loop.example/g01136/laws.FnExactArrowUp", spec := "fnExactArrowUp", unfollowed := true, recurses := true, apart := false }
def FnExactArrowUpSaid : Prop := fnExactArrowUpRow.holds Try.pinned (OpenSpec.ofChange fnExactArrowUpSpec)

/-- ITS FALSE NEIGHBOUR: 'it returns false'. Refute it at one input. -/
def fnExactArrowUpWrong : ChangeSpec := { name := "fnExactArrowUp", fn := fun _ => fun
  | [d1, d2, d3] => { results := [.lit (.bool false)], args := [d1, d2, d3] }
  | _ => none }
def FnExactArrowUpWrongFalsely : Prop := fnExactArrowUpRow.holds Try.pinned (OpenSpec.ofChange fnExactArrowUpWrong)

/-- 'laws.FnExactArrowDown': WHATEVER THE INPUT: true; the input reads as it did. -/
def fnExactArrowDownSpec : ChangeSpec := { name := "fnExactArrowDown", fn := fun _ => fun
  | [d1, d2, d3] => { results := [.lit (.bool true)], args := [d1, d2, d3] }
  | _ => none }
def fnExactArrowDownRow : OpenClaim := { program := "ythbkonpclflkhaa", sum := "b77bd74a77c8100440c6c654e69ec3698dc671c8c2f0d40f951634bb99b6b4e4", func := "loop.example/g01136/laws.FnExactArrowDown", spec := "fnExactArrowDown", unfollowed := true, recurses := true, apart := false }
def FnExactArrowDownSaid : Prop := fnExactArrowDownRow.holds Try.pinned (OpenSpec.ofChange fnExactArrowDownSpec)

/-- ITS FALSE NEIGHBOUR: 'it returns false'. Refute it at one input. -/
def fnExactArrowDownWrong : ChangeSpec := { name := "fnExactArrowDown", fn := fun _ => fun
  | [d1, d2, d3] => { results := [.lit (.bool false)], args := [d1, d2, d3] }
  | _ => none }
def FnExactArrowDownWrongFalsely : Prop := fnExactArrowDownRow.holds Try.pinned (OpenSpec.ofChange fnExactArrowDownWrong)

/-- 'laws.FnExactArrowCounts': WHATEVER THE INPUT: true; the input reads as it did. -/
def fnExactArrowCountsSpec : ChangeSpec := { name := "fnExactArrowCounts", fn := fun _ => fun
  | [d1, d2, d3] => { results := [.lit (.bool true)], args := [d1, d2, d3] }
  | _ => none }
def fnExactArrowCountsRow : OpenClaim := { program := "ythbkonpclflkhaa", sum := "b77bd74a77c8100440c6c654e69ec3698dc671c8c2f0d40f951634bb99b6b4e4", func := "loop.example/g01136/laws.FnExactArrowCounts", spec := "fnExactArrowCounts", unfollowed := true, recurses := true, apart := false }
def FnExactArrowCountsSaid : Prop := fnExactArrowCountsRow.holds Try.pinned (OpenSpec.ofChange fnExactArrowCountsSpec)

/-- ITS FALSE NEIGHBOUR: 'it returns false'. Refute it at one input. -/
def fnExactArrowCountsWrong : ChangeSpec := { name := "fnExactArrowCounts", fn := fun _ => fun
  | [d1, d2, d3] => { results := [.lit (.bool false)], args := [d1, d2, d3] }
  | _ => none }
def FnExactArrowCountsWrongFalsely : Prop := fnExactArrowCountsRow.holds Try.pinned (OpenSpec.ofChange fnExactArrowCountsWrong)

/-- 'laws.FnExactIsRegular': WHATEVER THE INPUT: true; the input reads as it did. -/
def fnExactIsRegularSpec : ChangeSpec := { name := "fnExactIsRegular", fn := fun _ => fun
  | [d1, d2] => { results := [.lit (.bool true)], args := [d1, d2] }
  | _ => none }
def fnExactIsRegularRow : OpenClaim := { program := "ythbkonpclflkhaa", sum := "b77bd74a77c8100440c6c654e69ec3698dc671c8c2f0d40f951634bb99b6b4e4", func := "loop.example/g01136/laws.FnExactIsRegular", spec := "fnExactIsRegular", unfollowed := true, recurses := true, apart := false }
def FnExactIsRegularSaid : Prop := fnExactIsRegularRow.holds Try.pinned (OpenSpec.ofChange fnExactIsRegularSpec)

/-- ITS FALSE NEIGHBOUR: 'it returns false'. Refute it at one input. -/
def fnExactIsRegularWrong : ChangeSpec := { name := "fnExactIsRegular", fn := fun _ => fun
  | [d1, d2] => { results := [.lit (.bool false)], args := [d1, d2] }
  | _ => none }
def FnExactIsRegularWrongFalsely : Prop := fnExactIsRegularRow.holds Try.pinned (OpenSpec.ofChange fnExactIsRegularWrong)

/-- 'laws.FnExactRegularWith': WHATEVER THE INPUT: true; the input reads as it did. -/
def fnExactRegularWithSpec : ChangeSpec := { name := "fnExactRegularWith", fn := fun _ => fun
  | [d1, d2] => { results := [.lit (.bool true)], args := [d1, d2] }
  | _ => none }
def fnExactRegularWithRow : OpenClaim := { program := "ythbkonpclflkhaa", sum := "b77bd74a77c8100440c6c654e69ec3698dc671c8c2f0d40f951634bb99b6b4e4", func := "loop.example/g01136/laws.FnExactRegularWith", spec := "fnExactRegularWith", recurses := true, apart := false }
def FnExactRegularWithSaid : Prop := fnExactRegularWithRow.holds Try.pinned (OpenSpec.ofChange fnExactRegularWithSpec)

/-- ITS FALSE NEIGHBOUR: 'it returns false'. Refute it at one input. -/
def fnExactRegularWithWrong : ChangeSpec := { name := "fnExactRegularWith", fn := fun _ => fun
  | [d1, d2] => { results := [.lit (.bool false)], args := [d1, d2] }
  | _ => none }
def FnExactRegularWithWrongFalsely : Prop := fnExactRegularWithRow.holds Try.pinned (OpenSpec.ofChange fnExactRegularWithWrong)

/-- 'laws.FnExactReachedByArrows': WHATEVER THE INPUT: true; the input reads as it did. -/
def fnExactReachedByArrowsSpec : ChangeSpec := { name := "fnExactReachedByArrows", fn := fun _ => fun
  | [d1, d2] => { results := [.lit (.bool true)], args := [d1, d2] }
  | _ => none }
def fnExactReachedByArrowsRow : OpenClaim := { program := "ythbkonpclflkhaa", sum := "b77bd74a77c8100440c6c654e69ec3698dc671c8c2f0d40f951634bb99b6b4e4", func := "loop.example/g01136/laws.FnExactReachedByArrows", spec := "fnExactReachedByArrows", unfollowed := true, recurses := true, apart := false }
def FnExactReachedByArrowsSaid : Prop := fnExactReachedByArrowsRow.holds Try.pinned (OpenSpec.ofChange fnExactReachedByArrowsSpec)

/-- ITS FALSE NEIGHBOUR: 'it returns false'. Refute it at one input. -/
def fnExactReachedByArrowsWrong : ChangeSpec := { name := "fnExactReachedByArrows", fn := fun _ => fun
  | [d1, d2] => { results := [.lit (.bool false)], args := [d1, d2] }
  | _ => none }
def FnExactReachedByArrowsWrongFalsely : Prop := fnExactReachedByArrowsRow.holds Try.pinned (OpenSpec.ofChange fnExactReachedByArrowsWrong)

/-- 'laws.FnExactArrowWord': WHATEVER THE INPUT: true; the input reads as it did. -/
def fnExactArrowWordSpec : ChangeSpec := { name := "fnExactArrowWord", fn := fun _ => fun
  | [d1, d2] => { results := [.lit (.bool true)], args := [d1, d2] }
  | _ => none }
def fnExactArrowWordRow : OpenClaim := { program := "ythbkonpclflkhaa", sum := "b77bd74a77c8100440c6c654e69ec3698dc671c8c2f0d40f951634bb99b6b4e4", func := "loop.example/g01136/laws.FnExactArrowWord", spec := "fnExactArrowWord", unfollowed := true, recurses := true, apart := false }
def FnExactArrowWordSaid : Prop := fnExactArrowWordRow.holds Try.pinned (OpenSpec.ofChange fnExactArrowWordSpec)

/-- ITS FALSE NEIGHBOUR: 'it returns false'. Refute it at one input. -/
def fnExactArrowWordWrong : ChangeSpec := { name := "fnExactArrowWord", fn := fun _ => fun
  | [d1, d2] => { results := [.lit (.bool false)], args := [d1, d2] }
  | _ => none }
def FnExactArrowWordWrongFalsely : Prop := fnExactArrowWordRow.holds Try.pinned (OpenSpec.ofChange fnExactArrowWordWrong)

/-- 'laws.FnExactArrowByWord': WHATEVER THE INPUT: true; the input reads as it did. -/
def fnExactArrowByWordSpec : ChangeSpec := { name := "fnExactArrowByWord", fn := fun _ => fun
  | [d1, d2] => { results := [.lit (.bool true)], args := [d1, d2] }
  | _ => none }
def fnExactArrowByWordRow : OpenClaim := { program := "ythbkonpclflkhaa", sum := "b77bd74a77c8100440c6c654e69ec3698dc671c8c2f0d40f951634bb99b6b4e4", func := "loop.example/g01136/laws.FnExactArrowByWord", spec := "fnExactArrowByWord", unfollowed := true, recurses := true, apart := false }
def FnExactArrowByWordSaid : Prop := fnExactArrowByWordRow.holds Try.pinned (OpenSpec.ofChange fnExactArrowByWordSpec)

/-- ITS FALSE NEIGHBOUR: 'it returns false'. Refute it at one input. -/
def fnExactArrowByWordWrong : ChangeSpec := { name := "fnExactArrowByWord", fn := fun _ => fun
  | [d1, d2] => { results := [.lit (.bool false)], args := [d1, d2] }
  | _ => none }
def FnExactArrowByWordWrongFalsely : Prop := fnExactArrowByWordRow.holds Try.pinned (OpenSpec.ofChange fnExactArrowByWordWrong)

/-- 'laws.FnExactMirrorOf': WHATEVER THE INPUT: true; the input reads as it did. -/
def fnExactMirrorOfSpec : ChangeSpec := { name := "fnExactMirrorOf", fn := fun _ => fun
  | [d1, d2] => { results := [.lit (.bool true)], args := [d1, d2] }
  | _ => none }
def fnExactMirrorOfRow : OpenClaim := { program := "ythbkonpclflkhaa", sum := "b77bd74a77c8100440c6c654e69ec3698dc671c8c2f0d40f951634bb99b6b4e4", func := "loop.example/g01136/laws.FnExactMirrorOf", spec := "fnExactMirrorOf", unfollowed := true, recurses := true, apart := false }
def FnExactMirrorOfSaid : Prop := fnExactMirrorOfRow.holds Try.pinned (OpenSpec.ofChange fnExactMirrorOfSpec)

/-- ITS FALSE NEIGHBOUR: 'it returns false'. Refute it at one input. -/
def fnExactMirrorOfWrong : ChangeSpec := { name := "fnExactMirrorOf", fn := fun _ => fun
  | [d1, d2] => { results := [.lit (.bool false)], args := [d1, d2] }
  | _ => none }
def FnExactMirrorOfWrongFalsely : Prop := fnExactMirrorOfRow.holds Try.pinned (OpenSpec.ofChange fnExactMirrorOfWrong)

/-- 'laws.FnExactLadderOf': WHATEVER THE INPUT: true; the input reads as it did. -/
def fnExactLadderOfSpec : ChangeSpec := { name := "fnExactLadderOf", fn := fun _ => fun
  | [d1, d2, d3] => { results := [.lit (.bool true)], args := [d1, d2, d3] }
  | _ => none }
def fnExactLadderOfRow : OpenClaim := { program := "ythbkonpclflkhaa", sum := "b77bd74a77c8100440c6c654e69ec3698dc671c8c2f0d40f951634bb99b6b4e4", func := "loop.example/g01136/laws.FnExactLadderOf", spec := "fnExactLadderOf", apart := false }
def FnExactLadderOfSaid : Prop := fnExactLadderOfRow.holds Try.pinned (OpenSpec.ofChange fnExactLadderOfSpec)

/-- ITS FALSE NEIGHBOUR: 'it returns false'. Refute it at one input. -/
def fnExactLadderOfWrong : ChangeSpec := { name := "fnExactLadderOf", fn := fun _ => fun
  | [d1, d2, d3] => { results := [.lit (.bool false)], args := [d1, d2, d3] }
  | _ => none }
def FnExactLadderOfWrongFalsely : Prop := fnExactLadderOfRow.holds Try.pinned (OpenSpec.ofChange fnExactLadderOfWrong)

/-- 'laws.FnExactRegularOf': WHATEVER THE INPUT: true; the input reads as it did. -/
def fnExactRegularOfSpec : ChangeSpec := { name := "fnExactRegularOf", fn := fun _ => fun
  | [d1, d2] => { results := [.lit (.bool true)], args := [d1, d2] }
  | _ => none }
def fnExactRegularOfRow : OpenClaim := { program := "ythbkonpclflkhaa", sum := "b77bd74a77c8100440c6c654e69ec3698dc671c8c2f0d40f951634bb99b6b4e4", func := "loop.example/g01136/laws.FnExactRegularOf", spec := "fnExactRegularOf", unfollowed := true, recurses := true, apart := false }
def FnExactRegularOfSaid : Prop := fnExactRegularOfRow.holds Try.pinned (OpenSpec.ofChange fnExactRegularOfSpec)

/-- ITS FALSE NEIGHBOUR: 'it returns false'. Refute it at one input. -/
def fnExactRegularOfWrong : ChangeSpec := { name := "fnExactRegularOf", fn := fun _ => fun
  | [d1, d2] => { results := [.lit (.bool false)], args := [d1, d2] }
  | _ => none }
def FnExactRegularOfWrongFalsely : Prop := fnExactRegularOfRow.holds Try.pinned (OpenSpec.ofChange fnExactRegularOfWrong)

/-- 'laws.FnExactIsAbove': WHATEVER THE INPUT: true; the input reads as it did. -/
def fnExactIsAboveSpec : ChangeSpec := { name := "fnExactIsAbove", fn := fun _ => fun
  | [d1, d2] => { results := [.lit (.bool true)], args := [d1, d2] }
  | _ => none }
def fnExactIsAboveRow : OpenClaim := { program := "ythbkonpclflkhaa", sum := "b77bd74a77c8100440c6c654e69ec3698dc671c8c2f0d40f951634bb99b6b4e4", func := "loop.example/g01136/laws.FnExactIsAbove", spec := "fnExactIsAbove", unfollowed := true, recurses := true, apart := false }
def FnExactIsAboveSaid : Prop := fnExactIsAboveRow.holds Try.pinned (OpenSpec.ofChange fnExactIsAboveSpec)

/-- ITS FALSE NEIGHBOUR: 'it returns false'. Refute it at one input. -/
def fnExactIsAboveWrong : ChangeSpec := { name := "fnExactIsAbove", fn := fun _ => fun
  | [d1, d2] => { results := [.lit (.bool false)], args := [d1, d2] }
  | _ => none }
def FnExactIsAboveWrongFalsely : Prop := fnExactIsAboveRow.holds Try.pinned (OpenSpec.ofChange fnExactIsAboveWrong)

/-- 'laws.FnExactCoreWord': WHATEVER THE INPUT: true; the input reads as it did. -/
def fnExactCoreWordSpec : ChangeSpec := { name := "fnExactCoreWord", fn := fun _ => fun
  | [d1, d2] => { results := [.lit (.bool true)], args := [d1, d2] }
  | _ => none }
def fnExactCoreWordRow : OpenClaim := { program := "ythbkonpclflkhaa", sum := "b77bd74a77c8100440c6c654e69ec3698dc671c8c2f0d40f951634bb99b6b4e4", func := "loop.example/g01136/laws.FnExactCoreWord", spec := "fnExactCoreWord", unfollowed := true, recurses := true, apart := false }
def FnExactCoreWordSaid : Prop := fnExactCoreWordRow.holds Try.pinned (OpenSpec.ofChange fnExactCoreWordSpec)

/-- ITS FALSE NEIGHBOUR: 'it returns false'. Refute it at one input. -/
def fnExactCoreWordWrong : ChangeSpec := { name := "fnExactCoreWord", fn := fun _ => fun
  | [d1, d2] => { results := [.lit (.bool false)], args := [d1, d2] }
  | _ => none }
def FnExactCoreWordWrongFalsely : Prop := fnExactCoreWordRow.holds Try.pinned (OpenSpec.ofChange fnExactCoreWordWrong)

/-- 'laws.FnExactFromCore': WHATEVER THE INPUT: true; the input reads as it did. -/
def fnExactFromCoreSpec : ChangeSpec := { name := "fnExactFromCore", fn := fun _ => fun
  | [d1, d2] => { results := [.lit (.bool true)], args := [d1, d2] }
  | _ => none }
def fnExactFromCoreRow : OpenClaim := { program := "ythbkonpclflkhaa", sum := "b77bd74a77c8100440c6c654e69ec3698dc671c8c2f0d40f951634bb99b6b4e4", func := "loop.example/g01136/laws.FnExactFromCore", spec := "fnExactFromCore", unfollowed := true, recurses := true, apart := false }
def FnExactFromCoreSaid : Prop := fnExactFromCoreRow.holds Try.pinned (OpenSpec.ofChange fnExactFromCoreSpec)

/-- ITS FALSE NEIGHBOUR: 'it returns false'. Refute it at one input. -/
def fnExactFromCoreWrong : ChangeSpec := { name := "fnExactFromCore", fn := fun _ => fun
  | [d1, d2] => { results := [.lit (.bool false)], args := [d1, d2] }
  | _ => none }
def FnExactFromCoreWrongFalsely : Prop := fnExactFromCoreRow.holds Try.pinned (OpenSpec.ofChange fnExactFromCoreWrong)

/-- 'laws.FnExactAddedRims': WHATEVER THE INPUT: true; the input reads as it did. -/
def fnExactAddedRimsSpec : ChangeSpec := { name := "fnExactAddedRims", fn := fun _ => fun
  | [d1, d2] => { results := [.lit (.bool true)], args := [d1, d2] }
  | _ => none }
def fnExactAddedRimsRow : OpenClaim := { program := "ythbkonpclflkhaa", sum := "b77bd74a77c8100440c6c654e69ec3698dc671c8c2f0d40f951634bb99b6b4e4", func := "loop.example/g01136/laws.FnExactAddedRims", spec := "fnExactAddedRims", unfollowed := true, recurses := true, apart := false }
def FnExactAddedRimsSaid : Prop := fnExactAddedRimsRow.holds Try.pinned (OpenSpec.ofChange fnExactAddedRimsSpec)

/-- ITS FALSE NEIGHBOUR: 'it returns false'. Refute it at one input. -/
def fnExactAddedRimsWrong : ChangeSpec := { name := "fnExactAddedRims", fn := fun _ => fun
  | [d1, d2] => { results := [.lit (.bool false)], args := [d1, d2] }
  | _ => none }
def FnExactAddedRimsWrongFalsely : Prop := fnExactAddedRimsRow.holds Try.pinned (OpenSpec.ofChange fnExactAddedRimsWrong)

/-- 'laws.FnExactBlockOf': WHATEVER THE INPUT: true; the input reads as it did. -/
def fnExactBlockOfSpec : ChangeSpec := { name := "fnExactBlockOf", fn := fun _ => fun
  | [d1, d2, d3] => { results := [.lit (.bool true)], args := [d1, d2, d3] }
  | _ => none }
def fnExactBlockOfRow : OpenClaim := { program := "ythbkonpclflkhaa", sum := "b77bd74a77c8100440c6c654e69ec3698dc671c8c2f0d40f951634bb99b6b4e4", func := "loop.example/g01136/laws.FnExactBlockOf", spec := "fnExactBlockOf", unfollowed := true, recurses := true, apart := false }
def FnExactBlockOfSaid : Prop := fnExactBlockOfRow.holds Try.pinned (OpenSpec.ofChange fnExactBlockOfSpec)

/-- ITS FALSE NEIGHBOUR: 'it returns false'. Refute it at one input. -/
def fnExactBlockOfWrong : ChangeSpec := { name := "fnExactBlockOf", fn := fun _ => fun
  | [d1, d2, d3] => { results := [.lit (.bool false)], args := [d1, d2, d3] }
  | _ => none }
def FnExactBlockOfWrongFalsely : Prop := fnExactBlockOfRow.holds Try.pinned (OpenSpec.ofChange fnExactBlockOfWrong)

/-- 'laws.FnExactCountRuns': WHATEVER THE INPUT: true; the input reads as it did. -/
def fnExactCountRunsSpec : ChangeSpec := { name := "fnExactCountRuns", fn := fun _ => fun
  | [d1, d2] => { results := [.lit (.bool true)], args := [d1, d2] }
  | _ => none }
def fnExactCountRunsRow : OpenClaim := { program := "ythbkonpclflkhaa", sum := "b77bd74a77c8100440c6c654e69ec3698dc671c8c2f0d40f951634bb99b6b4e4", func := "loop.example/g01136/laws.FnExactCountRuns", spec := "fnExactCountRuns", unfollowed := true, recurses := true, apart := false }
def FnExactCountRunsSaid : Prop := fnExactCountRunsRow.holds Try.pinned (OpenSpec.ofChange fnExactCountRunsSpec)

/-- ITS FALSE NEIGHBOUR: 'it returns false'. Refute it at one input. -/
def fnExactCountRunsWrong : ChangeSpec := { name := "fnExactCountRuns", fn := fun _ => fun
  | [d1, d2] => { results := [.lit (.bool false)], args := [d1, d2] }
  | _ => none }
def FnExactCountRunsWrongFalsely : Prop := fnExactCountRunsRow.holds Try.pinned (OpenSpec.ofChange fnExactCountRunsWrong)

/- THE SECOND FORM. 'bulk': how many values and letters a reading holds, each counted each time it is reached (what is shared counts as often as it is met; a slice's spare places count too). A statement '..UptoSaid' is the law's where the arguments, and the package variables that the reading takes, are together of bulk at most 1048576: NARROWER than '..Said'. Prove '..Said' where nothing that the law and all that it calls make is longer than what came in: it says more and counts as full. Else prove '..UptoSaid'. A law counts once. -/
mutual
def uptoBulk {H : Type} : DataW H → Nat
  | .lit (.string bytes) => bytes.length + 1
  | .lit _ => 1
  | .nil => 1
  | .ptr d => uptoBulk d + 1
  | .slice elems spare => uptoBulkAll elems + uptoBulkAll spare + 1
  | .agg parts => uptoBulkAll parts + 1
  | .iface _ d => uptoBulk d + 1
  | .map entries => uptoBulkEntries entries + 1
  | .held _ => 1
def uptoBulkAll {H : Type} : List (DataW H) → Nat
  | [] => 0
  | d :: r => uptoBulk d + uptoBulkAll r
def uptoBulkEntries {H : Type} : List (Lit × DataW H) → Nat
  | [] => 0
  | x :: r => uptoBulkEntry x + uptoBulkEntries r
def uptoBulkEntry {H : Type} : Lit × DataW H → Nat
  | (.string bytes, d) => bytes.length + uptoBulk d + 1
  | (_, d) => uptoBulk d + 1
 end
def uptoSmall : (H : Type) → List (DataW H) → Bool := fun _ ds => decide (uptoBulkAll ds ≤ 1048576)
def OpenSpec.upto (s : _root_.Go.ChangeSpec) : _root_.Go.OpenSpec := { _root_.Go.OpenSpec.ofChange s with cond := some uptoSmall }

/-- 'laws.FnExactSignatureOf', WHERE WHAT IT READS IS OF BULK AT MOST 1048576: true; the input reads as it did. -/
def fnExactSignatureOfUptoRow : OpenClaim := { program := "ythbkonpclflkhaa", sum := "b77bd74a77c8100440c6c654e69ec3698dc671c8c2f0d40f951634bb99b6b4e4", func := "loop.example/g01136/laws.FnExactSignatureOf", spec := "fnExactSignatureOf", unfollowed := true, recurses := true, apart := false, narrowed := true }
def FnExactSignatureOfUptoSaid : Prop := fnExactSignatureOfUptoRow.holds Try.pinned (OpenSpec.upto fnExactSignatureOfSpec)

/-- 'laws.FnExactReducedSignature', WHERE WHAT IT READS IS OF BULK AT MOST 1048576: true; the input reads as it did. -/
def fnExactReducedSignatureUptoRow : OpenClaim := { program := "ythbkonpclflkhaa", sum := "b77bd74a77c8100440c6c654e69ec3698dc671c8c2f0d40f951634bb99b6b4e4", func := "loop.example/g01136/laws.FnExactReducedSignature", spec := "fnExactReducedSignature", apart := false, narrowed := true }
def FnExactReducedSignatureUptoSaid : Prop := fnExactReducedSignatureUptoRow.holds Try.pinned (OpenSpec.upto fnExactReducedSignatureSpec)

/-- 'laws.FnExactArrowUp', WHERE WHAT IT READS IS OF BULK AT MOST 1048576: true; the input reads as it did. -/
def fnExactArrowUpUptoRow : OpenClaim := { program := "ythbkonpclflkhaa", sum := "b77bd74a77c8100440c6c654e69ec3698dc671c8c2f0d40f951634bb99b6b4e4", func := "loop.example/g01136/laws.FnExactArrowUp", spec := "fnExactArrowUp", unfollowed := true, recurses := true, apart := false, narrowed := true }
def FnExactArrowUpUptoSaid : Prop := fnExactArrowUpUptoRow.holds Try.pinned (OpenSpec.upto fnExactArrowUpSpec)

/-- 'laws.FnExactArrowDown', WHERE WHAT IT READS IS OF BULK AT MOST 1048576: true; the input reads as it did. -/
def fnExactArrowDownUptoRow : OpenClaim := { program := "ythbkonpclflkhaa", sum := "b77bd74a77c8100440c6c654e69ec3698dc671c8c2f0d40f951634bb99b6b4e4", func := "loop.example/g01136/laws.FnExactArrowDown", spec := "fnExactArrowDown", unfollowed := true, recurses := true, apart := false, narrowed := true }
def FnExactArrowDownUptoSaid : Prop := fnExactArrowDownUptoRow.holds Try.pinned (OpenSpec.upto fnExactArrowDownSpec)

/-- 'laws.FnExactArrowCounts', WHERE WHAT IT READS IS OF BULK AT MOST 1048576: true; the input reads as it did. -/
def fnExactArrowCountsUptoRow : OpenClaim := { program := "ythbkonpclflkhaa", sum := "b77bd74a77c8100440c6c654e69ec3698dc671c8c2f0d40f951634bb99b6b4e4", func := "loop.example/g01136/laws.FnExactArrowCounts", spec := "fnExactArrowCounts", unfollowed := true, recurses := true, apart := false, narrowed := true }
def FnExactArrowCountsUptoSaid : Prop := fnExactArrowCountsUptoRow.holds Try.pinned (OpenSpec.upto fnExactArrowCountsSpec)

/-- 'laws.FnExactIsRegular', WHERE WHAT IT READS IS OF BULK AT MOST 1048576: true; the input reads as it did. -/
def fnExactIsRegularUptoRow : OpenClaim := { program := "ythbkonpclflkhaa", sum := "b77bd74a77c8100440c6c654e69ec3698dc671c8c2f0d40f951634bb99b6b4e4", func := "loop.example/g01136/laws.FnExactIsRegular", spec := "fnExactIsRegular", unfollowed := true, recurses := true, apart := false, narrowed := true }
def FnExactIsRegularUptoSaid : Prop := fnExactIsRegularUptoRow.holds Try.pinned (OpenSpec.upto fnExactIsRegularSpec)

/-- 'laws.FnExactRegularWith', WHERE WHAT IT READS IS OF BULK AT MOST 1048576: true; the input reads as it did. -/
def fnExactRegularWithUptoRow : OpenClaim := { program := "ythbkonpclflkhaa", sum := "b77bd74a77c8100440c6c654e69ec3698dc671c8c2f0d40f951634bb99b6b4e4", func := "loop.example/g01136/laws.FnExactRegularWith", spec := "fnExactRegularWith", recurses := true, apart := false, narrowed := true }
def FnExactRegularWithUptoSaid : Prop := fnExactRegularWithUptoRow.holds Try.pinned (OpenSpec.upto fnExactRegularWithSpec)

/-- 'laws.FnExactReachedByArrows', WHERE WHAT IT READS IS OF BULK AT MOST 1048576: true; the input reads as it did. -/
def fnExactReachedByArrowsUptoRow : OpenClaim := { program := "ythbkonpclflkhaa", sum := "b77bd74a77c8100440c6c654e69ec3698dc671c8c2f0d40f951634bb99b6b4e4", func := "loop.example/g01136/laws.FnExactReachedByArrows", spec := "fnExactReachedByArrows", unfollowed := true, recurses := true, apart := false, narrowed := true }
def FnExactReachedByArrowsUptoSaid : Prop := fnExactReachedByArrowsUptoRow.holds Try.pinned (OpenSpec.upto fnExactReachedByArrowsSpec)

/-- 'laws.FnExactArrowWord', WHERE WHAT IT READS IS OF BULK AT MOST 1048576: true; the input reads as it did. -/
def fnExactArrowWordUptoRow : OpenClaim := { program := "ythbkonpclflkhaa", sum := "b77bd74a77c8100440c6c654e69ec3698dc671c8c2f0d40f951634bb99b6b4e4", func := "loop.example/g01136/laws.FnExactArrowWord", spec := "fnExactArrowWord", unfollowed := true, recurses := true, apart := false, narrowed := true }
def FnExactArrowWordUptoSaid : Prop := fnExactArrowWordUptoRow.holds Try.pinned (OpenSpec.upto fnExactArrowWordSpec)

/-- 'laws.FnExactArrowByWord', WHERE WHAT IT READS IS OF BULK AT MOST 1048576: true; the input reads as it did. -/
def fnExactArrowByWordUptoRow : OpenClaim := { program := "ythbkonpclflkhaa", sum := "b77bd74a77c8100440c6c654e69ec3698dc671c8c2f0d40f951634bb99b6b4e4", func := "loop.example/g01136/laws.FnExactArrowByWord", spec := "fnExactArrowByWord", unfollowed := true, recurses := true, apart := false, narrowed := true }
def FnExactArrowByWordUptoSaid : Prop := fnExactArrowByWordUptoRow.holds Try.pinned (OpenSpec.upto fnExactArrowByWordSpec)

/-- 'laws.FnExactMirrorOf', WHERE WHAT IT READS IS OF BULK AT MOST 1048576: true; the input reads as it did. -/
def fnExactMirrorOfUptoRow : OpenClaim := { program := "ythbkonpclflkhaa", sum := "b77bd74a77c8100440c6c654e69ec3698dc671c8c2f0d40f951634bb99b6b4e4", func := "loop.example/g01136/laws.FnExactMirrorOf", spec := "fnExactMirrorOf", unfollowed := true, recurses := true, apart := false, narrowed := true }
def FnExactMirrorOfUptoSaid : Prop := fnExactMirrorOfUptoRow.holds Try.pinned (OpenSpec.upto fnExactMirrorOfSpec)

/-- 'laws.FnExactLadderOf', WHERE WHAT IT READS IS OF BULK AT MOST 1048576: true; the input reads as it did. -/
def fnExactLadderOfUptoRow : OpenClaim := { program := "ythbkonpclflkhaa", sum := "b77bd74a77c8100440c6c654e69ec3698dc671c8c2f0d40f951634bb99b6b4e4", func := "loop.example/g01136/laws.FnExactLadderOf", spec := "fnExactLadderOf", apart := false, narrowed := true }
def FnExactLadderOfUptoSaid : Prop := fnExactLadderOfUptoRow.holds Try.pinned (OpenSpec.upto fnExactLadderOfSpec)

/-- 'laws.FnExactRegularOf', WHERE WHAT IT READS IS OF BULK AT MOST 1048576: true; the input reads as it did. -/
def fnExactRegularOfUptoRow : OpenClaim := { program := "ythbkonpclflkhaa", sum := "b77bd74a77c8100440c6c654e69ec3698dc671c8c2f0d40f951634bb99b6b4e4", func := "loop.example/g01136/laws.FnExactRegularOf", spec := "fnExactRegularOf", unfollowed := true, recurses := true, apart := false, narrowed := true }
def FnExactRegularOfUptoSaid : Prop := fnExactRegularOfUptoRow.holds Try.pinned (OpenSpec.upto fnExactRegularOfSpec)

/-- 'laws.FnExactIsAbove', WHERE WHAT IT READS IS OF BULK AT MOST 1048576: true; the input reads as it did. -/
def fnExactIsAboveUptoRow : OpenClaim := { program := "ythbkonpclflkhaa", sum := "b77bd74a77c8100440c6c654e69ec3698dc671c8c2f0d40f951634bb99b6b4e4", func := "loop.example/g01136/laws.FnExactIsAbove", spec := "fnExactIsAbove", unfollowed := true, recurses := true, apart := false, narrowed := true }
def FnExactIsAboveUptoSaid : Prop := fnExactIsAboveUptoRow.holds Try.pinned (OpenSpec.upto fnExactIsAboveSpec)

/-- 'laws.FnExactCoreWord', WHERE WHAT IT READS IS OF BULK AT MOST 1048576: true; the input reads as it did. -/
def fnExactCoreWordUptoRow : OpenClaim := { program := "ythbkonpclflkhaa", sum := "b77bd74a77c8100440c6c654e69ec3698dc671c8c2f0d40f951634bb99b6b4e4", func := "loop.example/g01136/laws.FnExactCoreWord", spec := "fnExactCoreWord", unfollowed := true, recurses := true, apart := false, narrowed := true }
def FnExactCoreWordUptoSaid : Prop := fnExactCoreWordUptoRow.holds Try.pinned (OpenSpec.upto fnExactCoreWordSpec)

/-- 'laws.FnExactFromCore', WHERE WHAT IT READS IS OF BULK AT MOST 1048576: true; the input reads as it did. -/
def fnExactFromCoreUptoRow : OpenClaim := { program := "ythbkonpclflkhaa", sum := "b77bd74a77c8100440c6c654e69ec3698dc671c8c2f0d40f951634bb99b6b4e4", func := "loop.example/g01136/laws.FnExactFromCore", spec := "fnExactFromCore", unfollowed := true, recurses := true, apart := false, narrowed := true }
def FnExactFromCoreUptoSaid : Prop := fnExactFromCoreUptoRow.holds Try.pinned (OpenSpec.upto fnExactFromCoreSpec)

/-- 'laws.FnExactAddedRims', WHERE WHAT IT READS IS OF BULK AT MOST 1048576: true; the input reads as it did. -/
def fnExactAddedRimsUptoRow : OpenClaim := { program := "ythbkonpclflkhaa", sum := "b77bd74a77c8100440c6c654e69ec3698dc671c8c2f0d40f951634bb99b6b4e4", func := "loop.example/g01136/laws.FnExactAddedRims", spec := "fnExactAddedRims", unfollowed := true, recurses := true, apart := false, narrowed := true }
def FnExactAddedRimsUptoSaid : Prop := fnExactAddedRimsUptoRow.holds Try.pinned (OpenSpec.upto fnExactAddedRimsSpec)

/-- 'laws.FnExactBlockOf', WHERE WHAT IT READS IS OF BULK AT MOST 1048576: true; the input reads as it did. -/
def fnExactBlockOfUptoRow : OpenClaim := { program := "ythbkonpclflkhaa", sum := "b77bd74a77c8100440c6c654e69ec3698dc671c8c2f0d40f951634bb99b6b4e4", func := "loop.example/g01136/laws.FnExactBlockOf", spec := "fnExactBlockOf", unfollowed := true, recurses := true, apart := false, narrowed := true }
def FnExactBlockOfUptoSaid : Prop := fnExactBlockOfUptoRow.holds Try.pinned (OpenSpec.upto fnExactBlockOfSpec)

/-- 'laws.FnExactCountRuns', WHERE WHAT IT READS IS OF BULK AT MOST 1048576: true; the input reads as it did. -/
def fnExactCountRunsUptoRow : OpenClaim := { program := "ythbkonpclflkhaa", sum := "b77bd74a77c8100440c6c654e69ec3698dc671c8c2f0d40f951634bb99b6b4e4", func := "loop.example/g01136/laws.FnExactCountRuns", spec := "fnExactCountRuns", unfollowed := true, recurses := true, apart := false, narrowed := true }
def FnExactCountRunsUptoSaid : Prop := fnExactCountRunsUptoRow.holds Try.pinned (OpenSpec.upto fnExactCountRunsSpec)

end Rows
end Go.Proofs.Ythbkonpclflkhaa
