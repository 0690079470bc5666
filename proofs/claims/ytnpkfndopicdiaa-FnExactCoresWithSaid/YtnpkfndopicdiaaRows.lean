/-
  No cell of these rows narrows 'for every input' (looked for: loops, veiled, ifaces, maps, wideKeys, modest, calm, conditions, laid).
  DERIVED. THE GIVEN ROWS OF THIS SEAT. 22 by the template 'for every input the law returns true; each argument reads behind the call as it read before'; 0 by the template 'total and deterministic' (their statements: YtnpkfndopicdiaaTotals.lean).
  GIVEN WITH THE SEED: the statements are not yours to turn. If you find one false, say at which input.
  Laid BY PROGRAM, IN A SANDBOX (cutbox-rows.mjs): the forced cells as the released guide's own fill.sh prints them over the translation c41ef7a1cbb888c8… (all of the seat's roots in one cut). By AI agents, Wed Nov 11 2026. No macro, syntax, notation, axiom, sorry.
-/
import Derived.Test.YtnpkfndopicdiaaChecked
import GoSem.Claim
import GoSem.ClaimJoined
import GoSem.ClaimMapViews
import Derived.JoinedTies
import Derived.KernelRfl
namespace Go.Proofs.Ytnpkfndopicdiaa
/- THE CELL 'sum', in the pinned program and in every row, IS THE sha256 OF THE DUMP (.gsa) THAT YtnpkfndopicdiaaProg.lean LOADS. Nothing in Lean hashes anything: it is a label: what it is worth is what the hold of that sum in a sandbox is worth. -/
noncomputable def Try.pinned : Pinned := { name := "ytnpkfndopicdiaa", sum := "c41ef7a1cbb888c82e993c51444049463a8c4434e0be580e0b54a401f863593e", checked := Try.checked }
namespace Rows
def none {H : Type} : Left H := { results := [], args := [] }

/-- 'laws.FnExactAreSizes': WHATEVER THE INPUT: true; the input reads as it did. -/
def fnExactAreSizesSpec : ChangeSpec := { name := "fnExactAreSizes", fn := fun _ => fun
  | [d1, d2] => { results := [.lit (.bool true)], args := [d1, d2] }
  | _ => none }
def fnExactAreSizesRow : OpenClaim := { program := "ytnpkfndopicdiaa", sum := "c41ef7a1cbb888c82e993c51444049463a8c4434e0be580e0b54a401f863593e", func := "loop.example/g01136/laws.FnExactAreSizes", spec := "fnExactAreSizes", apart := false }
def FnExactAreSizesSaid : Prop := fnExactAreSizesRow.holds Try.pinned (OpenSpec.ofChange fnExactAreSizesSpec)

/-- ITS FALSE NEIGHBOUR: 'it returns false'. Refute it at one input. -/
def fnExactAreSizesWrong : ChangeSpec := { name := "fnExactAreSizes", fn := fun _ => fun
  | [d1, d2] => { results := [.lit (.bool false)], args := [d1, d2] }
  | _ => none }
def FnExactAreSizesWrongFalsely : Prop := fnExactAreSizesRow.holds Try.pinned (OpenSpec.ofChange fnExactAreSizesWrong)

/-- 'laws.FnExactGapsOf': WHATEVER THE INPUT: true; the input reads as it did. -/
def fnExactGapsOfSpec : ChangeSpec := { name := "fnExactGapsOf", fn := fun _ => fun
  | [d1, d2] => { results := [.lit (.bool true)], args := [d1, d2] }
  | _ => none }
def fnExactGapsOfRow : OpenClaim := { program := "ytnpkfndopicdiaa", sum := "c41ef7a1cbb888c82e993c51444049463a8c4434e0be580e0b54a401f863593e", func := "loop.example/g01136/laws.FnExactGapsOf", spec := "fnExactGapsOf", apart := false }
def FnExactGapsOfSaid : Prop := fnExactGapsOfRow.holds Try.pinned (OpenSpec.ofChange fnExactGapsOfSpec)

/-- ITS FALSE NEIGHBOUR: 'it returns false'. Refute it at one input. -/
def fnExactGapsOfWrong : ChangeSpec := { name := "fnExactGapsOf", fn := fun _ => fun
  | [d1, d2] => { results := [.lit (.bool false)], args := [d1, d2] }
  | _ => none }
def FnExactGapsOfWrongFalsely : Prop := fnExactGapsOfRow.holds Try.pinned (OpenSpec.ofChange fnExactGapsOfWrong)

/-- 'laws.FnExactFirstHooks': WHATEVER THE INPUT: true; the input reads as it did. -/
def fnExactFirstHooksSpec : ChangeSpec := { name := "fnExactFirstHooks", fn := fun _ => fun
  | [d] => { results := [.lit (.bool true)], args := [d] }
  | _ => none }
def fnExactFirstHooksRow : OpenClaim := { program := "ytnpkfndopicdiaa", sum := "c41ef7a1cbb888c82e993c51444049463a8c4434e0be580e0b54a401f863593e", func := "loop.example/g01136/laws.FnExactFirstHooks", spec := "fnExactFirstHooks", unfollowed := true, recurses := true, apart := false }
def FnExactFirstHooksSaid : Prop := fnExactFirstHooksRow.holds Try.pinned (OpenSpec.ofChange fnExactFirstHooksSpec)

/-- ITS FALSE NEIGHBOUR: 'it returns false'. Refute it at one input. -/
def fnExactFirstHooksWrong : ChangeSpec := { name := "fnExactFirstHooks", fn := fun _ => fun
  | [d] => { results := [.lit (.bool false)], args := [d] }
  | _ => none }
def FnExactFirstHooksWrongFalsely : Prop := fnExactFirstHooksRow.holds Try.pinned (OpenSpec.ofChange fnExactFirstHooksWrong)

/-- 'laws.FnExactFromFirstHooks': WHATEVER THE INPUT: true; the input reads as it did. -/
def fnExactFromFirstHooksSpec : ChangeSpec := { name := "fnExactFromFirstHooks", fn := fun _ => fun
  | [d] => { results := [.lit (.bool true)], args := [d] }
  | _ => none }
def fnExactFromFirstHooksRow : OpenClaim := { program := "ytnpkfndopicdiaa", sum := "c41ef7a1cbb888c82e993c51444049463a8c4434e0be580e0b54a401f863593e", func := "loop.example/g01136/laws.FnExactFromFirstHooks", spec := "fnExactFromFirstHooks", unfollowed := true, recurses := true, apart := false }
def FnExactFromFirstHooksSaid : Prop := fnExactFromFirstHooksRow.holds Try.pinned (OpenSpec.ofChange fnExactFromFirstHooksSpec)

/-- ITS FALSE NEIGHBOUR: 'it returns false'. Refute it at one input. -/
def fnExactFromFirstHooksWrong : ChangeSpec := { name := "fnExactFromFirstHooks", fn := fun _ => fun
  | [d] => { results := [.lit (.bool false)], args := [d] }
  | _ => none }
def FnExactFromFirstHooksWrongFalsely : Prop := fnExactFromFirstHooksRow.holds Try.pinned (OpenSpec.ofChange fnExactFromFirstHooksWrong)

/-- 'laws.FnExactIsBothCore': WHATEVER THE INPUT: true; the input reads as it did. -/
def fnExactIsBothCoreSpec : ChangeSpec := { name := "fnExactIsBothCore", fn := fun _ => fun
  | [d1, d2, d3] => { results := [.lit (.bool true)], args := [d1, d2, d3] }
  | _ => none }
def fnExactIsBothCoreRow : OpenClaim := { program := "ytnpkfndopicdiaa", sum := "c41ef7a1cbb888c82e993c51444049463a8c4434e0be580e0b54a401f863593e", func := "loop.example/g01136/laws.FnExactIsBothCore", spec := "fnExactIsBothCore", unfollowed := true, recurses := true, apart := false }
def FnExactIsBothCoreSaid : Prop := fnExactIsBothCoreRow.holds Try.pinned (OpenSpec.ofChange fnExactIsBothCoreSpec)

/-- ITS FALSE NEIGHBOUR: 'it returns false'. Refute it at one input. -/
def fnExactIsBothCoreWrong : ChangeSpec := { name := "fnExactIsBothCore", fn := fun _ => fun
  | [d1, d2, d3] => { results := [.lit (.bool false)], args := [d1, d2, d3] }
  | _ => none }
def FnExactIsBothCoreWrongFalsely : Prop := fnExactIsBothCoreRow.holds Try.pinned (OpenSpec.ofChange fnExactIsBothCoreWrong)

/-- 'laws.FnExactAreClosedHooks': WHATEVER THE INPUT: true; the input reads as it did. -/
def fnExactAreClosedHooksSpec : ChangeSpec := { name := "fnExactAreClosedHooks", fn := fun _ => fun
  | [d1, d2, d3] => { results := [.lit (.bool true)], args := [d1, d2, d3] }
  | _ => none }
def fnExactAreClosedHooksRow : OpenClaim := { program := "ytnpkfndopicdiaa", sum := "c41ef7a1cbb888c82e993c51444049463a8c4434e0be580e0b54a401f863593e", func := "loop.example/g01136/laws.FnExactAreClosedHooks", spec := "fnExactAreClosedHooks", apart := false }
def FnExactAreClosedHooksSaid : Prop := fnExactAreClosedHooksRow.holds Try.pinned (OpenSpec.ofChange fnExactAreClosedHooksSpec)

/-- ITS FALSE NEIGHBOUR: 'it returns false'. Refute it at one input. -/
def fnExactAreClosedHooksWrong : ChangeSpec := { name := "fnExactAreClosedHooks", fn := fun _ => fun
  | [d1, d2, d3] => { results := [.lit (.bool false)], args := [d1, d2, d3] }
  | _ => none }
def FnExactAreClosedHooksWrongFalsely : Prop := fnExactAreClosedHooksRow.holds Try.pinned (OpenSpec.ofChange fnExactAreClosedHooksWrong)

/-- 'laws.FnExactAllBoth': WHATEVER THE INPUT: true; the input reads as it did. -/
def fnExactAllBothSpec : ChangeSpec := { name := "fnExactAllBoth", fn := fun _ => fun
  | [d1, d2] => { results := [.lit (.bool true)], args := [d1, d2] }
  | _ => none }
def fnExactAllBothRow : OpenClaim := { program := "ytnpkfndopicdiaa", sum := "c41ef7a1cbb888c82e993c51444049463a8c4434e0be580e0b54a401f863593e", func := "loop.example/g01136/laws.FnExactAllBoth", spec := "fnExactAllBoth", unfollowed := true, recurses := true, apart := false }
def FnExactAllBothSaid : Prop := fnExactAllBothRow.holds Try.pinned (OpenSpec.ofChange fnExactAllBothSpec)

/-- ITS FALSE NEIGHBOUR: 'it returns false'. Refute it at one input. -/
def fnExactAllBothWrong : ChangeSpec := { name := "fnExactAllBoth", fn := fun _ => fun
  | [d1, d2] => { results := [.lit (.bool false)], args := [d1, d2] }
  | _ => none }
def FnExactAllBothWrongFalsely : Prop := fnExactAllBothRow.holds Try.pinned (OpenSpec.ofChange fnExactAllBothWrong)

/-- 'laws.FnExactCountBoth': WHATEVER THE INPUT: true; the input reads as it did. -/
def fnExactCountBothSpec : ChangeSpec := { name := "fnExactCountBoth", fn := fun _ => fun
  | [d1, d2] => { results := [.lit (.bool true)], args := [d1, d2] }
  | _ => none }
def fnExactCountBothRow : OpenClaim := { program := "ytnpkfndopicdiaa", sum := "c41ef7a1cbb888c82e993c51444049463a8c4434e0be580e0b54a401f863593e", func := "loop.example/g01136/laws.FnExactCountBoth", spec := "fnExactCountBoth", apart := false }
def FnExactCountBothSaid : Prop := fnExactCountBothRow.holds Try.pinned (OpenSpec.ofChange fnExactCountBothSpec)

/-- ITS FALSE NEIGHBOUR: 'it returns false'. Refute it at one input. -/
def fnExactCountBothWrong : ChangeSpec := { name := "fnExactCountBoth", fn := fun _ => fun
  | [d1, d2] => { results := [.lit (.bool false)], args := [d1, d2] }
  | _ => none }
def FnExactCountBothWrongFalsely : Prop := fnExactCountBothRow.holds Try.pinned (OpenSpec.ofChange fnExactCountBothWrong)

/-- 'laws.FnExactGreatestBoth': WHATEVER THE INPUT: true; the input reads as it did. -/
def fnExactGreatestBothSpec : ChangeSpec := { name := "fnExactGreatestBoth", fn := fun _ => fun
  | [d1, d2] => { results := [.lit (.bool true)], args := [d1, d2] }
  | _ => none }
def fnExactGreatestBothRow : OpenClaim := { program := "ytnpkfndopicdiaa", sum := "c41ef7a1cbb888c82e993c51444049463a8c4434e0be580e0b54a401f863593e", func := "loop.example/g01136/laws.FnExactGreatestBoth", spec := "fnExactGreatestBoth", unfollowed := true, recurses := true, apart := false }
def FnExactGreatestBothSaid : Prop := fnExactGreatestBothRow.holds Try.pinned (OpenSpec.ofChange fnExactGreatestBothSpec)

/-- ITS FALSE NEIGHBOUR: 'it returns false'. Refute it at one input. -/
def fnExactGreatestBothWrong : ChangeSpec := { name := "fnExactGreatestBoth", fn := fun _ => fun
  | [d1, d2] => { results := [.lit (.bool false)], args := [d1, d2] }
  | _ => none }
def FnExactGreatestBothWrongFalsely : Prop := fnExactGreatestBothRow.holds Try.pinned (OpenSpec.ofChange fnExactGreatestBothWrong)

/-- 'laws.FnExactCellsOfBoth': WHATEVER THE INPUT: true; the input reads as it did. -/
def fnExactCellsOfBothSpec : ChangeSpec := { name := "fnExactCellsOfBoth", fn := fun _ => fun
  | [d1, d2] => { results := [.lit (.bool true)], args := [d1, d2] }
  | _ => none }
def fnExactCellsOfBothRow : OpenClaim := { program := "ytnpkfndopicdiaa", sum := "c41ef7a1cbb888c82e993c51444049463a8c4434e0be580e0b54a401f863593e", func := "loop.example/g01136/laws.FnExactCellsOfBoth", spec := "fnExactCellsOfBoth", recurses := true, apart := false }
def FnExactCellsOfBothSaid : Prop := fnExactCellsOfBothRow.holds Try.pinned (OpenSpec.ofChange fnExactCellsOfBothSpec)

/-- ITS FALSE NEIGHBOUR: 'it returns false'. Refute it at one input. -/
def fnExactCellsOfBothWrong : ChangeSpec := { name := "fnExactCellsOfBoth", fn := fun _ => fun
  | [d1, d2] => { results := [.lit (.bool false)], args := [d1, d2] }
  | _ => none }
def FnExactCellsOfBothWrongFalsely : Prop := fnExactCellsOfBothRow.holds Try.pinned (OpenSpec.ofChange fnExactCellsOfBothWrong)

/-- 'laws.FnExactCountTurned': WHATEVER THE INPUT: true; the input reads as it did. -/
def fnExactCountTurnedSpec : ChangeSpec := { name := "fnExactCountTurned", fn := fun _ => fun
  | [d1, d2] => { results := [.lit (.bool true)], args := [d1, d2] }
  | _ => none }
def fnExactCountTurnedRow : OpenClaim := { program := "ytnpkfndopicdiaa", sum := "c41ef7a1cbb888c82e993c51444049463a8c4434e0be580e0b54a401f863593e", func := "loop.example/g01136/laws.FnExactCountTurned", spec := "fnExactCountTurned", recurses := true, apart := false }
def FnExactCountTurnedSaid : Prop := fnExactCountTurnedRow.holds Try.pinned (OpenSpec.ofChange fnExactCountTurnedSpec)

/-- ITS FALSE NEIGHBOUR: 'it returns false'. Refute it at one input. -/
def fnExactCountTurnedWrong : ChangeSpec := { name := "fnExactCountTurned", fn := fun _ => fun
  | [d1, d2] => { results := [.lit (.bool false)], args := [d1, d2] }
  | _ => none }
def FnExactCountTurnedWrongFalsely : Prop := fnExactCountTurnedRow.holds Try.pinned (OpenSpec.ofChange fnExactCountTurnedWrong)

/-- 'laws.FnExactWalkOfBoth': WHATEVER THE INPUT: true; the input reads as it did. -/
def fnExactWalkOfBothSpec : ChangeSpec := { name := "fnExactWalkOfBoth", fn := fun _ => fun
  | [d1, d2, d3] => { results := [.lit (.bool true)], args := [d1, d2, d3] }
  | _ => none }
def fnExactWalkOfBothRow : OpenClaim := { program := "ytnpkfndopicdiaa", sum := "c41ef7a1cbb888c82e993c51444049463a8c4434e0be580e0b54a401f863593e", func := "loop.example/g01136/laws.FnExactWalkOfBoth", spec := "fnExactWalkOfBoth", unfollowed := true, recurses := true, apart := false }
def FnExactWalkOfBothSaid : Prop := fnExactWalkOfBothRow.holds Try.pinned (OpenSpec.ofChange fnExactWalkOfBothSpec)

/-- ITS FALSE NEIGHBOUR: 'it returns false'. Refute it at one input. -/
def fnExactWalkOfBothWrong : ChangeSpec := { name := "fnExactWalkOfBoth", fn := fun _ => fun
  | [d1, d2, d3] => { results := [.lit (.bool false)], args := [d1, d2, d3] }
  | _ => none }
def FnExactWalkOfBothWrongFalsely : Prop := fnExactWalkOfBothRow.holds Try.pinned (OpenSpec.ofChange fnExactWalkOfBothWrong)

/-- 'laws.FnExactBothOfWalk': WHATEVER THE INPUT: true; the input reads as it did. -/
def fnExactBothOfWalkSpec : ChangeSpec := { name := "fnExactBothOfWalk", fn := fun _ => fun
  | [d1, d2, d3] => { results := [.lit (.bool true)], args := [d1, d2, d3] }
  | _ => none }
def fnExactBothOfWalkRow : OpenClaim := { program := "ytnpkfndopicdiaa", sum := "c41ef7a1cbb888c82e993c51444049463a8c4434e0be580e0b54a401f863593e", func := "loop.example/g01136/laws.FnExactBothOfWalk", spec := "fnExactBothOfWalk", unfollowed := true, recurses := true, apart := false }
def FnExactBothOfWalkSaid : Prop := fnExactBothOfWalkRow.holds Try.pinned (OpenSpec.ofChange fnExactBothOfWalkSpec)

/-- ITS FALSE NEIGHBOUR: 'it returns false'. Refute it at one input. -/
def fnExactBothOfWalkWrong : ChangeSpec := { name := "fnExactBothOfWalk", fn := fun _ => fun
  | [d1, d2, d3] => { results := [.lit (.bool false)], args := [d1, d2, d3] }
  | _ => none }
def FnExactBothOfWalkWrongFalsely : Prop := fnExactBothOfWalkRow.holds Try.pinned (OpenSpec.ofChange fnExactBothOfWalkWrong)

/-- 'laws.FnExactBothAt': WHATEVER THE INPUT: true; the input reads as it did. -/
def fnExactBothAtSpec : ChangeSpec := { name := "fnExactBothAt", fn := fun _ => fun
  | [d1, d2, d3] => { results := [.lit (.bool true)], args := [d1, d2, d3] }
  | _ => none }
def fnExactBothAtRow : OpenClaim := { program := "ytnpkfndopicdiaa", sum := "c41ef7a1cbb888c82e993c51444049463a8c4434e0be580e0b54a401f863593e", func := "loop.example/g01136/laws.FnExactBothAt", spec := "fnExactBothAt", unfollowed := true, recurses := true, apart := false }
def FnExactBothAtSaid : Prop := fnExactBothAtRow.holds Try.pinned (OpenSpec.ofChange fnExactBothAtSpec)

/-- ITS FALSE NEIGHBOUR: 'it returns false'. Refute it at one input. -/
def fnExactBothAtWrong : ChangeSpec := { name := "fnExactBothAt", fn := fun _ => fun
  | [d1, d2, d3] => { results := [.lit (.bool false)], args := [d1, d2, d3] }
  | _ => none }
def FnExactBothAtWrongFalsely : Prop := fnExactBothAtRow.holds Try.pinned (OpenSpec.ofChange fnExactBothAtWrong)

/-- 'laws.FnExactRankBoth': WHATEVER THE INPUT: true; the input reads as it did. -/
def fnExactRankBothSpec : ChangeSpec := { name := "fnExactRankBoth", fn := fun _ => fun
  | [d1, d2, d3] => { results := [.lit (.bool true)], args := [d1, d2, d3] }
  | _ => none }
def fnExactRankBothRow : OpenClaim := { program := "ytnpkfndopicdiaa", sum := "c41ef7a1cbb888c82e993c51444049463a8c4434e0be580e0b54a401f863593e", func := "loop.example/g01136/laws.FnExactRankBoth", spec := "fnExactRankBoth", unfollowed := true, recurses := true, apart := false }
def FnExactRankBothSaid : Prop := fnExactRankBothRow.holds Try.pinned (OpenSpec.ofChange fnExactRankBothSpec)

/-- ITS FALSE NEIGHBOUR: 'it returns false'. Refute it at one input. -/
def fnExactRankBothWrong : ChangeSpec := { name := "fnExactRankBoth", fn := fun _ => fun
  | [d1, d2, d3] => { results := [.lit (.bool false)], args := [d1, d2, d3] }
  | _ => none }
def FnExactRankBothWrongFalsely : Prop := fnExactRankBothRow.holds Try.pinned (OpenSpec.ofChange fnExactRankBothWrong)

/-- 'laws.FnExactCoreWord': WHATEVER THE INPUT: true; the input reads as it did. -/
def fnExactCoreWordSpec : ChangeSpec := { name := "fnExactCoreWord", fn := fun _ => fun
  | [d1, d2] => { results := [.lit (.bool true)], args := [d1, d2] }
  | _ => none }
def fnExactCoreWordRow : OpenClaim := { program := "ytnpkfndopicdiaa", sum := "c41ef7a1cbb888c82e993c51444049463a8c4434e0be580e0b54a401f863593e", func := "loop.example/g01136/laws.FnExactCoreWord", spec := "fnExactCoreWord", unfollowed := true, recurses := true, apart := false }
def FnExactCoreWordSaid : Prop := fnExactCoreWordRow.holds Try.pinned (OpenSpec.ofChange fnExactCoreWordSpec)

/-- ITS FALSE NEIGHBOUR: 'it returns false'. Refute it at one input. -/
def fnExactCoreWordWrong : ChangeSpec := { name := "fnExactCoreWord", fn := fun _ => fun
  | [d1, d2] => { results := [.lit (.bool false)], args := [d1, d2] }
  | _ => none }
def FnExactCoreWordWrongFalsely : Prop := fnExactCoreWordRow.holds Try.pinned (OpenSpec.ofChange fnExactCoreWordWrong)

/-- 'laws.FnExactCoreByWord': WHATEVER THE INPUT: true; the input reads as it did. -/
def fnExactCoreByWordSpec : ChangeSpec := { name := "fnExactCoreByWord", fn := fun _ => fun
  | [d1, d2] => { results := [.lit (.bool true)], args := [d1, d2] }
  | _ => none }
def fnExactCoreByWordRow : OpenClaim := { program := "ytnpkfndopicdiaa", sum := "c41ef7a1cbb888c82e993c51444049463a8c4434e0be580e0b54a401f863593e", func := "loop.example/g01136/laws.FnExactCoreByWord", spec := "fnExactCoreByWord", unfollowed := true, recurses := true, apart := false }
def FnExactCoreByWordSaid : Prop := fnExactCoreByWordRow.holds Try.pinned (OpenSpec.ofChange fnExactCoreByWordSpec)

/-- ITS FALSE NEIGHBOUR: 'it returns false'. Refute it at one input. -/
def fnExactCoreByWordWrong : ChangeSpec := { name := "fnExactCoreByWord", fn := fun _ => fun
  | [d1, d2] => { results := [.lit (.bool false)], args := [d1, d2] }
  | _ => none }
def FnExactCoreByWordWrongFalsely : Prop := fnExactCoreByWordRow.holds Try.pinned (OpenSpec.ofChange fnExactCoreByWordWrong)

/-- 'laws.FnExactCoresWith': WHATEVER THE INPUT: true; the input reads as it did. -/
def fnExactCoresWithSpec : ChangeSpec := { name := "fnExactCoresWith", fn := fun _ => fun
  | [d1, d2] => { results := [.lit (.bool true)], args := [d1, d2] }
  | _ => none }
def fnExactCoresWithRow : OpenClaim := { program := "ytnpkfndopicdiaa", sum := "c41ef7a1cbb888c82e993c51444049463a8c4434e0be580e0b54a401f863593e", func := "loop.example/g01136/laws.FnExactCoresWith", spec := "fnExactCoresWith", unfollowed := true, recurses := true, apart := false }
def FnExactCoresWithSaid : Prop := fnExactCoresWithRow.holds Try.pinned (OpenSpec.ofChange fnExactCoresWithSpec)

/-- ITS FALSE NEIGHBOUR: 'it returns false'. Refute it at one input. -/
def fnExactCoresWithWrong : ChangeSpec := { name := "fnExactCoresWith", fn := fun _ => fun
  | [d1, d2] => { results := [.lit (.bool false)], args := [d1, d2] }
  | _ => none }
def FnExactCoresWithWrongFalsely : Prop := fnExactCoresWithRow.holds Try.pinned (OpenSpec.ofChange fnExactCoresWithWrong)

/-- 'laws.FnExactFromCore': WHATEVER THE INPUT: true; the input reads as it did. -/
def fnExactFromCoreSpec : ChangeSpec := { name := "fnExactFromCore", fn := fun _ => fun
  | [d1, d2] => { results := [.lit (.bool true)], args := [d1, d2] }
  | _ => none }
def fnExactFromCoreRow : OpenClaim := { program := "ytnpkfndopicdiaa", sum := "c41ef7a1cbb888c82e993c51444049463a8c4434e0be580e0b54a401f863593e", func := "loop.example/g01136/laws.FnExactFromCore", spec := "fnExactFromCore", unfollowed := true, recurses := true, apart := false }
def FnExactFromCoreSaid : Prop := fnExactFromCoreRow.holds Try.pinned (OpenSpec.ofChange fnExactFromCoreSpec)

/-- ITS FALSE NEIGHBOUR: 'it returns false'. Refute it at one input. -/
def fnExactFromCoreWrong : ChangeSpec := { name := "fnExactFromCore", fn := fun _ => fun
  | [d1, d2] => { results := [.lit (.bool false)], args := [d1, d2] }
  | _ => none }
def FnExactFromCoreWrongFalsely : Prop := fnExactFromCoreRow.holds Try.pinned (OpenSpec.ofChange fnExactFromCoreWrong)

/-- 'laws.FnExactAddedRims': WHATEVER THE INPUT: true; the input reads as it did. -/
def fnExactAddedRimsSpec : ChangeSpec := { name := "fnExactAddedRims", fn := fun _ => fun
  | [d1, d2] => { results := [.lit (.bool true)], args := [d1, d2] }
  | _ => none }
def fnExactAddedRimsRow : OpenClaim := { program := "ytnpkfndopicdiaa", sum := "c41ef7a1cbb888c82e993c51444049463a8c4434e0be580e0b54a401f863593e", func := "loop.example/g01136/laws.FnExactAddedRims", spec := "fnExactAddedRims", unfollowed := true, recurses := true, apart := false }
def FnExactAddedRimsSaid : Prop := fnExactAddedRimsRow.holds Try.pinned (OpenSpec.ofChange fnExactAddedRimsSpec)

/-- ITS FALSE NEIGHBOUR: 'it returns false'. Refute it at one input. -/
def fnExactAddedRimsWrong : ChangeSpec := { name := "fnExactAddedRims", fn := fun _ => fun
  | [d1, d2] => { results := [.lit (.bool false)], args := [d1, d2] }
  | _ => none }
def FnExactAddedRimsWrongFalsely : Prop := fnExactAddedRimsRow.holds Try.pinned (OpenSpec.ofChange fnExactAddedRimsWrong)

/-- 'laws.FnExactBlockOf': WHATEVER THE INPUT: true; the input reads as it did. -/
def fnExactBlockOfSpec : ChangeSpec := { name := "fnExactBlockOf", fn := fun _ => fun
  | [d1, d2, d3] => { results := [.lit (.bool true)], args := [d1, d2, d3] }
  | _ => none }
def fnExactBlockOfRow : OpenClaim := { program := "ytnpkfndopicdiaa", sum := "c41ef7a1cbb888c82e993c51444049463a8c4434e0be580e0b54a401f863593e", func := "loop.example/g01136/laws.FnExactBlockOf", spec := "fnExactBlockOf", unfollowed := true, recurses := true, apart := false }
def FnExactBlockOfSaid : Prop := fnExactBlockOfRow.holds Try.pinned (OpenSpec.ofChange fnExactBlockOfSpec)

/-- ITS FALSE NEIGHBOUR: 'it returns false'. Refute it at one input. -/
def fnExactBlockOfWrong : ChangeSpec := { name := "fnExactBlockOf", fn := fun _ => fun
  | [d1, d2, d3] => { results := [.lit (.bool false)], args := [d1, d2, d3] }
  | _ => none }
def FnExactBlockOfWrongFalsely : Prop := fnExactBlockOfRow.holds Try.pinned (OpenSpec.ofChange fnExactBlockOfWrong)

/-- 'laws.FnExactCountRuns': WHATEVER THE INPUT: true; the input reads as it did. -/
def fnExactCountRunsSpec : ChangeSpec := { name := "fnExactCountRuns", fn := fun _ => fun
  | [d1, d2] => { results := [.lit (.bool true)], args := [d1, d2] }
  | _ => none }
def fnExactCountRunsRow : OpenClaim := { program := "ytnpkfndopicdiaa", sum := "c41ef7a1cbb888c82e993c51444049463a8c4434e0be580e0b54a401f863593e", func := "loop.example/g01136/laws.FnExactCountRuns", spec := "fnExactCountRuns", unfollowed := true, recurses := true, apart := false }
def FnExactCountRunsSaid : Prop := fnExactCountRunsRow.holds Try.pinned (OpenSpec.ofChange fnExactCountRunsSpec)

/-- ITS FALSE NEIGHBOUR: 'it returns false'. Refute it at one input. -/
def fnExactCountRunsWrong : ChangeSpec := { name := "fnExactCountRuns", fn := fun _ => fun
  | [d1, d2] => { results := [.lit (.bool false)], args := [d1, d2] }
  | _ => none }
def FnExactCountRunsWrongFalsely : Prop := fnExactCountRunsRow.holds Try.pinned (OpenSpec.ofChange fnExactCountRunsWrong)

/- THE SECOND FORM. 'bulk': how many values and letters a reading holds, each counted each time it is reached (what is shared counts as often as it is met; a slice's spare places count too). A statement '..UptoSaid' is the law's where the arguments, and the package variables that the reading takes, are together of bulk at most 1048576: NARROWER than '..Said'. Prove '..Said' where nothing that the law and all that it calls make is longer than what came in: it says more and counts as full. Else prove '..UptoSaid'. A law counts once. -/
mutual
def uptoBulk {H : Type} : DataW H → Nat
  | .lit (.string bytes) => bytes.length + 1
  | .lit _ => 1
  | .nil => 1
  | .ptr d => uptoBulk d + 1
  | .slice elems spare => uptoBulkAll elems + uptoBulkAll spare + 1
  | .agg parts => uptoBulkAll parts + 1
  | .iface _ d => uptoBulk d + 1
  | .map entries => uptoBulkEntries entries + 1
  | .held _ => 1
def uptoBulkAll {H : Type} : List (DataW H) → Nat
  | [] => 0
  | d :: r => uptoBulk d + uptoBulkAll r
def uptoBulkEntries {H : Type} : List (Lit × DataW H) → Nat
  | [] => 0
  | x :: r => uptoBulkEntry x + uptoBulkEntries r
def uptoBulkEntry {H : Type} : Lit × DataW H → Nat
  | (.string bytes, d) => bytes.length + uptoBulk d + 1
  | (_, d) => uptoBulk d + 1
 end
def uptoSmall : (H : Type) → List (DataW H) → Bool := fun _ ds => decide (uptoBulkAll ds ≤ 1048576)
def OpenSpec.upto (s : _root_.Go.ChangeSpec) : _root_.Go.OpenSpec := { _root_.Go.OpenSpec.ofChange s with cond := some uptoSmall }

/-- 'laws.FnExactAreSizes', WHERE WHAT IT READS IS OF BULK AT MOST 1048576: true; the input reads as it did. -/
def fnExactAreSizesUptoRow : OpenClaim := { program := "ytnpkfndopicdiaa", sum := "c41ef7a1cbb888c82e993c51444049463a8c4434e0be580e0b54a401f863593e", func := "loop.example/g01136/laws.FnExactAreSizes", spec := "fnExactAreSizes", apart := false, narrowed := true }
def FnExactAreSizesUptoSaid : Prop := fnExactAreSizesUptoRow.holds Try.pinned (OpenSpec.upto fnExactAreSizesSpec)

/-- 'laws.FnExactGapsOf', WHERE WHAT IT READS IS OF BULK AT MOST 1048576: true; the input reads as it did. -/
def fnExactGapsOfUptoRow : OpenClaim := { program := "ytnpkfndopicdiaa", sum := "c41ef7a1cbb888c82e993c51444049463a8c4434e0be580e0b54a401f863593e", func := "loop.example/g01136/laws.FnExactGapsOf", spec := "fnExactGapsOf", apart := false, narrowed := true }
def FnExactGapsOfUptoSaid : Prop := fnExactGapsOfUptoRow.holds Try.pinned (OpenSpec.upto fnExactGapsOfSpec)

/-- 'laws.FnExactFirstHooks', WHERE WHAT IT READS IS OF BULK AT MOST 1048576: true; the input reads as it did. -/
def fnExactFirstHooksUptoRow : OpenClaim := { program := "ytnpkfndopicdiaa", sum := "c41ef7a1cbb888c82e993c51444049463a8c4434e0be580e0b54a401f863593e", func := "loop.example/g01136/laws.FnExactFirstHooks", spec := "fnExactFirstHooks", unfollowed := true, recurses := true, apart := false, narrowed := true }
def FnExactFirstHooksUptoSaid : Prop := fnExactFirstHooksUptoRow.holds Try.pinned (OpenSpec.upto fnExactFirstHooksSpec)

/-- 'laws.FnExactFromFirstHooks', WHERE WHAT IT READS IS OF BULK AT MOST 1048576: true; the input reads as it did. -/
def fnExactFromFirstHooksUptoRow : OpenClaim := { program := "ytnpkfndopicdiaa", sum := "c41ef7a1cbb888c82e993c51444049463a8c4434e0be580e0b54a401f863593e", func := "loop.example/g01136/laws.FnExactFromFirstHooks", spec := "fnExactFromFirstHooks", unfollowed := true, recurses := true, apart := false, narrowed := true }
def FnExactFromFirstHooksUptoSaid : Prop := fnExactFromFirstHooksUptoRow.holds Try.pinned (OpenSpec.upto fnExactFromFirstHooksSpec)

/-- 'laws.FnExactIsBothCore', WHERE WHAT IT READS IS OF BULK AT MOST 1048576: true; the input reads as it did. -/
def fnExactIsBothCoreUptoRow : OpenClaim := { program := "ytnpkfndopicdiaa", sum := "c41ef7a1cbb888c82e993c51444049463a8c4434e0be580e0b54a401f863593e", func := "loop.example/g01136/laws.FnExactIsBothCore", spec := "fnExactIsBothCore", unfollowed := true, recurses := true, apart := false, narrowed := true }
def FnExactIsBothCoreUptoSaid : Prop := fnExactIsBothCoreUptoRow.holds Try.pinned (OpenSpec.upto fnExactIsBothCoreSpec)

/-- 'laws.FnExactAreClosedHooks', WHERE WHAT IT READS IS OF BULK AT MOST 1048576: true; the input reads as it did. -/
def fnExactAreClosedHooksUptoRow : OpenClaim := { program := "ytnpkfndopicdiaa", sum := "c41ef7a1cbb888c82e993c51444049463a8c4434e0be580e0b54a401f863593e", func := "loop.example/g01136/laws.FnExactAreClosedHooks", spec := "fnExactAreClosedHooks", apart := false, narrowed := true }
def FnExactAreClosedHooksUptoSaid : Prop := fnExactAreClosedHooksUptoRow.holds Try.pinned (OpenSpec.upto fnExactAreClosedHooksSpec)

/-- 'laws.FnExactAllBoth', WHERE WHAT IT READS IS OF BULK AT MOST 1048576: true; the input reads as it did. -/
def fnExactAllBothUptoRow : OpenClaim := { program := "ytnpkfndopicdiaa", sum := "c41ef7a1cbb888c82e993c51444049463a8c4434e0be580e0b54a401f863593e", func := "loop.example/g01136/laws.FnExactAllBoth", spec := "fnExactAllBoth", unfollowed := true, recurses := true, apart := false, narrowed := true }
def FnExactAllBothUptoSaid : Prop := fnExactAllBothUptoRow.holds Try.pinned (OpenSpec.upto fnExactAllBothSpec)

/-- 'laws.FnExactCountBoth', WHERE WHAT IT READS IS OF BULK AT MOST 1048576: true; the input reads as it did. -/
def fnExactCountBothUptoRow : OpenClaim := { program := "ytnpkfndopicdiaa", sum := "c41ef7a1cbb888c82e993c51444049463a8c4434e0be580e0b54a401f863593e", func := "loop.example/g01136/laws.FnExactCountBoth", spec := "fnExactCountBoth", apart := false, narrowed := true }
def FnExactCountBothUptoSaid : Prop := fnExactCountBothUptoRow.holds Try.pinned (OpenSpec.upto fnExactCountBothSpec)

/-- 'laws.FnExactGreatestBoth', WHERE WHAT IT READS IS OF BULK AT MOST 1048576: true; the input reads as it did. -/
def fnExactGreatestBothUptoRow : OpenClaim := { program := "ytnpkfndopicdiaa", sum := "c41ef7a1cbb888c82e993c51444049463a8c4434e0be580e0b54a401f863593e", func := "loop.example/g01136/laws.FnExactGreatestBoth", spec := "fnExactGreatestBoth", unfollowed := true, recurses := true, apart := false, narrowed := true }
def FnExactGreatestBothUptoSaid : Prop := fnExactGreatestBothUptoRow.holds Try.pinned (OpenSpec.upto fnExactGreatestBothSpec)

/-- 'laws.FnExactCellsOfBoth', WHERE WHAT IT READS IS OF BULK AT MOST 1048576: true; the input reads as it did. -/
def fnExactCellsOfBothUptoRow : OpenClaim := { program := "ytnpkfndopicdiaa", sum := "c41ef7a1cbb888c82e993c51444049463a8c4434e0be580e0b54a401f863593e", func := "loop.example/g01136/laws.FnExactCellsOfBoth", spec := "fnExactCellsOfBoth", recurses := true, apart := false, narrowed := true }
def FnExactCellsOfBothUptoSaid : Prop := fnExactCellsOfBothUptoRow.holds Try.pinned (OpenSpec.upto fnExactCellsOfBothSpec)

/-- 'laws.FnExactCountTurned', WHERE WHAT IT READS IS OF BULK AT MOST 1048576: true; the input reads as it did. -/
def fnExactCountTurnedUptoRow : OpenClaim := { program := "ytnpkfndopicdiaa", sum := "c41ef7a1cbb888c82e993c51444049463a8c4434e0be580e0b54a401f863593e", func := "loop.example/g01136/laws.FnExactCountTurned", spec := "fnExactCountTurned", recurses := true, apart := false, narrowed := true }
def FnExactCountTurnedUptoSaid : Prop := fnExactCountTurnedUptoRow.holds Try.pinned (OpenSpec.upto fnExactCountTurnedSpec)

/-- 'laws.FnExactWalkOfBoth', WHERE WHAT IT READS IS OF BULK AT MOST 1048576: true; the input reads as it did. -/
def fnExactWalkOfBothUptoRow : OpenClaim := { program := "ytnpkfndopicdiaa", sum := "c41ef7a1cbb888c82e993c51444049463a8c4434e0be580e0b54a401f863593e", func := "loop.example/g01136/laws.FnExactWalkOfBoth", spec := "fnExactWalkOfBoth", unfollowed := true, recurses := true, apart := false, narrowed := true }
def FnExactWalkOfBothUptoSaid : Prop := fnExactWalkOfBothUptoRow.holds Try.pinned (OpenSpec.upto fnExactWalkOfBothSpec)

/-- 'laws.FnExactBothOfWalk', WHERE WHAT IT READS IS OF BULK AT MOST 1048576: true; the input reads as it did. -/
def fnExactBothOfWalkUptoRow : OpenClaim := { program := "ytnpkfndopicdiaa", sum := "c41ef7a1cbb888c82e993c51444049463a8c4434e0be580e0b54a401f863593e", func := "loop.example/g01136/laws.FnExactBothOfWalk", spec := "fnExactBothOfWalk", unfollowed := true, recurses := true, apart := false, narrowed := true }
def FnExactBothOfWalkUptoSaid : Prop := fnExactBothOfWalkUptoRow.holds Try.pinned (OpenSpec.upto fnExactBothOfWalkSpec)

/-- 'laws.FnExactBothAt', WHERE WHAT IT READS IS OF BULK AT MOST 1048576: true; the input reads as it did. -/
def fnExactBothAtUptoRow : OpenClaim := { program := "ytnpkfndopicdiaa", sum := "c41ef7a1cbb888c82e993c51444049463a8c4434e0be580e0b54a401f863593e", func := "loop.example/g01136/laws.FnExactBothAt", spec := "fnExactBothAt", unfollowed := true, recurses := true, apart := false, narrowed := true }
def FnExactBothAtUptoSaid : Prop := fnExactBothAtUptoRow.holds Try.pinned (OpenSpec.upto fnExactBothAtSpec)

/-- 'laws.FnExactRankBoth', WHERE WHAT IT READS IS OF BULK AT MOST 1048576: true; the input reads as it did. -/
def fnExactRankBothUptoRow : OpenClaim := { program := "ytnpkfndopicdiaa", sum := "c41ef7a1cbb888c82e993c51444049463a8c4434e0be580e0b54a401f863593e", func := "loop.example/g01136/laws.FnExactRankBoth", spec := "fnExactRankBoth", unfollowed := true, recurses := true, apart := false, narrowed := true }
def FnExactRankBothUptoSaid : Prop := fnExactRankBothUptoRow.holds Try.pinned (OpenSpec.upto fnExactRankBothSpec)

/-- 'laws.FnExactCoreWord', WHERE WHAT IT READS IS OF BULK AT MOST 1048576: true; the input reads as it did. -/
def fnExactCoreWordUptoRow : OpenClaim := { program := "ytnpkfndopicdiaa", sum := "c41ef7a1cbb888c82e993c51444049463a8c4434e0be580e0b54a401f863593e", func := "loop.example/g01136/laws.FnExactCoreWord", spec := "fnExactCoreWord", unfollowed := true, recurses := true, apart := false, narrowed := true }
def FnExactCoreWordUptoSaid : Prop := fnExactCoreWordUptoRow.holds Try.pinned (OpenSpec.upto fnExactCoreWordSpec)

/-- 'laws.FnExactCoreByWord', WHERE WHAT IT READS IS OF BULK AT MOST 1048576: true; the input reads as it did. -/
def fnExactCoreByWordUptoRow : OpenClaim := { program := "ytnpkfndopicdiaa", sum := "c41ef7a1cbb888c82e993c51444049463a8c4434e0be580e0b54a401f863593e", func := "loop.example/g01136/laws.FnExactCoreByWord", spec := "fnExactCoreByWord", unfollowed := true, recurses := true, apart := false, narrowed := true }
def FnExactCoreByWordUptoSaid : Prop := fnExactCoreByWordUptoRow.holds Try.pinned (OpenSpec.upto fnExactCoreByWordSpec)

/-- 'laws.FnExactCoresWith', WHERE WHAT IT READS IS OF BULK AT MOST 1048576: true; the input reads as it did. -/
def fnExactCoresWithUptoRow : OpenClaim := { program := "ytnpkfndopicdiaa", sum := "c41ef7a1cbb888c82e993c51444049463a8c4434e0be580e0b54a401f863593e", func := "loop.example/g01136/laws.FnExactCoresWith", spec := "fnExactCoresWith", unfollowed := true, recurses := true, apart := false, narrowed := true }
def FnExactCoresWithUptoSaid : Prop := fnExactCoresWithUptoRow.holds Try.pinned (OpenSpec.upto fnExactCoresWithSpec)

/-- 'laws.FnExactFromCore', WHERE WHAT IT READS IS OF BULK AT MOST 1048576: true; the input reads as it did. -/
def fnExactFromCoreUptoRow : OpenClaim := { program := "ytnpkfndopicdiaa", sum := "c41ef7a1cbb888c82e993c51444049463a8c4434e0be580e0b54a401f863593e", func := "loop.example/g01136/laws.FnExactFromCore", spec := "fnExactFromCore", unfollowed := true, recurses := true, apart := false, narrowed := true }
def FnExactFromCoreUptoSaid : Prop := fnExactFromCoreUptoRow.holds Try.pinned (OpenSpec.upto fnExactFromCoreSpec)

/-- 'laws.FnExactAddedRims', WHERE WHAT IT READS IS OF BULK AT MOST 1048576: true; the input reads as it did. -/
def fnExactAddedRimsUptoRow : OpenClaim := { program := "ytnpkfndopicdiaa", sum := "c41ef7a1cbb888c82e993c51444049463a8c4434e0be580e0b54a401f863593e", func := "loop.example/g01136/laws.FnExactAddedRims", spec := "fnExactAddedRims", unfollowed := true, recurses := true, apart := false, narrowed := true }
def FnExactAddedRimsUptoSaid : Prop := fnExactAddedRimsUptoRow.holds Try.pinned (OpenSpec.upto fnExactAddedRimsSpec)

/-- 'laws.FnExactBlockOf', WHERE WHAT IT READS IS OF BULK AT MOST 1048576: true; the input reads as it did. -/
def fnExactBlockOfUptoRow : OpenClaim := { program := "ytnpkfndopicdiaa", sum := "c41ef7a1cbb888c82e993c51444049463a8c4434e0be580e0b54a401f863593e", func := "loop.example/g01136/laws.FnExactBlockOf", spec := "fnExactBlockOf", unfollowed := true, recurses := true, apart := false, narrowed := true }
def FnExactBlockOfUptoSaid : Prop := fnExactBlockOfUptoRow.holds Try.pinned (OpenSpec.upto fnExactBlockOfSpec)

/-- 'laws.FnExactCountRuns', WHERE WHAT IT READS IS OF BULK AT MOST 1048576: true; the input reads as it did. -/
def fnExactCountRunsUptoRow : OpenClaim := { program := "ytnpkfndopicdiaa", sum := "c41ef7a1cbb888c82e993c51444049463a8c4434e0be580e0b54a401f863593e", func := "loop.example/g01136/laws.FnExactCountRuns", spec := "fnExactCountRuns", unfollowed := true, recurses := true, apart := false, narrowed := true }
def FnExactCountRunsUptoSaid : Prop := fnExactCountRunsUptoRow.holds Try.pinned (OpenSpec.upto fnExactCountRunsSpec)

end Rows
end Go.Proofs.Ytnpkfndopicdiaa
