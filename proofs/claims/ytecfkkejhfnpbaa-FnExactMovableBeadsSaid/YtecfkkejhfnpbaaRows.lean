/-
  No cell of these rows narrows 'for every input' (looked for: loops, veiled, ifaces, maps, wideKeys, modest, calm, conditions, laid).
  DERIVED. THE GIVEN ROWS OF THIS SEAT. 22 by the template 'for every input the law returns true; each argument reads behind the call as it read before'; 0 by the template 'total and deterministic' (their statements: YtecfkkejhfnpbaaTotals.lean).
  GIVEN WITH THE SEED: the statements are not yours to turn. If you find one false, say at which input.
  Laid BY PROGRAM, IN A SANDBOX (cutbox-rows.mjs): the forced cells as the released guide's own fill.sh prints them over the translation 0ba90bfe588c8dd3… (all of the seat's roots in one cut). By AI agents, Wed Nov 11 2026. No macro, syntax, notation, axiom, sorry.
-/
import Derived.Test.YtecfkkejhfnpbaaChecked
import GoSem.Claim
import GoSem.ClaimJoined
import GoSem.ClaimMapViews
import Derived.JoinedTies
import Derived.KernelRfl
namespace Go.Proofs.Ytecfkkejhfnpbaa
/- THE CELL 'sum', in the pinned program and in every row, IS THE sha256 OF THE DUMP (.gsa) THAT YtecfkkejhfnpbaaProg.lean LOADS. Nothing in Lean hashes anything: it is a label: what it is worth is what the hold of that sum in a sandbox is worth. -/
noncomputable def Try.pinned : Pinned := { name := "ytecfkkejhfnpbaa", sum := "0ba90bfe588c8dd338b57972a823b674506a6f63ecde503b82022996e86988ef", checked := Try.checked }
namespace Rows
def none {H : Type} : Left H := { results := [], args := [] }

/-- 'laws.FnExactRunnersOf': WHATEVER THE INPUT: true; the input reads as it did. -/
def fnExactRunnersOfSpec : ChangeSpec := { name := "fnExactRunnersOf", fn := fun _ => fun
  | [d] => { results := [.lit (.bool true)], args := [d] }
  | _ => none }
def fnExactRunnersOfRow : OpenClaim := { program := "ytecfkkejhfnpbaa", sum := "0ba90bfe588c8dd338b57972a823b674506a6f63ecde503b82022996e86988ef", func := "loop.example/g01136/laws.FnExactRunnersOf", spec := "fnExactRunnersOf", unfollowed := true, recurses := true, apart := false }
def FnExactRunnersOfSaid : Prop := fnExactRunnersOfRow.holds Try.pinned (OpenSpec.ofChange fnExactRunnersOfSpec)

/-- ITS FALSE NEIGHBOUR: 'it returns false'. Refute it at one input. -/
def fnExactRunnersOfWrong : ChangeSpec := { name := "fnExactRunnersOf", fn := fun _ => fun
  | [d] => { results := [.lit (.bool false)], args := [d] }
  | _ => none }
def FnExactRunnersOfWrongFalsely : Prop := fnExactRunnersOfRow.holds Try.pinned (OpenSpec.ofChange fnExactRunnersOfWrong)

/-- 'laws.FnExactFromRunners': WHATEVER THE INPUT: true; the input reads as it did. -/
def fnExactFromRunnersSpec : ChangeSpec := { name := "fnExactFromRunners", fn := fun _ => fun
  | [d] => { results := [.lit (.bool true)], args := [d] }
  | _ => none }
def fnExactFromRunnersRow : OpenClaim := { program := "ytecfkkejhfnpbaa", sum := "0ba90bfe588c8dd338b57972a823b674506a6f63ecde503b82022996e86988ef", func := "loop.example/g01136/laws.FnExactFromRunners", spec := "fnExactFromRunners", unfollowed := true, recurses := true, apart := false }
def FnExactFromRunnersSaid : Prop := fnExactFromRunnersRow.holds Try.pinned (OpenSpec.ofChange fnExactFromRunnersSpec)

/-- ITS FALSE NEIGHBOUR: 'it returns false'. Refute it at one input. -/
def fnExactFromRunnersWrong : ChangeSpec := { name := "fnExactFromRunners", fn := fun _ => fun
  | [d] => { results := [.lit (.bool false)], args := [d] }
  | _ => none }
def FnExactFromRunnersWrongFalsely : Prop := fnExactFromRunnersRow.holds Try.pinned (OpenSpec.ofChange fnExactFromRunnersWrong)

/-- 'laws.FnExactMoveBead': WHATEVER THE INPUT: true; the input reads as it did. -/
def fnExactMoveBeadSpec : ChangeSpec := { name := "fnExactMoveBead", fn := fun _ => fun
  | [d1, d2] => { results := [.lit (.bool true)], args := [d1, d2] }
  | _ => none }
def fnExactMoveBeadRow : OpenClaim := { program := "ytecfkkejhfnpbaa", sum := "0ba90bfe588c8dd338b57972a823b674506a6f63ecde503b82022996e86988ef", func := "loop.example/g01136/laws.FnExactMoveBead", spec := "fnExactMoveBead", unfollowed := true, recurses := true, apart := false }
def FnExactMoveBeadSaid : Prop := fnExactMoveBeadRow.holds Try.pinned (OpenSpec.ofChange fnExactMoveBeadSpec)

/-- ITS FALSE NEIGHBOUR: 'it returns false'. Refute it at one input. -/
def fnExactMoveBeadWrong : ChangeSpec := { name := "fnExactMoveBead", fn := fun _ => fun
  | [d1, d2] => { results := [.lit (.bool false)], args := [d1, d2] }
  | _ => none }
def FnExactMoveBeadWrongFalsely : Prop := fnExactMoveBeadRow.holds Try.pinned (OpenSpec.ofChange fnExactMoveBeadWrong)

/-- 'laws.FnExactLiftBead': WHATEVER THE INPUT: true; the input reads as it did. -/
def fnExactLiftBeadSpec : ChangeSpec := { name := "fnExactLiftBead", fn := fun _ => fun
  | [d1, d2] => { results := [.lit (.bool true)], args := [d1, d2] }
  | _ => none }
def fnExactLiftBeadRow : OpenClaim := { program := "ytecfkkejhfnpbaa", sum := "0ba90bfe588c8dd338b57972a823b674506a6f63ecde503b82022996e86988ef", func := "loop.example/g01136/laws.FnExactLiftBead", spec := "fnExactLiftBead", unfollowed := true, recurses := true, apart := false }
def FnExactLiftBeadSaid : Prop := fnExactLiftBeadRow.holds Try.pinned (OpenSpec.ofChange fnExactLiftBeadSpec)

/-- ITS FALSE NEIGHBOUR: 'it returns false'. Refute it at one input. -/
def fnExactLiftBeadWrong : ChangeSpec := { name := "fnExactLiftBead", fn := fun _ => fun
  | [d1, d2] => { results := [.lit (.bool false)], args := [d1, d2] }
  | _ => none }
def FnExactLiftBeadWrongFalsely : Prop := fnExactLiftBeadRow.holds Try.pinned (OpenSpec.ofChange fnExactLiftBeadWrong)

/-- 'laws.FnExactPushDown': WHATEVER THE INPUT: true; the input reads as it did. -/
def fnExactPushDownSpec : ChangeSpec := { name := "fnExactPushDown", fn := fun _ => fun
  | [d] => { results := [.lit (.bool true)], args := [d] }
  | _ => none }
def fnExactPushDownRow : OpenClaim := { program := "ytecfkkejhfnpbaa", sum := "0ba90bfe588c8dd338b57972a823b674506a6f63ecde503b82022996e86988ef", func := "loop.example/g01136/laws.FnExactPushDown", spec := "fnExactPushDown", unfollowed := true, recurses := true, apart := false }
def FnExactPushDownSaid : Prop := fnExactPushDownRow.holds Try.pinned (OpenSpec.ofChange fnExactPushDownSpec)

/-- ITS FALSE NEIGHBOUR: 'it returns false'. Refute it at one input. -/
def fnExactPushDownWrong : ChangeSpec := { name := "fnExactPushDown", fn := fun _ => fun
  | [d] => { results := [.lit (.bool false)], args := [d] }
  | _ => none }
def FnExactPushDownWrongFalsely : Prop := fnExactPushDownRow.holds Try.pinned (OpenSpec.ofChange fnExactPushDownWrong)

/-- 'laws.FnExactMovableBeads': WHATEVER THE INPUT: true; the input reads as it did. -/
def fnExactMovableBeadsSpec : ChangeSpec := { name := "fnExactMovableBeads", fn := fun _ => fun
  | [d] => { results := [.lit (.bool true)], args := [d] }
  | _ => none }
def fnExactMovableBeadsRow : OpenClaim := { program := "ytecfkkejhfnpbaa", sum := "0ba90bfe588c8dd338b57972a823b674506a6f63ecde503b82022996e86988ef", func := "loop.example/g01136/laws.FnExactMovableBeads", spec := "fnExactMovableBeads", unfollowed := true, recurses := true, apart := false }
def FnExactMovableBeadsSaid : Prop := fnExactMovableBeadsRow.holds Try.pinned (OpenSpec.ofChange fnExactMovableBeadsSpec)

/-- ITS FALSE NEIGHBOUR: 'it returns false'. Refute it at one input. -/
def fnExactMovableBeadsWrong : ChangeSpec := { name := "fnExactMovableBeads", fn := fun _ => fun
  | [d] => { results := [.lit (.bool false)], args := [d] }
  | _ => none }
def FnExactMovableBeadsWrongFalsely : Prop := fnExactMovableBeadsRow.holds Try.pinned (OpenSpec.ofChange fnExactMovableBeadsWrong)

/-- 'laws.FnExactFromMaya': WHATEVER THE INPUT: true; the input reads as it did. -/
def fnExactFromMayaSpec : ChangeSpec := { name := "fnExactFromMaya", fn := fun _ => fun
  | [d] => { results := [.lit (.bool true)], args := [d] }
  | _ => none }
def fnExactFromMayaRow : OpenClaim := { program := "ytecfkkejhfnpbaa", sum := "0ba90bfe588c8dd338b57972a823b674506a6f63ecde503b82022996e86988ef", func := "loop.example/g01136/laws.FnExactFromMaya", spec := "fnExactFromMaya", unfollowed := true, recurses := true, apart := false }
def FnExactFromMayaSaid : Prop := fnExactFromMayaRow.holds Try.pinned (OpenSpec.ofChange fnExactFromMayaSpec)

/-- ITS FALSE NEIGHBOUR: 'it returns false'. Refute it at one input. -/
def fnExactFromMayaWrong : ChangeSpec := { name := "fnExactFromMaya", fn := fun _ => fun
  | [d] => { results := [.lit (.bool false)], args := [d] }
  | _ => none }
def FnExactFromMayaWrongFalsely : Prop := fnExactFromMayaRow.holds Try.pinned (OpenSpec.ofChange fnExactFromMayaWrong)

/-- 'laws.FnExactRimCells': WHATEVER THE INPUT: true; the input reads as it did. -/
def fnExactRimCellsSpec : ChangeSpec := { name := "fnExactRimCells", fn := fun _ => fun
  | [d1, d2] => { results := [.lit (.bool true)], args := [d1, d2] }
  | _ => none }
def fnExactRimCellsRow : OpenClaim := { program := "ytecfkkejhfnpbaa", sum := "0ba90bfe588c8dd338b57972a823b674506a6f63ecde503b82022996e86988ef", func := "loop.example/g01136/laws.FnExactRimCells", spec := "fnExactRimCells", unfollowed := true, recurses := true, apart := false }
def FnExactRimCellsSaid : Prop := fnExactRimCellsRow.holds Try.pinned (OpenSpec.ofChange fnExactRimCellsSpec)

/-- ITS FALSE NEIGHBOUR: 'it returns false'. Refute it at one input. -/
def fnExactRimCellsWrong : ChangeSpec := { name := "fnExactRimCells", fn := fun _ => fun
  | [d1, d2] => { results := [.lit (.bool false)], args := [d1, d2] }
  | _ => none }
def FnExactRimCellsWrongFalsely : Prop := fnExactRimCellsRow.holds Try.pinned (OpenSpec.ofChange fnExactRimCellsWrong)

/-- 'laws.FnExactTakeRim': WHATEVER THE INPUT: true; the input reads as it did. -/
def fnExactTakeRimSpec : ChangeSpec := { name := "fnExactTakeRim", fn := fun _ => fun
  | [d1, d2, d3] => { results := [.lit (.bool true)], args := [d1, d2, d3] }
  | _ => none }
def fnExactTakeRimRow : OpenClaim := { program := "ytecfkkejhfnpbaa", sum := "0ba90bfe588c8dd338b57972a823b674506a6f63ecde503b82022996e86988ef", func := "loop.example/g01136/laws.FnExactTakeRim", spec := "fnExactTakeRim", unfollowed := true, recurses := true, apart := false }
def FnExactTakeRimSaid : Prop := fnExactTakeRimRow.holds Try.pinned (OpenSpec.ofChange fnExactTakeRimSpec)

/-- ITS FALSE NEIGHBOUR: 'it returns false'. Refute it at one input. -/
def fnExactTakeRimWrong : ChangeSpec := { name := "fnExactTakeRim", fn := fun _ => fun
  | [d1, d2, d3] => { results := [.lit (.bool false)], args := [d1, d2, d3] }
  | _ => none }
def FnExactTakeRimWrongFalsely : Prop := fnExactTakeRimRow.holds Try.pinned (OpenSpec.ofChange fnExactTakeRimWrong)

/-- 'laws.FnExactAddedRims': WHATEVER THE INPUT: true; the input reads as it did. -/
def fnExactAddedRimsSpec : ChangeSpec := { name := "fnExactAddedRims", fn := fun _ => fun
  | [d1, d2] => { results := [.lit (.bool true)], args := [d1, d2] }
  | _ => none }
def fnExactAddedRimsRow : OpenClaim := { program := "ytecfkkejhfnpbaa", sum := "0ba90bfe588c8dd338b57972a823b674506a6f63ecde503b82022996e86988ef", func := "loop.example/g01136/laws.FnExactAddedRims", spec := "fnExactAddedRims", unfollowed := true, recurses := true, apart := false }
def FnExactAddedRimsSaid : Prop := fnExactAddedRimsRow.holds Try.pinned (OpenSpec.ofChange fnExactAddedRimsSpec)

/-- ITS FALSE NEIGHBOUR: 'it returns false'. Refute it at one input. -/
def fnExactAddedRimsWrong : ChangeSpec := { name := "fnExactAddedRims", fn := fun _ => fun
  | [d1, d2] => { results := [.lit (.bool false)], args := [d1, d2] }
  | _ => none }
def FnExactAddedRimsWrongFalsely : Prop := fnExactAddedRimsRow.holds Try.pinned (OpenSpec.ofChange fnExactAddedRimsWrong)

/-- 'laws.FnExactCoreOf': WHATEVER THE INPUT: true; the input reads as it did. -/
def fnExactCoreOfSpec : ChangeSpec := { name := "fnExactCoreOf", fn := fun _ => fun
  | [d1, d2] => { results := [.lit (.bool true)], args := [d1, d2] }
  | _ => none }
def fnExactCoreOfRow : OpenClaim := { program := "ytecfkkejhfnpbaa", sum := "0ba90bfe588c8dd338b57972a823b674506a6f63ecde503b82022996e86988ef", func := "loop.example/g01136/laws.FnExactCoreOf", spec := "fnExactCoreOf", unfollowed := true, recurses := true, apart := false }
def FnExactCoreOfSaid : Prop := fnExactCoreOfRow.holds Try.pinned (OpenSpec.ofChange fnExactCoreOfSpec)

/-- ITS FALSE NEIGHBOUR: 'it returns false'. Refute it at one input. -/
def fnExactCoreOfWrong : ChangeSpec := { name := "fnExactCoreOf", fn := fun _ => fun
  | [d1, d2] => { results := [.lit (.bool false)], args := [d1, d2] }
  | _ => none }
def FnExactCoreOfWrongFalsely : Prop := fnExactCoreOfRow.holds Try.pinned (OpenSpec.ofChange fnExactCoreOfWrong)

/-- 'laws.FnExactIsCore': WHATEVER THE INPUT: true; the input reads as it did. -/
def fnExactIsCoreSpec : ChangeSpec := { name := "fnExactIsCore", fn := fun _ => fun
  | [d1, d2] => { results := [.lit (.bool true)], args := [d1, d2] }
  | _ => none }
def fnExactIsCoreRow : OpenClaim := { program := "ytecfkkejhfnpbaa", sum := "0ba90bfe588c8dd338b57972a823b674506a6f63ecde503b82022996e86988ef", func := "loop.example/g01136/laws.FnExactIsCore", spec := "fnExactIsCore", unfollowed := true, recurses := true, apart := false }
def FnExactIsCoreSaid : Prop := fnExactIsCoreRow.holds Try.pinned (OpenSpec.ofChange fnExactIsCoreSpec)

/-- ITS FALSE NEIGHBOUR: 'it returns false'. Refute it at one input. -/
def fnExactIsCoreWrong : ChangeSpec := { name := "fnExactIsCore", fn := fun _ => fun
  | [d1, d2] => { results := [.lit (.bool false)], args := [d1, d2] }
  | _ => none }
def FnExactIsCoreWrongFalsely : Prop := fnExactIsCoreRow.holds Try.pinned (OpenSpec.ofChange fnExactIsCoreWrong)

/-- 'laws.FnExactWeightOf': WHATEVER THE INPUT: true; the input reads as it did. -/
def fnExactWeightOfSpec : ChangeSpec := { name := "fnExactWeightOf", fn := fun _ => fun
  | [d1, d2] => { results := [.lit (.bool true)], args := [d1, d2] }
  | _ => none }
def fnExactWeightOfRow : OpenClaim := { program := "ytecfkkejhfnpbaa", sum := "0ba90bfe588c8dd338b57972a823b674506a6f63ecde503b82022996e86988ef", func := "loop.example/g01136/laws.FnExactWeightOf", spec := "fnExactWeightOf", unfollowed := true, recurses := true, apart := false }
def FnExactWeightOfSaid : Prop := fnExactWeightOfRow.holds Try.pinned (OpenSpec.ofChange fnExactWeightOfSpec)

/-- ITS FALSE NEIGHBOUR: 'it returns false'. Refute it at one input. -/
def fnExactWeightOfWrong : ChangeSpec := { name := "fnExactWeightOf", fn := fun _ => fun
  | [d1, d2] => { results := [.lit (.bool false)], args := [d1, d2] }
  | _ => none }
def FnExactWeightOfWrongFalsely : Prop := fnExactWeightOfRow.holds Try.pinned (OpenSpec.ofChange fnExactWeightOfWrong)

/-- 'laws.FnExactQuotientOf': WHATEVER THE INPUT: true; the input reads as it did. -/
def fnExactQuotientOfSpec : ChangeSpec := { name := "fnExactQuotientOf", fn := fun _ => fun
  | [d1, d2] => { results := [.lit (.bool true)], args := [d1, d2] }
  | _ => none }
def fnExactQuotientOfRow : OpenClaim := { program := "ytecfkkejhfnpbaa", sum := "0ba90bfe588c8dd338b57972a823b674506a6f63ecde503b82022996e86988ef", func := "loop.example/g01136/laws.FnExactQuotientOf", spec := "fnExactQuotientOf", unfollowed := true, recurses := true, apart := false }
def FnExactQuotientOfSaid : Prop := fnExactQuotientOfRow.holds Try.pinned (OpenSpec.ofChange fnExactQuotientOfSpec)

/-- ITS FALSE NEIGHBOUR: 'it returns false'. Refute it at one input. -/
def fnExactQuotientOfWrong : ChangeSpec := { name := "fnExactQuotientOf", fn := fun _ => fun
  | [d1, d2] => { results := [.lit (.bool false)], args := [d1, d2] }
  | _ => none }
def FnExactQuotientOfWrongFalsely : Prop := fnExactQuotientOfRow.holds Try.pinned (OpenSpec.ofChange fnExactQuotientOfWrong)

/-- 'laws.FnExactFromCore': WHATEVER THE INPUT: true; the input reads as it did. -/
def fnExactFromCoreSpec : ChangeSpec := { name := "fnExactFromCore", fn := fun _ => fun
  | [d1, d2] => { results := [.lit (.bool true)], args := [d1, d2] }
  | _ => none }
def fnExactFromCoreRow : OpenClaim := { program := "ytecfkkejhfnpbaa", sum := "0ba90bfe588c8dd338b57972a823b674506a6f63ecde503b82022996e86988ef", func := "loop.example/g01136/laws.FnExactFromCore", spec := "fnExactFromCore", unfollowed := true, recurses := true, apart := false }
def FnExactFromCoreSaid : Prop := fnExactFromCoreRow.holds Try.pinned (OpenSpec.ofChange fnExactFromCoreSpec)

/-- ITS FALSE NEIGHBOUR: 'it returns false'. Refute it at one input. -/
def fnExactFromCoreWrong : ChangeSpec := { name := "fnExactFromCore", fn := fun _ => fun
  | [d1, d2] => { results := [.lit (.bool false)], args := [d1, d2] }
  | _ => none }
def FnExactFromCoreWrongFalsely : Prop := fnExactFromCoreRow.holds Try.pinned (OpenSpec.ofChange fnExactFromCoreWrong)

/-- 'laws.FnExactSignOf': WHATEVER THE INPUT: true; the input reads as it did. -/
def fnExactSignOfSpec : ChangeSpec := { name := "fnExactSignOf", fn := fun _ => fun
  | [d1, d2] => { results := [.lit (.bool true)], args := [d1, d2] }
  | _ => none }
def fnExactSignOfRow : OpenClaim := { program := "ytecfkkejhfnpbaa", sum := "0ba90bfe588c8dd338b57972a823b674506a6f63ecde503b82022996e86988ef", func := "loop.example/g01136/laws.FnExactSignOf", spec := "fnExactSignOf", unfollowed := true, recurses := true, apart := false }
def FnExactSignOfSaid : Prop := fnExactSignOfRow.holds Try.pinned (OpenSpec.ofChange fnExactSignOfSpec)

/-- ITS FALSE NEIGHBOUR: 'it returns false'. Refute it at one input. -/
def fnExactSignOfWrong : ChangeSpec := { name := "fnExactSignOf", fn := fun _ => fun
  | [d1, d2] => { results := [.lit (.bool false)], args := [d1, d2] }
  | _ => none }
def FnExactSignOfWrongFalsely : Prop := fnExactSignOfRow.holds Try.pinned (OpenSpec.ofChange fnExactSignOfWrong)

/-- 'laws.FnExactRunOf': WHATEVER THE INPUT: true; the input reads as it did. -/
def fnExactRunOfSpec : ChangeSpec := { name := "fnExactRunOf", fn := fun _ => fun
  | [d1, d2, d3] => { results := [.lit (.bool true)], args := [d1, d2, d3] }
  | _ => none }
def fnExactRunOfRow : OpenClaim := { program := "ytecfkkejhfnpbaa", sum := "0ba90bfe588c8dd338b57972a823b674506a6f63ecde503b82022996e86988ef", func := "loop.example/g01136/laws.FnExactRunOf", spec := "fnExactRunOf", unfollowed := true, recurses := true, apart := false }
def FnExactRunOfSaid : Prop := fnExactRunOfRow.holds Try.pinned (OpenSpec.ofChange fnExactRunOfSpec)

/-- ITS FALSE NEIGHBOUR: 'it returns false'. Refute it at one input. -/
def fnExactRunOfWrong : ChangeSpec := { name := "fnExactRunOf", fn := fun _ => fun
  | [d1, d2, d3] => { results := [.lit (.bool false)], args := [d1, d2, d3] }
  | _ => none }
def FnExactRunOfWrongFalsely : Prop := fnExactRunOfRow.holds Try.pinned (OpenSpec.ofChange fnExactRunOfWrong)

/-- 'laws.FnExactSignOfRun': WHATEVER THE INPUT: true; the input reads as it did. -/
def fnExactSignOfRunSpec : ChangeSpec := { name := "fnExactSignOfRun", fn := fun _ => fun
  | [d1, d2, d3] => { results := [.lit (.bool true)], args := [d1, d2, d3] }
  | _ => none }
def fnExactSignOfRunRow : OpenClaim := { program := "ytecfkkejhfnpbaa", sum := "0ba90bfe588c8dd338b57972a823b674506a6f63ecde503b82022996e86988ef", func := "loop.example/g01136/laws.FnExactSignOfRun", spec := "fnExactSignOfRun", unfollowed := true, recurses := true, apart := false }
def FnExactSignOfRunSaid : Prop := fnExactSignOfRunRow.holds Try.pinned (OpenSpec.ofChange fnExactSignOfRunSpec)

/-- ITS FALSE NEIGHBOUR: 'it returns false'. Refute it at one input. -/
def fnExactSignOfRunWrong : ChangeSpec := { name := "fnExactSignOfRun", fn := fun _ => fun
  | [d1, d2, d3] => { results := [.lit (.bool false)], args := [d1, d2, d3] }
  | _ => none }
def FnExactSignOfRunWrongFalsely : Prop := fnExactSignOfRunRow.holds Try.pinned (OpenSpec.ofChange fnExactSignOfRunWrong)

/-- 'laws.FnExactCountRuns': WHATEVER THE INPUT: true; the input reads as it did. -/
def fnExactCountRunsSpec : ChangeSpec := { name := "fnExactCountRuns", fn := fun _ => fun
  | [d1, d2] => { results := [.lit (.bool true)], args := [d1, d2] }
  | _ => none }
def fnExactCountRunsRow : OpenClaim := { program := "ytecfkkejhfnpbaa", sum := "0ba90bfe588c8dd338b57972a823b674506a6f63ecde503b82022996e86988ef", func := "loop.example/g01136/laws.FnExactCountRuns", spec := "fnExactCountRuns", unfollowed := true, recurses := true, apart := false }
def FnExactCountRunsSaid : Prop := fnExactCountRunsRow.holds Try.pinned (OpenSpec.ofChange fnExactCountRunsSpec)

/-- ITS FALSE NEIGHBOUR: 'it returns false'. Refute it at one input. -/
def fnExactCountRunsWrong : ChangeSpec := { name := "fnExactCountRuns", fn := fun _ => fun
  | [d1, d2] => { results := [.lit (.bool false)], args := [d1, d2] }
  | _ => none }
def FnExactCountRunsWrongFalsely : Prop := fnExactCountRunsRow.holds Try.pinned (OpenSpec.ofChange fnExactCountRunsWrong)

/-- 'laws.FnExactHooksDivisible': WHATEVER THE INPUT: true; the input reads as it did. -/
def fnExactHooksDivisibleSpec : ChangeSpec := { name := "fnExactHooksDivisible", fn := fun _ => fun
  | [d1, d2] => { results := [.lit (.bool true)], args := [d1, d2] }
  | _ => none }
def fnExactHooksDivisibleRow : OpenClaim := { program := "ytecfkkejhfnpbaa", sum := "0ba90bfe588c8dd338b57972a823b674506a6f63ecde503b82022996e86988ef", func := "loop.example/g01136/laws.FnExactHooksDivisible", spec := "fnExactHooksDivisible", unfollowed := true, recurses := true, apart := false }
def FnExactHooksDivisibleSaid : Prop := fnExactHooksDivisibleRow.holds Try.pinned (OpenSpec.ofChange fnExactHooksDivisibleSpec)

/-- ITS FALSE NEIGHBOUR: 'it returns false'. Refute it at one input. -/
def fnExactHooksDivisibleWrong : ChangeSpec := { name := "fnExactHooksDivisible", fn := fun _ => fun
  | [d1, d2] => { results := [.lit (.bool false)], args := [d1, d2] }
  | _ => none }
def FnExactHooksDivisibleWrongFalsely : Prop := fnExactHooksDivisibleRow.holds Try.pinned (OpenSpec.ofChange fnExactHooksDivisibleWrong)

/-- 'laws.FnExactSameBlock': WHATEVER THE INPUT: true; the input reads as it did. -/
def fnExactSameBlockSpec : ChangeSpec := { name := "fnExactSameBlock", fn := fun _ => fun
  | [d1, d2, d3] => { results := [.lit (.bool true)], args := [d1, d2, d3] }
  | _ => none }
def fnExactSameBlockRow : OpenClaim := { program := "ytecfkkejhfnpbaa", sum := "0ba90bfe588c8dd338b57972a823b674506a6f63ecde503b82022996e86988ef", func := "loop.example/g01136/laws.FnExactSameBlock", spec := "fnExactSameBlock", unfollowed := true, recurses := true, apart := false }
def FnExactSameBlockSaid : Prop := fnExactSameBlockRow.holds Try.pinned (OpenSpec.ofChange fnExactSameBlockSpec)

/-- ITS FALSE NEIGHBOUR: 'it returns false'. Refute it at one input. -/
def fnExactSameBlockWrong : ChangeSpec := { name := "fnExactSameBlock", fn := fun _ => fun
  | [d1, d2, d3] => { results := [.lit (.bool false)], args := [d1, d2, d3] }
  | _ => none }
def FnExactSameBlockWrongFalsely : Prop := fnExactSameBlockRow.holds Try.pinned (OpenSpec.ofChange fnExactSameBlockWrong)

/-- 'laws.FnExactBlockOf': WHATEVER THE INPUT: true; the input reads as it did. -/
def fnExactBlockOfSpec : ChangeSpec := { name := "fnExactBlockOf", fn := fun _ => fun
  | [d1, d2, d3] => { results := [.lit (.bool true)], args := [d1, d2, d3] }
  | _ => none }
def fnExactBlockOfRow : OpenClaim := { program := "ytecfkkejhfnpbaa", sum := "0ba90bfe588c8dd338b57972a823b674506a6f63ecde503b82022996e86988ef", func := "loop.example/g01136/laws.FnExactBlockOf", spec := "fnExactBlockOf", unfollowed := true, recurses := true, apart := false }
def FnExactBlockOfSaid : Prop := fnExactBlockOfRow.holds Try.pinned (OpenSpec.ofChange fnExactBlockOfSpec)

/-- ITS FALSE NEIGHBOUR: 'it returns false'. Refute it at one input. -/
def fnExactBlockOfWrong : ChangeSpec := { name := "fnExactBlockOf", fn := fun _ => fun
  | [d1, d2, d3] => { results := [.lit (.bool false)], args := [d1, d2, d3] }
  | _ => none }
def FnExactBlockOfWrongFalsely : Prop := fnExactBlockOfRow.holds Try.pinned (OpenSpec.ofChange fnExactBlockOfWrong)

/- THE SECOND FORM. 'bulk': how many values and letters a reading holds, each counted each time it is reached (what is shared counts as often as it is met; a slice's spare places count too). A statement '..UptoSaid' is the law's where the arguments, and the package variables that the reading takes, are together of bulk at most 1048576: NARROWER than '..Said'. Prove '..Said' where nothing that the law and all that it calls make is longer than what came in: it says more and counts as full. Else prove '..UptoSaid'. A law counts once. -/
mutual
def uptoBulk {H : Type} : DataW H → Nat
  | .lit (.string bytes) => bytes.length + 1
  | .lit _ => 1
  | .nil => 1
  | .ptr d => uptoBulk d + 1
  | .slice elems spare => uptoBulkAll elems + uptoBulkAll spare + 1
  | .agg parts => uptoBulkAll parts + 1
  | .iface _ d => uptoBulk d + 1
  | .map entries => uptoBulkEntries entries + 1
  | .held _ => 1
def uptoBulkAll {H : Type} : List (DataW H) → Nat
  | [] => 0
  | d :: r => uptoBulk d + uptoBulkAll r
def uptoBulkEntries {H : Type} : List (Lit × DataW H) → Nat
  | [] => 0
  | x :: r => uptoBulkEntry x + uptoBulkEntries r
def uptoBulkEntry {H : Type} : Lit × DataW H → Nat
  | (.string bytes, d) => bytes.length + uptoBulk d + 1
  | (_, d) => uptoBulk d + 1
 end
def uptoSmall : (H : Type) → List (DataW H) → Bool := fun _ ds => decide (uptoBulkAll ds ≤ 1048576)
def OpenSpec.upto (s : _root_.Go.ChangeSpec) : _root_.Go.OpenSpec := { _root_.Go.OpenSpec.ofChange s with cond := some uptoSmall }

/-- 'laws.FnExactRunnersOf', WHERE WHAT IT READS IS OF BULK AT MOST 1048576: true; the input reads as it did. -/
def fnExactRunnersOfUptoRow : OpenClaim := { program := "ytecfkkejhfnpbaa", sum := "0ba90bfe588c8dd338b57972a823b674506a6f63ecde503b82022996e86988ef", func := "loop.example/g01136/laws.FnExactRunnersOf", spec := "fnExactRunnersOf", unfollowed := true, recurses := true, apart := false, narrowed := true }
def FnExactRunnersOfUptoSaid : Prop := fnExactRunnersOfUptoRow.holds Try.pinned (OpenSpec.upto fnExactRunnersOfSpec)

/-- 'laws.FnExactFromRunners', WHERE WHAT IT READS IS OF BULK AT MOST 1048576: true; the input reads as it did. -/
def fnExactFromRunnersUptoRow : OpenClaim := { program := "ytecfkkejhfnpbaa", sum := "0ba90bfe588c8dd338b57972a823b674506a6f63ecde503b82022996e86988ef", func := "loop.example/g01136/laws.FnExactFromRunners", spec := "fnExactFromRunners", unfollowed := true, recurses := true, apart := false, narrowed := true }
def FnExactFromRunnersUptoSaid : Prop := fnExactFromRunnersUptoRow.holds Try.pinned (OpenSpec.upto fnExactFromRunnersSpec)

/-- 'laws.FnExactMoveBead', WHERE WHAT IT READS IS OF BULK AT MOST 1048576: true; the input reads as it did. -/
def fnExactMoveBeadUptoRow : OpenClaim := { program := "ytecfkkejhfnpbaa", sum := "0ba90bfe588c8dd338b57972a823b674506a6f63ecde503b82022996e86988ef", func := "loop.example/g01136/laws.FnExactMoveBead", spec := "fnExactMoveBead", unfollowed := true, recurses := true, apart := false, narrowed := true }
def FnExactMoveBeadUptoSaid : Prop := fnExactMoveBeadUptoRow.holds Try.pinned (OpenSpec.upto fnExactMoveBeadSpec)

/-- 'laws.FnExactLiftBead', WHERE WHAT IT READS IS OF BULK AT MOST 1048576: true; the input reads as it did. -/
def fnExactLiftBeadUptoRow : OpenClaim := { program := "ytecfkkejhfnpbaa", sum := "0ba90bfe588c8dd338b57972a823b674506a6f63ecde503b82022996e86988ef", func := "loop.example/g01136/laws.FnExactLiftBead", spec := "fnExactLiftBead", unfollowed := true, recurses := true, apart := false, narrowed := true }
def FnExactLiftBeadUptoSaid : Prop := fnExactLiftBeadUptoRow.holds Try.pinned (OpenSpec.upto fnExactLiftBeadSpec)

/-- 'laws.FnExactPushDown', WHERE WHAT IT READS IS OF BULK AT MOST 1048576: true; the input reads as it did. -/
def fnExactPushDownUptoRow : OpenClaim := { program := "ytecfkkejhfnpbaa", sum := "0ba90bfe588c8dd338b57972a823b674506a6f63ecde503b82022996e86988ef", func := "loop.example/g01136/laws.FnExactPushDown", spec := "fnExactPushDown", unfollowed := true, recurses := true, apart := false, narrowed := true }
def FnExactPushDownUptoSaid : Prop := fnExactPushDownUptoRow.holds Try.pinned (OpenSpec.upto fnExactPushDownSpec)

/-- 'laws.FnExactMovableBeads', WHERE WHAT IT READS IS OF BULK AT MOST 1048576: true; the input reads as it did. -/
def fnExactMovableBeadsUptoRow : OpenClaim := { program := "ytecfkkejhfnpbaa", sum := "0ba90bfe588c8dd338b57972a823b674506a6f63ecde503b82022996e86988ef", func := "loop.example/g01136/laws.FnExactMovableBeads", spec := "fnExactMovableBeads", unfollowed := true, recurses := true, apart := false, narrowed := true }
def FnExactMovableBeadsUptoSaid : Prop := fnExactMovableBeadsUptoRow.holds Try.pinned (OpenSpec.upto fnExactMovableBeadsSpec)

/-- 'laws.FnExactFromMaya', WHERE WHAT IT READS IS OF BULK AT MOST 1048576: true; the input reads as it did. -/
def fnExactFromMayaUptoRow : OpenClaim := { program := "ytecfkkejhfnpbaa", sum := "0ba90bfe588c8dd338b57972a823b674506a6f63ecde503b82022996e86988ef", func := "loop.example/g01136/laws.FnExactFromMaya", spec := "fnExactFromMaya", unfollowed := true, recurses := true, apart := false, narrowed := true }
def FnExactFromMayaUptoSaid : Prop := fnExactFromMayaUptoRow.holds Try.pinned (OpenSpec.upto fnExactFromMayaSpec)

/-- 'laws.FnExactRimCells', WHERE WHAT IT READS IS OF BULK AT MOST 1048576: true; the input reads as it did. -/
def fnExactRimCellsUptoRow : OpenClaim := { program := "ytecfkkejhfnpbaa", sum := "0ba90bfe588c8dd338b57972a823b674506a6f63ecde503b82022996e86988ef", func := "loop.example/g01136/laws.FnExactRimCells", spec := "fnExactRimCells", unfollowed := true, recurses := true, apart := false, narrowed := true }
def FnExactRimCellsUptoSaid : Prop := fnExactRimCellsUptoRow.holds Try.pinned (OpenSpec.upto fnExactRimCellsSpec)

/-- 'laws.FnExactTakeRim', WHERE WHAT IT READS IS OF BULK AT MOST 1048576: true; the input reads as it did. -/
def fnExactTakeRimUptoRow : OpenClaim := { program := "ytecfkkejhfnpbaa", sum := "0ba90bfe588c8dd338b57972a823b674506a6f63ecde503b82022996e86988ef", func := "loop.example/g01136/laws.FnExactTakeRim", spec := "fnExactTakeRim", unfollowed := true, recurses := true, apart := false, narrowed := true }
def FnExactTakeRimUptoSaid : Prop := fnExactTakeRimUptoRow.holds Try.pinned (OpenSpec.upto fnExactTakeRimSpec)

/-- 'laws.FnExactAddedRims', WHERE WHAT IT READS IS OF BULK AT MOST 1048576: true; the input reads as it did. -/
def fnExactAddedRimsUptoRow : OpenClaim := { program := "ytecfkkejhfnpbaa", sum := "0ba90bfe588c8dd338b57972a823b674506a6f63ecde503b82022996e86988ef", func := "loop.example/g01136/laws.FnExactAddedRims", spec := "fnExactAddedRims", unfollowed := true, recurses := true, apart := false, narrowed := true }
def FnExactAddedRimsUptoSaid : Prop := fnExactAddedRimsUptoRow.holds Try.pinned (OpenSpec.upto fnExactAddedRimsSpec)

/-- 'laws.FnExactCoreOf', WHERE WHAT IT READS IS OF BULK AT MOST 1048576: true; the input reads as it did. -/
def fnExactCoreOfUptoRow : OpenClaim := { program := "ytecfkkejhfnpbaa", sum := "0ba90bfe588c8dd338b57972a823b674506a6f63ecde503b82022996e86988ef", func := "loop.example/g01136/laws.FnExactCoreOf", spec := "fnExactCoreOf", unfollowed := true, recurses := true, apart := false, narrowed := true }
def FnExactCoreOfUptoSaid : Prop := fnExactCoreOfUptoRow.holds Try.pinned (OpenSpec.upto fnExactCoreOfSpec)

/-- 'laws.FnExactIsCore', WHERE WHAT IT READS IS OF BULK AT MOST 1048576: true; the input reads as it did. -/
def fnExactIsCoreUptoRow : OpenClaim := { program := "ytecfkkejhfnpbaa", sum := "0ba90bfe588c8dd338b57972a823b674506a6f63ecde503b82022996e86988ef", func := "loop.example/g01136/laws.FnExactIsCore", spec := "fnExactIsCore", unfollowed := true, recurses := true, apart := false, narrowed := true }
def FnExactIsCoreUptoSaid : Prop := fnExactIsCoreUptoRow.holds Try.pinned (OpenSpec.upto fnExactIsCoreSpec)

/-- 'laws.FnExactWeightOf', WHERE WHAT IT READS IS OF BULK AT MOST 1048576: true; the input reads as it did. -/
def fnExactWeightOfUptoRow : OpenClaim := { program := "ytecfkkejhfnpbaa", sum := "0ba90bfe588c8dd338b57972a823b674506a6f63ecde503b82022996e86988ef", func := "loop.example/g01136/laws.FnExactWeightOf", spec := "fnExactWeightOf", unfollowed := true, recurses := true, apart := false, narrowed := true }
def FnExactWeightOfUptoSaid : Prop := fnExactWeightOfUptoRow.holds Try.pinned (OpenSpec.upto fnExactWeightOfSpec)

/-- 'laws.FnExactQuotientOf', WHERE WHAT IT READS IS OF BULK AT MOST 1048576: true; the input reads as it did. -/
def fnExactQuotientOfUptoRow : OpenClaim := { program := "ytecfkkejhfnpbaa", sum := "0ba90bfe588c8dd338b57972a823b674506a6f63ecde503b82022996e86988ef", func := "loop.example/g01136/laws.FnExactQuotientOf", spec := "fnExactQuotientOf", unfollowed := true, recurses := true, apart := false, narrowed := true }
def FnExactQuotientOfUptoSaid : Prop := fnExactQuotientOfUptoRow.holds Try.pinned (OpenSpec.upto fnExactQuotientOfSpec)

/-- 'laws.FnExactFromCore', WHERE WHAT IT READS IS OF BULK AT MOST 1048576: true; the input reads as it did. -/
def fnExactFromCoreUptoRow : OpenClaim := { program := "ytecfkkejhfnpbaa", sum := "0ba90bfe588c8dd338b57972a823b674506a6f63ecde503b82022996e86988ef", func := "loop.example/g01136/laws.FnExactFromCore", spec := "fnExactFromCore", unfollowed := true, recurses := true, apart := false, narrowed := true }
def FnExactFromCoreUptoSaid : Prop := fnExactFromCoreUptoRow.holds Try.pinned (OpenSpec.upto fnExactFromCoreSpec)

/-- 'laws.FnExactSignOf', WHERE WHAT IT READS IS OF BULK AT MOST 1048576: true; the input reads as it did. -/
def fnExactSignOfUptoRow : OpenClaim := { program := "ytecfkkejhfnpbaa", sum := "0ba90bfe588c8dd338b57972a823b674506a6f63ecde503b82022996e86988ef", func := "loop.example/g01136/laws.FnExactSignOf", spec := "fnExactSignOf", unfollowed := true, recurses := true, apart := false, narrowed := true }
def FnExactSignOfUptoSaid : Prop := fnExactSignOfUptoRow.holds Try.pinned (OpenSpec.upto fnExactSignOfSpec)

/-- 'laws.FnExactRunOf', WHERE WHAT IT READS IS OF BULK AT MOST 1048576: true; the input reads as it did. -/
def fnExactRunOfUptoRow : OpenClaim := { program := "ytecfkkejhfnpbaa", sum := "0ba90bfe588c8dd338b57972a823b674506a6f63ecde503b82022996e86988ef", func := "loop.example/g01136/laws.FnExactRunOf", spec := "fnExactRunOf", unfollowed := true, recurses := true, apart := false, narrowed := true }
def FnExactRunOfUptoSaid : Prop := fnExactRunOfUptoRow.holds Try.pinned (OpenSpec.upto fnExactRunOfSpec)

/-- 'laws.FnExactSignOfRun', WHERE WHAT IT READS IS OF BULK AT MOST 1048576: true; the input reads as it did. -/
def fnExactSignOfRunUptoRow : OpenClaim := { program := "ytecfkkejhfnpbaa", sum := "0ba90bfe588c8dd338b57972a823b674506a6f63ecde503b82022996e86988ef", func := "loop.example/g01136/laws.FnExactSignOfRun", spec := "fnExactSignOfRun", unfollowed := true, recurses := true, apart := false, narrowed := true }
def FnExactSignOfRunUptoSaid : Prop := fnExactSignOfRunUptoRow.holds Try.pinned (OpenSpec.upto fnExactSignOfRunSpec)

/-- 'laws.FnExactCountRuns', WHERE WHAT IT READS IS OF BULK AT MOST 1048576: true; the input reads as it did. -/
def fnExactCountRunsUptoRow : OpenClaim := { program := "ytecfkkejhfnpbaa", sum := "0ba90bfe588c8dd338b57972a823b674506a6f63ecde503b82022996e86988ef", func := "loop.example/g01136/laws.FnExactCountRuns", spec := "fnExactCountRuns", unfollowed := true, recurses := true, apart := false, narrowed := true }
def FnExactCountRunsUptoSaid : Prop := fnExactCountRunsUptoRow.holds Try.pinned (OpenSpec.upto fnExactCountRunsSpec)

/-- 'laws.FnExactHooksDivisible', WHERE WHAT IT READS IS OF BULK AT MOST 1048576: true; the input reads as it did. -/
def fnExactHooksDivisibleUptoRow : OpenClaim := { program := "ytecfkkejhfnpbaa", sum := "0ba90bfe588c8dd338b57972a823b674506a6f63ecde503b82022996e86988ef", func := "loop.example/g01136/laws.FnExactHooksDivisible", spec := "fnExactHooksDivisible", unfollowed := true, recurses := true, apart := false, narrowed := true }
def FnExactHooksDivisibleUptoSaid : Prop := fnExactHooksDivisibleUptoRow.holds Try.pinned (OpenSpec.upto fnExactHooksDivisibleSpec)

/-- 'laws.FnExactSameBlock', WHERE WHAT IT READS IS OF BULK AT MOST 1048576: true; the input reads as it did. -/
def fnExactSameBlockUptoRow : OpenClaim := { program := "ytecfkkejhfnpbaa", sum := "0ba90bfe588c8dd338b57972a823b674506a6f63ecde503b82022996e86988ef", func := "loop.example/g01136/laws.FnExactSameBlock", spec := "fnExactSameBlock", unfollowed := true, recurses := true, apart := false, narrowed := true }
def FnExactSameBlockUptoSaid : Prop := fnExactSameBlockUptoRow.holds Try.pinned (OpenSpec.upto fnExactSameBlockSpec)

/-- 'laws.FnExactBlockOf', WHERE WHAT IT READS IS OF BULK AT MOST 1048576: true; the input reads as it did. -/
def fnExactBlockOfUptoRow : OpenClaim := { program := "ytecfkkejhfnpbaa", sum := "0ba90bfe588c8dd338b57972a823b674506a6f63ecde503b82022996e86988ef", func := "loop.example/g01136/laws.FnExactBlockOf", spec := "fnExactBlockOf", unfollowed := true, recurses := true, apart := false, narrowed := true }
def FnExactBlockOfUptoSaid : Prop := fnExactBlockOfUptoRow.holds Try.pinned (OpenSpec.upto fnExactBlockOfSpec)

end Rows
end Go.Proofs.Ytecfkkejhfnpbaa
