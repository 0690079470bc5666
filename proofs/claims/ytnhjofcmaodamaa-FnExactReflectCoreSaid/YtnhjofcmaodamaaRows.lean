/-
  No cell of these rows narrows 'for every input' (looked for: loops, veiled, ifaces, maps, wideKeys, modest, calm, conditions, laid).
  DERIVED. THE GIVEN ROWS OF THIS SEAT. 21 by the template 'for every input the law returns true; each argument reads behind the call as it read before'; 0 by the template 'total and deterministic' (their statements: YtnhjofcmaodamaaTotals.lean).
  GIVEN WITH THE SEED: the statements are not yours to turn. If you find one false, say at which input.
  Laid BY PROGRAM, IN A SANDBOX (cutbox-rows.mjs): the forced cells as the released guide's own fill.sh prints them over the translation 98f3b73c2b3de2b3… (all of the seat's roots in one cut). By AI agents, Wed Nov 11 2026. No macro, syntax, notation, axiom, sorry.
-/
import Derived.Test.YtnhjofcmaodamaaChecked
import GoSem.Claim
import GoSem.ClaimJoined
import GoSem.ClaimMapViews
import Derived.JoinedTies
import Derived.KernelRfl
namespace Go.Proofs.Ytnhjofcmaodamaa
/- THE CELL 'sum', in the pinned program and in every row, IS THE sha256 OF THE DUMP (.gsa) THAT YtnhjofcmaodamaaProg.lean LOADS. Nothing in Lean hashes anything: it is a label: what it is worth is what the hold of that sum in a sandbox is worth. -/
noncomputable def Try.pinned : Pinned := { name := "ytnhjofcmaodamaa", sum := "98f3b73c2b3de2b3245239f0e1d95a5dcf94ad7d68e2e4266bd1a7266e52075d", checked := Try.checked }
namespace Rows
def none {H : Type} : Left H := { results := [], args := [] }

/-- 'laws.FnExactMoveBead': WHATEVER THE INPUT: true; the input reads as it did. -/
def fnExactMoveBeadSpec : ChangeSpec := { name := "fnExactMoveBead", fn := fun _ => fun
  | [d1, d2] => { results := [.lit (.bool true)], args := [d1, d2] }
  | _ => none }
def fnExactMoveBeadRow : OpenClaim := { program := "ytnhjofcmaodamaa", sum := "98f3b73c2b3de2b3245239f0e1d95a5dcf94ad7d68e2e4266bd1a7266e52075d", func := "loop.example/g01136/laws.FnExactMoveBead", spec := "fnExactMoveBead", unfollowed := true, recurses := true, apart := false }
def FnExactMoveBeadSaid : Prop := fnExactMoveBeadRow.holds Try.pinned (OpenSpec.ofChange fnExactMoveBeadSpec)

/-- ITS FALSE NEIGHBOUR: 'it returns false'. Refute it at one input. -/
def fnExactMoveBeadWrong : ChangeSpec := { name := "fnExactMoveBead", fn := fun _ => fun
  | [d1, d2] => { results := [.lit (.bool false)], args := [d1, d2] }
  | _ => none }
def FnExactMoveBeadWrongFalsely : Prop := fnExactMoveBeadRow.holds Try.pinned (OpenSpec.ofChange fnExactMoveBeadWrong)

/-- 'laws.FnExactPushDown': WHATEVER THE INPUT: true; the input reads as it did. -/
def fnExactPushDownSpec : ChangeSpec := { name := "fnExactPushDown", fn := fun _ => fun
  | [d] => { results := [.lit (.bool true)], args := [d] }
  | _ => none }
def fnExactPushDownRow : OpenClaim := { program := "ytnhjofcmaodamaa", sum := "98f3b73c2b3de2b3245239f0e1d95a5dcf94ad7d68e2e4266bd1a7266e52075d", func := "loop.example/g01136/laws.FnExactPushDown", spec := "fnExactPushDown", unfollowed := true, recurses := true, apart := false }
def FnExactPushDownSaid : Prop := fnExactPushDownRow.holds Try.pinned (OpenSpec.ofChange fnExactPushDownSpec)

/-- ITS FALSE NEIGHBOUR: 'it returns false'. Refute it at one input. -/
def fnExactPushDownWrong : ChangeSpec := { name := "fnExactPushDown", fn := fun _ => fun
  | [d] => { results := [.lit (.bool false)], args := [d] }
  | _ => none }
def FnExactPushDownWrongFalsely : Prop := fnExactPushDownRow.holds Try.pinned (OpenSpec.ofChange fnExactPushDownWrong)

/-- 'laws.FnExactAddedRims': WHATEVER THE INPUT: true; the input reads as it did. -/
def fnExactAddedRimsSpec : ChangeSpec := { name := "fnExactAddedRims", fn := fun _ => fun
  | [d1, d2] => { results := [.lit (.bool true)], args := [d1, d2] }
  | _ => none }
def fnExactAddedRimsRow : OpenClaim := { program := "ytnhjofcmaodamaa", sum := "98f3b73c2b3de2b3245239f0e1d95a5dcf94ad7d68e2e4266bd1a7266e52075d", func := "loop.example/g01136/laws.FnExactAddedRims", spec := "fnExactAddedRims", unfollowed := true, recurses := true, apart := false }
def FnExactAddedRimsSaid : Prop := fnExactAddedRimsRow.holds Try.pinned (OpenSpec.ofChange fnExactAddedRimsSpec)

/-- ITS FALSE NEIGHBOUR: 'it returns false'. Refute it at one input. -/
def fnExactAddedRimsWrong : ChangeSpec := { name := "fnExactAddedRims", fn := fun _ => fun
  | [d1, d2] => { results := [.lit (.bool false)], args := [d1, d2] }
  | _ => none }
def FnExactAddedRimsWrongFalsely : Prop := fnExactAddedRimsRow.holds Try.pinned (OpenSpec.ofChange fnExactAddedRimsWrong)

/-- 'laws.FnExactFromCore': WHATEVER THE INPUT: true; the input reads as it did. -/
def fnExactFromCoreSpec : ChangeSpec := { name := "fnExactFromCore", fn := fun _ => fun
  | [d1, d2] => { results := [.lit (.bool true)], args := [d1, d2] }
  | _ => none }
def fnExactFromCoreRow : OpenClaim := { program := "ytnhjofcmaodamaa", sum := "98f3b73c2b3de2b3245239f0e1d95a5dcf94ad7d68e2e4266bd1a7266e52075d", func := "loop.example/g01136/laws.FnExactFromCore", spec := "fnExactFromCore", unfollowed := true, recurses := true, apart := false }
def FnExactFromCoreSaid : Prop := fnExactFromCoreRow.holds Try.pinned (OpenSpec.ofChange fnExactFromCoreSpec)

/-- ITS FALSE NEIGHBOUR: 'it returns false'. Refute it at one input. -/
def fnExactFromCoreWrong : ChangeSpec := { name := "fnExactFromCore", fn := fun _ => fun
  | [d1, d2] => { results := [.lit (.bool false)], args := [d1, d2] }
  | _ => none }
def FnExactFromCoreWrongFalsely : Prop := fnExactFromCoreRow.holds Try.pinned (OpenSpec.ofChange fnExactFromCoreWrong)

/-- 'laws.FnExactSameBlock': WHATEVER THE INPUT: true; the input reads as it did. -/
def fnExactSameBlockSpec : ChangeSpec := { name := "fnExactSameBlock", fn := fun _ => fun
  | [d1, d2, d3] => { results := [.lit (.bool true)], args := [d1, d2, d3] }
  | _ => none }
def fnExactSameBlockRow : OpenClaim := { program := "ytnhjofcmaodamaa", sum := "98f3b73c2b3de2b3245239f0e1d95a5dcf94ad7d68e2e4266bd1a7266e52075d", func := "loop.example/g01136/laws.FnExactSameBlock", spec := "fnExactSameBlock", unfollowed := true, recurses := true, apart := false }
def FnExactSameBlockSaid : Prop := fnExactSameBlockRow.holds Try.pinned (OpenSpec.ofChange fnExactSameBlockSpec)

/-- ITS FALSE NEIGHBOUR: 'it returns false'. Refute it at one input. -/
def fnExactSameBlockWrong : ChangeSpec := { name := "fnExactSameBlock", fn := fun _ => fun
  | [d1, d2, d3] => { results := [.lit (.bool false)], args := [d1, d2, d3] }
  | _ => none }
def FnExactSameBlockWrongFalsely : Prop := fnExactSameBlockRow.holds Try.pinned (OpenSpec.ofChange fnExactSameBlockWrong)

/-- 'laws.FnExactRunnersOf': WHATEVER THE INPUT: true; the input reads as it did. -/
def fnExactRunnersOfSpec : ChangeSpec := { name := "fnExactRunnersOf", fn := fun _ => fun
  | [d] => { results := [.lit (.bool true)], args := [d] }
  | _ => none }
def fnExactRunnersOfRow : OpenClaim := { program := "ytnhjofcmaodamaa", sum := "98f3b73c2b3de2b3245239f0e1d95a5dcf94ad7d68e2e4266bd1a7266e52075d", func := "loop.example/g01136/laws.FnExactRunnersOf", spec := "fnExactRunnersOf", unfollowed := true, recurses := true, apart := false }
def FnExactRunnersOfSaid : Prop := fnExactRunnersOfRow.holds Try.pinned (OpenSpec.ofChange fnExactRunnersOfSpec)

/-- ITS FALSE NEIGHBOUR: 'it returns false'. Refute it at one input. -/
def fnExactRunnersOfWrong : ChangeSpec := { name := "fnExactRunnersOf", fn := fun _ => fun
  | [d] => { results := [.lit (.bool false)], args := [d] }
  | _ => none }
def FnExactRunnersOfWrongFalsely : Prop := fnExactRunnersOfRow.holds Try.pinned (OpenSpec.ofChange fnExactRunnersOfWrong)

/-- 'laws.FnExactFromRunners': WHATEVER THE INPUT: true; the input reads as it did. -/
def fnExactFromRunnersSpec : ChangeSpec := { name := "fnExactFromRunners", fn := fun _ => fun
  | [d] => { results := [.lit (.bool true)], args := [d] }
  | _ => none }
def fnExactFromRunnersRow : OpenClaim := { program := "ytnhjofcmaodamaa", sum := "98f3b73c2b3de2b3245239f0e1d95a5dcf94ad7d68e2e4266bd1a7266e52075d", func := "loop.example/g01136/laws.FnExactFromRunners", spec := "fnExactFromRunners", unfollowed := true, recurses := true, apart := false }
def FnExactFromRunnersSaid : Prop := fnExactFromRunnersRow.holds Try.pinned (OpenSpec.ofChange fnExactFromRunnersSpec)

/-- ITS FALSE NEIGHBOUR: 'it returns false'. Refute it at one input. -/
def fnExactFromRunnersWrong : ChangeSpec := { name := "fnExactFromRunners", fn := fun _ => fun
  | [d] => { results := [.lit (.bool false)], args := [d] }
  | _ => none }
def FnExactFromRunnersWrongFalsely : Prop := fnExactFromRunnersRow.holds Try.pinned (OpenSpec.ofChange fnExactFromRunnersWrong)

/-- 'laws.FnExactCoreOf': WHATEVER THE INPUT: true; the input reads as it did. -/
def fnExactCoreOfSpec : ChangeSpec := { name := "fnExactCoreOf", fn := fun _ => fun
  | [d1, d2] => { results := [.lit (.bool true)], args := [d1, d2] }
  | _ => none }
def fnExactCoreOfRow : OpenClaim := { program := "ytnhjofcmaodamaa", sum := "98f3b73c2b3de2b3245239f0e1d95a5dcf94ad7d68e2e4266bd1a7266e52075d", func := "loop.example/g01136/laws.FnExactCoreOf", spec := "fnExactCoreOf", unfollowed := true, recurses := true, apart := false }
def FnExactCoreOfSaid : Prop := fnExactCoreOfRow.holds Try.pinned (OpenSpec.ofChange fnExactCoreOfSpec)

/-- ITS FALSE NEIGHBOUR: 'it returns false'. Refute it at one input. -/
def fnExactCoreOfWrong : ChangeSpec := { name := "fnExactCoreOf", fn := fun _ => fun
  | [d1, d2] => { results := [.lit (.bool false)], args := [d1, d2] }
  | _ => none }
def FnExactCoreOfWrongFalsely : Prop := fnExactCoreOfRow.holds Try.pinned (OpenSpec.ofChange fnExactCoreOfWrong)

/-- 'laws.FnExactWeightOf': WHATEVER THE INPUT: true; the input reads as it did. -/
def fnExactWeightOfSpec : ChangeSpec := { name := "fnExactWeightOf", fn := fun _ => fun
  | [d1, d2] => { results := [.lit (.bool true)], args := [d1, d2] }
  | _ => none }
def fnExactWeightOfRow : OpenClaim := { program := "ytnhjofcmaodamaa", sum := "98f3b73c2b3de2b3245239f0e1d95a5dcf94ad7d68e2e4266bd1a7266e52075d", func := "loop.example/g01136/laws.FnExactWeightOf", spec := "fnExactWeightOf", unfollowed := true, recurses := true, apart := false }
def FnExactWeightOfSaid : Prop := fnExactWeightOfRow.holds Try.pinned (OpenSpec.ofChange fnExactWeightOfSpec)

/-- ITS FALSE NEIGHBOUR: 'it returns false'. Refute it at one input. -/
def fnExactWeightOfWrong : ChangeSpec := { name := "fnExactWeightOf", fn := fun _ => fun
  | [d1, d2] => { results := [.lit (.bool false)], args := [d1, d2] }
  | _ => none }
def FnExactWeightOfWrongFalsely : Prop := fnExactWeightOfRow.holds Try.pinned (OpenSpec.ofChange fnExactWeightOfWrong)

/-- 'laws.FnExactQuotientOf': WHATEVER THE INPUT: true; the input reads as it did. -/
def fnExactQuotientOfSpec : ChangeSpec := { name := "fnExactQuotientOf", fn := fun _ => fun
  | [d1, d2] => { results := [.lit (.bool true)], args := [d1, d2] }
  | _ => none }
def fnExactQuotientOfRow : OpenClaim := { program := "ytnhjofcmaodamaa", sum := "98f3b73c2b3de2b3245239f0e1d95a5dcf94ad7d68e2e4266bd1a7266e52075d", func := "loop.example/g01136/laws.FnExactQuotientOf", spec := "fnExactQuotientOf", unfollowed := true, recurses := true, apart := false }
def FnExactQuotientOfSaid : Prop := fnExactQuotientOfRow.holds Try.pinned (OpenSpec.ofChange fnExactQuotientOfSpec)

/-- ITS FALSE NEIGHBOUR: 'it returns false'. Refute it at one input. -/
def fnExactQuotientOfWrong : ChangeSpec := { name := "fnExactQuotientOf", fn := fun _ => fun
  | [d1, d2] => { results := [.lit (.bool false)], args := [d1, d2] }
  | _ => none }
def FnExactQuotientOfWrongFalsely : Prop := fnExactQuotientOfRow.holds Try.pinned (OpenSpec.ofChange fnExactQuotientOfWrong)

/-- 'laws.FnExactLevelsOf': WHATEVER THE INPUT: true; the input reads as it did. -/
def fnExactLevelsOfSpec : ChangeSpec := { name := "fnExactLevelsOf", fn := fun _ => fun
  | [d1, d2] => { results := [.lit (.bool true)], args := [d1, d2] }
  | _ => none }
def fnExactLevelsOfRow : OpenClaim := { program := "ytnhjofcmaodamaa", sum := "98f3b73c2b3de2b3245239f0e1d95a5dcf94ad7d68e2e4266bd1a7266e52075d", func := "loop.example/g01136/laws.FnExactLevelsOf", spec := "fnExactLevelsOf", unfollowed := true, recurses := true, apart := false }
def FnExactLevelsOfSaid : Prop := fnExactLevelsOfRow.holds Try.pinned (OpenSpec.ofChange fnExactLevelsOfSpec)

/-- ITS FALSE NEIGHBOUR: 'it returns false'. Refute it at one input. -/
def fnExactLevelsOfWrong : ChangeSpec := { name := "fnExactLevelsOf", fn := fun _ => fun
  | [d1, d2] => { results := [.lit (.bool false)], args := [d1, d2] }
  | _ => none }
def FnExactLevelsOfWrongFalsely : Prop := fnExactLevelsOfRow.holds Try.pinned (OpenSpec.ofChange fnExactLevelsOfWrong)

/-- 'laws.FnExactCoreOfLevels': WHATEVER THE INPUT: true; the input reads as it did. -/
def fnExactCoreOfLevelsSpec : ChangeSpec := { name := "fnExactCoreOfLevels", fn := fun _ => fun
  | [d] => { results := [.lit (.bool true)], args := [d] }
  | _ => none }
def fnExactCoreOfLevelsRow : OpenClaim := { program := "ytnhjofcmaodamaa", sum := "98f3b73c2b3de2b3245239f0e1d95a5dcf94ad7d68e2e4266bd1a7266e52075d", func := "loop.example/g01136/laws.FnExactCoreOfLevels", spec := "fnExactCoreOfLevels", unfollowed := true, recurses := true, apart := false }
def FnExactCoreOfLevelsSaid : Prop := fnExactCoreOfLevelsRow.holds Try.pinned (OpenSpec.ofChange fnExactCoreOfLevelsSpec)

/-- ITS FALSE NEIGHBOUR: 'it returns false'. Refute it at one input. -/
def fnExactCoreOfLevelsWrong : ChangeSpec := { name := "fnExactCoreOfLevels", fn := fun _ => fun
  | [d] => { results := [.lit (.bool false)], args := [d] }
  | _ => none }
def FnExactCoreOfLevelsWrongFalsely : Prop := fnExactCoreOfLevelsRow.holds Try.pinned (OpenSpec.ofChange fnExactCoreOfLevelsWrong)

/-- 'laws.FnExactLevelsWith': WHATEVER THE INPUT: true; the input reads as it did. -/
def fnExactLevelsWithSpec : ChangeSpec := { name := "fnExactLevelsWith", fn := fun _ => fun
  | [d1, d2] => { results := [.lit (.bool true)], args := [d1, d2] }
  | _ => none }
def fnExactLevelsWithRow : OpenClaim := { program := "ytnhjofcmaodamaa", sum := "98f3b73c2b3de2b3245239f0e1d95a5dcf94ad7d68e2e4266bd1a7266e52075d", func := "loop.example/g01136/laws.FnExactLevelsWith", spec := "fnExactLevelsWith", recurses := true, apart := false }
def FnExactLevelsWithSaid : Prop := fnExactLevelsWithRow.holds Try.pinned (OpenSpec.ofChange fnExactLevelsWithSpec)

/-- ITS FALSE NEIGHBOUR: 'it returns false'. Refute it at one input. -/
def fnExactLevelsWithWrong : ChangeSpec := { name := "fnExactLevelsWith", fn := fun _ => fun
  | [d1, d2] => { results := [.lit (.bool false)], args := [d1, d2] }
  | _ => none }
def FnExactLevelsWithWrongFalsely : Prop := fnExactLevelsWithRow.holds Try.pinned (OpenSpec.ofChange fnExactLevelsWithWrong)

/-- 'laws.FnExactCoresWith': WHATEVER THE INPUT: true; the input reads as it did. -/
def fnExactCoresWithSpec : ChangeSpec := { name := "fnExactCoresWith", fn := fun _ => fun
  | [d1, d2] => { results := [.lit (.bool true)], args := [d1, d2] }
  | _ => none }
def fnExactCoresWithRow : OpenClaim := { program := "ytnhjofcmaodamaa", sum := "98f3b73c2b3de2b3245239f0e1d95a5dcf94ad7d68e2e4266bd1a7266e52075d", func := "loop.example/g01136/laws.FnExactCoresWith", spec := "fnExactCoresWith", unfollowed := true, recurses := true, apart := false }
def FnExactCoresWithSaid : Prop := fnExactCoresWithRow.holds Try.pinned (OpenSpec.ofChange fnExactCoresWithSpec)

/-- ITS FALSE NEIGHBOUR: 'it returns false'. Refute it at one input. -/
def fnExactCoresWithWrong : ChangeSpec := { name := "fnExactCoresWith", fn := fun _ => fun
  | [d1, d2] => { results := [.lit (.bool false)], args := [d1, d2] }
  | _ => none }
def FnExactCoresWithWrongFalsely : Prop := fnExactCoresWithRow.holds Try.pinned (OpenSpec.ofChange fnExactCoresWithWrong)

/-- 'laws.FnExactCountCores': WHATEVER THE INPUT: true; the input reads as it did. -/
def fnExactCountCoresSpec : ChangeSpec := { name := "fnExactCountCores", fn := fun _ => fun
  | [d1, d2] => { results := [.lit (.bool true)], args := [d1, d2] }
  | _ => none }
def fnExactCountCoresRow : OpenClaim := { program := "ytnhjofcmaodamaa", sum := "98f3b73c2b3de2b3245239f0e1d95a5dcf94ad7d68e2e4266bd1a7266e52075d", func := "loop.example/g01136/laws.FnExactCountCores", spec := "fnExactCountCores", recurses := true, apart := false }
def FnExactCountCoresSaid : Prop := fnExactCountCoresRow.holds Try.pinned (OpenSpec.ofChange fnExactCountCoresSpec)

/-- ITS FALSE NEIGHBOUR: 'it returns false'. Refute it at one input. -/
def fnExactCountCoresWrong : ChangeSpec := { name := "fnExactCountCores", fn := fun _ => fun
  | [d1, d2] => { results := [.lit (.bool false)], args := [d1, d2] }
  | _ => none }
def FnExactCountCoresWrongFalsely : Prop := fnExactCountCoresRow.holds Try.pinned (OpenSpec.ofChange fnExactCountCoresWrong)

/-- 'laws.FnExactReflectCore': WHATEVER THE INPUT: true; the input reads as it did. -/
def fnExactReflectCoreSpec : ChangeSpec := { name := "fnExactReflectCore", fn := fun _ => fun
  | [d1, d2, d3] => { results := [.lit (.bool true)], args := [d1, d2, d3] }
  | _ => none }
def fnExactReflectCoreRow : OpenClaim := { program := "ytnhjofcmaodamaa", sum := "98f3b73c2b3de2b3245239f0e1d95a5dcf94ad7d68e2e4266bd1a7266e52075d", func := "loop.example/g01136/laws.FnExactReflectCore", spec := "fnExactReflectCore", unfollowed := true, recurses := true, apart := false }
def FnExactReflectCoreSaid : Prop := fnExactReflectCoreRow.holds Try.pinned (OpenSpec.ofChange fnExactReflectCoreSpec)

/-- ITS FALSE NEIGHBOUR: 'it returns false'. Refute it at one input. -/
def fnExactReflectCoreWrong : ChangeSpec := { name := "fnExactReflectCore", fn := fun _ => fun
  | [d1, d2, d3] => { results := [.lit (.bool false)], args := [d1, d2, d3] }
  | _ => none }
def FnExactReflectCoreWrongFalsely : Prop := fnExactReflectCoreRow.holds Try.pinned (OpenSpec.ofChange fnExactReflectCoreWrong)

/-- 'laws.FnExactCoreWord': WHATEVER THE INPUT: true; the input reads as it did. -/
def fnExactCoreWordSpec : ChangeSpec := { name := "fnExactCoreWord", fn := fun _ => fun
  | [d1, d2] => { results := [.lit (.bool true)], args := [d1, d2] }
  | _ => none }
def fnExactCoreWordRow : OpenClaim := { program := "ytnhjofcmaodamaa", sum := "98f3b73c2b3de2b3245239f0e1d95a5dcf94ad7d68e2e4266bd1a7266e52075d", func := "loop.example/g01136/laws.FnExactCoreWord", spec := "fnExactCoreWord", unfollowed := true, recurses := true, apart := false }
def FnExactCoreWordSaid : Prop := fnExactCoreWordRow.holds Try.pinned (OpenSpec.ofChange fnExactCoreWordSpec)

/-- ITS FALSE NEIGHBOUR: 'it returns false'. Refute it at one input. -/
def fnExactCoreWordWrong : ChangeSpec := { name := "fnExactCoreWord", fn := fun _ => fun
  | [d1, d2] => { results := [.lit (.bool false)], args := [d1, d2] }
  | _ => none }
def FnExactCoreWordWrongFalsely : Prop := fnExactCoreWordRow.holds Try.pinned (OpenSpec.ofChange fnExactCoreWordWrong)

/-- 'laws.FnExactCoreByWord': WHATEVER THE INPUT: true; the input reads as it did. -/
def fnExactCoreByWordSpec : ChangeSpec := { name := "fnExactCoreByWord", fn := fun _ => fun
  | [d1, d2] => { results := [.lit (.bool true)], args := [d1, d2] }
  | _ => none }
def fnExactCoreByWordRow : OpenClaim := { program := "ytnhjofcmaodamaa", sum := "98f3b73c2b3de2b3245239f0e1d95a5dcf94ad7d68e2e4266bd1a7266e52075d", func := "loop.example/g01136/laws.FnExactCoreByWord", spec := "fnExactCoreByWord", unfollowed := true, recurses := true, apart := false }
def FnExactCoreByWordSaid : Prop := fnExactCoreByWordRow.holds Try.pinned (OpenSpec.ofChange fnExactCoreByWordSpec)

/-- ITS FALSE NEIGHBOUR: 'it returns false'. Refute it at one input. -/
def fnExactCoreByWordWrong : ChangeSpec := { name := "fnExactCoreByWord", fn := fun _ => fun
  | [d1, d2] => { results := [.lit (.bool false)], args := [d1, d2] }
  | _ => none }
def FnExactCoreByWordWrongFalsely : Prop := fnExactCoreByWordRow.holds Try.pinned (OpenSpec.ofChange fnExactCoreByWordWrong)

/-- 'laws.FnExactFromMaya': WHATEVER THE INPUT: true; the input reads as it did. -/
def fnExactFromMayaSpec : ChangeSpec := { name := "fnExactFromMaya", fn := fun _ => fun
  | [d] => { results := [.lit (.bool true)], args := [d] }
  | _ => none }
def fnExactFromMayaRow : OpenClaim := { program := "ytnhjofcmaodamaa", sum := "98f3b73c2b3de2b3245239f0e1d95a5dcf94ad7d68e2e4266bd1a7266e52075d", func := "loop.example/g01136/laws.FnExactFromMaya", spec := "fnExactFromMaya", unfollowed := true, recurses := true, apart := false }
def FnExactFromMayaSaid : Prop := fnExactFromMayaRow.holds Try.pinned (OpenSpec.ofChange fnExactFromMayaSpec)

/-- ITS FALSE NEIGHBOUR: 'it returns false'. Refute it at one input. -/
def fnExactFromMayaWrong : ChangeSpec := { name := "fnExactFromMaya", fn := fun _ => fun
  | [d] => { results := [.lit (.bool false)], args := [d] }
  | _ => none }
def FnExactFromMayaWrongFalsely : Prop := fnExactFromMayaRow.holds Try.pinned (OpenSpec.ofChange fnExactFromMayaWrong)

/-- 'laws.FnExactBlockOf': WHATEVER THE INPUT: true; the input reads as it did. -/
def fnExactBlockOfSpec : ChangeSpec := { name := "fnExactBlockOf", fn := fun _ => fun
  | [d1, d2, d3] => { results := [.lit (.bool true)], args := [d1, d2, d3] }
  | _ => none }
def fnExactBlockOfRow : OpenClaim := { program := "ytnhjofcmaodamaa", sum := "98f3b73c2b3de2b3245239f0e1d95a5dcf94ad7d68e2e4266bd1a7266e52075d", func := "loop.example/g01136/laws.FnExactBlockOf", spec := "fnExactBlockOf", unfollowed := true, recurses := true, apart := false }
def FnExactBlockOfSaid : Prop := fnExactBlockOfRow.holds Try.pinned (OpenSpec.ofChange fnExactBlockOfSpec)

/-- ITS FALSE NEIGHBOUR: 'it returns false'. Refute it at one input. -/
def fnExactBlockOfWrong : ChangeSpec := { name := "fnExactBlockOf", fn := fun _ => fun
  | [d1, d2, d3] => { results := [.lit (.bool false)], args := [d1, d2, d3] }
  | _ => none }
def FnExactBlockOfWrongFalsely : Prop := fnExactBlockOfRow.holds Try.pinned (OpenSpec.ofChange fnExactBlockOfWrong)

/-- 'laws.FnExactCountRuns': WHATEVER THE INPUT: true; the input reads as it did. -/
def fnExactCountRunsSpec : ChangeSpec := { name := "fnExactCountRuns", fn := fun _ => fun
  | [d1, d2] => { results := [.lit (.bool true)], args := [d1, d2] }
  | _ => none }
def fnExactCountRunsRow : OpenClaim := { program := "ytnhjofcmaodamaa", sum := "98f3b73c2b3de2b3245239f0e1d95a5dcf94ad7d68e2e4266bd1a7266e52075d", func := "loop.example/g01136/laws.FnExactCountRuns", spec := "fnExactCountRuns", unfollowed := true, recurses := true, apart := false }
def FnExactCountRunsSaid : Prop := fnExactCountRunsRow.holds Try.pinned (OpenSpec.ofChange fnExactCountRunsSpec)

/-- ITS FALSE NEIGHBOUR: 'it returns false'. Refute it at one input. -/
def fnExactCountRunsWrong : ChangeSpec := { name := "fnExactCountRuns", fn := fun _ => fun
  | [d1, d2] => { results := [.lit (.bool false)], args := [d1, d2] }
  | _ => none }
def FnExactCountRunsWrongFalsely : Prop := fnExactCountRunsRow.holds Try.pinned (OpenSpec.ofChange fnExactCountRunsWrong)

/- THE SECOND FORM. 'bulk': how many values and letters a reading holds, each counted each time it is reached (what is shared counts as often as it is met; a slice's spare places count too). A statement '..UptoSaid' is the law's where the arguments, and the package variables that the reading takes, are together of bulk at most 1048576: NARROWER than '..Said'. Prove '..Said' where nothing that the law and all that it calls make is longer than what came in: it says more and counts as full. Else prove '..UptoSaid'. A law counts once. -/
mutual
def uptoBulk {H : Type} : DataW H → Nat
  | .lit (.string bytes) => bytes.length + 1
  | .lit _ => 1
  | .nil => 1
  | .ptr d => uptoBulk d + 1
  | .slice elems spare => uptoBulkAll elems + uptoBulkAll spare + 1
  | .agg parts => uptoBulkAll parts + 1
  | .iface _ d => uptoBulk d + 1
  | .map entries => uptoBulkEntries entries + 1
  | .held _ => 1
def uptoBulkAll {H : Type} : List (DataW H) → Nat
  | [] => 0
  | d :: r => uptoBulk d + uptoBulkAll r
def uptoBulkEntries {H : Type} : List (Lit × DataW H) → Nat
  | [] => 0
  | x :: r => uptoBulkEntry x + uptoBulkEntries r
def uptoBulkEntry {H : Type} : Lit × DataW H → Nat
  | (.string bytes, d) => bytes.length + uptoBulk d + 1
  | (_, d) => uptoBulk d + 1
 end
def uptoSmall : (H : Type) → List (DataW H) → Bool := fun _ ds => decide (uptoBulkAll ds ≤ 1048576)
def OpenSpec.upto (s : _root_.Go.ChangeSpec) : _root_.Go.OpenSpec := { _root_.Go.OpenSpec.ofChange s with cond := some uptoSmall }

/-- 'laws.FnExactMoveBead', WHERE WHAT IT READS IS OF BULK AT MOST 1048576: true; the input reads as it did. -/
def fnExactMoveBeadUptoRow : OpenClaim := { program := "ytnhjofcmaodamaa", sum := "98f3b73c2b3de2b3245239f0e1d95a5dcf94ad7d68e2e4266bd1a7266e52075d", func := "loop.example/g01136/laws.FnExactMoveBead", spec := "fnExactMoveBead", unfollowed := true, recurses := true, apart := false, narrowed := true }
def FnExactMoveBeadUptoSaid : Prop := fnExactMoveBeadUptoRow.holds Try.pinned (OpenSpec.upto fnExactMoveBeadSpec)

/-- 'laws.FnExactPushDown', WHERE WHAT IT READS IS OF BULK AT MOST 1048576: true; the input reads as it did. -/
def fnExactPushDownUptoRow : OpenClaim := { program := "ytnhjofcmaodamaa", sum := "98f3b73c2b3de2b3245239f0e1d95a5dcf94ad7d68e2e4266bd1a7266e52075d", func := "loop.example/g01136/laws.FnExactPushDown", spec := "fnExactPushDown", unfollowed := true, recurses := true, apart := false, narrowed := true }
def FnExactPushDownUptoSaid : Prop := fnExactPushDownUptoRow.holds Try.pinned (OpenSpec.upto fnExactPushDownSpec)

/-- 'laws.FnExactAddedRims', WHERE WHAT IT READS IS OF BULK AT MOST 1048576: true; the input reads as it did. -/
def fnExactAddedRimsUptoRow : OpenClaim := { program := "ytnhjofcmaodamaa", sum := "98f3b73c2b3de2b3245239f0e1d95a5dcf94ad7d68e2e4266bd1a7266e52075d", func := "loop.example/g01136/laws.FnExactAddedRims", spec := "fnExactAddedRims", unfollowed := true, recurses := true, apart := false, narrowed := true }
def FnExactAddedRimsUptoSaid : Prop := fnExactAddedRimsUptoRow.holds Try.pinned (OpenSpec.upto fnExactAddedRimsSpec)

/-- 'laws.FnExactFromCore', WHERE WHAT IT READS IS OF BULK AT MOST 1048576: true; the input reads as it did. -/
def fnExactFromCoreUptoRow : OpenClaim := { program := "ytnhjofcmaodamaa", sum := "98f3b73c2b3de2b3245239f0e1d95a5dcf94ad7d68e2e4266bd1a7266e52075d", func := "loop.example/g01136/laws.FnExactFromCore", spec := "fnExactFromCore", unfollowed := true, recurses := true, apart := false, narrowed := true }
def FnExactFromCoreUptoSaid : Prop := fnExactFromCoreUptoRow.holds Try.pinned (OpenSpec.upto fnExactFromCoreSpec)

/-- 'laws.FnExactSameBlock', WHERE WHAT IT READS IS OF BULK AT MOST 1048576: true; the input reads as it did. -/
def fnExactSameBlockUptoRow : OpenClaim := { program := "ytnhjofcmaodamaa", sum := "98f3b73c2b3de2b3245239f0e1d95a5dcf94ad7d68e2e4266bd1a7266e52075d", func := "loop.example/g01136/laws.FnExactSameBlock", spec := "fnExactSameBlock", unfollowed := true, recurses := true, apart := false, narrowed := true }
def FnExactSameBlockUptoSaid : Prop := fnExactSameBlockUptoRow.holds Try.pinned (OpenSpec.upto fnExactSameBlockSpec)

/-- 'laws.FnExactRunnersOf', WHERE WHAT IT READS IS OF BULK AT MOST 1048576: true; the input reads as it did. -/
def fnExactRunnersOfUptoRow : OpenClaim := { program := "ytnhjofcmaodamaa", sum := "98f3b73c2b3de2b3245239f0e1d95a5dcf94ad7d68e2e4266bd1a7266e52075d", func := "loop.example/g01136/laws.FnExactRunnersOf", spec := "fnExactRunnersOf", unfollowed := true, recurses := true, apart := false, narrowed := true }
def FnExactRunnersOfUptoSaid : Prop := fnExactRunnersOfUptoRow.holds Try.pinned (OpenSpec.upto fnExactRunnersOfSpec)

/-- 'laws.FnExactFromRunners', WHERE WHAT IT READS IS OF BULK AT MOST 1048576: true; the input reads as it did. -/
def fnExactFromRunnersUptoRow : OpenClaim := { program := "ytnhjofcmaodamaa", sum := "98f3b73c2b3de2b3245239f0e1d95a5dcf94ad7d68e2e4266bd1a7266e52075d", func := "loop.example/g01136/laws.FnExactFromRunners", spec := "fnExactFromRunners", unfollowed := true, recurses := true, apart := false, narrowed := true }
def FnExactFromRunnersUptoSaid : Prop := fnExactFromRunnersUptoRow.holds Try.pinned (OpenSpec.upto fnExactFromRunnersSpec)

/-- 'laws.FnExactCoreOf', WHERE WHAT IT READS IS OF BULK AT MOST 1048576: true; the input reads as it did. -/
def fnExactCoreOfUptoRow : OpenClaim := { program := "ytnhjofcmaodamaa", sum := "98f3b73c2b3de2b3245239f0e1d95a5dcf94ad7d68e2e4266bd1a7266e52075d", func := "loop.example/g01136/laws.FnExactCoreOf", spec := "fnExactCoreOf", unfollowed := true, recurses := true, apart := false, narrowed := true }
def FnExactCoreOfUptoSaid : Prop := fnExactCoreOfUptoRow.holds Try.pinned (OpenSpec.upto fnExactCoreOfSpec)

/-- 'laws.FnExactWeightOf', WHERE WHAT IT READS IS OF BULK AT MOST 1048576: true; the input reads as it did. -/
def fnExactWeightOfUptoRow : OpenClaim := { program := "ytnhjofcmaodamaa", sum := "98f3b73c2b3de2b3245239f0e1d95a5dcf94ad7d68e2e4266bd1a7266e52075d", func := "loop.example/g01136/laws.FnExactWeightOf", spec := "fnExactWeightOf", unfollowed := true, recurses := true, apart := false, narrowed := true }
def FnExactWeightOfUptoSaid : Prop := fnExactWeightOfUptoRow.holds Try.pinned (OpenSpec.upto fnExactWeightOfSpec)

/-- 'laws.FnExactQuotientOf', WHERE WHAT IT READS IS OF BULK AT MOST 1048576: true; the input reads as it did. -/
def fnExactQuotientOfUptoRow : OpenClaim := { program := "ytnhjofcmaodamaa", sum := "98f3b73c2b3de2b3245239f0e1d95a5dcf94ad7d68e2e4266bd1a7266e52075d", func := "loop.example/g01136/laws.FnExactQuotientOf", spec := "fnExactQuotientOf", unfollowed := true, recurses := true, apart := false, narrowed := true }
def FnExactQuotientOfUptoSaid : Prop := fnExactQuotientOfUptoRow.holds Try.pinned (OpenSpec.upto fnExactQuotientOfSpec)

/-- 'laws.FnExactLevelsOf', WHERE WHAT IT READS IS OF BULK AT MOST 1048576: true; the input reads as it did. -/
def fnExactLevelsOfUptoRow : OpenClaim := { program := "ytnhjofcmaodamaa", sum := "98f3b73c2b3de2b3245239f0e1d95a5dcf94ad7d68e2e4266bd1a7266e52075d", func := "loop.example/g01136/laws.FnExactLevelsOf", spec := "fnExactLevelsOf", unfollowed := true, recurses := true, apart := false, narrowed := true }
def FnExactLevelsOfUptoSaid : Prop := fnExactLevelsOfUptoRow.holds Try.pinned (OpenSpec.upto fnExactLevelsOfSpec)

/-- 'laws.FnExactCoreOfLevels', WHERE WHAT IT READS IS OF BULK AT MOST 1048576: true; the input reads as it did. -/
def fnExactCoreOfLevelsUptoRow : OpenClaim := { program := "ytnhjofcmaodamaa", sum := "98f3b73c2b3de2b3245239f0e1d95a5dcf94ad7d68e2e4266bd1a7266e52075d", func := "loop.example/g01136/laws.FnExactCoreOfLevels", spec := "fnExactCoreOfLevels", unfollowed := true, recurses := true, apart := false, narrowed := true }
def FnExactCoreOfLevelsUptoSaid : Prop := fnExactCoreOfLevelsUptoRow.holds Try.pinned (OpenSpec.upto fnExactCoreOfLevelsSpec)

/-- 'laws.FnExactLevelsWith', WHERE WHAT IT READS IS OF BULK AT MOST 1048576: true; the input reads as it did. -/
def fnExactLevelsWithUptoRow : OpenClaim := { program := "ytnhjofcmaodamaa", sum := "98f3b73c2b3de2b3245239f0e1d95a5dcf94ad7d68e2e4266bd1a7266e52075d", func := "loop.example/g01136/laws.FnExactLevelsWith", spec := "fnExactLevelsWith", recurses := true, apart := false, narrowed := true }
def FnExactLevelsWithUptoSaid : Prop := fnExactLevelsWithUptoRow.holds Try.pinned (OpenSpec.upto fnExactLevelsWithSpec)

/-- 'laws.FnExactCoresWith', WHERE WHAT IT READS IS OF BULK AT MOST 1048576: true; the input reads as it did. -/
def fnExactCoresWithUptoRow : OpenClaim := { program := "ytnhjofcmaodamaa", sum := "98f3b73c2b3de2b3245239f0e1d95a5dcf94ad7d68e2e4266bd1a7266e52075d", func := "loop.example/g01136/laws.FnExactCoresWith", spec := "fnExactCoresWith", unfollowed := true, recurses := true, apart := false, narrowed := true }
def FnExactCoresWithUptoSaid : Prop := fnExactCoresWithUptoRow.holds Try.pinned (OpenSpec.upto fnExactCoresWithSpec)

/-- 'laws.FnExactCountCores', WHERE WHAT IT READS IS OF BULK AT MOST 1048576: true; the input reads as it did. -/
def fnExactCountCoresUptoRow : OpenClaim := { program := "ytnhjofcmaodamaa", sum := "98f3b73c2b3de2b3245239f0e1d95a5dcf94ad7d68e2e4266bd1a7266e52075d", func := "loop.example/g01136/laws.FnExactCountCores", spec := "fnExactCountCores", recurses := true, apart := false, narrowed := true }
def FnExactCountCoresUptoSaid : Prop := fnExactCountCoresUptoRow.holds Try.pinned (OpenSpec.upto fnExactCountCoresSpec)

/-- 'laws.FnExactReflectCore', WHERE WHAT IT READS IS OF BULK AT MOST 1048576: true; the input reads as it did. -/
def fnExactReflectCoreUptoRow : OpenClaim := { program := "ytnhjofcmaodamaa", sum := "98f3b73c2b3de2b3245239f0e1d95a5dcf94ad7d68e2e4266bd1a7266e52075d", func := "loop.example/g01136/laws.FnExactReflectCore", spec := "fnExactReflectCore", unfollowed := true, recurses := true, apart := false, narrowed := true }
def FnExactReflectCoreUptoSaid : Prop := fnExactReflectCoreUptoRow.holds Try.pinned (OpenSpec.upto fnExactReflectCoreSpec)

/-- 'laws.FnExactCoreWord', WHERE WHAT IT READS IS OF BULK AT MOST 1048576: true; the input reads as it did. -/
def fnExactCoreWordUptoRow : OpenClaim := { program := "ytnhjofcmaodamaa", sum := "98f3b73c2b3de2b3245239f0e1d95a5dcf94ad7d68e2e4266bd1a7266e52075d", func := "loop.example/g01136/laws.FnExactCoreWord", spec := "fnExactCoreWord", unfollowed := true, recurses := true, apart := false, narrowed := true }
def FnExactCoreWordUptoSaid : Prop := fnExactCoreWordUptoRow.holds Try.pinned (OpenSpec.upto fnExactCoreWordSpec)

/-- 'laws.FnExactCoreByWord', WHERE WHAT IT READS IS OF BULK AT MOST 1048576: true; the input reads as it did. -/
def fnExactCoreByWordUptoRow : OpenClaim := { program := "ytnhjofcmaodamaa", sum := "98f3b73c2b3de2b3245239f0e1d95a5dcf94ad7d68e2e4266bd1a7266e52075d", func := "loop.example/g01136/laws.FnExactCoreByWord", spec := "fnExactCoreByWord", unfollowed := true, recurses := true, apart := false, narrowed := true }
def FnExactCoreByWordUptoSaid : Prop := fnExactCoreByWordUptoRow.holds Try.pinned (OpenSpec.upto fnExactCoreByWordSpec)

/-- 'laws.FnExactFromMaya', WHERE WHAT IT READS IS OF BULK AT MOST 1048576: true; the input reads as it did. -/
def fnExactFromMayaUptoRow : OpenClaim := { program := "ytnhjofcmaodamaa", sum := "98f3b73c2b3de2b3245239f0e1d95a5dcf94ad7d68e2e4266bd1a7266e52075d", func := "loop.example/g01136/laws.FnExactFromMaya", spec := "fnExactFromMaya", unfollowed := true, recurses := true, apart := false, narrowed := true }
def FnExactFromMayaUptoSaid : Prop := fnExactFromMayaUptoRow.holds Try.pinned (OpenSpec.upto fnExactFromMayaSpec)

/-- 'laws.FnExactBlockOf', WHERE WHAT IT READS IS OF BULK AT MOST 1048576: true; the input reads as it did. -/
def fnExactBlockOfUptoRow : OpenClaim := { program := "ytnhjofcmaodamaa", sum := "98f3b73c2b3de2b3245239f0e1d95a5dcf94ad7d68e2e4266bd1a7266e52075d", func := "loop.example/g01136/laws.FnExactBlockOf", spec := "fnExactBlockOf", unfollowed := true, recurses := true, apart := false, narrowed := true }
def FnExactBlockOfUptoSaid : Prop := fnExactBlockOfUptoRow.holds Try.pinned (OpenSpec.upto fnExactBlockOfSpec)

/-- 'laws.FnExactCountRuns', WHERE WHAT IT READS IS OF BULK AT MOST 1048576: true; the input reads as it did. -/
def fnExactCountRunsUptoRow : OpenClaim := { program := "ytnhjofcmaodamaa", sum := "98f3b73c2b3de2b3245239f0e1d95a5dcf94ad7d68e2e4266bd1a7266e52075d", func := "loop.example/g01136/laws.FnExactCountRuns", spec := "fnExactCountRuns", unfollowed := true, recurses := true, apart := false, narrowed := true }
def FnExactCountRunsUptoSaid : Prop := fnExactCountRunsUptoRow.holds Try.pinned (OpenSpec.upto fnExactCountRunsSpec)

end Rows
end Go.Proofs.Ytnhjofcmaodamaa
