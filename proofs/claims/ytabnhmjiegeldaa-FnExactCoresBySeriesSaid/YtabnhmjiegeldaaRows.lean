/-
  No cell of these rows narrows 'for every input' (looked for: loops, veiled, ifaces, maps, wideKeys, modest, calm, conditions, laid).
  DERIVED. THE GIVEN ROWS OF THIS SEAT. 23 by the template 'for every input the law returns true; each argument reads behind the call as it read before'; 0 by the template 'total and deterministic' (their statements: YtabnhmjiegeldaaTotals.lean).
  GIVEN WITH THE SEED: the statements are not yours to turn. If you find one false, say at which input.
  Laid BY PROGRAM, IN A SANDBOX (cutbox-rows.mjs): the forced cells as the released guide's own fill.sh prints them over the translation 8302dbe2cd82d6d6… (all of the seat's roots in one cut). By AI agents, Wed Nov 11 2026. No macro, syntax, notation, axiom, sorry.
-/
import Derived.Test.YtabnhmjiegeldaaChecked
import GoSem.Claim
import GoSem.ClaimJoined
import GoSem.ClaimMapViews
import Derived.JoinedTies
import Derived.KernelRfl
namespace Go.Proofs.Ytabnhmjiegeldaa
/- THE CELL 'sum', in the pinned program and in every row, IS THE sha256 OF THE DUMP (.gsa) THAT YtabnhmjiegeldaaProg.lean LOADS. Nothing in Lean hashes anything: it is a label: what it is worth is what the hold of that sum in a sandbox is worth. -/
noncomputable def Try.pinned : Pinned := { name := "ytabnhmjiegeldaa", sum := "8302dbe2cd82d6d67059b0082d07331fe6033678545791d749d725caca1b0582", checked := Try.checked }
namespace Rows
def none {H : Type} : Left H := { results := [], args := [] }

/-- 'laws.FnExactIsLevels': WHATEVER THE INPUT: true; the input reads as it did. -/
def fnExactIsLevelsSpec : ChangeSpec := { name := "fnExactIsLevels", fn := fun _ => fun
  | [d] => { results := [.lit (.bool true)], args := [d] }
  | _ => none }
def fnExactIsLevelsRow : OpenClaim := { program := "ytabnhmjiegeldaa", sum := "8302dbe2cd82d6d67059b0082d07331fe6033678545791d749d725caca1b0582", func := "loop.example/g01136/laws.FnExactIsLevels", spec := "fnExactIsLevels", apart := false }
def FnExactIsLevelsSaid : Prop := fnExactIsLevelsRow.holds Try.pinned (OpenSpec.ofChange fnExactIsLevelsSpec)

/-- ITS FALSE NEIGHBOUR: 'it returns false'. Refute it at one input. -/
def fnExactIsLevelsWrong : ChangeSpec := { name := "fnExactIsLevels", fn := fun _ => fun
  | [d] => { results := [.lit (.bool false)], args := [d] }
  | _ => none }
def FnExactIsLevelsWrongFalsely : Prop := fnExactIsLevelsRow.holds Try.pinned (OpenSpec.ofChange fnExactIsLevelsWrong)

/-- 'laws.FnExactLevelsOf': WHATEVER THE INPUT: true; the input reads as it did. -/
def fnExactLevelsOfSpec : ChangeSpec := { name := "fnExactLevelsOf", fn := fun _ => fun
  | [d1, d2] => { results := [.lit (.bool true)], args := [d1, d2] }
  | _ => none }
def fnExactLevelsOfRow : OpenClaim := { program := "ytabnhmjiegeldaa", sum := "8302dbe2cd82d6d67059b0082d07331fe6033678545791d749d725caca1b0582", func := "loop.example/g01136/laws.FnExactLevelsOf", spec := "fnExactLevelsOf", unfollowed := true, recurses := true, apart := false }
def FnExactLevelsOfSaid : Prop := fnExactLevelsOfRow.holds Try.pinned (OpenSpec.ofChange fnExactLevelsOfSpec)

/-- ITS FALSE NEIGHBOUR: 'it returns false'. Refute it at one input. -/
def fnExactLevelsOfWrong : ChangeSpec := { name := "fnExactLevelsOf", fn := fun _ => fun
  | [d1, d2] => { results := [.lit (.bool false)], args := [d1, d2] }
  | _ => none }
def FnExactLevelsOfWrongFalsely : Prop := fnExactLevelsOfRow.holds Try.pinned (OpenSpec.ofChange fnExactLevelsOfWrong)

/-- 'laws.FnExactSizeOfLevels': WHATEVER THE INPUT: true; the input reads as it did. -/
def fnExactSizeOfLevelsSpec : ChangeSpec := { name := "fnExactSizeOfLevels", fn := fun _ => fun
  | [d] => { results := [.lit (.bool true)], args := [d] }
  | _ => none }
def fnExactSizeOfLevelsRow : OpenClaim := { program := "ytabnhmjiegeldaa", sum := "8302dbe2cd82d6d67059b0082d07331fe6033678545791d749d725caca1b0582", func := "loop.example/g01136/laws.FnExactSizeOfLevels", spec := "fnExactSizeOfLevels", unfollowed := true, recurses := true, apart := false }
def FnExactSizeOfLevelsSaid : Prop := fnExactSizeOfLevelsRow.holds Try.pinned (OpenSpec.ofChange fnExactSizeOfLevelsSpec)

/-- ITS FALSE NEIGHBOUR: 'it returns false'. Refute it at one input. -/
def fnExactSizeOfLevelsWrong : ChangeSpec := { name := "fnExactSizeOfLevels", fn := fun _ => fun
  | [d] => { results := [.lit (.bool false)], args := [d] }
  | _ => none }
def FnExactSizeOfLevelsWrongFalsely : Prop := fnExactSizeOfLevelsRow.holds Try.pinned (OpenSpec.ofChange fnExactSizeOfLevelsWrong)

/-- 'laws.FnExactCoreOfLevels': WHATEVER THE INPUT: true; the input reads as it did. -/
def fnExactCoreOfLevelsSpec : ChangeSpec := { name := "fnExactCoreOfLevels", fn := fun _ => fun
  | [d] => { results := [.lit (.bool true)], args := [d] }
  | _ => none }
def fnExactCoreOfLevelsRow : OpenClaim := { program := "ytabnhmjiegeldaa", sum := "8302dbe2cd82d6d67059b0082d07331fe6033678545791d749d725caca1b0582", func := "loop.example/g01136/laws.FnExactCoreOfLevels", spec := "fnExactCoreOfLevels", unfollowed := true, recurses := true, apart := false }
def FnExactCoreOfLevelsSaid : Prop := fnExactCoreOfLevelsRow.holds Try.pinned (OpenSpec.ofChange fnExactCoreOfLevelsSpec)

/-- ITS FALSE NEIGHBOUR: 'it returns false'. Refute it at one input. -/
def fnExactCoreOfLevelsWrong : ChangeSpec := { name := "fnExactCoreOfLevels", fn := fun _ => fun
  | [d] => { results := [.lit (.bool false)], args := [d] }
  | _ => none }
def FnExactCoreOfLevelsWrongFalsely : Prop := fnExactCoreOfLevelsRow.holds Try.pinned (OpenSpec.ofChange fnExactCoreOfLevelsWrong)

/-- 'laws.FnExactLevelsWith': WHATEVER THE INPUT: true; the input reads as it did. -/
def fnExactLevelsWithSpec : ChangeSpec := { name := "fnExactLevelsWith", fn := fun _ => fun
  | [d1, d2] => { results := [.lit (.bool true)], args := [d1, d2] }
  | _ => none }
def fnExactLevelsWithRow : OpenClaim := { program := "ytabnhmjiegeldaa", sum := "8302dbe2cd82d6d67059b0082d07331fe6033678545791d749d725caca1b0582", func := "loop.example/g01136/laws.FnExactLevelsWith", spec := "fnExactLevelsWith", recurses := true, apart := false }
def FnExactLevelsWithSaid : Prop := fnExactLevelsWithRow.holds Try.pinned (OpenSpec.ofChange fnExactLevelsWithSpec)

/-- ITS FALSE NEIGHBOUR: 'it returns false'. Refute it at one input. -/
def fnExactLevelsWithWrong : ChangeSpec := { name := "fnExactLevelsWith", fn := fun _ => fun
  | [d1, d2] => { results := [.lit (.bool false)], args := [d1, d2] }
  | _ => none }
def FnExactLevelsWithWrongFalsely : Prop := fnExactLevelsWithRow.holds Try.pinned (OpenSpec.ofChange fnExactLevelsWithWrong)

/-- 'laws.FnExactCoresWith': WHATEVER THE INPUT: true; the input reads as it did. -/
def fnExactCoresWithSpec : ChangeSpec := { name := "fnExactCoresWith", fn := fun _ => fun
  | [d1, d2] => { results := [.lit (.bool true)], args := [d1, d2] }
  | _ => none }
def fnExactCoresWithRow : OpenClaim := { program := "ytabnhmjiegeldaa", sum := "8302dbe2cd82d6d67059b0082d07331fe6033678545791d749d725caca1b0582", func := "loop.example/g01136/laws.FnExactCoresWith", spec := "fnExactCoresWith", unfollowed := true, recurses := true, apart := false }
def FnExactCoresWithSaid : Prop := fnExactCoresWithRow.holds Try.pinned (OpenSpec.ofChange fnExactCoresWithSpec)

/-- ITS FALSE NEIGHBOUR: 'it returns false'. Refute it at one input. -/
def fnExactCoresWithWrong : ChangeSpec := { name := "fnExactCoresWith", fn := fun _ => fun
  | [d1, d2] => { results := [.lit (.bool false)], args := [d1, d2] }
  | _ => none }
def FnExactCoresWithWrongFalsely : Prop := fnExactCoresWithRow.holds Try.pinned (OpenSpec.ofChange fnExactCoresWithWrong)

/-- 'laws.FnExactCountCores': WHATEVER THE INPUT: true; the input reads as it did. -/
def fnExactCountCoresSpec : ChangeSpec := { name := "fnExactCountCores", fn := fun _ => fun
  | [d1, d2] => { results := [.lit (.bool true)], args := [d1, d2] }
  | _ => none }
def fnExactCountCoresRow : OpenClaim := { program := "ytabnhmjiegeldaa", sum := "8302dbe2cd82d6d67059b0082d07331fe6033678545791d749d725caca1b0582", func := "loop.example/g01136/laws.FnExactCountCores", spec := "fnExactCountCores", recurses := true, apart := false }
def FnExactCountCoresSaid : Prop := fnExactCountCoresRow.holds Try.pinned (OpenSpec.ofChange fnExactCountCoresSpec)

/-- ITS FALSE NEIGHBOUR: 'it returns false'. Refute it at one input. -/
def fnExactCountCoresWrong : ChangeSpec := { name := "fnExactCountCores", fn := fun _ => fun
  | [d1, d2] => { results := [.lit (.bool false)], args := [d1, d2] }
  | _ => none }
def FnExactCountCoresWrongFalsely : Prop := fnExactCountCoresRow.holds Try.pinned (OpenSpec.ofChange fnExactCountCoresWrong)

/-- 'laws.FnExactCoresBySeries': WHATEVER THE INPUT: true; the input reads as it did. -/
def fnExactCoresBySeriesSpec : ChangeSpec := { name := "fnExactCoresBySeries", fn := fun _ => fun
  | [d1, d2] => { results := [.lit (.bool true)], args := [d1, d2] }
  | _ => none }
def fnExactCoresBySeriesRow : OpenClaim := { program := "ytabnhmjiegeldaa", sum := "8302dbe2cd82d6d67059b0082d07331fe6033678545791d749d725caca1b0582", func := "loop.example/g01136/laws.FnExactCoresBySeries", spec := "fnExactCoresBySeries", apart := false }
def FnExactCoresBySeriesSaid : Prop := fnExactCoresBySeriesRow.holds Try.pinned (OpenSpec.ofChange fnExactCoresBySeriesSpec)

/-- ITS FALSE NEIGHBOUR: 'it returns false'. Refute it at one input. -/
def fnExactCoresBySeriesWrong : ChangeSpec := { name := "fnExactCoresBySeries", fn := fun _ => fun
  | [d1, d2] => { results := [.lit (.bool false)], args := [d1, d2] }
  | _ => none }
def FnExactCoresBySeriesWrongFalsely : Prop := fnExactCoresBySeriesRow.holds Try.pinned (OpenSpec.ofChange fnExactCoresBySeriesWrong)

/-- 'laws.FnExactResidueCounts': WHATEVER THE INPUT: true; the input reads as it did. -/
def fnExactResidueCountsSpec : ChangeSpec := { name := "fnExactResidueCounts", fn := fun _ => fun
  | [d1, d2] => { results := [.lit (.bool true)], args := [d1, d2] }
  | _ => none }
def fnExactResidueCountsRow : OpenClaim := { program := "ytabnhmjiegeldaa", sum := "8302dbe2cd82d6d67059b0082d07331fe6033678545791d749d725caca1b0582", func := "loop.example/g01136/laws.FnExactResidueCounts", spec := "fnExactResidueCounts", unfollowed := true, recurses := true, apart := false }
def FnExactResidueCountsSaid : Prop := fnExactResidueCountsRow.holds Try.pinned (OpenSpec.ofChange fnExactResidueCountsSpec)

/-- ITS FALSE NEIGHBOUR: 'it returns false'. Refute it at one input. -/
def fnExactResidueCountsWrong : ChangeSpec := { name := "fnExactResidueCounts", fn := fun _ => fun
  | [d1, d2] => { results := [.lit (.bool false)], args := [d1, d2] }
  | _ => none }
def FnExactResidueCountsWrongFalsely : Prop := fnExactResidueCountsRow.holds Try.pinned (OpenSpec.ofChange fnExactResidueCountsWrong)

/-- 'laws.FnExactLevelsFromCounts': WHATEVER THE INPUT: true; the input reads as it did. -/
def fnExactLevelsFromCountsSpec : ChangeSpec := { name := "fnExactLevelsFromCounts", fn := fun _ => fun
  | [d] => { results := [.lit (.bool true)], args := [d] }
  | _ => none }
def fnExactLevelsFromCountsRow : OpenClaim := { program := "ytabnhmjiegeldaa", sum := "8302dbe2cd82d6d67059b0082d07331fe6033678545791d749d725caca1b0582", func := "loop.example/g01136/laws.FnExactLevelsFromCounts", spec := "fnExactLevelsFromCounts", apart := false }
def FnExactLevelsFromCountsSaid : Prop := fnExactLevelsFromCountsRow.holds Try.pinned (OpenSpec.ofChange fnExactLevelsFromCountsSpec)

/-- ITS FALSE NEIGHBOUR: 'it returns false'. Refute it at one input. -/
def fnExactLevelsFromCountsWrong : ChangeSpec := { name := "fnExactLevelsFromCounts", fn := fun _ => fun
  | [d] => { results := [.lit (.bool false)], args := [d] }
  | _ => none }
def FnExactLevelsFromCountsWrongFalsely : Prop := fnExactLevelsFromCountsRow.holds Try.pinned (OpenSpec.ofChange fnExactLevelsFromCountsWrong)

/-- 'laws.FnExactTurnLevels': WHATEVER THE INPUT: true; the input reads as it did. -/
def fnExactTurnLevelsSpec : ChangeSpec := { name := "fnExactTurnLevels", fn := fun _ => fun
  | [d] => { results := [.lit (.bool true)], args := [d] }
  | _ => none }
def fnExactTurnLevelsRow : OpenClaim := { program := "ytabnhmjiegeldaa", sum := "8302dbe2cd82d6d67059b0082d07331fe6033678545791d749d725caca1b0582", func := "loop.example/g01136/laws.FnExactTurnLevels", spec := "fnExactTurnLevels", apart := false }
def FnExactTurnLevelsSaid : Prop := fnExactTurnLevelsRow.holds Try.pinned (OpenSpec.ofChange fnExactTurnLevelsSpec)

/-- ITS FALSE NEIGHBOUR: 'it returns false'. Refute it at one input. -/
def fnExactTurnLevelsWrong : ChangeSpec := { name := "fnExactTurnLevels", fn := fun _ => fun
  | [d] => { results := [.lit (.bool false)], args := [d] }
  | _ => none }
def FnExactTurnLevelsWrongFalsely : Prop := fnExactTurnLevelsRow.holds Try.pinned (OpenSpec.ofChange fnExactTurnLevelsWrong)

/-- 'laws.FnExactReflectLevels': WHATEVER THE INPUT: true; the input reads as it did. -/
def fnExactReflectLevelsSpec : ChangeSpec := { name := "fnExactReflectLevels", fn := fun _ => fun
  | [d1, d2] => { results := [.lit (.bool true)], args := [d1, d2] }
  | _ => none }
def fnExactReflectLevelsRow : OpenClaim := { program := "ytabnhmjiegeldaa", sum := "8302dbe2cd82d6d67059b0082d07331fe6033678545791d749d725caca1b0582", func := "loop.example/g01136/laws.FnExactReflectLevels", spec := "fnExactReflectLevels", apart := false }
def FnExactReflectLevelsSaid : Prop := fnExactReflectLevelsRow.holds Try.pinned (OpenSpec.ofChange fnExactReflectLevelsSpec)

/-- ITS FALSE NEIGHBOUR: 'it returns false'. Refute it at one input. -/
def fnExactReflectLevelsWrong : ChangeSpec := { name := "fnExactReflectLevels", fn := fun _ => fun
  | [d1, d2] => { results := [.lit (.bool false)], args := [d1, d2] }
  | _ => none }
def FnExactReflectLevelsWrongFalsely : Prop := fnExactReflectLevelsRow.holds Try.pinned (OpenSpec.ofChange fnExactReflectLevelsWrong)

/-- 'laws.FnExactReflectCore': WHATEVER THE INPUT: true; the input reads as it did. -/
def fnExactReflectCoreSpec : ChangeSpec := { name := "fnExactReflectCore", fn := fun _ => fun
  | [d1, d2, d3] => { results := [.lit (.bool true)], args := [d1, d2, d3] }
  | _ => none }
def fnExactReflectCoreRow : OpenClaim := { program := "ytabnhmjiegeldaa", sum := "8302dbe2cd82d6d67059b0082d07331fe6033678545791d749d725caca1b0582", func := "loop.example/g01136/laws.FnExactReflectCore", spec := "fnExactReflectCore", unfollowed := true, recurses := true, apart := false }
def FnExactReflectCoreSaid : Prop := fnExactReflectCoreRow.holds Try.pinned (OpenSpec.ofChange fnExactReflectCoreSpec)

/-- ITS FALSE NEIGHBOUR: 'it returns false'. Refute it at one input. -/
def fnExactReflectCoreWrong : ChangeSpec := { name := "fnExactReflectCore", fn := fun _ => fun
  | [d1, d2, d3] => { results := [.lit (.bool false)], args := [d1, d2, d3] }
  | _ => none }
def FnExactReflectCoreWrongFalsely : Prop := fnExactReflectCoreRow.holds Try.pinned (OpenSpec.ofChange fnExactReflectCoreWrong)

/-- 'laws.FnExactCoreWord': WHATEVER THE INPUT: true; the input reads as it did. -/
def fnExactCoreWordSpec : ChangeSpec := { name := "fnExactCoreWord", fn := fun _ => fun
  | [d1, d2] => { results := [.lit (.bool true)], args := [d1, d2] }
  | _ => none }
def fnExactCoreWordRow : OpenClaim := { program := "ytabnhmjiegeldaa", sum := "8302dbe2cd82d6d67059b0082d07331fe6033678545791d749d725caca1b0582", func := "loop.example/g01136/laws.FnExactCoreWord", spec := "fnExactCoreWord", unfollowed := true, recurses := true, apart := false }
def FnExactCoreWordSaid : Prop := fnExactCoreWordRow.holds Try.pinned (OpenSpec.ofChange fnExactCoreWordSpec)

/-- ITS FALSE NEIGHBOUR: 'it returns false'. Refute it at one input. -/
def fnExactCoreWordWrong : ChangeSpec := { name := "fnExactCoreWord", fn := fun _ => fun
  | [d1, d2] => { results := [.lit (.bool false)], args := [d1, d2] }
  | _ => none }
def FnExactCoreWordWrongFalsely : Prop := fnExactCoreWordRow.holds Try.pinned (OpenSpec.ofChange fnExactCoreWordWrong)

/-- 'laws.FnExactCoreByWord': WHATEVER THE INPUT: true; the input reads as it did. -/
def fnExactCoreByWordSpec : ChangeSpec := { name := "fnExactCoreByWord", fn := fun _ => fun
  | [d1, d2] => { results := [.lit (.bool true)], args := [d1, d2] }
  | _ => none }
def fnExactCoreByWordRow : OpenClaim := { program := "ytabnhmjiegeldaa", sum := "8302dbe2cd82d6d67059b0082d07331fe6033678545791d749d725caca1b0582", func := "loop.example/g01136/laws.FnExactCoreByWord", spec := "fnExactCoreByWord", unfollowed := true, recurses := true, apart := false }
def FnExactCoreByWordSaid : Prop := fnExactCoreByWordRow.holds Try.pinned (OpenSpec.ofChange fnExactCoreByWordSpec)

/-- ITS FALSE NEIGHBOUR: 'it returns false'. Refute it at one input. -/
def fnExactCoreByWordWrong : ChangeSpec := { name := "fnExactCoreByWord", fn := fun _ => fun
  | [d1, d2] => { results := [.lit (.bool false)], args := [d1, d2] }
  | _ => none }
def FnExactCoreByWordWrongFalsely : Prop := fnExactCoreByWordRow.holds Try.pinned (OpenSpec.ofChange fnExactCoreByWordWrong)

/-- 'laws.FnExactCountPartitions': WHATEVER THE INPUT: true; the input reads as it did. -/
def fnExactCountPartitionsSpec : ChangeSpec := { name := "fnExactCountPartitions", fn := fun _ => fun
  | [d] => { results := [.lit (.bool true)], args := [d] }
  | _ => none }
def fnExactCountPartitionsRow : OpenClaim := { program := "ytabnhmjiegeldaa", sum := "8302dbe2cd82d6d67059b0082d07331fe6033678545791d749d725caca1b0582", func := "loop.example/g01136/laws.FnExactCountPartitions", spec := "fnExactCountPartitions", apart := false }
def FnExactCountPartitionsSaid : Prop := fnExactCountPartitionsRow.holds Try.pinned (OpenSpec.ofChange fnExactCountPartitionsSpec)

/-- ITS FALSE NEIGHBOUR: 'it returns false'. Refute it at one input. -/
def fnExactCountPartitionsWrong : ChangeSpec := { name := "fnExactCountPartitions", fn := fun _ => fun
  | [d] => { results := [.lit (.bool false)], args := [d] }
  | _ => none }
def FnExactCountPartitionsWrongFalsely : Prop := fnExactCountPartitionsRow.holds Try.pinned (OpenSpec.ofChange fnExactCountPartitionsWrong)

/-- 'laws.FnExactPartitionWith': WHATEVER THE INPUT: true; the input reads as it did. -/
def fnExactPartitionWithSpec : ChangeSpec := { name := "fnExactPartitionWith", fn := fun _ => fun
  | [d1, d2] => { results := [.lit (.bool true)], args := [d1, d2] }
  | _ => none }
def fnExactPartitionWithRow : OpenClaim := { program := "ytabnhmjiegeldaa", sum := "8302dbe2cd82d6d67059b0082d07331fe6033678545791d749d725caca1b0582", func := "loop.example/g01136/laws.FnExactPartitionWith", spec := "fnExactPartitionWith", apart := false }
def FnExactPartitionWithSaid : Prop := fnExactPartitionWithRow.holds Try.pinned (OpenSpec.ofChange fnExactPartitionWithSpec)

/-- ITS FALSE NEIGHBOUR: 'it returns false'. Refute it at one input. -/
def fnExactPartitionWithWrong : ChangeSpec := { name := "fnExactPartitionWith", fn := fun _ => fun
  | [d1, d2] => { results := [.lit (.bool false)], args := [d1, d2] }
  | _ => none }
def FnExactPartitionWithWrongFalsely : Prop := fnExactPartitionWithRow.holds Try.pinned (OpenSpec.ofChange fnExactPartitionWithWrong)

/-- 'laws.FnExactFromMaya': WHATEVER THE INPUT: true; the input reads as it did. -/
def fnExactFromMayaSpec : ChangeSpec := { name := "fnExactFromMaya", fn := fun _ => fun
  | [d] => { results := [.lit (.bool true)], args := [d] }
  | _ => none }
def fnExactFromMayaRow : OpenClaim := { program := "ytabnhmjiegeldaa", sum := "8302dbe2cd82d6d67059b0082d07331fe6033678545791d749d725caca1b0582", func := "loop.example/g01136/laws.FnExactFromMaya", spec := "fnExactFromMaya", unfollowed := true, recurses := true, apart := false }
def FnExactFromMayaSaid : Prop := fnExactFromMayaRow.holds Try.pinned (OpenSpec.ofChange fnExactFromMayaSpec)

/-- ITS FALSE NEIGHBOUR: 'it returns false'. Refute it at one input. -/
def fnExactFromMayaWrong : ChangeSpec := { name := "fnExactFromMaya", fn := fun _ => fun
  | [d] => { results := [.lit (.bool false)], args := [d] }
  | _ => none }
def FnExactFromMayaWrongFalsely : Prop := fnExactFromMayaRow.holds Try.pinned (OpenSpec.ofChange fnExactFromMayaWrong)

/-- 'laws.FnExactRunnersOf': WHATEVER THE INPUT: true; the input reads as it did. -/
def fnExactRunnersOfSpec : ChangeSpec := { name := "fnExactRunnersOf", fn := fun _ => fun
  | [d] => { results := [.lit (.bool true)], args := [d] }
  | _ => none }
def fnExactRunnersOfRow : OpenClaim := { program := "ytabnhmjiegeldaa", sum := "8302dbe2cd82d6d67059b0082d07331fe6033678545791d749d725caca1b0582", func := "loop.example/g01136/laws.FnExactRunnersOf", spec := "fnExactRunnersOf", unfollowed := true, recurses := true, apart := false }
def FnExactRunnersOfSaid : Prop := fnExactRunnersOfRow.holds Try.pinned (OpenSpec.ofChange fnExactRunnersOfSpec)

/-- ITS FALSE NEIGHBOUR: 'it returns false'. Refute it at one input. -/
def fnExactRunnersOfWrong : ChangeSpec := { name := "fnExactRunnersOf", fn := fun _ => fun
  | [d] => { results := [.lit (.bool false)], args := [d] }
  | _ => none }
def FnExactRunnersOfWrongFalsely : Prop := fnExactRunnersOfRow.holds Try.pinned (OpenSpec.ofChange fnExactRunnersOfWrong)

/-- 'laws.FnExactFromRunners': WHATEVER THE INPUT: true; the input reads as it did. -/
def fnExactFromRunnersSpec : ChangeSpec := { name := "fnExactFromRunners", fn := fun _ => fun
  | [d] => { results := [.lit (.bool true)], args := [d] }
  | _ => none }
def fnExactFromRunnersRow : OpenClaim := { program := "ytabnhmjiegeldaa", sum := "8302dbe2cd82d6d67059b0082d07331fe6033678545791d749d725caca1b0582", func := "loop.example/g01136/laws.FnExactFromRunners", spec := "fnExactFromRunners", unfollowed := true, recurses := true, apart := false }
def FnExactFromRunnersSaid : Prop := fnExactFromRunnersRow.holds Try.pinned (OpenSpec.ofChange fnExactFromRunnersSpec)

/-- ITS FALSE NEIGHBOUR: 'it returns false'. Refute it at one input. -/
def fnExactFromRunnersWrong : ChangeSpec := { name := "fnExactFromRunners", fn := fun _ => fun
  | [d] => { results := [.lit (.bool false)], args := [d] }
  | _ => none }
def FnExactFromRunnersWrongFalsely : Prop := fnExactFromRunnersRow.holds Try.pinned (OpenSpec.ofChange fnExactFromRunnersWrong)

/-- 'laws.FnExactCoreOf': WHATEVER THE INPUT: true; the input reads as it did. -/
def fnExactCoreOfSpec : ChangeSpec := { name := "fnExactCoreOf", fn := fun _ => fun
  | [d1, d2] => { results := [.lit (.bool true)], args := [d1, d2] }
  | _ => none }
def fnExactCoreOfRow : OpenClaim := { program := "ytabnhmjiegeldaa", sum := "8302dbe2cd82d6d67059b0082d07331fe6033678545791d749d725caca1b0582", func := "loop.example/g01136/laws.FnExactCoreOf", spec := "fnExactCoreOf", unfollowed := true, recurses := true, apart := false }
def FnExactCoreOfSaid : Prop := fnExactCoreOfRow.holds Try.pinned (OpenSpec.ofChange fnExactCoreOfSpec)

/-- ITS FALSE NEIGHBOUR: 'it returns false'. Refute it at one input. -/
def fnExactCoreOfWrong : ChangeSpec := { name := "fnExactCoreOf", fn := fun _ => fun
  | [d1, d2] => { results := [.lit (.bool false)], args := [d1, d2] }
  | _ => none }
def FnExactCoreOfWrongFalsely : Prop := fnExactCoreOfRow.holds Try.pinned (OpenSpec.ofChange fnExactCoreOfWrong)

/-- 'laws.FnExactWeightOf': WHATEVER THE INPUT: true; the input reads as it did. -/
def fnExactWeightOfSpec : ChangeSpec := { name := "fnExactWeightOf", fn := fun _ => fun
  | [d1, d2] => { results := [.lit (.bool true)], args := [d1, d2] }
  | _ => none }
def fnExactWeightOfRow : OpenClaim := { program := "ytabnhmjiegeldaa", sum := "8302dbe2cd82d6d67059b0082d07331fe6033678545791d749d725caca1b0582", func := "loop.example/g01136/laws.FnExactWeightOf", spec := "fnExactWeightOf", unfollowed := true, recurses := true, apart := false }
def FnExactWeightOfSaid : Prop := fnExactWeightOfRow.holds Try.pinned (OpenSpec.ofChange fnExactWeightOfSpec)

/-- ITS FALSE NEIGHBOUR: 'it returns false'. Refute it at one input. -/
def fnExactWeightOfWrong : ChangeSpec := { name := "fnExactWeightOf", fn := fun _ => fun
  | [d1, d2] => { results := [.lit (.bool false)], args := [d1, d2] }
  | _ => none }
def FnExactWeightOfWrongFalsely : Prop := fnExactWeightOfRow.holds Try.pinned (OpenSpec.ofChange fnExactWeightOfWrong)

/-- 'laws.FnExactQuotientOf': WHATEVER THE INPUT: true; the input reads as it did. -/
def fnExactQuotientOfSpec : ChangeSpec := { name := "fnExactQuotientOf", fn := fun _ => fun
  | [d1, d2] => { results := [.lit (.bool true)], args := [d1, d2] }
  | _ => none }
def fnExactQuotientOfRow : OpenClaim := { program := "ytabnhmjiegeldaa", sum := "8302dbe2cd82d6d67059b0082d07331fe6033678545791d749d725caca1b0582", func := "loop.example/g01136/laws.FnExactQuotientOf", spec := "fnExactQuotientOf", unfollowed := true, recurses := true, apart := false }
def FnExactQuotientOfSaid : Prop := fnExactQuotientOfRow.holds Try.pinned (OpenSpec.ofChange fnExactQuotientOfSpec)

/-- ITS FALSE NEIGHBOUR: 'it returns false'. Refute it at one input. -/
def fnExactQuotientOfWrong : ChangeSpec := { name := "fnExactQuotientOf", fn := fun _ => fun
  | [d1, d2] => { results := [.lit (.bool false)], args := [d1, d2] }
  | _ => none }
def FnExactQuotientOfWrongFalsely : Prop := fnExactQuotientOfRow.holds Try.pinned (OpenSpec.ofChange fnExactQuotientOfWrong)

/- THE SECOND FORM. 'bulk': how many values and letters a reading holds, each counted each time it is reached (what is shared counts as often as it is met; a slice's spare places count too). A statement '..UptoSaid' is the law's where the arguments, and the package variables that the reading takes, are together of bulk at most 1048576: NARROWER than '..Said'. Prove '..Said' where nothing that the law and all that it calls make is longer than what came in: it says more and counts as full. Else prove '..UptoSaid'. A law counts once. -/
mutual
def uptoBulk {H : Type} : DataW H → Nat
  | .lit (.string bytes) => bytes.length + 1
  | .lit _ => 1
  | .nil => 1
  | .ptr d => uptoBulk d + 1
  | .slice elems spare => uptoBulkAll elems + uptoBulkAll spare + 1
  | .agg parts => uptoBulkAll parts + 1
  | .iface _ d => uptoBulk d + 1
  | .map entries => uptoBulkEntries entries + 1
  | .held _ => 1
def uptoBulkAll {H : Type} : List (DataW H) → Nat
  | [] => 0
  | d :: r => uptoBulk d + uptoBulkAll r
def uptoBulkEntries {H : Type} : List (Lit × DataW H) → Nat
  | [] => 0
  | x :: r => uptoBulkEntry x + uptoBulkEntries r
def uptoBulkEntry {H : Type} : Lit × DataW H → Nat
  | (.string bytes, d) => bytes.length + uptoBulk d + 1
  | (_, d) => uptoBulk d + 1
 end
def uptoSmall : (H : Type) → List (DataW H) → Bool := fun _ ds => decide (uptoBulkAll ds ≤ 1048576)
def OpenSpec.upto (s : _root_.Go.ChangeSpec) : _root_.Go.OpenSpec := { _root_.Go.OpenSpec.ofChange s with cond := some uptoSmall }

/-- 'laws.FnExactIsLevels', WHERE WHAT IT READS IS OF BULK AT MOST 1048576: true; the input reads as it did. -/
def fnExactIsLevelsUptoRow : OpenClaim := { program := "ytabnhmjiegeldaa", sum := "8302dbe2cd82d6d67059b0082d07331fe6033678545791d749d725caca1b0582", func := "loop.example/g01136/laws.FnExactIsLevels", spec := "fnExactIsLevels", apart := false, narrowed := true }
def FnExactIsLevelsUptoSaid : Prop := fnExactIsLevelsUptoRow.holds Try.pinned (OpenSpec.upto fnExactIsLevelsSpec)

/-- 'laws.FnExactLevelsOf', WHERE WHAT IT READS IS OF BULK AT MOST 1048576: true; the input reads as it did. -/
def fnExactLevelsOfUptoRow : OpenClaim := { program := "ytabnhmjiegeldaa", sum := "8302dbe2cd82d6d67059b0082d07331fe6033678545791d749d725caca1b0582", func := "loop.example/g01136/laws.FnExactLevelsOf", spec := "fnExactLevelsOf", unfollowed := true, recurses := true, apart := false, narrowed := true }
def FnExactLevelsOfUptoSaid : Prop := fnExactLevelsOfUptoRow.holds Try.pinned (OpenSpec.upto fnExactLevelsOfSpec)

/-- 'laws.FnExactSizeOfLevels', WHERE WHAT IT READS IS OF BULK AT MOST 1048576: true; the input reads as it did. -/
def fnExactSizeOfLevelsUptoRow : OpenClaim := { program := "ytabnhmjiegeldaa", sum := "8302dbe2cd82d6d67059b0082d07331fe6033678545791d749d725caca1b0582", func := "loop.example/g01136/laws.FnExactSizeOfLevels", spec := "fnExactSizeOfLevels", unfollowed := true, recurses := true, apart := false, narrowed := true }
def FnExactSizeOfLevelsUptoSaid : Prop := fnExactSizeOfLevelsUptoRow.holds Try.pinned (OpenSpec.upto fnExactSizeOfLevelsSpec)

/-- 'laws.FnExactCoreOfLevels', WHERE WHAT IT READS IS OF BULK AT MOST 1048576: true; the input reads as it did. -/
def fnExactCoreOfLevelsUptoRow : OpenClaim := { program := "ytabnhmjiegeldaa", sum := "8302dbe2cd82d6d67059b0082d07331fe6033678545791d749d725caca1b0582", func := "loop.example/g01136/laws.FnExactCoreOfLevels", spec := "fnExactCoreOfLevels", unfollowed := true, recurses := true, apart := false, narrowed := true }
def FnExactCoreOfLevelsUptoSaid : Prop := fnExactCoreOfLevelsUptoRow.holds Try.pinned (OpenSpec.upto fnExactCoreOfLevelsSpec)

/-- 'laws.FnExactLevelsWith', WHERE WHAT IT READS IS OF BULK AT MOST 1048576: true; the input reads as it did. -/
def fnExactLevelsWithUptoRow : OpenClaim := { program := "ytabnhmjiegeldaa", sum := "8302dbe2cd82d6d67059b0082d07331fe6033678545791d749d725caca1b0582", func := "loop.example/g01136/laws.FnExactLevelsWith", spec := "fnExactLevelsWith", recurses := true, apart := false, narrowed := true }
def FnExactLevelsWithUptoSaid : Prop := fnExactLevelsWithUptoRow.holds Try.pinned (OpenSpec.upto fnExactLevelsWithSpec)

/-- 'laws.FnExactCoresWith', WHERE WHAT IT READS IS OF BULK AT MOST 1048576: true; the input reads as it did. -/
def fnExactCoresWithUptoRow : OpenClaim := { program := "ytabnhmjiegeldaa", sum := "8302dbe2cd82d6d67059b0082d07331fe6033678545791d749d725caca1b0582", func := "loop.example/g01136/laws.FnExactCoresWith", spec := "fnExactCoresWith", unfollowed := true, recurses := true, apart := false, narrowed := true }
def FnExactCoresWithUptoSaid : Prop := fnExactCoresWithUptoRow.holds Try.pinned (OpenSpec.upto fnExactCoresWithSpec)

/-- 'laws.FnExactCountCores', WHERE WHAT IT READS IS OF BULK AT MOST 1048576: true; the input reads as it did. -/
def fnExactCountCoresUptoRow : OpenClaim := { program := "ytabnhmjiegeldaa", sum := "8302dbe2cd82d6d67059b0082d07331fe6033678545791d749d725caca1b0582", func := "loop.example/g01136/laws.FnExactCountCores", spec := "fnExactCountCores", recurses := true, apart := false, narrowed := true }
def FnExactCountCoresUptoSaid : Prop := fnExactCountCoresUptoRow.holds Try.pinned (OpenSpec.upto fnExactCountCoresSpec)

/-- 'laws.FnExactCoresBySeries', WHERE WHAT IT READS IS OF BULK AT MOST 1048576: true; the input reads as it did. -/
def fnExactCoresBySeriesUptoRow : OpenClaim := { program := "ytabnhmjiegeldaa", sum := "8302dbe2cd82d6d67059b0082d07331fe6033678545791d749d725caca1b0582", func := "loop.example/g01136/laws.FnExactCoresBySeries", spec := "fnExactCoresBySeries", apart := false, narrowed := true }
def FnExactCoresBySeriesUptoSaid : Prop := fnExactCoresBySeriesUptoRow.holds Try.pinned (OpenSpec.upto fnExactCoresBySeriesSpec)

/-- 'laws.FnExactResidueCounts', WHERE WHAT IT READS IS OF BULK AT MOST 1048576: true; the input reads as it did. -/
def fnExactResidueCountsUptoRow : OpenClaim := { program := "ytabnhmjiegeldaa", sum := "8302dbe2cd82d6d67059b0082d07331fe6033678545791d749d725caca1b0582", func := "loop.example/g01136/laws.FnExactResidueCounts", spec := "fnExactResidueCounts", unfollowed := true, recurses := true, apart := false, narrowed := true }
def FnExactResidueCountsUptoSaid : Prop := fnExactResidueCountsUptoRow.holds Try.pinned (OpenSpec.upto fnExactResidueCountsSpec)

/-- 'laws.FnExactLevelsFromCounts', WHERE WHAT IT READS IS OF BULK AT MOST 1048576: true; the input reads as it did. -/
def fnExactLevelsFromCountsUptoRow : OpenClaim := { program := "ytabnhmjiegeldaa", sum := "8302dbe2cd82d6d67059b0082d07331fe6033678545791d749d725caca1b0582", func := "loop.example/g01136/laws.FnExactLevelsFromCounts", spec := "fnExactLevelsFromCounts", apart := false, narrowed := true }
def FnExactLevelsFromCountsUptoSaid : Prop := fnExactLevelsFromCountsUptoRow.holds Try.pinned (OpenSpec.upto fnExactLevelsFromCountsSpec)

/-- 'laws.FnExactTurnLevels', WHERE WHAT IT READS IS OF BULK AT MOST 1048576: true; the input reads as it did. -/
def fnExactTurnLevelsUptoRow : OpenClaim := { program := "ytabnhmjiegeldaa", sum := "8302dbe2cd82d6d67059b0082d07331fe6033678545791d749d725caca1b0582", func := "loop.example/g01136/laws.FnExactTurnLevels", spec := "fnExactTurnLevels", apart := false, narrowed := true }
def FnExactTurnLevelsUptoSaid : Prop := fnExactTurnLevelsUptoRow.holds Try.pinned (OpenSpec.upto fnExactTurnLevelsSpec)

/-- 'laws.FnExactReflectLevels', WHERE WHAT IT READS IS OF BULK AT MOST 1048576: true; the input reads as it did. -/
def fnExactReflectLevelsUptoRow : OpenClaim := { program := "ytabnhmjiegeldaa", sum := "8302dbe2cd82d6d67059b0082d07331fe6033678545791d749d725caca1b0582", func := "loop.example/g01136/laws.FnExactReflectLevels", spec := "fnExactReflectLevels", apart := false, narrowed := true }
def FnExactReflectLevelsUptoSaid : Prop := fnExactReflectLevelsUptoRow.holds Try.pinned (OpenSpec.upto fnExactReflectLevelsSpec)

/-- 'laws.FnExactReflectCore', WHERE WHAT IT READS IS OF BULK AT MOST 1048576: true; the input reads as it did. -/
def fnExactReflectCoreUptoRow : OpenClaim := { program := "ytabnhmjiegeldaa", sum := "8302dbe2cd82d6d67059b0082d07331fe6033678545791d749d725caca1b0582", func := "loop.example/g01136/laws.FnExactReflectCore", spec := "fnExactReflectCore", unfollowed := true, recurses := true, apart := false, narrowed := true }
def FnExactReflectCoreUptoSaid : Prop := fnExactReflectCoreUptoRow.holds Try.pinned (OpenSpec.upto fnExactReflectCoreSpec)

/-- 'laws.FnExactCoreWord', WHERE WHAT IT READS IS OF BULK AT MOST 1048576: true; the input reads as it did. -/
def fnExactCoreWordUptoRow : OpenClaim := { program := "ytabnhmjiegeldaa", sum := "8302dbe2cd82d6d67059b0082d07331fe6033678545791d749d725caca1b0582", func := "loop.example/g01136/laws.FnExactCoreWord", spec := "fnExactCoreWord", unfollowed := true, recurses := true, apart := false, narrowed := true }
def FnExactCoreWordUptoSaid : Prop := fnExactCoreWordUptoRow.holds Try.pinned (OpenSpec.upto fnExactCoreWordSpec)

/-- 'laws.FnExactCoreByWord', WHERE WHAT IT READS IS OF BULK AT MOST 1048576: true; the input reads as it did. -/
def fnExactCoreByWordUptoRow : OpenClaim := { program := "ytabnhmjiegeldaa", sum := "8302dbe2cd82d6d67059b0082d07331fe6033678545791d749d725caca1b0582", func := "loop.example/g01136/laws.FnExactCoreByWord", spec := "fnExactCoreByWord", unfollowed := true, recurses := true, apart := false, narrowed := true }
def FnExactCoreByWordUptoSaid : Prop := fnExactCoreByWordUptoRow.holds Try.pinned (OpenSpec.upto fnExactCoreByWordSpec)

/-- 'laws.FnExactCountPartitions', WHERE WHAT IT READS IS OF BULK AT MOST 1048576: true; the input reads as it did. -/
def fnExactCountPartitionsUptoRow : OpenClaim := { program := "ytabnhmjiegeldaa", sum := "8302dbe2cd82d6d67059b0082d07331fe6033678545791d749d725caca1b0582", func := "loop.example/g01136/laws.FnExactCountPartitions", spec := "fnExactCountPartitions", apart := false, narrowed := true }
def FnExactCountPartitionsUptoSaid : Prop := fnExactCountPartitionsUptoRow.holds Try.pinned (OpenSpec.upto fnExactCountPartitionsSpec)

/-- 'laws.FnExactPartitionWith', WHERE WHAT IT READS IS OF BULK AT MOST 1048576: true; the input reads as it did. -/
def fnExactPartitionWithUptoRow : OpenClaim := { program := "ytabnhmjiegeldaa", sum := "8302dbe2cd82d6d67059b0082d07331fe6033678545791d749d725caca1b0582", func := "loop.example/g01136/laws.FnExactPartitionWith", spec := "fnExactPartitionWith", apart := false, narrowed := true }
def FnExactPartitionWithUptoSaid : Prop := fnExactPartitionWithUptoRow.holds Try.pinned (OpenSpec.upto fnExactPartitionWithSpec)

/-- 'laws.FnExactFromMaya', WHERE WHAT IT READS IS OF BULK AT MOST 1048576: true; the input reads as it did. -/
def fnExactFromMayaUptoRow : OpenClaim := { program := "ytabnhmjiegeldaa", sum := "8302dbe2cd82d6d67059b0082d07331fe6033678545791d749d725caca1b0582", func := "loop.example/g01136/laws.FnExactFromMaya", spec := "fnExactFromMaya", unfollowed := true, recurses := true, apart := false, narrowed := true }
def FnExactFromMayaUptoSaid : Prop := fnExactFromMayaUptoRow.holds Try.pinned (OpenSpec.upto fnExactFromMayaSpec)

/-- 'laws.FnExactRunnersOf', WHERE WHAT IT READS IS OF BULK AT MOST 1048576: true; the input reads as it did. -/
def fnExactRunnersOfUptoRow : OpenClaim := { program := "ytabnhmjiegeldaa", sum := "8302dbe2cd82d6d67059b0082d07331fe6033678545791d749d725caca1b0582", func := "loop.example/g01136/laws.FnExactRunnersOf", spec := "fnExactRunnersOf", unfollowed := true, recurses := true, apart := false, narrowed := true }
def FnExactRunnersOfUptoSaid : Prop := fnExactRunnersOfUptoRow.holds Try.pinned (OpenSpec.upto fnExactRunnersOfSpec)

/-- 'laws.FnExactFromRunners', WHERE WHAT IT READS IS OF BULK AT MOST 1048576: true; the input reads as it did. -/
def fnExactFromRunnersUptoRow : OpenClaim := { program := "ytabnhmjiegeldaa", sum := "8302dbe2cd82d6d67059b0082d07331fe6033678545791d749d725caca1b0582", func := "loop.example/g01136/laws.FnExactFromRunners", spec := "fnExactFromRunners", unfollowed := true, recurses := true, apart := false, narrowed := true }
def FnExactFromRunnersUptoSaid : Prop := fnExactFromRunnersUptoRow.holds Try.pinned (OpenSpec.upto fnExactFromRunnersSpec)

/-- 'laws.FnExactCoreOf', WHERE WHAT IT READS IS OF BULK AT MOST 1048576: true; the input reads as it did. -/
def fnExactCoreOfUptoRow : OpenClaim := { program := "ytabnhmjiegeldaa", sum := "8302dbe2cd82d6d67059b0082d07331fe6033678545791d749d725caca1b0582", func := "loop.example/g01136/laws.FnExactCoreOf", spec := "fnExactCoreOf", unfollowed := true, recurses := true, apart := false, narrowed := true }
def FnExactCoreOfUptoSaid : Prop := fnExactCoreOfUptoRow.holds Try.pinned (OpenSpec.upto fnExactCoreOfSpec)

/-- 'laws.FnExactWeightOf', WHERE WHAT IT READS IS OF BULK AT MOST 1048576: true; the input reads as it did. -/
def fnExactWeightOfUptoRow : OpenClaim := { program := "ytabnhmjiegeldaa", sum := "8302dbe2cd82d6d67059b0082d07331fe6033678545791d749d725caca1b0582", func := "loop.example/g01136/laws.FnExactWeightOf", spec := "fnExactWeightOf", unfollowed := true, recurses := true, apart := false, narrowed := true }
def FnExactWeightOfUptoSaid : Prop := fnExactWeightOfUptoRow.holds Try.pinned (OpenSpec.upto fnExactWeightOfSpec)

/-- 'laws.FnExactQuotientOf', WHERE WHAT IT READS IS OF BULK AT MOST 1048576: true; the input reads as it did. -/
def fnExactQuotientOfUptoRow : OpenClaim := { program := "ytabnhmjiegeldaa", sum := "8302dbe2cd82d6d67059b0082d07331fe6033678545791d749d725caca1b0582", func := "loop.example/g01136/laws.FnExactQuotientOf", spec := "fnExactQuotientOf", unfollowed := true, recurses := true, apart := false, narrowed := true }
def FnExactQuotientOfUptoSaid : Prop := fnExactQuotientOfUptoRow.holds Try.pinned (OpenSpec.upto fnExactQuotientOfSpec)

end Rows
end Go.Proofs.Ytabnhmjiegeldaa
