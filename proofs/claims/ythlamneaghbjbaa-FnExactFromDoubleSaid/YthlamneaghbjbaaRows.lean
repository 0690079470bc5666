/-
  No cell of these rows narrows 'for every input' (looked for: loops, veiled, ifaces, maps, wideKeys, modest, calm, conditions, laid).
  DERIVED. THE GIVEN ROWS OF THIS SEAT. 20 by the template 'for every input the law returns true; each argument reads behind the call as it read before'; 0 by the template 'total and deterministic' (their statements: YthlamneaghbjbaaTotals.lean).
  GIVEN WITH THE SEED: the statements are not yours to turn. If you find one false, say at which input.
  Laid BY PROGRAM, IN A SANDBOX (cutbox-rows.mjs): the forced cells as the released guide's own fill.sh prints them over the translation 06a0d3912d1ccf97… (all of the seat's roots in one cut). By AI agents, Wed Nov 11 2026. No macro, syntax, notation, axiom, sorry.
-/
import Derived.Test.YthlamneaghbjbaaChecked
import GoSem.Claim
import GoSem.ClaimJoined
import GoSem.ClaimMapViews
import Derived.JoinedTies
import Derived.KernelRfl
namespace Go.Proofs.Ythlamneaghbjbaa
/- THE CELL 'sum', in the pinned program and in every row, IS THE sha256 OF THE DUMP (.gsa) THAT YthlamneaghbjbaaProg.lean LOADS. Nothing in Lean hashes anything: it is a label: what it is worth is what the hold of that sum in a sandbox is worth. -/
noncomputable def Try.pinned : Pinned := { name := "ythlamneaghbjbaa", sum := "06a0d3912d1ccf976e83b5b8a78b087494c1c01135db937eb1c7a4d7fc2a6702", checked := Try.checked }
namespace Rows
def none {H : Type} : Left H := { results := [], args := [] }

/-- 'laws.FnExactAddedRims': WHATEVER THE INPUT: true; the input reads as it did. -/
def fnExactAddedRimsSpec : ChangeSpec := { name := "fnExactAddedRims", fn := fun _ => fun
  | [d1, d2] => { results := [.lit (.bool true)], args := [d1, d2] }
  | _ => none }
def fnExactAddedRimsRow : OpenClaim := { program := "ythlamneaghbjbaa", sum := "06a0d3912d1ccf976e83b5b8a78b087494c1c01135db937eb1c7a4d7fc2a6702", func := "loop.example/g01136/laws.FnExactAddedRims", spec := "fnExactAddedRims", unfollowed := true, recurses := true, apart := false }
def FnExactAddedRimsSaid : Prop := fnExactAddedRimsRow.holds Try.pinned (OpenSpec.ofChange fnExactAddedRimsSpec)

/-- ITS FALSE NEIGHBOUR: 'it returns false'. Refute it at one input. -/
def fnExactAddedRimsWrong : ChangeSpec := { name := "fnExactAddedRims", fn := fun _ => fun
  | [d1, d2] => { results := [.lit (.bool false)], args := [d1, d2] }
  | _ => none }
def FnExactAddedRimsWrongFalsely : Prop := fnExactAddedRimsRow.holds Try.pinned (OpenSpec.ofChange fnExactAddedRimsWrong)

/-- 'laws.FnExactFromCore': WHATEVER THE INPUT: true; the input reads as it did. -/
def fnExactFromCoreSpec : ChangeSpec := { name := "fnExactFromCore", fn := fun _ => fun
  | [d1, d2] => { results := [.lit (.bool true)], args := [d1, d2] }
  | _ => none }
def fnExactFromCoreRow : OpenClaim := { program := "ythlamneaghbjbaa", sum := "06a0d3912d1ccf976e83b5b8a78b087494c1c01135db937eb1c7a4d7fc2a6702", func := "loop.example/g01136/laws.FnExactFromCore", spec := "fnExactFromCore", unfollowed := true, recurses := true, apart := false }
def FnExactFromCoreSaid : Prop := fnExactFromCoreRow.holds Try.pinned (OpenSpec.ofChange fnExactFromCoreSpec)

/-- ITS FALSE NEIGHBOUR: 'it returns false'. Refute it at one input. -/
def fnExactFromCoreWrong : ChangeSpec := { name := "fnExactFromCore", fn := fun _ => fun
  | [d1, d2] => { results := [.lit (.bool false)], args := [d1, d2] }
  | _ => none }
def FnExactFromCoreWrongFalsely : Prop := fnExactFromCoreRow.holds Try.pinned (OpenSpec.ofChange fnExactFromCoreWrong)

/-- 'laws.FnExactCountRuns': WHATEVER THE INPUT: true; the input reads as it did. -/
def fnExactCountRunsSpec : ChangeSpec := { name := "fnExactCountRuns", fn := fun _ => fun
  | [d1, d2] => { results := [.lit (.bool true)], args := [d1, d2] }
  | _ => none }
def fnExactCountRunsRow : OpenClaim := { program := "ythlamneaghbjbaa", sum := "06a0d3912d1ccf976e83b5b8a78b087494c1c01135db937eb1c7a4d7fc2a6702", func := "loop.example/g01136/laws.FnExactCountRuns", spec := "fnExactCountRuns", unfollowed := true, recurses := true, apart := false }
def FnExactCountRunsSaid : Prop := fnExactCountRunsRow.holds Try.pinned (OpenSpec.ofChange fnExactCountRunsSpec)

/-- ITS FALSE NEIGHBOUR: 'it returns false'. Refute it at one input. -/
def fnExactCountRunsWrong : ChangeSpec := { name := "fnExactCountRuns", fn := fun _ => fun
  | [d1, d2] => { results := [.lit (.bool false)], args := [d1, d2] }
  | _ => none }
def FnExactCountRunsWrongFalsely : Prop := fnExactCountRunsRow.holds Try.pinned (OpenSpec.ofChange fnExactCountRunsWrong)

/-- 'laws.FnExactBlockOf': WHATEVER THE INPUT: true; the input reads as it did. -/
def fnExactBlockOfSpec : ChangeSpec := { name := "fnExactBlockOf", fn := fun _ => fun
  | [d1, d2, d3] => { results := [.lit (.bool true)], args := [d1, d2, d3] }
  | _ => none }
def fnExactBlockOfRow : OpenClaim := { program := "ythlamneaghbjbaa", sum := "06a0d3912d1ccf976e83b5b8a78b087494c1c01135db937eb1c7a4d7fc2a6702", func := "loop.example/g01136/laws.FnExactBlockOf", spec := "fnExactBlockOf", unfollowed := true, recurses := true, apart := false }
def FnExactBlockOfSaid : Prop := fnExactBlockOfRow.holds Try.pinned (OpenSpec.ofChange fnExactBlockOfSpec)

/-- ITS FALSE NEIGHBOUR: 'it returns false'. Refute it at one input. -/
def fnExactBlockOfWrong : ChangeSpec := { name := "fnExactBlockOf", fn := fun _ => fun
  | [d1, d2, d3] => { results := [.lit (.bool false)], args := [d1, d2, d3] }
  | _ => none }
def FnExactBlockOfWrongFalsely : Prop := fnExactBlockOfRow.holds Try.pinned (OpenSpec.ofChange fnExactBlockOfWrong)

/-- 'laws.FnExactCoreWord': WHATEVER THE INPUT: true; the input reads as it did. -/
def fnExactCoreWordSpec : ChangeSpec := { name := "fnExactCoreWord", fn := fun _ => fun
  | [d1, d2] => { results := [.lit (.bool true)], args := [d1, d2] }
  | _ => none }
def fnExactCoreWordRow : OpenClaim := { program := "ythlamneaghbjbaa", sum := "06a0d3912d1ccf976e83b5b8a78b087494c1c01135db937eb1c7a4d7fc2a6702", func := "loop.example/g01136/laws.FnExactCoreWord", spec := "fnExactCoreWord", unfollowed := true, recurses := true, apart := false }
def FnExactCoreWordSaid : Prop := fnExactCoreWordRow.holds Try.pinned (OpenSpec.ofChange fnExactCoreWordSpec)

/-- ITS FALSE NEIGHBOUR: 'it returns false'. Refute it at one input. -/
def fnExactCoreWordWrong : ChangeSpec := { name := "fnExactCoreWord", fn := fun _ => fun
  | [d1, d2] => { results := [.lit (.bool false)], args := [d1, d2] }
  | _ => none }
def FnExactCoreWordWrongFalsely : Prop := fnExactCoreWordRow.holds Try.pinned (OpenSpec.ofChange fnExactCoreWordWrong)

/-- 'laws.FnExactIsStrict': WHATEVER THE INPUT: true; the input reads as it did. -/
def fnExactIsStrictSpec : ChangeSpec := { name := "fnExactIsStrict", fn := fun _ => fun
  | [d] => { results := [.lit (.bool true)], args := [d] }
  | _ => none }
def fnExactIsStrictRow : OpenClaim := { program := "ythlamneaghbjbaa", sum := "06a0d3912d1ccf976e83b5b8a78b087494c1c01135db937eb1c7a4d7fc2a6702", func := "loop.example/g01136/laws.FnExactIsStrict", spec := "fnExactIsStrict", unfollowed := true, recurses := true, apart := false }
def FnExactIsStrictSaid : Prop := fnExactIsStrictRow.holds Try.pinned (OpenSpec.ofChange fnExactIsStrictSpec)

/-- ITS FALSE NEIGHBOUR: 'it returns false'. Refute it at one input. -/
def fnExactIsStrictWrong : ChangeSpec := { name := "fnExactIsStrict", fn := fun _ => fun
  | [d] => { results := [.lit (.bool false)], args := [d] }
  | _ => none }
def FnExactIsStrictWrongFalsely : Prop := fnExactIsStrictRow.holds Try.pinned (OpenSpec.ofChange fnExactIsStrictWrong)

/-- 'laws.FnExactAllStrict': WHATEVER THE INPUT: true; the input reads as it did. -/
def fnExactAllStrictSpec : ChangeSpec := { name := "fnExactAllStrict", fn := fun _ => fun
  | [d] => { results := [.lit (.bool true)], args := [d] }
  | _ => none }
def fnExactAllStrictRow : OpenClaim := { program := "ythlamneaghbjbaa", sum := "06a0d3912d1ccf976e83b5b8a78b087494c1c01135db937eb1c7a4d7fc2a6702", func := "loop.example/g01136/laws.FnExactAllStrict", spec := "fnExactAllStrict", recurses := true, apart := false }
def FnExactAllStrictSaid : Prop := fnExactAllStrictRow.holds Try.pinned (OpenSpec.ofChange fnExactAllStrictSpec)

/-- ITS FALSE NEIGHBOUR: 'it returns false'. Refute it at one input. -/
def fnExactAllStrictWrong : ChangeSpec := { name := "fnExactAllStrict", fn := fun _ => fun
  | [d] => { results := [.lit (.bool false)], args := [d] }
  | _ => none }
def FnExactAllStrictWrongFalsely : Prop := fnExactAllStrictRow.holds Try.pinned (OpenSpec.ofChange fnExactAllStrictWrong)

/-- 'laws.FnExactCountStrict': WHATEVER THE INPUT: true; the input reads as it did. -/
def fnExactCountStrictSpec : ChangeSpec := { name := "fnExactCountStrict", fn := fun _ => fun
  | [d] => { results := [.lit (.bool true)], args := [d] }
  | _ => none }
def fnExactCountStrictRow : OpenClaim := { program := "ythlamneaghbjbaa", sum := "06a0d3912d1ccf976e83b5b8a78b087494c1c01135db937eb1c7a4d7fc2a6702", func := "loop.example/g01136/laws.FnExactCountStrict", spec := "fnExactCountStrict", apart := false }
def FnExactCountStrictSaid : Prop := fnExactCountStrictRow.holds Try.pinned (OpenSpec.ofChange fnExactCountStrictSpec)

/-- ITS FALSE NEIGHBOUR: 'it returns false'. Refute it at one input. -/
def fnExactCountStrictWrong : ChangeSpec := { name := "fnExactCountStrict", fn := fun _ => fun
  | [d] => { results := [.lit (.bool false)], args := [d] }
  | _ => none }
def FnExactCountStrictWrongFalsely : Prop := fnExactCountStrictRow.holds Try.pinned (OpenSpec.ofChange fnExactCountStrictWrong)

/-- 'laws.FnExactBarsOf': WHATEVER THE INPUT: true; the input reads as it did. -/
def fnExactBarsOfSpec : ChangeSpec := { name := "fnExactBarsOf", fn := fun _ => fun
  | [d1, d2] => { results := [.lit (.bool true)], args := [d1, d2] }
  | _ => none }
def fnExactBarsOfRow : OpenClaim := { program := "ythlamneaghbjbaa", sum := "06a0d3912d1ccf976e83b5b8a78b087494c1c01135db937eb1c7a4d7fc2a6702", func := "loop.example/g01136/laws.FnExactBarsOf", spec := "fnExactBarsOf", unfollowed := true, recurses := true, apart := false }
def FnExactBarsOfSaid : Prop := fnExactBarsOfRow.holds Try.pinned (OpenSpec.ofChange fnExactBarsOfSpec)

/-- ITS FALSE NEIGHBOUR: 'it returns false'. Refute it at one input. -/
def fnExactBarsOfWrong : ChangeSpec := { name := "fnExactBarsOf", fn := fun _ => fun
  | [d1, d2] => { results := [.lit (.bool false)], args := [d1, d2] }
  | _ => none }
def FnExactBarsOfWrongFalsely : Prop := fnExactBarsOfRow.holds Try.pinned (OpenSpec.ofChange fnExactBarsOfWrong)

/-- 'laws.FnExactTakeBar': WHATEVER THE INPUT: true; the input reads as it did. -/
def fnExactTakeBarSpec : ChangeSpec := { name := "fnExactTakeBar", fn := fun _ => fun
  | [d1, d2, d3] => { results := [.lit (.bool true)], args := [d1, d2, d3] }
  | _ => none }
def fnExactTakeBarRow : OpenClaim := { program := "ythlamneaghbjbaa", sum := "06a0d3912d1ccf976e83b5b8a78b087494c1c01135db937eb1c7a4d7fc2a6702", func := "loop.example/g01136/laws.FnExactTakeBar", spec := "fnExactTakeBar", unfollowed := true, recurses := true, apart := false }
def FnExactTakeBarSaid : Prop := fnExactTakeBarRow.holds Try.pinned (OpenSpec.ofChange fnExactTakeBarSpec)

/-- ITS FALSE NEIGHBOUR: 'it returns false'. Refute it at one input. -/
def fnExactTakeBarWrong : ChangeSpec := { name := "fnExactTakeBar", fn := fun _ => fun
  | [d1, d2, d3] => { results := [.lit (.bool false)], args := [d1, d2, d3] }
  | _ => none }
def FnExactTakeBarWrongFalsely : Prop := fnExactTakeBarRow.holds Try.pinned (OpenSpec.ofChange fnExactTakeBarWrong)

/-- 'laws.FnExactBarCore': WHATEVER THE INPUT: true; the input reads as it did. -/
def fnExactBarCoreSpec : ChangeSpec := { name := "fnExactBarCore", fn := fun _ => fun
  | [d1, d2] => { results := [.lit (.bool true)], args := [d1, d2] }
  | _ => none }
def fnExactBarCoreRow : OpenClaim := { program := "ythlamneaghbjbaa", sum := "06a0d3912d1ccf976e83b5b8a78b087494c1c01135db937eb1c7a4d7fc2a6702", func := "loop.example/g01136/laws.FnExactBarCore", spec := "fnExactBarCore", unfollowed := true, recurses := true, apart := false }
def FnExactBarCoreSaid : Prop := fnExactBarCoreRow.holds Try.pinned (OpenSpec.ofChange fnExactBarCoreSpec)

/-- ITS FALSE NEIGHBOUR: 'it returns false'. Refute it at one input. -/
def fnExactBarCoreWrong : ChangeSpec := { name := "fnExactBarCore", fn := fun _ => fun
  | [d1, d2] => { results := [.lit (.bool false)], args := [d1, d2] }
  | _ => none }
def FnExactBarCoreWrongFalsely : Prop := fnExactBarCoreRow.holds Try.pinned (OpenSpec.ofChange fnExactBarCoreWrong)

/-- 'laws.FnExactBarWeight': WHATEVER THE INPUT: true; the input reads as it did. -/
def fnExactBarWeightSpec : ChangeSpec := { name := "fnExactBarWeight", fn := fun _ => fun
  | [d1, d2] => { results := [.lit (.bool true)], args := [d1, d2] }
  | _ => none }
def fnExactBarWeightRow : OpenClaim := { program := "ythlamneaghbjbaa", sum := "06a0d3912d1ccf976e83b5b8a78b087494c1c01135db937eb1c7a4d7fc2a6702", func := "loop.example/g01136/laws.FnExactBarWeight", spec := "fnExactBarWeight", unfollowed := true, recurses := true, apart := false }
def FnExactBarWeightSaid : Prop := fnExactBarWeightRow.holds Try.pinned (OpenSpec.ofChange fnExactBarWeightSpec)

/-- ITS FALSE NEIGHBOUR: 'it returns false'. Refute it at one input. -/
def fnExactBarWeightWrong : ChangeSpec := { name := "fnExactBarWeight", fn := fun _ => fun
  | [d1, d2] => { results := [.lit (.bool false)], args := [d1, d2] }
  | _ => none }
def FnExactBarWeightWrongFalsely : Prop := fnExactBarWeightRow.holds Try.pinned (OpenSpec.ofChange fnExactBarWeightWrong)

/-- 'laws.FnExactIsBarCore': WHATEVER THE INPUT: true; the input reads as it did. -/
def fnExactIsBarCoreSpec : ChangeSpec := { name := "fnExactIsBarCore", fn := fun _ => fun
  | [d1, d2] => { results := [.lit (.bool true)], args := [d1, d2] }
  | _ => none }
def fnExactIsBarCoreRow : OpenClaim := { program := "ythlamneaghbjbaa", sum := "06a0d3912d1ccf976e83b5b8a78b087494c1c01135db937eb1c7a4d7fc2a6702", func := "loop.example/g01136/laws.FnExactIsBarCore", spec := "fnExactIsBarCore", unfollowed := true, recurses := true, apart := false }
def FnExactIsBarCoreSaid : Prop := fnExactIsBarCoreRow.holds Try.pinned (OpenSpec.ofChange fnExactIsBarCoreSpec)

/-- ITS FALSE NEIGHBOUR: 'it returns false'. Refute it at one input. -/
def fnExactIsBarCoreWrong : ChangeSpec := { name := "fnExactIsBarCore", fn := fun _ => fun
  | [d1, d2] => { results := [.lit (.bool false)], args := [d1, d2] }
  | _ => none }
def FnExactIsBarCoreWrongFalsely : Prop := fnExactIsBarCoreRow.holds Try.pinned (OpenSpec.ofChange fnExactIsBarCoreWrong)

/-- 'laws.FnExactDoubleOf': WHATEVER THE INPUT: true; the input reads as it did. -/
def fnExactDoubleOfSpec : ChangeSpec := { name := "fnExactDoubleOf", fn := fun _ => fun
  | [d] => { results := [.lit (.bool true)], args := [d] }
  | _ => none }
def fnExactDoubleOfRow : OpenClaim := { program := "ythlamneaghbjbaa", sum := "06a0d3912d1ccf976e83b5b8a78b087494c1c01135db937eb1c7a4d7fc2a6702", func := "loop.example/g01136/laws.FnExactDoubleOf", spec := "fnExactDoubleOf", unfollowed := true, recurses := true, apart := false }
def FnExactDoubleOfSaid : Prop := fnExactDoubleOfRow.holds Try.pinned (OpenSpec.ofChange fnExactDoubleOfSpec)

/-- ITS FALSE NEIGHBOUR: 'it returns false'. Refute it at one input. -/
def fnExactDoubleOfWrong : ChangeSpec := { name := "fnExactDoubleOf", fn := fun _ => fun
  | [d] => { results := [.lit (.bool false)], args := [d] }
  | _ => none }
def FnExactDoubleOfWrongFalsely : Prop := fnExactDoubleOfRow.holds Try.pinned (OpenSpec.ofChange fnExactDoubleOfWrong)

/-- 'laws.FnExactFromDouble': WHATEVER THE INPUT: true; the input reads as it did. -/
def fnExactFromDoubleSpec : ChangeSpec := { name := "fnExactFromDouble", fn := fun _ => fun
  | [d] => { results := [.lit (.bool true)], args := [d] }
  | _ => none }
def fnExactFromDoubleRow : OpenClaim := { program := "ythlamneaghbjbaa", sum := "06a0d3912d1ccf976e83b5b8a78b087494c1c01135db937eb1c7a4d7fc2a6702", func := "loop.example/g01136/laws.FnExactFromDouble", spec := "fnExactFromDouble", unfollowed := true, recurses := true, apart := false }
def FnExactFromDoubleSaid : Prop := fnExactFromDoubleRow.holds Try.pinned (OpenSpec.ofChange fnExactFromDoubleSpec)

/-- ITS FALSE NEIGHBOUR: 'it returns false'. Refute it at one input. -/
def fnExactFromDoubleWrong : ChangeSpec := { name := "fnExactFromDouble", fn := fun _ => fun
  | [d] => { results := [.lit (.bool false)], args := [d] }
  | _ => none }
def FnExactFromDoubleWrongFalsely : Prop := fnExactFromDoubleRow.holds Try.pinned (OpenSpec.ofChange fnExactFromDoubleWrong)

/-- 'laws.FnExactIsDouble': WHATEVER THE INPUT: true; the input reads as it did. -/
def fnExactIsDoubleSpec : ChangeSpec := { name := "fnExactIsDouble", fn := fun _ => fun
  | [d] => { results := [.lit (.bool true)], args := [d] }
  | _ => none }
def fnExactIsDoubleRow : OpenClaim := { program := "ythlamneaghbjbaa", sum := "06a0d3912d1ccf976e83b5b8a78b087494c1c01135db937eb1c7a4d7fc2a6702", func := "loop.example/g01136/laws.FnExactIsDouble", spec := "fnExactIsDouble", unfollowed := true, recurses := true, apart := false }
def FnExactIsDoubleSaid : Prop := fnExactIsDoubleRow.holds Try.pinned (OpenSpec.ofChange fnExactIsDoubleSpec)

/-- ITS FALSE NEIGHBOUR: 'it returns false'. Refute it at one input. -/
def fnExactIsDoubleWrong : ChangeSpec := { name := "fnExactIsDouble", fn := fun _ => fun
  | [d] => { results := [.lit (.bool false)], args := [d] }
  | _ => none }
def FnExactIsDoubleWrongFalsely : Prop := fnExactIsDoubleRow.holds Try.pinned (OpenSpec.ofChange fnExactIsDoubleWrong)

/-- 'laws.FnExactBarLengths': WHATEVER THE INPUT: true; the input reads as it did. -/
def fnExactBarLengthsSpec : ChangeSpec := { name := "fnExactBarLengths", fn := fun _ => fun
  | [d] => { results := [.lit (.bool true)], args := [d] }
  | _ => none }
def fnExactBarLengthsRow : OpenClaim := { program := "ythlamneaghbjbaa", sum := "06a0d3912d1ccf976e83b5b8a78b087494c1c01135db937eb1c7a4d7fc2a6702", func := "loop.example/g01136/laws.FnExactBarLengths", spec := "fnExactBarLengths", unfollowed := true, recurses := true, apart := false }
def FnExactBarLengthsSaid : Prop := fnExactBarLengthsRow.holds Try.pinned (OpenSpec.ofChange fnExactBarLengthsSpec)

/-- ITS FALSE NEIGHBOUR: 'it returns false'. Refute it at one input. -/
def fnExactBarLengthsWrong : ChangeSpec := { name := "fnExactBarLengths", fn := fun _ => fun
  | [d] => { results := [.lit (.bool false)], args := [d] }
  | _ => none }
def FnExactBarLengthsWrongFalsely : Prop := fnExactBarLengthsRow.holds Try.pinned (OpenSpec.ofChange fnExactBarLengthsWrong)

/-- 'laws.FnExactCountShifted': WHATEVER THE INPUT: true; the input reads as it did. -/
def fnExactCountShiftedSpec : ChangeSpec := { name := "fnExactCountShifted", fn := fun _ => fun
  | [d] => { results := [.lit (.bool true)], args := [d] }
  | _ => none }
def fnExactCountShiftedRow : OpenClaim := { program := "ythlamneaghbjbaa", sum := "06a0d3912d1ccf976e83b5b8a78b087494c1c01135db937eb1c7a4d7fc2a6702", func := "loop.example/g01136/laws.FnExactCountShifted", spec := "fnExactCountShifted", unfollowed := true, recurses := true, apart := false }
def FnExactCountShiftedSaid : Prop := fnExactCountShiftedRow.holds Try.pinned (OpenSpec.ofChange fnExactCountShiftedSpec)

/-- ITS FALSE NEIGHBOUR: 'it returns false'. Refute it at one input. -/
def fnExactCountShiftedWrong : ChangeSpec := { name := "fnExactCountShifted", fn := fun _ => fun
  | [d] => { results := [.lit (.bool false)], args := [d] }
  | _ => none }
def FnExactCountShiftedWrongFalsely : Prop := fnExactCountShiftedRow.holds Try.pinned (OpenSpec.ofChange fnExactCountShiftedWrong)

/-- 'laws.FnExactOddFromStrict': WHATEVER THE INPUT: true; the input reads as it did. -/
def fnExactOddFromStrictSpec : ChangeSpec := { name := "fnExactOddFromStrict", fn := fun _ => fun
  | [d] => { results := [.lit (.bool true)], args := [d] }
  | _ => none }
def fnExactOddFromStrictRow : OpenClaim := { program := "ythlamneaghbjbaa", sum := "06a0d3912d1ccf976e83b5b8a78b087494c1c01135db937eb1c7a4d7fc2a6702", func := "loop.example/g01136/laws.FnExactOddFromStrict", spec := "fnExactOddFromStrict", unfollowed := true, recurses := true, apart := false }
def FnExactOddFromStrictSaid : Prop := fnExactOddFromStrictRow.holds Try.pinned (OpenSpec.ofChange fnExactOddFromStrictSpec)

/-- ITS FALSE NEIGHBOUR: 'it returns false'. Refute it at one input. -/
def fnExactOddFromStrictWrong : ChangeSpec := { name := "fnExactOddFromStrict", fn := fun _ => fun
  | [d] => { results := [.lit (.bool false)], args := [d] }
  | _ => none }
def FnExactOddFromStrictWrongFalsely : Prop := fnExactOddFromStrictRow.holds Try.pinned (OpenSpec.ofChange fnExactOddFromStrictWrong)

/-- 'laws.FnExactStrictFromOdd': WHATEVER THE INPUT: true; the input reads as it did. -/
def fnExactStrictFromOddSpec : ChangeSpec := { name := "fnExactStrictFromOdd", fn := fun _ => fun
  | [d] => { results := [.lit (.bool true)], args := [d] }
  | _ => none }
def fnExactStrictFromOddRow : OpenClaim := { program := "ythlamneaghbjbaa", sum := "06a0d3912d1ccf976e83b5b8a78b087494c1c01135db937eb1c7a4d7fc2a6702", func := "loop.example/g01136/laws.FnExactStrictFromOdd", spec := "fnExactStrictFromOdd", unfollowed := true, recurses := true, apart := false }
def FnExactStrictFromOddSaid : Prop := fnExactStrictFromOddRow.holds Try.pinned (OpenSpec.ofChange fnExactStrictFromOddSpec)

/-- ITS FALSE NEIGHBOUR: 'it returns false'. Refute it at one input. -/
def fnExactStrictFromOddWrong : ChangeSpec := { name := "fnExactStrictFromOdd", fn := fun _ => fun
  | [d] => { results := [.lit (.bool false)], args := [d] }
  | _ => none }
def FnExactStrictFromOddWrongFalsely : Prop := fnExactStrictFromOddRow.holds Try.pinned (OpenSpec.ofChange fnExactStrictFromOddWrong)

/- THE SECOND FORM. 'bulk': how many values and letters a reading holds, each counted each time it is reached (what is shared counts as often as it is met; a slice's spare places count too). A statement '..UptoSaid' is the law's where the arguments, and the package variables that the reading takes, are together of bulk at most 1048576: NARROWER than '..Said'. Prove '..Said' where nothing that the law and all that it calls make is longer than what came in: it says more and counts as full. Else prove '..UptoSaid'. A law counts once. -/
mutual
def uptoBulk {H : Type} : DataW H → Nat
  | .lit (.string bytes) => bytes.length + 1
  | .lit _ => 1
  | .nil => 1
  | .ptr d => uptoBulk d + 1
  | .slice elems spare => uptoBulkAll elems + uptoBulkAll spare + 1
  | .agg parts => uptoBulkAll parts + 1
  | .iface _ d => uptoBulk d + 1
  | .map entries => uptoBulkEntries entries + 1
  | .held _ => 1
def uptoBulkAll {H : Type} : List (DataW H) → Nat
  | [] => 0
  | d :: r => uptoBulk d + uptoBulkAll r
def uptoBulkEntries {H : Type} : List (Lit × DataW H) → Nat
  | [] => 0
  | x :: r => uptoBulkEntry x + uptoBulkEntries r
def uptoBulkEntry {H : Type} : Lit × DataW H → Nat
  | (.string bytes, d) => bytes.length + uptoBulk d + 1
  | (_, d) => uptoBulk d + 1
 end
def uptoSmall : (H : Type) → List (DataW H) → Bool := fun _ ds => decide (uptoBulkAll ds ≤ 1048576)
def OpenSpec.upto (s : _root_.Go.ChangeSpec) : _root_.Go.OpenSpec := { _root_.Go.OpenSpec.ofChange s with cond := some uptoSmall }

/-- 'laws.FnExactAddedRims', WHERE WHAT IT READS IS OF BULK AT MOST 1048576: true; the input reads as it did. -/
def fnExactAddedRimsUptoRow : OpenClaim := { program := "ythlamneaghbjbaa", sum := "06a0d3912d1ccf976e83b5b8a78b087494c1c01135db937eb1c7a4d7fc2a6702", func := "loop.example/g01136/laws.FnExactAddedRims", spec := "fnExactAddedRims", unfollowed := true, recurses := true, apart := false, narrowed := true }
def FnExactAddedRimsUptoSaid : Prop := fnExactAddedRimsUptoRow.holds Try.pinned (OpenSpec.upto fnExactAddedRimsSpec)

/-- 'laws.FnExactFromCore', WHERE WHAT IT READS IS OF BULK AT MOST 1048576: true; the input reads as it did. -/
def fnExactFromCoreUptoRow : OpenClaim := { program := "ythlamneaghbjbaa", sum := "06a0d3912d1ccf976e83b5b8a78b087494c1c01135db937eb1c7a4d7fc2a6702", func := "loop.example/g01136/laws.FnExactFromCore", spec := "fnExactFromCore", unfollowed := true, recurses := true, apart := false, narrowed := true }
def FnExactFromCoreUptoSaid : Prop := fnExactFromCoreUptoRow.holds Try.pinned (OpenSpec.upto fnExactFromCoreSpec)

/-- 'laws.FnExactCountRuns', WHERE WHAT IT READS IS OF BULK AT MOST 1048576: true; the input reads as it did. -/
def fnExactCountRunsUptoRow : OpenClaim := { program := "ythlamneaghbjbaa", sum := "06a0d3912d1ccf976e83b5b8a78b087494c1c01135db937eb1c7a4d7fc2a6702", func := "loop.example/g01136/laws.FnExactCountRuns", spec := "fnExactCountRuns", unfollowed := true, recurses := true, apart := false, narrowed := true }
def FnExactCountRunsUptoSaid : Prop := fnExactCountRunsUptoRow.holds Try.pinned (OpenSpec.upto fnExactCountRunsSpec)

/-- 'laws.FnExactBlockOf', WHERE WHAT IT READS IS OF BULK AT MOST 1048576: true; the input reads as it did. -/
def fnExactBlockOfUptoRow : OpenClaim := { program := "ythlamneaghbjbaa", sum := "06a0d3912d1ccf976e83b5b8a78b087494c1c01135db937eb1c7a4d7fc2a6702", func := "loop.example/g01136/laws.FnExactBlockOf", spec := "fnExactBlockOf", unfollowed := true, recurses := true, apart := false, narrowed := true }
def FnExactBlockOfUptoSaid : Prop := fnExactBlockOfUptoRow.holds Try.pinned (OpenSpec.upto fnExactBlockOfSpec)

/-- 'laws.FnExactCoreWord', WHERE WHAT IT READS IS OF BULK AT MOST 1048576: true; the input reads as it did. -/
def fnExactCoreWordUptoRow : OpenClaim := { program := "ythlamneaghbjbaa", sum := "06a0d3912d1ccf976e83b5b8a78b087494c1c01135db937eb1c7a4d7fc2a6702", func := "loop.example/g01136/laws.FnExactCoreWord", spec := "fnExactCoreWord", unfollowed := true, recurses := true, apart := false, narrowed := true }
def FnExactCoreWordUptoSaid : Prop := fnExactCoreWordUptoRow.holds Try.pinned (OpenSpec.upto fnExactCoreWordSpec)

/-- 'laws.FnExactIsStrict', WHERE WHAT IT READS IS OF BULK AT MOST 1048576: true; the input reads as it did. -/
def fnExactIsStrictUptoRow : OpenClaim := { program := "ythlamneaghbjbaa", sum := "06a0d3912d1ccf976e83b5b8a78b087494c1c01135db937eb1c7a4d7fc2a6702", func := "loop.example/g01136/laws.FnExactIsStrict", spec := "fnExactIsStrict", unfollowed := true, recurses := true, apart := false, narrowed := true }
def FnExactIsStrictUptoSaid : Prop := fnExactIsStrictUptoRow.holds Try.pinned (OpenSpec.upto fnExactIsStrictSpec)

/-- 'laws.FnExactAllStrict', WHERE WHAT IT READS IS OF BULK AT MOST 1048576: true; the input reads as it did. -/
def fnExactAllStrictUptoRow : OpenClaim := { program := "ythlamneaghbjbaa", sum := "06a0d3912d1ccf976e83b5b8a78b087494c1c01135db937eb1c7a4d7fc2a6702", func := "loop.example/g01136/laws.FnExactAllStrict", spec := "fnExactAllStrict", recurses := true, apart := false, narrowed := true }
def FnExactAllStrictUptoSaid : Prop := fnExactAllStrictUptoRow.holds Try.pinned (OpenSpec.upto fnExactAllStrictSpec)

/-- 'laws.FnExactCountStrict', WHERE WHAT IT READS IS OF BULK AT MOST 1048576: true; the input reads as it did. -/
def fnExactCountStrictUptoRow : OpenClaim := { program := "ythlamneaghbjbaa", sum := "06a0d3912d1ccf976e83b5b8a78b087494c1c01135db937eb1c7a4d7fc2a6702", func := "loop.example/g01136/laws.FnExactCountStrict", spec := "fnExactCountStrict", apart := false, narrowed := true }
def FnExactCountStrictUptoSaid : Prop := fnExactCountStrictUptoRow.holds Try.pinned (OpenSpec.upto fnExactCountStrictSpec)

/-- 'laws.FnExactBarsOf', WHERE WHAT IT READS IS OF BULK AT MOST 1048576: true; the input reads as it did. -/
def fnExactBarsOfUptoRow : OpenClaim := { program := "ythlamneaghbjbaa", sum := "06a0d3912d1ccf976e83b5b8a78b087494c1c01135db937eb1c7a4d7fc2a6702", func := "loop.example/g01136/laws.FnExactBarsOf", spec := "fnExactBarsOf", unfollowed := true, recurses := true, apart := false, narrowed := true }
def FnExactBarsOfUptoSaid : Prop := fnExactBarsOfUptoRow.holds Try.pinned (OpenSpec.upto fnExactBarsOfSpec)

/-- 'laws.FnExactTakeBar', WHERE WHAT IT READS IS OF BULK AT MOST 1048576: true; the input reads as it did. -/
def fnExactTakeBarUptoRow : OpenClaim := { program := "ythlamneaghbjbaa", sum := "06a0d3912d1ccf976e83b5b8a78b087494c1c01135db937eb1c7a4d7fc2a6702", func := "loop.example/g01136/laws.FnExactTakeBar", spec := "fnExactTakeBar", unfollowed := true, recurses := true, apart := false, narrowed := true }
def FnExactTakeBarUptoSaid : Prop := fnExactTakeBarUptoRow.holds Try.pinned (OpenSpec.upto fnExactTakeBarSpec)

/-- 'laws.FnExactBarCore', WHERE WHAT IT READS IS OF BULK AT MOST 1048576: true; the input reads as it did. -/
def fnExactBarCoreUptoRow : OpenClaim := { program := "ythlamneaghbjbaa", sum := "06a0d3912d1ccf976e83b5b8a78b087494c1c01135db937eb1c7a4d7fc2a6702", func := "loop.example/g01136/laws.FnExactBarCore", spec := "fnExactBarCore", unfollowed := true, recurses := true, apart := false, narrowed := true }
def FnExactBarCoreUptoSaid : Prop := fnExactBarCoreUptoRow.holds Try.pinned (OpenSpec.upto fnExactBarCoreSpec)

/-- 'laws.FnExactBarWeight', WHERE WHAT IT READS IS OF BULK AT MOST 1048576: true; the input reads as it did. -/
def fnExactBarWeightUptoRow : OpenClaim := { program := "ythlamneaghbjbaa", sum := "06a0d3912d1ccf976e83b5b8a78b087494c1c01135db937eb1c7a4d7fc2a6702", func := "loop.example/g01136/laws.FnExactBarWeight", spec := "fnExactBarWeight", unfollowed := true, recurses := true, apart := false, narrowed := true }
def FnExactBarWeightUptoSaid : Prop := fnExactBarWeightUptoRow.holds Try.pinned (OpenSpec.upto fnExactBarWeightSpec)

/-- 'laws.FnExactIsBarCore', WHERE WHAT IT READS IS OF BULK AT MOST 1048576: true; the input reads as it did. -/
def fnExactIsBarCoreUptoRow : OpenClaim := { program := "ythlamneaghbjbaa", sum := "06a0d3912d1ccf976e83b5b8a78b087494c1c01135db937eb1c7a4d7fc2a6702", func := "loop.example/g01136/laws.FnExactIsBarCore", spec := "fnExactIsBarCore", unfollowed := true, recurses := true, apart := false, narrowed := true }
def FnExactIsBarCoreUptoSaid : Prop := fnExactIsBarCoreUptoRow.holds Try.pinned (OpenSpec.upto fnExactIsBarCoreSpec)

/-- 'laws.FnExactDoubleOf', WHERE WHAT IT READS IS OF BULK AT MOST 1048576: true; the input reads as it did. -/
def fnExactDoubleOfUptoRow : OpenClaim := { program := "ythlamneaghbjbaa", sum := "06a0d3912d1ccf976e83b5b8a78b087494c1c01135db937eb1c7a4d7fc2a6702", func := "loop.example/g01136/laws.FnExactDoubleOf", spec := "fnExactDoubleOf", unfollowed := true, recurses := true, apart := false, narrowed := true }
def FnExactDoubleOfUptoSaid : Prop := fnExactDoubleOfUptoRow.holds Try.pinned (OpenSpec.upto fnExactDoubleOfSpec)

/-- 'laws.FnExactFromDouble', WHERE WHAT IT READS IS OF BULK AT MOST 1048576: true; the input reads as it did. -/
def fnExactFromDoubleUptoRow : OpenClaim := { program := "ythlamneaghbjbaa", sum := "06a0d3912d1ccf976e83b5b8a78b087494c1c01135db937eb1c7a4d7fc2a6702", func := "loop.example/g01136/laws.FnExactFromDouble", spec := "fnExactFromDouble", unfollowed := true, recurses := true, apart := false, narrowed := true }
def FnExactFromDoubleUptoSaid : Prop := fnExactFromDoubleUptoRow.holds Try.pinned (OpenSpec.upto fnExactFromDoubleSpec)

/-- 'laws.FnExactIsDouble', WHERE WHAT IT READS IS OF BULK AT MOST 1048576: true; the input reads as it did. -/
def fnExactIsDoubleUptoRow : OpenClaim := { program := "ythlamneaghbjbaa", sum := "06a0d3912d1ccf976e83b5b8a78b087494c1c01135db937eb1c7a4d7fc2a6702", func := "loop.example/g01136/laws.FnExactIsDouble", spec := "fnExactIsDouble", unfollowed := true, recurses := true, apart := false, narrowed := true }
def FnExactIsDoubleUptoSaid : Prop := fnExactIsDoubleUptoRow.holds Try.pinned (OpenSpec.upto fnExactIsDoubleSpec)

/-- 'laws.FnExactBarLengths', WHERE WHAT IT READS IS OF BULK AT MOST 1048576: true; the input reads as it did. -/
def fnExactBarLengthsUptoRow : OpenClaim := { program := "ythlamneaghbjbaa", sum := "06a0d3912d1ccf976e83b5b8a78b087494c1c01135db937eb1c7a4d7fc2a6702", func := "loop.example/g01136/laws.FnExactBarLengths", spec := "fnExactBarLengths", unfollowed := true, recurses := true, apart := false, narrowed := true }
def FnExactBarLengthsUptoSaid : Prop := fnExactBarLengthsUptoRow.holds Try.pinned (OpenSpec.upto fnExactBarLengthsSpec)

/-- 'laws.FnExactCountShifted', WHERE WHAT IT READS IS OF BULK AT MOST 1048576: true; the input reads as it did. -/
def fnExactCountShiftedUptoRow : OpenClaim := { program := "ythlamneaghbjbaa", sum := "06a0d3912d1ccf976e83b5b8a78b087494c1c01135db937eb1c7a4d7fc2a6702", func := "loop.example/g01136/laws.FnExactCountShifted", spec := "fnExactCountShifted", unfollowed := true, recurses := true, apart := false, narrowed := true }
def FnExactCountShiftedUptoSaid : Prop := fnExactCountShiftedUptoRow.holds Try.pinned (OpenSpec.upto fnExactCountShiftedSpec)

/-- 'laws.FnExactOddFromStrict', WHERE WHAT IT READS IS OF BULK AT MOST 1048576: true; the input reads as it did. -/
def fnExactOddFromStrictUptoRow : OpenClaim := { program := "ythlamneaghbjbaa", sum := "06a0d3912d1ccf976e83b5b8a78b087494c1c01135db937eb1c7a4d7fc2a6702", func := "loop.example/g01136/laws.FnExactOddFromStrict", spec := "fnExactOddFromStrict", unfollowed := true, recurses := true, apart := false, narrowed := true }
def FnExactOddFromStrictUptoSaid : Prop := fnExactOddFromStrictUptoRow.holds Try.pinned (OpenSpec.upto fnExactOddFromStrictSpec)

/-- 'laws.FnExactStrictFromOdd', WHERE WHAT IT READS IS OF BULK AT MOST 1048576: true; the input reads as it did. -/
def fnExactStrictFromOddUptoRow : OpenClaim := { program := "ythlamneaghbjbaa", sum := "06a0d3912d1ccf976e83b5b8a78b087494c1c01135db937eb1c7a4d7fc2a6702", func := "loop.example/g01136/laws.FnExactStrictFromOdd", spec := "fnExactStrictFromOdd", unfollowed := true, recurses := true, apart := false, narrowed := true }
def FnExactStrictFromOddUptoSaid : Prop := fnExactStrictFromOddUptoRow.holds Try.pinned (OpenSpec.upto fnExactStrictFromOddSpec)

end Rows
end Go.Proofs.Ythlamneaghbjbaa
