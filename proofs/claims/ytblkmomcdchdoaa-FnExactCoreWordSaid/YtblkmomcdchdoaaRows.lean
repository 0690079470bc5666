/-
  No cell of these rows narrows 'for every input' (looked for: loops, veiled, ifaces, maps, wideKeys, modest, calm, conditions, laid).
  DERIVED. THE GIVEN ROWS OF THIS SEAT. 18 by the template 'for every input the law returns true; each argument reads behind the call as it read before'; 0 by the template 'total and deterministic' (their statements: YtblkmomcdchdoaaTotals.lean).
  GIVEN WITH THE SEED: the statements are not yours to turn. If you find one false, say at which input.
  Laid BY PROGRAM, IN A SANDBOX (cutbox-rows.mjs): the forced cells as the released guide's own fill.sh prints them over the translation eb3596f3f8007412… (all of the seat's roots in one cut). By AI agents, Wed Nov 11 2026. No macro, syntax, notation, axiom, sorry.
-/
import Derived.Test.YtblkmomcdchdoaaChecked
import GoSem.Claim
import GoSem.ClaimJoined
import GoSem.ClaimMapViews
import Derived.JoinedTies
import Derived.KernelRfl
namespace Go.Proofs.Ytblkmomcdchdoaa
/- THE CELL 'sum', in the pinned program and in every row, IS THE sha256 OF THE DUMP (.gsa) THAT YtblkmomcdchdoaaProg.lean LOADS. Nothing in Lean hashes anything: it is a label: what it is worth is what the hold of that sum in a sandbox is worth. -/
noncomputable def Try.pinned : Pinned := { name := "ytblkmomcdchdoaa", sum := "eb3596f3f8007412ec0e522847b568d3e27bddfe9ea404205fd726c27e9f24a5", checked := Try.checked }
namespace Rows
def none {H : Type} : Left H := { results := [], args := [] }

/-- 'laws.FnExactConjugateOf': WHATEVER THE INPUT: true; the input reads as it did. -/
def fnExactConjugateOfSpec : ChangeSpec := { name := "fnExactConjugateOf", fn := fun _ => fun
  | [d] => { results := [.lit (.bool true)], args := [d] }
  | _ => none }
def fnExactConjugateOfRow : OpenClaim := { program := "ytblkmomcdchdoaa", sum := "eb3596f3f8007412ec0e522847b568d3e27bddfe9ea404205fd726c27e9f24a5", func := "loop.example/g01136/laws.FnExactConjugateOf", spec := "fnExactConjugateOf", unfollowed := true, recurses := true, apart := false }
def FnExactConjugateOfSaid : Prop := fnExactConjugateOfRow.holds Try.pinned (OpenSpec.ofChange fnExactConjugateOfSpec)

/-- ITS FALSE NEIGHBOUR: 'it returns false'. Refute it at one input. -/
def fnExactConjugateOfWrong : ChangeSpec := { name := "fnExactConjugateOf", fn := fun _ => fun
  | [d] => { results := [.lit (.bool false)], args := [d] }
  | _ => none }
def FnExactConjugateOfWrongFalsely : Prop := fnExactConjugateOfRow.holds Try.pinned (OpenSpec.ofChange fnExactConjugateOfWrong)

/-- 'laws.FnExactHookAt': WHATEVER THE INPUT: true; the input reads as it did. -/
def fnExactHookAtSpec : ChangeSpec := { name := "fnExactHookAt", fn := fun _ => fun
  | [d1, d2, d3] => { results := [.lit (.bool true)], args := [d1, d2, d3] }
  | _ => none }
def fnExactHookAtRow : OpenClaim := { program := "ytblkmomcdchdoaa", sum := "eb3596f3f8007412ec0e522847b568d3e27bddfe9ea404205fd726c27e9f24a5", func := "loop.example/g01136/laws.FnExactHookAt", spec := "fnExactHookAt", unfollowed := true, recurses := true, apart := false }
def FnExactHookAtSaid : Prop := fnExactHookAtRow.holds Try.pinned (OpenSpec.ofChange fnExactHookAtSpec)

/-- ITS FALSE NEIGHBOUR: 'it returns false'. Refute it at one input. -/
def fnExactHookAtWrong : ChangeSpec := { name := "fnExactHookAt", fn := fun _ => fun
  | [d1, d2, d3] => { results := [.lit (.bool false)], args := [d1, d2, d3] }
  | _ => none }
def FnExactHookAtWrongFalsely : Prop := fnExactHookAtRow.holds Try.pinned (OpenSpec.ofChange fnExactHookAtWrong)

/-- 'laws.FnExactHooksOf': WHATEVER THE INPUT: true; the input reads as it did. -/
def fnExactHooksOfSpec : ChangeSpec := { name := "fnExactHooksOf", fn := fun _ => fun
  | [d] => { results := [.lit (.bool true)], args := [d] }
  | _ => none }
def fnExactHooksOfRow : OpenClaim := { program := "ytblkmomcdchdoaa", sum := "eb3596f3f8007412ec0e522847b568d3e27bddfe9ea404205fd726c27e9f24a5", func := "loop.example/g01136/laws.FnExactHooksOf", spec := "fnExactHooksOf", unfollowed := true, recurses := true, apart := false }
def FnExactHooksOfSaid : Prop := fnExactHooksOfRow.holds Try.pinned (OpenSpec.ofChange fnExactHooksOfSpec)

/-- ITS FALSE NEIGHBOUR: 'it returns false'. Refute it at one input. -/
def fnExactHooksOfWrong : ChangeSpec := { name := "fnExactHooksOf", fn := fun _ => fun
  | [d] => { results := [.lit (.bool false)], args := [d] }
  | _ => none }
def FnExactHooksOfWrongFalsely : Prop := fnExactHooksOfRow.holds Try.pinned (OpenSpec.ofChange fnExactHooksOfWrong)

/-- 'laws.FnExactRimHook': WHATEVER THE INPUT: true; the input reads as it did. -/
def fnExactRimHookSpec : ChangeSpec := { name := "fnExactRimHook", fn := fun _ => fun
  | [d1, d2, d3] => { results := [.lit (.bool true)], args := [d1, d2, d3] }
  | _ => none }
def fnExactRimHookRow : OpenClaim := { program := "ytblkmomcdchdoaa", sum := "eb3596f3f8007412ec0e522847b568d3e27bddfe9ea404205fd726c27e9f24a5", func := "loop.example/g01136/laws.FnExactRimHook", spec := "fnExactRimHook", unfollowed := true, recurses := true, apart := false }
def FnExactRimHookSaid : Prop := fnExactRimHookRow.holds Try.pinned (OpenSpec.ofChange fnExactRimHookSpec)

/-- ITS FALSE NEIGHBOUR: 'it returns false'. Refute it at one input. -/
def fnExactRimHookWrong : ChangeSpec := { name := "fnExactRimHook", fn := fun _ => fun
  | [d1, d2, d3] => { results := [.lit (.bool false)], args := [d1, d2, d3] }
  | _ => none }
def FnExactRimHookWrongFalsely : Prop := fnExactRimHookRow.holds Try.pinned (OpenSpec.ofChange fnExactRimHookWrong)

/-- 'laws.FnExactWithoutRim': WHATEVER THE INPUT: true; the input reads as it did. -/
def fnExactWithoutRimSpec : ChangeSpec := { name := "fnExactWithoutRim", fn := fun _ => fun
  | [d1, d2, d3] => { results := [.lit (.bool true)], args := [d1, d2, d3] }
  | _ => none }
def fnExactWithoutRimRow : OpenClaim := { program := "ytblkmomcdchdoaa", sum := "eb3596f3f8007412ec0e522847b568d3e27bddfe9ea404205fd726c27e9f24a5", func := "loop.example/g01136/laws.FnExactWithoutRim", spec := "fnExactWithoutRim", unfollowed := true, recurses := true, apart := false }
def FnExactWithoutRimSaid : Prop := fnExactWithoutRimRow.holds Try.pinned (OpenSpec.ofChange fnExactWithoutRimSpec)

/-- ITS FALSE NEIGHBOUR: 'it returns false'. Refute it at one input. -/
def fnExactWithoutRimWrong : ChangeSpec := { name := "fnExactWithoutRim", fn := fun _ => fun
  | [d1, d2, d3] => { results := [.lit (.bool false)], args := [d1, d2, d3] }
  | _ => none }
def FnExactWithoutRimWrongFalsely : Prop := fnExactWithoutRimRow.holds Try.pinned (OpenSpec.ofChange fnExactWithoutRimWrong)

/-- 'laws.FnExactRimCells': WHATEVER THE INPUT: true; the input reads as it did. -/
def fnExactRimCellsSpec : ChangeSpec := { name := "fnExactRimCells", fn := fun _ => fun
  | [d1, d2] => { results := [.lit (.bool true)], args := [d1, d2] }
  | _ => none }
def fnExactRimCellsRow : OpenClaim := { program := "ytblkmomcdchdoaa", sum := "eb3596f3f8007412ec0e522847b568d3e27bddfe9ea404205fd726c27e9f24a5", func := "loop.example/g01136/laws.FnExactRimCells", spec := "fnExactRimCells", unfollowed := true, recurses := true, apart := false }
def FnExactRimCellsSaid : Prop := fnExactRimCellsRow.holds Try.pinned (OpenSpec.ofChange fnExactRimCellsSpec)

/-- ITS FALSE NEIGHBOUR: 'it returns false'. Refute it at one input. -/
def fnExactRimCellsWrong : ChangeSpec := { name := "fnExactRimCells", fn := fun _ => fun
  | [d1, d2] => { results := [.lit (.bool false)], args := [d1, d2] }
  | _ => none }
def FnExactRimCellsWrongFalsely : Prop := fnExactRimCellsRow.holds Try.pinned (OpenSpec.ofChange fnExactRimCellsWrong)

/-- 'laws.FnExactTakeRim': WHATEVER THE INPUT: true; the input reads as it did. -/
def fnExactTakeRimSpec : ChangeSpec := { name := "fnExactTakeRim", fn := fun _ => fun
  | [d1, d2, d3] => { results := [.lit (.bool true)], args := [d1, d2, d3] }
  | _ => none }
def fnExactTakeRimRow : OpenClaim := { program := "ytblkmomcdchdoaa", sum := "eb3596f3f8007412ec0e522847b568d3e27bddfe9ea404205fd726c27e9f24a5", func := "loop.example/g01136/laws.FnExactTakeRim", spec := "fnExactTakeRim", unfollowed := true, recurses := true, apart := false }
def FnExactTakeRimSaid : Prop := fnExactTakeRimRow.holds Try.pinned (OpenSpec.ofChange fnExactTakeRimSpec)

/-- ITS FALSE NEIGHBOUR: 'it returns false'. Refute it at one input. -/
def fnExactTakeRimWrong : ChangeSpec := { name := "fnExactTakeRim", fn := fun _ => fun
  | [d1, d2, d3] => { results := [.lit (.bool false)], args := [d1, d2, d3] }
  | _ => none }
def FnExactTakeRimWrongFalsely : Prop := fnExactTakeRimRow.holds Try.pinned (OpenSpec.ofChange fnExactTakeRimWrong)

/-- 'laws.FnExactIsCore': WHATEVER THE INPUT: true; the input reads as it did. -/
def fnExactIsCoreSpec : ChangeSpec := { name := "fnExactIsCore", fn := fun _ => fun
  | [d1, d2] => { results := [.lit (.bool true)], args := [d1, d2] }
  | _ => none }
def fnExactIsCoreRow : OpenClaim := { program := "ytblkmomcdchdoaa", sum := "eb3596f3f8007412ec0e522847b568d3e27bddfe9ea404205fd726c27e9f24a5", func := "loop.example/g01136/laws.FnExactIsCore", spec := "fnExactIsCore", unfollowed := true, recurses := true, apart := false }
def FnExactIsCoreSaid : Prop := fnExactIsCoreRow.holds Try.pinned (OpenSpec.ofChange fnExactIsCoreSpec)

/-- ITS FALSE NEIGHBOUR: 'it returns false'. Refute it at one input. -/
def fnExactIsCoreWrong : ChangeSpec := { name := "fnExactIsCore", fn := fun _ => fun
  | [d1, d2] => { results := [.lit (.bool false)], args := [d1, d2] }
  | _ => none }
def FnExactIsCoreWrongFalsely : Prop := fnExactIsCoreRow.holds Try.pinned (OpenSpec.ofChange fnExactIsCoreWrong)

/-- 'laws.FnExactSignOf': WHATEVER THE INPUT: true; the input reads as it did. -/
def fnExactSignOfSpec : ChangeSpec := { name := "fnExactSignOf", fn := fun _ => fun
  | [d1, d2] => { results := [.lit (.bool true)], args := [d1, d2] }
  | _ => none }
def fnExactSignOfRow : OpenClaim := { program := "ytblkmomcdchdoaa", sum := "eb3596f3f8007412ec0e522847b568d3e27bddfe9ea404205fd726c27e9f24a5", func := "loop.example/g01136/laws.FnExactSignOf", spec := "fnExactSignOf", unfollowed := true, recurses := true, apart := false }
def FnExactSignOfSaid : Prop := fnExactSignOfRow.holds Try.pinned (OpenSpec.ofChange fnExactSignOfSpec)

/-- ITS FALSE NEIGHBOUR: 'it returns false'. Refute it at one input. -/
def fnExactSignOfWrong : ChangeSpec := { name := "fnExactSignOf", fn := fun _ => fun
  | [d1, d2] => { results := [.lit (.bool false)], args := [d1, d2] }
  | _ => none }
def FnExactSignOfWrongFalsely : Prop := fnExactSignOfRow.holds Try.pinned (OpenSpec.ofChange fnExactSignOfWrong)

/-- 'laws.FnExactRunOf': WHATEVER THE INPUT: true; the input reads as it did. -/
def fnExactRunOfSpec : ChangeSpec := { name := "fnExactRunOf", fn := fun _ => fun
  | [d1, d2, d3] => { results := [.lit (.bool true)], args := [d1, d2, d3] }
  | _ => none }
def fnExactRunOfRow : OpenClaim := { program := "ytblkmomcdchdoaa", sum := "eb3596f3f8007412ec0e522847b568d3e27bddfe9ea404205fd726c27e9f24a5", func := "loop.example/g01136/laws.FnExactRunOf", spec := "fnExactRunOf", unfollowed := true, recurses := true, apart := false }
def FnExactRunOfSaid : Prop := fnExactRunOfRow.holds Try.pinned (OpenSpec.ofChange fnExactRunOfSpec)

/-- ITS FALSE NEIGHBOUR: 'it returns false'. Refute it at one input. -/
def fnExactRunOfWrong : ChangeSpec := { name := "fnExactRunOf", fn := fun _ => fun
  | [d1, d2, d3] => { results := [.lit (.bool false)], args := [d1, d2, d3] }
  | _ => none }
def FnExactRunOfWrongFalsely : Prop := fnExactRunOfRow.holds Try.pinned (OpenSpec.ofChange fnExactRunOfWrong)

/-- 'laws.FnExactSignOfRun': WHATEVER THE INPUT: true; the input reads as it did. -/
def fnExactSignOfRunSpec : ChangeSpec := { name := "fnExactSignOfRun", fn := fun _ => fun
  | [d1, d2, d3] => { results := [.lit (.bool true)], args := [d1, d2, d3] }
  | _ => none }
def fnExactSignOfRunRow : OpenClaim := { program := "ytblkmomcdchdoaa", sum := "eb3596f3f8007412ec0e522847b568d3e27bddfe9ea404205fd726c27e9f24a5", func := "loop.example/g01136/laws.FnExactSignOfRun", spec := "fnExactSignOfRun", unfollowed := true, recurses := true, apart := false }
def FnExactSignOfRunSaid : Prop := fnExactSignOfRunRow.holds Try.pinned (OpenSpec.ofChange fnExactSignOfRunSpec)

/-- ITS FALSE NEIGHBOUR: 'it returns false'. Refute it at one input. -/
def fnExactSignOfRunWrong : ChangeSpec := { name := "fnExactSignOfRun", fn := fun _ => fun
  | [d1, d2, d3] => { results := [.lit (.bool false)], args := [d1, d2, d3] }
  | _ => none }
def FnExactSignOfRunWrongFalsely : Prop := fnExactSignOfRunRow.holds Try.pinned (OpenSpec.ofChange fnExactSignOfRunWrong)

/-- 'laws.FnExactHooksDivisible': WHATEVER THE INPUT: true; the input reads as it did. -/
def fnExactHooksDivisibleSpec : ChangeSpec := { name := "fnExactHooksDivisible", fn := fun _ => fun
  | [d1, d2] => { results := [.lit (.bool true)], args := [d1, d2] }
  | _ => none }
def fnExactHooksDivisibleRow : OpenClaim := { program := "ytblkmomcdchdoaa", sum := "eb3596f3f8007412ec0e522847b568d3e27bddfe9ea404205fd726c27e9f24a5", func := "loop.example/g01136/laws.FnExactHooksDivisible", spec := "fnExactHooksDivisible", unfollowed := true, recurses := true, apart := false }
def FnExactHooksDivisibleSaid : Prop := fnExactHooksDivisibleRow.holds Try.pinned (OpenSpec.ofChange fnExactHooksDivisibleSpec)

/-- ITS FALSE NEIGHBOUR: 'it returns false'. Refute it at one input. -/
def fnExactHooksDivisibleWrong : ChangeSpec := { name := "fnExactHooksDivisible", fn := fun _ => fun
  | [d1, d2] => { results := [.lit (.bool false)], args := [d1, d2] }
  | _ => none }
def FnExactHooksDivisibleWrongFalsely : Prop := fnExactHooksDivisibleRow.holds Try.pinned (OpenSpec.ofChange fnExactHooksDivisibleWrong)

/-- 'laws.FnExactReflectCore': WHATEVER THE INPUT: true; the input reads as it did. -/
def fnExactReflectCoreSpec : ChangeSpec := { name := "fnExactReflectCore", fn := fun _ => fun
  | [d1, d2, d3] => { results := [.lit (.bool true)], args := [d1, d2, d3] }
  | _ => none }
def fnExactReflectCoreRow : OpenClaim := { program := "ytblkmomcdchdoaa", sum := "eb3596f3f8007412ec0e522847b568d3e27bddfe9ea404205fd726c27e9f24a5", func := "loop.example/g01136/laws.FnExactReflectCore", spec := "fnExactReflectCore", unfollowed := true, recurses := true, apart := false }
def FnExactReflectCoreSaid : Prop := fnExactReflectCoreRow.holds Try.pinned (OpenSpec.ofChange fnExactReflectCoreSpec)

/-- ITS FALSE NEIGHBOUR: 'it returns false'. Refute it at one input. -/
def fnExactReflectCoreWrong : ChangeSpec := { name := "fnExactReflectCore", fn := fun _ => fun
  | [d1, d2, d3] => { results := [.lit (.bool false)], args := [d1, d2, d3] }
  | _ => none }
def FnExactReflectCoreWrongFalsely : Prop := fnExactReflectCoreRow.holds Try.pinned (OpenSpec.ofChange fnExactReflectCoreWrong)

/-- 'laws.FnExactCoreWord': WHATEVER THE INPUT: true; the input reads as it did. -/
def fnExactCoreWordSpec : ChangeSpec := { name := "fnExactCoreWord", fn := fun _ => fun
  | [d1, d2] => { results := [.lit (.bool true)], args := [d1, d2] }
  | _ => none }
def fnExactCoreWordRow : OpenClaim := { program := "ytblkmomcdchdoaa", sum := "eb3596f3f8007412ec0e522847b568d3e27bddfe9ea404205fd726c27e9f24a5", func := "loop.example/g01136/laws.FnExactCoreWord", spec := "fnExactCoreWord", unfollowed := true, recurses := true, apart := false }
def FnExactCoreWordSaid : Prop := fnExactCoreWordRow.holds Try.pinned (OpenSpec.ofChange fnExactCoreWordSpec)

/-- ITS FALSE NEIGHBOUR: 'it returns false'. Refute it at one input. -/
def fnExactCoreWordWrong : ChangeSpec := { name := "fnExactCoreWord", fn := fun _ => fun
  | [d1, d2] => { results := [.lit (.bool false)], args := [d1, d2] }
  | _ => none }
def FnExactCoreWordWrongFalsely : Prop := fnExactCoreWordRow.holds Try.pinned (OpenSpec.ofChange fnExactCoreWordWrong)

/-- 'laws.FnExactCoreByWord': WHATEVER THE INPUT: true; the input reads as it did. -/
def fnExactCoreByWordSpec : ChangeSpec := { name := "fnExactCoreByWord", fn := fun _ => fun
  | [d1, d2] => { results := [.lit (.bool true)], args := [d1, d2] }
  | _ => none }
def fnExactCoreByWordRow : OpenClaim := { program := "ytblkmomcdchdoaa", sum := "eb3596f3f8007412ec0e522847b568d3e27bddfe9ea404205fd726c27e9f24a5", func := "loop.example/g01136/laws.FnExactCoreByWord", spec := "fnExactCoreByWord", unfollowed := true, recurses := true, apart := false }
def FnExactCoreByWordSaid : Prop := fnExactCoreByWordRow.holds Try.pinned (OpenSpec.ofChange fnExactCoreByWordSpec)

/-- ITS FALSE NEIGHBOUR: 'it returns false'. Refute it at one input. -/
def fnExactCoreByWordWrong : ChangeSpec := { name := "fnExactCoreByWord", fn := fun _ => fun
  | [d1, d2] => { results := [.lit (.bool false)], args := [d1, d2] }
  | _ => none }
def FnExactCoreByWordWrongFalsely : Prop := fnExactCoreByWordRow.holds Try.pinned (OpenSpec.ofChange fnExactCoreByWordWrong)

/-- 'laws.FnExactCountChains': WHATEVER THE INPUT: true; the input reads as it did. -/
def fnExactCountChainsSpec : ChangeSpec := { name := "fnExactCountChains", fn := fun _ => fun
  | [d] => { results := [.lit (.bool true)], args := [d] }
  | _ => none }
def fnExactCountChainsRow : OpenClaim := { program := "ytblkmomcdchdoaa", sum := "eb3596f3f8007412ec0e522847b568d3e27bddfe9ea404205fd726c27e9f24a5", func := "loop.example/g01136/laws.FnExactCountChains", spec := "fnExactCountChains", unfollowed := true, recurses := true, apart := false }
def FnExactCountChainsSaid : Prop := fnExactCountChainsRow.holds Try.pinned (OpenSpec.ofChange fnExactCountChainsSpec)

/-- ITS FALSE NEIGHBOUR: 'it returns false'. Refute it at one input. -/
def fnExactCountChainsWrong : ChangeSpec := { name := "fnExactCountChains", fn := fun _ => fun
  | [d] => { results := [.lit (.bool false)], args := [d] }
  | _ => none }
def FnExactCountChainsWrongFalsely : Prop := fnExactCountChainsRow.holds Try.pinned (OpenSpec.ofChange fnExactCountChainsWrong)

/-- 'laws.FnExactSquaresOf': WHATEVER THE INPUT: true; the input reads as it did. -/
def fnExactSquaresOfSpec : ChangeSpec := { name := "fnExactSquaresOf", fn := fun _ => fun
  | [d] => { results := [.lit (.bool true)], args := [d] }
  | _ => none }
def fnExactSquaresOfRow : OpenClaim := { program := "ytblkmomcdchdoaa", sum := "eb3596f3f8007412ec0e522847b568d3e27bddfe9ea404205fd726c27e9f24a5", func := "loop.example/g01136/laws.FnExactSquaresOf", spec := "fnExactSquaresOf", unfollowed := true, recurses := true, apart := false }
def FnExactSquaresOfSaid : Prop := fnExactSquaresOfRow.holds Try.pinned (OpenSpec.ofChange fnExactSquaresOfSpec)

/-- ITS FALSE NEIGHBOUR: 'it returns false'. Refute it at one input. -/
def fnExactSquaresOfWrong : ChangeSpec := { name := "fnExactSquaresOf", fn := fun _ => fun
  | [d] => { results := [.lit (.bool false)], args := [d] }
  | _ => none }
def FnExactSquaresOfWrongFalsely : Prop := fnExactSquaresOfRow.holds Try.pinned (OpenSpec.ofChange fnExactSquaresOfWrong)

/-- 'laws.FnExactAllStrict': WHATEVER THE INPUT: true; the input reads as it did. -/
def fnExactAllStrictSpec : ChangeSpec := { name := "fnExactAllStrict", fn := fun _ => fun
  | [d] => { results := [.lit (.bool true)], args := [d] }
  | _ => none }
def fnExactAllStrictRow : OpenClaim := { program := "ytblkmomcdchdoaa", sum := "eb3596f3f8007412ec0e522847b568d3e27bddfe9ea404205fd726c27e9f24a5", func := "loop.example/g01136/laws.FnExactAllStrict", spec := "fnExactAllStrict", recurses := true, apart := false }
def FnExactAllStrictSaid : Prop := fnExactAllStrictRow.holds Try.pinned (OpenSpec.ofChange fnExactAllStrictSpec)

/-- ITS FALSE NEIGHBOUR: 'it returns false'. Refute it at one input. -/
def fnExactAllStrictWrong : ChangeSpec := { name := "fnExactAllStrict", fn := fun _ => fun
  | [d] => { results := [.lit (.bool false)], args := [d] }
  | _ => none }
def FnExactAllStrictWrongFalsely : Prop := fnExactAllStrictRow.holds Try.pinned (OpenSpec.ofChange fnExactAllStrictWrong)

/- THE SECOND FORM. 'bulk': how many values and letters a reading holds, each counted each time it is reached (what is shared counts as often as it is met; a slice's spare places count too). A statement '..UptoSaid' is the law's where the arguments, and the package variables that the reading takes, are together of bulk at most 1048576: NARROWER than '..Said'. Prove '..Said' where nothing that the law and all that it calls make is longer than what came in: it says more and counts as full. Else prove '..UptoSaid'. A law counts once. -/
mutual
def uptoBulk {H : Type} : DataW H → Nat
  | .lit (.string bytes) => bytes.length + 1
  | .lit _ => 1
  | .nil => 1
  | .ptr d => uptoBulk d + 1
  | .slice elems spare => uptoBulkAll elems + uptoBulkAll spare + 1
  | .agg parts => uptoBulkAll parts + 1
  | .iface _ d => uptoBulk d + 1
  | .map entries => uptoBulkEntries entries + 1
  | .held _ => 1
def uptoBulkAll {H : Type} : List (DataW H) → Nat
  | [] => 0
  | d :: r => uptoBulk d + uptoBulkAll r
def uptoBulkEntries {H : Type} : List (Lit × DataW H) → Nat
  | [] => 0
  | x :: r => uptoBulkEntry x + uptoBulkEntries r
def uptoBulkEntry {H : Type} : Lit × DataW H → Nat
  | (.string bytes, d) => bytes.length + uptoBulk d + 1
  | (_, d) => uptoBulk d + 1
 end
def uptoSmall : (H : Type) → List (DataW H) → Bool := fun _ ds => decide (uptoBulkAll ds ≤ 1048576)
def OpenSpec.upto (s : _root_.Go.ChangeSpec) : _root_.Go.OpenSpec := { _root_.Go.OpenSpec.ofChange s with cond := some uptoSmall }

/-- 'laws.FnExactConjugateOf', WHERE WHAT IT READS IS OF BULK AT MOST 1048576: true; the input reads as it did. -/
def fnExactConjugateOfUptoRow : OpenClaim := { program := "ytblkmomcdchdoaa", sum := "eb3596f3f8007412ec0e522847b568d3e27bddfe9ea404205fd726c27e9f24a5", func := "loop.example/g01136/laws.FnExactConjugateOf", spec := "fnExactConjugateOf", unfollowed := true, recurses := true, apart := false, narrowed := true }
def FnExactConjugateOfUptoSaid : Prop := fnExactConjugateOfUptoRow.holds Try.pinned (OpenSpec.upto fnExactConjugateOfSpec)

/-- 'laws.FnExactHookAt', WHERE WHAT IT READS IS OF BULK AT MOST 1048576: true; the input reads as it did. -/
def fnExactHookAtUptoRow : OpenClaim := { program := "ytblkmomcdchdoaa", sum := "eb3596f3f8007412ec0e522847b568d3e27bddfe9ea404205fd726c27e9f24a5", func := "loop.example/g01136/laws.FnExactHookAt", spec := "fnExactHookAt", unfollowed := true, recurses := true, apart := false, narrowed := true }
def FnExactHookAtUptoSaid : Prop := fnExactHookAtUptoRow.holds Try.pinned (OpenSpec.upto fnExactHookAtSpec)

/-- 'laws.FnExactHooksOf', WHERE WHAT IT READS IS OF BULK AT MOST 1048576: true; the input reads as it did. -/
def fnExactHooksOfUptoRow : OpenClaim := { program := "ytblkmomcdchdoaa", sum := "eb3596f3f8007412ec0e522847b568d3e27bddfe9ea404205fd726c27e9f24a5", func := "loop.example/g01136/laws.FnExactHooksOf", spec := "fnExactHooksOf", unfollowed := true, recurses := true, apart := false, narrowed := true }
def FnExactHooksOfUptoSaid : Prop := fnExactHooksOfUptoRow.holds Try.pinned (OpenSpec.upto fnExactHooksOfSpec)

/-- 'laws.FnExactRimHook', WHERE WHAT IT READS IS OF BULK AT MOST 1048576: true; the input reads as it did. -/
def fnExactRimHookUptoRow : OpenClaim := { program := "ytblkmomcdchdoaa", sum := "eb3596f3f8007412ec0e522847b568d3e27bddfe9ea404205fd726c27e9f24a5", func := "loop.example/g01136/laws.FnExactRimHook", spec := "fnExactRimHook", unfollowed := true, recurses := true, apart := false, narrowed := true }
def FnExactRimHookUptoSaid : Prop := fnExactRimHookUptoRow.holds Try.pinned (OpenSpec.upto fnExactRimHookSpec)

/-- 'laws.FnExactWithoutRim', WHERE WHAT IT READS IS OF BULK AT MOST 1048576: true; the input reads as it did. -/
def fnExactWithoutRimUptoRow : OpenClaim := { program := "ytblkmomcdchdoaa", sum := "eb3596f3f8007412ec0e522847b568d3e27bddfe9ea404205fd726c27e9f24a5", func := "loop.example/g01136/laws.FnExactWithoutRim", spec := "fnExactWithoutRim", unfollowed := true, recurses := true, apart := false, narrowed := true }
def FnExactWithoutRimUptoSaid : Prop := fnExactWithoutRimUptoRow.holds Try.pinned (OpenSpec.upto fnExactWithoutRimSpec)

/-- 'laws.FnExactRimCells', WHERE WHAT IT READS IS OF BULK AT MOST 1048576: true; the input reads as it did. -/
def fnExactRimCellsUptoRow : OpenClaim := { program := "ytblkmomcdchdoaa", sum := "eb3596f3f8007412ec0e522847b568d3e27bddfe9ea404205fd726c27e9f24a5", func := "loop.example/g01136/laws.FnExactRimCells", spec := "fnExactRimCells", unfollowed := true, recurses := true, apart := false, narrowed := true }
def FnExactRimCellsUptoSaid : Prop := fnExactRimCellsUptoRow.holds Try.pinned (OpenSpec.upto fnExactRimCellsSpec)

/-- 'laws.FnExactTakeRim', WHERE WHAT IT READS IS OF BULK AT MOST 1048576: true; the input reads as it did. -/
def fnExactTakeRimUptoRow : OpenClaim := { program := "ytblkmomcdchdoaa", sum := "eb3596f3f8007412ec0e522847b568d3e27bddfe9ea404205fd726c27e9f24a5", func := "loop.example/g01136/laws.FnExactTakeRim", spec := "fnExactTakeRim", unfollowed := true, recurses := true, apart := false, narrowed := true }
def FnExactTakeRimUptoSaid : Prop := fnExactTakeRimUptoRow.holds Try.pinned (OpenSpec.upto fnExactTakeRimSpec)

/-- 'laws.FnExactIsCore', WHERE WHAT IT READS IS OF BULK AT MOST 1048576: true; the input reads as it did. -/
def fnExactIsCoreUptoRow : OpenClaim := { program := "ytblkmomcdchdoaa", sum := "eb3596f3f8007412ec0e522847b568d3e27bddfe9ea404205fd726c27e9f24a5", func := "loop.example/g01136/laws.FnExactIsCore", spec := "fnExactIsCore", unfollowed := true, recurses := true, apart := false, narrowed := true }
def FnExactIsCoreUptoSaid : Prop := fnExactIsCoreUptoRow.holds Try.pinned (OpenSpec.upto fnExactIsCoreSpec)

/-- 'laws.FnExactSignOf', WHERE WHAT IT READS IS OF BULK AT MOST 1048576: true; the input reads as it did. -/
def fnExactSignOfUptoRow : OpenClaim := { program := "ytblkmomcdchdoaa", sum := "eb3596f3f8007412ec0e522847b568d3e27bddfe9ea404205fd726c27e9f24a5", func := "loop.example/g01136/laws.FnExactSignOf", spec := "fnExactSignOf", unfollowed := true, recurses := true, apart := false, narrowed := true }
def FnExactSignOfUptoSaid : Prop := fnExactSignOfUptoRow.holds Try.pinned (OpenSpec.upto fnExactSignOfSpec)

/-- 'laws.FnExactRunOf', WHERE WHAT IT READS IS OF BULK AT MOST 1048576: true; the input reads as it did. -/
def fnExactRunOfUptoRow : OpenClaim := { program := "ytblkmomcdchdoaa", sum := "eb3596f3f8007412ec0e522847b568d3e27bddfe9ea404205fd726c27e9f24a5", func := "loop.example/g01136/laws.FnExactRunOf", spec := "fnExactRunOf", unfollowed := true, recurses := true, apart := false, narrowed := true }
def FnExactRunOfUptoSaid : Prop := fnExactRunOfUptoRow.holds Try.pinned (OpenSpec.upto fnExactRunOfSpec)

/-- 'laws.FnExactSignOfRun', WHERE WHAT IT READS IS OF BULK AT MOST 1048576: true; the input reads as it did. -/
def fnExactSignOfRunUptoRow : OpenClaim := { program := "ytblkmomcdchdoaa", sum := "eb3596f3f8007412ec0e522847b568d3e27bddfe9ea404205fd726c27e9f24a5", func := "loop.example/g01136/laws.FnExactSignOfRun", spec := "fnExactSignOfRun", unfollowed := true, recurses := true, apart := false, narrowed := true }
def FnExactSignOfRunUptoSaid : Prop := fnExactSignOfRunUptoRow.holds Try.pinned (OpenSpec.upto fnExactSignOfRunSpec)

/-- 'laws.FnExactHooksDivisible', WHERE WHAT IT READS IS OF BULK AT MOST 1048576: true; the input reads as it did. -/
def fnExactHooksDivisibleUptoRow : OpenClaim := { program := "ytblkmomcdchdoaa", sum := "eb3596f3f8007412ec0e522847b568d3e27bddfe9ea404205fd726c27e9f24a5", func := "loop.example/g01136/laws.FnExactHooksDivisible", spec := "fnExactHooksDivisible", unfollowed := true, recurses := true, apart := false, narrowed := true }
def FnExactHooksDivisibleUptoSaid : Prop := fnExactHooksDivisibleUptoRow.holds Try.pinned (OpenSpec.upto fnExactHooksDivisibleSpec)

/-- 'laws.FnExactReflectCore', WHERE WHAT IT READS IS OF BULK AT MOST 1048576: true; the input reads as it did. -/
def fnExactReflectCoreUptoRow : OpenClaim := { program := "ytblkmomcdchdoaa", sum := "eb3596f3f8007412ec0e522847b568d3e27bddfe9ea404205fd726c27e9f24a5", func := "loop.example/g01136/laws.FnExactReflectCore", spec := "fnExactReflectCore", unfollowed := true, recurses := true, apart := false, narrowed := true }
def FnExactReflectCoreUptoSaid : Prop := fnExactReflectCoreUptoRow.holds Try.pinned (OpenSpec.upto fnExactReflectCoreSpec)

/-- 'laws.FnExactCoreWord', WHERE WHAT IT READS IS OF BULK AT MOST 1048576: true; the input reads as it did. -/
def fnExactCoreWordUptoRow : OpenClaim := { program := "ytblkmomcdchdoaa", sum := "eb3596f3f8007412ec0e522847b568d3e27bddfe9ea404205fd726c27e9f24a5", func := "loop.example/g01136/laws.FnExactCoreWord", spec := "fnExactCoreWord", unfollowed := true, recurses := true, apart := false, narrowed := true }
def FnExactCoreWordUptoSaid : Prop := fnExactCoreWordUptoRow.holds Try.pinned (OpenSpec.upto fnExactCoreWordSpec)

/-- 'laws.FnExactCoreByWord', WHERE WHAT IT READS IS OF BULK AT MOST 1048576: true; the input reads as it did. -/
def fnExactCoreByWordUptoRow : OpenClaim := { program := "ytblkmomcdchdoaa", sum := "eb3596f3f8007412ec0e522847b568d3e27bddfe9ea404205fd726c27e9f24a5", func := "loop.example/g01136/laws.FnExactCoreByWord", spec := "fnExactCoreByWord", unfollowed := true, recurses := true, apart := false, narrowed := true }
def FnExactCoreByWordUptoSaid : Prop := fnExactCoreByWordUptoRow.holds Try.pinned (OpenSpec.upto fnExactCoreByWordSpec)

/-- 'laws.FnExactCountChains', WHERE WHAT IT READS IS OF BULK AT MOST 1048576: true; the input reads as it did. -/
def fnExactCountChainsUptoRow : OpenClaim := { program := "ytblkmomcdchdoaa", sum := "eb3596f3f8007412ec0e522847b568d3e27bddfe9ea404205fd726c27e9f24a5", func := "loop.example/g01136/laws.FnExactCountChains", spec := "fnExactCountChains", unfollowed := true, recurses := true, apart := false, narrowed := true }
def FnExactCountChainsUptoSaid : Prop := fnExactCountChainsUptoRow.holds Try.pinned (OpenSpec.upto fnExactCountChainsSpec)

/-- 'laws.FnExactSquaresOf', WHERE WHAT IT READS IS OF BULK AT MOST 1048576: true; the input reads as it did. -/
def fnExactSquaresOfUptoRow : OpenClaim := { program := "ytblkmomcdchdoaa", sum := "eb3596f3f8007412ec0e522847b568d3e27bddfe9ea404205fd726c27e9f24a5", func := "loop.example/g01136/laws.FnExactSquaresOf", spec := "fnExactSquaresOf", unfollowed := true, recurses := true, apart := false, narrowed := true }
def FnExactSquaresOfUptoSaid : Prop := fnExactSquaresOfUptoRow.holds Try.pinned (OpenSpec.upto fnExactSquaresOfSpec)

/-- 'laws.FnExactAllStrict', WHERE WHAT IT READS IS OF BULK AT MOST 1048576: true; the input reads as it did. -/
def fnExactAllStrictUptoRow : OpenClaim := { program := "ytblkmomcdchdoaa", sum := "eb3596f3f8007412ec0e522847b568d3e27bddfe9ea404205fd726c27e9f24a5", func := "loop.example/g01136/laws.FnExactAllStrict", spec := "fnExactAllStrict", recurses := true, apart := false, narrowed := true }
def FnExactAllStrictUptoSaid : Prop := fnExactAllStrictUptoRow.holds Try.pinned (OpenSpec.upto fnExactAllStrictSpec)

end Rows
end Go.Proofs.Ytblkmomcdchdoaa
