/-
  No cell of these rows narrows 'for every input' (looked for: loops, veiled, ifaces, maps, wideKeys, modest, calm, conditions, laid).
  DERIVED. THE GIVEN ROWS OF THIS SEAT. 21 by the template 'for every input the law returns true; each argument reads behind the call as it read before'; 0 by the template 'total and deterministic' (their statements: YthlkfkcaaimceaaTotals.lean).
  GIVEN WITH THE SEED: the statements are not yours to turn. If you find one false, say at which input.
  Laid BY PROGRAM, IN A SANDBOX (cutbox-rows.mjs): the forced cells as the released guide's own fill.sh prints them over the translation 138c4eb5ac17515e… (all of the seat's roots in one cut). By AI agents, Wed Nov 11 2026. No macro, syntax, notation, axiom, sorry.
-/
import Derived.Test.YthlkfkcaaimceaaChecked
import GoSem.Claim
import GoSem.ClaimJoined
import GoSem.ClaimMapViews
import Derived.JoinedTies
import Derived.KernelRfl
namespace Go.Proofs.Ythlkfkcaaimceaa
/- THE CELL 'sum', in the pinned program and in every row, IS THE sha256 OF THE DUMP (.gsa) THAT YthlkfkcaaimceaaProg.lean LOADS. Nothing in Lean hashes anything: it is a label: what it is worth is what the hold of that sum in a sandbox is worth. -/
noncomputable def Try.pinned : Pinned := { name := "ythlkfkcaaimceaa", sum := "138c4eb5ac17515e0bca31028174838f9271a887b6afcd54ce2e3f1d363c07a5", checked := Try.checked }
namespace Rows
def none {H : Type} : Left H := { results := [], args := [] }

/-- 'laws.FnBordersAndHooks': WHATEVER THE INPUT: true; the input reads as it did. -/
def fnBordersAndHooksSpec : ChangeSpec := { name := "fnBordersAndHooks", fn := fun _ => fun
  | [d1, d2] => { results := [.lit (.bool true)], args := [d1, d2] }
  | _ => none }
def fnBordersAndHooksRow : OpenClaim := { program := "ythlkfkcaaimceaa", sum := "138c4eb5ac17515e0bca31028174838f9271a887b6afcd54ce2e3f1d363c07a5", func := "loop.example/g01136/laws.FnBordersAndHooks", spec := "fnBordersAndHooks", inPlace := ["internal/abi.NoEscape"], unfollowed := true, recurses := true, apart := false }
def FnBordersAndHooksSaid : Prop := fnBordersAndHooksRow.holds Try.pinned (OpenSpec.ofChange fnBordersAndHooksSpec)

/-- ITS FALSE NEIGHBOUR: 'it returns false'. Refute it at one input. -/
def fnBordersAndHooksWrong : ChangeSpec := { name := "fnBordersAndHooks", fn := fun _ => fun
  | [d1, d2] => { results := [.lit (.bool false)], args := [d1, d2] }
  | _ => none }
def FnBordersAndHooksWrongFalsely : Prop := fnBordersAndHooksRow.holds Try.pinned (OpenSpec.ofChange fnBordersAndHooksWrong)

/-- 'laws.FnBordersAndHooksOfAll': WHATEVER THE INPUT: true; the input reads as it did. -/
def fnBordersAndHooksOfAllSpec : ChangeSpec := { name := "fnBordersAndHooksOfAll", fn := fun _ => fun
  | [d1, d2, d3, d4, d5] => { results := [.lit (.bool true)], args := [d1, d2, d3, d4, d5] }
  | _ => none }
def fnBordersAndHooksOfAllRow : OpenClaim := { program := "ythlkfkcaaimceaa", sum := "138c4eb5ac17515e0bca31028174838f9271a887b6afcd54ce2e3f1d363c07a5", func := "loop.example/g01136/laws.FnBordersAndHooksOfAll", spec := "fnBordersAndHooksOfAll", inPlace := ["internal/abi.NoEscape"], unfollowed := true, recurses := true, apart := false }
def FnBordersAndHooksOfAllSaid : Prop := fnBordersAndHooksOfAllRow.holds Try.pinned (OpenSpec.ofChange fnBordersAndHooksOfAllSpec)

/-- ITS FALSE NEIGHBOUR: 'it returns false'. Refute it at one input. -/
def fnBordersAndHooksOfAllWrong : ChangeSpec := { name := "fnBordersAndHooksOfAll", fn := fun _ => fun
  | [d1, d2, d3, d4, d5] => { results := [.lit (.bool false)], args := [d1, d2, d3, d4, d5] }
  | _ => none }
def FnBordersAndHooksOfAllWrongFalsely : Prop := fnBordersAndHooksOfAllRow.holds Try.pinned (OpenSpec.ofChange fnBordersAndHooksOfAllWrong)

/-- 'laws.FnRimHooks': WHATEVER THE INPUT: true; the input reads as it did. -/
def fnRimHooksSpec : ChangeSpec := { name := "fnRimHooks", fn := fun _ => fun
  | [d1, d2] => { results := [.lit (.bool true)], args := [d1, d2] }
  | _ => none }
def fnRimHooksRow : OpenClaim := { program := "ythlkfkcaaimceaa", sum := "138c4eb5ac17515e0bca31028174838f9271a887b6afcd54ce2e3f1d363c07a5", func := "loop.example/g01136/laws.FnRimHooks", spec := "fnRimHooks", unfollowed := true, recurses := true, apart := false }
def FnRimHooksSaid : Prop := fnRimHooksRow.holds Try.pinned (OpenSpec.ofChange fnRimHooksSpec)

/-- ITS FALSE NEIGHBOUR: 'it returns false'. Refute it at one input. -/
def fnRimHooksWrong : ChangeSpec := { name := "fnRimHooks", fn := fun _ => fun
  | [d1, d2] => { results := [.lit (.bool false)], args := [d1, d2] }
  | _ => none }
def FnRimHooksWrongFalsely : Prop := fnRimHooksRow.holds Try.pinned (OpenSpec.ofChange fnRimHooksWrong)

/-- 'laws.FnRimHooksOfAll': WHATEVER THE INPUT: true; the input reads as it did. -/
def fnRimHooksOfAllSpec : ChangeSpec := { name := "fnRimHooksOfAll", fn := fun _ => fun
  | [d1, d2, d3, d4, d5, d6] => { results := [.lit (.bool true)], args := [d1, d2, d3, d4, d5, d6] }
  | _ => none }
def fnRimHooksOfAllRow : OpenClaim := { program := "ythlkfkcaaimceaa", sum := "138c4eb5ac17515e0bca31028174838f9271a887b6afcd54ce2e3f1d363c07a5", func := "loop.example/g01136/laws.FnRimHooksOfAll", spec := "fnRimHooksOfAll", unfollowed := true, recurses := true, apart := false }
def FnRimHooksOfAllSaid : Prop := fnRimHooksOfAllRow.holds Try.pinned (OpenSpec.ofChange fnRimHooksOfAllSpec)

/-- ITS FALSE NEIGHBOUR: 'it returns false'. Refute it at one input. -/
def fnRimHooksOfAllWrong : ChangeSpec := { name := "fnRimHooksOfAll", fn := fun _ => fun
  | [d1, d2, d3, d4, d5, d6] => { results := [.lit (.bool false)], args := [d1, d2, d3, d4, d5, d6] }
  | _ => none }
def FnRimHooksOfAllWrongFalsely : Prop := fnRimHooksOfAllRow.holds Try.pinned (OpenSpec.ofChange fnRimHooksOfAllWrong)

/-- 'laws.FnExactIsPartition': WHATEVER THE INPUT: true; the input reads as it did. -/
def fnExactIsPartitionSpec : ChangeSpec := { name := "fnExactIsPartition", fn := fun _ => fun
  | [d] => { results := [.lit (.bool true)], args := [d] }
  | _ => none }
def fnExactIsPartitionRow : OpenClaim := { program := "ythlkfkcaaimceaa", sum := "138c4eb5ac17515e0bca31028174838f9271a887b6afcd54ce2e3f1d363c07a5", func := "loop.example/g01136/laws.FnExactIsPartition", spec := "fnExactIsPartition", unfollowed := true, recurses := true, apart := false }
def FnExactIsPartitionSaid : Prop := fnExactIsPartitionRow.holds Try.pinned (OpenSpec.ofChange fnExactIsPartitionSpec)

/-- ITS FALSE NEIGHBOUR: 'it returns false'. Refute it at one input. -/
def fnExactIsPartitionWrong : ChangeSpec := { name := "fnExactIsPartition", fn := fun _ => fun
  | [d] => { results := [.lit (.bool false)], args := [d] }
  | _ => none }
def FnExactIsPartitionWrongFalsely : Prop := fnExactIsPartitionRow.holds Try.pinned (OpenSpec.ofChange fnExactIsPartitionWrong)

/-- 'laws.FnExactCellsOf': WHATEVER THE INPUT: true; the input reads as it did. -/
def fnExactCellsOfSpec : ChangeSpec := { name := "fnExactCellsOf", fn := fun _ => fun
  | [d] => { results := [.lit (.bool true)], args := [d] }
  | _ => none }
def fnExactCellsOfRow : OpenClaim := { program := "ythlkfkcaaimceaa", sum := "138c4eb5ac17515e0bca31028174838f9271a887b6afcd54ce2e3f1d363c07a5", func := "loop.example/g01136/laws.FnExactCellsOf", spec := "fnExactCellsOf", unfollowed := true, recurses := true, apart := false }
def FnExactCellsOfSaid : Prop := fnExactCellsOfRow.holds Try.pinned (OpenSpec.ofChange fnExactCellsOfSpec)

/-- ITS FALSE NEIGHBOUR: 'it returns false'. Refute it at one input. -/
def fnExactCellsOfWrong : ChangeSpec := { name := "fnExactCellsOf", fn := fun _ => fun
  | [d] => { results := [.lit (.bool false)], args := [d] }
  | _ => none }
def FnExactCellsOfWrongFalsely : Prop := fnExactCellsOfRow.holds Try.pinned (OpenSpec.ofChange fnExactCellsOfWrong)

/-- 'laws.FnExactConjugateOf': WHATEVER THE INPUT: true; the input reads as it did. -/
def fnExactConjugateOfSpec : ChangeSpec := { name := "fnExactConjugateOf", fn := fun _ => fun
  | [d] => { results := [.lit (.bool true)], args := [d] }
  | _ => none }
def fnExactConjugateOfRow : OpenClaim := { program := "ythlkfkcaaimceaa", sum := "138c4eb5ac17515e0bca31028174838f9271a887b6afcd54ce2e3f1d363c07a5", func := "loop.example/g01136/laws.FnExactConjugateOf", spec := "fnExactConjugateOf", unfollowed := true, recurses := true, apart := false }
def FnExactConjugateOfSaid : Prop := fnExactConjugateOfRow.holds Try.pinned (OpenSpec.ofChange fnExactConjugateOfSpec)

/-- ITS FALSE NEIGHBOUR: 'it returns false'. Refute it at one input. -/
def fnExactConjugateOfWrong : ChangeSpec := { name := "fnExactConjugateOf", fn := fun _ => fun
  | [d] => { results := [.lit (.bool false)], args := [d] }
  | _ => none }
def FnExactConjugateOfWrongFalsely : Prop := fnExactConjugateOfRow.holds Try.pinned (OpenSpec.ofChange fnExactConjugateOfWrong)

/-- 'laws.FnExactHookAt': WHATEVER THE INPUT: true; the input reads as it did. -/
def fnExactHookAtSpec : ChangeSpec := { name := "fnExactHookAt", fn := fun _ => fun
  | [d1, d2, d3] => { results := [.lit (.bool true)], args := [d1, d2, d3] }
  | _ => none }
def fnExactHookAtRow : OpenClaim := { program := "ythlkfkcaaimceaa", sum := "138c4eb5ac17515e0bca31028174838f9271a887b6afcd54ce2e3f1d363c07a5", func := "loop.example/g01136/laws.FnExactHookAt", spec := "fnExactHookAt", unfollowed := true, recurses := true, apart := false }
def FnExactHookAtSaid : Prop := fnExactHookAtRow.holds Try.pinned (OpenSpec.ofChange fnExactHookAtSpec)

/-- ITS FALSE NEIGHBOUR: 'it returns false'. Refute it at one input. -/
def fnExactHookAtWrong : ChangeSpec := { name := "fnExactHookAt", fn := fun _ => fun
  | [d1, d2, d3] => { results := [.lit (.bool false)], args := [d1, d2, d3] }
  | _ => none }
def FnExactHookAtWrongFalsely : Prop := fnExactHookAtRow.holds Try.pinned (OpenSpec.ofChange fnExactHookAtWrong)

/-- 'laws.FnExactHooksOf': WHATEVER THE INPUT: true; the input reads as it did. -/
def fnExactHooksOfSpec : ChangeSpec := { name := "fnExactHooksOf", fn := fun _ => fun
  | [d] => { results := [.lit (.bool true)], args := [d] }
  | _ => none }
def fnExactHooksOfRow : OpenClaim := { program := "ythlkfkcaaimceaa", sum := "138c4eb5ac17515e0bca31028174838f9271a887b6afcd54ce2e3f1d363c07a5", func := "loop.example/g01136/laws.FnExactHooksOf", spec := "fnExactHooksOf", unfollowed := true, recurses := true, apart := false }
def FnExactHooksOfSaid : Prop := fnExactHooksOfRow.holds Try.pinned (OpenSpec.ofChange fnExactHooksOfSpec)

/-- ITS FALSE NEIGHBOUR: 'it returns false'. Refute it at one input. -/
def fnExactHooksOfWrong : ChangeSpec := { name := "fnExactHooksOf", fn := fun _ => fun
  | [d] => { results := [.lit (.bool false)], args := [d] }
  | _ => none }
def FnExactHooksOfWrongFalsely : Prop := fnExactHooksOfRow.holds Try.pinned (OpenSpec.ofChange fnExactHooksOfWrong)

/-- 'laws.FnExactContentsOf': WHATEVER THE INPUT: true; the input reads as it did. -/
def fnExactContentsOfSpec : ChangeSpec := { name := "fnExactContentsOf", fn := fun _ => fun
  | [d] => { results := [.lit (.bool true)], args := [d] }
  | _ => none }
def fnExactContentsOfRow : OpenClaim := { program := "ythlkfkcaaimceaa", sum := "138c4eb5ac17515e0bca31028174838f9271a887b6afcd54ce2e3f1d363c07a5", func := "loop.example/g01136/laws.FnExactContentsOf", spec := "fnExactContentsOf", unfollowed := true, recurses := true, apart := false }
def FnExactContentsOfSaid : Prop := fnExactContentsOfRow.holds Try.pinned (OpenSpec.ofChange fnExactContentsOfSpec)

/-- ITS FALSE NEIGHBOUR: 'it returns false'. Refute it at one input. -/
def fnExactContentsOfWrong : ChangeSpec := { name := "fnExactContentsOf", fn := fun _ => fun
  | [d] => { results := [.lit (.bool false)], args := [d] }
  | _ => none }
def FnExactContentsOfWrongFalsely : Prop := fnExactContentsOfRow.holds Try.pinned (OpenSpec.ofChange fnExactContentsOfWrong)

/-- 'laws.FnExactBorderWord': WHATEVER THE INPUT: true; the input reads as it did. -/
def fnExactBorderWordSpec : ChangeSpec := { name := "fnExactBorderWord", fn := fun _ => fun
  | [d] => { results := [.lit (.bool true)], args := [d] }
  | _ => none }
def fnExactBorderWordRow : OpenClaim := { program := "ythlkfkcaaimceaa", sum := "138c4eb5ac17515e0bca31028174838f9271a887b6afcd54ce2e3f1d363c07a5", func := "loop.example/g01136/laws.FnExactBorderWord", spec := "fnExactBorderWord", inPlace := ["internal/abi.NoEscape"], unfollowed := true, recurses := true, apart := false }
def FnExactBorderWordSaid : Prop := fnExactBorderWordRow.holds Try.pinned (OpenSpec.ofChange fnExactBorderWordSpec)

/-- ITS FALSE NEIGHBOUR: 'it returns false'. Refute it at one input. -/
def fnExactBorderWordWrong : ChangeSpec := { name := "fnExactBorderWord", fn := fun _ => fun
  | [d] => { results := [.lit (.bool false)], args := [d] }
  | _ => none }
def FnExactBorderWordWrongFalsely : Prop := fnExactBorderWordRow.holds Try.pinned (OpenSpec.ofChange fnExactBorderWordWrong)

/-- 'laws.FnExactFromBorder': WHATEVER THE INPUT: true; the input reads as it did. -/
def fnExactFromBorderSpec : ChangeSpec := { name := "fnExactFromBorder", fn := fun _ => fun
  | [d] => { results := [.lit (.bool true)], args := [d] }
  | _ => none }
def fnExactFromBorderRow : OpenClaim := { program := "ythlkfkcaaimceaa", sum := "138c4eb5ac17515e0bca31028174838f9271a887b6afcd54ce2e3f1d363c07a5", func := "loop.example/g01136/laws.FnExactFromBorder", spec := "fnExactFromBorder", unfollowed := true, recurses := true, apart := false }
def FnExactFromBorderSaid : Prop := fnExactFromBorderRow.holds Try.pinned (OpenSpec.ofChange fnExactFromBorderSpec)

/-- ITS FALSE NEIGHBOUR: 'it returns false'. Refute it at one input. -/
def fnExactFromBorderWrong : ChangeSpec := { name := "fnExactFromBorder", fn := fun _ => fun
  | [d] => { results := [.lit (.bool false)], args := [d] }
  | _ => none }
def FnExactFromBorderWrongFalsely : Prop := fnExactFromBorderRow.holds Try.pinned (OpenSpec.ofChange fnExactFromBorderWrong)

/-- 'laws.FnExactCornersOf': WHATEVER THE INPUT: true; the input reads as it did. -/
def fnExactCornersOfSpec : ChangeSpec := { name := "fnExactCornersOf", fn := fun _ => fun
  | [d] => { results := [.lit (.bool true)], args := [d] }
  | _ => none }
def fnExactCornersOfRow : OpenClaim := { program := "ythlkfkcaaimceaa", sum := "138c4eb5ac17515e0bca31028174838f9271a887b6afcd54ce2e3f1d363c07a5", func := "loop.example/g01136/laws.FnExactCornersOf", spec := "fnExactCornersOf", unfollowed := true, recurses := true, apart := false }
def FnExactCornersOfSaid : Prop := fnExactCornersOfRow.holds Try.pinned (OpenSpec.ofChange fnExactCornersOfSpec)

/-- ITS FALSE NEIGHBOUR: 'it returns false'. Refute it at one input. -/
def fnExactCornersOfWrong : ChangeSpec := { name := "fnExactCornersOf", fn := fun _ => fun
  | [d] => { results := [.lit (.bool false)], args := [d] }
  | _ => none }
def FnExactCornersOfWrongFalsely : Prop := fnExactCornersOfRow.holds Try.pinned (OpenSpec.ofChange fnExactCornersOfWrong)

/-- 'laws.FnExactAddableOf': WHATEVER THE INPUT: true; the input reads as it did. -/
def fnExactAddableOfSpec : ChangeSpec := { name := "fnExactAddableOf", fn := fun _ => fun
  | [d] => { results := [.lit (.bool true)], args := [d] }
  | _ => none }
def fnExactAddableOfRow : OpenClaim := { program := "ythlkfkcaaimceaa", sum := "138c4eb5ac17515e0bca31028174838f9271a887b6afcd54ce2e3f1d363c07a5", func := "loop.example/g01136/laws.FnExactAddableOf", spec := "fnExactAddableOf", unfollowed := true, recurses := true, apart := false }
def FnExactAddableOfSaid : Prop := fnExactAddableOfRow.holds Try.pinned (OpenSpec.ofChange fnExactAddableOfSpec)

/-- ITS FALSE NEIGHBOUR: 'it returns false'. Refute it at one input. -/
def fnExactAddableOfWrong : ChangeSpec := { name := "fnExactAddableOf", fn := fun _ => fun
  | [d] => { results := [.lit (.bool false)], args := [d] }
  | _ => none }
def FnExactAddableOfWrongFalsely : Prop := fnExactAddableOfRow.holds Try.pinned (OpenSpec.ofChange fnExactAddableOfWrong)

/-- 'laws.FnExactRimHook': WHATEVER THE INPUT: true; the input reads as it did. -/
def fnExactRimHookSpec : ChangeSpec := { name := "fnExactRimHook", fn := fun _ => fun
  | [d1, d2, d3] => { results := [.lit (.bool true)], args := [d1, d2, d3] }
  | _ => none }
def fnExactRimHookRow : OpenClaim := { program := "ythlkfkcaaimceaa", sum := "138c4eb5ac17515e0bca31028174838f9271a887b6afcd54ce2e3f1d363c07a5", func := "loop.example/g01136/laws.FnExactRimHook", spec := "fnExactRimHook", unfollowed := true, recurses := true, apart := false }
def FnExactRimHookSaid : Prop := fnExactRimHookRow.holds Try.pinned (OpenSpec.ofChange fnExactRimHookSpec)

/-- ITS FALSE NEIGHBOUR: 'it returns false'. Refute it at one input. -/
def fnExactRimHookWrong : ChangeSpec := { name := "fnExactRimHook", fn := fun _ => fun
  | [d1, d2, d3] => { results := [.lit (.bool false)], args := [d1, d2, d3] }
  | _ => none }
def FnExactRimHookWrongFalsely : Prop := fnExactRimHookRow.holds Try.pinned (OpenSpec.ofChange fnExactRimHookWrong)

/-- 'laws.FnExactWithoutRim': WHATEVER THE INPUT: true; the input reads as it did. -/
def fnExactWithoutRimSpec : ChangeSpec := { name := "fnExactWithoutRim", fn := fun _ => fun
  | [d1, d2, d3] => { results := [.lit (.bool true)], args := [d1, d2, d3] }
  | _ => none }
def fnExactWithoutRimRow : OpenClaim := { program := "ythlkfkcaaimceaa", sum := "138c4eb5ac17515e0bca31028174838f9271a887b6afcd54ce2e3f1d363c07a5", func := "loop.example/g01136/laws.FnExactWithoutRim", spec := "fnExactWithoutRim", unfollowed := true, recurses := true, apart := false }
def FnExactWithoutRimSaid : Prop := fnExactWithoutRimRow.holds Try.pinned (OpenSpec.ofChange fnExactWithoutRimSpec)

/-- ITS FALSE NEIGHBOUR: 'it returns false'. Refute it at one input. -/
def fnExactWithoutRimWrong : ChangeSpec := { name := "fnExactWithoutRim", fn := fun _ => fun
  | [d1, d2, d3] => { results := [.lit (.bool false)], args := [d1, d2, d3] }
  | _ => none }
def FnExactWithoutRimWrongFalsely : Prop := fnExactWithoutRimRow.holds Try.pinned (OpenSpec.ofChange fnExactWithoutRimWrong)

/-- 'laws.FnExactIsInside': WHATEVER THE INPUT: true; the input reads as it did. -/
def fnExactIsInsideSpec : ChangeSpec := { name := "fnExactIsInside", fn := fun _ => fun
  | [d1, d2] => { results := [.lit (.bool true)], args := [d1, d2] }
  | _ => none }
def fnExactIsInsideRow : OpenClaim := { program := "ythlkfkcaaimceaa", sum := "138c4eb5ac17515e0bca31028174838f9271a887b6afcd54ce2e3f1d363c07a5", func := "loop.example/g01136/laws.FnExactIsInside", spec := "fnExactIsInside", unfollowed := true, recurses := true, apart := false }
def FnExactIsInsideSaid : Prop := fnExactIsInsideRow.holds Try.pinned (OpenSpec.ofChange fnExactIsInsideSpec)

/-- ITS FALSE NEIGHBOUR: 'it returns false'. Refute it at one input. -/
def fnExactIsInsideWrong : ChangeSpec := { name := "fnExactIsInside", fn := fun _ => fun
  | [d1, d2] => { results := [.lit (.bool false)], args := [d1, d2] }
  | _ => none }
def FnExactIsInsideWrongFalsely : Prop := fnExactIsInsideRow.holds Try.pinned (OpenSpec.ofChange fnExactIsInsideWrong)

/-- 'laws.FnExactCountPartitions': WHATEVER THE INPUT: true; the input reads as it did. -/
def fnExactCountPartitionsSpec : ChangeSpec := { name := "fnExactCountPartitions", fn := fun _ => fun
  | [d] => { results := [.lit (.bool true)], args := [d] }
  | _ => none }
def fnExactCountPartitionsRow : OpenClaim := { program := "ythlkfkcaaimceaa", sum := "138c4eb5ac17515e0bca31028174838f9271a887b6afcd54ce2e3f1d363c07a5", func := "loop.example/g01136/laws.FnExactCountPartitions", spec := "fnExactCountPartitions", apart := false }
def FnExactCountPartitionsSaid : Prop := fnExactCountPartitionsRow.holds Try.pinned (OpenSpec.ofChange fnExactCountPartitionsSpec)

/-- ITS FALSE NEIGHBOUR: 'it returns false'. Refute it at one input. -/
def fnExactCountPartitionsWrong : ChangeSpec := { name := "fnExactCountPartitions", fn := fun _ => fun
  | [d] => { results := [.lit (.bool false)], args := [d] }
  | _ => none }
def FnExactCountPartitionsWrongFalsely : Prop := fnExactCountPartitionsRow.holds Try.pinned (OpenSpec.ofChange fnExactCountPartitionsWrong)

/-- 'laws.FnExactAllPartitions': WHATEVER THE INPUT: true; the input reads as it did. -/
def fnExactAllPartitionsSpec : ChangeSpec := { name := "fnExactAllPartitions", fn := fun _ => fun
  | [d] => { results := [.lit (.bool true)], args := [d] }
  | _ => none }
def fnExactAllPartitionsRow : OpenClaim := { program := "ythlkfkcaaimceaa", sum := "138c4eb5ac17515e0bca31028174838f9271a887b6afcd54ce2e3f1d363c07a5", func := "loop.example/g01136/laws.FnExactAllPartitions", spec := "fnExactAllPartitions", recurses := true, apart := false }
def FnExactAllPartitionsSaid : Prop := fnExactAllPartitionsRow.holds Try.pinned (OpenSpec.ofChange fnExactAllPartitionsSpec)

/-- ITS FALSE NEIGHBOUR: 'it returns false'. Refute it at one input. -/
def fnExactAllPartitionsWrong : ChangeSpec := { name := "fnExactAllPartitions", fn := fun _ => fun
  | [d] => { results := [.lit (.bool false)], args := [d] }
  | _ => none }
def FnExactAllPartitionsWrongFalsely : Prop := fnExactAllPartitionsRow.holds Try.pinned (OpenSpec.ofChange fnExactAllPartitionsWrong)

/-- 'laws.FnExactRankPartition': WHATEVER THE INPUT: true; the input reads as it did. -/
def fnExactRankPartitionSpec : ChangeSpec := { name := "fnExactRankPartition", fn := fun _ => fun
  | [d] => { results := [.lit (.bool true)], args := [d] }
  | _ => none }
def fnExactRankPartitionRow : OpenClaim := { program := "ythlkfkcaaimceaa", sum := "138c4eb5ac17515e0bca31028174838f9271a887b6afcd54ce2e3f1d363c07a5", func := "loop.example/g01136/laws.FnExactRankPartition", spec := "fnExactRankPartition", unfollowed := true, recurses := true, apart := false }
def FnExactRankPartitionSaid : Prop := fnExactRankPartitionRow.holds Try.pinned (OpenSpec.ofChange fnExactRankPartitionSpec)

/-- ITS FALSE NEIGHBOUR: 'it returns false'. Refute it at one input. -/
def fnExactRankPartitionWrong : ChangeSpec := { name := "fnExactRankPartition", fn := fun _ => fun
  | [d] => { results := [.lit (.bool false)], args := [d] }
  | _ => none }
def FnExactRankPartitionWrongFalsely : Prop := fnExactRankPartitionRow.holds Try.pinned (OpenSpec.ofChange fnExactRankPartitionWrong)

/-- 'laws.FnExactPartitionWith': WHATEVER THE INPUT: true; the input reads as it did. -/
def fnExactPartitionWithSpec : ChangeSpec := { name := "fnExactPartitionWith", fn := fun _ => fun
  | [d1, d2] => { results := [.lit (.bool true)], args := [d1, d2] }
  | _ => none }
def fnExactPartitionWithRow : OpenClaim := { program := "ythlkfkcaaimceaa", sum := "138c4eb5ac17515e0bca31028174838f9271a887b6afcd54ce2e3f1d363c07a5", func := "loop.example/g01136/laws.FnExactPartitionWith", spec := "fnExactPartitionWith", apart := false }
def FnExactPartitionWithSaid : Prop := fnExactPartitionWithRow.holds Try.pinned (OpenSpec.ofChange fnExactPartitionWithSpec)

/-- ITS FALSE NEIGHBOUR: 'it returns false'. Refute it at one input. -/
def fnExactPartitionWithWrong : ChangeSpec := { name := "fnExactPartitionWith", fn := fun _ => fun
  | [d1, d2] => { results := [.lit (.bool false)], args := [d1, d2] }
  | _ => none }
def FnExactPartitionWithWrongFalsely : Prop := fnExactPartitionWithRow.holds Try.pinned (OpenSpec.ofChange fnExactPartitionWithWrong)

/- THE SECOND FORM. 'bulk': how many values and letters a reading holds, each counted each time it is reached (what is shared counts as often as it is met; a slice's spare places count too). A statement '..UptoSaid' is the law's where the arguments, and the package variables that the reading takes, are together of bulk at most 1048576: NARROWER than '..Said'. Prove '..Said' where nothing that the law and all that it calls make is longer than what came in: it says more and counts as full. Else prove '..UptoSaid'. A law counts once. -/
mutual
def uptoBulk {H : Type} : DataW H → Nat
  | .lit (.string bytes) => bytes.length + 1
  | .lit _ => 1
  | .nil => 1
  | .ptr d => uptoBulk d + 1
  | .slice elems spare => uptoBulkAll elems + uptoBulkAll spare + 1
  | .agg parts => uptoBulkAll parts + 1
  | .iface _ d => uptoBulk d + 1
  | .map entries => uptoBulkEntries entries + 1
  | .held _ => 1
def uptoBulkAll {H : Type} : List (DataW H) → Nat
  | [] => 0
  | d :: r => uptoBulk d + uptoBulkAll r
def uptoBulkEntries {H : Type} : List (Lit × DataW H) → Nat
  | [] => 0
  | x :: r => uptoBulkEntry x + uptoBulkEntries r
def uptoBulkEntry {H : Type} : Lit × DataW H → Nat
  | (.string bytes, d) => bytes.length + uptoBulk d + 1
  | (_, d) => uptoBulk d + 1
 end
def uptoSmall : (H : Type) → List (DataW H) → Bool := fun _ ds => decide (uptoBulkAll ds ≤ 1048576)
def OpenSpec.upto (s : _root_.Go.ChangeSpec) : _root_.Go.OpenSpec := { _root_.Go.OpenSpec.ofChange s with cond := some uptoSmall }

/-- 'laws.FnBordersAndHooks', WHERE WHAT IT READS IS OF BULK AT MOST 1048576: true; the input reads as it did. -/
def fnBordersAndHooksUptoRow : OpenClaim := { program := "ythlkfkcaaimceaa", sum := "138c4eb5ac17515e0bca31028174838f9271a887b6afcd54ce2e3f1d363c07a5", func := "loop.example/g01136/laws.FnBordersAndHooks", spec := "fnBordersAndHooks", inPlace := ["internal/abi.NoEscape"], unfollowed := true, recurses := true, apart := false, narrowed := true }
def FnBordersAndHooksUptoSaid : Prop := fnBordersAndHooksUptoRow.holds Try.pinned (OpenSpec.upto fnBordersAndHooksSpec)

/-- 'laws.FnBordersAndHooksOfAll', WHERE WHAT IT READS IS OF BULK AT MOST 1048576: true; the input reads as it did. -/
def fnBordersAndHooksOfAllUptoRow : OpenClaim := { program := "ythlkfkcaaimceaa", sum := "138c4eb5ac17515e0bca31028174838f9271a887b6afcd54ce2e3f1d363c07a5", func := "loop.example/g01136/laws.FnBordersAndHooksOfAll", spec := "fnBordersAndHooksOfAll", inPlace := ["internal/abi.NoEscape"], unfollowed := true, recurses := true, apart := false, narrowed := true }
def FnBordersAndHooksOfAllUptoSaid : Prop := fnBordersAndHooksOfAllUptoRow.holds Try.pinned (OpenSpec.upto fnBordersAndHooksOfAllSpec)

/-- 'laws.FnRimHooks', WHERE WHAT IT READS IS OF BULK AT MOST 1048576: true; the input reads as it did. -/
def fnRimHooksUptoRow : OpenClaim := { program := "ythlkfkcaaimceaa", sum := "138c4eb5ac17515e0bca31028174838f9271a887b6afcd54ce2e3f1d363c07a5", func := "loop.example/g01136/laws.FnRimHooks", spec := "fnRimHooks", unfollowed := true, recurses := true, apart := false, narrowed := true }
def FnRimHooksUptoSaid : Prop := fnRimHooksUptoRow.holds Try.pinned (OpenSpec.upto fnRimHooksSpec)

/-- 'laws.FnRimHooksOfAll', WHERE WHAT IT READS IS OF BULK AT MOST 1048576: true; the input reads as it did. -/
def fnRimHooksOfAllUptoRow : OpenClaim := { program := "ythlkfkcaaimceaa", sum := "138c4eb5ac17515e0bca31028174838f9271a887b6afcd54ce2e3f1d363c07a5", func := "loop.example/g01136/laws.FnRimHooksOfAll", spec := "fnRimHooksOfAll", unfollowed := true, recurses := true, apart := false, narrowed := true }
def FnRimHooksOfAllUptoSaid : Prop := fnRimHooksOfAllUptoRow.holds Try.pinned (OpenSpec.upto fnRimHooksOfAllSpec)

/-- 'laws.FnExactIsPartition', WHERE WHAT IT READS IS OF BULK AT MOST 1048576: true; the input reads as it did. -/
def fnExactIsPartitionUptoRow : OpenClaim := { program := "ythlkfkcaaimceaa", sum := "138c4eb5ac17515e0bca31028174838f9271a887b6afcd54ce2e3f1d363c07a5", func := "loop.example/g01136/laws.FnExactIsPartition", spec := "fnExactIsPartition", unfollowed := true, recurses := true, apart := false, narrowed := true }
def FnExactIsPartitionUptoSaid : Prop := fnExactIsPartitionUptoRow.holds Try.pinned (OpenSpec.upto fnExactIsPartitionSpec)

/-- 'laws.FnExactCellsOf', WHERE WHAT IT READS IS OF BULK AT MOST 1048576: true; the input reads as it did. -/
def fnExactCellsOfUptoRow : OpenClaim := { program := "ythlkfkcaaimceaa", sum := "138c4eb5ac17515e0bca31028174838f9271a887b6afcd54ce2e3f1d363c07a5", func := "loop.example/g01136/laws.FnExactCellsOf", spec := "fnExactCellsOf", unfollowed := true, recurses := true, apart := false, narrowed := true }
def FnExactCellsOfUptoSaid : Prop := fnExactCellsOfUptoRow.holds Try.pinned (OpenSpec.upto fnExactCellsOfSpec)

/-- 'laws.FnExactConjugateOf', WHERE WHAT IT READS IS OF BULK AT MOST 1048576: true; the input reads as it did. -/
def fnExactConjugateOfUptoRow : OpenClaim := { program := "ythlkfkcaaimceaa", sum := "138c4eb5ac17515e0bca31028174838f9271a887b6afcd54ce2e3f1d363c07a5", func := "loop.example/g01136/laws.FnExactConjugateOf", spec := "fnExactConjugateOf", unfollowed := true, recurses := true, apart := false, narrowed := true }
def FnExactConjugateOfUptoSaid : Prop := fnExactConjugateOfUptoRow.holds Try.pinned (OpenSpec.upto fnExactConjugateOfSpec)

/-- 'laws.FnExactHookAt', WHERE WHAT IT READS IS OF BULK AT MOST 1048576: true; the input reads as it did. -/
def fnExactHookAtUptoRow : OpenClaim := { program := "ythlkfkcaaimceaa", sum := "138c4eb5ac17515e0bca31028174838f9271a887b6afcd54ce2e3f1d363c07a5", func := "loop.example/g01136/laws.FnExactHookAt", spec := "fnExactHookAt", unfollowed := true, recurses := true, apart := false, narrowed := true }
def FnExactHookAtUptoSaid : Prop := fnExactHookAtUptoRow.holds Try.pinned (OpenSpec.upto fnExactHookAtSpec)

/-- 'laws.FnExactHooksOf', WHERE WHAT IT READS IS OF BULK AT MOST 1048576: true; the input reads as it did. -/
def fnExactHooksOfUptoRow : OpenClaim := { program := "ythlkfkcaaimceaa", sum := "138c4eb5ac17515e0bca31028174838f9271a887b6afcd54ce2e3f1d363c07a5", func := "loop.example/g01136/laws.FnExactHooksOf", spec := "fnExactHooksOf", unfollowed := true, recurses := true, apart := false, narrowed := true }
def FnExactHooksOfUptoSaid : Prop := fnExactHooksOfUptoRow.holds Try.pinned (OpenSpec.upto fnExactHooksOfSpec)

/-- 'laws.FnExactContentsOf', WHERE WHAT IT READS IS OF BULK AT MOST 1048576: true; the input reads as it did. -/
def fnExactContentsOfUptoRow : OpenClaim := { program := "ythlkfkcaaimceaa", sum := "138c4eb5ac17515e0bca31028174838f9271a887b6afcd54ce2e3f1d363c07a5", func := "loop.example/g01136/laws.FnExactContentsOf", spec := "fnExactContentsOf", unfollowed := true, recurses := true, apart := false, narrowed := true }
def FnExactContentsOfUptoSaid : Prop := fnExactContentsOfUptoRow.holds Try.pinned (OpenSpec.upto fnExactContentsOfSpec)

/-- 'laws.FnExactBorderWord', WHERE WHAT IT READS IS OF BULK AT MOST 1048576: true; the input reads as it did. -/
def fnExactBorderWordUptoRow : OpenClaim := { program := "ythlkfkcaaimceaa", sum := "138c4eb5ac17515e0bca31028174838f9271a887b6afcd54ce2e3f1d363c07a5", func := "loop.example/g01136/laws.FnExactBorderWord", spec := "fnExactBorderWord", inPlace := ["internal/abi.NoEscape"], unfollowed := true, recurses := true, apart := false, narrowed := true }
def FnExactBorderWordUptoSaid : Prop := fnExactBorderWordUptoRow.holds Try.pinned (OpenSpec.upto fnExactBorderWordSpec)

/-- 'laws.FnExactFromBorder', WHERE WHAT IT READS IS OF BULK AT MOST 1048576: true; the input reads as it did. -/
def fnExactFromBorderUptoRow : OpenClaim := { program := "ythlkfkcaaimceaa", sum := "138c4eb5ac17515e0bca31028174838f9271a887b6afcd54ce2e3f1d363c07a5", func := "loop.example/g01136/laws.FnExactFromBorder", spec := "fnExactFromBorder", unfollowed := true, recurses := true, apart := false, narrowed := true }
def FnExactFromBorderUptoSaid : Prop := fnExactFromBorderUptoRow.holds Try.pinned (OpenSpec.upto fnExactFromBorderSpec)

/-- 'laws.FnExactCornersOf', WHERE WHAT IT READS IS OF BULK AT MOST 1048576: true; the input reads as it did. -/
def fnExactCornersOfUptoRow : OpenClaim := { program := "ythlkfkcaaimceaa", sum := "138c4eb5ac17515e0bca31028174838f9271a887b6afcd54ce2e3f1d363c07a5", func := "loop.example/g01136/laws.FnExactCornersOf", spec := "fnExactCornersOf", unfollowed := true, recurses := true, apart := false, narrowed := true }
def FnExactCornersOfUptoSaid : Prop := fnExactCornersOfUptoRow.holds Try.pinned (OpenSpec.upto fnExactCornersOfSpec)

/-- 'laws.FnExactAddableOf', WHERE WHAT IT READS IS OF BULK AT MOST 1048576: true; the input reads as it did. -/
def fnExactAddableOfUptoRow : OpenClaim := { program := "ythlkfkcaaimceaa", sum := "138c4eb5ac17515e0bca31028174838f9271a887b6afcd54ce2e3f1d363c07a5", func := "loop.example/g01136/laws.FnExactAddableOf", spec := "fnExactAddableOf", unfollowed := true, recurses := true, apart := false, narrowed := true }
def FnExactAddableOfUptoSaid : Prop := fnExactAddableOfUptoRow.holds Try.pinned (OpenSpec.upto fnExactAddableOfSpec)

/-- 'laws.FnExactRimHook', WHERE WHAT IT READS IS OF BULK AT MOST 1048576: true; the input reads as it did. -/
def fnExactRimHookUptoRow : OpenClaim := { program := "ythlkfkcaaimceaa", sum := "138c4eb5ac17515e0bca31028174838f9271a887b6afcd54ce2e3f1d363c07a5", func := "loop.example/g01136/laws.FnExactRimHook", spec := "fnExactRimHook", unfollowed := true, recurses := true, apart := false, narrowed := true }
def FnExactRimHookUptoSaid : Prop := fnExactRimHookUptoRow.holds Try.pinned (OpenSpec.upto fnExactRimHookSpec)

/-- 'laws.FnExactWithoutRim', WHERE WHAT IT READS IS OF BULK AT MOST 1048576: true; the input reads as it did. -/
def fnExactWithoutRimUptoRow : OpenClaim := { program := "ythlkfkcaaimceaa", sum := "138c4eb5ac17515e0bca31028174838f9271a887b6afcd54ce2e3f1d363c07a5", func := "loop.example/g01136/laws.FnExactWithoutRim", spec := "fnExactWithoutRim", unfollowed := true, recurses := true, apart := false, narrowed := true }
def FnExactWithoutRimUptoSaid : Prop := fnExactWithoutRimUptoRow.holds Try.pinned (OpenSpec.upto fnExactWithoutRimSpec)

/-- 'laws.FnExactIsInside', WHERE WHAT IT READS IS OF BULK AT MOST 1048576: true; the input reads as it did. -/
def fnExactIsInsideUptoRow : OpenClaim := { program := "ythlkfkcaaimceaa", sum := "138c4eb5ac17515e0bca31028174838f9271a887b6afcd54ce2e3f1d363c07a5", func := "loop.example/g01136/laws.FnExactIsInside", spec := "fnExactIsInside", unfollowed := true, recurses := true, apart := false, narrowed := true }
def FnExactIsInsideUptoSaid : Prop := fnExactIsInsideUptoRow.holds Try.pinned (OpenSpec.upto fnExactIsInsideSpec)

/-- 'laws.FnExactCountPartitions', WHERE WHAT IT READS IS OF BULK AT MOST 1048576: true; the input reads as it did. -/
def fnExactCountPartitionsUptoRow : OpenClaim := { program := "ythlkfkcaaimceaa", sum := "138c4eb5ac17515e0bca31028174838f9271a887b6afcd54ce2e3f1d363c07a5", func := "loop.example/g01136/laws.FnExactCountPartitions", spec := "fnExactCountPartitions", apart := false, narrowed := true }
def FnExactCountPartitionsUptoSaid : Prop := fnExactCountPartitionsUptoRow.holds Try.pinned (OpenSpec.upto fnExactCountPartitionsSpec)

/-- 'laws.FnExactAllPartitions', WHERE WHAT IT READS IS OF BULK AT MOST 1048576: true; the input reads as it did. -/
def fnExactAllPartitionsUptoRow : OpenClaim := { program := "ythlkfkcaaimceaa", sum := "138c4eb5ac17515e0bca31028174838f9271a887b6afcd54ce2e3f1d363c07a5", func := "loop.example/g01136/laws.FnExactAllPartitions", spec := "fnExactAllPartitions", recurses := true, apart := false, narrowed := true }
def FnExactAllPartitionsUptoSaid : Prop := fnExactAllPartitionsUptoRow.holds Try.pinned (OpenSpec.upto fnExactAllPartitionsSpec)

/-- 'laws.FnExactRankPartition', WHERE WHAT IT READS IS OF BULK AT MOST 1048576: true; the input reads as it did. -/
def fnExactRankPartitionUptoRow : OpenClaim := { program := "ythlkfkcaaimceaa", sum := "138c4eb5ac17515e0bca31028174838f9271a887b6afcd54ce2e3f1d363c07a5", func := "loop.example/g01136/laws.FnExactRankPartition", spec := "fnExactRankPartition", unfollowed := true, recurses := true, apart := false, narrowed := true }
def FnExactRankPartitionUptoSaid : Prop := fnExactRankPartitionUptoRow.holds Try.pinned (OpenSpec.upto fnExactRankPartitionSpec)

/-- 'laws.FnExactPartitionWith', WHERE WHAT IT READS IS OF BULK AT MOST 1048576: true; the input reads as it did. -/
def fnExactPartitionWithUptoRow : OpenClaim := { program := "ythlkfkcaaimceaa", sum := "138c4eb5ac17515e0bca31028174838f9271a887b6afcd54ce2e3f1d363c07a5", func := "loop.example/g01136/laws.FnExactPartitionWith", spec := "fnExactPartitionWith", apart := false, narrowed := true }
def FnExactPartitionWithUptoSaid : Prop := fnExactPartitionWithUptoRow.holds Try.pinned (OpenSpec.upto fnExactPartitionWithSpec)

end Rows
end Go.Proofs.Ythlkfkcaaimceaa
