/-
  No cell of these rows narrows 'for every input' (looked for: loops, veiled, ifaces, maps, wideKeys, modest, calm, conditions, laid).
  DERIVED. THE GIVEN ROWS OF THIS SEAT. 26 by the template 'for every input the law returns true; each argument reads behind the call as it read before'; 0 by the template 'total and deterministic' (their statements: YtmbfobcbnnalbaaTotals.lean).
  GIVEN WITH THE SEED: the statements are not yours to turn. If you find one false, say at which input.
  Laid BY PROGRAM, IN A SANDBOX (cutbox-rows.mjs): the forced cells as the released guide's own fill.sh prints them over the translation 25ea2530e31fafbb… (all of the seat's roots in one cut). By AI agents, Wed Nov 11 2026. No macro, syntax, notation, axiom, sorry.
-/
import Derived.Test.YtmbfobcbnnalbaaChecked
import GoSem.Claim
import GoSem.ClaimJoined
import GoSem.ClaimMapViews
import Derived.JoinedTies
import Derived.KernelRfl
namespace Go.Proofs.Ytmbfobcbnnalbaa
/- THE CELL 'sum', in the pinned program and in every row, IS THE sha256 OF THE DUMP (.gsa) THAT YtmbfobcbnnalbaaProg.lean LOADS. Nothing in Lean hashes anything: it is a label: what it is worth is what the hold of that sum in a sandbox is worth. -/
noncomputable def Try.pinned : Pinned := { name := "ytmbfobcbnnalbaa", sum := "25ea2530e31fafbb47d2ad7589dfa0c506ae2084cce32b9bd0f70b50d81ca938", checked := Try.checked }
namespace Rows
def none {H : Type} : Left H := { results := [], args := [] }

/-- 'laws.FnExactCountChains': WHATEVER THE INPUT: true; the input reads as it did. -/
def fnExactCountChainsSpec : ChangeSpec := { name := "fnExactCountChains", fn := fun _ => fun
  | [d] => { results := [.lit (.bool true)], args := [d] }
  | _ => none }
def fnExactCountChainsRow : OpenClaim := { program := "ytmbfobcbnnalbaa", sum := "25ea2530e31fafbb47d2ad7589dfa0c506ae2084cce32b9bd0f70b50d81ca938", func := "loop.example/g01136/laws.FnExactCountChains", spec := "fnExactCountChains", unfollowed := true, recurses := true, plainKeys := false, apart := false }
def FnExactCountChainsSaid : Prop := fnExactCountChainsRow.holds Try.pinned (OpenSpec.ofChange fnExactCountChainsSpec)

/-- ITS FALSE NEIGHBOUR: 'it returns false'. Refute it at one input. -/
def fnExactCountChainsWrong : ChangeSpec := { name := "fnExactCountChains", fn := fun _ => fun
  | [d] => { results := [.lit (.bool false)], args := [d] }
  | _ => none }
def FnExactCountChainsWrongFalsely : Prop := fnExactCountChainsRow.holds Try.pinned (OpenSpec.ofChange fnExactCountChainsWrong)

/-- 'laws.FnExactCountBetween': WHATEVER THE INPUT: true; the input reads as it did. -/
def fnExactCountBetweenSpec : ChangeSpec := { name := "fnExactCountBetween", fn := fun _ => fun
  | [d1, d2] => { results := [.lit (.bool true)], args := [d1, d2] }
  | _ => none }
def fnExactCountBetweenRow : OpenClaim := { program := "ytmbfobcbnnalbaa", sum := "25ea2530e31fafbb47d2ad7589dfa0c506ae2084cce32b9bd0f70b50d81ca938", func := "loop.example/g01136/laws.FnExactCountBetween", spec := "fnExactCountBetween", unfollowed := true, recurses := true, plainKeys := false, apart := false }
def FnExactCountBetweenSaid : Prop := fnExactCountBetweenRow.holds Try.pinned (OpenSpec.ofChange fnExactCountBetweenSpec)

/-- ITS FALSE NEIGHBOUR: 'it returns false'. Refute it at one input. -/
def fnExactCountBetweenWrong : ChangeSpec := { name := "fnExactCountBetween", fn := fun _ => fun
  | [d1, d2] => { results := [.lit (.bool false)], args := [d1, d2] }
  | _ => none }
def FnExactCountBetweenWrongFalsely : Prop := fnExactCountBetweenRow.holds Try.pinned (OpenSpec.ofChange fnExactCountBetweenWrong)

/-- 'laws.FnExactIsChain': WHATEVER THE INPUT: true; the input reads as it did. -/
def fnExactIsChainSpec : ChangeSpec := { name := "fnExactIsChain", fn := fun _ => fun
  | [d] => { results := [.lit (.bool true)], args := [d] }
  | _ => none }
def fnExactIsChainRow : OpenClaim := { program := "ytmbfobcbnnalbaa", sum := "25ea2530e31fafbb47d2ad7589dfa0c506ae2084cce32b9bd0f70b50d81ca938", func := "loop.example/g01136/laws.FnExactIsChain", spec := "fnExactIsChain", unfollowed := true, recurses := true, plainKeys := false, apart := false }
def FnExactIsChainSaid : Prop := fnExactIsChainRow.holds Try.pinned (OpenSpec.ofChange fnExactIsChainSpec)

/-- ITS FALSE NEIGHBOUR: 'it returns false'. Refute it at one input. -/
def fnExactIsChainWrong : ChangeSpec := { name := "fnExactIsChain", fn := fun _ => fun
  | [d] => { results := [.lit (.bool false)], args := [d] }
  | _ => none }
def FnExactIsChainWrongFalsely : Prop := fnExactIsChainRow.holds Try.pinned (OpenSpec.ofChange fnExactIsChainWrong)

/-- 'laws.FnExactShapeOf': WHATEVER THE INPUT: true; the input reads as it did. -/
def fnExactShapeOfSpec : ChangeSpec := { name := "fnExactShapeOf", fn := fun _ => fun
  | [d] => { results := [.lit (.bool true)], args := [d] }
  | _ => none }
def fnExactShapeOfRow : OpenClaim := { program := "ytmbfobcbnnalbaa", sum := "25ea2530e31fafbb47d2ad7589dfa0c506ae2084cce32b9bd0f70b50d81ca938", func := "loop.example/g01136/laws.FnExactShapeOf", spec := "fnExactShapeOf", unfollowed := true, recurses := true, plainKeys := false, apart := false }
def FnExactShapeOfSaid : Prop := fnExactShapeOfRow.holds Try.pinned (OpenSpec.ofChange fnExactShapeOfSpec)

/-- ITS FALSE NEIGHBOUR: 'it returns false'. Refute it at one input. -/
def fnExactShapeOfWrong : ChangeSpec := { name := "fnExactShapeOf", fn := fun _ => fun
  | [d] => { results := [.lit (.bool false)], args := [d] }
  | _ => none }
def FnExactShapeOfWrongFalsely : Prop := fnExactShapeOfRow.holds Try.pinned (OpenSpec.ofChange fnExactShapeOfWrong)

/-- 'laws.FnExactRankChain': WHATEVER THE INPUT: true; the input reads as it did. -/
def fnExactRankChainSpec : ChangeSpec := { name := "fnExactRankChain", fn := fun _ => fun
  | [d] => { results := [.lit (.bool true)], args := [d] }
  | _ => none }
def fnExactRankChainRow : OpenClaim := { program := "ytmbfobcbnnalbaa", sum := "25ea2530e31fafbb47d2ad7589dfa0c506ae2084cce32b9bd0f70b50d81ca938", func := "loop.example/g01136/laws.FnExactRankChain", spec := "fnExactRankChain", unfollowed := true, recurses := true, plainKeys := false, apart := false }
def FnExactRankChainSaid : Prop := fnExactRankChainRow.holds Try.pinned (OpenSpec.ofChange fnExactRankChainSpec)

/-- ITS FALSE NEIGHBOUR: 'it returns false'. Refute it at one input. -/
def fnExactRankChainWrong : ChangeSpec := { name := "fnExactRankChain", fn := fun _ => fun
  | [d] => { results := [.lit (.bool false)], args := [d] }
  | _ => none }
def FnExactRankChainWrongFalsely : Prop := fnExactRankChainRow.holds Try.pinned (OpenSpec.ofChange fnExactRankChainWrong)

/-- 'laws.FnExactChainWith': WHATEVER THE INPUT: true; the input reads as it did. -/
def fnExactChainWithSpec : ChangeSpec := { name := "fnExactChainWith", fn := fun _ => fun
  | [d1, d2] => { results := [.lit (.bool true)], args := [d1, d2] }
  | _ => none }
def fnExactChainWithRow : OpenClaim := { program := "ytmbfobcbnnalbaa", sum := "25ea2530e31fafbb47d2ad7589dfa0c506ae2084cce32b9bd0f70b50d81ca938", func := "loop.example/g01136/laws.FnExactChainWith", spec := "fnExactChainWith", unfollowed := true, recurses := true, plainKeys := false, apart := false }
def FnExactChainWithSaid : Prop := fnExactChainWithRow.holds Try.pinned (OpenSpec.ofChange fnExactChainWithSpec)

/-- ITS FALSE NEIGHBOUR: 'it returns false'. Refute it at one input. -/
def fnExactChainWithWrong : ChangeSpec := { name := "fnExactChainWith", fn := fun _ => fun
  | [d1, d2] => { results := [.lit (.bool false)], args := [d1, d2] }
  | _ => none }
def FnExactChainWithWrongFalsely : Prop := fnExactChainWithRow.holds Try.pinned (OpenSpec.ofChange fnExactChainWithWrong)

/-- 'laws.FnExactSquaresOf': WHATEVER THE INPUT: true; the input reads as it did. -/
def fnExactSquaresOfSpec : ChangeSpec := { name := "fnExactSquaresOf", fn := fun _ => fun
  | [d] => { results := [.lit (.bool true)], args := [d] }
  | _ => none }
def fnExactSquaresOfRow : OpenClaim := { program := "ytmbfobcbnnalbaa", sum := "25ea2530e31fafbb47d2ad7589dfa0c506ae2084cce32b9bd0f70b50d81ca938", func := "loop.example/g01136/laws.FnExactSquaresOf", spec := "fnExactSquaresOf", unfollowed := true, recurses := true, plainKeys := false, apart := false }
def FnExactSquaresOfSaid : Prop := fnExactSquaresOfRow.holds Try.pinned (OpenSpec.ofChange fnExactSquaresOfSpec)

/-- ITS FALSE NEIGHBOUR: 'it returns false'. Refute it at one input. -/
def fnExactSquaresOfWrong : ChangeSpec := { name := "fnExactSquaresOf", fn := fun _ => fun
  | [d] => { results := [.lit (.bool false)], args := [d] }
  | _ => none }
def FnExactSquaresOfWrongFalsely : Prop := fnExactSquaresOfRow.holds Try.pinned (OpenSpec.ofChange fnExactSquaresOfWrong)

/-- 'laws.FnExactCharacterOf': WHATEVER THE INPUT: true; the input reads as it did. -/
def fnExactCharacterOfSpec : ChangeSpec := { name := "fnExactCharacterOf", fn := fun _ => fun
  | [d1, d2] => { results := [.lit (.bool true)], args := [d1, d2] }
  | _ => none }
def fnExactCharacterOfRow : OpenClaim := { program := "ytmbfobcbnnalbaa", sum := "25ea2530e31fafbb47d2ad7589dfa0c506ae2084cce32b9bd0f70b50d81ca938", func := "loop.example/g01136/laws.FnExactCharacterOf", spec := "fnExactCharacterOf", unfollowed := true, recurses := true, plainKeys := false, apart := false }
def FnExactCharacterOfSaid : Prop := fnExactCharacterOfRow.holds Try.pinned (OpenSpec.ofChange fnExactCharacterOfSpec)

/-- ITS FALSE NEIGHBOUR: 'it returns false'. Refute it at one input. -/
def fnExactCharacterOfWrong : ChangeSpec := { name := "fnExactCharacterOf", fn := fun _ => fun
  | [d1, d2] => { results := [.lit (.bool false)], args := [d1, d2] }
  | _ => none }
def FnExactCharacterOfWrongFalsely : Prop := fnExactCharacterOfRow.holds Try.pinned (OpenSpec.ofChange fnExactCharacterOfWrong)

/-- 'laws.FnExactCharacterRow': WHATEVER THE INPUT: true; the input reads as it did. -/
def fnExactCharacterRowSpec : ChangeSpec := { name := "fnExactCharacterRow", fn := fun _ => fun
  | [d] => { results := [.lit (.bool true)], args := [d] }
  | _ => none }
def fnExactCharacterRowRow : OpenClaim := { program := "ytmbfobcbnnalbaa", sum := "25ea2530e31fafbb47d2ad7589dfa0c506ae2084cce32b9bd0f70b50d81ca938", func := "loop.example/g01136/laws.FnExactCharacterRow", spec := "fnExactCharacterRow", unfollowed := true, recurses := true, plainKeys := false, apart := false }
def FnExactCharacterRowSaid : Prop := fnExactCharacterRowRow.holds Try.pinned (OpenSpec.ofChange fnExactCharacterRowSpec)

/-- ITS FALSE NEIGHBOUR: 'it returns false'. Refute it at one input. -/
def fnExactCharacterRowWrong : ChangeSpec := { name := "fnExactCharacterRow", fn := fun _ => fun
  | [d] => { results := [.lit (.bool false)], args := [d] }
  | _ => none }
def FnExactCharacterRowWrongFalsely : Prop := fnExactCharacterRowRow.holds Try.pinned (OpenSpec.ofChange fnExactCharacterRowWrong)

/-- 'laws.FnExactCharacterTable': WHATEVER THE INPUT: true; the input reads as it did. -/
def fnExactCharacterTableSpec : ChangeSpec := { name := "fnExactCharacterTable", fn := fun _ => fun
  | [d] => { results := [.lit (.bool true)], args := [d] }
  | _ => none }
def fnExactCharacterTableRow : OpenClaim := { program := "ytmbfobcbnnalbaa", sum := "25ea2530e31fafbb47d2ad7589dfa0c506ae2084cce32b9bd0f70b50d81ca938", func := "loop.example/g01136/laws.FnExactCharacterTable", spec := "fnExactCharacterTable", unfollowed := true, recurses := true, plainKeys := false, apart := false }
def FnExactCharacterTableSaid : Prop := fnExactCharacterTableRow.holds Try.pinned (OpenSpec.ofChange fnExactCharacterTableSpec)

/-- ITS FALSE NEIGHBOUR: 'it returns false'. Refute it at one input. -/
def fnExactCharacterTableWrong : ChangeSpec := { name := "fnExactCharacterTable", fn := fun _ => fun
  | [d] => { results := [.lit (.bool false)], args := [d] }
  | _ => none }
def FnExactCharacterTableWrongFalsely : Prop := fnExactCharacterTableRow.holds Try.pinned (OpenSpec.ofChange fnExactCharacterTableWrong)

/-- 'laws.FnExactClassSize': WHATEVER THE INPUT: true; the input reads as it did. -/
def fnExactClassSizeSpec : ChangeSpec := { name := "fnExactClassSize", fn := fun _ => fun
  | [d] => { results := [.lit (.bool true)], args := [d] }
  | _ => none }
def fnExactClassSizeRow : OpenClaim := { program := "ytmbfobcbnnalbaa", sum := "25ea2530e31fafbb47d2ad7589dfa0c506ae2084cce32b9bd0f70b50d81ca938", func := "loop.example/g01136/laws.FnExactClassSize", spec := "fnExactClassSize", plainKeys := false, apart := false }
def FnExactClassSizeSaid : Prop := fnExactClassSizeRow.holds Try.pinned (OpenSpec.ofChange fnExactClassSizeSpec)

/-- ITS FALSE NEIGHBOUR: 'it returns false'. Refute it at one input. -/
def fnExactClassSizeWrong : ChangeSpec := { name := "fnExactClassSize", fn := fun _ => fun
  | [d] => { results := [.lit (.bool false)], args := [d] }
  | _ => none }
def FnExactClassSizeWrongFalsely : Prop := fnExactClassSizeRow.holds Try.pinned (OpenSpec.ofChange fnExactClassSizeWrong)

/-- 'laws.FnExactClassWeight': WHATEVER THE INPUT: true; the input reads as it did. -/
def fnExactClassWeightSpec : ChangeSpec := { name := "fnExactClassWeight", fn := fun _ => fun
  | [d] => { results := [.lit (.bool true)], args := [d] }
  | _ => none }
def fnExactClassWeightRow : OpenClaim := { program := "ytmbfobcbnnalbaa", sum := "25ea2530e31fafbb47d2ad7589dfa0c506ae2084cce32b9bd0f70b50d81ca938", func := "loop.example/g01136/laws.FnExactClassWeight", spec := "fnExactClassWeight", plainKeys := false, apart := false }
def FnExactClassWeightSaid : Prop := fnExactClassWeightRow.holds Try.pinned (OpenSpec.ofChange fnExactClassWeightSpec)

/-- ITS FALSE NEIGHBOUR: 'it returns false'. Refute it at one input. -/
def fnExactClassWeightWrong : ChangeSpec := { name := "fnExactClassWeight", fn := fun _ => fun
  | [d] => { results := [.lit (.bool false)], args := [d] }
  | _ => none }
def FnExactClassWeightWrongFalsely : Prop := fnExactClassWeightRow.holds Try.pinned (OpenSpec.ofChange fnExactClassWeightWrong)

/-- 'laws.FnExactSignOfClass': WHATEVER THE INPUT: true; the input reads as it did. -/
def fnExactSignOfClassSpec : ChangeSpec := { name := "fnExactSignOfClass", fn := fun _ => fun
  | [d] => { results := [.lit (.bool true)], args := [d] }
  | _ => none }
def fnExactSignOfClassRow : OpenClaim := { program := "ytmbfobcbnnalbaa", sum := "25ea2530e31fafbb47d2ad7589dfa0c506ae2084cce32b9bd0f70b50d81ca938", func := "loop.example/g01136/laws.FnExactSignOfClass", spec := "fnExactSignOfClass", plainKeys := false, apart := false }
def FnExactSignOfClassSaid : Prop := fnExactSignOfClassRow.holds Try.pinned (OpenSpec.ofChange fnExactSignOfClassSpec)

/-- ITS FALSE NEIGHBOUR: 'it returns false'. Refute it at one input. -/
def fnExactSignOfClassWrong : ChangeSpec := { name := "fnExactSignOfClass", fn := fun _ => fun
  | [d] => { results := [.lit (.bool false)], args := [d] }
  | _ => none }
def FnExactSignOfClassWrongFalsely : Prop := fnExactSignOfClassRow.holds Try.pinned (OpenSpec.ofChange fnExactSignOfClassWrong)

/-- 'laws.FnExactRowProduct': WHATEVER THE INPUT: true; the input reads as it did. -/
def fnExactRowProductSpec : ChangeSpec := { name := "fnExactRowProduct", fn := fun _ => fun
  | [d1, d2] => { results := [.lit (.bool true)], args := [d1, d2] }
  | _ => none }
def fnExactRowProductRow : OpenClaim := { program := "ytmbfobcbnnalbaa", sum := "25ea2530e31fafbb47d2ad7589dfa0c506ae2084cce32b9bd0f70b50d81ca938", func := "loop.example/g01136/laws.FnExactRowProduct", spec := "fnExactRowProduct", unfollowed := true, recurses := true, plainKeys := false, apart := false }
def FnExactRowProductSaid : Prop := fnExactRowProductRow.holds Try.pinned (OpenSpec.ofChange fnExactRowProductSpec)

/-- ITS FALSE NEIGHBOUR: 'it returns false'. Refute it at one input. -/
def fnExactRowProductWrong : ChangeSpec := { name := "fnExactRowProduct", fn := fun _ => fun
  | [d1, d2] => { results := [.lit (.bool false)], args := [d1, d2] }
  | _ => none }
def FnExactRowProductWrongFalsely : Prop := fnExactRowProductRow.holds Try.pinned (OpenSpec.ofChange fnExactRowProductWrong)

/-- 'laws.FnExactColumnProduct': WHATEVER THE INPUT: true; the input reads as it did. -/
def fnExactColumnProductSpec : ChangeSpec := { name := "fnExactColumnProduct", fn := fun _ => fun
  | [d1, d2] => { results := [.lit (.bool true)], args := [d1, d2] }
  | _ => none }
def fnExactColumnProductRow : OpenClaim := { program := "ytmbfobcbnnalbaa", sum := "25ea2530e31fafbb47d2ad7589dfa0c506ae2084cce32b9bd0f70b50d81ca938", func := "loop.example/g01136/laws.FnExactColumnProduct", spec := "fnExactColumnProduct", unfollowed := true, recurses := true, plainKeys := false, apart := false }
def FnExactColumnProductSaid : Prop := fnExactColumnProductRow.holds Try.pinned (OpenSpec.ofChange fnExactColumnProductSpec)

/-- ITS FALSE NEIGHBOUR: 'it returns false'. Refute it at one input. -/
def fnExactColumnProductWrong : ChangeSpec := { name := "fnExactColumnProduct", fn := fun _ => fun
  | [d1, d2] => { results := [.lit (.bool false)], args := [d1, d2] }
  | _ => none }
def FnExactColumnProductWrongFalsely : Prop := fnExactColumnProductRow.holds Try.pinned (OpenSpec.ofChange fnExactColumnProductWrong)

/-- 'laws.FnExactTakeRim': WHATEVER THE INPUT: true; the input reads as it did. -/
def fnExactTakeRimSpec : ChangeSpec := { name := "fnExactTakeRim", fn := fun _ => fun
  | [d1, d2, d3] => { results := [.lit (.bool true)], args := [d1, d2, d3] }
  | _ => none }
def fnExactTakeRimRow : OpenClaim := { program := "ytmbfobcbnnalbaa", sum := "25ea2530e31fafbb47d2ad7589dfa0c506ae2084cce32b9bd0f70b50d81ca938", func := "loop.example/g01136/laws.FnExactTakeRim", spec := "fnExactTakeRim", unfollowed := true, recurses := true, plainKeys := false, apart := false }
def FnExactTakeRimSaid : Prop := fnExactTakeRimRow.holds Try.pinned (OpenSpec.ofChange fnExactTakeRimSpec)

/-- ITS FALSE NEIGHBOUR: 'it returns false'. Refute it at one input. -/
def fnExactTakeRimWrong : ChangeSpec := { name := "fnExactTakeRim", fn := fun _ => fun
  | [d1, d2, d3] => { results := [.lit (.bool false)], args := [d1, d2, d3] }
  | _ => none }
def FnExactTakeRimWrongFalsely : Prop := fnExactTakeRimRow.holds Try.pinned (OpenSpec.ofChange fnExactTakeRimWrong)

/-- 'laws.FnExactSignOf': WHATEVER THE INPUT: true; the input reads as it did. -/
def fnExactSignOfSpec : ChangeSpec := { name := "fnExactSignOf", fn := fun _ => fun
  | [d1, d2] => { results := [.lit (.bool true)], args := [d1, d2] }
  | _ => none }
def fnExactSignOfRow : OpenClaim := { program := "ytmbfobcbnnalbaa", sum := "25ea2530e31fafbb47d2ad7589dfa0c506ae2084cce32b9bd0f70b50d81ca938", func := "loop.example/g01136/laws.FnExactSignOf", spec := "fnExactSignOf", unfollowed := true, recurses := true, plainKeys := false, apart := false }
def FnExactSignOfSaid : Prop := fnExactSignOfRow.holds Try.pinned (OpenSpec.ofChange fnExactSignOfSpec)

/-- ITS FALSE NEIGHBOUR: 'it returns false'. Refute it at one input. -/
def fnExactSignOfWrong : ChangeSpec := { name := "fnExactSignOf", fn := fun _ => fun
  | [d1, d2] => { results := [.lit (.bool false)], args := [d1, d2] }
  | _ => none }
def FnExactSignOfWrongFalsely : Prop := fnExactSignOfRow.holds Try.pinned (OpenSpec.ofChange fnExactSignOfWrong)

/-- 'laws.FnExactRunOf': WHATEVER THE INPUT: true; the input reads as it did. -/
def fnExactRunOfSpec : ChangeSpec := { name := "fnExactRunOf", fn := fun _ => fun
  | [d1, d2, d3] => { results := [.lit (.bool true)], args := [d1, d2, d3] }
  | _ => none }
def fnExactRunOfRow : OpenClaim := { program := "ytmbfobcbnnalbaa", sum := "25ea2530e31fafbb47d2ad7589dfa0c506ae2084cce32b9bd0f70b50d81ca938", func := "loop.example/g01136/laws.FnExactRunOf", spec := "fnExactRunOf", unfollowed := true, recurses := true, plainKeys := false, apart := false }
def FnExactRunOfSaid : Prop := fnExactRunOfRow.holds Try.pinned (OpenSpec.ofChange fnExactRunOfSpec)

/-- ITS FALSE NEIGHBOUR: 'it returns false'. Refute it at one input. -/
def fnExactRunOfWrong : ChangeSpec := { name := "fnExactRunOf", fn := fun _ => fun
  | [d1, d2, d3] => { results := [.lit (.bool false)], args := [d1, d2, d3] }
  | _ => none }
def FnExactRunOfWrongFalsely : Prop := fnExactRunOfRow.holds Try.pinned (OpenSpec.ofChange fnExactRunOfWrong)

/-- 'laws.FnExactSignOfRun': WHATEVER THE INPUT: true; the input reads as it did. -/
def fnExactSignOfRunSpec : ChangeSpec := { name := "fnExactSignOfRun", fn := fun _ => fun
  | [d1, d2, d3] => { results := [.lit (.bool true)], args := [d1, d2, d3] }
  | _ => none }
def fnExactSignOfRunRow : OpenClaim := { program := "ytmbfobcbnnalbaa", sum := "25ea2530e31fafbb47d2ad7589dfa0c506ae2084cce32b9bd0f70b50d81ca938", func := "loop.example/g01136/laws.FnExactSignOfRun", spec := "fnExactSignOfRun", unfollowed := true, recurses := true, plainKeys := false, apart := false }
def FnExactSignOfRunSaid : Prop := fnExactSignOfRunRow.holds Try.pinned (OpenSpec.ofChange fnExactSignOfRunSpec)

/-- ITS FALSE NEIGHBOUR: 'it returns false'. Refute it at one input. -/
def fnExactSignOfRunWrong : ChangeSpec := { name := "fnExactSignOfRun", fn := fun _ => fun
  | [d1, d2, d3] => { results := [.lit (.bool false)], args := [d1, d2, d3] }
  | _ => none }
def FnExactSignOfRunWrongFalsely : Prop := fnExactSignOfRunRow.holds Try.pinned (OpenSpec.ofChange fnExactSignOfRunWrong)

/-- 'laws.FnExactHooksDivisible': WHATEVER THE INPUT: true; the input reads as it did. -/
def fnExactHooksDivisibleSpec : ChangeSpec := { name := "fnExactHooksDivisible", fn := fun _ => fun
  | [d1, d2] => { results := [.lit (.bool true)], args := [d1, d2] }
  | _ => none }
def fnExactHooksDivisibleRow : OpenClaim := { program := "ytmbfobcbnnalbaa", sum := "25ea2530e31fafbb47d2ad7589dfa0c506ae2084cce32b9bd0f70b50d81ca938", func := "loop.example/g01136/laws.FnExactHooksDivisible", spec := "fnExactHooksDivisible", unfollowed := true, recurses := true, plainKeys := false, apart := false }
def FnExactHooksDivisibleSaid : Prop := fnExactHooksDivisibleRow.holds Try.pinned (OpenSpec.ofChange fnExactHooksDivisibleSpec)

/-- ITS FALSE NEIGHBOUR: 'it returns false'. Refute it at one input. -/
def fnExactHooksDivisibleWrong : ChangeSpec := { name := "fnExactHooksDivisible", fn := fun _ => fun
  | [d1, d2] => { results := [.lit (.bool false)], args := [d1, d2] }
  | _ => none }
def FnExactHooksDivisibleWrongFalsely : Prop := fnExactHooksDivisibleRow.holds Try.pinned (OpenSpec.ofChange fnExactHooksDivisibleWrong)

/-- 'laws.FnExactCoreByWord': WHATEVER THE INPUT: true; the input reads as it did. -/
def fnExactCoreByWordSpec : ChangeSpec := { name := "fnExactCoreByWord", fn := fun _ => fun
  | [d1, d2] => { results := [.lit (.bool true)], args := [d1, d2] }
  | _ => none }
def fnExactCoreByWordRow : OpenClaim := { program := "ytmbfobcbnnalbaa", sum := "25ea2530e31fafbb47d2ad7589dfa0c506ae2084cce32b9bd0f70b50d81ca938", func := "loop.example/g01136/laws.FnExactCoreByWord", spec := "fnExactCoreByWord", unfollowed := true, recurses := true, plainKeys := false, apart := false }
def FnExactCoreByWordSaid : Prop := fnExactCoreByWordRow.holds Try.pinned (OpenSpec.ofChange fnExactCoreByWordSpec)

/-- ITS FALSE NEIGHBOUR: 'it returns false'. Refute it at one input. -/
def fnExactCoreByWordWrong : ChangeSpec := { name := "fnExactCoreByWord", fn := fun _ => fun
  | [d1, d2] => { results := [.lit (.bool false)], args := [d1, d2] }
  | _ => none }
def FnExactCoreByWordWrongFalsely : Prop := fnExactCoreByWordRow.holds Try.pinned (OpenSpec.ofChange fnExactCoreByWordWrong)

/-- 'laws.FnExactCoreWord': WHATEVER THE INPUT: true; the input reads as it did. -/
def fnExactCoreWordSpec : ChangeSpec := { name := "fnExactCoreWord", fn := fun _ => fun
  | [d1, d2] => { results := [.lit (.bool true)], args := [d1, d2] }
  | _ => none }
def fnExactCoreWordRow : OpenClaim := { program := "ytmbfobcbnnalbaa", sum := "25ea2530e31fafbb47d2ad7589dfa0c506ae2084cce32b9bd0f70b50d81ca938", func := "loop.example/g01136/laws.FnExactCoreWord", spec := "fnExactCoreWord", unfollowed := true, recurses := true, plainKeys := false, apart := false }
def FnExactCoreWordSaid : Prop := fnExactCoreWordRow.holds Try.pinned (OpenSpec.ofChange fnExactCoreWordSpec)

/-- ITS FALSE NEIGHBOUR: 'it returns false'. Refute it at one input. -/
def fnExactCoreWordWrong : ChangeSpec := { name := "fnExactCoreWord", fn := fun _ => fun
  | [d1, d2] => { results := [.lit (.bool false)], args := [d1, d2] }
  | _ => none }
def FnExactCoreWordWrongFalsely : Prop := fnExactCoreWordRow.holds Try.pinned (OpenSpec.ofChange fnExactCoreWordWrong)

/-- 'laws.FnExactFromCore': WHATEVER THE INPUT: true; the input reads as it did. -/
def fnExactFromCoreSpec : ChangeSpec := { name := "fnExactFromCore", fn := fun _ => fun
  | [d1, d2] => { results := [.lit (.bool true)], args := [d1, d2] }
  | _ => none }
def fnExactFromCoreRow : OpenClaim := { program := "ytmbfobcbnnalbaa", sum := "25ea2530e31fafbb47d2ad7589dfa0c506ae2084cce32b9bd0f70b50d81ca938", func := "loop.example/g01136/laws.FnExactFromCore", spec := "fnExactFromCore", unfollowed := true, recurses := true, plainKeys := false, apart := false }
def FnExactFromCoreSaid : Prop := fnExactFromCoreRow.holds Try.pinned (OpenSpec.ofChange fnExactFromCoreSpec)

/-- ITS FALSE NEIGHBOUR: 'it returns false'. Refute it at one input. -/
def fnExactFromCoreWrong : ChangeSpec := { name := "fnExactFromCore", fn := fun _ => fun
  | [d1, d2] => { results := [.lit (.bool false)], args := [d1, d2] }
  | _ => none }
def FnExactFromCoreWrongFalsely : Prop := fnExactFromCoreRow.holds Try.pinned (OpenSpec.ofChange fnExactFromCoreWrong)

/-- 'laws.FnExactAddedRims': WHATEVER THE INPUT: true; the input reads as it did. -/
def fnExactAddedRimsSpec : ChangeSpec := { name := "fnExactAddedRims", fn := fun _ => fun
  | [d1, d2] => { results := [.lit (.bool true)], args := [d1, d2] }
  | _ => none }
def fnExactAddedRimsRow : OpenClaim := { program := "ytmbfobcbnnalbaa", sum := "25ea2530e31fafbb47d2ad7589dfa0c506ae2084cce32b9bd0f70b50d81ca938", func := "loop.example/g01136/laws.FnExactAddedRims", spec := "fnExactAddedRims", unfollowed := true, recurses := true, plainKeys := false, apart := false }
def FnExactAddedRimsSaid : Prop := fnExactAddedRimsRow.holds Try.pinned (OpenSpec.ofChange fnExactAddedRimsSpec)

/-- ITS FALSE NEIGHBOUR: 'it returns false'. Refute it at one input. -/
def fnExactAddedRimsWrong : ChangeSpec := { name := "fnExactAddedRims", fn := fun _ => fun
  | [d1, d2] => { results := [.lit (.bool false)], args := [d1, d2] }
  | _ => none }
def FnExactAddedRimsWrongFalsely : Prop := fnExactAddedRimsRow.holds Try.pinned (OpenSpec.ofChange fnExactAddedRimsWrong)

/-- 'laws.FnExactBlockOf': WHATEVER THE INPUT: true; the input reads as it did. -/
def fnExactBlockOfSpec : ChangeSpec := { name := "fnExactBlockOf", fn := fun _ => fun
  | [d1, d2, d3] => { results := [.lit (.bool true)], args := [d1, d2, d3] }
  | _ => none }
def fnExactBlockOfRow : OpenClaim := { program := "ytmbfobcbnnalbaa", sum := "25ea2530e31fafbb47d2ad7589dfa0c506ae2084cce32b9bd0f70b50d81ca938", func := "loop.example/g01136/laws.FnExactBlockOf", spec := "fnExactBlockOf", unfollowed := true, recurses := true, plainKeys := false, apart := false }
def FnExactBlockOfSaid : Prop := fnExactBlockOfRow.holds Try.pinned (OpenSpec.ofChange fnExactBlockOfSpec)

/-- ITS FALSE NEIGHBOUR: 'it returns false'. Refute it at one input. -/
def fnExactBlockOfWrong : ChangeSpec := { name := "fnExactBlockOf", fn := fun _ => fun
  | [d1, d2, d3] => { results := [.lit (.bool false)], args := [d1, d2, d3] }
  | _ => none }
def FnExactBlockOfWrongFalsely : Prop := fnExactBlockOfRow.holds Try.pinned (OpenSpec.ofChange fnExactBlockOfWrong)

/-- 'laws.FnExactCountRuns': WHATEVER THE INPUT: true; the input reads as it did. -/
def fnExactCountRunsSpec : ChangeSpec := { name := "fnExactCountRuns", fn := fun _ => fun
  | [d1, d2] => { results := [.lit (.bool true)], args := [d1, d2] }
  | _ => none }
def fnExactCountRunsRow : OpenClaim := { program := "ytmbfobcbnnalbaa", sum := "25ea2530e31fafbb47d2ad7589dfa0c506ae2084cce32b9bd0f70b50d81ca938", func := "loop.example/g01136/laws.FnExactCountRuns", spec := "fnExactCountRuns", unfollowed := true, recurses := true, plainKeys := false, apart := false }
def FnExactCountRunsSaid : Prop := fnExactCountRunsRow.holds Try.pinned (OpenSpec.ofChange fnExactCountRunsSpec)

/-- ITS FALSE NEIGHBOUR: 'it returns false'. Refute it at one input. -/
def fnExactCountRunsWrong : ChangeSpec := { name := "fnExactCountRuns", fn := fun _ => fun
  | [d1, d2] => { results := [.lit (.bool false)], args := [d1, d2] }
  | _ => none }
def FnExactCountRunsWrongFalsely : Prop := fnExactCountRunsRow.holds Try.pinned (OpenSpec.ofChange fnExactCountRunsWrong)

/- THE SECOND FORM. 'bulk': how many values and letters a reading holds, each counted each time it is reached (what is shared counts as often as it is met; a slice's spare places count too). A statement '..UptoSaid' is the law's where the arguments, and the package variables that the reading takes, are together of bulk at most 1048576: NARROWER than '..Said'. Prove '..Said' where nothing that the law and all that it calls make is longer than what came in: it says more and counts as full. Else prove '..UptoSaid'. A law counts once. -/
mutual
def uptoBulk {H : Type} : DataW H → Nat
  | .lit (.string bytes) => bytes.length + 1
  | .lit _ => 1
  | .nil => 1
  | .ptr d => uptoBulk d + 1
  | .slice elems spare => uptoBulkAll elems + uptoBulkAll spare + 1
  | .agg parts => uptoBulkAll parts + 1
  | .iface _ d => uptoBulk d + 1
  | .map entries => uptoBulkEntries entries + 1
  | .held _ => 1
def uptoBulkAll {H : Type} : List (DataW H) → Nat
  | [] => 0
  | d :: r => uptoBulk d + uptoBulkAll r
def uptoBulkEntries {H : Type} : List (Lit × DataW H) → Nat
  | [] => 0
  | x :: r => uptoBulkEntry x + uptoBulkEntries r
def uptoBulkEntry {H : Type} : Lit × DataW H → Nat
  | (.string bytes, d) => bytes.length + uptoBulk d + 1
  | (_, d) => uptoBulk d + 1
 end
def uptoSmall : (H : Type) → List (DataW H) → Bool := fun _ ds => decide (uptoBulkAll ds ≤ 1048576)
def OpenSpec.upto (s : _root_.Go.ChangeSpec) : _root_.Go.OpenSpec := { _root_.Go.OpenSpec.ofChange s with cond := some uptoSmall }

/-- 'laws.FnExactCountChains', WHERE WHAT IT READS IS OF BULK AT MOST 1048576: true; the input reads as it did. -/
def fnExactCountChainsUptoRow : OpenClaim := { program := "ytmbfobcbnnalbaa", sum := "25ea2530e31fafbb47d2ad7589dfa0c506ae2084cce32b9bd0f70b50d81ca938", func := "loop.example/g01136/laws.FnExactCountChains", spec := "fnExactCountChains", unfollowed := true, recurses := true, plainKeys := false, apart := false, narrowed := true }
def FnExactCountChainsUptoSaid : Prop := fnExactCountChainsUptoRow.holds Try.pinned (OpenSpec.upto fnExactCountChainsSpec)

/-- 'laws.FnExactCountBetween', WHERE WHAT IT READS IS OF BULK AT MOST 1048576: true; the input reads as it did. -/
def fnExactCountBetweenUptoRow : OpenClaim := { program := "ytmbfobcbnnalbaa", sum := "25ea2530e31fafbb47d2ad7589dfa0c506ae2084cce32b9bd0f70b50d81ca938", func := "loop.example/g01136/laws.FnExactCountBetween", spec := "fnExactCountBetween", unfollowed := true, recurses := true, plainKeys := false, apart := false, narrowed := true }
def FnExactCountBetweenUptoSaid : Prop := fnExactCountBetweenUptoRow.holds Try.pinned (OpenSpec.upto fnExactCountBetweenSpec)

/-- 'laws.FnExactIsChain', WHERE WHAT IT READS IS OF BULK AT MOST 1048576: true; the input reads as it did. -/
def fnExactIsChainUptoRow : OpenClaim := { program := "ytmbfobcbnnalbaa", sum := "25ea2530e31fafbb47d2ad7589dfa0c506ae2084cce32b9bd0f70b50d81ca938", func := "loop.example/g01136/laws.FnExactIsChain", spec := "fnExactIsChain", unfollowed := true, recurses := true, plainKeys := false, apart := false, narrowed := true }
def FnExactIsChainUptoSaid : Prop := fnExactIsChainUptoRow.holds Try.pinned (OpenSpec.upto fnExactIsChainSpec)

/-- 'laws.FnExactShapeOf', WHERE WHAT IT READS IS OF BULK AT MOST 1048576: true; the input reads as it did. -/
def fnExactShapeOfUptoRow : OpenClaim := { program := "ytmbfobcbnnalbaa", sum := "25ea2530e31fafbb47d2ad7589dfa0c506ae2084cce32b9bd0f70b50d81ca938", func := "loop.example/g01136/laws.FnExactShapeOf", spec := "fnExactShapeOf", unfollowed := true, recurses := true, plainKeys := false, apart := false, narrowed := true }
def FnExactShapeOfUptoSaid : Prop := fnExactShapeOfUptoRow.holds Try.pinned (OpenSpec.upto fnExactShapeOfSpec)

/-- 'laws.FnExactRankChain', WHERE WHAT IT READS IS OF BULK AT MOST 1048576: true; the input reads as it did. -/
def fnExactRankChainUptoRow : OpenClaim := { program := "ytmbfobcbnnalbaa", sum := "25ea2530e31fafbb47d2ad7589dfa0c506ae2084cce32b9bd0f70b50d81ca938", func := "loop.example/g01136/laws.FnExactRankChain", spec := "fnExactRankChain", unfollowed := true, recurses := true, plainKeys := false, apart := false, narrowed := true }
def FnExactRankChainUptoSaid : Prop := fnExactRankChainUptoRow.holds Try.pinned (OpenSpec.upto fnExactRankChainSpec)

/-- 'laws.FnExactChainWith', WHERE WHAT IT READS IS OF BULK AT MOST 1048576: true; the input reads as it did. -/
def fnExactChainWithUptoRow : OpenClaim := { program := "ytmbfobcbnnalbaa", sum := "25ea2530e31fafbb47d2ad7589dfa0c506ae2084cce32b9bd0f70b50d81ca938", func := "loop.example/g01136/laws.FnExactChainWith", spec := "fnExactChainWith", unfollowed := true, recurses := true, plainKeys := false, apart := false, narrowed := true }
def FnExactChainWithUptoSaid : Prop := fnExactChainWithUptoRow.holds Try.pinned (OpenSpec.upto fnExactChainWithSpec)

/-- 'laws.FnExactSquaresOf', WHERE WHAT IT READS IS OF BULK AT MOST 1048576: true; the input reads as it did. -/
def fnExactSquaresOfUptoRow : OpenClaim := { program := "ytmbfobcbnnalbaa", sum := "25ea2530e31fafbb47d2ad7589dfa0c506ae2084cce32b9bd0f70b50d81ca938", func := "loop.example/g01136/laws.FnExactSquaresOf", spec := "fnExactSquaresOf", unfollowed := true, recurses := true, plainKeys := false, apart := false, narrowed := true }
def FnExactSquaresOfUptoSaid : Prop := fnExactSquaresOfUptoRow.holds Try.pinned (OpenSpec.upto fnExactSquaresOfSpec)

/-- 'laws.FnExactCharacterOf', WHERE WHAT IT READS IS OF BULK AT MOST 1048576: true; the input reads as it did. -/
def fnExactCharacterOfUptoRow : OpenClaim := { program := "ytmbfobcbnnalbaa", sum := "25ea2530e31fafbb47d2ad7589dfa0c506ae2084cce32b9bd0f70b50d81ca938", func := "loop.example/g01136/laws.FnExactCharacterOf", spec := "fnExactCharacterOf", unfollowed := true, recurses := true, plainKeys := false, apart := false, narrowed := true }
def FnExactCharacterOfUptoSaid : Prop := fnExactCharacterOfUptoRow.holds Try.pinned (OpenSpec.upto fnExactCharacterOfSpec)

/-- 'laws.FnExactCharacterRow', WHERE WHAT IT READS IS OF BULK AT MOST 1048576: true; the input reads as it did. -/
def fnExactCharacterRowUptoRow : OpenClaim := { program := "ytmbfobcbnnalbaa", sum := "25ea2530e31fafbb47d2ad7589dfa0c506ae2084cce32b9bd0f70b50d81ca938", func := "loop.example/g01136/laws.FnExactCharacterRow", spec := "fnExactCharacterRow", unfollowed := true, recurses := true, plainKeys := false, apart := false, narrowed := true }
def FnExactCharacterRowUptoSaid : Prop := fnExactCharacterRowUptoRow.holds Try.pinned (OpenSpec.upto fnExactCharacterRowSpec)

/-- 'laws.FnExactCharacterTable', WHERE WHAT IT READS IS OF BULK AT MOST 1048576: true; the input reads as it did. -/
def fnExactCharacterTableUptoRow : OpenClaim := { program := "ytmbfobcbnnalbaa", sum := "25ea2530e31fafbb47d2ad7589dfa0c506ae2084cce32b9bd0f70b50d81ca938", func := "loop.example/g01136/laws.FnExactCharacterTable", spec := "fnExactCharacterTable", unfollowed := true, recurses := true, plainKeys := false, apart := false, narrowed := true }
def FnExactCharacterTableUptoSaid : Prop := fnExactCharacterTableUptoRow.holds Try.pinned (OpenSpec.upto fnExactCharacterTableSpec)

/-- 'laws.FnExactClassSize', WHERE WHAT IT READS IS OF BULK AT MOST 1048576: true; the input reads as it did. -/
def fnExactClassSizeUptoRow : OpenClaim := { program := "ytmbfobcbnnalbaa", sum := "25ea2530e31fafbb47d2ad7589dfa0c506ae2084cce32b9bd0f70b50d81ca938", func := "loop.example/g01136/laws.FnExactClassSize", spec := "fnExactClassSize", plainKeys := false, apart := false, narrowed := true }
def FnExactClassSizeUptoSaid : Prop := fnExactClassSizeUptoRow.holds Try.pinned (OpenSpec.upto fnExactClassSizeSpec)

/-- 'laws.FnExactClassWeight', WHERE WHAT IT READS IS OF BULK AT MOST 1048576: true; the input reads as it did. -/
def fnExactClassWeightUptoRow : OpenClaim := { program := "ytmbfobcbnnalbaa", sum := "25ea2530e31fafbb47d2ad7589dfa0c506ae2084cce32b9bd0f70b50d81ca938", func := "loop.example/g01136/laws.FnExactClassWeight", spec := "fnExactClassWeight", plainKeys := false, apart := false, narrowed := true }
def FnExactClassWeightUptoSaid : Prop := fnExactClassWeightUptoRow.holds Try.pinned (OpenSpec.upto fnExactClassWeightSpec)

/-- 'laws.FnExactSignOfClass', WHERE WHAT IT READS IS OF BULK AT MOST 1048576: true; the input reads as it did. -/
def fnExactSignOfClassUptoRow : OpenClaim := { program := "ytmbfobcbnnalbaa", sum := "25ea2530e31fafbb47d2ad7589dfa0c506ae2084cce32b9bd0f70b50d81ca938", func := "loop.example/g01136/laws.FnExactSignOfClass", spec := "fnExactSignOfClass", plainKeys := false, apart := false, narrowed := true }
def FnExactSignOfClassUptoSaid : Prop := fnExactSignOfClassUptoRow.holds Try.pinned (OpenSpec.upto fnExactSignOfClassSpec)

/-- 'laws.FnExactRowProduct', WHERE WHAT IT READS IS OF BULK AT MOST 1048576: true; the input reads as it did. -/
def fnExactRowProductUptoRow : OpenClaim := { program := "ytmbfobcbnnalbaa", sum := "25ea2530e31fafbb47d2ad7589dfa0c506ae2084cce32b9bd0f70b50d81ca938", func := "loop.example/g01136/laws.FnExactRowProduct", spec := "fnExactRowProduct", unfollowed := true, recurses := true, plainKeys := false, apart := false, narrowed := true }
def FnExactRowProductUptoSaid : Prop := fnExactRowProductUptoRow.holds Try.pinned (OpenSpec.upto fnExactRowProductSpec)

/-- 'laws.FnExactColumnProduct', WHERE WHAT IT READS IS OF BULK AT MOST 1048576: true; the input reads as it did. -/
def fnExactColumnProductUptoRow : OpenClaim := { program := "ytmbfobcbnnalbaa", sum := "25ea2530e31fafbb47d2ad7589dfa0c506ae2084cce32b9bd0f70b50d81ca938", func := "loop.example/g01136/laws.FnExactColumnProduct", spec := "fnExactColumnProduct", unfollowed := true, recurses := true, plainKeys := false, apart := false, narrowed := true }
def FnExactColumnProductUptoSaid : Prop := fnExactColumnProductUptoRow.holds Try.pinned (OpenSpec.upto fnExactColumnProductSpec)

/-- 'laws.FnExactTakeRim', WHERE WHAT IT READS IS OF BULK AT MOST 1048576: true; the input reads as it did. -/
def fnExactTakeRimUptoRow : OpenClaim := { program := "ytmbfobcbnnalbaa", sum := "25ea2530e31fafbb47d2ad7589dfa0c506ae2084cce32b9bd0f70b50d81ca938", func := "loop.example/g01136/laws.FnExactTakeRim", spec := "fnExactTakeRim", unfollowed := true, recurses := true, plainKeys := false, apart := false, narrowed := true }
def FnExactTakeRimUptoSaid : Prop := fnExactTakeRimUptoRow.holds Try.pinned (OpenSpec.upto fnExactTakeRimSpec)

/-- 'laws.FnExactSignOf', WHERE WHAT IT READS IS OF BULK AT MOST 1048576: true; the input reads as it did. -/
def fnExactSignOfUptoRow : OpenClaim := { program := "ytmbfobcbnnalbaa", sum := "25ea2530e31fafbb47d2ad7589dfa0c506ae2084cce32b9bd0f70b50d81ca938", func := "loop.example/g01136/laws.FnExactSignOf", spec := "fnExactSignOf", unfollowed := true, recurses := true, plainKeys := false, apart := false, narrowed := true }
def FnExactSignOfUptoSaid : Prop := fnExactSignOfUptoRow.holds Try.pinned (OpenSpec.upto fnExactSignOfSpec)

/-- 'laws.FnExactRunOf', WHERE WHAT IT READS IS OF BULK AT MOST 1048576: true; the input reads as it did. -/
def fnExactRunOfUptoRow : OpenClaim := { program := "ytmbfobcbnnalbaa", sum := "25ea2530e31fafbb47d2ad7589dfa0c506ae2084cce32b9bd0f70b50d81ca938", func := "loop.example/g01136/laws.FnExactRunOf", spec := "fnExactRunOf", unfollowed := true, recurses := true, plainKeys := false, apart := false, narrowed := true }
def FnExactRunOfUptoSaid : Prop := fnExactRunOfUptoRow.holds Try.pinned (OpenSpec.upto fnExactRunOfSpec)

/-- 'laws.FnExactSignOfRun', WHERE WHAT IT READS IS OF BULK AT MOST 1048576: true; the input reads as it did. -/
def fnExactSignOfRunUptoRow : OpenClaim := { program := "ytmbfobcbnnalbaa", sum := "25ea2530e31fafbb47d2ad7589dfa0c506ae2084cce32b9bd0f70b50d81ca938", func := "loop.example/g01136/laws.FnExactSignOfRun", spec := "fnExactSignOfRun", unfollowed := true, recurses := true, plainKeys := false, apart := false, narrowed := true }
def FnExactSignOfRunUptoSaid : Prop := fnExactSignOfRunUptoRow.holds Try.pinned (OpenSpec.upto fnExactSignOfRunSpec)

/-- 'laws.FnExactHooksDivisible', WHERE WHAT IT READS IS OF BULK AT MOST 1048576: true; the input reads as it did. -/
def fnExactHooksDivisibleUptoRow : OpenClaim := { program := "ytmbfobcbnnalbaa", sum := "25ea2530e31fafbb47d2ad7589dfa0c506ae2084cce32b9bd0f70b50d81ca938", func := "loop.example/g01136/laws.FnExactHooksDivisible", spec := "fnExactHooksDivisible", unfollowed := true, recurses := true, plainKeys := false, apart := false, narrowed := true }
def FnExactHooksDivisibleUptoSaid : Prop := fnExactHooksDivisibleUptoRow.holds Try.pinned (OpenSpec.upto fnExactHooksDivisibleSpec)

/-- 'laws.FnExactCoreByWord', WHERE WHAT IT READS IS OF BULK AT MOST 1048576: true; the input reads as it did. -/
def fnExactCoreByWordUptoRow : OpenClaim := { program := "ytmbfobcbnnalbaa", sum := "25ea2530e31fafbb47d2ad7589dfa0c506ae2084cce32b9bd0f70b50d81ca938", func := "loop.example/g01136/laws.FnExactCoreByWord", spec := "fnExactCoreByWord", unfollowed := true, recurses := true, plainKeys := false, apart := false, narrowed := true }
def FnExactCoreByWordUptoSaid : Prop := fnExactCoreByWordUptoRow.holds Try.pinned (OpenSpec.upto fnExactCoreByWordSpec)

/-- 'laws.FnExactCoreWord', WHERE WHAT IT READS IS OF BULK AT MOST 1048576: true; the input reads as it did. -/
def fnExactCoreWordUptoRow : OpenClaim := { program := "ytmbfobcbnnalbaa", sum := "25ea2530e31fafbb47d2ad7589dfa0c506ae2084cce32b9bd0f70b50d81ca938", func := "loop.example/g01136/laws.FnExactCoreWord", spec := "fnExactCoreWord", unfollowed := true, recurses := true, plainKeys := false, apart := false, narrowed := true }
def FnExactCoreWordUptoSaid : Prop := fnExactCoreWordUptoRow.holds Try.pinned (OpenSpec.upto fnExactCoreWordSpec)

/-- 'laws.FnExactFromCore', WHERE WHAT IT READS IS OF BULK AT MOST 1048576: true; the input reads as it did. -/
def fnExactFromCoreUptoRow : OpenClaim := { program := "ytmbfobcbnnalbaa", sum := "25ea2530e31fafbb47d2ad7589dfa0c506ae2084cce32b9bd0f70b50d81ca938", func := "loop.example/g01136/laws.FnExactFromCore", spec := "fnExactFromCore", unfollowed := true, recurses := true, plainKeys := false, apart := false, narrowed := true }
def FnExactFromCoreUptoSaid : Prop := fnExactFromCoreUptoRow.holds Try.pinned (OpenSpec.upto fnExactFromCoreSpec)

/-- 'laws.FnExactAddedRims', WHERE WHAT IT READS IS OF BULK AT MOST 1048576: true; the input reads as it did. -/
def fnExactAddedRimsUptoRow : OpenClaim := { program := "ytmbfobcbnnalbaa", sum := "25ea2530e31fafbb47d2ad7589dfa0c506ae2084cce32b9bd0f70b50d81ca938", func := "loop.example/g01136/laws.FnExactAddedRims", spec := "fnExactAddedRims", unfollowed := true, recurses := true, plainKeys := false, apart := false, narrowed := true }
def FnExactAddedRimsUptoSaid : Prop := fnExactAddedRimsUptoRow.holds Try.pinned (OpenSpec.upto fnExactAddedRimsSpec)

/-- 'laws.FnExactBlockOf', WHERE WHAT IT READS IS OF BULK AT MOST 1048576: true; the input reads as it did. -/
def fnExactBlockOfUptoRow : OpenClaim := { program := "ytmbfobcbnnalbaa", sum := "25ea2530e31fafbb47d2ad7589dfa0c506ae2084cce32b9bd0f70b50d81ca938", func := "loop.example/g01136/laws.FnExactBlockOf", spec := "fnExactBlockOf", unfollowed := true, recurses := true, plainKeys := false, apart := false, narrowed := true }
def FnExactBlockOfUptoSaid : Prop := fnExactBlockOfUptoRow.holds Try.pinned (OpenSpec.upto fnExactBlockOfSpec)

/-- 'laws.FnExactCountRuns', WHERE WHAT IT READS IS OF BULK AT MOST 1048576: true; the input reads as it did. -/
def fnExactCountRunsUptoRow : OpenClaim := { program := "ytmbfobcbnnalbaa", sum := "25ea2530e31fafbb47d2ad7589dfa0c506ae2084cce32b9bd0f70b50d81ca938", func := "loop.example/g01136/laws.FnExactCountRuns", spec := "fnExactCountRuns", unfollowed := true, recurses := true, plainKeys := false, apart := false, narrowed := true }
def FnExactCountRunsUptoSaid : Prop := fnExactCountRunsUptoRow.holds Try.pinned (OpenSpec.upto fnExactCountRunsSpec)

end Rows
end Go.Proofs.Ytmbfobcbnnalbaa
