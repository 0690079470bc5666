/-
  No cell of these rows narrows 'for every input' (looked for: loops, veiled, ifaces, maps, wideKeys, modest, calm, conditions, laid).
  DERIVED. THE GIVEN ROWS OF THIS SEAT. 17 by the template 'for every input the law returns true; each argument reads behind the call as it read before'; 0 by the template 'total and deterministic' (their statements: YtkdkocpgaalmeaaTotals.lean).
  GIVEN WITH THE SEED: the statements are not yours to turn. If you find one false, say at which input.
  Laid BY PROGRAM, IN A SANDBOX (cutbox-rows.mjs): the forced cells as the released guide's own fill.sh prints them over the translation 34eacecbdce8f225… (all of the seat's roots in one cut). By AI agents, Wed Nov 11 2026. No macro, syntax, notation, axiom, sorry.
-/
import Derived.Test.YtkdkocpgaalmeaaChecked
import GoSem.Claim
import GoSem.ClaimJoined
import GoSem.ClaimMapViews
import Derived.JoinedTies
import Derived.KernelRfl
namespace Go.Proofs.Ytkdkocpgaalmeaa
/- THE CELL 'sum', in the pinned program and in every row, IS THE sha256 OF THE DUMP (.gsa) THAT YtkdkocpgaalmeaaProg.lean LOADS. Nothing in Lean hashes anything: it is a label: what it is worth is what the hold of that sum in a sandbox is worth. -/
noncomputable def Try.pinned : Pinned := { name := "ytkdkocpgaalmeaa", sum := "34eacecbdce8f225b30583a90569e0f03aa7faa842d0aba93f5b3420cf969d3b", checked := Try.checked }
namespace Rows
def none {H : Type} : Left H := { results := [], args := [] }

/-- 'laws.FnExactAddedRims': WHATEVER THE INPUT: true; the input reads as it did. -/
def fnExactAddedRimsSpec : ChangeSpec := { name := "fnExactAddedRims", fn := fun _ => fun
  | [d1, d2] => { results := [.lit (.bool true)], args := [d1, d2] }
  | _ => none }
def fnExactAddedRimsRow : OpenClaim := { program := "ytkdkocpgaalmeaa", sum := "34eacecbdce8f225b30583a90569e0f03aa7faa842d0aba93f5b3420cf969d3b", func := "loop.example/g01136/laws.FnExactAddedRims", spec := "fnExactAddedRims", unfollowed := true, recurses := true, apart := false }
def FnExactAddedRimsSaid : Prop := fnExactAddedRimsRow.holds Try.pinned (OpenSpec.ofChange fnExactAddedRimsSpec)

/-- ITS FALSE NEIGHBOUR: 'it returns false'. Refute it at one input. -/
def fnExactAddedRimsWrong : ChangeSpec := { name := "fnExactAddedRims", fn := fun _ => fun
  | [d1, d2] => { results := [.lit (.bool false)], args := [d1, d2] }
  | _ => none }
def FnExactAddedRimsWrongFalsely : Prop := fnExactAddedRimsRow.holds Try.pinned (OpenSpec.ofChange fnExactAddedRimsWrong)

/-- 'laws.FnExactFromCore': WHATEVER THE INPUT: true; the input reads as it did. -/
def fnExactFromCoreSpec : ChangeSpec := { name := "fnExactFromCore", fn := fun _ => fun
  | [d1, d2] => { results := [.lit (.bool true)], args := [d1, d2] }
  | _ => none }
def fnExactFromCoreRow : OpenClaim := { program := "ytkdkocpgaalmeaa", sum := "34eacecbdce8f225b30583a90569e0f03aa7faa842d0aba93f5b3420cf969d3b", func := "loop.example/g01136/laws.FnExactFromCore", spec := "fnExactFromCore", unfollowed := true, recurses := true, apart := false }
def FnExactFromCoreSaid : Prop := fnExactFromCoreRow.holds Try.pinned (OpenSpec.ofChange fnExactFromCoreSpec)

/-- ITS FALSE NEIGHBOUR: 'it returns false'. Refute it at one input. -/
def fnExactFromCoreWrong : ChangeSpec := { name := "fnExactFromCore", fn := fun _ => fun
  | [d1, d2] => { results := [.lit (.bool false)], args := [d1, d2] }
  | _ => none }
def FnExactFromCoreWrongFalsely : Prop := fnExactFromCoreRow.holds Try.pinned (OpenSpec.ofChange fnExactFromCoreWrong)

/-- 'laws.FnExactCountRuns': WHATEVER THE INPUT: true; the input reads as it did. -/
def fnExactCountRunsSpec : ChangeSpec := { name := "fnExactCountRuns", fn := fun _ => fun
  | [d1, d2] => { results := [.lit (.bool true)], args := [d1, d2] }
  | _ => none }
def fnExactCountRunsRow : OpenClaim := { program := "ytkdkocpgaalmeaa", sum := "34eacecbdce8f225b30583a90569e0f03aa7faa842d0aba93f5b3420cf969d3b", func := "loop.example/g01136/laws.FnExactCountRuns", spec := "fnExactCountRuns", unfollowed := true, recurses := true, apart := false }
def FnExactCountRunsSaid : Prop := fnExactCountRunsRow.holds Try.pinned (OpenSpec.ofChange fnExactCountRunsSpec)

/-- ITS FALSE NEIGHBOUR: 'it returns false'. Refute it at one input. -/
def fnExactCountRunsWrong : ChangeSpec := { name := "fnExactCountRuns", fn := fun _ => fun
  | [d1, d2] => { results := [.lit (.bool false)], args := [d1, d2] }
  | _ => none }
def FnExactCountRunsWrongFalsely : Prop := fnExactCountRunsRow.holds Try.pinned (OpenSpec.ofChange fnExactCountRunsWrong)

/-- 'laws.FnExactBlockOf': WHATEVER THE INPUT: true; the input reads as it did. -/
def fnExactBlockOfSpec : ChangeSpec := { name := "fnExactBlockOf", fn := fun _ => fun
  | [d1, d2, d3] => { results := [.lit (.bool true)], args := [d1, d2, d3] }
  | _ => none }
def fnExactBlockOfRow : OpenClaim := { program := "ytkdkocpgaalmeaa", sum := "34eacecbdce8f225b30583a90569e0f03aa7faa842d0aba93f5b3420cf969d3b", func := "loop.example/g01136/laws.FnExactBlockOf", spec := "fnExactBlockOf", unfollowed := true, recurses := true, apart := false }
def FnExactBlockOfSaid : Prop := fnExactBlockOfRow.holds Try.pinned (OpenSpec.ofChange fnExactBlockOfSpec)

/-- ITS FALSE NEIGHBOUR: 'it returns false'. Refute it at one input. -/
def fnExactBlockOfWrong : ChangeSpec := { name := "fnExactBlockOf", fn := fun _ => fun
  | [d1, d2, d3] => { results := [.lit (.bool false)], args := [d1, d2, d3] }
  | _ => none }
def FnExactBlockOfWrongFalsely : Prop := fnExactBlockOfRow.holds Try.pinned (OpenSpec.ofChange fnExactBlockOfWrong)

/-- 'laws.FnExactPentagonalAt': WHATEVER THE INPUT: true; the input reads as it did. -/
def fnExactPentagonalAtSpec : ChangeSpec := { name := "fnExactPentagonalAt", fn := fun _ => fun
  | [d] => { results := [.lit (.bool true)], args := [d] }
  | _ => none }
def fnExactPentagonalAtRow : OpenClaim := { program := "ytkdkocpgaalmeaa", sum := "34eacecbdce8f225b30583a90569e0f03aa7faa842d0aba93f5b3420cf969d3b", func := "loop.example/g01136/laws.FnExactPentagonalAt", spec := "fnExactPentagonalAt", apart := false }
def FnExactPentagonalAtSaid : Prop := fnExactPentagonalAtRow.holds Try.pinned (OpenSpec.ofChange fnExactPentagonalAtSpec)

/-- ITS FALSE NEIGHBOUR: 'it returns false'. Refute it at one input. -/
def fnExactPentagonalAtWrong : ChangeSpec := { name := "fnExactPentagonalAt", fn := fun _ => fun
  | [d] => { results := [.lit (.bool false)], args := [d] }
  | _ => none }
def FnExactPentagonalAtWrongFalsely : Prop := fnExactPentagonalAtRow.holds Try.pinned (OpenSpec.ofChange fnExactPentagonalAtWrong)

/-- 'laws.FnExactPartitionNumber': WHATEVER THE INPUT: true; the input reads as it did. -/
def fnExactPartitionNumberSpec : ChangeSpec := { name := "fnExactPartitionNumber", fn := fun _ => fun
  | [d] => { results := [.lit (.bool true)], args := [d] }
  | _ => none }
def fnExactPartitionNumberRow : OpenClaim := { program := "ytkdkocpgaalmeaa", sum := "34eacecbdce8f225b30583a90569e0f03aa7faa842d0aba93f5b3420cf969d3b", func := "loop.example/g01136/laws.FnExactPartitionNumber", spec := "fnExactPartitionNumber", unfollowed := true, recurses := true, apart := false }
def FnExactPartitionNumberSaid : Prop := fnExactPartitionNumberRow.holds Try.pinned (OpenSpec.ofChange fnExactPartitionNumberSpec)

/-- ITS FALSE NEIGHBOUR: 'it returns false'. Refute it at one input. -/
def fnExactPartitionNumberWrong : ChangeSpec := { name := "fnExactPartitionNumber", fn := fun _ => fun
  | [d] => { results := [.lit (.bool false)], args := [d] }
  | _ => none }
def FnExactPartitionNumberWrongFalsely : Prop := fnExactPartitionNumberRow.holds Try.pinned (OpenSpec.ofChange fnExactPartitionNumberWrong)

/-- 'laws.FnExactPartitionNumbers': WHATEVER THE INPUT: true; the input reads as it did. -/
def fnExactPartitionNumbersSpec : ChangeSpec := { name := "fnExactPartitionNumbers", fn := fun _ => fun
  | [d] => { results := [.lit (.bool true)], args := [d] }
  | _ => none }
def fnExactPartitionNumbersRow : OpenClaim := { program := "ytkdkocpgaalmeaa", sum := "34eacecbdce8f225b30583a90569e0f03aa7faa842d0aba93f5b3420cf969d3b", func := "loop.example/g01136/laws.FnExactPartitionNumbers", spec := "fnExactPartitionNumbers", unfollowed := true, recurses := true, apart := false }
def FnExactPartitionNumbersSaid : Prop := fnExactPartitionNumbersRow.holds Try.pinned (OpenSpec.ofChange fnExactPartitionNumbersSpec)

/-- ITS FALSE NEIGHBOUR: 'it returns false'. Refute it at one input. -/
def fnExactPartitionNumbersWrong : ChangeSpec := { name := "fnExactPartitionNumbers", fn := fun _ => fun
  | [d] => { results := [.lit (.bool false)], args := [d] }
  | _ => none }
def FnExactPartitionNumbersWrongFalsely : Prop := fnExactPartitionNumbersRow.holds Try.pinned (OpenSpec.ofChange fnExactPartitionNumbersWrong)

/-- 'laws.FnExactDifferentNumber': WHATEVER THE INPUT: true; the input reads as it did. -/
def fnExactDifferentNumberSpec : ChangeSpec := { name := "fnExactDifferentNumber", fn := fun _ => fun
  | [d] => { results := [.lit (.bool true)], args := [d] }
  | _ => none }
def fnExactDifferentNumberRow : OpenClaim := { program := "ytkdkocpgaalmeaa", sum := "34eacecbdce8f225b30583a90569e0f03aa7faa842d0aba93f5b3420cf969d3b", func := "loop.example/g01136/laws.FnExactDifferentNumber", spec := "fnExactDifferentNumber", apart := false }
def FnExactDifferentNumberSaid : Prop := fnExactDifferentNumberRow.holds Try.pinned (OpenSpec.ofChange fnExactDifferentNumberSpec)

/-- ITS FALSE NEIGHBOUR: 'it returns false'. Refute it at one input. -/
def fnExactDifferentNumberWrong : ChangeSpec := { name := "fnExactDifferentNumber", fn := fun _ => fun
  | [d] => { results := [.lit (.bool false)], args := [d] }
  | _ => none }
def FnExactDifferentNumberWrongFalsely : Prop := fnExactDifferentNumberRow.holds Try.pinned (OpenSpec.ofChange fnExactDifferentNumberWrong)

/-- 'laws.FnExactOddNumber': WHATEVER THE INPUT: true; the input reads as it did. -/
def fnExactOddNumberSpec : ChangeSpec := { name := "fnExactOddNumber", fn := fun _ => fun
  | [d] => { results := [.lit (.bool true)], args := [d] }
  | _ => none }
def fnExactOddNumberRow : OpenClaim := { program := "ytkdkocpgaalmeaa", sum := "34eacecbdce8f225b30583a90569e0f03aa7faa842d0aba93f5b3420cf969d3b", func := "loop.example/g01136/laws.FnExactOddNumber", spec := "fnExactOddNumber", apart := false }
def FnExactOddNumberSaid : Prop := fnExactOddNumberRow.holds Try.pinned (OpenSpec.ofChange fnExactOddNumberSpec)

/-- ITS FALSE NEIGHBOUR: 'it returns false'. Refute it at one input. -/
def fnExactOddNumberWrong : ChangeSpec := { name := "fnExactOddNumber", fn := fun _ => fun
  | [d] => { results := [.lit (.bool false)], args := [d] }
  | _ => none }
def FnExactOddNumberWrongFalsely : Prop := fnExactOddNumberRow.holds Try.pinned (OpenSpec.ofChange fnExactOddNumberWrong)

/-- 'laws.FnExactPairOf': WHATEVER THE INPUT: true; the input reads as it did. -/
def fnExactPairOfSpec : ChangeSpec := { name := "fnExactPairOf", fn := fun _ => fun
  | [d] => { results := [.lit (.bool true)], args := [d] }
  | _ => none }
def fnExactPairOfRow : OpenClaim := { program := "ytkdkocpgaalmeaa", sum := "34eacecbdce8f225b30583a90569e0f03aa7faa842d0aba93f5b3420cf969d3b", func := "loop.example/g01136/laws.FnExactPairOf", spec := "fnExactPairOf", unfollowed := true, recurses := true, apart := false }
def FnExactPairOfSaid : Prop := fnExactPairOfRow.holds Try.pinned (OpenSpec.ofChange fnExactPairOfSpec)

/-- ITS FALSE NEIGHBOUR: 'it returns false'. Refute it at one input. -/
def fnExactPairOfWrong : ChangeSpec := { name := "fnExactPairOf", fn := fun _ => fun
  | [d] => { results := [.lit (.bool false)], args := [d] }
  | _ => none }
def FnExactPairOfWrongFalsely : Prop := fnExactPairOfRow.holds Try.pinned (OpenSpec.ofChange fnExactPairOfWrong)

/-- 'laws.FnExactSignedNumber': WHATEVER THE INPUT: true; the input reads as it did. -/
def fnExactSignedNumberSpec : ChangeSpec := { name := "fnExactSignedNumber", fn := fun _ => fun
  | [d] => { results := [.lit (.bool true)], args := [d] }
  | _ => none }
def fnExactSignedNumberRow : OpenClaim := { program := "ytkdkocpgaalmeaa", sum := "34eacecbdce8f225b30583a90569e0f03aa7faa842d0aba93f5b3420cf969d3b", func := "loop.example/g01136/laws.FnExactSignedNumber", spec := "fnExactSignedNumber", unfollowed := true, recurses := true, apart := false }
def FnExactSignedNumberSaid : Prop := fnExactSignedNumberRow.holds Try.pinned (OpenSpec.ofChange fnExactSignedNumberSpec)

/-- ITS FALSE NEIGHBOUR: 'it returns false'. Refute it at one input. -/
def fnExactSignedNumberWrong : ChangeSpec := { name := "fnExactSignedNumber", fn := fun _ => fun
  | [d] => { results := [.lit (.bool false)], args := [d] }
  | _ => none }
def FnExactSignedNumberWrongFalsely : Prop := fnExactSignedNumberRow.holds Try.pinned (OpenSpec.ofChange fnExactSignedNumberWrong)

/-- 'laws.FnExactSquareOf': WHATEVER THE INPUT: true; the input reads as it did. -/
def fnExactSquareOfSpec : ChangeSpec := { name := "fnExactSquareOf", fn := fun _ => fun
  | [d] => { results := [.lit (.bool true)], args := [d] }
  | _ => none }
def fnExactSquareOfRow : OpenClaim := { program := "ytkdkocpgaalmeaa", sum := "34eacecbdce8f225b30583a90569e0f03aa7faa842d0aba93f5b3420cf969d3b", func := "loop.example/g01136/laws.FnExactSquareOf", spec := "fnExactSquareOf", unfollowed := true, recurses := true, apart := false }
def FnExactSquareOfSaid : Prop := fnExactSquareOfRow.holds Try.pinned (OpenSpec.ofChange fnExactSquareOfSpec)

/-- ITS FALSE NEIGHBOUR: 'it returns false'. Refute it at one input. -/
def fnExactSquareOfWrong : ChangeSpec := { name := "fnExactSquareOf", fn := fun _ => fun
  | [d] => { results := [.lit (.bool false)], args := [d] }
  | _ => none }
def FnExactSquareOfWrongFalsely : Prop := fnExactSquareOfRow.holds Try.pinned (OpenSpec.ofChange fnExactSquareOfWrong)

/-- 'laws.FnExactRankOf': WHATEVER THE INPUT: true; the input reads as it did. -/
def fnExactRankOfSpec : ChangeSpec := { name := "fnExactRankOf", fn := fun _ => fun
  | [d] => { results := [.lit (.bool true)], args := [d] }
  | _ => none }
def fnExactRankOfRow : OpenClaim := { program := "ytkdkocpgaalmeaa", sum := "34eacecbdce8f225b30583a90569e0f03aa7faa842d0aba93f5b3420cf969d3b", func := "loop.example/g01136/laws.FnExactRankOf", spec := "fnExactRankOf", unfollowed := true, recurses := true, apart := false }
def FnExactRankOfSaid : Prop := fnExactRankOfRow.holds Try.pinned (OpenSpec.ofChange fnExactRankOfSpec)

/-- ITS FALSE NEIGHBOUR: 'it returns false'. Refute it at one input. -/
def fnExactRankOfWrong : ChangeSpec := { name := "fnExactRankOf", fn := fun _ => fun
  | [d] => { results := [.lit (.bool false)], args := [d] }
  | _ => none }
def FnExactRankOfWrongFalsely : Prop := fnExactRankOfRow.holds Try.pinned (OpenSpec.ofChange fnExactRankOfWrong)

/-- 'laws.FnExactCrankOf': WHATEVER THE INPUT: true; the input reads as it did. -/
def fnExactCrankOfSpec : ChangeSpec := { name := "fnExactCrankOf", fn := fun _ => fun
  | [d] => { results := [.lit (.bool true)], args := [d] }
  | _ => none }
def fnExactCrankOfRow : OpenClaim := { program := "ytkdkocpgaalmeaa", sum := "34eacecbdce8f225b30583a90569e0f03aa7faa842d0aba93f5b3420cf969d3b", func := "loop.example/g01136/laws.FnExactCrankOf", spec := "fnExactCrankOf", unfollowed := true, recurses := true, apart := false }
def FnExactCrankOfSaid : Prop := fnExactCrankOfRow.holds Try.pinned (OpenSpec.ofChange fnExactCrankOfSpec)

/-- ITS FALSE NEIGHBOUR: 'it returns false'. Refute it at one input. -/
def fnExactCrankOfWrong : ChangeSpec := { name := "fnExactCrankOf", fn := fun _ => fun
  | [d] => { results := [.lit (.bool false)], args := [d] }
  | _ => none }
def FnExactCrankOfWrongFalsely : Prop := fnExactCrankOfRow.holds Try.pinned (OpenSpec.ofChange fnExactCrankOfWrong)

/-- 'laws.FnExactRankSpread': WHATEVER THE INPUT: true; the input reads as it did. -/
def fnExactRankSpreadSpec : ChangeSpec := { name := "fnExactRankSpread", fn := fun _ => fun
  | [d1, d2] => { results := [.lit (.bool true)], args := [d1, d2] }
  | _ => none }
def fnExactRankSpreadRow : OpenClaim := { program := "ytkdkocpgaalmeaa", sum := "34eacecbdce8f225b30583a90569e0f03aa7faa842d0aba93f5b3420cf969d3b", func := "loop.example/g01136/laws.FnExactRankSpread", spec := "fnExactRankSpread", unfollowed := true, recurses := true, apart := false }
def FnExactRankSpreadSaid : Prop := fnExactRankSpreadRow.holds Try.pinned (OpenSpec.ofChange fnExactRankSpreadSpec)

/-- ITS FALSE NEIGHBOUR: 'it returns false'. Refute it at one input. -/
def fnExactRankSpreadWrong : ChangeSpec := { name := "fnExactRankSpread", fn := fun _ => fun
  | [d1, d2] => { results := [.lit (.bool false)], args := [d1, d2] }
  | _ => none }
def FnExactRankSpreadWrongFalsely : Prop := fnExactRankSpreadRow.holds Try.pinned (OpenSpec.ofChange fnExactRankSpreadWrong)

/-- 'laws.FnExactCrankSpread': WHATEVER THE INPUT: true; the input reads as it did. -/
def fnExactCrankSpreadSpec : ChangeSpec := { name := "fnExactCrankSpread", fn := fun _ => fun
  | [d1, d2] => { results := [.lit (.bool true)], args := [d1, d2] }
  | _ => none }
def fnExactCrankSpreadRow : OpenClaim := { program := "ytkdkocpgaalmeaa", sum := "34eacecbdce8f225b30583a90569e0f03aa7faa842d0aba93f5b3420cf969d3b", func := "loop.example/g01136/laws.FnExactCrankSpread", spec := "fnExactCrankSpread", unfollowed := true, recurses := true, apart := false }
def FnExactCrankSpreadSaid : Prop := fnExactCrankSpreadRow.holds Try.pinned (OpenSpec.ofChange fnExactCrankSpreadSpec)

/-- ITS FALSE NEIGHBOUR: 'it returns false'. Refute it at one input. -/
def fnExactCrankSpreadWrong : ChangeSpec := { name := "fnExactCrankSpread", fn := fun _ => fun
  | [d1, d2] => { results := [.lit (.bool false)], args := [d1, d2] }
  | _ => none }
def FnExactCrankSpreadWrongFalsely : Prop := fnExactCrankSpreadRow.holds Try.pinned (OpenSpec.ofChange fnExactCrankSpreadWrong)

/-- 'laws.FnExactRankCountAt': WHATEVER THE INPUT: true; the input reads as it did. -/
def fnExactRankCountAtSpec : ChangeSpec := { name := "fnExactRankCountAt", fn := fun _ => fun
  | [d1, d2] => { results := [.lit (.bool true)], args := [d1, d2] }
  | _ => none }
def fnExactRankCountAtRow : OpenClaim := { program := "ytkdkocpgaalmeaa", sum := "34eacecbdce8f225b30583a90569e0f03aa7faa842d0aba93f5b3420cf969d3b", func := "loop.example/g01136/laws.FnExactRankCountAt", spec := "fnExactRankCountAt", unfollowed := true, recurses := true, apart := false }
def FnExactRankCountAtSaid : Prop := fnExactRankCountAtRow.holds Try.pinned (OpenSpec.ofChange fnExactRankCountAtSpec)

/-- ITS FALSE NEIGHBOUR: 'it returns false'. Refute it at one input. -/
def fnExactRankCountAtWrong : ChangeSpec := { name := "fnExactRankCountAt", fn := fun _ => fun
  | [d1, d2] => { results := [.lit (.bool false)], args := [d1, d2] }
  | _ => none }
def FnExactRankCountAtWrongFalsely : Prop := fnExactRankCountAtRow.holds Try.pinned (OpenSpec.ofChange fnExactRankCountAtWrong)

/- THE SECOND FORM. 'bulk': how many values and letters a reading holds, each counted each time it is reached (what is shared counts as often as it is met; a slice's spare places count too). A statement '..UptoSaid' is the law's where the arguments, and the package variables that the reading takes, are together of bulk at most 1048576: NARROWER than '..Said'. Prove '..Said' where nothing that the law and all that it calls make is longer than what came in: it says more and counts as full. Else prove '..UptoSaid'. A law counts once. -/
mutual
def uptoBulk {H : Type} : DataW H → Nat
  | .lit (.string bytes) => bytes.length + 1
  | .lit _ => 1
  | .nil => 1
  | .ptr d => uptoBulk d + 1
  | .slice elems spare => uptoBulkAll elems + uptoBulkAll spare + 1
  | .agg parts => uptoBulkAll parts + 1
  | .iface _ d => uptoBulk d + 1
  | .map entries => uptoBulkEntries entries + 1
  | .held _ => 1
def uptoBulkAll {H : Type} : List (DataW H) → Nat
  | [] => 0
  | d :: r => uptoBulk d + uptoBulkAll r
def uptoBulkEntries {H : Type} : List (Lit × DataW H) → Nat
  | [] => 0
  | x :: r => uptoBulkEntry x + uptoBulkEntries r
def uptoBulkEntry {H : Type} : Lit × DataW H → Nat
  | (.string bytes, d) => bytes.length + uptoBulk d + 1
  | (_, d) => uptoBulk d + 1
 end
def uptoSmall : (H : Type) → List (DataW H) → Bool := fun _ ds => decide (uptoBulkAll ds ≤ 1048576)
def OpenSpec.upto (s : _root_.Go.ChangeSpec) : _root_.Go.OpenSpec := { _root_.Go.OpenSpec.ofChange s with cond := some uptoSmall }

/-- 'laws.FnExactAddedRims', WHERE WHAT IT READS IS OF BULK AT MOST 1048576: true; the input reads as it did. -/
def fnExactAddedRimsUptoRow : OpenClaim := { program := "ytkdkocpgaalmeaa", sum := "34eacecbdce8f225b30583a90569e0f03aa7faa842d0aba93f5b3420cf969d3b", func := "loop.example/g01136/laws.FnExactAddedRims", spec := "fnExactAddedRims", unfollowed := true, recurses := true, apart := false, narrowed := true }
def FnExactAddedRimsUptoSaid : Prop := fnExactAddedRimsUptoRow.holds Try.pinned (OpenSpec.upto fnExactAddedRimsSpec)

/-- 'laws.FnExactFromCore', WHERE WHAT IT READS IS OF BULK AT MOST 1048576: true; the input reads as it did. -/
def fnExactFromCoreUptoRow : OpenClaim := { program := "ytkdkocpgaalmeaa", sum := "34eacecbdce8f225b30583a90569e0f03aa7faa842d0aba93f5b3420cf969d3b", func := "loop.example/g01136/laws.FnExactFromCore", spec := "fnExactFromCore", unfollowed := true, recurses := true, apart := false, narrowed := true }
def FnExactFromCoreUptoSaid : Prop := fnExactFromCoreUptoRow.holds Try.pinned (OpenSpec.upto fnExactFromCoreSpec)

/-- 'laws.FnExactCountRuns', WHERE WHAT IT READS IS OF BULK AT MOST 1048576: true; the input reads as it did. -/
def fnExactCountRunsUptoRow : OpenClaim := { program := "ytkdkocpgaalmeaa", sum := "34eacecbdce8f225b30583a90569e0f03aa7faa842d0aba93f5b3420cf969d3b", func := "loop.example/g01136/laws.FnExactCountRuns", spec := "fnExactCountRuns", unfollowed := true, recurses := true, apart := false, narrowed := true }
def FnExactCountRunsUptoSaid : Prop := fnExactCountRunsUptoRow.holds Try.pinned (OpenSpec.upto fnExactCountRunsSpec)

/-- 'laws.FnExactBlockOf', WHERE WHAT IT READS IS OF BULK AT MOST 1048576: true; the input reads as it did. -/
def fnExactBlockOfUptoRow : OpenClaim := { program := "ytkdkocpgaalmeaa", sum := "34eacecbdce8f225b30583a90569e0f03aa7faa842d0aba93f5b3420cf969d3b", func := "loop.example/g01136/laws.FnExactBlockOf", spec := "fnExactBlockOf", unfollowed := true, recurses := true, apart := false, narrowed := true }
def FnExactBlockOfUptoSaid : Prop := fnExactBlockOfUptoRow.holds Try.pinned (OpenSpec.upto fnExactBlockOfSpec)

/-- 'laws.FnExactPentagonalAt', WHERE WHAT IT READS IS OF BULK AT MOST 1048576: true; the input reads as it did. -/
def fnExactPentagonalAtUptoRow : OpenClaim := { program := "ytkdkocpgaalmeaa", sum := "34eacecbdce8f225b30583a90569e0f03aa7faa842d0aba93f5b3420cf969d3b", func := "loop.example/g01136/laws.FnExactPentagonalAt", spec := "fnExactPentagonalAt", apart := false, narrowed := true }
def FnExactPentagonalAtUptoSaid : Prop := fnExactPentagonalAtUptoRow.holds Try.pinned (OpenSpec.upto fnExactPentagonalAtSpec)

/-- 'laws.FnExactPartitionNumber', WHERE WHAT IT READS IS OF BULK AT MOST 1048576: true; the input reads as it did. -/
def fnExactPartitionNumberUptoRow : OpenClaim := { program := "ytkdkocpgaalmeaa", sum := "34eacecbdce8f225b30583a90569e0f03aa7faa842d0aba93f5b3420cf969d3b", func := "loop.example/g01136/laws.FnExactPartitionNumber", spec := "fnExactPartitionNumber", unfollowed := true, recurses := true, apart := false, narrowed := true }
def FnExactPartitionNumberUptoSaid : Prop := fnExactPartitionNumberUptoRow.holds Try.pinned (OpenSpec.upto fnExactPartitionNumberSpec)

/-- 'laws.FnExactPartitionNumbers', WHERE WHAT IT READS IS OF BULK AT MOST 1048576: true; the input reads as it did. -/
def fnExactPartitionNumbersUptoRow : OpenClaim := { program := "ytkdkocpgaalmeaa", sum := "34eacecbdce8f225b30583a90569e0f03aa7faa842d0aba93f5b3420cf969d3b", func := "loop.example/g01136/laws.FnExactPartitionNumbers", spec := "fnExactPartitionNumbers", unfollowed := true, recurses := true, apart := false, narrowed := true }
def FnExactPartitionNumbersUptoSaid : Prop := fnExactPartitionNumbersUptoRow.holds Try.pinned (OpenSpec.upto fnExactPartitionNumbersSpec)

/-- 'laws.FnExactDifferentNumber', WHERE WHAT IT READS IS OF BULK AT MOST 1048576: true; the input reads as it did. -/
def fnExactDifferentNumberUptoRow : OpenClaim := { program := "ytkdkocpgaalmeaa", sum := "34eacecbdce8f225b30583a90569e0f03aa7faa842d0aba93f5b3420cf969d3b", func := "loop.example/g01136/laws.FnExactDifferentNumber", spec := "fnExactDifferentNumber", apart := false, narrowed := true }
def FnExactDifferentNumberUptoSaid : Prop := fnExactDifferentNumberUptoRow.holds Try.pinned (OpenSpec.upto fnExactDifferentNumberSpec)

/-- 'laws.FnExactOddNumber', WHERE WHAT IT READS IS OF BULK AT MOST 1048576: true; the input reads as it did. -/
def fnExactOddNumberUptoRow : OpenClaim := { program := "ytkdkocpgaalmeaa", sum := "34eacecbdce8f225b30583a90569e0f03aa7faa842d0aba93f5b3420cf969d3b", func := "loop.example/g01136/laws.FnExactOddNumber", spec := "fnExactOddNumber", apart := false, narrowed := true }
def FnExactOddNumberUptoSaid : Prop := fnExactOddNumberUptoRow.holds Try.pinned (OpenSpec.upto fnExactOddNumberSpec)

/-- 'laws.FnExactPairOf', WHERE WHAT IT READS IS OF BULK AT MOST 1048576: true; the input reads as it did. -/
def fnExactPairOfUptoRow : OpenClaim := { program := "ytkdkocpgaalmeaa", sum := "34eacecbdce8f225b30583a90569e0f03aa7faa842d0aba93f5b3420cf969d3b", func := "loop.example/g01136/laws.FnExactPairOf", spec := "fnExactPairOf", unfollowed := true, recurses := true, apart := false, narrowed := true }
def FnExactPairOfUptoSaid : Prop := fnExactPairOfUptoRow.holds Try.pinned (OpenSpec.upto fnExactPairOfSpec)

/-- 'laws.FnExactSignedNumber', WHERE WHAT IT READS IS OF BULK AT MOST 1048576: true; the input reads as it did. -/
def fnExactSignedNumberUptoRow : OpenClaim := { program := "ytkdkocpgaalmeaa", sum := "34eacecbdce8f225b30583a90569e0f03aa7faa842d0aba93f5b3420cf969d3b", func := "loop.example/g01136/laws.FnExactSignedNumber", spec := "fnExactSignedNumber", unfollowed := true, recurses := true, apart := false, narrowed := true }
def FnExactSignedNumberUptoSaid : Prop := fnExactSignedNumberUptoRow.holds Try.pinned (OpenSpec.upto fnExactSignedNumberSpec)

/-- 'laws.FnExactSquareOf', WHERE WHAT IT READS IS OF BULK AT MOST 1048576: true; the input reads as it did. -/
def fnExactSquareOfUptoRow : OpenClaim := { program := "ytkdkocpgaalmeaa", sum := "34eacecbdce8f225b30583a90569e0f03aa7faa842d0aba93f5b3420cf969d3b", func := "loop.example/g01136/laws.FnExactSquareOf", spec := "fnExactSquareOf", unfollowed := true, recurses := true, apart := false, narrowed := true }
def FnExactSquareOfUptoSaid : Prop := fnExactSquareOfUptoRow.holds Try.pinned (OpenSpec.upto fnExactSquareOfSpec)

/-- 'laws.FnExactRankOf', WHERE WHAT IT READS IS OF BULK AT MOST 1048576: true; the input reads as it did. -/
def fnExactRankOfUptoRow : OpenClaim := { program := "ytkdkocpgaalmeaa", sum := "34eacecbdce8f225b30583a90569e0f03aa7faa842d0aba93f5b3420cf969d3b", func := "loop.example/g01136/laws.FnExactRankOf", spec := "fnExactRankOf", unfollowed := true, recurses := true, apart := false, narrowed := true }
def FnExactRankOfUptoSaid : Prop := fnExactRankOfUptoRow.holds Try.pinned (OpenSpec.upto fnExactRankOfSpec)

/-- 'laws.FnExactCrankOf', WHERE WHAT IT READS IS OF BULK AT MOST 1048576: true; the input reads as it did. -/
def fnExactCrankOfUptoRow : OpenClaim := { program := "ytkdkocpgaalmeaa", sum := "34eacecbdce8f225b30583a90569e0f03aa7faa842d0aba93f5b3420cf969d3b", func := "loop.example/g01136/laws.FnExactCrankOf", spec := "fnExactCrankOf", unfollowed := true, recurses := true, apart := false, narrowed := true }
def FnExactCrankOfUptoSaid : Prop := fnExactCrankOfUptoRow.holds Try.pinned (OpenSpec.upto fnExactCrankOfSpec)

/-- 'laws.FnExactRankSpread', WHERE WHAT IT READS IS OF BULK AT MOST 1048576: true; the input reads as it did. -/
def fnExactRankSpreadUptoRow : OpenClaim := { program := "ytkdkocpgaalmeaa", sum := "34eacecbdce8f225b30583a90569e0f03aa7faa842d0aba93f5b3420cf969d3b", func := "loop.example/g01136/laws.FnExactRankSpread", spec := "fnExactRankSpread", unfollowed := true, recurses := true, apart := false, narrowed := true }
def FnExactRankSpreadUptoSaid : Prop := fnExactRankSpreadUptoRow.holds Try.pinned (OpenSpec.upto fnExactRankSpreadSpec)

/-- 'laws.FnExactCrankSpread', WHERE WHAT IT READS IS OF BULK AT MOST 1048576: true; the input reads as it did. -/
def fnExactCrankSpreadUptoRow : OpenClaim := { program := "ytkdkocpgaalmeaa", sum := "34eacecbdce8f225b30583a90569e0f03aa7faa842d0aba93f5b3420cf969d3b", func := "loop.example/g01136/laws.FnExactCrankSpread", spec := "fnExactCrankSpread", unfollowed := true, recurses := true, apart := false, narrowed := true }
def FnExactCrankSpreadUptoSaid : Prop := fnExactCrankSpreadUptoRow.holds Try.pinned (OpenSpec.upto fnExactCrankSpreadSpec)

/-- 'laws.FnExactRankCountAt', WHERE WHAT IT READS IS OF BULK AT MOST 1048576: true; the input reads as it did. -/
def fnExactRankCountAtUptoRow : OpenClaim := { program := "ytkdkocpgaalmeaa", sum := "34eacecbdce8f225b30583a90569e0f03aa7faa842d0aba93f5b3420cf969d3b", func := "loop.example/g01136/laws.FnExactRankCountAt", spec := "fnExactRankCountAt", unfollowed := true, recurses := true, apart := false, narrowed := true }
def FnExactRankCountAtUptoSaid : Prop := fnExactRankCountAtUptoRow.holds Try.pinned (OpenSpec.upto fnExactRankCountAtSpec)

end Rows
end Go.Proofs.Ytkdkocpgaalmeaa
