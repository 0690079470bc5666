/-
  No cell of these rows narrows 'for every input' (looked for: loops, veiled, ifaces, maps, wideKeys, modest, calm, conditions, laid).
  DERIVED. THE GIVEN ROWS OF THIS SEAT. 6 by the template 'for every input the law returns true; each argument reads behind the call as it read before'; 0 by the template 'total and deterministic' (their statements: YtbkcefpefgklpaaTotals.lean).
  GIVEN WITH THE SEED: the statements are not yours to turn. If you find one false, say at which input.
  Laid BY PROGRAM, IN A SANDBOX (cutbox-rows.mjs): the forced cells as the released guide's own fill.sh prints them over the translation ee0847164f147ad4… (all of the seat's roots in one cut). By AI agents, Wed Nov 11 2026. No macro, syntax, notation, axiom, sorry.
-/
import Derived.Test.YtbkcefpefgklpaaChecked
import GoSem.Claim
import GoSem.ClaimJoined
import GoSem.ClaimMapViews
import Derived.JoinedTies
import Derived.KernelRfl
namespace Go.Proofs.Ytbkcefpefgklpaa
/- THE CELL 'sum', in the pinned program and in every row, IS THE sha256 OF THE DUMP (.gsa) THAT YtbkcefpefgklpaaProg.lean LOADS. Nothing in Lean hashes anything: it is a label: what it is worth is what the hold of that sum in a sandbox is worth. -/
noncomputable def Try.pinned : Pinned := { name := "ytbkcefpefgklpaa", sum := "ee0847164f147ad4e9c18cabe0b69225e7266cfb9f4a171d0666a03800c22499", checked := Try.checked }
namespace Rows
def none {H : Type} : Left H := { results := [], args := [] }

/-- 'laws.FnExactMoveBead': WHATEVER THE INPUT: true; the input reads as it did. -/
def fnExactMoveBeadSpec : ChangeSpec := { name := "fnExactMoveBead", fn := fun _ => fun
  | [d1, d2] => { results := [.lit (.bool true)], args := [d1, d2] }
  | _ => none }
def fnExactMoveBeadRow : OpenClaim := { program := "ytbkcefpefgklpaa", sum := "ee0847164f147ad4e9c18cabe0b69225e7266cfb9f4a171d0666a03800c22499", func := "loop.example/g01136/laws.FnExactMoveBead", spec := "fnExactMoveBead", unfollowed := true, recurses := true, apart := false }
def FnExactMoveBeadSaid : Prop := fnExactMoveBeadRow.holds Try.pinned (OpenSpec.ofChange fnExactMoveBeadSpec)

/-- ITS FALSE NEIGHBOUR: 'it returns false'. Refute it at one input. -/
def fnExactMoveBeadWrong : ChangeSpec := { name := "fnExactMoveBead", fn := fun _ => fun
  | [d1, d2] => { results := [.lit (.bool false)], args := [d1, d2] }
  | _ => none }
def FnExactMoveBeadWrongFalsely : Prop := fnExactMoveBeadRow.holds Try.pinned (OpenSpec.ofChange fnExactMoveBeadWrong)

/-- 'laws.FnExactLiftBead': WHATEVER THE INPUT: true; the input reads as it did. -/
def fnExactLiftBeadSpec : ChangeSpec := { name := "fnExactLiftBead", fn := fun _ => fun
  | [d1, d2] => { results := [.lit (.bool true)], args := [d1, d2] }
  | _ => none }
def fnExactLiftBeadRow : OpenClaim := { program := "ytbkcefpefgklpaa", sum := "ee0847164f147ad4e9c18cabe0b69225e7266cfb9f4a171d0666a03800c22499", func := "loop.example/g01136/laws.FnExactLiftBead", spec := "fnExactLiftBead", unfollowed := true, recurses := true, apart := false }
def FnExactLiftBeadSaid : Prop := fnExactLiftBeadRow.holds Try.pinned (OpenSpec.ofChange fnExactLiftBeadSpec)

/-- ITS FALSE NEIGHBOUR: 'it returns false'. Refute it at one input. -/
def fnExactLiftBeadWrong : ChangeSpec := { name := "fnExactLiftBead", fn := fun _ => fun
  | [d1, d2] => { results := [.lit (.bool false)], args := [d1, d2] }
  | _ => none }
def FnExactLiftBeadWrongFalsely : Prop := fnExactLiftBeadRow.holds Try.pinned (OpenSpec.ofChange fnExactLiftBeadWrong)

/-- 'laws.FnExactPushDown': WHATEVER THE INPUT: true; the input reads as it did. -/
def fnExactPushDownSpec : ChangeSpec := { name := "fnExactPushDown", fn := fun _ => fun
  | [d] => { results := [.lit (.bool true)], args := [d] }
  | _ => none }
def fnExactPushDownRow : OpenClaim := { program := "ytbkcefpefgklpaa", sum := "ee0847164f147ad4e9c18cabe0b69225e7266cfb9f4a171d0666a03800c22499", func := "loop.example/g01136/laws.FnExactPushDown", spec := "fnExactPushDown", unfollowed := true, recurses := true, apart := false }
def FnExactPushDownSaid : Prop := fnExactPushDownRow.holds Try.pinned (OpenSpec.ofChange fnExactPushDownSpec)

/-- ITS FALSE NEIGHBOUR: 'it returns false'. Refute it at one input. -/
def fnExactPushDownWrong : ChangeSpec := { name := "fnExactPushDown", fn := fun _ => fun
  | [d] => { results := [.lit (.bool false)], args := [d] }
  | _ => none }
def FnExactPushDownWrongFalsely : Prop := fnExactPushDownRow.holds Try.pinned (OpenSpec.ofChange fnExactPushDownWrong)

/-- 'laws.FnExactAddedRims': WHATEVER THE INPUT: true; the input reads as it did. -/
def fnExactAddedRimsSpec : ChangeSpec := { name := "fnExactAddedRims", fn := fun _ => fun
  | [d1, d2] => { results := [.lit (.bool true)], args := [d1, d2] }
  | _ => none }
def fnExactAddedRimsRow : OpenClaim := { program := "ytbkcefpefgklpaa", sum := "ee0847164f147ad4e9c18cabe0b69225e7266cfb9f4a171d0666a03800c22499", func := "loop.example/g01136/laws.FnExactAddedRims", spec := "fnExactAddedRims", unfollowed := true, recurses := true, apart := false }
def FnExactAddedRimsSaid : Prop := fnExactAddedRimsRow.holds Try.pinned (OpenSpec.ofChange fnExactAddedRimsSpec)

/-- ITS FALSE NEIGHBOUR: 'it returns false'. Refute it at one input. -/
def fnExactAddedRimsWrong : ChangeSpec := { name := "fnExactAddedRims", fn := fun _ => fun
  | [d1, d2] => { results := [.lit (.bool false)], args := [d1, d2] }
  | _ => none }
def FnExactAddedRimsWrongFalsely : Prop := fnExactAddedRimsRow.holds Try.pinned (OpenSpec.ofChange fnExactAddedRimsWrong)

/-- 'laws.FnExactFromCore': WHATEVER THE INPUT: true; the input reads as it did. -/
def fnExactFromCoreSpec : ChangeSpec := { name := "fnExactFromCore", fn := fun _ => fun
  | [d1, d2] => { results := [.lit (.bool true)], args := [d1, d2] }
  | _ => none }
def fnExactFromCoreRow : OpenClaim := { program := "ytbkcefpefgklpaa", sum := "ee0847164f147ad4e9c18cabe0b69225e7266cfb9f4a171d0666a03800c22499", func := "loop.example/g01136/laws.FnExactFromCore", spec := "fnExactFromCore", unfollowed := true, recurses := true, apart := false }
def FnExactFromCoreSaid : Prop := fnExactFromCoreRow.holds Try.pinned (OpenSpec.ofChange fnExactFromCoreSpec)

/-- ITS FALSE NEIGHBOUR: 'it returns false'. Refute it at one input. -/
def fnExactFromCoreWrong : ChangeSpec := { name := "fnExactFromCore", fn := fun _ => fun
  | [d1, d2] => { results := [.lit (.bool false)], args := [d1, d2] }
  | _ => none }
def FnExactFromCoreWrongFalsely : Prop := fnExactFromCoreRow.holds Try.pinned (OpenSpec.ofChange fnExactFromCoreWrong)

/-- 'laws.FnExactSameBlock': WHATEVER THE INPUT: true; the input reads as it did. -/
def fnExactSameBlockSpec : ChangeSpec := { name := "fnExactSameBlock", fn := fun _ => fun
  | [d1, d2, d3] => { results := [.lit (.bool true)], args := [d1, d2, d3] }
  | _ => none }
def fnExactSameBlockRow : OpenClaim := { program := "ytbkcefpefgklpaa", sum := "ee0847164f147ad4e9c18cabe0b69225e7266cfb9f4a171d0666a03800c22499", func := "loop.example/g01136/laws.FnExactSameBlock", spec := "fnExactSameBlock", unfollowed := true, recurses := true, apart := false }
def FnExactSameBlockSaid : Prop := fnExactSameBlockRow.holds Try.pinned (OpenSpec.ofChange fnExactSameBlockSpec)

/-- ITS FALSE NEIGHBOUR: 'it returns false'. Refute it at one input. -/
def fnExactSameBlockWrong : ChangeSpec := { name := "fnExactSameBlock", fn := fun _ => fun
  | [d1, d2, d3] => { results := [.lit (.bool false)], args := [d1, d2, d3] }
  | _ => none }
def FnExactSameBlockWrongFalsely : Prop := fnExactSameBlockRow.holds Try.pinned (OpenSpec.ofChange fnExactSameBlockWrong)

/- THE SECOND FORM. 'bulk': how many values and letters a reading holds, each counted each time it is reached (what is shared counts as often as it is met; a slice's spare places count too). A statement '..UptoSaid' is the law's where the arguments, and the package variables that the reading takes, are together of bulk at most 1048576: NARROWER than '..Said'. Prove '..Said' where nothing that the law and all that it calls make is longer than what came in: it says more and counts as full. Else prove '..UptoSaid'. A law counts once. -/
mutual
def uptoBulk {H : Type} : DataW H → Nat
  | .lit (.string bytes) => bytes.length + 1
  | .lit _ => 1
  | .nil => 1
  | .ptr d => uptoBulk d + 1
  | .slice elems spare => uptoBulkAll elems + uptoBulkAll spare + 1
  | .agg parts => uptoBulkAll parts + 1
  | .iface _ d => uptoBulk d + 1
  | .map entries => uptoBulkEntries entries + 1
  | .held _ => 1
def uptoBulkAll {H : Type} : List (DataW H) → Nat
  | [] => 0
  | d :: r => uptoBulk d + uptoBulkAll r
def uptoBulkEntries {H : Type} : List (Lit × DataW H) → Nat
  | [] => 0
  | x :: r => uptoBulkEntry x + uptoBulkEntries r
def uptoBulkEntry {H : Type} : Lit × DataW H → Nat
  | (.string bytes, d) => bytes.length + uptoBulk d + 1
  | (_, d) => uptoBulk d + 1
 end
def uptoSmall : (H : Type) → List (DataW H) → Bool := fun _ ds => decide (uptoBulkAll ds ≤ 1048576)
def OpenSpec.upto (s : _root_.Go.ChangeSpec) : _root_.Go.OpenSpec := { _root_.Go.OpenSpec.ofChange s with cond := some uptoSmall }

/-- 'laws.FnExactMoveBead', WHERE WHAT IT READS IS OF BULK AT MOST 1048576: true; the input reads as it did. -/
def fnExactMoveBeadUptoRow : OpenClaim := { program := "ytbkcefpefgklpaa", sum := "ee0847164f147ad4e9c18cabe0b69225e7266cfb9f4a171d0666a03800c22499", func := "loop.example/g01136/laws.FnExactMoveBead", spec := "fnExactMoveBead", unfollowed := true, recurses := true, apart := false, narrowed := true }
def FnExactMoveBeadUptoSaid : Prop := fnExactMoveBeadUptoRow.holds Try.pinned (OpenSpec.upto fnExactMoveBeadSpec)

/-- 'laws.FnExactLiftBead', WHERE WHAT IT READS IS OF BULK AT MOST 1048576: true; the input reads as it did. -/
def fnExactLiftBeadUptoRow : OpenClaim := { program := "ytbkcefpefgklpaa", sum := "ee0847164f147ad4e9c18cabe0b69225e7266cfb9f4a171d0666a03800c22499", func := "loop.example/g01136/laws.FnExactLiftBead", spec := "fnExactLiftBead", unfollowed := true, recurses := true, apart := false, narrowed := true }
def FnExactLiftBeadUptoSaid : Prop := fnExactLiftBeadUptoRow.holds Try.pinned (OpenSpec.upto fnExactLiftBeadSpec)

/-- 'laws.FnExactPushDown', WHERE WHAT IT READS IS OF BULK AT MOST 1048576: true; the input reads as it did. -/
def fnExactPushDownUptoRow : OpenClaim := { program := "ytbkcefpefgklpaa", sum := "ee0847164f147ad4e9c18cabe0b69225e7266cfb9f4a171d0666a03800c22499", func := "loop.example/g01136/laws.FnExactPushDown", spec := "fnExactPushDown", unfollowed := true, recurses := true, apart := false, narrowed := true }
def FnExactPushDownUptoSaid : Prop := fnExactPushDownUptoRow.holds Try.pinned (OpenSpec.upto fnExactPushDownSpec)

/-- 'laws.FnExactAddedRims', WHERE WHAT IT READS IS OF BULK AT MOST 1048576: true; the input reads as it did. -/
def fnExactAddedRimsUptoRow : OpenClaim := { program := "ytbkcefpefgklpaa", sum := "ee0847164f147ad4e9c18cabe0b69225e7266cfb9f4a171d0666a03800c22499", func := "loop.example/g01136/laws.FnExactAddedRims", spec := "fnExactAddedRims", unfollowed := true, recurses := true, apart := false, narrowed := true }
def FnExactAddedRimsUptoSaid : Prop := fnExactAddedRimsUptoRow.holds Try.pinned (OpenSpec.upto fnExactAddedRimsSpec)

/-- 'laws.FnExactFromCore', WHERE WHAT IT READS IS OF BULK AT MOST 1048576: true; the input reads as it did. -/
def fnExactFromCoreUptoRow : OpenClaim := { program := "ytbkcefpefgklpaa", sum := "ee0847164f147ad4e9c18cabe0b69225e7266cfb9f4a171d0666a03800c22499", func := "loop.example/g01136/laws.FnExactFromCore", spec := "fnExactFromCore", unfollowed := true, recurses := true, apart := false, narrowed := true }
def FnExactFromCoreUptoSaid : Prop := fnExactFromCoreUptoRow.holds Try.pinned (OpenSpec.upto fnExactFromCoreSpec)

/-- 'laws.FnExactSameBlock', WHERE WHAT IT READS IS OF BULK AT MOST 1048576: true; the input reads as it did. -/
def fnExactSameBlockUptoRow : OpenClaim := { program := "ytbkcefpefgklpaa", sum := "ee0847164f147ad4e9c18cabe0b69225e7266cfb9f4a171d0666a03800c22499", func := "loop.example/g01136/laws.FnExactSameBlock", spec := "fnExactSameBlock", unfollowed := true, recurses := true, apart := false, narrowed := true }
def FnExactSameBlockUptoSaid : Prop := fnExactSameBlockUptoRow.holds Try.pinned (OpenSpec.upto fnExactSameBlockSpec)

end Rows
end Go.Proofs.Ytbkcefpefgklpaa
