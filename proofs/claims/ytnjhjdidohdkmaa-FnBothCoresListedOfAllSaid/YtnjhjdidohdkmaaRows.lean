/-
  No cell of these rows narrows 'for every input' (looked for: loops, veiled, ifaces, maps, wideKeys, modest, calm, conditions, laid).
  DERIVED. THE GIVEN ROWS OF THIS SEAT. 1 by the template 'for every input the law returns true; each argument reads behind the call as it read before'; 0 by the template 'total and deterministic' (their statements: YtnjhjdidohdkmaaTotals.lean).
  GIVEN WITH THE SEED: the statements are not yours to turn. If you find one false, say at which input.
  Laid BY PROGRAM, IN A SANDBOX (cutbox-rows.mjs): the forced cells as the released guide's own fill.sh prints them over the translation fc747c9ef869d697… (all of the seat's roots in one cut). By AI agents, Wed Nov 11 2026. No macro, syntax, notation, axiom, sorry.
-/
import Derived.Test.YtnjhjdidohdkmaaChecked
import GoSem.Claim
import GoSem.ClaimJoined
import GoSem.ClaimMapViews
import Derived.JoinedTies
import Derived.KernelRfl
namespace Go.Proofs.Ytnjhjdidohdkmaa
/- THE CELL 'sum', in the pinned program and in every row, IS THE sha256 OF THE DUMP (.gsa) THAT YtnjhjdidohdkmaaProg.lean LOADS. Nothing in Lean hashes anything: it is a label: what it is worth is what the hold of that sum in a sandbox is worth. -/
noncomputable def Try.pinned : Pinned := { name := "ytnjhjdidohdkmaa", sum := "fc747c9ef869d697db3ebd58c623df6e843026e8a365c5f294f01fa8eb7649b8", checked := Try.checked }
namespace Rows
def none {H : Type} : Left H := { results := [], args := [] }

/-- 'laws.FnBothCoresListedOfAll': WHATEVER THE INPUT: true; the input reads as it did. -/
def fnBothCoresListedOfAllSpec : ChangeSpec := { name := "fnBothCoresListedOfAll", fn := fun _ => fun
  | [d1, d2] => { results := [.lit (.bool true)], args := [d1, d2] }
  | _ => none }
def fnBothCoresListedOfAllRow : OpenClaim := { program := "ytnjhjdidohdkmaa", sum := "fc747c9ef869d697db3ebd58c623df6e843026e8a365c5f294f01fa8eb7649b8", func := "loop.example/g01136/laws.FnBothCoresListedOfAll", spec := "fnBothCoresListedOfAll", unfollowed := true, recurses := true, apart := false }
def FnBothCoresListedOfAllSaid : Prop := fnBothCoresListedOfAllRow.holds Try.pinned (OpenSpec.ofChange fnBothCoresListedOfAllSpec)

/-- ITS FALSE NEIGHBOUR: 'it returns false'. Refute it at one input. -/
def fnBothCoresListedOfAllWrong : ChangeSpec := { name := "fnBothCoresListedOfAll", fn := fun _ => fun
  | [d1, d2] => { results := [.lit (.bool false)], args := [d1, d2] }
  | _ => none }
def FnBothCoresListedOfAllWrongFalsely : Prop := fnBothCoresListedOfAllRow.holds Try.pinned (OpenSpec.ofChange fnBothCoresListedOfAllWrong)

/- THE SECOND FORM. 'bulk': how many values and letters a reading holds, each counted each time it is reached (what is shared counts as often as it is met; a slice's spare places count too). A statement '..UptoSaid' is the law's where the arguments, and the package variables that the reading takes, are together of bulk at most 1048576: NARROWER than '..Said'. Prove '..Said' where nothing that the law and all that it calls make is longer than what came in: it says more and counts as full. Else prove '..UptoSaid'. A law counts once. -/
mutual
def uptoBulk {H : Type} : DataW H → Nat
  | .lit (.string bytes) => bytes.length + 1
  | .lit _ => 1
  | .nil => 1
  | .ptr d => uptoBulk d + 1
  | .slice elems spare => uptoBulkAll elems + uptoBulkAll spare + 1
  | .agg parts => uptoBulkAll parts + 1
  | .iface _ d => uptoBulk d + 1
  | .map entries => uptoBulkEntries entries + 1
  | .held _ => 1
def uptoBulkAll {H : Type} : List (DataW H) → Nat
  | [] => 0
  | d :: r => uptoBulk d + uptoBulkAll r
def uptoBulkEntries {H : Type} : List (Lit × DataW H) → Nat
  | [] => 0
  | x :: r => uptoBulkEntry x + uptoBulkEntries r
def uptoBulkEntry {H : Type} : Lit × DataW H → Nat
  | (.string bytes, d) => bytes.length + uptoBulk d + 1
  | (_, d) => uptoBulk d + 1
 end
def uptoSmall : (H : Type) → List (DataW H) → Bool := fun _ ds => decide (uptoBulkAll ds ≤ 1048576)
def OpenSpec.upto (s : _root_.Go.ChangeSpec) : _root_.Go.OpenSpec := { _root_.Go.OpenSpec.ofChange s with cond := some uptoSmall }

/-- 'laws.FnBothCoresListedOfAll', WHERE WHAT IT READS IS OF BULK AT MOST 1048576: true; the input reads as it did. -/
def fnBothCoresListedOfAllUptoRow : OpenClaim := { program := "ytnjhjdidohdkmaa", sum := "fc747c9ef869d697db3ebd58c623df6e843026e8a365c5f294f01fa8eb7649b8", func := "loop.example/g01136/laws.FnBothCoresListedOfAll", spec := "fnBothCoresListedOfAll", unfollowed := true, recurses := true, apart := false, narrowed := true }
def FnBothCoresListedOfAllUptoSaid : Prop := fnBothCoresListedOfAllUptoRow.holds Try.pinned (OpenSpec.upto fnBothCoresListedOfAllSpec)

end Rows
end Go.Proofs.Ytnjhjdidohdkmaa
