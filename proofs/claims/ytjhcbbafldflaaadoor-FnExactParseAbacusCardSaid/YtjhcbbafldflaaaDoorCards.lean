/-
  DERIVED. GIVEN WITH THE SEED: THE CARDS: each row of YtjhcbbafldflaaaDoorRows.lean that lists a variable, with what it lists TIED to the program's text (the seventh form; the later family's looks); each row that meets fmt, with fmt's text TOLD by the authors' own Lean function (tested against real Go, not proved from fmt's source: count such statements apart). THE CARD IS WHAT COUNTS. Prove the row's statement (the work); the ties are given (YtjhcbbafldflaaaDoorTie.lean); close each card by the builder's one call (the guide's Derived/Test/ToyasCard.lean, 'card_holds'). Laid BY PROGRAM, IN A SANDBOX (cutbox-door.mjs). By AI agents, Wed Nov 11 2026. No macro, syntax, notation, axiom, sorry.
-/
import Derived.Test.YtjhcbbafldflaaaDoorRows
import GoSem.ClaimSeven
namespace Go.Proofs.YtjhcbbafldflaaaDoor
namespace Rows

/-- THE TIED CARD OF 'laws.FnExactPartText'. -/
def fnExactPartTextCard : Claim7 := { stood := { row := fnExactPartTextRow, standIns := [], harness := (true, "b8a61c4742e7362f032234b78e8e515fbcba9f2b74448e3c96959d6b1d908a89"), looks := true }, kinds := [], alts := [], laidByText := true, laidKinds := [.data, .data, .data], laidTests := true, laidLooks := .later }
def FnExactPartTextCardSaid : Prop := Claim7.holds Tryd.pinned (.plain (OpenSpec.ofChange fnExactPartTextSpec)) fnExactPartTextCard

/-- THE TIED CARD OF 'laws.FnExactParsePart'. -/
def fnExactParsePartCard : Claim7 := { stood := { row := fnExactParsePartRow, standIns := [], harness := (true, "b8a61c4742e7362f032234b78e8e515fbcba9f2b74448e3c96959d6b1d908a89"), looks := true }, kinds := [], alts := [], laidByText := true, laidKinds := [.data, .data, .data, .data, .sentinel, .sentinel, .pinned], laidTests := true, laidLooks := .later }
def FnExactParsePartCardSaid : Prop := Claim7.holds Tryd.pinned (.plain (OpenSpec.ofChange fnExactParsePartSpec)) fnExactParsePartCard

/-- THE TIED CARD OF 'laws.FnExactAbacusText'. -/
def fnExactAbacusTextCard : Claim7 := { stood := { row := fnExactAbacusTextRow, standIns := [], harness := (true, "b8a61c4742e7362f032234b78e8e515fbcba9f2b74448e3c96959d6b1d908a89"), looks := true }, kinds := [], alts := [], laidByText := true, laidKinds := [.data, .data, .data], laidTests := true, laidLooks := .later }
def FnExactAbacusTextCardSaid : Prop := Claim7.holds Tryd.pinned (.plain (OpenSpec.ofChange fnExactAbacusTextSpec)) fnExactAbacusTextCard

/-- THE TIED CARD OF 'laws.FnExactParseAbacus'. -/
def fnExactParseAbacusCard : Claim7 := { stood := { row := fnExactParseAbacusRow, standIns := [], harness := (true, "b8a61c4742e7362f032234b78e8e515fbcba9f2b74448e3c96959d6b1d908a89"), looks := true }, kinds := [], alts := [], laidByText := true, laidKinds := [.data, .data, .data, .data, .sentinel, .sentinel, .pinned], laidTests := true, laidLooks := .later }
def FnExactParseAbacusCardSaid : Prop := Claim7.holds Tryd.pinned (.plain (OpenSpec.ofChange fnExactParseAbacusSpec)) fnExactParseAbacusCard

/-- THE SECOND FORM's CARD OF 'laws.FnExactPartText'. -/
def fnExactPartTextUptoCard : Claim7 := { stood := { row := fnExactPartTextUptoRow, standIns := [], harness := (true, "b8a61c4742e7362f032234b78e8e515fbcba9f2b74448e3c96959d6b1d908a89"), looks := true }, kinds := [], alts := [], laidByText := true, laidKinds := [.data, .data, .data], laidTests := true, laidLooks := .later }
def FnExactPartTextUptoCardSaid : Prop := Claim7.holds Tryd.pinned (.plain (OpenSpec.upto fnExactPartTextSpec)) fnExactPartTextUptoCard

/-- THE SECOND FORM's CARD OF 'laws.FnExactParsePart'. -/
def fnExactParsePartUptoCard : Claim7 := { stood := { row := fnExactParsePartUptoRow, standIns := [], harness := (true, "b8a61c4742e7362f032234b78e8e515fbcba9f2b74448e3c96959d6b1d908a89"), looks := true }, kinds := [], alts := [], laidByText := true, laidKinds := [.data, .data, .data, .data, .sentinel, .sentinel, .pinned], laidTests := true, laidLooks := .later }
def FnExactParsePartUptoCardSaid : Prop := Claim7.holds Tryd.pinned (.plain (OpenSpec.upto fnExactParsePartSpec)) fnExactParsePartUptoCard

/-- THE SECOND FORM's CARD OF 'laws.FnExactAbacusText'. -/
def fnExactAbacusTextUptoCard : Claim7 := { stood := { row := fnExactAbacusTextUptoRow, standIns := [], harness := (true, "b8a61c4742e7362f032234b78e8e515fbcba9f2b74448e3c96959d6b1d908a89"), looks := true }, kinds := [], alts := [], laidByText := true, laidKinds := [.data, .data, .data], laidTests := true, laidLooks := .later }
def FnExactAbacusTextUptoCardSaid : Prop := Claim7.holds Tryd.pinned (.plain (OpenSpec.upto fnExactAbacusTextSpec)) fnExactAbacusTextUptoCard

/-- THE SECOND FORM's CARD OF 'laws.FnExactParseAbacus'. -/
def fnExactParseAbacusUptoCard : Claim7 := { stood := { row := fnExactParseAbacusUptoRow, standIns := [], harness := (true, "b8a61c4742e7362f032234b78e8e515fbcba9f2b74448e3c96959d6b1d908a89"), looks := true }, kinds := [], alts := [], laidByText := true, laidKinds := [.data, .data, .data, .data, .sentinel, .sentinel, .pinned], laidTests := true, laidLooks := .later }
def FnExactParseAbacusUptoCardSaid : Prop := Claim7.holds Tryd.pinned (.plain (OpenSpec.upto fnExactParseAbacusSpec)) fnExactParseAbacusUptoCard
end Rows
end Go.Proofs.YtjhcbbafldflaaaDoor
