/-
  DERIVED. GIVEN WITH THE SEED: THE CARDS: each row of YtilcaihfoelapabDoorRows.lean that lists a variable, with what it lists TIED to the program's text (the seventh form; the later family's looks); each row that meets fmt, with fmt's text TOLD by the authors' own Lean function (tested against real Go, not proved from fmt's source: count such statements apart). THE CARD IS WHAT COUNTS. Prove the row's statement (the work); the ties are given (YtilcaihfoelapabDoorTie.lean); close each card by the builder's one call (the guide's Derived/Test/ToyasCard.lean, 'card_holds'). Laid BY PROGRAM, IN A SANDBOX (cutbox-door.mjs). By AI agents, Wed Nov 11 2026. No macro, syntax, notation, axiom, sorry.
-/
import Derived.Test.YtilcaihfoelapabDoorRows
import GoSem.ClaimSeven
namespace Go.Proofs.YtilcaihfoelapabDoor
namespace Rows

/-- THE TIED CARD OF 'glossarylaw04.QuoteJoined'. -/
def quoteJoinedCard : Claim7 := { stood := { row := quoteJoinedRow, standIns := [], harness := (true, "e7b7510bc21962b5c2623ecf71e223f93af849b731e2c7f254038badab0181a1"), looks := false }, kinds := [], alts := [], laidByText := true, laidKinds := [.data], laidTests := true, laidLooks := .later }
def QuoteJoinedCardSaid : Prop := Claim7.holds Tryd.pinned (.plain (OpenSpec.ofChange quoteJoinedSpec)) quoteJoinedCard

/-- THE SECOND FORM's CARD OF 'glossarylaw04.QuoteJoined'. -/
def quoteJoinedUptoCard : Claim7 := { stood := { row := quoteJoinedUptoRow, standIns := [], harness := (true, "e7b7510bc21962b5c2623ecf71e223f93af849b731e2c7f254038badab0181a1"), looks := false }, kinds := [], alts := [], laidByText := true, laidKinds := [.data], laidTests := true, laidLooks := .later }
def QuoteJoinedUptoCardSaid : Prop := Claim7.holds Tryd.pinned (.plain (OpenSpec.upto quoteJoinedSpec)) quoteJoinedUptoCard
end Rows
end Go.Proofs.YtilcaihfoelapabDoor
