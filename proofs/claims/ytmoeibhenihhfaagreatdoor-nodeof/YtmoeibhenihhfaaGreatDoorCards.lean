/-
  DERIVED. GIVEN WITH THE SEED: THE CARDS: each row of YtmoeibhenihhfaaGreatDoorRows.lean that lists a variable, with what it lists TIED to the program's text (the seventh form; the later family's looks); each row that meets fmt, with fmt's text TOLD by the authors' own Lean function (tested against real Go, not proved from fmt's source: count such statements apart). THE CARD IS WHAT COUNTS. Prove the row's statement (the work); the ties are given (YtmoeibhenihhfaaGreatDoorTie.lean); close each card by the builder's one call (the guide's Derived/Test/ToyasCard.lean, 'card_holds'). Laid BY PROGRAM, IN A SANDBOX (cutbox-door.mjs). By AI agents, Wed Nov 11 2026. No macro, syntax, notation, axiom, sorry.
-/
import Derived.Test.YtmoeibhenihhfaaGreatDoorRows
import GoSem.ClaimSeven
namespace Go.Proofs.YtmoeibhenihhfaaGreatDoor
namespace Rows

/-- THE TIED CARD OF 'glossarylaw07.NodeOf'. -/
def nodeOfCard : Claim7 := { stood := { row := nodeOfRow, standIns := [], harness := (true, "2c58eca0e7e64e5534fbb33396220f6111187ef4029820e060bc034540d8c8e4"), looks := false }, kinds := [], alts := [], laidByText := true, laidKinds := [.data, .data, .data], laidTests := true, laidLooks := .later }
def NodeOfCardSaid : Prop := Claim7.holds Tryz.pinned (.plain (OpenSpec.ofChange nodeOfSpec)) nodeOfCard

/-- THE SECOND FORM's CARD OF 'glossarylaw07.NodeOf'. -/
def nodeOfUptoCard : Claim7 := { stood := { row := nodeOfUptoRow, standIns := [], harness := (true, "2c58eca0e7e64e5534fbb33396220f6111187ef4029820e060bc034540d8c8e4"), looks := false }, kinds := [], alts := [], laidByText := true, laidKinds := [.data, .data, .data], laidTests := true, laidLooks := .later }
def NodeOfUptoCardSaid : Prop := Claim7.holds Tryz.pinned (.plain (OpenSpec.upto nodeOfSpec)) nodeOfUptoCard
end Rows
end Go.Proofs.YtmoeibhenihhfaaGreatDoor
