/-
  DERIVED. GIVEN WITH THE SEED: THE CARDS: each row of YtgkablmglkagfaaDoorRows.lean that lists a variable, with what it lists TIED to the program's text (the seventh form; the later family's looks); each row that meets fmt, with fmt's text TOLD by the authors' own Lean function (tested against real Go, not proved from fmt's source: count such statements apart). THE CARD IS WHAT COUNTS. Prove the row's statement (the work); the ties are given (YtgkablmglkagfaaDoorTie.lean); close each card by the builder's one call (the guide's Derived/Test/ToyasCard.lean, 'card_holds'). Laid BY PROGRAM, IN A SANDBOX (cutbox-door.mjs). By AI agents, Wed Nov 11 2026. No macro, syntax, notation, axiom, sorry.
-/
import Derived.Test.YtgkablmglkagfaaDoorRows
import GoSem.ClaimSeven
namespace Go.Proofs.YtgkablmglkagfaaDoor
namespace Rows

/-- THE TIED CARD OF 'glossarylaw07.NodeCounts'. -/
def nodeCountsCard : Claim7 := { stood := { row := nodeCountsRow, standIns := [], harness := (true, "90391a103b07644fee96515f6445e1f6e3174ff1ee892c1a1c33264d788bc2cb"), looks := false }, kinds := [], alts := [], laidByText := true, laidKinds := [.data, .data, .data], laidTests := true, laidLooks := .later }
def NodeCountsCardSaid : Prop := Claim7.holds Tryd.pinned (.plain (OpenSpec.ofChange nodeCountsSpec)) nodeCountsCard

/-- THE TIED CARD OF 'glossarylaw07.NodeSame'. -/
def nodeSameCard : Claim7 := { stood := { row := nodeSameRow, standIns := [], harness := (true, "90391a103b07644fee96515f6445e1f6e3174ff1ee892c1a1c33264d788bc2cb"), looks := false }, kinds := [], alts := [], laidByText := true, laidKinds := [.data, .data, .data], laidTests := true, laidLooks := .later }
def NodeSameCardSaid : Prop := Claim7.holds Tryd.pinned (.plain (OpenSpec.ofChange nodeSameSpec)) nodeSameCard

/-- THE TIED CARD OF 'glossarylaw07.NodeOf'. -/
def nodeOfCard : Claim7 := { stood := { row := nodeOfRow, standIns := [], harness := (true, "90391a103b07644fee96515f6445e1f6e3174ff1ee892c1a1c33264d788bc2cb"), looks := false }, kinds := [], alts := [], laidByText := true, laidKinds := [.data, .data, .data], laidTests := true, laidLooks := .later }
def NodeOfCardSaid : Prop := Claim7.holds Tryd.pinned (.plain (OpenSpec.ofChange nodeOfSpec)) nodeOfCard

/-- THE TIED CARD OF 'glossarylaw07.NodeInts'. -/
def nodeIntsCard : Claim7 := { stood := { row := nodeIntsRow, standIns := [], harness := (true, "90391a103b07644fee96515f6445e1f6e3174ff1ee892c1a1c33264d788bc2cb"), looks := false }, kinds := [], alts := [], laidByText := true, laidKinds := [.data, .data, .data], laidTests := true, laidLooks := .later }
def NodeIntsCardSaid : Prop := Claim7.holds Tryd.pinned (.plain (OpenSpec.ofChange nodeIntsSpec)) nodeIntsCard

/-- THE SECOND FORM's CARD OF 'glossarylaw07.NodeCounts'. -/
def nodeCountsUptoCard : Claim7 := { stood := { row := nodeCountsUptoRow, standIns := [], harness := (true, "90391a103b07644fee96515f6445e1f6e3174ff1ee892c1a1c33264d788bc2cb"), looks := false }, kinds := [], alts := [], laidByText := true, laidKinds := [.data, .data, .data], laidTests := true, laidLooks := .later }
def NodeCountsUptoCardSaid : Prop := Claim7.holds Tryd.pinned (.plain (OpenSpec.upto nodeCountsSpec)) nodeCountsUptoCard

/-- THE SECOND FORM's CARD OF 'glossarylaw07.NodeSame'. -/
def nodeSameUptoCard : Claim7 := { stood := { row := nodeSameUptoRow, standIns := [], harness := (true, "90391a103b07644fee96515f6445e1f6e3174ff1ee892c1a1c33264d788bc2cb"), looks := false }, kinds := [], alts := [], laidByText := true, laidKinds := [.data, .data, .data], laidTests := true, laidLooks := .later }
def NodeSameUptoCardSaid : Prop := Claim7.holds Tryd.pinned (.plain (OpenSpec.upto nodeSameSpec)) nodeSameUptoCard

/-- THE SECOND FORM's CARD OF 'glossarylaw07.NodeOf'. -/
def nodeOfUptoCard : Claim7 := { stood := { row := nodeOfUptoRow, standIns := [], harness := (true, "90391a103b07644fee96515f6445e1f6e3174ff1ee892c1a1c33264d788bc2cb"), looks := false }, kinds := [], alts := [], laidByText := true, laidKinds := [.data, .data, .data], laidTests := true, laidLooks := .later }
def NodeOfUptoCardSaid : Prop := Claim7.holds Tryd.pinned (.plain (OpenSpec.upto nodeOfSpec)) nodeOfUptoCard

/-- THE SECOND FORM's CARD OF 'glossarylaw07.NodeInts'. -/
def nodeIntsUptoCard : Claim7 := { stood := { row := nodeIntsUptoRow, standIns := [], harness := (true, "90391a103b07644fee96515f6445e1f6e3174ff1ee892c1a1c33264d788bc2cb"), looks := false }, kinds := [], alts := [], laidByText := true, laidKinds := [.data, .data, .data], laidTests := true, laidLooks := .later }
def NodeIntsUptoCardSaid : Prop := Claim7.holds Tryd.pinned (.plain (OpenSpec.upto nodeIntsSpec)) nodeIntsUptoCard
end Rows
end Go.Proofs.YtgkablmglkagfaaDoor
