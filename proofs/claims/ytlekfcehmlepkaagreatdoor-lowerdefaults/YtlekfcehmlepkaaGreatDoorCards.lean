/-
  DERIVED. GIVEN WITH THE SEED: THE CARDS: each row of YtlekfcehmlepkaaGreatDoorRows.lean that lists a variable, with what it lists TIED to the program's text (the seventh form; the later family's looks); each row that meets fmt, with fmt's text TOLD by the authors' own Lean function (tested against real Go, not proved from fmt's source: count such statements apart). THE CARD IS WHAT COUNTS. Prove the row's statement (the work); the ties are given (YtlekfcehmlepkaaGreatDoorTie.lean); close each card by the builder's one call (the guide's Derived/Test/ToyasCard.lean, 'card_holds'). Laid BY PROGRAM, IN A SANDBOX (cutbox-door.mjs). By AI agents, Wed Nov 11 2026. No macro, syntax, notation, axiom, sorry.
-/
import Derived.Test.YtlekfcehmlepkaaGreatDoorRows
import GoSem.ClaimSeven
namespace Go.Proofs.YtlekfcehmlepkaaGreatDoor
namespace Rows

/-- THE TIED CARD OF 'glossarylaw13.LowerTypes'. -/
def lowerTypesCard : Claim7 := { stood := { row := lowerTypesRow, standIns := [], harness := (true, "e7df0f26ce73a7be8ede3a6b1ab5cf55229f0646468e1e98f4a8b9d95e617d21"), looks := true }, kinds := [], alts := [], laidByText := true, laidKinds := [.data, .data, .data, .data], laidTests := true, laidLooks := .later }
def LowerTypesCardSaid : Prop := Claim7.holds Tryz.pinned (.plain (OpenSpec.ofChange lowerTypesSpec)) lowerTypesCard

/-- THE TIED CARD OF 'glossarylaw13.LowerDefaults'. -/
def lowerDefaultsCard : Claim7 := { stood := { row := lowerDefaultsRow, standIns := [], harness := (true, "e7df0f26ce73a7be8ede3a6b1ab5cf55229f0646468e1e98f4a8b9d95e617d21"), looks := true }, kinds := [], alts := [], laidByText := true, laidKinds := [.data, .data, .data, .data], laidTests := true, laidLooks := .later }
def LowerDefaultsCardSaid : Prop := Claim7.holds Tryz.pinned (.plain (OpenSpec.ofChange lowerDefaultsSpec)) lowerDefaultsCard

/-- THE TIED CARD OF 'glossarylaw13.LowerEntries'. -/
def lowerEntriesCard : Claim7 := { stood := { row := lowerEntriesRow, standIns := [], harness := (true, "e7df0f26ce73a7be8ede3a6b1ab5cf55229f0646468e1e98f4a8b9d95e617d21"), looks := true }, kinds := [], alts := [], laidByText := true, laidKinds := [.data, .data, .data, .data], laidTests := true, laidLooks := .later }
def LowerEntriesCardSaid : Prop := Claim7.holds Tryz.pinned (.plain (OpenSpec.ofChange lowerEntriesSpec)) lowerEntriesCard

/-- THE SECOND FORM's CARD OF 'glossarylaw13.LowerTypes'. -/
def lowerTypesUptoCard : Claim7 := { stood := { row := lowerTypesUptoRow, standIns := [], harness := (true, "e7df0f26ce73a7be8ede3a6b1ab5cf55229f0646468e1e98f4a8b9d95e617d21"), looks := true }, kinds := [], alts := [], laidByText := true, laidKinds := [.data, .data, .data, .data], laidTests := true, laidLooks := .later }
def LowerTypesUptoCardSaid : Prop := Claim7.holds Tryz.pinned (.plain (OpenSpec.upto lowerTypesSpec)) lowerTypesUptoCard

/-- THE SECOND FORM's CARD OF 'glossarylaw13.LowerDefaults'. -/
def lowerDefaultsUptoCard : Claim7 := { stood := { row := lowerDefaultsUptoRow, standIns := [], harness := (true, "e7df0f26ce73a7be8ede3a6b1ab5cf55229f0646468e1e98f4a8b9d95e617d21"), looks := true }, kinds := [], alts := [], laidByText := true, laidKinds := [.data, .data, .data, .data], laidTests := true, laidLooks := .later }
def LowerDefaultsUptoCardSaid : Prop := Claim7.holds Tryz.pinned (.plain (OpenSpec.upto lowerDefaultsSpec)) lowerDefaultsUptoCard

/-- THE SECOND FORM's CARD OF 'glossarylaw13.LowerEntries'. -/
def lowerEntriesUptoCard : Claim7 := { stood := { row := lowerEntriesUptoRow, standIns := [], harness := (true, "e7df0f26ce73a7be8ede3a6b1ab5cf55229f0646468e1e98f4a8b9d95e617d21"), looks := true }, kinds := [], alts := [], laidByText := true, laidKinds := [.data, .data, .data, .data], laidTests := true, laidLooks := .later }
def LowerEntriesUptoCardSaid : Prop := Claim7.holds Tryz.pinned (.plain (OpenSpec.upto lowerEntriesSpec)) lowerEntriesUptoCard
end Rows
end Go.Proofs.YtlekfcehmlepkaaGreatDoor
