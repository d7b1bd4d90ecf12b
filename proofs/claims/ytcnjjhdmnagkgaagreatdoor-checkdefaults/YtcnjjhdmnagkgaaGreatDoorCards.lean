/-
  DERIVED. GIVEN WITH THE SEED: THE CARDS: each row of YtcnjjhdmnagkgaaGreatDoorRows.lean that lists a variable, with what it lists TIED to the program's text (the seventh form; the later family's looks); each row that meets fmt, with fmt's text TOLD by the authors' own Lean function (tested against real Go, not proved from fmt's source: count such statements apart). THE CARD IS WHAT COUNTS. Prove the row's statement (the work); the ties are given (YtcnjjhdmnagkgaaGreatDoorTie.lean); close each card by the builder's one call (the guide's Derived/Test/ToyasCard.lean, 'card_holds'). Laid BY PROGRAM, IN A SANDBOX (cutbox-door.mjs). By AI agents, Wed Nov 11 2026. No macro, syntax, notation, axiom, sorry.
-/
import Derived.Test.YtcnjjhdmnagkgaaGreatDoorRows
import GoSem.ClaimSeven
namespace Go.Proofs.YtcnjjhdmnagkgaaGreatDoor
namespace Rows

/-- THE TIED CARD OF 'glossarylaw16.CheckSets'. -/
def checkSetsCard : Claim7 := { stood := { row := checkSetsRow, standIns := [], harness := (true, "c0da5f69e8cdce15a02f11f6f41d5eeba3ba22f8424b7900671972f7cf4286a2"), looks := true }, kinds := [], alts := [], laidByText := true, laidKinds := [.data, .data, .data, .data], laidTests := true, laidLooks := .later }
def CheckSetsCardSaid : Prop := Claim7.holds Tryz.pinned (.plain (OpenSpec.ofChange checkSetsSpec)) checkSetsCard

/-- THE TIED CARD OF 'glossarylaw16.CheckDefaults'. -/
def checkDefaultsCard : Claim7 := { stood := { row := checkDefaultsRow, standIns := [], harness := (true, "c0da5f69e8cdce15a02f11f6f41d5eeba3ba22f8424b7900671972f7cf4286a2"), looks := true }, kinds := [], alts := [], laidByText := true, laidKinds := [.data, .data, .data, .data], laidTests := true, laidLooks := .later }
def CheckDefaultsCardSaid : Prop := Claim7.holds Tryz.pinned (.plain (OpenSpec.ofChange checkDefaultsSpec)) checkDefaultsCard

/-- THE TIED CARD OF 'glossarylaw16.CheckPrefix'. -/
def checkPrefixCard : Claim7 := { stood := { row := checkPrefixRow, standIns := [], harness := (true, "c0da5f69e8cdce15a02f11f6f41d5eeba3ba22f8424b7900671972f7cf4286a2"), looks := true }, kinds := [], alts := [], laidByText := true, laidKinds := [.data, .data, .data, .data], laidTests := true, laidLooks := .later }
def CheckPrefixCardSaid : Prop := Claim7.holds Tryz.pinned (.plain (OpenSpec.ofChange checkPrefixSpec)) checkPrefixCard

/-- THE SECOND FORM's CARD OF 'glossarylaw16.CheckSets'. -/
def checkSetsUptoCard : Claim7 := { stood := { row := checkSetsUptoRow, standIns := [], harness := (true, "c0da5f69e8cdce15a02f11f6f41d5eeba3ba22f8424b7900671972f7cf4286a2"), looks := true }, kinds := [], alts := [], laidByText := true, laidKinds := [.data, .data, .data, .data], laidTests := true, laidLooks := .later }
def CheckSetsUptoCardSaid : Prop := Claim7.holds Tryz.pinned (.plain (OpenSpec.upto checkSetsSpec)) checkSetsUptoCard

/-- THE SECOND FORM's CARD OF 'glossarylaw16.CheckDefaults'. -/
def checkDefaultsUptoCard : Claim7 := { stood := { row := checkDefaultsUptoRow, standIns := [], harness := (true, "c0da5f69e8cdce15a02f11f6f41d5eeba3ba22f8424b7900671972f7cf4286a2"), looks := true }, kinds := [], alts := [], laidByText := true, laidKinds := [.data, .data, .data, .data], laidTests := true, laidLooks := .later }
def CheckDefaultsUptoCardSaid : Prop := Claim7.holds Tryz.pinned (.plain (OpenSpec.upto checkDefaultsSpec)) checkDefaultsUptoCard

/-- THE SECOND FORM's CARD OF 'glossarylaw16.CheckPrefix'. -/
def checkPrefixUptoCard : Claim7 := { stood := { row := checkPrefixUptoRow, standIns := [], harness := (true, "c0da5f69e8cdce15a02f11f6f41d5eeba3ba22f8424b7900671972f7cf4286a2"), looks := true }, kinds := [], alts := [], laidByText := true, laidKinds := [.data, .data, .data, .data], laidTests := true, laidLooks := .later }
def CheckPrefixUptoCardSaid : Prop := Claim7.holds Tryz.pinned (.plain (OpenSpec.upto checkPrefixSpec)) checkPrefixUptoCard
end Rows
end Go.Proofs.YtcnjjhdmnagkgaaGreatDoor
