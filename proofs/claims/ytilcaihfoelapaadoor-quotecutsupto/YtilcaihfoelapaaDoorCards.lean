/-
  DERIVED. GIVEN WITH THE SEED: THE CARDS: each row of YtilcaihfoelapaaDoorRows.lean that lists a variable, with what it lists TIED to the program's text (the seventh form; the later family's looks); each row that meets fmt, with fmt's text TOLD by the authors' own Lean function (tested against real Go, not proved from fmt's source: count such statements apart). THE CARD IS WHAT COUNTS. Prove the row's statement (the work); the ties are given (YtilcaihfoelapaaDoorTie.lean); close each card by the builder's one call (the guide's Derived/Test/ToyasCard.lean, 'card_holds'). Laid BY PROGRAM, IN A SANDBOX (cutbox-door.mjs). By AI agents, Wed Nov 11 2026. No macro, syntax, notation, axiom, sorry.
-/
import Derived.Test.YtilcaihfoelapaaDoorRows
import GoSem.ClaimSeven
namespace Go.Proofs.YtilcaihfoelapaaDoor
namespace Rows

/-- THE TIED CARD OF 'glossarylaw04.QuoteTexts'. -/
def quoteTextsCard : Claim7 := { stood := { row := quoteTextsRow, standIns := [], harness := (true, "c82685c08b46e5bba6ad914500de47373fd58079417dbb4f1e7f101778e7ce87"), looks := false }, kinds := [], alts := [], laidByText := true, laidKinds := [.data], laidTests := true, laidLooks := .later }
def QuoteTextsCardSaid : Prop := Claim7.holds Tryd.pinned (.plain (OpenSpec.ofChange quoteTextsSpec)) quoteTextsCard

/-- THE TIED CARD OF 'glossarylaw04.QuoteTakes'. -/
def quoteTakesCard : Claim7 := { stood := { row := quoteTakesRow, standIns := [], harness := (true, "c82685c08b46e5bba6ad914500de47373fd58079417dbb4f1e7f101778e7ce87"), looks := false }, kinds := [], alts := [], laidByText := true, laidKinds := [.data], laidTests := true, laidLooks := .later }
def QuoteTakesCardSaid : Prop := Claim7.holds Tryd.pinned (.plain (OpenSpec.ofChange quoteTakesSpec)) quoteTakesCard

/-- THE TIED CARD OF 'glossarylaw04.QuoteNumbers'. -/
def quoteNumbersCard : Claim7 := { stood := { row := quoteNumbersRow, standIns := [], harness := (true, "c82685c08b46e5bba6ad914500de47373fd58079417dbb4f1e7f101778e7ce87"), looks := false }, kinds := [], alts := [], laidByText := true, laidKinds := [.data, .data, .data, .data], laidTests := true, laidLooks := .later }
def QuoteNumbersCardSaid : Prop := Claim7.holds Tryd.pinned (.plain (OpenSpec.ofChange quoteNumbersSpec)) quoteNumbersCard

/-- THE TIED CARD OF 'glossarylaw04.QuoteBack'. -/
def quoteBackCard : Claim7 := { stood := { row := quoteBackRow, standIns := [], harness := (true, "c82685c08b46e5bba6ad914500de47373fd58079417dbb4f1e7f101778e7ce87"), looks := false }, kinds := [], alts := [], laidByText := true, laidKinds := [.data, .data, .data, .data], laidTests := true, laidLooks := .later }
def QuoteBackCardSaid : Prop := Claim7.holds Tryd.pinned (.plain (OpenSpec.ofChange quoteBackSpec)) quoteBackCard

/-- THE TIED CARD OF 'glossarylaw04.QuotePlain'. -/
def quotePlainCard : Claim7 := { stood := { row := quotePlainRow, standIns := [], harness := (true, "c82685c08b46e5bba6ad914500de47373fd58079417dbb4f1e7f101778e7ce87"), looks := false }, kinds := [], alts := [], laidByText := true, laidKinds := [.data], laidTests := true, laidLooks := .later }
def QuotePlainCardSaid : Prop := Claim7.holds Tryd.pinned (.plain (OpenSpec.ofChange quotePlainSpec)) quotePlainCard

/-- THE TIED CARD OF 'glossarylaw04.QuoteCuts'. -/
def quoteCutsCard : Claim7 := { stood := { row := quoteCutsRow, standIns := [], harness := (true, "c82685c08b46e5bba6ad914500de47373fd58079417dbb4f1e7f101778e7ce87"), looks := false }, kinds := [], alts := [], laidByText := true, laidKinds := [.data], laidTests := true, laidLooks := .later }
def QuoteCutsCardSaid : Prop := Claim7.holds Tryd.pinned (.plain (OpenSpec.ofChange quoteCutsSpec)) quoteCutsCard

/-- THE SECOND FORM's CARD OF 'glossarylaw04.QuoteTexts'. -/
def quoteTextsUptoCard : Claim7 := { stood := { row := quoteTextsUptoRow, standIns := [], harness := (true, "c82685c08b46e5bba6ad914500de47373fd58079417dbb4f1e7f101778e7ce87"), looks := false }, kinds := [], alts := [], laidByText := true, laidKinds := [.data], laidTests := true, laidLooks := .later }
def QuoteTextsUptoCardSaid : Prop := Claim7.holds Tryd.pinned (.plain (OpenSpec.upto quoteTextsSpec)) quoteTextsUptoCard

/-- THE SECOND FORM's CARD OF 'glossarylaw04.QuoteTakes'. -/
def quoteTakesUptoCard : Claim7 := { stood := { row := quoteTakesUptoRow, standIns := [], harness := (true, "c82685c08b46e5bba6ad914500de47373fd58079417dbb4f1e7f101778e7ce87"), looks := false }, kinds := [], alts := [], laidByText := true, laidKinds := [.data], laidTests := true, laidLooks := .later }
def QuoteTakesUptoCardSaid : Prop := Claim7.holds Tryd.pinned (.plain (OpenSpec.upto quoteTakesSpec)) quoteTakesUptoCard

/-- THE SECOND FORM's CARD OF 'glossarylaw04.QuoteNumbers'. -/
def quoteNumbersUptoCard : Claim7 := { stood := { row := quoteNumbersUptoRow, standIns := [], harness := (true, "c82685c08b46e5bba6ad914500de47373fd58079417dbb4f1e7f101778e7ce87"), looks := false }, kinds := [], alts := [], laidByText := true, laidKinds := [.data, .data, .data, .data], laidTests := true, laidLooks := .later }
def QuoteNumbersUptoCardSaid : Prop := Claim7.holds Tryd.pinned (.plain (OpenSpec.upto quoteNumbersSpec)) quoteNumbersUptoCard

/-- THE SECOND FORM's CARD OF 'glossarylaw04.QuoteBack'. -/
def quoteBackUptoCard : Claim7 := { stood := { row := quoteBackUptoRow, standIns := [], harness := (true, "c82685c08b46e5bba6ad914500de47373fd58079417dbb4f1e7f101778e7ce87"), looks := false }, kinds := [], alts := [], laidByText := true, laidKinds := [.data, .data, .data, .data], laidTests := true, laidLooks := .later }
def QuoteBackUptoCardSaid : Prop := Claim7.holds Tryd.pinned (.plain (OpenSpec.upto quoteBackSpec)) quoteBackUptoCard

/-- THE SECOND FORM's CARD OF 'glossarylaw04.QuotePlain'. -/
def quotePlainUptoCard : Claim7 := { stood := { row := quotePlainUptoRow, standIns := [], harness := (true, "c82685c08b46e5bba6ad914500de47373fd58079417dbb4f1e7f101778e7ce87"), looks := false }, kinds := [], alts := [], laidByText := true, laidKinds := [.data], laidTests := true, laidLooks := .later }
def QuotePlainUptoCardSaid : Prop := Claim7.holds Tryd.pinned (.plain (OpenSpec.upto quotePlainSpec)) quotePlainUptoCard

/-- THE SECOND FORM's CARD OF 'glossarylaw04.QuoteCuts'. -/
def quoteCutsUptoCard : Claim7 := { stood := { row := quoteCutsUptoRow, standIns := [], harness := (true, "c82685c08b46e5bba6ad914500de47373fd58079417dbb4f1e7f101778e7ce87"), looks := false }, kinds := [], alts := [], laidByText := true, laidKinds := [.data], laidTests := true, laidLooks := .later }
def QuoteCutsUptoCardSaid : Prop := Claim7.holds Tryd.pinned (.plain (OpenSpec.upto quoteCutsSpec)) quoteCutsUptoCard
end Rows
end Go.Proofs.YtilcaihfoelapaaDoor
