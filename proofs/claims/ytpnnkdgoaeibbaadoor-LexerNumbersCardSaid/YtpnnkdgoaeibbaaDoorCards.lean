/-
  DERIVED. GIVEN WITH THE SEED: THE CARDS: each row of YtpnnkdgoaeibbaaDoorRows.lean that lists a variable, with what it lists TIED to the program's text (the seventh form; the later family's looks); each row that meets fmt, with fmt's text TOLD by the authors' own Lean function (tested against real Go, not proved from fmt's source: count such statements apart). THE CARD IS WHAT COUNTS. Prove the row's statement (the work); the ties are given (YtpnnkdgoaeibbaaDoorTie.lean); close each card by the builder's one call (the guide's Derived/Test/ToyasCard.lean, 'card_holds'). Laid BY PROGRAM, IN A SANDBOX (cutbox-door.mjs). By AI agents, Wed Nov 11 2026. No macro, syntax, notation, axiom, sorry.
-/
import Derived.Test.YtpnnkdgoaeibbaaDoorRows
import GoSem.ClaimSeven
namespace Go.Proofs.YtpnnkdgoaeibbaaDoor
namespace Rows

/-- THE TIED CARD OF 'stelelaw19.LexerLimit'. -/
def lexerLimitCard : Claim7 := { stood := { row := lexerLimitRow, standIns := [], harness := (true, "5001d9a0890543db10ed79ad00f84d701a7f078b7bfa988072aaaada53794d9e"), looks := false }, kinds := [], alts := [], laidByText := true, laidKinds := [.data, .data, .data, .data, .pinned], laidTests := true, laidLooks := .later }
def LexerLimitCardSaid : Prop := Claim7.holds Tryd.pinned (.plain (OpenSpec.ofChange lexerLimitSpec)) lexerLimitCard

/-- THE TIED CARD OF 'stelelaw19.LexerKinds'. -/
def lexerKindsCard : Claim7 := { stood := { row := lexerKindsRow, standIns := [], harness := (true, "5001d9a0890543db10ed79ad00f84d701a7f078b7bfa988072aaaada53794d9e"), looks := false }, kinds := [], alts := [], laidByText := true, laidKinds := [.data, .data, .data, .data, .pinned], laidTests := true, laidLooks := .later }
def LexerKindsCardSaid : Prop := Claim7.holds Tryd.pinned (.plain (OpenSpec.ofChange lexerKindsSpec)) lexerKindsCard

/-- THE TIED CARD OF 'stelelaw19.LexerConcatenates'. -/
def lexerConcatenatesCard : Claim7 := { stood := { row := lexerConcatenatesRow, standIns := [], harness := (true, "5001d9a0890543db10ed79ad00f84d701a7f078b7bfa988072aaaada53794d9e"), looks := false }, kinds := [], alts := [], laidByText := true, laidKinds := [.data, .data, .data, .data, .pinned], laidTests := true, laidLooks := .later }
def LexerConcatenatesCardSaid : Prop := Claim7.holds Tryd.pinned (.plain (OpenSpec.ofChange lexerConcatenatesSpec)) lexerConcatenatesCard

/-- THE TIED CARD OF 'stelelaw19.LexerRoundTrip'. -/
def lexerRoundTripCard : Claim7 := { stood := { row := lexerRoundTripRow, standIns := [], harness := (true, "5001d9a0890543db10ed79ad00f84d701a7f078b7bfa988072aaaada53794d9e"), looks := false }, kinds := [], alts := [], laidByText := true, laidKinds := [.data, .data, .data, .data, .pinned], laidTests := true, laidLooks := .later }
def LexerRoundTripCardSaid : Prop := Claim7.holds Tryd.pinned (.plain (OpenSpec.ofChange lexerRoundTripSpec)) lexerRoundTripCard

/-- THE TIED CARD OF 'stelelaw19.LexerLayout'. -/
def lexerLayoutCard : Claim7 := { stood := { row := lexerLayoutRow, standIns := [], harness := (true, "5001d9a0890543db10ed79ad00f84d701a7f078b7bfa988072aaaada53794d9e"), looks := false }, kinds := [], alts := [], laidByText := true, laidKinds := [.data, .data, .data, .data, .pinned], laidTests := true, laidLooks := .later }
def LexerLayoutCardSaid : Prop := Claim7.holds Tryd.pinned (.plain (OpenSpec.ofChange lexerLayoutSpec)) lexerLayoutCard

/-- THE TIED CARD OF 'stelelaw19.LexerNumbers'. -/
def lexerNumbersCard : Claim7 := { stood := { row := lexerNumbersRow, standIns := [], harness := (true, "5001d9a0890543db10ed79ad00f84d701a7f078b7bfa988072aaaada53794d9e"), looks := false }, kinds := [], alts := [], laidByText := true, laidKinds := [.data, .data, .data, .data, .pinned], laidTests := true, laidLooks := .later }
def LexerNumbersCardSaid : Prop := Claim7.holds Tryd.pinned (.plain (OpenSpec.ofChange lexerNumbersSpec)) lexerNumbersCard

/-- THE SECOND FORM's CARD OF 'stelelaw19.LexerLimit'. -/
def lexerLimitUptoCard : Claim7 := { stood := { row := lexerLimitUptoRow, standIns := [], harness := (true, "5001d9a0890543db10ed79ad00f84d701a7f078b7bfa988072aaaada53794d9e"), looks := false }, kinds := [], alts := [], laidByText := true, laidKinds := [.data, .data, .data, .data, .pinned], laidTests := true, laidLooks := .later }
def LexerLimitUptoCardSaid : Prop := Claim7.holds Tryd.pinned (.plain (OpenSpec.upto lexerLimitSpec)) lexerLimitUptoCard

/-- THE SECOND FORM's CARD OF 'stelelaw19.LexerKinds'. -/
def lexerKindsUptoCard : Claim7 := { stood := { row := lexerKindsUptoRow, standIns := [], harness := (true, "5001d9a0890543db10ed79ad00f84d701a7f078b7bfa988072aaaada53794d9e"), looks := false }, kinds := [], alts := [], laidByText := true, laidKinds := [.data, .data, .data, .data, .pinned], laidTests := true, laidLooks := .later }
def LexerKindsUptoCardSaid : Prop := Claim7.holds Tryd.pinned (.plain (OpenSpec.upto lexerKindsSpec)) lexerKindsUptoCard

/-- THE SECOND FORM's CARD OF 'stelelaw19.LexerConcatenates'. -/
def lexerConcatenatesUptoCard : Claim7 := { stood := { row := lexerConcatenatesUptoRow, standIns := [], harness := (true, "5001d9a0890543db10ed79ad00f84d701a7f078b7bfa988072aaaada53794d9e"), looks := false }, kinds := [], alts := [], laidByText := true, laidKinds := [.data, .data, .data, .data, .pinned], laidTests := true, laidLooks := .later }
def LexerConcatenatesUptoCardSaid : Prop := Claim7.holds Tryd.pinned (.plain (OpenSpec.upto lexerConcatenatesSpec)) lexerConcatenatesUptoCard

/-- THE SECOND FORM's CARD OF 'stelelaw19.LexerRoundTrip'. -/
def lexerRoundTripUptoCard : Claim7 := { stood := { row := lexerRoundTripUptoRow, standIns := [], harness := (true, "5001d9a0890543db10ed79ad00f84d701a7f078b7bfa988072aaaada53794d9e"), looks := false }, kinds := [], alts := [], laidByText := true, laidKinds := [.data, .data, .data, .data, .pinned], laidTests := true, laidLooks := .later }
def LexerRoundTripUptoCardSaid : Prop := Claim7.holds Tryd.pinned (.plain (OpenSpec.upto lexerRoundTripSpec)) lexerRoundTripUptoCard

/-- THE SECOND FORM's CARD OF 'stelelaw19.LexerLayout'. -/
def lexerLayoutUptoCard : Claim7 := { stood := { row := lexerLayoutUptoRow, standIns := [], harness := (true, "5001d9a0890543db10ed79ad00f84d701a7f078b7bfa988072aaaada53794d9e"), looks := false }, kinds := [], alts := [], laidByText := true, laidKinds := [.data, .data, .data, .data, .pinned], laidTests := true, laidLooks := .later }
def LexerLayoutUptoCardSaid : Prop := Claim7.holds Tryd.pinned (.plain (OpenSpec.upto lexerLayoutSpec)) lexerLayoutUptoCard

/-- THE SECOND FORM's CARD OF 'stelelaw19.LexerNumbers'. -/
def lexerNumbersUptoCard : Claim7 := { stood := { row := lexerNumbersUptoRow, standIns := [], harness := (true, "5001d9a0890543db10ed79ad00f84d701a7f078b7bfa988072aaaada53794d9e"), looks := false }, kinds := [], alts := [], laidByText := true, laidKinds := [.data, .data, .data, .data, .pinned], laidTests := true, laidLooks := .later }
def LexerNumbersUptoCardSaid : Prop := Claim7.holds Tryd.pinned (.plain (OpenSpec.upto lexerNumbersSpec)) lexerNumbersUptoCard
end Rows
end Go.Proofs.YtpnnkdgoaeibbaaDoor
