/-
  DERIVED. GIVEN WITH THE SEED: THE CARDS: each row of YtpbcncfbfbghcaaGreatDoorRows.lean that lists a variable, with what it lists TIED to the program's text (the seventh form; the later family's looks); each row that meets fmt, with fmt's text TOLD by the authors' own Lean function (tested against real Go, not proved from fmt's source: count such statements apart). THE CARD IS WHAT COUNTS. Prove the row's statement (the work); the ties are given (YtpbcncfbfbghcaaGreatDoorTie.lean); close each card by the builder's one call (the guide's Derived/Test/ToyasCard.lean, 'card_holds'). Laid BY PROGRAM, IN A SANDBOX (cutbox-door.mjs). By AI agents, Wed Nov 11 2026. No macro, syntax, notation, axiom, sorry.
-/
import Derived.Test.YtpbcncfbfbghcaaGreatDoorRows
import GoSem.ClaimSeven
namespace Go.Proofs.YtpbcncfbfbghcaaGreatDoor
namespace Rows

/-- THE TIED CARD OF 'stelelaw20.ParserParse'. -/
def parserParseCard : Claim7 := { stood := { row := parserParseRow, standIns := [], harness := (true, "349d925f114789ddc711483fa03cf33b50b6480fab7c3358f4752a2ea7ddcb75"), looks := true }, kinds := [], alts := [], laidByText := true, laidKinds := [.data, .data, .data, .data, .sentinel, .sentinel, .pinned], laidTests := true, laidLooks := .later }
def ParserParseCardSaid : Prop := Claim7.holds Tryz.pinned (.plain (OpenSpec.ofChange parserParseSpec)) parserParseCard

/-- THE TIED CARD OF 'stelelaw20.ParserFormat'. -/
def parserFormatCard : Claim7 := { stood := { row := parserFormatRow, standIns := [], harness := (true, "349d925f114789ddc711483fa03cf33b50b6480fab7c3358f4752a2ea7ddcb75"), looks := true }, kinds := [], alts := [], laidByText := true, laidKinds := [.data, .data, .data, .data, .sentinel, .sentinel, .pinned], laidTests := true, laidLooks := .later }
def ParserFormatCardSaid : Prop := Claim7.holds Tryz.pinned (.plain (OpenSpec.ofChange parserFormatSpec)) parserFormatCard

/-- THE TIED CARD OF 'stelelaw20.ParserRoundTrip'. -/
def parserRoundTripCard : Claim7 := { stood := { row := parserRoundTripRow, standIns := [], harness := (true, "349d925f114789ddc711483fa03cf33b50b6480fab7c3358f4752a2ea7ddcb75"), looks := true }, kinds := [], alts := [], laidByText := true, laidKinds := [.data, .data, .data, .data, .sentinel, .sentinel, .pinned], laidTests := true, laidLooks := .later }
def ParserRoundTripCardSaid : Prop := Claim7.holds Tryz.pinned (.plain (OpenSpec.ofChange parserRoundTripSpec)) parserRoundTripCard

/-- THE TIED CARD OF 'stelelaw20.ParserLayout'. -/
def parserLayoutCard : Claim7 := { stood := { row := parserLayoutRow, standIns := [], harness := (true, "349d925f114789ddc711483fa03cf33b50b6480fab7c3358f4752a2ea7ddcb75"), looks := true }, kinds := [], alts := [], laidByText := true, laidKinds := [.data, .data, .data, .data, .sentinel, .sentinel, .pinned], laidTests := true, laidLooks := .later }
def ParserLayoutCardSaid : Prop := Claim7.holds Tryz.pinned (.plain (OpenSpec.ofChange parserLayoutSpec)) parserLayoutCard

/-- THE TIED CARD OF 'stelelaw20.ParserParentheses'. -/
def parserParenthesesCard : Claim7 := { stood := { row := parserParenthesesRow, standIns := [], harness := (true, "349d925f114789ddc711483fa03cf33b50b6480fab7c3358f4752a2ea7ddcb75"), looks := true }, kinds := [], alts := [], laidByText := true, laidKinds := [.data, .data, .data, .data, .sentinel, .sentinel, .pinned], laidTests := true, laidLooks := .later }
def ParserParenthesesCardSaid : Prop := Claim7.holds Tryz.pinned (.plain (OpenSpec.ofChange parserParenthesesSpec)) parserParenthesesCard

/-- THE TIED CARD OF 'stelelaw20.ParserPrecedence'. -/
def parserPrecedenceCard : Claim7 := { stood := { row := parserPrecedenceRow, standIns := [], harness := (true, "349d925f114789ddc711483fa03cf33b50b6480fab7c3358f4752a2ea7ddcb75"), looks := true }, kinds := [], alts := [], laidByText := true, laidKinds := [.data, .data, .data, .data, .sentinel, .sentinel, .pinned], laidTests := true, laidLooks := .later }
def ParserPrecedenceCardSaid : Prop := Claim7.holds Tryz.pinned (.plain (OpenSpec.ofChange parserPrecedenceSpec)) parserPrecedenceCard

/-- THE TIED CARD OF 'stelelaw20.ParserConcatenation'. -/
def parserConcatenationCard : Claim7 := { stood := { row := parserConcatenationRow, standIns := [], harness := (true, "349d925f114789ddc711483fa03cf33b50b6480fab7c3358f4752a2ea7ddcb75"), looks := true }, kinds := [], alts := [], laidByText := true, laidKinds := [.data, .data, .data, .data, .sentinel, .sentinel, .pinned], laidTests := true, laidLooks := .later }
def ParserConcatenationCardSaid : Prop := Claim7.holds Tryz.pinned (.plain (OpenSpec.ofChange parserConcatenationSpec)) parserConcatenationCard

/-- THE TIED CARD OF 'stelelaw20.ParserDepth'. -/
def parserDepthCard : Claim7 := { stood := { row := parserDepthRow, standIns := [], harness := (true, "349d925f114789ddc711483fa03cf33b50b6480fab7c3358f4752a2ea7ddcb75"), looks := true }, kinds := [], alts := [], laidByText := true, laidKinds := [.data, .data, .data, .data, .sentinel, .sentinel, .pinned], laidTests := true, laidLooks := .later }
def ParserDepthCardSaid : Prop := Claim7.holds Tryz.pinned (.plain (OpenSpec.ofChange parserDepthSpec)) parserDepthCard

/-- THE TIED CARD OF 'stelelaw20.ParserTokens'. -/
def parserTokensCard : Claim7 := { stood := { row := parserTokensRow, standIns := [], harness := (true, "349d925f114789ddc711483fa03cf33b50b6480fab7c3358f4752a2ea7ddcb75"), looks := true }, kinds := [], alts := [], laidByText := true, laidKinds := [.data, .data, .data, .data, .sentinel, .sentinel, .pinned], laidTests := true, laidLooks := .later }
def ParserTokensCardSaid : Prop := Claim7.holds Tryz.pinned (.plain (OpenSpec.ofChange parserTokensSpec)) parserTokensCard

/-- THE SECOND FORM's CARD OF 'stelelaw20.ParserParse'. -/
def parserParseUptoCard : Claim7 := { stood := { row := parserParseUptoRow, standIns := [], harness := (true, "349d925f114789ddc711483fa03cf33b50b6480fab7c3358f4752a2ea7ddcb75"), looks := true }, kinds := [], alts := [], laidByText := true, laidKinds := [.data, .data, .data, .data, .sentinel, .sentinel, .pinned], laidTests := true, laidLooks := .later }
def ParserParseUptoCardSaid : Prop := Claim7.holds Tryz.pinned (.plain (OpenSpec.upto parserParseSpec)) parserParseUptoCard

/-- THE SECOND FORM's CARD OF 'stelelaw20.ParserFormat'. -/
def parserFormatUptoCard : Claim7 := { stood := { row := parserFormatUptoRow, standIns := [], harness := (true, "349d925f114789ddc711483fa03cf33b50b6480fab7c3358f4752a2ea7ddcb75"), looks := true }, kinds := [], alts := [], laidByText := true, laidKinds := [.data, .data, .data, .data, .sentinel, .sentinel, .pinned], laidTests := true, laidLooks := .later }
def ParserFormatUptoCardSaid : Prop := Claim7.holds Tryz.pinned (.plain (OpenSpec.upto parserFormatSpec)) parserFormatUptoCard

/-- THE SECOND FORM's CARD OF 'stelelaw20.ParserRoundTrip'. -/
def parserRoundTripUptoCard : Claim7 := { stood := { row := parserRoundTripUptoRow, standIns := [], harness := (true, "349d925f114789ddc711483fa03cf33b50b6480fab7c3358f4752a2ea7ddcb75"), looks := true }, kinds := [], alts := [], laidByText := true, laidKinds := [.data, .data, .data, .data, .sentinel, .sentinel, .pinned], laidTests := true, laidLooks := .later }
def ParserRoundTripUptoCardSaid : Prop := Claim7.holds Tryz.pinned (.plain (OpenSpec.upto parserRoundTripSpec)) parserRoundTripUptoCard

/-- THE SECOND FORM's CARD OF 'stelelaw20.ParserLayout'. -/
def parserLayoutUptoCard : Claim7 := { stood := { row := parserLayoutUptoRow, standIns := [], harness := (true, "349d925f114789ddc711483fa03cf33b50b6480fab7c3358f4752a2ea7ddcb75"), looks := true }, kinds := [], alts := [], laidByText := true, laidKinds := [.data, .data, .data, .data, .sentinel, .sentinel, .pinned], laidTests := true, laidLooks := .later }
def ParserLayoutUptoCardSaid : Prop := Claim7.holds Tryz.pinned (.plain (OpenSpec.upto parserLayoutSpec)) parserLayoutUptoCard

/-- THE SECOND FORM's CARD OF 'stelelaw20.ParserParentheses'. -/
def parserParenthesesUptoCard : Claim7 := { stood := { row := parserParenthesesUptoRow, standIns := [], harness := (true, "349d925f114789ddc711483fa03cf33b50b6480fab7c3358f4752a2ea7ddcb75"), looks := true }, kinds := [], alts := [], laidByText := true, laidKinds := [.data, .data, .data, .data, .sentinel, .sentinel, .pinned], laidTests := true, laidLooks := .later }
def ParserParenthesesUptoCardSaid : Prop := Claim7.holds Tryz.pinned (.plain (OpenSpec.upto parserParenthesesSpec)) parserParenthesesUptoCard

/-- THE SECOND FORM's CARD OF 'stelelaw20.ParserPrecedence'. -/
def parserPrecedenceUptoCard : Claim7 := { stood := { row := parserPrecedenceUptoRow, standIns := [], harness := (true, "349d925f114789ddc711483fa03cf33b50b6480fab7c3358f4752a2ea7ddcb75"), looks := true }, kinds := [], alts := [], laidByText := true, laidKinds := [.data, .data, .data, .data, .sentinel, .sentinel, .pinned], laidTests := true, laidLooks := .later }
def ParserPrecedenceUptoCardSaid : Prop := Claim7.holds Tryz.pinned (.plain (OpenSpec.upto parserPrecedenceSpec)) parserPrecedenceUptoCard

/-- THE SECOND FORM's CARD OF 'stelelaw20.ParserConcatenation'. -/
def parserConcatenationUptoCard : Claim7 := { stood := { row := parserConcatenationUptoRow, standIns := [], harness := (true, "349d925f114789ddc711483fa03cf33b50b6480fab7c3358f4752a2ea7ddcb75"), looks := true }, kinds := [], alts := [], laidByText := true, laidKinds := [.data, .data, .data, .data, .sentinel, .sentinel, .pinned], laidTests := true, laidLooks := .later }
def ParserConcatenationUptoCardSaid : Prop := Claim7.holds Tryz.pinned (.plain (OpenSpec.upto parserConcatenationSpec)) parserConcatenationUptoCard

/-- THE SECOND FORM's CARD OF 'stelelaw20.ParserDepth'. -/
def parserDepthUptoCard : Claim7 := { stood := { row := parserDepthUptoRow, standIns := [], harness := (true, "349d925f114789ddc711483fa03cf33b50b6480fab7c3358f4752a2ea7ddcb75"), looks := true }, kinds := [], alts := [], laidByText := true, laidKinds := [.data, .data, .data, .data, .sentinel, .sentinel, .pinned], laidTests := true, laidLooks := .later }
def ParserDepthUptoCardSaid : Prop := Claim7.holds Tryz.pinned (.plain (OpenSpec.upto parserDepthSpec)) parserDepthUptoCard

/-- THE SECOND FORM's CARD OF 'stelelaw20.ParserTokens'. -/
def parserTokensUptoCard : Claim7 := { stood := { row := parserTokensUptoRow, standIns := [], harness := (true, "349d925f114789ddc711483fa03cf33b50b6480fab7c3358f4752a2ea7ddcb75"), looks := true }, kinds := [], alts := [], laidByText := true, laidKinds := [.data, .data, .data, .data, .sentinel, .sentinel, .pinned], laidTests := true, laidLooks := .later }
def ParserTokensUptoCardSaid : Prop := Claim7.holds Tryz.pinned (.plain (OpenSpec.upto parserTokensSpec)) parserTokensUptoCard
end Rows
end Go.Proofs.YtpbcncfbfbghcaaGreatDoor
