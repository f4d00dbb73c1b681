/-
  DERIVED. GIVEN WITH THE SEED: THE CARDS: each row of YtjmnjcjpcmonjaaDoorRows.lean that lists a variable, with what it lists TIED to the program's text (the seventh form; the later family's looks); each row that meets fmt, with fmt's text TOLD by the authors' own Lean function (tested against real Go, not proved from fmt's source: count such statements apart). THE CARD IS WHAT COUNTS. Prove the row's statement (the work); the ties are given (YtjmnjcjpcmonjaaDoorTie.lean); close each card by the builder's one call (the guide's Derived/Test/ToyasCard.lean, 'card_holds'). Laid BY PROGRAM, IN A SANDBOX (cutbox-door.mjs). By AI agents, Wed Nov 11 2026. No macro, syntax, notation, axiom, sorry.
-/
import Derived.Test.YtjmnjcjpcmonjaaDoorRows
import GoSem.ClaimSeven
namespace Go.Proofs.YtjmnjcjpcmonjaaDoor
namespace Rows

/-- THE TIED CARD OF 'stelelaw02.NetstringEncoding'. -/
def netstringEncodingCard : Claim7 := { stood := { row := netstringEncodingRow, standIns := [], harness := (true, "651da5ca12fd801a0695d8261834422fc23a7ec772b46724be9a63ce7ff85f10"), looks := true }, kinds := [], alts := [], laidByText := true, laidKinds := [.data, .data, .data, .sentinel, .sentinel], laidTests := true, laidLooks := .later }
def NetstringEncodingCardSaid : Prop := Claim7.holds Tryd.pinned (.plain (OpenSpec.ofChange netstringEncodingSpec)) netstringEncodingCard

/-- THE TIED CARD OF 'stelelaw02.NetstringReading'. -/
def netstringReadingCard : Claim7 := { stood := { row := netstringReadingRow, standIns := [], harness := (true, "651da5ca12fd801a0695d8261834422fc23a7ec772b46724be9a63ce7ff85f10"), looks := true }, kinds := [], alts := [], laidByText := true, laidKinds := [.data, .data, .data, .sentinel, .sentinel], laidTests := true, laidLooks := .later }
def NetstringReadingCardSaid : Prop := Claim7.holds Tryd.pinned (.plain (OpenSpec.ofChange netstringReadingSpec)) netstringReadingCard

/-- THE TIED CARD OF 'stelelaw02.NetstringList'. -/
def netstringListCard : Claim7 := { stood := { row := netstringListRow, standIns := [], harness := (true, "651da5ca12fd801a0695d8261834422fc23a7ec772b46724be9a63ce7ff85f10"), looks := true }, kinds := [], alts := [], laidByText := true, laidKinds := [.data, .data, .data, .sentinel, .sentinel], laidTests := true, laidLooks := .later }
def NetstringListCardSaid : Prop := Claim7.holds Tryd.pinned (.plain (OpenSpec.ofChange netstringListSpec)) netstringListCard

/-- THE TIED CARD OF 'stelelaw02.NetstringNumberRoundTrip'. -/
def netstringNumberRoundTripCard : Claim7 := { stood := { row := netstringNumberRoundTripRow, standIns := [], harness := (true, "651da5ca12fd801a0695d8261834422fc23a7ec772b46724be9a63ce7ff85f10"), looks := true }, kinds := [], alts := [], laidByText := true, laidKinds := [.data, .data, .data, .sentinel, .sentinel], laidTests := true, laidLooks := .later }
def NetstringNumberRoundTripCardSaid : Prop := Claim7.holds Tryd.pinned (.plain (OpenSpec.ofChange netstringNumberRoundTripSpec)) netstringNumberRoundTripCard

/-- THE TIED CARD OF 'stelelaw02.NetstringStringRoundTrip'. -/
def netstringStringRoundTripCard : Claim7 := { stood := { row := netstringStringRoundTripRow, standIns := [], harness := (true, "651da5ca12fd801a0695d8261834422fc23a7ec772b46724be9a63ce7ff85f10"), looks := true }, kinds := [], alts := [], laidByText := true, laidKinds := [.data, .data, .data, .sentinel, .sentinel], laidTests := true, laidLooks := .later }
def NetstringStringRoundTripCardSaid : Prop := Claim7.holds Tryd.pinned (.plain (OpenSpec.ofChange netstringStringRoundTripSpec)) netstringStringRoundTripCard

/-- THE TIED CARD OF 'stelelaw02.NetstringInjective'. -/
def netstringInjectiveCard : Claim7 := { stood := { row := netstringInjectiveRow, standIns := [], harness := (true, "651da5ca12fd801a0695d8261834422fc23a7ec772b46724be9a63ce7ff85f10"), looks := true }, kinds := [], alts := [], laidByText := true, laidKinds := [.data, .data, .data, .sentinel, .sentinel], laidTests := true, laidLooks := .later }
def NetstringInjectiveCardSaid : Prop := Claim7.holds Tryd.pinned (.plain (OpenSpec.ofChange netstringInjectiveSpec)) netstringInjectiveCard

/-- THE TIED CARD OF 'stelelaw02.NetstringPrefix'. -/
def netstringPrefixCard : Claim7 := { stood := { row := netstringPrefixRow, standIns := [], harness := (true, "651da5ca12fd801a0695d8261834422fc23a7ec772b46724be9a63ce7ff85f10"), looks := true }, kinds := [], alts := [], laidByText := true, laidKinds := [.data, .data, .data, .sentinel, .sentinel], laidTests := true, laidLooks := .later }
def NetstringPrefixCardSaid : Prop := Claim7.holds Tryd.pinned (.plain (OpenSpec.ofChange netstringPrefixSpec)) netstringPrefixCard

/-- THE TIED CARD OF 'stelelaw02.NetstringConcatenation'. -/
def netstringConcatenationCard : Claim7 := { stood := { row := netstringConcatenationRow, standIns := [], harness := (true, "651da5ca12fd801a0695d8261834422fc23a7ec772b46724be9a63ce7ff85f10"), looks := true }, kinds := [], alts := [], laidByText := true, laidKinds := [.data, .data, .data, .sentinel, .sentinel], laidTests := true, laidLooks := .later }
def NetstringConcatenationCardSaid : Prop := Claim7.holds Tryd.pinned (.plain (OpenSpec.ofChange netstringConcatenationSpec)) netstringConcatenationCard

/-- THE TIED CARD OF 'stelelaw02.NetstringNesting'. -/
def netstringNestingCard : Claim7 := { stood := { row := netstringNestingRow, standIns := [], harness := (true, "651da5ca12fd801a0695d8261834422fc23a7ec772b46724be9a63ce7ff85f10"), looks := true }, kinds := [], alts := [], laidByText := true, laidKinds := [.data, .data, .data, .sentinel, .sentinel], laidTests := true, laidLooks := .later }
def NetstringNestingCardSaid : Prop := Claim7.holds Tryd.pinned (.plain (OpenSpec.ofChange netstringNestingSpec)) netstringNestingCard

/-- THE SECOND FORM's CARD OF 'stelelaw02.NetstringEncoding'. -/
def netstringEncodingUptoCard : Claim7 := { stood := { row := netstringEncodingUptoRow, standIns := [], harness := (true, "651da5ca12fd801a0695d8261834422fc23a7ec772b46724be9a63ce7ff85f10"), looks := true }, kinds := [], alts := [], laidByText := true, laidKinds := [.data, .data, .data, .sentinel, .sentinel], laidTests := true, laidLooks := .later }
def NetstringEncodingUptoCardSaid : Prop := Claim7.holds Tryd.pinned (.plain (OpenSpec.upto netstringEncodingSpec)) netstringEncodingUptoCard

/-- THE SECOND FORM's CARD OF 'stelelaw02.NetstringReading'. -/
def netstringReadingUptoCard : Claim7 := { stood := { row := netstringReadingUptoRow, standIns := [], harness := (true, "651da5ca12fd801a0695d8261834422fc23a7ec772b46724be9a63ce7ff85f10"), looks := true }, kinds := [], alts := [], laidByText := true, laidKinds := [.data, .data, .data, .sentinel, .sentinel], laidTests := true, laidLooks := .later }
def NetstringReadingUptoCardSaid : Prop := Claim7.holds Tryd.pinned (.plain (OpenSpec.upto netstringReadingSpec)) netstringReadingUptoCard

/-- THE SECOND FORM's CARD OF 'stelelaw02.NetstringList'. -/
def netstringListUptoCard : Claim7 := { stood := { row := netstringListUptoRow, standIns := [], harness := (true, "651da5ca12fd801a0695d8261834422fc23a7ec772b46724be9a63ce7ff85f10"), looks := true }, kinds := [], alts := [], laidByText := true, laidKinds := [.data, .data, .data, .sentinel, .sentinel], laidTests := true, laidLooks := .later }
def NetstringListUptoCardSaid : Prop := Claim7.holds Tryd.pinned (.plain (OpenSpec.upto netstringListSpec)) netstringListUptoCard

/-- THE SECOND FORM's CARD OF 'stelelaw02.NetstringNumberRoundTrip'. -/
def netstringNumberRoundTripUptoCard : Claim7 := { stood := { row := netstringNumberRoundTripUptoRow, standIns := [], harness := (true, "651da5ca12fd801a0695d8261834422fc23a7ec772b46724be9a63ce7ff85f10"), looks := true }, kinds := [], alts := [], laidByText := true, laidKinds := [.data, .data, .data, .sentinel, .sentinel], laidTests := true, laidLooks := .later }
def NetstringNumberRoundTripUptoCardSaid : Prop := Claim7.holds Tryd.pinned (.plain (OpenSpec.upto netstringNumberRoundTripSpec)) netstringNumberRoundTripUptoCard

/-- THE SECOND FORM's CARD OF 'stelelaw02.NetstringStringRoundTrip'. -/
def netstringStringRoundTripUptoCard : Claim7 := { stood := { row := netstringStringRoundTripUptoRow, standIns := [], harness := (true, "651da5ca12fd801a0695d8261834422fc23a7ec772b46724be9a63ce7ff85f10"), looks := true }, kinds := [], alts := [], laidByText := true, laidKinds := [.data, .data, .data, .sentinel, .sentinel], laidTests := true, laidLooks := .later }
def NetstringStringRoundTripUptoCardSaid : Prop := Claim7.holds Tryd.pinned (.plain (OpenSpec.upto netstringStringRoundTripSpec)) netstringStringRoundTripUptoCard

/-- THE SECOND FORM's CARD OF 'stelelaw02.NetstringInjective'. -/
def netstringInjectiveUptoCard : Claim7 := { stood := { row := netstringInjectiveUptoRow, standIns := [], harness := (true, "651da5ca12fd801a0695d8261834422fc23a7ec772b46724be9a63ce7ff85f10"), looks := true }, kinds := [], alts := [], laidByText := true, laidKinds := [.data, .data, .data, .sentinel, .sentinel], laidTests := true, laidLooks := .later }
def NetstringInjectiveUptoCardSaid : Prop := Claim7.holds Tryd.pinned (.plain (OpenSpec.upto netstringInjectiveSpec)) netstringInjectiveUptoCard

/-- THE SECOND FORM's CARD OF 'stelelaw02.NetstringPrefix'. -/
def netstringPrefixUptoCard : Claim7 := { stood := { row := netstringPrefixUptoRow, standIns := [], harness := (true, "651da5ca12fd801a0695d8261834422fc23a7ec772b46724be9a63ce7ff85f10"), looks := true }, kinds := [], alts := [], laidByText := true, laidKinds := [.data, .data, .data, .sentinel, .sentinel], laidTests := true, laidLooks := .later }
def NetstringPrefixUptoCardSaid : Prop := Claim7.holds Tryd.pinned (.plain (OpenSpec.upto netstringPrefixSpec)) netstringPrefixUptoCard

/-- THE SECOND FORM's CARD OF 'stelelaw02.NetstringConcatenation'. -/
def netstringConcatenationUptoCard : Claim7 := { stood := { row := netstringConcatenationUptoRow, standIns := [], harness := (true, "651da5ca12fd801a0695d8261834422fc23a7ec772b46724be9a63ce7ff85f10"), looks := true }, kinds := [], alts := [], laidByText := true, laidKinds := [.data, .data, .data, .sentinel, .sentinel], laidTests := true, laidLooks := .later }
def NetstringConcatenationUptoCardSaid : Prop := Claim7.holds Tryd.pinned (.plain (OpenSpec.upto netstringConcatenationSpec)) netstringConcatenationUptoCard

/-- THE SECOND FORM's CARD OF 'stelelaw02.NetstringNesting'. -/
def netstringNestingUptoCard : Claim7 := { stood := { row := netstringNestingUptoRow, standIns := [], harness := (true, "651da5ca12fd801a0695d8261834422fc23a7ec772b46724be9a63ce7ff85f10"), looks := true }, kinds := [], alts := [], laidByText := true, laidKinds := [.data, .data, .data, .sentinel, .sentinel], laidTests := true, laidLooks := .later }
def NetstringNestingUptoCardSaid : Prop := Claim7.holds Tryd.pinned (.plain (OpenSpec.upto netstringNestingSpec)) netstringNestingUptoCard
end Rows
end Go.Proofs.YtjmnjcjpcmonjaaDoor
