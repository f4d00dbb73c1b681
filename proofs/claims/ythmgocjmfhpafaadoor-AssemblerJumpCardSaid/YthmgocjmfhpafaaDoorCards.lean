/-
  DERIVED. GIVEN WITH THE SEED: THE CARDS: each row of YthmgocjmfhpafaaDoorRows.lean that lists a variable, with what it lists TIED to the program's text (the seventh form; the later family's looks); each row that meets fmt, with fmt's text TOLD by the authors' own Lean function (tested against real Go, not proved from fmt's source: count such statements apart). THE CARD IS WHAT COUNTS. Prove the row's statement (the work); the ties are given (YthmgocjmfhpafaaDoorTie.lean); close each card by the builder's one call (the guide's Derived/Test/ToyasCard.lean, 'card_holds'). Laid BY PROGRAM, IN A SANDBOX (cutbox-door.mjs). By AI agents, Wed Nov 11 2026. No macro, syntax, notation, axiom, sorry.
-/
import Derived.Test.YthmgocjmfhpafaaDoorRows
import GoSem.ClaimSeven
namespace Go.Proofs.YthmgocjmfhpafaaDoor
namespace Rows

/-- THE TIED CARD OF 'stelelaw18.AssemblerResult'. -/
def assemblerResultCard : Claim7 := { stood := { row := assemblerResultRow, standIns := [], harness := (true, "8b25a1815721fce6d87365a38d73312e531745095d73c07491ec28ee109b5536"), looks := true }, kinds := [], alts := [], laidByText := true, laidKinds := [.data, .data, .data], laidTests := true, laidLooks := .later }
def AssemblerResultCardSaid : Prop := Claim7.holds Tryd.pinned (.plain (OpenSpec.ofChange assemblerResultSpec)) assemblerResultCard

/-- THE TIED CARD OF 'stelelaw18.AssemblerWords'. -/
def assemblerWordsCard : Claim7 := { stood := { row := assemblerWordsRow, standIns := [], harness := (true, "8b25a1815721fce6d87365a38d73312e531745095d73c07491ec28ee109b5536"), looks := true }, kinds := [], alts := [], laidByText := true, laidKinds := [.data, .data, .data], laidTests := true, laidLooks := .later }
def AssemblerWordsCardSaid : Prop := Claim7.holds Tryd.pinned (.plain (OpenSpec.ofChange assemblerWordsSpec)) assemblerWordsCard

/-- THE TIED CARD OF 'stelelaw18.AssemblerLabels'. -/
def assemblerLabelsCard : Claim7 := { stood := { row := assemblerLabelsRow, standIns := [], harness := (true, "8b25a1815721fce6d87365a38d73312e531745095d73c07491ec28ee109b5536"), looks := true }, kinds := [], alts := [], laidByText := true, laidKinds := [.data, .data, .data], laidTests := true, laidLooks := .later }
def AssemblerLabelsCardSaid : Prop := Claim7.holds Tryd.pinned (.plain (OpenSpec.ofChange assemblerLabelsSpec)) assemblerLabelsCard

/-- THE TIED CARD OF 'stelelaw18.AssemblerOrigin'. -/
def assemblerOriginCard : Claim7 := { stood := { row := assemblerOriginRow, standIns := [], harness := (true, "8b25a1815721fce6d87365a38d73312e531745095d73c07491ec28ee109b5536"), looks := true }, kinds := [], alts := [], laidByText := true, laidKinds := [.data, .data, .data], laidTests := true, laidLooks := .later }
def AssemblerOriginCardSaid : Prop := Claim7.holds Tryd.pinned (.plain (OpenSpec.ofChange assemblerOriginSpec)) assemblerOriginCard

/-- THE TIED CARD OF 'stelelaw18.AssemblerLayout'. -/
def assemblerLayoutCard : Claim7 := { stood := { row := assemblerLayoutRow, standIns := [], harness := (true, "8b25a1815721fce6d87365a38d73312e531745095d73c07491ec28ee109b5536"), looks := true }, kinds := [], alts := [], laidByText := true, laidKinds := [.data, .data, .data, .data, .pinned], laidTests := true, laidLooks := .later }
def AssemblerLayoutCardSaid : Prop := Claim7.holds Tryd.pinned (.plain (OpenSpec.ofChange assemblerLayoutSpec)) assemblerLayoutCard

/-- THE TIED CARD OF 'stelelaw18.AssemblerRoundTrip'. -/
def assemblerRoundTripCard : Claim7 := { stood := { row := assemblerRoundTripRow, standIns := [], harness := (true, "8b25a1815721fce6d87365a38d73312e531745095d73c07491ec28ee109b5536"), looks := true }, kinds := [], alts := [], laidByText := true, laidKinds := [.data, .data, .data, .data, .pinned], laidTests := true, laidLooks := .later }
def AssemblerRoundTripCardSaid : Prop := Claim7.holds Tryd.pinned (.plain (OpenSpec.ofChange assemblerRoundTripSpec)) assemblerRoundTripCard

/-- THE TIED CARD OF 'stelelaw18.AssemblerConcatenation'. -/
def assemblerConcatenationCard : Claim7 := { stood := { row := assemblerConcatenationRow, standIns := [], harness := (true, "8b25a1815721fce6d87365a38d73312e531745095d73c07491ec28ee109b5536"), looks := true }, kinds := [], alts := [], laidByText := true, laidKinds := [.data, .data, .data], laidTests := true, laidLooks := .later }
def AssemblerConcatenationCardSaid : Prop := Claim7.holds Tryd.pinned (.plain (OpenSpec.ofChange assemblerConcatenationSpec)) assemblerConcatenationCard

/-- THE TIED CARD OF 'stelelaw18.AssemblerJump'. -/
def assemblerJumpCard : Claim7 := { stood := { row := assemblerJumpRow, standIns := [], harness := (true, "8b25a1815721fce6d87365a38d73312e531745095d73c07491ec28ee109b5536"), looks := true }, kinds := [], alts := [], laidByText := true, laidKinds := [.data, .data, .data], laidTests := true, laidLooks := .later }
def AssemblerJumpCardSaid : Prop := Claim7.holds Tryd.pinned (.plain (OpenSpec.ofChange assemblerJumpSpec)) assemblerJumpCard

/-- THE SECOND FORM's CARD OF 'stelelaw18.AssemblerResult'. -/
def assemblerResultUptoCard : Claim7 := { stood := { row := assemblerResultUptoRow, standIns := [], harness := (true, "8b25a1815721fce6d87365a38d73312e531745095d73c07491ec28ee109b5536"), looks := true }, kinds := [], alts := [], laidByText := true, laidKinds := [.data, .data, .data], laidTests := true, laidLooks := .later }
def AssemblerResultUptoCardSaid : Prop := Claim7.holds Tryd.pinned (.plain (OpenSpec.upto assemblerResultSpec)) assemblerResultUptoCard

/-- THE SECOND FORM's CARD OF 'stelelaw18.AssemblerWords'. -/
def assemblerWordsUptoCard : Claim7 := { stood := { row := assemblerWordsUptoRow, standIns := [], harness := (true, "8b25a1815721fce6d87365a38d73312e531745095d73c07491ec28ee109b5536"), looks := true }, kinds := [], alts := [], laidByText := true, laidKinds := [.data, .data, .data], laidTests := true, laidLooks := .later }
def AssemblerWordsUptoCardSaid : Prop := Claim7.holds Tryd.pinned (.plain (OpenSpec.upto assemblerWordsSpec)) assemblerWordsUptoCard

/-- THE SECOND FORM's CARD OF 'stelelaw18.AssemblerLabels'. -/
def assemblerLabelsUptoCard : Claim7 := { stood := { row := assemblerLabelsUptoRow, standIns := [], harness := (true, "8b25a1815721fce6d87365a38d73312e531745095d73c07491ec28ee109b5536"), looks := true }, kinds := [], alts := [], laidByText := true, laidKinds := [.data, .data, .data], laidTests := true, laidLooks := .later }
def AssemblerLabelsUptoCardSaid : Prop := Claim7.holds Tryd.pinned (.plain (OpenSpec.upto assemblerLabelsSpec)) assemblerLabelsUptoCard

/-- THE SECOND FORM's CARD OF 'stelelaw18.AssemblerOrigin'. -/
def assemblerOriginUptoCard : Claim7 := { stood := { row := assemblerOriginUptoRow, standIns := [], harness := (true, "8b25a1815721fce6d87365a38d73312e531745095d73c07491ec28ee109b5536"), looks := true }, kinds := [], alts := [], laidByText := true, laidKinds := [.data, .data, .data], laidTests := true, laidLooks := .later }
def AssemblerOriginUptoCardSaid : Prop := Claim7.holds Tryd.pinned (.plain (OpenSpec.upto assemblerOriginSpec)) assemblerOriginUptoCard

/-- THE SECOND FORM's CARD OF 'stelelaw18.AssemblerLayout'. -/
def assemblerLayoutUptoCard : Claim7 := { stood := { row := assemblerLayoutUptoRow, standIns := [], harness := (true, "8b25a1815721fce6d87365a38d73312e531745095d73c07491ec28ee109b5536"), looks := true }, kinds := [], alts := [], laidByText := true, laidKinds := [.data, .data, .data, .data, .pinned], laidTests := true, laidLooks := .later }
def AssemblerLayoutUptoCardSaid : Prop := Claim7.holds Tryd.pinned (.plain (OpenSpec.upto assemblerLayoutSpec)) assemblerLayoutUptoCard

/-- THE SECOND FORM's CARD OF 'stelelaw18.AssemblerRoundTrip'. -/
def assemblerRoundTripUptoCard : Claim7 := { stood := { row := assemblerRoundTripUptoRow, standIns := [], harness := (true, "8b25a1815721fce6d87365a38d73312e531745095d73c07491ec28ee109b5536"), looks := true }, kinds := [], alts := [], laidByText := true, laidKinds := [.data, .data, .data, .data, .pinned], laidTests := true, laidLooks := .later }
def AssemblerRoundTripUptoCardSaid : Prop := Claim7.holds Tryd.pinned (.plain (OpenSpec.upto assemblerRoundTripSpec)) assemblerRoundTripUptoCard

/-- THE SECOND FORM's CARD OF 'stelelaw18.AssemblerConcatenation'. -/
def assemblerConcatenationUptoCard : Claim7 := { stood := { row := assemblerConcatenationUptoRow, standIns := [], harness := (true, "8b25a1815721fce6d87365a38d73312e531745095d73c07491ec28ee109b5536"), looks := true }, kinds := [], alts := [], laidByText := true, laidKinds := [.data, .data, .data], laidTests := true, laidLooks := .later }
def AssemblerConcatenationUptoCardSaid : Prop := Claim7.holds Tryd.pinned (.plain (OpenSpec.upto assemblerConcatenationSpec)) assemblerConcatenationUptoCard

/-- THE SECOND FORM's CARD OF 'stelelaw18.AssemblerJump'. -/
def assemblerJumpUptoCard : Claim7 := { stood := { row := assemblerJumpUptoRow, standIns := [], harness := (true, "8b25a1815721fce6d87365a38d73312e531745095d73c07491ec28ee109b5536"), looks := true }, kinds := [], alts := [], laidByText := true, laidKinds := [.data, .data, .data], laidTests := true, laidLooks := .later }
def AssemblerJumpUptoCardSaid : Prop := Claim7.holds Tryd.pinned (.plain (OpenSpec.upto assemblerJumpSpec)) assemblerJumpUptoCard
end Rows
end Go.Proofs.YthmgocjmfhpafaaDoor
