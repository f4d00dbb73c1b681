/-
  DERIVED. GIVEN WITH THE SEED: THE CARDS: each row of YtgpdfkallgjocaaGreatDoorRows.lean that lists a variable, with what it lists TIED to the program's text (the seventh form; the later family's looks); each row that meets fmt, with fmt's text TOLD by the authors' own Lean function (tested against real Go, not proved from fmt's source: count such statements apart). THE CARD IS WHAT COUNTS. Prove the row's statement (the work); the ties are given (YtgpdfkallgjocaaGreatDoorTie.lean); close each card by the builder's one call (the guide's Derived/Test/ToyasCard.lean, 'card_holds'). Laid BY PROGRAM, IN A SANDBOX (cutbox-door.mjs). By AI agents, Wed Nov 11 2026. No macro, syntax, notation, axiom, sorry.
-/
import Derived.Test.YtgpdfkallgjocaaGreatDoorRows
import GoSem.ClaimSeven
namespace Go.Proofs.YtgpdfkallgjocaaGreatDoor
namespace Rows

/-- THE TIED CARD OF 'stelelaw13.FrameMessages'. -/
def frameMessagesCard : Claim7 := { stood := { row := frameMessagesRow, standIns := [], harness := (true, "ed338477532645b9936d3fb89cac0f2d5ce378504d92bde3f50519a4a43d6597"), looks := false }, kinds := [], alts := [], laidByText := true, laidKinds := [.data, .pinned], laidTests := true, laidLooks := .later }
def FrameMessagesCardSaid : Prop := Claim7.holds Tryz.pinned (.plain (OpenSpec.ofChange frameMessagesSpec)) frameMessagesCard

/-- THE TIED CARD OF 'stelelaw13.FrameEncodes'. -/
def frameEncodesCard : Claim7 := { stood := { row := frameEncodesRow, standIns := [], harness := (true, "ed338477532645b9936d3fb89cac0f2d5ce378504d92bde3f50519a4a43d6597"), looks := false }, kinds := [], alts := [], laidByText := true, laidKinds := [.data, .pinned], laidTests := true, laidLooks := .later }
def FrameEncodesCardSaid : Prop := Claim7.holds Tryz.pinned (.plain (OpenSpec.ofChange frameEncodesSpec)) frameEncodesCard

/-- THE TIED CARD OF 'stelelaw13.FrameDecodes'. -/
def frameDecodesCard : Claim7 := { stood := { row := frameDecodesRow, standIns := [], harness := (true, "ed338477532645b9936d3fb89cac0f2d5ce378504d92bde3f50519a4a43d6597"), looks := false }, kinds := [], alts := [], laidByText := true, laidKinds := [.data, .pinned], laidTests := true, laidLooks := .later }
def FrameDecodesCardSaid : Prop := Claim7.holds Tryz.pinned (.plain (OpenSpec.ofChange frameDecodesSpec)) frameDecodesCard

/-- THE TIED CARD OF 'stelelaw13.FrameRoundTrip'. -/
def frameRoundTripCard : Claim7 := { stood := { row := frameRoundTripRow, standIns := [], harness := (true, "ed338477532645b9936d3fb89cac0f2d5ce378504d92bde3f50519a4a43d6597"), looks := false }, kinds := [], alts := [], laidByText := true, laidKinds := [.data, .pinned], laidTests := true, laidLooks := .later }
def FrameRoundTripCardSaid : Prop := Claim7.holds Tryz.pinned (.plain (OpenSpec.ofChange frameRoundTripSpec)) frameRoundTripCard

/-- THE TIED CARD OF 'stelelaw13.FrameScattered'. -/
def frameScatteredCard : Claim7 := { stood := { row := frameScatteredRow, standIns := [], harness := (true, "ed338477532645b9936d3fb89cac0f2d5ce378504d92bde3f50519a4a43d6597"), looks := false }, kinds := [], alts := [], laidByText := true, laidKinds := [.data, .pinned], laidTests := true, laidLooks := .later }
def FrameScatteredCardSaid : Prop := Claim7.holds Tryz.pinned (.plain (OpenSpec.ofChange frameScatteredSpec)) frameScatteredCard

/-- THE TIED CARD OF 'stelelaw13.FrameBurst'. -/
def frameBurstCard : Claim7 := { stood := { row := frameBurstRow, standIns := [], harness := (true, "ed338477532645b9936d3fb89cac0f2d5ce378504d92bde3f50519a4a43d6597"), looks := false }, kinds := [], alts := [], laidByText := true, laidKinds := [.data, .pinned], laidTests := true, laidLooks := .later }
def FrameBurstCardSaid : Prop := Claim7.holds Tryz.pinned (.plain (OpenSpec.ofChange frameBurstSpec)) frameBurstCard

/-- THE TIED CARD OF 'stelelaw13.FrameErasures'. -/
def frameErasuresCard : Claim7 := { stood := { row := frameErasuresRow, standIns := [], harness := (true, "ed338477532645b9936d3fb89cac0f2d5ce378504d92bde3f50519a4a43d6597"), looks := false }, kinds := [], alts := [], laidByText := true, laidKinds := [.data, .pinned], laidTests := true, laidLooks := .later }
def FrameErasuresCardSaid : Prop := Claim7.holds Tryz.pinned (.plain (OpenSpec.ofChange frameErasuresSpec)) frameErasuresCard

/-- THE SECOND FORM's CARD OF 'stelelaw13.FrameMessages'. -/
def frameMessagesUptoCard : Claim7 := { stood := { row := frameMessagesUptoRow, standIns := [], harness := (true, "ed338477532645b9936d3fb89cac0f2d5ce378504d92bde3f50519a4a43d6597"), looks := false }, kinds := [], alts := [], laidByText := true, laidKinds := [.data, .pinned], laidTests := true, laidLooks := .later }
def FrameMessagesUptoCardSaid : Prop := Claim7.holds Tryz.pinned (.plain (OpenSpec.upto frameMessagesSpec)) frameMessagesUptoCard

/-- THE SECOND FORM's CARD OF 'stelelaw13.FrameEncodes'. -/
def frameEncodesUptoCard : Claim7 := { stood := { row := frameEncodesUptoRow, standIns := [], harness := (true, "ed338477532645b9936d3fb89cac0f2d5ce378504d92bde3f50519a4a43d6597"), looks := false }, kinds := [], alts := [], laidByText := true, laidKinds := [.data, .pinned], laidTests := true, laidLooks := .later }
def FrameEncodesUptoCardSaid : Prop := Claim7.holds Tryz.pinned (.plain (OpenSpec.upto frameEncodesSpec)) frameEncodesUptoCard

/-- THE SECOND FORM's CARD OF 'stelelaw13.FrameDecodes'. -/
def frameDecodesUptoCard : Claim7 := { stood := { row := frameDecodesUptoRow, standIns := [], harness := (true, "ed338477532645b9936d3fb89cac0f2d5ce378504d92bde3f50519a4a43d6597"), looks := false }, kinds := [], alts := [], laidByText := true, laidKinds := [.data, .pinned], laidTests := true, laidLooks := .later }
def FrameDecodesUptoCardSaid : Prop := Claim7.holds Tryz.pinned (.plain (OpenSpec.upto frameDecodesSpec)) frameDecodesUptoCard

/-- THE SECOND FORM's CARD OF 'stelelaw13.FrameRoundTrip'. -/
def frameRoundTripUptoCard : Claim7 := { stood := { row := frameRoundTripUptoRow, standIns := [], harness := (true, "ed338477532645b9936d3fb89cac0f2d5ce378504d92bde3f50519a4a43d6597"), looks := false }, kinds := [], alts := [], laidByText := true, laidKinds := [.data, .pinned], laidTests := true, laidLooks := .later }
def FrameRoundTripUptoCardSaid : Prop := Claim7.holds Tryz.pinned (.plain (OpenSpec.upto frameRoundTripSpec)) frameRoundTripUptoCard

/-- THE SECOND FORM's CARD OF 'stelelaw13.FrameScattered'. -/
def frameScatteredUptoCard : Claim7 := { stood := { row := frameScatteredUptoRow, standIns := [], harness := (true, "ed338477532645b9936d3fb89cac0f2d5ce378504d92bde3f50519a4a43d6597"), looks := false }, kinds := [], alts := [], laidByText := true, laidKinds := [.data, .pinned], laidTests := true, laidLooks := .later }
def FrameScatteredUptoCardSaid : Prop := Claim7.holds Tryz.pinned (.plain (OpenSpec.upto frameScatteredSpec)) frameScatteredUptoCard

/-- THE SECOND FORM's CARD OF 'stelelaw13.FrameBurst'. -/
def frameBurstUptoCard : Claim7 := { stood := { row := frameBurstUptoRow, standIns := [], harness := (true, "ed338477532645b9936d3fb89cac0f2d5ce378504d92bde3f50519a4a43d6597"), looks := false }, kinds := [], alts := [], laidByText := true, laidKinds := [.data, .pinned], laidTests := true, laidLooks := .later }
def FrameBurstUptoCardSaid : Prop := Claim7.holds Tryz.pinned (.plain (OpenSpec.upto frameBurstSpec)) frameBurstUptoCard

/-- THE SECOND FORM's CARD OF 'stelelaw13.FrameErasures'. -/
def frameErasuresUptoCard : Claim7 := { stood := { row := frameErasuresUptoRow, standIns := [], harness := (true, "ed338477532645b9936d3fb89cac0f2d5ce378504d92bde3f50519a4a43d6597"), looks := false }, kinds := [], alts := [], laidByText := true, laidKinds := [.data, .pinned], laidTests := true, laidLooks := .later }
def FrameErasuresUptoCardSaid : Prop := Claim7.holds Tryz.pinned (.plain (OpenSpec.upto frameErasuresSpec)) frameErasuresUptoCard
end Rows
end Go.Proofs.YtgpdfkallgjocaaGreatDoor
