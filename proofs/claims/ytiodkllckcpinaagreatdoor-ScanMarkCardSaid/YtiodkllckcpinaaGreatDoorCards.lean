/-
  DERIVED. GIVEN WITH THE SEED: THE CARDS: each row of YtiodkllckcpinaaGreatDoorRows.lean that lists a variable, with what it lists TIED to the program's text (the seventh form; the later family's looks); each row that meets fmt, with fmt's text TOLD by the authors' own Lean function (tested against real Go, not proved from fmt's source: count such statements apart). THE CARD IS WHAT COUNTS. Prove the row's statement (the work); the ties are given (YtiodkllckcpinaaGreatDoorTie.lean); close each card by the builder's one call (the guide's Derived/Test/ToyasCard.lean, 'card_holds'). Laid BY PROGRAM, IN A SANDBOX (cutbox-door.mjs). By AI agents, Wed Nov 11 2026. No macro, syntax, notation, axiom, sorry.
-/
import Derived.Test.YtiodkllckcpinaaGreatDoorRows
import GoSem.ClaimSeven
namespace Go.Proofs.YtiodkllckcpinaaGreatDoor
namespace Rows

/-- THE TIED CARD OF 'stelelaw14.ScanPieces'. -/
def scanPiecesCard : Claim7 := { stood := { row := scanPiecesRow, standIns := [], harness := (true, "374ce9660f69b7ca272c037e136d59b31f4d856e67117f4d85843a3eb5b95715"), looks := false }, kinds := [], alts := [], laidByText := true, laidKinds := [.data, .pinned], laidTests := true, laidLooks := .later }
def ScanPiecesCardSaid : Prop := Claim7.holds Tryz.pinned (.plain (OpenSpec.ofChange scanPiecesSpec)) scanPiecesCard

/-- THE TIED CARD OF 'stelelaw14.ScanStrings'. -/
def scanStringsCard : Claim7 := { stood := { row := scanStringsRow, standIns := [], harness := (true, "374ce9660f69b7ca272c037e136d59b31f4d856e67117f4d85843a3eb5b95715"), looks := false }, kinds := [], alts := [], laidByText := true, laidKinds := [.data, .pinned], laidTests := true, laidLooks := .later }
def ScanStringsCardSaid : Prop := Claim7.holds Tryz.pinned (.plain (OpenSpec.ofChange scanStringsSpec)) scanStringsCard

/-- THE TIED CARD OF 'stelelaw14.ScanJoin'. -/
def scanJoinCard : Claim7 := { stood := { row := scanJoinRow, standIns := [], harness := (true, "374ce9660f69b7ca272c037e136d59b31f4d856e67117f4d85843a3eb5b95715"), looks := false }, kinds := [], alts := [], laidByText := true, laidKinds := [.data, .pinned], laidTests := true, laidLooks := .later }
def ScanJoinCardSaid : Prop := Claim7.holds Tryz.pinned (.plain (OpenSpec.ofChange scanJoinSpec)) scanJoinCard

/-- THE TIED CARD OF 'stelelaw14.ScanRoundTrip'. -/
def scanRoundTripCard : Claim7 := { stood := { row := scanRoundTripRow, standIns := [], harness := (true, "374ce9660f69b7ca272c037e136d59b31f4d856e67117f4d85843a3eb5b95715"), looks := false }, kinds := [], alts := [], laidByText := true, laidKinds := [.data, .pinned], laidTests := true, laidLooks := .later }
def ScanRoundTripCardSaid : Prop := Claim7.holds Tryz.pinned (.plain (OpenSpec.ofChange scanRoundTripSpec)) scanRoundTripCard

/-- THE TIED CARD OF 'stelelaw14.ScanDamage'. -/
def scanDamageCard : Claim7 := { stood := { row := scanDamageRow, standIns := [], harness := (true, "374ce9660f69b7ca272c037e136d59b31f4d856e67117f4d85843a3eb5b95715"), looks := false }, kinds := [], alts := [], laidByText := true, laidKinds := [.data, .pinned], laidTests := true, laidLooks := .later }
def ScanDamageCardSaid : Prop := Claim7.holds Tryz.pinned (.plain (OpenSpec.ofChange scanDamageSpec)) scanDamageCard

/-- THE TIED CARD OF 'stelelaw14.ScanTorn'. -/
def scanTornCard : Claim7 := { stood := { row := scanTornRow, standIns := [], harness := (true, "374ce9660f69b7ca272c037e136d59b31f4d856e67117f4d85843a3eb5b95715"), looks := false }, kinds := [], alts := [], laidByText := true, laidKinds := [.data, .pinned], laidTests := true, laidLooks := .later }
def ScanTornCardSaid : Prop := Claim7.holds Tryz.pinned (.plain (OpenSpec.ofChange scanTornSpec)) scanTornCard

/-- THE TIED CARD OF 'stelelaw14.ScanPlacement'. -/
def scanPlacementCard : Claim7 := { stood := { row := scanPlacementRow, standIns := [], harness := (true, "374ce9660f69b7ca272c037e136d59b31f4d856e67117f4d85843a3eb5b95715"), looks := false }, kinds := [], alts := [], laidByText := true, laidKinds := [.data, .pinned], laidTests := true, laidLooks := .later }
def ScanPlacementCardSaid : Prop := Claim7.holds Tryz.pinned (.plain (OpenSpec.ofChange scanPlacementSpec)) scanPlacementCard

/-- THE TIED CARD OF 'stelelaw14.ScanMark'. -/
def scanMarkCard : Claim7 := { stood := { row := scanMarkRow, standIns := [], harness := (true, "374ce9660f69b7ca272c037e136d59b31f4d856e67117f4d85843a3eb5b95715"), looks := false }, kinds := [], alts := [], laidByText := true, laidKinds := [.data, .pinned], laidTests := true, laidLooks := .later }
def ScanMarkCardSaid : Prop := Claim7.holds Tryz.pinned (.plain (OpenSpec.ofChange scanMarkSpec)) scanMarkCard

/-- THE SECOND FORM's CARD OF 'stelelaw14.ScanPieces'. -/
def scanPiecesUptoCard : Claim7 := { stood := { row := scanPiecesUptoRow, standIns := [], harness := (true, "374ce9660f69b7ca272c037e136d59b31f4d856e67117f4d85843a3eb5b95715"), looks := false }, kinds := [], alts := [], laidByText := true, laidKinds := [.data, .pinned], laidTests := true, laidLooks := .later }
def ScanPiecesUptoCardSaid : Prop := Claim7.holds Tryz.pinned (.plain (OpenSpec.upto scanPiecesSpec)) scanPiecesUptoCard

/-- THE SECOND FORM's CARD OF 'stelelaw14.ScanStrings'. -/
def scanStringsUptoCard : Claim7 := { stood := { row := scanStringsUptoRow, standIns := [], harness := (true, "374ce9660f69b7ca272c037e136d59b31f4d856e67117f4d85843a3eb5b95715"), looks := false }, kinds := [], alts := [], laidByText := true, laidKinds := [.data, .pinned], laidTests := true, laidLooks := .later }
def ScanStringsUptoCardSaid : Prop := Claim7.holds Tryz.pinned (.plain (OpenSpec.upto scanStringsSpec)) scanStringsUptoCard

/-- THE SECOND FORM's CARD OF 'stelelaw14.ScanJoin'. -/
def scanJoinUptoCard : Claim7 := { stood := { row := scanJoinUptoRow, standIns := [], harness := (true, "374ce9660f69b7ca272c037e136d59b31f4d856e67117f4d85843a3eb5b95715"), looks := false }, kinds := [], alts := [], laidByText := true, laidKinds := [.data, .pinned], laidTests := true, laidLooks := .later }
def ScanJoinUptoCardSaid : Prop := Claim7.holds Tryz.pinned (.plain (OpenSpec.upto scanJoinSpec)) scanJoinUptoCard

/-- THE SECOND FORM's CARD OF 'stelelaw14.ScanRoundTrip'. -/
def scanRoundTripUptoCard : Claim7 := { stood := { row := scanRoundTripUptoRow, standIns := [], harness := (true, "374ce9660f69b7ca272c037e136d59b31f4d856e67117f4d85843a3eb5b95715"), looks := false }, kinds := [], alts := [], laidByText := true, laidKinds := [.data, .pinned], laidTests := true, laidLooks := .later }
def ScanRoundTripUptoCardSaid : Prop := Claim7.holds Tryz.pinned (.plain (OpenSpec.upto scanRoundTripSpec)) scanRoundTripUptoCard

/-- THE SECOND FORM's CARD OF 'stelelaw14.ScanDamage'. -/
def scanDamageUptoCard : Claim7 := { stood := { row := scanDamageUptoRow, standIns := [], harness := (true, "374ce9660f69b7ca272c037e136d59b31f4d856e67117f4d85843a3eb5b95715"), looks := false }, kinds := [], alts := [], laidByText := true, laidKinds := [.data, .pinned], laidTests := true, laidLooks := .later }
def ScanDamageUptoCardSaid : Prop := Claim7.holds Tryz.pinned (.plain (OpenSpec.upto scanDamageSpec)) scanDamageUptoCard

/-- THE SECOND FORM's CARD OF 'stelelaw14.ScanTorn'. -/
def scanTornUptoCard : Claim7 := { stood := { row := scanTornUptoRow, standIns := [], harness := (true, "374ce9660f69b7ca272c037e136d59b31f4d856e67117f4d85843a3eb5b95715"), looks := false }, kinds := [], alts := [], laidByText := true, laidKinds := [.data, .pinned], laidTests := true, laidLooks := .later }
def ScanTornUptoCardSaid : Prop := Claim7.holds Tryz.pinned (.plain (OpenSpec.upto scanTornSpec)) scanTornUptoCard

/-- THE SECOND FORM's CARD OF 'stelelaw14.ScanPlacement'. -/
def scanPlacementUptoCard : Claim7 := { stood := { row := scanPlacementUptoRow, standIns := [], harness := (true, "374ce9660f69b7ca272c037e136d59b31f4d856e67117f4d85843a3eb5b95715"), looks := false }, kinds := [], alts := [], laidByText := true, laidKinds := [.data, .pinned], laidTests := true, laidLooks := .later }
def ScanPlacementUptoCardSaid : Prop := Claim7.holds Tryz.pinned (.plain (OpenSpec.upto scanPlacementSpec)) scanPlacementUptoCard

/-- THE SECOND FORM's CARD OF 'stelelaw14.ScanMark'. -/
def scanMarkUptoCard : Claim7 := { stood := { row := scanMarkUptoRow, standIns := [], harness := (true, "374ce9660f69b7ca272c037e136d59b31f4d856e67117f4d85843a3eb5b95715"), looks := false }, kinds := [], alts := [], laidByText := true, laidKinds := [.data, .pinned], laidTests := true, laidLooks := .later }
def ScanMarkUptoCardSaid : Prop := Claim7.holds Tryz.pinned (.plain (OpenSpec.upto scanMarkSpec)) scanMarkUptoCard
end Rows
end Go.Proofs.YtiodkllckcpinaaGreatDoor
