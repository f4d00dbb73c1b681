/-
  DERIVED. GIVEN WITH THE SEED: THE CARDS: each row of YtkppepdniehoiaaDoorRows.lean that lists a variable, with what it lists TIED to the program's text (the seventh form; the later family's looks); each row that meets fmt, with fmt's text TOLD by the authors' own Lean function (tested against real Go, not proved from fmt's source: count such statements apart). THE CARD IS WHAT COUNTS. Prove the row's statement (the work); the ties are given (YtkppepdniehoiaaDoorTie.lean); close each card by the builder's one call (the guide's Derived/Test/ToyasCard.lean, 'card_holds'). Laid BY PROGRAM, IN A SANDBOX (cutbox-door.mjs). By AI agents, Wed Nov 11 2026. No macro, syntax, notation, axiom, sorry.
-/
import Derived.Test.YtkppepdniehoiaaDoorRows
import GoSem.ClaimSeven
namespace Go.Proofs.YtkppepdniehoiaaDoor
namespace Rows

/-- THE TIED CARD OF 'stelelaw04.Blake2sDigest'. -/
def blake2sDigestCard : Claim7 := { stood := { row := blake2sDigestRow, standIns := [], harness := (true, "9f55aad38c16f4215ceeb10bbbb9dc5038b34a81cd5670a1d9318b646a15a9fd"), looks := false }, kinds := [], alts := [], laidByText := true, laidKinds := [.data, .data], laidTests := true, laidLooks := .later }
def Blake2sDigestCardSaid : Prop := Claim7.holds Tryd.pinned (.plain (OpenSpec.ofChange blake2sDigestSpec)) blake2sDigestCard

/-- THE TIED CARD OF 'stelelaw04.Blake2sConcatenation'. -/
def blake2sConcatenationCard : Claim7 := { stood := { row := blake2sConcatenationRow, standIns := [], harness := (true, "9f55aad38c16f4215ceeb10bbbb9dc5038b34a81cd5670a1d9318b646a15a9fd"), looks := false }, kinds := [], alts := [], laidByText := true, laidKinds := [.data, .data], laidTests := true, laidLooks := .later }
def Blake2sConcatenationCardSaid : Prop := Claim7.holds Tryd.pinned (.plain (OpenSpec.ofChange blake2sConcatenationSpec)) blake2sConcatenationCard

/-- THE TIED CARD OF 'stelelaw04.Blake2sCompress'. -/
def blake2sCompressCard : Claim7 := { stood := { row := blake2sCompressRow, standIns := [], harness := (true, "9f55aad38c16f4215ceeb10bbbb9dc5038b34a81cd5670a1d9318b646a15a9fd"), looks := false }, kinds := [], alts := [], laidByText := true, laidKinds := [.data, .data], laidTests := true, laidLooks := .later }
def Blake2sCompressCardSaid : Prop := Claim7.holds Tryd.pinned (.plain (OpenSpec.ofChange blake2sCompressSpec)) blake2sCompressCard

/-- THE TIED CARD OF 'stelelaw04.Blake2sIteration'. -/
def blake2sIterationCard : Claim7 := { stood := { row := blake2sIterationRow, standIns := [], harness := (true, "9f55aad38c16f4215ceeb10bbbb9dc5038b34a81cd5670a1d9318b646a15a9fd"), looks := false }, kinds := [], alts := [], laidByText := true, laidKinds := [.data, .data], laidTests := true, laidLooks := .later }
def Blake2sIterationCardSaid : Prop := Claim7.holds Tryd.pinned (.plain (OpenSpec.ofChange blake2sIterationSpec)) blake2sIterationCard

/-- THE TIED CARD OF 'stelelaw04.Blake2sHex'. -/
def blake2sHexCard : Claim7 := { stood := { row := blake2sHexRow, standIns := [], harness := (true, "9f55aad38c16f4215ceeb10bbbb9dc5038b34a81cd5670a1d9318b646a15a9fd"), looks := false }, kinds := [], alts := [], laidByText := true, laidKinds := [.data, .data], laidTests := true, laidLooks := .later }
def Blake2sHexCardSaid : Prop := Claim7.holds Tryd.pinned (.plain (OpenSpec.ofChange blake2sHexSpec)) blake2sHexCard

/-- THE TIED CARD OF 'stelelaw04.Blake2sMerkle'. -/
def blake2sMerkleCard : Claim7 := { stood := { row := blake2sMerkleRow, standIns := [], harness := (true, "9f55aad38c16f4215ceeb10bbbb9dc5038b34a81cd5670a1d9318b646a15a9fd"), looks := false }, kinds := [], alts := [], laidByText := true, laidKinds := [.data, .data], laidTests := true, laidLooks := .later }
def Blake2sMerkleCardSaid : Prop := Claim7.holds Tryd.pinned (.plain (OpenSpec.ofChange blake2sMerkleSpec)) blake2sMerkleCard

/-- THE TIED CARD OF 'stelelaw04.Blake2sTreeGrowth'. -/
def blake2sTreeGrowthCard : Claim7 := { stood := { row := blake2sTreeGrowthRow, standIns := [], harness := (true, "9f55aad38c16f4215ceeb10bbbb9dc5038b34a81cd5670a1d9318b646a15a9fd"), looks := false }, kinds := [], alts := [], laidByText := true, laidKinds := [.data, .data], laidTests := true, laidLooks := .later }
def Blake2sTreeGrowthCardSaid : Prop := Claim7.holds Tryd.pinned (.plain (OpenSpec.ofChange blake2sTreeGrowthSpec)) blake2sTreeGrowthCard

/-- THE TIED CARD OF 'stelelaw04.Blake2sHexConcatenation'. -/
def blake2sHexConcatenationCard : Claim7 := { stood := { row := blake2sHexConcatenationRow, standIns := [], harness := (true, "9f55aad38c16f4215ceeb10bbbb9dc5038b34a81cd5670a1d9318b646a15a9fd"), looks := false }, kinds := [], alts := [], laidByText := true, laidKinds := [.data, .data], laidTests := true, laidLooks := .later }
def Blake2sHexConcatenationCardSaid : Prop := Claim7.holds Tryd.pinned (.plain (OpenSpec.ofChange blake2sHexConcatenationSpec)) blake2sHexConcatenationCard

/-- THE SECOND FORM's CARD OF 'stelelaw04.Blake2sDigest'. -/
def blake2sDigestUptoCard : Claim7 := { stood := { row := blake2sDigestUptoRow, standIns := [], harness := (true, "9f55aad38c16f4215ceeb10bbbb9dc5038b34a81cd5670a1d9318b646a15a9fd"), looks := false }, kinds := [], alts := [], laidByText := true, laidKinds := [.data, .data], laidTests := true, laidLooks := .later }
def Blake2sDigestUptoCardSaid : Prop := Claim7.holds Tryd.pinned (.plain (OpenSpec.upto blake2sDigestSpec)) blake2sDigestUptoCard

/-- THE SECOND FORM's CARD OF 'stelelaw04.Blake2sConcatenation'. -/
def blake2sConcatenationUptoCard : Claim7 := { stood := { row := blake2sConcatenationUptoRow, standIns := [], harness := (true, "9f55aad38c16f4215ceeb10bbbb9dc5038b34a81cd5670a1d9318b646a15a9fd"), looks := false }, kinds := [], alts := [], laidByText := true, laidKinds := [.data, .data], laidTests := true, laidLooks := .later }
def Blake2sConcatenationUptoCardSaid : Prop := Claim7.holds Tryd.pinned (.plain (OpenSpec.upto blake2sConcatenationSpec)) blake2sConcatenationUptoCard

/-- THE SECOND FORM's CARD OF 'stelelaw04.Blake2sCompress'. -/
def blake2sCompressUptoCard : Claim7 := { stood := { row := blake2sCompressUptoRow, standIns := [], harness := (true, "9f55aad38c16f4215ceeb10bbbb9dc5038b34a81cd5670a1d9318b646a15a9fd"), looks := false }, kinds := [], alts := [], laidByText := true, laidKinds := [.data, .data], laidTests := true, laidLooks := .later }
def Blake2sCompressUptoCardSaid : Prop := Claim7.holds Tryd.pinned (.plain (OpenSpec.upto blake2sCompressSpec)) blake2sCompressUptoCard

/-- THE SECOND FORM's CARD OF 'stelelaw04.Blake2sIteration'. -/
def blake2sIterationUptoCard : Claim7 := { stood := { row := blake2sIterationUptoRow, standIns := [], harness := (true, "9f55aad38c16f4215ceeb10bbbb9dc5038b34a81cd5670a1d9318b646a15a9fd"), looks := false }, kinds := [], alts := [], laidByText := true, laidKinds := [.data, .data], laidTests := true, laidLooks := .later }
def Blake2sIterationUptoCardSaid : Prop := Claim7.holds Tryd.pinned (.plain (OpenSpec.upto blake2sIterationSpec)) blake2sIterationUptoCard

/-- THE SECOND FORM's CARD OF 'stelelaw04.Blake2sHex'. -/
def blake2sHexUptoCard : Claim7 := { stood := { row := blake2sHexUptoRow, standIns := [], harness := (true, "9f55aad38c16f4215ceeb10bbbb9dc5038b34a81cd5670a1d9318b646a15a9fd"), looks := false }, kinds := [], alts := [], laidByText := true, laidKinds := [.data, .data], laidTests := true, laidLooks := .later }
def Blake2sHexUptoCardSaid : Prop := Claim7.holds Tryd.pinned (.plain (OpenSpec.upto blake2sHexSpec)) blake2sHexUptoCard

/-- THE SECOND FORM's CARD OF 'stelelaw04.Blake2sMerkle'. -/
def blake2sMerkleUptoCard : Claim7 := { stood := { row := blake2sMerkleUptoRow, standIns := [], harness := (true, "9f55aad38c16f4215ceeb10bbbb9dc5038b34a81cd5670a1d9318b646a15a9fd"), looks := false }, kinds := [], alts := [], laidByText := true, laidKinds := [.data, .data], laidTests := true, laidLooks := .later }
def Blake2sMerkleUptoCardSaid : Prop := Claim7.holds Tryd.pinned (.plain (OpenSpec.upto blake2sMerkleSpec)) blake2sMerkleUptoCard

/-- THE SECOND FORM's CARD OF 'stelelaw04.Blake2sTreeGrowth'. -/
def blake2sTreeGrowthUptoCard : Claim7 := { stood := { row := blake2sTreeGrowthUptoRow, standIns := [], harness := (true, "9f55aad38c16f4215ceeb10bbbb9dc5038b34a81cd5670a1d9318b646a15a9fd"), looks := false }, kinds := [], alts := [], laidByText := true, laidKinds := [.data, .data], laidTests := true, laidLooks := .later }
def Blake2sTreeGrowthUptoCardSaid : Prop := Claim7.holds Tryd.pinned (.plain (OpenSpec.upto blake2sTreeGrowthSpec)) blake2sTreeGrowthUptoCard

/-- THE SECOND FORM's CARD OF 'stelelaw04.Blake2sHexConcatenation'. -/
def blake2sHexConcatenationUptoCard : Claim7 := { stood := { row := blake2sHexConcatenationUptoRow, standIns := [], harness := (true, "9f55aad38c16f4215ceeb10bbbb9dc5038b34a81cd5670a1d9318b646a15a9fd"), looks := false }, kinds := [], alts := [], laidByText := true, laidKinds := [.data, .data], laidTests := true, laidLooks := .later }
def Blake2sHexConcatenationUptoCardSaid : Prop := Claim7.holds Tryd.pinned (.plain (OpenSpec.upto blake2sHexConcatenationSpec)) blake2sHexConcatenationUptoCard
end Rows
end Go.Proofs.YtkppepdniehoiaaDoor
