/-
  DERIVED. GIVEN WITH THE SEED: THE CARDS: each row of YtfdlgdgjbfoogaaDoorRows.lean that lists a variable, with what it lists TIED to the program's text (the seventh form; the later family's looks); each row that meets fmt, with fmt's text TOLD by the authors' own Lean function (tested against real Go, not proved from fmt's source: count such statements apart). THE CARD IS WHAT COUNTS. Prove the row's statement (the work); the ties are given (YtfdlgdgjbfoogaaDoorTie.lean); close each card by the builder's one call (the guide's Derived/Test/ToyasCard.lean, 'card_holds'). Laid BY PROGRAM, IN A SANDBOX (cutbox-door.mjs). By AI agents, Wed Nov 11 2026. No macro, syntax, notation, axiom, sorry.
-/
import Derived.Test.YtfdlgdgjbfoogaaDoorRows
import GoSem.ClaimSeven
namespace Go.Proofs.YtfdlgdgjbfoogaaDoor
namespace Rows

/-- THE TIED CARD OF 'stelelaw17.MachineTexts'. -/
def machineTextsCard : Claim7 := { stood := { row := machineTextsRow, standIns := [], harness := (true, "752d8b941f83a9df1028c2843c5296c6c9e378cce988a58890fa23d49e4b4967"), looks := true }, kinds := [], alts := [], laidByText := true, laidKinds := [.data, .data, .data], laidTests := true, laidLooks := .later }
def MachineTextsCardSaid : Prop := Claim7.holds Tryd.pinned (.plain (OpenSpec.ofChange machineTextsSpec)) machineTextsCard

/-- THE TIED CARD OF 'stelelaw17.MachineArithmetic'. -/
def machineArithmeticCard : Claim7 := { stood := { row := machineArithmeticRow, standIns := [], harness := (true, "752d8b941f83a9df1028c2843c5296c6c9e378cce988a58890fa23d49e4b4967"), looks := true }, kinds := [], alts := [], laidByText := true, laidKinds := [.data, .data, .data], laidTests := true, laidLooks := .later }
def MachineArithmeticCardSaid : Prop := Claim7.holds Tryd.pinned (.plain (OpenSpec.ofChange machineArithmeticSpec)) machineArithmeticCard

/-- THE TIED CARD OF 'stelelaw17.MachineSubroutine'. -/
def machineSubroutineCard : Claim7 := { stood := { row := machineSubroutineRow, standIns := [], harness := (true, "752d8b941f83a9df1028c2843c5296c6c9e378cce988a58890fa23d49e4b4967"), looks := true }, kinds := [], alts := [], laidByText := true, laidKinds := [.data, .data, .data], laidTests := true, laidLooks := .later }
def MachineSubroutineCardSaid : Prop := Claim7.holds Tryd.pinned (.plain (OpenSpec.ofChange machineSubroutineSpec)) machineSubroutineCard

/-- THE SECOND FORM's CARD OF 'stelelaw17.MachineTexts'. -/
def machineTextsUptoCard : Claim7 := { stood := { row := machineTextsUptoRow, standIns := [], harness := (true, "752d8b941f83a9df1028c2843c5296c6c9e378cce988a58890fa23d49e4b4967"), looks := true }, kinds := [], alts := [], laidByText := true, laidKinds := [.data, .data, .data], laidTests := true, laidLooks := .later }
def MachineTextsUptoCardSaid : Prop := Claim7.holds Tryd.pinned (.plain (OpenSpec.upto machineTextsSpec)) machineTextsUptoCard

/-- THE SECOND FORM's CARD OF 'stelelaw17.MachineArithmetic'. -/
def machineArithmeticUptoCard : Claim7 := { stood := { row := machineArithmeticUptoRow, standIns := [], harness := (true, "752d8b941f83a9df1028c2843c5296c6c9e378cce988a58890fa23d49e4b4967"), looks := true }, kinds := [], alts := [], laidByText := true, laidKinds := [.data, .data, .data], laidTests := true, laidLooks := .later }
def MachineArithmeticUptoCardSaid : Prop := Claim7.holds Tryd.pinned (.plain (OpenSpec.upto machineArithmeticSpec)) machineArithmeticUptoCard

/-- THE SECOND FORM's CARD OF 'stelelaw17.MachineSubroutine'. -/
def machineSubroutineUptoCard : Claim7 := { stood := { row := machineSubroutineUptoRow, standIns := [], harness := (true, "752d8b941f83a9df1028c2843c5296c6c9e378cce988a58890fa23d49e4b4967"), looks := true }, kinds := [], alts := [], laidByText := true, laidKinds := [.data, .data, .data], laidTests := true, laidLooks := .later }
def MachineSubroutineUptoCardSaid : Prop := Claim7.holds Tryd.pinned (.plain (OpenSpec.upto machineSubroutineSpec)) machineSubroutineUptoCard
end Rows
end Go.Proofs.YtfdlgdgjbfoogaaDoor
