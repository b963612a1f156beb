/-
  DERIVED. GIVEN WITH THE SEED: THE CARDS: each row of YtmfhdcpajgjgpaaGreatDoorRows.lean that lists a variable, with what it lists TIED to the program's text (the seventh form; the later family's looks); each row that meets fmt, with fmt's text TOLD by the authors' own Lean function (tested against real Go, not proved from fmt's source: count such statements apart). THE CARD IS WHAT COUNTS. Prove the row's statement (the work); the ties are given (YtmfhdcpajgjgpaaGreatDoorTie.lean); close each card by the builder's one call (the guide's Derived/Test/ToyasCard.lean, 'card_holds'). Laid BY PROGRAM, IN A SANDBOX (cutbox-door.mjs). By AI agents, Wed Nov 11 2026. No macro, syntax, notation, axiom, sorry.
-/
import Derived.Test.YtmfhdcpajgjgpaaGreatDoorRows
import GoSem.ClaimSeven
namespace Go.Proofs.YtmfhdcpajgjgpaaGreatDoor
namespace Rows

/-- THE TIED CARD OF 'arraylanglaw13.PrinterPrint'. -/
def printerPrintCard : Claim7 := { stood := { row := printerPrintRow, standIns := [], harness := (true, "9b68e916459e5031ef3ff4d6a12130028904c1cb52057812af89d8797fb5bab6"), looks := false }, kinds := [], alts := [], laidByText := true, laidKinds := [.data, .data, .data, .data, .data], laidTests := true, laidLooks := .later }
def PrinterPrintCardSaid : Prop := Claim7.holds Tryz.pinned (.plain (OpenSpec.ofChange printerPrintSpec)) printerPrintCard

/-- THE TIED CARD OF 'arraylanglaw13.PrinterCompact'. -/
def printerCompactCard : Claim7 := { stood := { row := printerCompactRow, standIns := [], harness := (true, "9b68e916459e5031ef3ff4d6a12130028904c1cb52057812af89d8797fb5bab6"), looks := false }, kinds := [], alts := [], laidByText := true, laidKinds := [.data, .data, .data, .data, .data], laidTests := true, laidLooks := .later }
def PrinterCompactCardSaid : Prop := Claim7.holds Tryz.pinned (.plain (OpenSpec.ofChange printerCompactSpec)) printerCompactCard

/-- THE SECOND FORM's CARD OF 'arraylanglaw13.PrinterPrint'. -/
def printerPrintUptoCard : Claim7 := { stood := { row := printerPrintUptoRow, standIns := [], harness := (true, "9b68e916459e5031ef3ff4d6a12130028904c1cb52057812af89d8797fb5bab6"), looks := false }, kinds := [], alts := [], laidByText := true, laidKinds := [.data, .data, .data, .data, .data], laidTests := true, laidLooks := .later }
def PrinterPrintUptoCardSaid : Prop := Claim7.holds Tryz.pinned (.plain (OpenSpec.upto printerPrintSpec)) printerPrintUptoCard

/-- THE SECOND FORM's CARD OF 'arraylanglaw13.PrinterCompact'. -/
def printerCompactUptoCard : Claim7 := { stood := { row := printerCompactUptoRow, standIns := [], harness := (true, "9b68e916459e5031ef3ff4d6a12130028904c1cb52057812af89d8797fb5bab6"), looks := false }, kinds := [], alts := [], laidByText := true, laidKinds := [.data, .data, .data, .data, .data], laidTests := true, laidLooks := .later }
def PrinterCompactUptoCardSaid : Prop := Claim7.holds Tryz.pinned (.plain (OpenSpec.upto printerCompactSpec)) printerCompactUptoCard
end Rows
end Go.Proofs.YtmfhdcpajgjgpaaGreatDoor
