/-
  DERIVED. GIVEN WITH THE SEED: THE CARDS: each row of YtngcahaidlgkfaaDoorRows.lean that lists a variable, with what it lists TIED to the program's text (the seventh form; the later family's looks); each row that meets fmt, with fmt's text TOLD by the authors' own Lean function (tested against real Go, not proved from fmt's source: count such statements apart). THE CARD IS WHAT COUNTS. Prove the row's statement (the work); the ties are given (YtngcahaidlgkfaaDoorTie.lean); close each card by the builder's one call (the guide's Derived/Test/ToyasCard.lean, 'card_holds'). Laid BY PROGRAM, IN A SANDBOX (cutbox-door.mjs). By AI agents, Wed Nov 11 2026. No macro, syntax, notation, axiom, sorry.
-/
import Derived.Test.YtngcahaidlgkfaaDoorRows
import GoSem.ClaimSeven
namespace Go.Proofs.YtngcahaidlgkfaaDoor
namespace Rows

/-- THE TIED CARD OF 'arraylanglaw05.FormatLiterals'. -/
def formatLiteralsCard : Claim7 := { stood := { row := formatLiteralsRow, standIns := [], harness := (true, "18dc2a691e816dba30d012fe183b19a971c3b7a7009788eddab96b1af20fa2df"), looks := false }, kinds := [], alts := [], laidByText := true, laidKinds := [.data, .data, .data], laidTests := true, laidLooks := .later }
def FormatLiteralsCardSaid : Prop := Claim7.holds Tryd.pinned (.plain (OpenSpec.ofChange formatLiteralsSpec)) formatLiteralsCard

/-- THE TIED CARD OF 'arraylanglaw05.FormatLines'. -/
def formatLinesCard : Claim7 := { stood := { row := formatLinesRow, standIns := [], harness := (true, "18dc2a691e816dba30d012fe183b19a971c3b7a7009788eddab96b1af20fa2df"), looks := false }, kinds := [], alts := [], laidByText := true, laidKinds := [.data, .data, .data], laidTests := true, laidLooks := .later }
def FormatLinesCardSaid : Prop := Claim7.holds Tryd.pinned (.plain (OpenSpec.ofChange formatLinesSpec)) formatLinesCard

/-- THE TIED CARD OF 'arraylanglaw05.FormatRows'. -/
def formatRowsCard : Claim7 := { stood := { row := formatRowsRow, standIns := [], harness := (true, "18dc2a691e816dba30d012fe183b19a971c3b7a7009788eddab96b1af20fa2df"), looks := false }, kinds := [], alts := [], laidByText := true, laidKinds := [.data, .data, .data], laidTests := true, laidLooks := .later }
def FormatRowsCardSaid : Prop := Claim7.holds Tryd.pinned (.plain (OpenSpec.ofChange formatRowsSpec)) formatRowsCard

/-- THE TIED CARD OF 'arraylanglaw05.FormatApart'. -/
def formatApartCard : Claim7 := { stood := { row := formatApartRow, standIns := [], harness := (true, "18dc2a691e816dba30d012fe183b19a971c3b7a7009788eddab96b1af20fa2df"), looks := false }, kinds := [], alts := [], laidByText := true, laidKinds := [.data, .data, .data], laidTests := true, laidLooks := .later }
def FormatApartCardSaid : Prop := Claim7.holds Tryd.pinned (.plain (OpenSpec.ofChange formatApartSpec)) formatApartCard

/-- THE SECOND FORM's CARD OF 'arraylanglaw05.FormatLiterals'. -/
def formatLiteralsUptoCard : Claim7 := { stood := { row := formatLiteralsUptoRow, standIns := [], harness := (true, "18dc2a691e816dba30d012fe183b19a971c3b7a7009788eddab96b1af20fa2df"), looks := false }, kinds := [], alts := [], laidByText := true, laidKinds := [.data, .data, .data], laidTests := true, laidLooks := .later }
def FormatLiteralsUptoCardSaid : Prop := Claim7.holds Tryd.pinned (.plain (OpenSpec.upto formatLiteralsSpec)) formatLiteralsUptoCard

/-- THE SECOND FORM's CARD OF 'arraylanglaw05.FormatLines'. -/
def formatLinesUptoCard : Claim7 := { stood := { row := formatLinesUptoRow, standIns := [], harness := (true, "18dc2a691e816dba30d012fe183b19a971c3b7a7009788eddab96b1af20fa2df"), looks := false }, kinds := [], alts := [], laidByText := true, laidKinds := [.data, .data, .data], laidTests := true, laidLooks := .later }
def FormatLinesUptoCardSaid : Prop := Claim7.holds Tryd.pinned (.plain (OpenSpec.upto formatLinesSpec)) formatLinesUptoCard

/-- THE SECOND FORM's CARD OF 'arraylanglaw05.FormatRows'. -/
def formatRowsUptoCard : Claim7 := { stood := { row := formatRowsUptoRow, standIns := [], harness := (true, "18dc2a691e816dba30d012fe183b19a971c3b7a7009788eddab96b1af20fa2df"), looks := false }, kinds := [], alts := [], laidByText := true, laidKinds := [.data, .data, .data], laidTests := true, laidLooks := .later }
def FormatRowsUptoCardSaid : Prop := Claim7.holds Tryd.pinned (.plain (OpenSpec.upto formatRowsSpec)) formatRowsUptoCard

/-- THE SECOND FORM's CARD OF 'arraylanglaw05.FormatApart'. -/
def formatApartUptoCard : Claim7 := { stood := { row := formatApartUptoRow, standIns := [], harness := (true, "18dc2a691e816dba30d012fe183b19a971c3b7a7009788eddab96b1af20fa2df"), looks := false }, kinds := [], alts := [], laidByText := true, laidKinds := [.data, .data, .data], laidTests := true, laidLooks := .later }
def FormatApartUptoCardSaid : Prop := Claim7.holds Tryd.pinned (.plain (OpenSpec.upto formatApartSpec)) formatApartUptoCard
end Rows
end Go.Proofs.YtngcahaidlgkfaaDoor
