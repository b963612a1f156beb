/-
  DERIVED. GIVEN WITH THE SEED: THE CARDS: each row of YtppdibblkaepjaaDoorRows.lean that lists a variable, with what it lists TIED to the program's text (the seventh form; the later family's looks); each row that meets fmt, with fmt's text TOLD by the authors' own Lean function (tested against real Go, not proved from fmt's source: count such statements apart). THE CARD IS WHAT COUNTS. Prove the row's statement (the work); the ties are given (YtppdibblkaepjaaDoorTie.lean); close each card by the builder's one call (the guide's Derived/Test/ToyasCard.lean, 'card_holds'). Laid BY PROGRAM, IN A SANDBOX (cutbox-door.mjs). By AI agents, Wed Nov 11 2026. No macro, syntax, notation, axiom, sorry.
-/
import Derived.Test.YtppdibblkaepjaaDoorRows
import GoSem.ClaimSeven
namespace Go.Proofs.YtppdibblkaepjaaDoor
namespace Rows

/-- THE TIED CARD OF 'arraylanglaw07.FaultWords'. -/
def faultWordsCard : Claim7 := { stood := { row := faultWordsRow, standIns := [], harness := (true, "2ad007888979afa5275e5acd4a572b97c39edc6a44648b2c862fcf4f095f0159"), looks := false }, kinds := [], alts := [], laidByText := true, laidKinds := [.data], laidTests := true, laidLooks := .later }
def FaultWordsCardSaid : Prop := Claim7.holds Tryd.pinned (.plain (OpenSpec.ofChange faultWordsSpec)) faultWordsCard

/-- THE TIED CARD OF 'arraylanglaw07.FaultPlaces'. -/
def faultPlacesCard : Claim7 := { stood := { row := faultPlacesRow, standIns := [], harness := (true, "2ad007888979afa5275e5acd4a572b97c39edc6a44648b2c862fcf4f095f0159"), looks := false }, kinds := [], alts := [], laidByText := true, laidKinds := [.data], laidTests := true, laidLooks := .later }
def FaultPlacesCardSaid : Prop := Claim7.holds Tryd.pinned (.plain (OpenSpec.ofChange faultPlacesSpec)) faultPlacesCard

/-- THE TIED CARD OF 'arraylanglaw07.FaultShows'. -/
def faultShowsCard : Claim7 := { stood := { row := faultShowsRow, standIns := [], harness := (true, "2ad007888979afa5275e5acd4a572b97c39edc6a44648b2c862fcf4f095f0159"), looks := false }, kinds := [], alts := [], laidByText := true, laidKinds := [.data], laidTests := true, laidLooks := .later }
def FaultShowsCardSaid : Prop := Claim7.holds Tryd.pinned (.plain (OpenSpec.ofChange faultShowsSpec)) faultShowsCard

/-- THE TIED CARD OF 'arraylanglaw07.FaultEquals'. -/
def faultEqualsCard : Claim7 := { stood := { row := faultEqualsRow, standIns := [], harness := (true, "2ad007888979afa5275e5acd4a572b97c39edc6a44648b2c862fcf4f095f0159"), looks := false }, kinds := [], alts := [], laidByText := true, laidKinds := [.data], laidTests := true, laidLooks := .later }
def FaultEqualsCardSaid : Prop := Claim7.holds Tryd.pinned (.plain (OpenSpec.ofChange faultEqualsSpec)) faultEqualsCard

/-- THE TIED CARD OF 'arraylanglaw07.FaultColumns'. -/
def faultColumnsCard : Claim7 := { stood := { row := faultColumnsRow, standIns := [], harness := (true, "2ad007888979afa5275e5acd4a572b97c39edc6a44648b2c862fcf4f095f0159"), looks := false }, kinds := [], alts := [], laidByText := true, laidKinds := [.data], laidTests := true, laidLooks := .later }
def FaultColumnsCardSaid : Prop := Claim7.holds Tryd.pinned (.plain (OpenSpec.ofChange faultColumnsSpec)) faultColumnsCard

/-- THE SECOND FORM's CARD OF 'arraylanglaw07.FaultWords'. -/
def faultWordsUptoCard : Claim7 := { stood := { row := faultWordsUptoRow, standIns := [], harness := (true, "2ad007888979afa5275e5acd4a572b97c39edc6a44648b2c862fcf4f095f0159"), looks := false }, kinds := [], alts := [], laidByText := true, laidKinds := [.data], laidTests := true, laidLooks := .later }
def FaultWordsUptoCardSaid : Prop := Claim7.holds Tryd.pinned (.plain (OpenSpec.upto faultWordsSpec)) faultWordsUptoCard

/-- THE SECOND FORM's CARD OF 'arraylanglaw07.FaultPlaces'. -/
def faultPlacesUptoCard : Claim7 := { stood := { row := faultPlacesUptoRow, standIns := [], harness := (true, "2ad007888979afa5275e5acd4a572b97c39edc6a44648b2c862fcf4f095f0159"), looks := false }, kinds := [], alts := [], laidByText := true, laidKinds := [.data], laidTests := true, laidLooks := .later }
def FaultPlacesUptoCardSaid : Prop := Claim7.holds Tryd.pinned (.plain (OpenSpec.upto faultPlacesSpec)) faultPlacesUptoCard

/-- THE SECOND FORM's CARD OF 'arraylanglaw07.FaultShows'. -/
def faultShowsUptoCard : Claim7 := { stood := { row := faultShowsUptoRow, standIns := [], harness := (true, "2ad007888979afa5275e5acd4a572b97c39edc6a44648b2c862fcf4f095f0159"), looks := false }, kinds := [], alts := [], laidByText := true, laidKinds := [.data], laidTests := true, laidLooks := .later }
def FaultShowsUptoCardSaid : Prop := Claim7.holds Tryd.pinned (.plain (OpenSpec.upto faultShowsSpec)) faultShowsUptoCard

/-- THE SECOND FORM's CARD OF 'arraylanglaw07.FaultEquals'. -/
def faultEqualsUptoCard : Claim7 := { stood := { row := faultEqualsUptoRow, standIns := [], harness := (true, "2ad007888979afa5275e5acd4a572b97c39edc6a44648b2c862fcf4f095f0159"), looks := false }, kinds := [], alts := [], laidByText := true, laidKinds := [.data], laidTests := true, laidLooks := .later }
def FaultEqualsUptoCardSaid : Prop := Claim7.holds Tryd.pinned (.plain (OpenSpec.upto faultEqualsSpec)) faultEqualsUptoCard

/-- THE SECOND FORM's CARD OF 'arraylanglaw07.FaultColumns'. -/
def faultColumnsUptoCard : Claim7 := { stood := { row := faultColumnsUptoRow, standIns := [], harness := (true, "2ad007888979afa5275e5acd4a572b97c39edc6a44648b2c862fcf4f095f0159"), looks := false }, kinds := [], alts := [], laidByText := true, laidKinds := [.data], laidTests := true, laidLooks := .later }
def FaultColumnsUptoCardSaid : Prop := Claim7.holds Tryd.pinned (.plain (OpenSpec.upto faultColumnsSpec)) faultColumnsUptoCard
end Rows
end Go.Proofs.YtppdibblkaepjaaDoor
