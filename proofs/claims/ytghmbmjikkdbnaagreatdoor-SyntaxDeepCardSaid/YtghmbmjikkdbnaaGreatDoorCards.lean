/-
  DERIVED. GIVEN WITH THE SEED: THE CARDS: each row of YtghmbmjikkdbnaaGreatDoorRows.lean that lists a variable, with what it lists TIED to the program's text (the seventh form; the later family's looks); each row that meets fmt, with fmt's text TOLD by the authors' own Lean function (tested against real Go, not proved from fmt's source: count such statements apart). THE CARD IS WHAT COUNTS. Prove the row's statement (the work); the ties are given (YtghmbmjikkdbnaaGreatDoorTie.lean); close each card by the builder's one call (the guide's Derived/Test/ToyasCard.lean, 'card_holds'). Laid BY PROGRAM, IN A SANDBOX (cutbox-door.mjs). By AI agents, Wed Nov 11 2026. No macro, syntax, notation, axiom, sorry.
-/
import Derived.Test.YtghmbmjikkdbnaaGreatDoorRows
import GoSem.ClaimSeven
namespace Go.Proofs.YtghmbmjikkdbnaaGreatDoor
namespace Rows

/-- THE TIED CARD OF 'arraylanglaw10.SyntaxNodes'. -/
def syntaxNodesCard : Claim7 := { stood := { row := syntaxNodesRow, standIns := [], harness := (true, "d8deac91b42cd148d258902d685d727c350d37757287a443cb7bdbad716cecd0"), looks := false }, kinds := [], alts := [], laidByText := true, laidKinds := [.data, .data, .data, .data, .data], laidTests := true, laidLooks := .later }
def SyntaxNodesCardSaid : Prop := Claim7.holds Tryz.pinned (.plain (OpenSpec.ofChange syntaxNodesSpec)) syntaxNodesCard

/-- THE TIED CARD OF 'arraylanglaw10.SyntaxPrograms'. -/
def syntaxProgramsCard : Claim7 := { stood := { row := syntaxProgramsRow, standIns := [], harness := (true, "d8deac91b42cd148d258902d685d727c350d37757287a443cb7bdbad716cecd0"), looks := false }, kinds := [], alts := [], laidByText := true, laidKinds := [.data, .data, .data, .data, .data], laidTests := true, laidLooks := .later }
def SyntaxProgramsCardSaid : Prop := Claim7.holds Tryz.pinned (.plain (OpenSpec.ofChange syntaxProgramsSpec)) syntaxProgramsCard

/-- THE TIED CARD OF 'arraylanglaw10.SyntaxEquals'. -/
def syntaxEqualsCard : Claim7 := { stood := { row := syntaxEqualsRow, standIns := [], harness := (true, "d8deac91b42cd148d258902d685d727c350d37757287a443cb7bdbad716cecd0"), looks := false }, kinds := [], alts := [], laidByText := true, laidKinds := [.data, .data, .data, .data, .data], laidTests := true, laidLooks := .later }
def SyntaxEqualsCardSaid : Prop := Claim7.holds Tryz.pinned (.plain (OpenSpec.ofChange syntaxEqualsSpec)) syntaxEqualsCard

/-- THE TIED CARD OF 'arraylanglaw10.SyntaxShows'. -/
def syntaxShowsCard : Claim7 := { stood := { row := syntaxShowsRow, standIns := [], harness := (true, "d8deac91b42cd148d258902d685d727c350d37757287a443cb7bdbad716cecd0"), looks := false }, kinds := [], alts := [], laidByText := true, laidKinds := [.data, .data, .data, .data, .data], laidTests := true, laidLooks := .later }
def SyntaxShowsCardSaid : Prop := Claim7.holds Tryz.pinned (.plain (OpenSpec.ofChange syntaxShowsSpec)) syntaxShowsCard

/-- THE TIED CARD OF 'arraylanglaw10.SyntaxParts'. -/
def syntaxPartsCard : Claim7 := { stood := { row := syntaxPartsRow, standIns := [], harness := (true, "d8deac91b42cd148d258902d685d727c350d37757287a443cb7bdbad716cecd0"), looks := false }, kinds := [], alts := [], laidByText := true, laidKinds := [.data, .data, .data, .data, .data], laidTests := true, laidLooks := .later }
def SyntaxPartsCardSaid : Prop := Claim7.holds Tryz.pinned (.plain (OpenSpec.ofChange syntaxPartsSpec)) syntaxPartsCard

/-- THE TIED CARD OF 'arraylanglaw10.SyntaxDeep'. -/
def syntaxDeepCard : Claim7 := { stood := { row := syntaxDeepRow, standIns := [], harness := (true, "d8deac91b42cd148d258902d685d727c350d37757287a443cb7bdbad716cecd0"), looks := false }, kinds := [], alts := [], laidByText := true, laidKinds := [.data, .data, .data, .data, .data], laidTests := true, laidLooks := .later }
def SyntaxDeepCardSaid : Prop := Claim7.holds Tryz.pinned (.plain (OpenSpec.ofChange syntaxDeepSpec)) syntaxDeepCard

/-- THE SECOND FORM's CARD OF 'arraylanglaw10.SyntaxNodes'. -/
def syntaxNodesUptoCard : Claim7 := { stood := { row := syntaxNodesUptoRow, standIns := [], harness := (true, "d8deac91b42cd148d258902d685d727c350d37757287a443cb7bdbad716cecd0"), looks := false }, kinds := [], alts := [], laidByText := true, laidKinds := [.data, .data, .data, .data, .data], laidTests := true, laidLooks := .later }
def SyntaxNodesUptoCardSaid : Prop := Claim7.holds Tryz.pinned (.plain (OpenSpec.upto syntaxNodesSpec)) syntaxNodesUptoCard

/-- THE SECOND FORM's CARD OF 'arraylanglaw10.SyntaxPrograms'. -/
def syntaxProgramsUptoCard : Claim7 := { stood := { row := syntaxProgramsUptoRow, standIns := [], harness := (true, "d8deac91b42cd148d258902d685d727c350d37757287a443cb7bdbad716cecd0"), looks := false }, kinds := [], alts := [], laidByText := true, laidKinds := [.data, .data, .data, .data, .data], laidTests := true, laidLooks := .later }
def SyntaxProgramsUptoCardSaid : Prop := Claim7.holds Tryz.pinned (.plain (OpenSpec.upto syntaxProgramsSpec)) syntaxProgramsUptoCard

/-- THE SECOND FORM's CARD OF 'arraylanglaw10.SyntaxEquals'. -/
def syntaxEqualsUptoCard : Claim7 := { stood := { row := syntaxEqualsUptoRow, standIns := [], harness := (true, "d8deac91b42cd148d258902d685d727c350d37757287a443cb7bdbad716cecd0"), looks := false }, kinds := [], alts := [], laidByText := true, laidKinds := [.data, .data, .data, .data, .data], laidTests := true, laidLooks := .later }
def SyntaxEqualsUptoCardSaid : Prop := Claim7.holds Tryz.pinned (.plain (OpenSpec.upto syntaxEqualsSpec)) syntaxEqualsUptoCard

/-- THE SECOND FORM's CARD OF 'arraylanglaw10.SyntaxShows'. -/
def syntaxShowsUptoCard : Claim7 := { stood := { row := syntaxShowsUptoRow, standIns := [], harness := (true, "d8deac91b42cd148d258902d685d727c350d37757287a443cb7bdbad716cecd0"), looks := false }, kinds := [], alts := [], laidByText := true, laidKinds := [.data, .data, .data, .data, .data], laidTests := true, laidLooks := .later }
def SyntaxShowsUptoCardSaid : Prop := Claim7.holds Tryz.pinned (.plain (OpenSpec.upto syntaxShowsSpec)) syntaxShowsUptoCard

/-- THE SECOND FORM's CARD OF 'arraylanglaw10.SyntaxParts'. -/
def syntaxPartsUptoCard : Claim7 := { stood := { row := syntaxPartsUptoRow, standIns := [], harness := (true, "d8deac91b42cd148d258902d685d727c350d37757287a443cb7bdbad716cecd0"), looks := false }, kinds := [], alts := [], laidByText := true, laidKinds := [.data, .data, .data, .data, .data], laidTests := true, laidLooks := .later }
def SyntaxPartsUptoCardSaid : Prop := Claim7.holds Tryz.pinned (.plain (OpenSpec.upto syntaxPartsSpec)) syntaxPartsUptoCard

/-- THE SECOND FORM's CARD OF 'arraylanglaw10.SyntaxDeep'. -/
def syntaxDeepUptoCard : Claim7 := { stood := { row := syntaxDeepUptoRow, standIns := [], harness := (true, "d8deac91b42cd148d258902d685d727c350d37757287a443cb7bdbad716cecd0"), looks := false }, kinds := [], alts := [], laidByText := true, laidKinds := [.data, .data, .data, .data, .data], laidTests := true, laidLooks := .later }
def SyntaxDeepUptoCardSaid : Prop := Claim7.holds Tryz.pinned (.plain (OpenSpec.upto syntaxDeepSpec)) syntaxDeepUptoCard
end Rows
end Go.Proofs.YtghmbmjikkdbnaaGreatDoor
