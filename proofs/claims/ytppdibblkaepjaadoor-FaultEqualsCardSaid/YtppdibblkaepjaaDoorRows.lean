/-
  NARROWER THAN 'FOR EVERY INPUT', by the rows' own cells (each row's printed sentence says how): FaultWords: laid · FaultPlaces: laid · FaultShows: laid · FaultEquals: laid · FaultColumns: laid.
  DERIVED. THE GIVEN ROWS OF THIS SEAT. 5 by the template 'for every input the law returns true; each argument reads behind the call as it read before'; 0 by the template 'total and deterministic' (their statements: YtppdibblkaepjaaDoorTotals.lean).
  GIVEN WITH THE SEED: the statements are not yours to turn. If you find one false, say at which input.
  Laid BY PROGRAM, IN A SANDBOX (cutbox-rows.mjs): the forced cells as the released guide's own fill.sh prints them over the translation c4a0f31b7e29c078… (all of the seat's roots in one cut). By AI agents, Wed Nov 11 2026. No macro, syntax, notation, axiom, sorry.
-/
import Derived.Test.YtppdibblkaepjaaDoorChecked
import GoSem.Claim
import GoSem.ClaimJoined
import GoSem.ClaimMapViews
import Derived.JoinedTies
import Derived.KernelRfl
namespace Go.Proofs.YtppdibblkaepjaaDoor
/- THE CELL 'sum', in the pinned program and in every row, IS THE sha256 OF THE DUMP (.gsa) THAT YtppdibblkaepjaaDoorProg.lean LOADS. Nothing in Lean hashes anything: it is a label: what it is worth is what the hold of that sum in a sandbox is worth. -/
noncomputable def Tryd.pinned : Pinned := { name := "ytppdibblkaepjaadoor", sum := "c4a0f31b7e29c078c250a64193339f9b0b7667e81b96c768956ad17b114d1ea7", checked := Tryd.checked }
namespace Rows
def none {H : Type} : Left H := { results := [], args := [] }

/- WHAT THE LISTED PACKAGE-LEVEL VARIABLES READ AS WHEN THE CALL BEGINS. Each datum BY PROGRAM (the guide's laid-datum.mjs) off the statement by which the dump's own 'gosem.cut.vars' lays the variable. In a bare row this is a premise. The card (YtppdibblkaepjaaDoorCards.lean) ties it to the program's text. -/
def laid_arraylang_fault_words {H : Type} : DataW H := .agg [.lit (.string [111, 107]), .lit (.string [97, 114, 103]), .lit (.string [108, 111, 110, 103]), .lit (.string [99, 104, 97, 114]), .lit (.string [110, 117, 109, 98, 101, 114]), .lit (.string [115, 116, 114, 105, 110, 103]), .lit (.string [116, 111, 107, 101, 110]), .lit (.string [101, 110, 100]), .lit (.string [100, 101, 101, 112]), .lit (.string [110, 97, 109, 101]), .lit (.string [100, 117, 112, 108, 105, 99, 97, 116, 101]), .lit (.string [99, 108, 97, 115, 115]), .lit (.string [114, 101, 115, 117, 108, 116]), .lit (.string [118, 97, 108, 101, 110, 99, 101]), .lit (.string [107, 105, 110, 100]), .lit (.string [114, 97, 110, 107]), .lit (.string [108, 101, 110, 103, 116, 104]), .lit (.string [100, 111, 109, 97, 105, 110]), .lit (.string [105, 110, 100, 101, 120]), .lit (.string [111, 118, 101, 114, 102, 108, 111, 119]), .lit (.string [122, 101, 114, 111]), .lit (.string [108, 105, 109, 105, 116]), .lit (.string [99, 97, 108, 108, 115]), .lit (.string [115, 116, 101, 112, 115]), .lit (.string [109, 101, 109, 111, 114, 121]), .lit (.string [102, 111, 114, 109]), .lit (.string [99, 111, 100, 101]), .lit (.string [115, 117, 109]), .lit (.string [110, 111, 116, 102, 111, 117, 110, 100])]

/-- 'arraylanglaw07.FaultWords': WHATEVER THE INPUT: true; the input reads as it did. -/
def faultWordsSpec : ChangeSpec := { name := "faultWords", fn := fun _ => fun
  | [d] => { results := [.lit (.bool true)], args := [d] }
  | _ => none }
def faultWordsRow : OpenClaim := { program := "ytppdibblkaepjaadoor", sum := "c4a0f31b7e29c078c250a64193339f9b0b7667e81b96c768956ad17b114d1ea7", func := "arraylang/arraylanglaw07.FaultWords", spec := "faultWords", inPlace := ["internal/bytealg.CountString", "internal/bytealg.IndexByteString", "internal/bytealg.IndexString"], named := ["arraylang/fault.words", "internal/bytealg.MaxLen"], apart := false, laid := [("arraylang/fault.words", laid_arraylang_fault_words)] }
def FaultWordsSaid : Prop := faultWordsRow.holds Tryd.pinned (OpenSpec.ofChange faultWordsSpec)

/-- ITS FALSE NEIGHBOUR: 'it returns false'. Refute it at one input. -/
def faultWordsWrong : ChangeSpec := { name := "faultWords", fn := fun _ => fun
  | [d] => { results := [.lit (.bool false)], args := [d] }
  | _ => none }
def FaultWordsWrongFalsely : Prop := faultWordsRow.holds Tryd.pinned (OpenSpec.ofChange faultWordsWrong)

/-- 'arraylanglaw07.FaultPlaces': WHATEVER THE INPUT: true; the input reads as it did. -/
def faultPlacesSpec : ChangeSpec := { name := "faultPlaces", fn := fun _ => fun
  | [d1, d2] => { results := [.lit (.bool true)], args := [d1, d2] }
  | _ => none }
def faultPlacesRow : OpenClaim := { program := "ytppdibblkaepjaadoor", sum := "c4a0f31b7e29c078c250a64193339f9b0b7667e81b96c768956ad17b114d1ea7", func := "arraylang/arraylanglaw07.FaultPlaces", spec := "faultPlaces", inPlace := ["internal/bytealg.CountString", "internal/bytealg.IndexByteString", "internal/bytealg.IndexString"], named := ["internal/bytealg.MaxLen", "arraylang/fault.words"], apart := false, laid := [("arraylang/fault.words", laid_arraylang_fault_words)] }
def FaultPlacesSaid : Prop := faultPlacesRow.holds Tryd.pinned (OpenSpec.ofChange faultPlacesSpec)

/-- ITS FALSE NEIGHBOUR: 'it returns false'. Refute it at one input. -/
def faultPlacesWrong : ChangeSpec := { name := "faultPlaces", fn := fun _ => fun
  | [d1, d2] => { results := [.lit (.bool false)], args := [d1, d2] }
  | _ => none }
def FaultPlacesWrongFalsely : Prop := faultPlacesRow.holds Tryd.pinned (OpenSpec.ofChange faultPlacesWrong)

/-- 'arraylanglaw07.FaultShows': WHATEVER THE INPUT: true; the input reads as it did. -/
def faultShowsSpec : ChangeSpec := { name := "faultShows", fn := fun _ => fun
  | [d1, d2] => { results := [.lit (.bool true)], args := [d1, d2] }
  | _ => none }
def faultShowsRow : OpenClaim := { program := "ytppdibblkaepjaadoor", sum := "c4a0f31b7e29c078c250a64193339f9b0b7667e81b96c768956ad17b114d1ea7", func := "arraylang/arraylanglaw07.FaultShows", spec := "faultShows", inPlace := ["internal/bytealg.CountString", "internal/bytealg.IndexByteString", "internal/bytealg.IndexString"], recurses := true, named := ["internal/bytealg.MaxLen", "arraylang/fault.words"], apart := false, laid := [("arraylang/fault.words", laid_arraylang_fault_words)] }
def FaultShowsSaid : Prop := faultShowsRow.holds Tryd.pinned (OpenSpec.ofChange faultShowsSpec)

/-- ITS FALSE NEIGHBOUR: 'it returns false'. Refute it at one input. -/
def faultShowsWrong : ChangeSpec := { name := "faultShows", fn := fun _ => fun
  | [d1, d2] => { results := [.lit (.bool false)], args := [d1, d2] }
  | _ => none }
def FaultShowsWrongFalsely : Prop := faultShowsRow.holds Tryd.pinned (OpenSpec.ofChange faultShowsWrong)

/-- 'arraylanglaw07.FaultEquals': WHATEVER THE INPUT: true; the input reads as it did. -/
def faultEqualsSpec : ChangeSpec := { name := "faultEquals", fn := fun _ => fun
  | [d1, d2] => { results := [.lit (.bool true)], args := [d1, d2] }
  | _ => none }
def faultEqualsRow : OpenClaim := { program := "ytppdibblkaepjaadoor", sum := "c4a0f31b7e29c078c250a64193339f9b0b7667e81b96c768956ad17b114d1ea7", func := "arraylang/arraylanglaw07.FaultEquals", spec := "faultEquals", inPlace := ["internal/bytealg.CountString", "internal/bytealg.IndexByteString", "internal/bytealg.IndexString"], named := ["internal/bytealg.MaxLen", "arraylang/fault.words"], apart := false, laid := [("arraylang/fault.words", laid_arraylang_fault_words)] }
def FaultEqualsSaid : Prop := faultEqualsRow.holds Tryd.pinned (OpenSpec.ofChange faultEqualsSpec)

/-- ITS FALSE NEIGHBOUR: 'it returns false'. Refute it at one input. -/
def faultEqualsWrong : ChangeSpec := { name := "faultEquals", fn := fun _ => fun
  | [d1, d2] => { results := [.lit (.bool false)], args := [d1, d2] }
  | _ => none }
def FaultEqualsWrongFalsely : Prop := faultEqualsRow.holds Tryd.pinned (OpenSpec.ofChange faultEqualsWrong)

/-- 'arraylanglaw07.FaultColumns': WHATEVER THE INPUT: true; the input reads as it did. -/
def faultColumnsSpec : ChangeSpec := { name := "faultColumns", fn := fun _ => fun
  | [d1, d2] => { results := [.lit (.bool true)], args := [d1, d2] }
  | _ => none }
def faultColumnsRow : OpenClaim := { program := "ytppdibblkaepjaadoor", sum := "c4a0f31b7e29c078c250a64193339f9b0b7667e81b96c768956ad17b114d1ea7", func := "arraylang/arraylanglaw07.FaultColumns", spec := "faultColumns", inPlace := ["internal/bytealg.CountString", "internal/bytealg.IndexByteString", "internal/bytealg.IndexString"], named := ["internal/bytealg.MaxLen", "arraylang/fault.words"], apart := false, laid := [("arraylang/fault.words", laid_arraylang_fault_words)] }
def FaultColumnsSaid : Prop := faultColumnsRow.holds Tryd.pinned (OpenSpec.ofChange faultColumnsSpec)

/-- ITS FALSE NEIGHBOUR: 'it returns false'. Refute it at one input. -/
def faultColumnsWrong : ChangeSpec := { name := "faultColumns", fn := fun _ => fun
  | [d1, d2] => { results := [.lit (.bool false)], args := [d1, d2] }
  | _ => none }
def FaultColumnsWrongFalsely : Prop := faultColumnsRow.holds Tryd.pinned (OpenSpec.ofChange faultColumnsWrong)

/- THE SECOND FORM. 'bulk': how many values and letters a reading holds, each counted each time it is reached (what is shared counts as often as it is met; a slice's spare places count too). A statement '..UptoSaid' is the law's where the arguments, and the package variables that the reading takes, are together of bulk at most 1048576: NARROWER than '..Said'. Prove '..Said' where nothing that the law and all that it calls make is longer than what came in: it says more and counts as full. Else prove '..UptoSaid'. A law counts once. -/
mutual
def uptoBulk {H : Type} : DataW H → Nat
  | .lit (.string bytes) => bytes.length + 1
  | .lit _ => 1
  | .nil => 1
  | .ptr d => uptoBulk d + 1
  | .slice elems spare => uptoBulkAll elems + uptoBulkAll spare + 1
  | .agg parts => uptoBulkAll parts + 1
  | .iface _ d => uptoBulk d + 1
  | .map entries => uptoBulkEntries entries + 1
  | .held _ => 1
def uptoBulkAll {H : Type} : List (DataW H) → Nat
  | [] => 0
  | d :: r => uptoBulk d + uptoBulkAll r
def uptoBulkEntries {H : Type} : List (Lit × DataW H) → Nat
  | [] => 0
  | x :: r => uptoBulkEntry x + uptoBulkEntries r
def uptoBulkEntry {H : Type} : Lit × DataW H → Nat
  | (.string bytes, d) => bytes.length + uptoBulk d + 1
  | (_, d) => uptoBulk d + 1
 end
def uptoSmall : (H : Type) → List (DataW H) → Bool := fun _ ds => decide (uptoBulkAll ds ≤ 1048576)
def OpenSpec.upto (s : _root_.Go.ChangeSpec) : _root_.Go.OpenSpec := { _root_.Go.OpenSpec.ofChange s with cond := some uptoSmall }

/-- 'arraylanglaw07.FaultWords', WHERE WHAT IT READS IS OF BULK AT MOST 1048576: true; the input reads as it did. -/
def faultWordsUptoRow : OpenClaim := { program := "ytppdibblkaepjaadoor", sum := "c4a0f31b7e29c078c250a64193339f9b0b7667e81b96c768956ad17b114d1ea7", func := "arraylang/arraylanglaw07.FaultWords", spec := "faultWords", inPlace := ["internal/bytealg.CountString", "internal/bytealg.IndexByteString", "internal/bytealg.IndexString"], named := ["arraylang/fault.words", "internal/bytealg.MaxLen"], apart := false, laid := [("arraylang/fault.words", laid_arraylang_fault_words)], narrowed := true }
def FaultWordsUptoSaid : Prop := faultWordsUptoRow.holds Tryd.pinned (OpenSpec.upto faultWordsSpec)

/-- 'arraylanglaw07.FaultPlaces', WHERE WHAT IT READS IS OF BULK AT MOST 1048576: true; the input reads as it did. -/
def faultPlacesUptoRow : OpenClaim := { program := "ytppdibblkaepjaadoor", sum := "c4a0f31b7e29c078c250a64193339f9b0b7667e81b96c768956ad17b114d1ea7", func := "arraylang/arraylanglaw07.FaultPlaces", spec := "faultPlaces", inPlace := ["internal/bytealg.CountString", "internal/bytealg.IndexByteString", "internal/bytealg.IndexString"], named := ["internal/bytealg.MaxLen", "arraylang/fault.words"], apart := false, laid := [("arraylang/fault.words", laid_arraylang_fault_words)], narrowed := true }
def FaultPlacesUptoSaid : Prop := faultPlacesUptoRow.holds Tryd.pinned (OpenSpec.upto faultPlacesSpec)

/-- 'arraylanglaw07.FaultShows', WHERE WHAT IT READS IS OF BULK AT MOST 1048576: true; the input reads as it did. -/
def faultShowsUptoRow : OpenClaim := { program := "ytppdibblkaepjaadoor", sum := "c4a0f31b7e29c078c250a64193339f9b0b7667e81b96c768956ad17b114d1ea7", func := "arraylang/arraylanglaw07.FaultShows", spec := "faultShows", inPlace := ["internal/bytealg.CountString", "internal/bytealg.IndexByteString", "internal/bytealg.IndexString"], recurses := true, named := ["internal/bytealg.MaxLen", "arraylang/fault.words"], apart := false, laid := [("arraylang/fault.words", laid_arraylang_fault_words)], narrowed := true }
def FaultShowsUptoSaid : Prop := faultShowsUptoRow.holds Tryd.pinned (OpenSpec.upto faultShowsSpec)

/-- 'arraylanglaw07.FaultEquals', WHERE WHAT IT READS IS OF BULK AT MOST 1048576: true; the input reads as it did. -/
def faultEqualsUptoRow : OpenClaim := { program := "ytppdibblkaepjaadoor", sum := "c4a0f31b7e29c078c250a64193339f9b0b7667e81b96c768956ad17b114d1ea7", func := "arraylang/arraylanglaw07.FaultEquals", spec := "faultEquals", inPlace := ["internal/bytealg.CountString", "internal/bytealg.IndexByteString", "internal/bytealg.IndexString"], named := ["internal/bytealg.MaxLen", "arraylang/fault.words"], apart := false, laid := [("arraylang/fault.words", laid_arraylang_fault_words)], narrowed := true }
def FaultEqualsUptoSaid : Prop := faultEqualsUptoRow.holds Tryd.pinned (OpenSpec.upto faultEqualsSpec)

/-- 'arraylanglaw07.FaultColumns', WHERE WHAT IT READS IS OF BULK AT MOST 1048576: true; the input reads as it did. -/
def faultColumnsUptoRow : OpenClaim := { program := "ytppdibblkaepjaadoor", sum := "c4a0f31b7e29c078c250a64193339f9b0b7667e81b96c768956ad17b114d1ea7", func := "arraylang/arraylanglaw07.FaultColumns", spec := "faultColumns", inPlace := ["internal/bytealg.CountString", "internal/bytealg.IndexByteString", "internal/bytealg.IndexString"], named := ["internal/bytealg.MaxLen", "arraylang/fault.words"], apart := false, laid := [("arraylang/fault.words", laid_arraylang_fault_words)], narrowed := true }
def FaultColumnsUptoSaid : Prop := faultColumnsUptoRow.holds Tryd.pinned (OpenSpec.upto faultColumnsSpec)

end Rows
end Go.Proofs.YtppdibblkaepjaaDoor
