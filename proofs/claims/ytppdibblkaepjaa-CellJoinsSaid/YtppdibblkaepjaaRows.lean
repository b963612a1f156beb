/-
  NARROWER THAN 'FOR EVERY INPUT', by the rows' own cells (each row's printed sentence says how): CellJoins: loops · OrderCompare: loops · OrderEqual: loops · OrderChain: loops · OrderSorted: loops.
  DERIVED. THE GIVEN ROWS OF THIS SEAT. 6 by the template 'for every input the law returns true; each argument reads behind the call as it read before'; 0 by the template 'total and deterministic' (their statements: YtppdibblkaepjaaTotals.lean).
  GIVEN WITH THE SEED: the statements are not yours to turn. If you find one false, say at which input.
  Laid BY PROGRAM, IN A SANDBOX (cutbox-rows.mjs): the forced cells as the released guide's own fill.sh prints them over the translation a0ef553b199a0308… (all of the seat's roots in one cut). By AI agents, Wed Nov 11 2026. No macro, syntax, notation, axiom, sorry.
-/
import Derived.Test.YtppdibblkaepjaaChecked
import GoSem.Claim
import GoSem.ClaimJoined
import GoSem.ClaimMapViews
import Derived.JoinedTies
import Derived.KernelRfl
namespace Go.Proofs.Ytppdibblkaepjaa
/- THE CELL 'sum', in the pinned program and in every row, IS THE sha256 OF THE DUMP (.gsa) THAT YtppdibblkaepjaaProg.lean LOADS. Nothing in Lean hashes anything: it is a label: what it is worth is what the hold of that sum in a sandbox is worth. -/
noncomputable def Try.pinned : Pinned := { name := "ytppdibblkaepjaa", sum := "a0ef553b199a0308392b8c1d13ba0308e24b11075161179faf59ee939e11fd26", checked := Try.checked }
namespace Rows
def none {H : Type} : Left H := { results := [], args := [] }

/-- 'arraylanglaw04.CellJoins': WHATEVER THE INPUT: true; the input reads as it did. -/
def cellJoinsSpec : ChangeSpec := { name := "cellJoins", fn := fun _ => fun
  | [d1, d2, d3] => { results := [.lit (.bool true)], args := [d1, d2, d3] }
  | _ => none }
def cellJoinsRow : OpenClaim := { program := "ytppdibblkaepjaa", sum := "a0ef553b199a0308392b8c1d13ba0308e24b11075161179faf59ee939e11fd26", func := "arraylang/arraylanglaw04.CellJoins", spec := "cellJoins", unfollowed := true, recurses := true, loops := true, apart := false }
def CellJoinsSaid : Prop := cellJoinsRow.holds Try.pinned (OpenSpec.ofChange cellJoinsSpec)

/-- ITS FALSE NEIGHBOUR: 'it returns false'. Refute it at one input. -/
def cellJoinsWrong : ChangeSpec := { name := "cellJoins", fn := fun _ => fun
  | [d1, d2, d3] => { results := [.lit (.bool false)], args := [d1, d2, d3] }
  | _ => none }
def CellJoinsWrongFalsely : Prop := cellJoinsRow.holds Try.pinned (OpenSpec.ofChange cellJoinsWrong)

/-- 'arraylanglaw06.OrderCompare': WHATEVER THE INPUT: true; the input reads as it did. -/
def orderCompareSpec : ChangeSpec := { name := "orderCompare", fn := fun _ => fun
  | [d1, d2] => { results := [.lit (.bool true)], args := [d1, d2] }
  | _ => none }
def orderCompareRow : OpenClaim := { program := "ytppdibblkaepjaa", sum := "a0ef553b199a0308392b8c1d13ba0308e24b11075161179faf59ee939e11fd26", func := "arraylang/arraylanglaw06.OrderCompare", spec := "orderCompare", unfollowed := true, recurses := true, loops := true, apart := false }
def OrderCompareSaid : Prop := orderCompareRow.holds Try.pinned (OpenSpec.ofChange orderCompareSpec)

/-- ITS FALSE NEIGHBOUR: 'it returns false'. Refute it at one input. -/
def orderCompareWrong : ChangeSpec := { name := "orderCompare", fn := fun _ => fun
  | [d1, d2] => { results := [.lit (.bool false)], args := [d1, d2] }
  | _ => none }
def OrderCompareWrongFalsely : Prop := orderCompareRow.holds Try.pinned (OpenSpec.ofChange orderCompareWrong)

/-- 'arraylanglaw06.OrderEqual': WHATEVER THE INPUT: true; the input reads as it did. -/
def orderEqualSpec : ChangeSpec := { name := "orderEqual", fn := fun _ => fun
  | [d1, d2] => { results := [.lit (.bool true)], args := [d1, d2] }
  | _ => none }
def orderEqualRow : OpenClaim := { program := "ytppdibblkaepjaa", sum := "a0ef553b199a0308392b8c1d13ba0308e24b11075161179faf59ee939e11fd26", func := "arraylang/arraylanglaw06.OrderEqual", spec := "orderEqual", unfollowed := true, recurses := true, loops := true, apart := false }
def OrderEqualSaid : Prop := orderEqualRow.holds Try.pinned (OpenSpec.ofChange orderEqualSpec)

/-- ITS FALSE NEIGHBOUR: 'it returns false'. Refute it at one input. -/
def orderEqualWrong : ChangeSpec := { name := "orderEqual", fn := fun _ => fun
  | [d1, d2] => { results := [.lit (.bool false)], args := [d1, d2] }
  | _ => none }
def OrderEqualWrongFalsely : Prop := orderEqualRow.holds Try.pinned (OpenSpec.ofChange orderEqualWrong)

/-- 'arraylanglaw06.OrderChain': WHATEVER THE INPUT: true; the input reads as it did. -/
def orderChainSpec : ChangeSpec := { name := "orderChain", fn := fun _ => fun
  | [d1, d2, d3] => { results := [.lit (.bool true)], args := [d1, d2, d3] }
  | _ => none }
def orderChainRow : OpenClaim := { program := "ytppdibblkaepjaa", sum := "a0ef553b199a0308392b8c1d13ba0308e24b11075161179faf59ee939e11fd26", func := "arraylang/arraylanglaw06.OrderChain", spec := "orderChain", unfollowed := true, recurses := true, loops := true, apart := false }
def OrderChainSaid : Prop := orderChainRow.holds Try.pinned (OpenSpec.ofChange orderChainSpec)

/-- ITS FALSE NEIGHBOUR: 'it returns false'. Refute it at one input. -/
def orderChainWrong : ChangeSpec := { name := "orderChain", fn := fun _ => fun
  | [d1, d2, d3] => { results := [.lit (.bool false)], args := [d1, d2, d3] }
  | _ => none }
def OrderChainWrongFalsely : Prop := orderChainRow.holds Try.pinned (OpenSpec.ofChange orderChainWrong)

/-- 'arraylanglaw06.OrderSorted': WHATEVER THE INPUT: true; the input reads as it did. -/
def orderSortedSpec : ChangeSpec := { name := "orderSorted", fn := fun _ => fun
  | [d] => { results := [.lit (.bool true)], args := [d] }
  | _ => none }
def orderSortedRow : OpenClaim := { program := "ytppdibblkaepjaa", sum := "a0ef553b199a0308392b8c1d13ba0308e24b11075161179faf59ee939e11fd26", func := "arraylang/arraylanglaw06.OrderSorted", spec := "orderSorted", unfollowed := true, recurses := true, loops := true, apart := false }
def OrderSortedSaid : Prop := orderSortedRow.holds Try.pinned (OpenSpec.ofChange orderSortedSpec)

/-- ITS FALSE NEIGHBOUR: 'it returns false'. Refute it at one input. -/
def orderSortedWrong : ChangeSpec := { name := "orderSorted", fn := fun _ => fun
  | [d] => { results := [.lit (.bool false)], args := [d] }
  | _ => none }
def OrderSortedWrongFalsely : Prop := orderSortedRow.holds Try.pinned (OpenSpec.ofChange orderSortedWrong)

/-- 'arraylanglaw06.OrderVectors': WHATEVER THE INPUT: true; the input reads as it did. -/
def orderVectorsSpec : ChangeSpec := { name := "orderVectors", fn := fun _ => fun
  | [d1, d2] => { results := [.lit (.bool true)], args := [d1, d2] }
  | _ => none }
def orderVectorsRow : OpenClaim := { program := "ytppdibblkaepjaa", sum := "a0ef553b199a0308392b8c1d13ba0308e24b11075161179faf59ee939e11fd26", func := "arraylang/arraylanglaw06.OrderVectors", spec := "orderVectors", unfollowed := true, recurses := true, apart := false }
def OrderVectorsSaid : Prop := orderVectorsRow.holds Try.pinned (OpenSpec.ofChange orderVectorsSpec)

/-- ITS FALSE NEIGHBOUR: 'it returns false'. Refute it at one input. -/
def orderVectorsWrong : ChangeSpec := { name := "orderVectors", fn := fun _ => fun
  | [d1, d2] => { results := [.lit (.bool false)], args := [d1, d2] }
  | _ => none }
def OrderVectorsWrongFalsely : Prop := orderVectorsRow.holds Try.pinned (OpenSpec.ofChange orderVectorsWrong)

/- THE SECOND FORM. 'bulk': how many values and letters a reading holds, each counted each time it is reached (what is shared counts as often as it is met; a slice's spare places count too). A statement '..UptoSaid' is the law's where the arguments, and the package variables that the reading takes, are together of bulk at most 1048576: NARROWER than '..Said'. Prove '..Said' where nothing that the law and all that it calls make is longer than what came in: it says more and counts as full. Else prove '..UptoSaid'. A law counts once. -/
mutual
def uptoBulk {H : Type} : DataW H → Nat
  | .lit (.string bytes) => bytes.length + 1
  | .lit _ => 1
  | .nil => 1
  | .ptr d => uptoBulk d + 1
  | .slice elems spare => uptoBulkAll elems + uptoBulkAll spare + 1
  | .agg parts => uptoBulkAll parts + 1
  | .iface _ d => uptoBulk d + 1
  | .map entries => uptoBulkEntries entries + 1
  | .held _ => 1
def uptoBulkAll {H : Type} : List (DataW H) → Nat
  | [] => 0
  | d :: r => uptoBulk d + uptoBulkAll r
def uptoBulkEntries {H : Type} : List (Lit × DataW H) → Nat
  | [] => 0
  | x :: r => uptoBulkEntry x + uptoBulkEntries r
def uptoBulkEntry {H : Type} : Lit × DataW H → Nat
  | (.string bytes, d) => bytes.length + uptoBulk d + 1
  | (_, d) => uptoBulk d + 1
 end
def uptoSmall : (H : Type) → List (DataW H) → Bool := fun _ ds => decide (uptoBulkAll ds ≤ 1048576)
def OpenSpec.upto (s : _root_.Go.ChangeSpec) : _root_.Go.OpenSpec := { _root_.Go.OpenSpec.ofChange s with cond := some uptoSmall }

/-- 'arraylanglaw04.CellJoins', WHERE WHAT IT READS IS OF BULK AT MOST 1048576: true; the input reads as it did. -/
def cellJoinsUptoRow : OpenClaim := { program := "ytppdibblkaepjaa", sum := "a0ef553b199a0308392b8c1d13ba0308e24b11075161179faf59ee939e11fd26", func := "arraylang/arraylanglaw04.CellJoins", spec := "cellJoins", unfollowed := true, recurses := true, loops := true, apart := false, narrowed := true }
def CellJoinsUptoSaid : Prop := cellJoinsUptoRow.holds Try.pinned (OpenSpec.upto cellJoinsSpec)

/-- 'arraylanglaw06.OrderCompare', WHERE WHAT IT READS IS OF BULK AT MOST 1048576: true; the input reads as it did. -/
def orderCompareUptoRow : OpenClaim := { program := "ytppdibblkaepjaa", sum := "a0ef553b199a0308392b8c1d13ba0308e24b11075161179faf59ee939e11fd26", func := "arraylang/arraylanglaw06.OrderCompare", spec := "orderCompare", unfollowed := true, recurses := true, loops := true, apart := false, narrowed := true }
def OrderCompareUptoSaid : Prop := orderCompareUptoRow.holds Try.pinned (OpenSpec.upto orderCompareSpec)

/-- 'arraylanglaw06.OrderEqual', WHERE WHAT IT READS IS OF BULK AT MOST 1048576: true; the input reads as it did. -/
def orderEqualUptoRow : OpenClaim := { program := "ytppdibblkaepjaa", sum := "a0ef553b199a0308392b8c1d13ba0308e24b11075161179faf59ee939e11fd26", func := "arraylang/arraylanglaw06.OrderEqual", spec := "orderEqual", unfollowed := true, recurses := true, loops := true, apart := false, narrowed := true }
def OrderEqualUptoSaid : Prop := orderEqualUptoRow.holds Try.pinned (OpenSpec.upto orderEqualSpec)

/-- 'arraylanglaw06.OrderChain', WHERE WHAT IT READS IS OF BULK AT MOST 1048576: true; the input reads as it did. -/
def orderChainUptoRow : OpenClaim := { program := "ytppdibblkaepjaa", sum := "a0ef553b199a0308392b8c1d13ba0308e24b11075161179faf59ee939e11fd26", func := "arraylang/arraylanglaw06.OrderChain", spec := "orderChain", unfollowed := true, recurses := true, loops := true, apart := false, narrowed := true }
def OrderChainUptoSaid : Prop := orderChainUptoRow.holds Try.pinned (OpenSpec.upto orderChainSpec)

/-- 'arraylanglaw06.OrderSorted', WHERE WHAT IT READS IS OF BULK AT MOST 1048576: true; the input reads as it did. -/
def orderSortedUptoRow : OpenClaim := { program := "ytppdibblkaepjaa", sum := "a0ef553b199a0308392b8c1d13ba0308e24b11075161179faf59ee939e11fd26", func := "arraylang/arraylanglaw06.OrderSorted", spec := "orderSorted", unfollowed := true, recurses := true, loops := true, apart := false, narrowed := true }
def OrderSortedUptoSaid : Prop := orderSortedUptoRow.holds Try.pinned (OpenSpec.upto orderSortedSpec)

/-- 'arraylanglaw06.OrderVectors', WHERE WHAT IT READS IS OF BULK AT MOST 1048576: true; the input reads as it did. -/
def orderVectorsUptoRow : OpenClaim := { program := "ytppdibblkaepjaa", sum := "a0ef553b199a0308392b8c1d13ba0308e24b11075161179faf59ee939e11fd26", func := "arraylang/arraylanglaw06.OrderVectors", spec := "orderVectors", unfollowed := true, recurses := true, apart := false, narrowed := true }
def OrderVectorsUptoSaid : Prop := orderVectorsUptoRow.holds Try.pinned (OpenSpec.upto orderVectorsSpec)

end Rows
end Go.Proofs.Ytppdibblkaepjaa
