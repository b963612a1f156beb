/-
  NARROWER THAN 'FOR EVERY INPUT', by the rows' own cells (each row's printed sentence says how): BinaryApply: loops · BinaryTurned: loops · BinaryExtends: loops.
  DERIVED. THE GIVEN ROWS OF THIS SEAT. 5 by the template 'for every input the law returns true; each argument reads behind the call as it read before'; 0 by the template 'total and deterministic' (their statements: YtekbdiniibmhgaaTotals.lean).
  GIVEN WITH THE SEED: the statements are not yours to turn. If you find one false, say at which input.
  Laid BY PROGRAM, IN A SANDBOX (cutbox-rows.mjs): the forced cells as the released guide's own fill.sh prints them over the translation acb67b1900d9eea0… (all of the seat's roots in one cut). By AI agents, Wed Nov 11 2026. No macro, syntax, notation, axiom, sorry.
-/
import Derived.Test.YtekbdiniibmhgaaChecked
import GoSem.Claim
import GoSem.ClaimJoined
import GoSem.ClaimMapViews
import Derived.JoinedTies
import Derived.KernelRfl
namespace Go.Proofs.Ytekbdiniibmhgaa
/- THE CELL 'sum', in the pinned program and in every row, IS THE sha256 OF THE DUMP (.gsa) THAT YtekbdiniibmhgaaProg.lean LOADS. Nothing in Lean hashes anything: it is a label: what it is worth is what the hold of that sum in a sandbox is worth. -/
noncomputable def Try.pinned : Pinned := { name := "ytekbdiniibmhgaa", sum := "acb67b1900d9eea069fe46d8a5ada922c65a41976a2c02dd199e6b47ed8b67f6", checked := Try.checked }
namespace Rows
def none {H : Type} : Left H := { results := [], args := [] }

/-- 'arraylanglaw16.BinaryScalar': WHATEVER THE INPUT: true; the input reads as it did. -/
def binaryScalarSpec : ChangeSpec := { name := "binaryScalar", fn := fun _ => fun
  | [d1, d2, d3] => { results := [.lit (.bool true)], args := [d1, d2, d3] }
  | _ => none }
def binaryScalarRow : OpenClaim := { program := "ytekbdiniibmhgaa", sum := "acb67b1900d9eea069fe46d8a5ada922c65a41976a2c02dd199e6b47ed8b67f6", func := "arraylang/arraylanglaw16.BinaryScalar", spec := "binaryScalar", unfollowed := true, recurses := true, apart := false }
def BinaryScalarSaid : Prop := binaryScalarRow.holds Try.pinned (OpenSpec.ofChange binaryScalarSpec)

/-- ITS FALSE NEIGHBOUR: 'it returns false'. Refute it at one input. -/
def binaryScalarWrong : ChangeSpec := { name := "binaryScalar", fn := fun _ => fun
  | [d1, d2, d3] => { results := [.lit (.bool false)], args := [d1, d2, d3] }
  | _ => none }
def BinaryScalarWrongFalsely : Prop := binaryScalarRow.holds Try.pinned (OpenSpec.ofChange binaryScalarWrong)

/-- 'arraylanglaw16.BinaryApply': WHATEVER THE INPUT: true; the input reads as it did. -/
def binaryApplySpec : ChangeSpec := { name := "binaryApply", fn := fun _ => fun
  | [d1, d2, d3] => { results := [.lit (.bool true)], args := [d1, d2, d3] }
  | _ => none }
def binaryApplyRow : OpenClaim := { program := "ytekbdiniibmhgaa", sum := "acb67b1900d9eea069fe46d8a5ada922c65a41976a2c02dd199e6b47ed8b67f6", func := "arraylang/arraylanglaw16.BinaryApply", spec := "binaryApply", unfollowed := true, recurses := true, loops := true, apart := false }
def BinaryApplySaid : Prop := binaryApplyRow.holds Try.pinned (OpenSpec.ofChange binaryApplySpec)

/-- ITS FALSE NEIGHBOUR: 'it returns false'. Refute it at one input. -/
def binaryApplyWrong : ChangeSpec := { name := "binaryApply", fn := fun _ => fun
  | [d1, d2, d3] => { results := [.lit (.bool false)], args := [d1, d2, d3] }
  | _ => none }
def BinaryApplyWrongFalsely : Prop := binaryApplyRow.holds Try.pinned (OpenSpec.ofChange binaryApplyWrong)

/-- 'arraylanglaw16.BinaryTurned': WHATEVER THE INPUT: true; the input reads as it did. -/
def binaryTurnedSpec : ChangeSpec := { name := "binaryTurned", fn := fun _ => fun
  | [d1, d2, d3] => { results := [.lit (.bool true)], args := [d1, d2, d3] }
  | _ => none }
def binaryTurnedRow : OpenClaim := { program := "ytekbdiniibmhgaa", sum := "acb67b1900d9eea069fe46d8a5ada922c65a41976a2c02dd199e6b47ed8b67f6", func := "arraylang/arraylanglaw16.BinaryTurned", spec := "binaryTurned", unfollowed := true, recurses := true, loops := true, apart := false }
def BinaryTurnedSaid : Prop := binaryTurnedRow.holds Try.pinned (OpenSpec.ofChange binaryTurnedSpec)

/-- ITS FALSE NEIGHBOUR: 'it returns false'. Refute it at one input. -/
def binaryTurnedWrong : ChangeSpec := { name := "binaryTurned", fn := fun _ => fun
  | [d1, d2, d3] => { results := [.lit (.bool false)], args := [d1, d2, d3] }
  | _ => none }
def BinaryTurnedWrongFalsely : Prop := binaryTurnedRow.holds Try.pinned (OpenSpec.ofChange binaryTurnedWrong)

/-- 'arraylanglaw16.BinaryDivides': WHATEVER THE INPUT: true; the input reads as it did. -/
def binaryDividesSpec : ChangeSpec := { name := "binaryDivides", fn := fun _ => fun
  | [d1, d2] => { results := [.lit (.bool true)], args := [d1, d2] }
  | _ => none }
def binaryDividesRow : OpenClaim := { program := "ytekbdiniibmhgaa", sum := "acb67b1900d9eea069fe46d8a5ada922c65a41976a2c02dd199e6b47ed8b67f6", func := "arraylang/arraylanglaw16.BinaryDivides", spec := "binaryDivides", unfollowed := true, recurses := true, apart := false }
def BinaryDividesSaid : Prop := binaryDividesRow.holds Try.pinned (OpenSpec.ofChange binaryDividesSpec)

/-- ITS FALSE NEIGHBOUR: 'it returns false'. Refute it at one input. -/
def binaryDividesWrong : ChangeSpec := { name := "binaryDivides", fn := fun _ => fun
  | [d1, d2] => { results := [.lit (.bool false)], args := [d1, d2] }
  | _ => none }
def BinaryDividesWrongFalsely : Prop := binaryDividesRow.holds Try.pinned (OpenSpec.ofChange binaryDividesWrong)

/-- 'arraylanglaw16.BinaryExtends': WHATEVER THE INPUT: true; the input reads as it did. -/
def binaryExtendsSpec : ChangeSpec := { name := "binaryExtends", fn := fun _ => fun
  | [d1, d2, d3] => { results := [.lit (.bool true)], args := [d1, d2, d3] }
  | _ => none }
def binaryExtendsRow : OpenClaim := { program := "ytekbdiniibmhgaa", sum := "acb67b1900d9eea069fe46d8a5ada922c65a41976a2c02dd199e6b47ed8b67f6", func := "arraylang/arraylanglaw16.BinaryExtends", spec := "binaryExtends", unfollowed := true, recurses := true, loops := true, apart := false }
def BinaryExtendsSaid : Prop := binaryExtendsRow.holds Try.pinned (OpenSpec.ofChange binaryExtendsSpec)

/-- ITS FALSE NEIGHBOUR: 'it returns false'. Refute it at one input. -/
def binaryExtendsWrong : ChangeSpec := { name := "binaryExtends", fn := fun _ => fun
  | [d1, d2, d3] => { results := [.lit (.bool false)], args := [d1, d2, d3] }
  | _ => none }
def BinaryExtendsWrongFalsely : Prop := binaryExtendsRow.holds Try.pinned (OpenSpec.ofChange binaryExtendsWrong)

/- THE SECOND FORM. 'bulk': how many values and letters a reading holds, each counted each time it is reached (what is shared counts as often as it is met; a slice's spare places count too). A statement '..UptoSaid' is the law's where the arguments, and the package variables that the reading takes, are together of bulk at most 1048576: NARROWER than '..Said'. Prove '..Said' where nothing that the law and all that it calls make is longer than what came in: it says more and counts as full. Else prove '..UptoSaid'. A law counts once. -/
mutual
def uptoBulk {H : Type} : DataW H → Nat
  | .lit (.string bytes) => bytes.length + 1
  | .lit _ => 1
  | .nil => 1
  | .ptr d => uptoBulk d + 1
  | .slice elems spare => uptoBulkAll elems + uptoBulkAll spare + 1
  | .agg parts => uptoBulkAll parts + 1
  | .iface _ d => uptoBulk d + 1
  | .map entries => uptoBulkEntries entries + 1
  | .held _ => 1
def uptoBulkAll {H : Type} : List (DataW H) → Nat
  | [] => 0
  | d :: r => uptoBulk d + uptoBulkAll r
def uptoBulkEntries {H : Type} : List (Lit × DataW H) → Nat
  | [] => 0
  | x :: r => uptoBulkEntry x + uptoBulkEntries r
def uptoBulkEntry {H : Type} : Lit × DataW H → Nat
  | (.string bytes, d) => bytes.length + uptoBulk d + 1
  | (_, d) => uptoBulk d + 1
 end
def uptoSmall : (H : Type) → List (DataW H) → Bool := fun _ ds => decide (uptoBulkAll ds ≤ 1048576)
def OpenSpec.upto (s : _root_.Go.ChangeSpec) : _root_.Go.OpenSpec := { _root_.Go.OpenSpec.ofChange s with cond := some uptoSmall }

/-- 'arraylanglaw16.BinaryScalar', WHERE WHAT IT READS IS OF BULK AT MOST 1048576: true; the input reads as it did. -/
def binaryScalarUptoRow : OpenClaim := { program := "ytekbdiniibmhgaa", sum := "acb67b1900d9eea069fe46d8a5ada922c65a41976a2c02dd199e6b47ed8b67f6", func := "arraylang/arraylanglaw16.BinaryScalar", spec := "binaryScalar", unfollowed := true, recurses := true, apart := false, narrowed := true }
def BinaryScalarUptoSaid : Prop := binaryScalarUptoRow.holds Try.pinned (OpenSpec.upto binaryScalarSpec)

/-- 'arraylanglaw16.BinaryApply', WHERE WHAT IT READS IS OF BULK AT MOST 1048576: true; the input reads as it did. -/
def binaryApplyUptoRow : OpenClaim := { program := "ytekbdiniibmhgaa", sum := "acb67b1900d9eea069fe46d8a5ada922c65a41976a2c02dd199e6b47ed8b67f6", func := "arraylang/arraylanglaw16.BinaryApply", spec := "binaryApply", unfollowed := true, recurses := true, loops := true, apart := false, narrowed := true }
def BinaryApplyUptoSaid : Prop := binaryApplyUptoRow.holds Try.pinned (OpenSpec.upto binaryApplySpec)

/-- 'arraylanglaw16.BinaryTurned', WHERE WHAT IT READS IS OF BULK AT MOST 1048576: true; the input reads as it did. -/
def binaryTurnedUptoRow : OpenClaim := { program := "ytekbdiniibmhgaa", sum := "acb67b1900d9eea069fe46d8a5ada922c65a41976a2c02dd199e6b47ed8b67f6", func := "arraylang/arraylanglaw16.BinaryTurned", spec := "binaryTurned", unfollowed := true, recurses := true, loops := true, apart := false, narrowed := true }
def BinaryTurnedUptoSaid : Prop := binaryTurnedUptoRow.holds Try.pinned (OpenSpec.upto binaryTurnedSpec)

/-- 'arraylanglaw16.BinaryDivides', WHERE WHAT IT READS IS OF BULK AT MOST 1048576: true; the input reads as it did. -/
def binaryDividesUptoRow : OpenClaim := { program := "ytekbdiniibmhgaa", sum := "acb67b1900d9eea069fe46d8a5ada922c65a41976a2c02dd199e6b47ed8b67f6", func := "arraylang/arraylanglaw16.BinaryDivides", spec := "binaryDivides", unfollowed := true, recurses := true, apart := false, narrowed := true }
def BinaryDividesUptoSaid : Prop := binaryDividesUptoRow.holds Try.pinned (OpenSpec.upto binaryDividesSpec)

/-- 'arraylanglaw16.BinaryExtends', WHERE WHAT IT READS IS OF BULK AT MOST 1048576: true; the input reads as it did. -/
def binaryExtendsUptoRow : OpenClaim := { program := "ytekbdiniibmhgaa", sum := "acb67b1900d9eea069fe46d8a5ada922c65a41976a2c02dd199e6b47ed8b67f6", func := "arraylang/arraylanglaw16.BinaryExtends", spec := "binaryExtends", unfollowed := true, recurses := true, loops := true, apart := false, narrowed := true }
def BinaryExtendsUptoSaid : Prop := binaryExtendsUptoRow.holds Try.pinned (OpenSpec.upto binaryExtendsSpec)

end Rows
end Go.Proofs.Ytekbdiniibmhgaa
