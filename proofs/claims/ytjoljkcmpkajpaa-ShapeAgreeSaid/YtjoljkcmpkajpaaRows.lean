/-
  No cell of these rows narrows 'for every input' (looked for: loops, veiled, ifaces, maps, wideKeys, modest, calm, conditions, laid).
  DERIVED. THE GIVEN ROWS OF THIS SEAT. 7 by the template 'for every input the law returns true; each argument reads behind the call as it read before'; 0 by the template 'total and deterministic' (their statements: YtjoljkcmpkajpaaTotals.lean).
  GIVEN WITH THE SEED: the statements are not yours to turn. If you find one false, say at which input.
  Laid BY PROGRAM, IN A SANDBOX (cutbox-rows.mjs): the forced cells as the released guide's own fill.sh prints them over the translation 6eb1fe6785172e31… (all of the seat's roots in one cut). By AI agents, Wed Nov 11 2026. No macro, syntax, notation, axiom, sorry.
-/
import Derived.Test.YtjoljkcmpkajpaaChecked
import GoSem.Claim
import GoSem.ClaimJoined
import GoSem.ClaimMapViews
import Derived.JoinedTies
import Derived.KernelRfl
namespace Go.Proofs.Ytjoljkcmpkajpaa
/- THE CELL 'sum', in the pinned program and in every row, IS THE sha256 OF THE DUMP (.gsa) THAT YtjoljkcmpkajpaaProg.lean LOADS. Nothing in Lean hashes anything: it is a label: what it is worth is what the hold of that sum in a sandbox is worth. -/
noncomputable def Try.pinned : Pinned := { name := "ytjoljkcmpkajpaa", sum := "6eb1fe6785172e31791316c63b6068482dcbe57f07887259f9223788a47d3b96", checked := Try.checked }
namespace Rows
def none {H : Type} : Left H := { results := [], args := [] }

/-- 'arraylanglaw02.ShapeRight': WHATEVER THE INPUT: true; the input reads as it did. -/
def shapeRightSpec : ChangeSpec := { name := "shapeRight", fn := fun _ => fun
  | [d1, d2] => { results := [.lit (.bool true)], args := [d1, d2] }
  | _ => none }
def shapeRightRow : OpenClaim := { program := "ytjoljkcmpkajpaa", sum := "6eb1fe6785172e31791316c63b6068482dcbe57f07887259f9223788a47d3b96", func := "arraylang/arraylanglaw02.ShapeRight", spec := "shapeRight", apart := false }
def ShapeRightSaid : Prop := shapeRightRow.holds Try.pinned (OpenSpec.ofChange shapeRightSpec)

/-- ITS FALSE NEIGHBOUR: 'it returns false'. Refute it at one input. -/
def shapeRightWrong : ChangeSpec := { name := "shapeRight", fn := fun _ => fun
  | [d1, d2] => { results := [.lit (.bool false)], args := [d1, d2] }
  | _ => none }
def ShapeRightWrongFalsely : Prop := shapeRightRow.holds Try.pinned (OpenSpec.ofChange shapeRightWrong)

/-- 'arraylanglaw02.ShapeOffset': WHATEVER THE INPUT: true; the input reads as it did. -/
def shapeOffsetSpec : ChangeSpec := { name := "shapeOffset", fn := fun _ => fun
  | [d1, d2] => { results := [.lit (.bool true)], args := [d1, d2] }
  | _ => none }
def shapeOffsetRow : OpenClaim := { program := "ytjoljkcmpkajpaa", sum := "6eb1fe6785172e31791316c63b6068482dcbe57f07887259f9223788a47d3b96", func := "arraylang/arraylanglaw02.ShapeOffset", spec := "shapeOffset", apart := false }
def ShapeOffsetSaid : Prop := shapeOffsetRow.holds Try.pinned (OpenSpec.ofChange shapeOffsetSpec)

/-- ITS FALSE NEIGHBOUR: 'it returns false'. Refute it at one input. -/
def shapeOffsetWrong : ChangeSpec := { name := "shapeOffset", fn := fun _ => fun
  | [d1, d2] => { results := [.lit (.bool false)], args := [d1, d2] }
  | _ => none }
def ShapeOffsetWrongFalsely : Prop := shapeOffsetRow.holds Try.pinned (OpenSpec.ofChange shapeOffsetWrong)

/-- 'arraylanglaw02.ShapeIndex': WHATEVER THE INPUT: true; the input reads as it did. -/
def shapeIndexSpec : ChangeSpec := { name := "shapeIndex", fn := fun _ => fun
  | [d1, d2] => { results := [.lit (.bool true)], args := [d1, d2] }
  | _ => none }
def shapeIndexRow : OpenClaim := { program := "ytjoljkcmpkajpaa", sum := "6eb1fe6785172e31791316c63b6068482dcbe57f07887259f9223788a47d3b96", func := "arraylang/arraylanglaw02.ShapeIndex", spec := "shapeIndex", apart := false }
def ShapeIndexSaid : Prop := shapeIndexRow.holds Try.pinned (OpenSpec.ofChange shapeIndexSpec)

/-- ITS FALSE NEIGHBOUR: 'it returns false'. Refute it at one input. -/
def shapeIndexWrong : ChangeSpec := { name := "shapeIndex", fn := fun _ => fun
  | [d1, d2] => { results := [.lit (.bool false)], args := [d1, d2] }
  | _ => none }
def ShapeIndexWrongFalsely : Prop := shapeIndexRow.holds Try.pinned (OpenSpec.ofChange shapeIndexWrong)

/-- 'arraylanglaw02.ShapeBack': WHATEVER THE INPUT: true; the input reads as it did. -/
def shapeBackSpec : ChangeSpec := { name := "shapeBack", fn := fun _ => fun
  | [d1, d2] => { results := [.lit (.bool true)], args := [d1, d2] }
  | _ => none }
def shapeBackRow : OpenClaim := { program := "ytjoljkcmpkajpaa", sum := "6eb1fe6785172e31791316c63b6068482dcbe57f07887259f9223788a47d3b96", func := "arraylang/arraylanglaw02.ShapeBack", spec := "shapeBack", apart := false }
def ShapeBackSaid : Prop := shapeBackRow.holds Try.pinned (OpenSpec.ofChange shapeBackSpec)

/-- ITS FALSE NEIGHBOUR: 'it returns false'. Refute it at one input. -/
def shapeBackWrong : ChangeSpec := { name := "shapeBack", fn := fun _ => fun
  | [d1, d2] => { results := [.lit (.bool false)], args := [d1, d2] }
  | _ => none }
def ShapeBackWrongFalsely : Prop := shapeBackRow.holds Try.pinned (OpenSpec.ofChange shapeBackWrong)

/-- 'arraylanglaw02.ShapeAgree': WHATEVER THE INPUT: true; the input reads as it did. -/
def shapeAgreeSpec : ChangeSpec := { name := "shapeAgree", fn := fun _ => fun
  | [d1, d2] => { results := [.lit (.bool true)], args := [d1, d2] }
  | _ => none }
def shapeAgreeRow : OpenClaim := { program := "ytjoljkcmpkajpaa", sum := "6eb1fe6785172e31791316c63b6068482dcbe57f07887259f9223788a47d3b96", func := "arraylang/arraylanglaw02.ShapeAgree", spec := "shapeAgree", apart := false }
def ShapeAgreeSaid : Prop := shapeAgreeRow.holds Try.pinned (OpenSpec.ofChange shapeAgreeSpec)

/-- ITS FALSE NEIGHBOUR: 'it returns false'. Refute it at one input. -/
def shapeAgreeWrong : ChangeSpec := { name := "shapeAgree", fn := fun _ => fun
  | [d1, d2] => { results := [.lit (.bool false)], args := [d1, d2] }
  | _ => none }
def ShapeAgreeWrongFalsely : Prop := shapeAgreeRow.holds Try.pinned (OpenSpec.ofChange shapeAgreeWrong)

/-- 'arraylanglaw02.ShapeRow': WHATEVER THE INPUT: true; the input reads as it did. -/
def shapeRowSpec : ChangeSpec := { name := "shapeRow", fn := fun _ => fun
  | [d1, d2] => { results := [.lit (.bool true)], args := [d1, d2] }
  | _ => none }
def shapeRowRow : OpenClaim := { program := "ytjoljkcmpkajpaa", sum := "6eb1fe6785172e31791316c63b6068482dcbe57f07887259f9223788a47d3b96", func := "arraylang/arraylanglaw02.ShapeRow", spec := "shapeRow", apart := false }
def ShapeRowSaid : Prop := shapeRowRow.holds Try.pinned (OpenSpec.ofChange shapeRowSpec)

/-- ITS FALSE NEIGHBOUR: 'it returns false'. Refute it at one input. -/
def shapeRowWrong : ChangeSpec := { name := "shapeRow", fn := fun _ => fun
  | [d1, d2] => { results := [.lit (.bool false)], args := [d1, d2] }
  | _ => none }
def ShapeRowWrongFalsely : Prop := shapeRowRow.holds Try.pinned (OpenSpec.ofChange shapeRowWrong)

/-- 'arraylanglaw02.ShapeShow': WHATEVER THE INPUT: true; the input reads as it did. -/
def shapeShowSpec : ChangeSpec := { name := "shapeShow", fn := fun _ => fun
  | [d] => { results := [.lit (.bool true)], args := [d] }
  | _ => none }
def shapeShowRow : OpenClaim := { program := "ytjoljkcmpkajpaa", sum := "6eb1fe6785172e31791316c63b6068482dcbe57f07887259f9223788a47d3b96", func := "arraylang/arraylanglaw02.ShapeShow", spec := "shapeShow", recurses := true, apart := false }
def ShapeShowSaid : Prop := shapeShowRow.holds Try.pinned (OpenSpec.ofChange shapeShowSpec)

/-- ITS FALSE NEIGHBOUR: 'it returns false'. Refute it at one input. -/
def shapeShowWrong : ChangeSpec := { name := "shapeShow", fn := fun _ => fun
  | [d] => { results := [.lit (.bool false)], args := [d] }
  | _ => none }
def ShapeShowWrongFalsely : Prop := shapeShowRow.holds Try.pinned (OpenSpec.ofChange shapeShowWrong)

/- THE SECOND FORM. 'bulk': how many values and letters a reading holds, each counted each time it is reached (what is shared counts as often as it is met; a slice's spare places count too). A statement '..UptoSaid' is the law's where the arguments, and the package variables that the reading takes, are together of bulk at most 1048576: NARROWER than '..Said'. Prove '..Said' where nothing that the law and all that it calls make is longer than what came in: it says more and counts as full. Else prove '..UptoSaid'. A law counts once. -/
mutual
def uptoBulk {H : Type} : DataW H → Nat
  | .lit (.string bytes) => bytes.length + 1
  | .lit _ => 1
  | .nil => 1
  | .ptr d => uptoBulk d + 1
  | .slice elems spare => uptoBulkAll elems + uptoBulkAll spare + 1
  | .agg parts => uptoBulkAll parts + 1
  | .iface _ d => uptoBulk d + 1
  | .map entries => uptoBulkEntries entries + 1
  | .held _ => 1
def uptoBulkAll {H : Type} : List (DataW H) → Nat
  | [] => 0
  | d :: r => uptoBulk d + uptoBulkAll r
def uptoBulkEntries {H : Type} : List (Lit × DataW H) → Nat
  | [] => 0
  | x :: r => uptoBulkEntry x + uptoBulkEntries r
def uptoBulkEntry {H : Type} : Lit × DataW H → Nat
  | (.string bytes, d) => bytes.length + uptoBulk d + 1
  | (_, d) => uptoBulk d + 1
 end
def uptoSmall : (H : Type) → List (DataW H) → Bool := fun _ ds => decide (uptoBulkAll ds ≤ 1048576)
def OpenSpec.upto (s : _root_.Go.ChangeSpec) : _root_.Go.OpenSpec := { _root_.Go.OpenSpec.ofChange s with cond := some uptoSmall }

/-- 'arraylanglaw02.ShapeRight', WHERE WHAT IT READS IS OF BULK AT MOST 1048576: true; the input reads as it did. -/
def shapeRightUptoRow : OpenClaim := { program := "ytjoljkcmpkajpaa", sum := "6eb1fe6785172e31791316c63b6068482dcbe57f07887259f9223788a47d3b96", func := "arraylang/arraylanglaw02.ShapeRight", spec := "shapeRight", apart := false, narrowed := true }
def ShapeRightUptoSaid : Prop := shapeRightUptoRow.holds Try.pinned (OpenSpec.upto shapeRightSpec)

/-- 'arraylanglaw02.ShapeOffset', WHERE WHAT IT READS IS OF BULK AT MOST 1048576: true; the input reads as it did. -/
def shapeOffsetUptoRow : OpenClaim := { program := "ytjoljkcmpkajpaa", sum := "6eb1fe6785172e31791316c63b6068482dcbe57f07887259f9223788a47d3b96", func := "arraylang/arraylanglaw02.ShapeOffset", spec := "shapeOffset", apart := false, narrowed := true }
def ShapeOffsetUptoSaid : Prop := shapeOffsetUptoRow.holds Try.pinned (OpenSpec.upto shapeOffsetSpec)

/-- 'arraylanglaw02.ShapeIndex', WHERE WHAT IT READS IS OF BULK AT MOST 1048576: true; the input reads as it did. -/
def shapeIndexUptoRow : OpenClaim := { program := "ytjoljkcmpkajpaa", sum := "6eb1fe6785172e31791316c63b6068482dcbe57f07887259f9223788a47d3b96", func := "arraylang/arraylanglaw02.ShapeIndex", spec := "shapeIndex", apart := false, narrowed := true }
def ShapeIndexUptoSaid : Prop := shapeIndexUptoRow.holds Try.pinned (OpenSpec.upto shapeIndexSpec)

/-- 'arraylanglaw02.ShapeBack', WHERE WHAT IT READS IS OF BULK AT MOST 1048576: true; the input reads as it did. -/
def shapeBackUptoRow : OpenClaim := { program := "ytjoljkcmpkajpaa", sum := "6eb1fe6785172e31791316c63b6068482dcbe57f07887259f9223788a47d3b96", func := "arraylang/arraylanglaw02.ShapeBack", spec := "shapeBack", apart := false, narrowed := true }
def ShapeBackUptoSaid : Prop := shapeBackUptoRow.holds Try.pinned (OpenSpec.upto shapeBackSpec)

/-- 'arraylanglaw02.ShapeAgree', WHERE WHAT IT READS IS OF BULK AT MOST 1048576: true; the input reads as it did. -/
def shapeAgreeUptoRow : OpenClaim := { program := "ytjoljkcmpkajpaa", sum := "6eb1fe6785172e31791316c63b6068482dcbe57f07887259f9223788a47d3b96", func := "arraylang/arraylanglaw02.ShapeAgree", spec := "shapeAgree", apart := false, narrowed := true }
def ShapeAgreeUptoSaid : Prop := shapeAgreeUptoRow.holds Try.pinned (OpenSpec.upto shapeAgreeSpec)

/-- 'arraylanglaw02.ShapeRow', WHERE WHAT IT READS IS OF BULK AT MOST 1048576: true; the input reads as it did. -/
def shapeRowUptoRow : OpenClaim := { program := "ytjoljkcmpkajpaa", sum := "6eb1fe6785172e31791316c63b6068482dcbe57f07887259f9223788a47d3b96", func := "arraylang/arraylanglaw02.ShapeRow", spec := "shapeRow", apart := false, narrowed := true }
def ShapeRowUptoSaid : Prop := shapeRowUptoRow.holds Try.pinned (OpenSpec.upto shapeRowSpec)

/-- 'arraylanglaw02.ShapeShow', WHERE WHAT IT READS IS OF BULK AT MOST 1048576: true; the input reads as it did. -/
def shapeShowUptoRow : OpenClaim := { program := "ytjoljkcmpkajpaa", sum := "6eb1fe6785172e31791316c63b6068482dcbe57f07887259f9223788a47d3b96", func := "arraylang/arraylanglaw02.ShapeShow", spec := "shapeShow", recurses := true, apart := false, narrowed := true }
def ShapeShowUptoSaid : Prop := shapeShowUptoRow.holds Try.pinned (OpenSpec.upto shapeShowSpec)

end Rows
end Go.Proofs.Ytjoljkcmpkajpaa
