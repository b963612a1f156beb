/-
  No cell of these rows narrows 'for every input' (looked for: loops, veiled, ifaces, maps, wideKeys, modest, calm, conditions, laid).
  DERIVED. THE GIVEN ROWS OF THIS SEAT. 3 by the template 'for every input the law returns true; each argument reads behind the call as it read before'; 0 by the template 'total and deterministic' (their statements: YtmnomkcgkjccgaaTotals.lean).
  GIVEN WITH THE SEED: the statements are not yours to turn. If you find one false, say at which input.
  Laid BY PROGRAM, IN A SANDBOX (cutbox-rows.mjs): the forced cells as the released guide's own fill.sh prints them over the translation 666f25e263df6b91… (all of the seat's roots in one cut). By AI agents, Wed Nov 11 2026. No macro, syntax, notation, axiom, sorry.
-/
import Derived.Test.YtmnomkcgkjccgaaChecked
import GoSem.Claim
import GoSem.ClaimJoined
import GoSem.ClaimMapViews
import Derived.JoinedTies
import Derived.KernelRfl
namespace Go.Proofs.Ytmnomkcgkjccgaa
/- THE CELL 'sum', in the pinned program and in every row, IS THE sha256 OF THE DUMP (.gsa) THAT YtmnomkcgkjccgaaProg.lean LOADS. Nothing in Lean hashes anything: it is a label: what it is worth is what the hold of that sum in a sandbox is worth. -/
noncomputable def Try.pinned : Pinned := { name := "ytmnomkcgkjccgaa", sum := "666f25e263df6b91b2377447176cee2e69794ebf39abb906433b209bef6d0c1e", checked := Try.checked }
namespace Rows
def none {H : Type} : Left H := { results := [], args := [] }

/-- 'arraylanglaw09.LiteralQuote': WHATEVER THE INPUT: true; the input reads as it did. -/
def literalQuoteSpec : ChangeSpec := { name := "literalQuote", fn := fun _ => fun
  | [d] => { results := [.lit (.bool true)], args := [d] }
  | _ => none }
def literalQuoteRow : OpenClaim := { program := "ytmnomkcgkjccgaa", sum := "666f25e263df6b91b2377447176cee2e69794ebf39abb906433b209bef6d0c1e", func := "arraylang/arraylanglaw09.LiteralQuote", spec := "literalQuote", recurses := true, apart := false }
def LiteralQuoteSaid : Prop := literalQuoteRow.holds Try.pinned (OpenSpec.ofChange literalQuoteSpec)

/-- ITS FALSE NEIGHBOUR: 'it returns false'. Refute it at one input. -/
def literalQuoteWrong : ChangeSpec := { name := "literalQuote", fn := fun _ => fun
  | [d] => { results := [.lit (.bool false)], args := [d] }
  | _ => none }
def LiteralQuoteWrongFalsely : Prop := literalQuoteRow.holds Try.pinned (OpenSpec.ofChange literalQuoteWrong)

/-- 'arraylanglaw09.LiteralShow': WHATEVER THE INPUT: true; the input reads as it did. -/
def literalShowSpec : ChangeSpec := { name := "literalShow", fn := fun _ => fun
  | [d1, d2] => { results := [.lit (.bool true)], args := [d1, d2] }
  | _ => none }
def literalShowRow : OpenClaim := { program := "ytmnomkcgkjccgaa", sum := "666f25e263df6b91b2377447176cee2e69794ebf39abb906433b209bef6d0c1e", func := "arraylang/arraylanglaw09.LiteralShow", spec := "literalShow", recurses := true, apart := false }
def LiteralShowSaid : Prop := literalShowRow.holds Try.pinned (OpenSpec.ofChange literalShowSpec)

/-- ITS FALSE NEIGHBOUR: 'it returns false'. Refute it at one input. -/
def literalShowWrong : ChangeSpec := { name := "literalShow", fn := fun _ => fun
  | [d1, d2] => { results := [.lit (.bool false)], args := [d1, d2] }
  | _ => none }
def LiteralShowWrongFalsely : Prop := literalShowRow.holds Try.pinned (OpenSpec.ofChange literalShowWrong)

/-- 'arraylanglaw09.LiteralBack': WHATEVER THE INPUT: true; the input reads as it did. -/
def literalBackSpec : ChangeSpec := { name := "literalBack", fn := fun _ => fun
  | [d1, d2] => { results := [.lit (.bool true)], args := [d1, d2] }
  | _ => none }
def literalBackRow : OpenClaim := { program := "ytmnomkcgkjccgaa", sum := "666f25e263df6b91b2377447176cee2e69794ebf39abb906433b209bef6d0c1e", func := "arraylang/arraylanglaw09.LiteralBack", spec := "literalBack", recurses := true, apart := false }
def LiteralBackSaid : Prop := literalBackRow.holds Try.pinned (OpenSpec.ofChange literalBackSpec)

/-- ITS FALSE NEIGHBOUR: 'it returns false'. Refute it at one input. -/
def literalBackWrong : ChangeSpec := { name := "literalBack", fn := fun _ => fun
  | [d1, d2] => { results := [.lit (.bool false)], args := [d1, d2] }
  | _ => none }
def LiteralBackWrongFalsely : Prop := literalBackRow.holds Try.pinned (OpenSpec.ofChange literalBackWrong)

/- THE SECOND FORM. 'bulk': how many values and letters a reading holds, each counted each time it is reached (what is shared counts as often as it is met; a slice's spare places count too). A statement '..UptoSaid' is the law's where the arguments, and the package variables that the reading takes, are together of bulk at most 1048576: NARROWER than '..Said'. Prove '..Said' where nothing that the law and all that it calls make is longer than what came in: it says more and counts as full. Else prove '..UptoSaid'. A law counts once. -/
mutual
def uptoBulk {H : Type} : DataW H → Nat
  | .lit (.string bytes) => bytes.length + 1
  | .lit _ => 1
  | .nil => 1
  | .ptr d => uptoBulk d + 1
  | .slice elems spare => uptoBulkAll elems + uptoBulkAll spare + 1
  | .agg parts => uptoBulkAll parts + 1
  | .iface _ d => uptoBulk d + 1
  | .map entries => uptoBulkEntries entries + 1
  | .held _ => 1
def uptoBulkAll {H : Type} : List (DataW H) → Nat
  | [] => 0
  | d :: r => uptoBulk d + uptoBulkAll r
def uptoBulkEntries {H : Type} : List (Lit × DataW H) → Nat
  | [] => 0
  | x :: r => uptoBulkEntry x + uptoBulkEntries r
def uptoBulkEntry {H : Type} : Lit × DataW H → Nat
  | (.string bytes, d) => bytes.length + uptoBulk d + 1
  | (_, d) => uptoBulk d + 1
 end
def uptoSmall : (H : Type) → List (DataW H) → Bool := fun _ ds => decide (uptoBulkAll ds ≤ 1048576)
def OpenSpec.upto (s : _root_.Go.ChangeSpec) : _root_.Go.OpenSpec := { _root_.Go.OpenSpec.ofChange s with cond := some uptoSmall }

/-- 'arraylanglaw09.LiteralQuote', WHERE WHAT IT READS IS OF BULK AT MOST 1048576: true; the input reads as it did. -/
def literalQuoteUptoRow : OpenClaim := { program := "ytmnomkcgkjccgaa", sum := "666f25e263df6b91b2377447176cee2e69794ebf39abb906433b209bef6d0c1e", func := "arraylang/arraylanglaw09.LiteralQuote", spec := "literalQuote", recurses := true, apart := false, narrowed := true }
def LiteralQuoteUptoSaid : Prop := literalQuoteUptoRow.holds Try.pinned (OpenSpec.upto literalQuoteSpec)

/-- 'arraylanglaw09.LiteralShow', WHERE WHAT IT READS IS OF BULK AT MOST 1048576: true; the input reads as it did. -/
def literalShowUptoRow : OpenClaim := { program := "ytmnomkcgkjccgaa", sum := "666f25e263df6b91b2377447176cee2e69794ebf39abb906433b209bef6d0c1e", func := "arraylang/arraylanglaw09.LiteralShow", spec := "literalShow", recurses := true, apart := false, narrowed := true }
def LiteralShowUptoSaid : Prop := literalShowUptoRow.holds Try.pinned (OpenSpec.upto literalShowSpec)

/-- 'arraylanglaw09.LiteralBack', WHERE WHAT IT READS IS OF BULK AT MOST 1048576: true; the input reads as it did. -/
def literalBackUptoRow : OpenClaim := { program := "ytmnomkcgkjccgaa", sum := "666f25e263df6b91b2377447176cee2e69794ebf39abb906433b209bef6d0c1e", func := "arraylang/arraylanglaw09.LiteralBack", spec := "literalBack", recurses := true, apart := false, narrowed := true }
def LiteralBackUptoSaid : Prop := literalBackUptoRow.holds Try.pinned (OpenSpec.upto literalBackSpec)

end Rows
end Go.Proofs.Ytmnomkcgkjccgaa
