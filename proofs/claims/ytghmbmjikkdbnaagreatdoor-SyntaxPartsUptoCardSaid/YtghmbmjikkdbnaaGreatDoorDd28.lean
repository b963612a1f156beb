/-
  Layer 10: the literal 1 is written as it is, over the tables that strconv and math/bits lay.
-/
import Derived.Test.YtghmbmjikkdbnaaGreatDoorDd26
import Derived.Test.YtghmbmjikkdbnaaGreatDoorDd22
namespace Go.Proofs.YtghmbmjikkdbnaaGreatDoor.Syn
open Go.RowKit Go.Shelf Go.Maps Go.Proofs.YtghmbmjikkdbnaaGreatDoor.Shape
set_option linter.unusedVariables false
set_option maxRecDepth 100000
theorem lit_one (w : World) (hT : Tok.TZ w) (hg : 5 < w.heap.size) : LitOK w oneA ⟨#[49]⟩ := by
  intro v w' hb h
  have hz : aSize oneA = 1 := by decide
  have e : (elsT oneA).headD [] = [49] := by kernel_rfl
  have el : (elsT oneA).length = 1 := by decide
  refine LiteralG v oneA [49] w' h (by decide) (Tok.TZ.below hT hb) (Nat.lt_of_lt_of_le hg hb.size) fun w X v hT hg hB hA => ?_
  rw [← e]
  exact wlScal [] [1] [] 1 1 hz (by decide) (fun h => absurd h (by decide)) (by show 0 < (elsT oneA).length; omega) (by show ([] : List UInt8).length + ((elsT oneA)[0]'(by omega)).length ≤ 700000; rw [← headD_at0 (by omega), e]; decide) v w X hT hg hB hA rfl (Nat.le_refl _) rfl
theorem knowsL (w : World) (hT : Tab w) (hZ : Tok.TZ w) (hg : 5 < w.heap.size) : Calls Tryz.prog 14 #[] w fun e w' => e = .returned (.bool true) ∧ Below w.heap.size w w' :=
  knowsT w hT (lit_one w hZ hg)
end Go.Proofs.YtghmbmjikkdbnaaGreatDoor.Syn
