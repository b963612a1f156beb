/-
  Layer 16: the walk of the law BinaryExtends.
-/
import Derived.Test.YtekbdiniibmhgaaBinExW2g
namespace Go.Proofs.Ytekbdiniibmhgaa.Shape
open Go.RowKit
set_option linter.unusedVariables false

theorem extends16 (AP : ApplyOK) (LV : LivesOK) (p : Int) (v v2 : Value) (A B : Arr) (w : World) (h : ArrAt w v A) (g : ArrAt w v2 B) (rA : Reach A) (rB : Reach B) : Calls Try.prog 7 #[.int .i64 p, v, v2] w fun e w' => e = .returned (.bool true) ∧ Below w.heap.size w w' := by
  by_cases e1 : rightE A = 0
  · by_cases e2 : rightE B = 0
    · by_cases hs : A.shape = []
      · by_cases hk : A.kind = 3
        · exact exD LV p v v2 A B w h g e1 e2 hs hk
        · exact exM AP LV p v v2 A B w h g rA rB e1 e2 hs hk
      · exact exC LV p v v2 A B w h g e1 e2 hs
    · exact exB LV p v v2 A B w h g e1 e2
  · exact exA LV p v v2 A B w h g e1
end Go.Proofs.Ytekbdiniibmhgaa.Shape
