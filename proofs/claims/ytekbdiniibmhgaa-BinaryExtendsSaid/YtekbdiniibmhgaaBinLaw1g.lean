/-
  Layer 16: the walks of the laws BinaryScalar and BinaryApply, over the contracts.
-/
import Derived.Test.YtekbdiniibmhgaaBinLaw0g
import Derived.Test.YtekbdiniibmhgaaBinFewg
namespace Go.Proofs.Ytekbdiniibmhgaa.Shape
open Go.RowKit
set_option linter.unusedVariables false
set_option linter.unusedSimpArgs false

set_option maxHeartbeats 2000000 in
theorem scalar16 (SC : ScalarOK) (IS : IsOK) (LV : LivesOK) (p x y : Int) (w : World) : Calls Try.prog 3 #[.int .i64 p, .int .i64 x, .int .i64 y] w fun e w' => e = .returned (.bool true) ∧ Below w.heap.size w w' := by
  have D := fun w => SC p x y w
  have M := fun w => scalar16R p x y w
  have I1 := fun w => IS p w
  have I2 := fun w => is16R p w
  generalize binS p x y = R at D M
  obtain ⟨n, f⟩ := R
  generalize binB p = b at I1 I2
  simp only at D M
  clear SC IS
  unfold LivesOK at LV
  cases b
  all_goals go_enter Try.func3, Try.ntmps3
  all_goals go_wp2_with (first
      | (go_at_call 8; with_reducible refine Calls.mono (D _) ?_; rintro e w1 ⟨rfl, b1⟩)
      | (go_at_call 9; with_reducible refine Calls.mono (M _) ?_; rintro e w2 ⟨rfl, rfl⟩)
      | (go_at_call 10; with_reducible refine Calls.mono (I1 _) ?_; rintro e w3 ⟨rfl, b3⟩)
      | (go_at_call 11; with_reducible refine Calls.mono (I2 _) ?_; rintro e w4 ⟨rfl, rfl⟩)
      | (go_at_call 12; with_reducible refine Calls.mono (LV _) ?_; rintro e w5 ⟨rfl, b5⟩))
  all_goals go_ret
  all_goals exact ⟨rfl, Below.then (Below.then b1 b3) b5⟩
end Go.Proofs.Ytekbdiniibmhgaa.Shape
