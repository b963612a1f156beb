/-
  Layer 16: the walks of the laws BinaryScalar and BinaryDivides, over what the program's Scalar and Is are asked for and the laws' lives.
-/
import Derived.Test.YtekbdiniibmhgaaBinLv1g
import Derived.Test.YtekbdiniibmhgaaBinDivg
namespace Go.Proofs.Ytekbdiniibmhgaa.Shape
open Go.RowKit
set_option linter.unusedVariables false
set_option linter.unusedSimpArgs false

def IsOK : Prop := ∀ (p : Int) (w : World), Calls Try.prog 10 #[.int .i64 p] w fun e w' => e = .returned (.bool (binB p)) ∧ Below w.heap.size w w'
def LivesOK : Prop := ∀ (w : World), Calls Try.prog 12 #[] w fun e w' => e = .returned (.bool true) ∧ Below w.heap.size w w'

set_option maxHeartbeats 2000000 in
theorem divides16 (SC : ScalarOK) (LV : LivesOK) (x y : Int) (w : World) : Calls Try.prog 6 #[.int .i64 x, .int .i64 y] w fun e w' => e = .returned (.bool true) ∧ Below w.heap.size w w' := by
  have D := fun w => SC 4 x y w
  have M := fun w => SC 5 x y w
  have T := fun w => SC 3 (binS 4 x y).1 y w
  have U := fun w => SC 1 (binS 3 (binS 4 x y).1 y).1 (binS 5 x y).1 w
  have hm := divides_math x y
  generalize binS 1 (binS 3 (binS 4 x y).1 y).1 (binS 5 x y).1 = R1 at U hm
  generalize binS 3 (binS 4 x y).1 y = R3 at T U hm
  generalize binS 4 x y = R4 at D T U hm
  generalize binS 5 x y = R5 at M U hm
  obtain ⟨q, e4⟩ := R4
  obtain ⟨r, e5⟩ := R5
  obtain ⟨n, e3⟩ := R3
  clear SC
  unfold LivesOK at LV
  simp only at D M T U hm
  rcases hm with ⟨h1 | h1, h2⟩ | ⟨h1, h2, h3 | ⟨h3, h4⟩⟩
  · subst h1; subst h2
    go_enter Try.func6, Try.ntmps6
    go_wp2_with (first
      | (go_at_call 8; with_reducible refine Calls.mono (D _) ?_; rintro e w1 ⟨rfl, b1⟩)
      | (go_at_call 8; with_reducible refine Calls.mono (M _) ?_; rintro e w2 ⟨rfl, b2⟩)
      | (go_at_call 12; with_reducible refine Calls.mono (LV _) ?_; rintro e w5 ⟨rfl, b5⟩))
    go_ret
    exact ⟨rfl, Below.then (Below.then b1 b2) b5⟩
  · subst h1; subst h2
    go_enter Try.func6, Try.ntmps6
    go_wp2_with (first
      | (go_at_call 8; with_reducible refine Calls.mono (D _) ?_; rintro e w1 ⟨rfl, b1⟩)
      | (go_at_call 8; with_reducible refine Calls.mono (M _) ?_; rintro e w2 ⟨rfl, b2⟩)
      | (go_at_call 12; with_reducible refine Calls.mono (LV _) ?_; rintro e w5 ⟨rfl, b5⟩))
    go_ret
    exact ⟨rfl, Below.then (Below.then b1 b2) b5⟩
  · subst h1; subst h2; subst h3
    go_enter Try.func6, Try.ntmps6
    go_wp2_with (first
      | (go_at_call 8; with_reducible refine Calls.mono (D _) ?_; rintro e w1 ⟨rfl, b1⟩)
      | (go_at_call 8; with_reducible refine Calls.mono (M _) ?_; rintro e w2 ⟨rfl, b2⟩)
      | (go_at_call 8; with_reducible refine Calls.mono (T _) ?_; rintro e w3 ⟨rfl, b3⟩)
      | (go_at_call 12; with_reducible refine Calls.mono (LV _) ?_; rintro e w5 ⟨rfl, b5⟩))
    go_ret
    exact ⟨rfl, Below.then (Below.then (Below.then b1 b2) b3) b5⟩
  · subst h1; subst h2; subst h3; subst h4
    go_enter Try.func6, Try.ntmps6
    go_wp2_with (first
      | (go_at_call 8; with_reducible refine Calls.mono (D _) ?_; rintro e w1 ⟨rfl, b1⟩)
      | (go_at_call 8; with_reducible refine Calls.mono (M _) ?_; rintro e w2 ⟨rfl, b2⟩)
      | (go_at_call 8; with_reducible refine Calls.mono (T _) ?_; rintro e w3 ⟨rfl, b3⟩)
      | (go_at_call 8; with_reducible refine Calls.mono (U _) ?_; rintro e w4 ⟨rfl, b4⟩)
      | (go_at_call 12; with_reducible refine Calls.mono (LV _) ?_; rintro e w5 ⟨rfl, b5⟩))
    go_ret
    exact ⟨rfl, Below.then (Below.then (Below.then (Below.then b1 b2) b3) b4) b5⟩
end Go.Proofs.Ytekbdiniibmhgaa.Shape
