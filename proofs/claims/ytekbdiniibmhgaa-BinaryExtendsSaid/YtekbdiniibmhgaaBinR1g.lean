/-
  Layer 16: Is, truth, Scalar, Accepts of the reference. (Written by wip/gen/binary-r1.py.)
-/
import Derived.Test.YtekbdiniibmhgaaBinMathg
import Derived.Test.YtekbdiniibmhgaaBinGN
import Derived.Handy
namespace Go.Proofs.Ytekbdiniibmhgaa.Shape
open Go.RowKit
set_option linter.unusedVariables false
set_option linter.unusedSimpArgs false

theorem is16R (p : Int) (w : World) : Calls Try.prog 11 #[.int .i64 p] w fun e w' => e = .returned (.bool (binB p)) ∧ w = w' := by
  by_cases h1 : p < 1
  · go_enter Try.func11, Try.ntmps11
    go_wp2
    go_ret
    exact ⟨Num.ret_bool (by simp [binB]; omega), rfl⟩
  · by_cases h2 : 16 < p
    · go_enter Try.func11, Try.ntmps11
      go_wp2
      go_ret
      exact ⟨Num.ret_bool (by simp [binB]; omega), rfl⟩
    · go_enter Try.func11, Try.ntmps11
      go_wp2
      go_ret
      exact ⟨Num.ret_bool (by simp [binB]; omega), rfl⟩

theorem truthR (b : Bool) (w : World) : Calls Try.prog 27 #[.bool b] w fun e w' => e = .returned (.int .i64 (tru b)) ∧ w = w' := by
  cases b
  · go_enter Try.func27, Try.ntmps27
    go_wp2
    go_ret
    exact ⟨rfl, rfl⟩
  · go_enter Try.func27, Try.ntmps27
    go_wp2
    go_ret
    exact ⟨rfl, rfl⟩

set_option maxRecDepth 100000 in
set_option maxHeartbeats 2000000 in
theorem sc1R (x y : Int) (w : World) (hx : Num.fitsB x = true) (hy : Num.fitsB y = true) : Calls Try.prog 9 #[.int .i64 1, .int .i64 x, .int .i64 y] w fun e w' => e = .returned (.tuple #[.int .i64 (binV 1 x y).1, .int .i64 (binV 1 x y).2]) ∧ w = w' := by
  have hp : binB 1 = true := by decide
  have bx := Num.fits_def.1 hx
  have by' := Num.fits_def.1 hy
  show Calls _ _ _ _ fun e w' => e = .returned (.tuple #[.int .i64 (Num.addS x y).1, .int .i64 (Num.addS x y).2]) ∧ w = w'
  go_enter Try.func9, Try.ntmps9
  go_wp2_with (first | (go_at_call 11; refine (is16R _ _).mono ?_; rintro e w' ⟨rfl, rfl⟩) | (go_at_call 20; refine (Num.fitsR _ _).mono ?_; rintro e w' ⟨rfl, rfl⟩) | (go_at_call 27; refine (truthR _ _).mono ?_; rintro e w' ⟨rfl, rfl⟩) | (go_at_call 21; refine (Num.addR _ _ _).mono ?_; rintro e w' ⟨rfl, rfl⟩))
  go_ret2
  exact ⟨rfl, rfl⟩

set_option maxRecDepth 100000 in
set_option maxHeartbeats 2000000 in
theorem sc2R (x y : Int) (w : World) (hx : Num.fitsB x = true) (hy : Num.fitsB y = true) : Calls Try.prog 9 #[.int .i64 2, .int .i64 x, .int .i64 y] w fun e w' => e = .returned (.tuple #[.int .i64 (binV 2 x y).1, .int .i64 (binV 2 x y).2]) ∧ w = w' := by
  have hp : binB 2 = true := by decide
  have bx := Num.fits_def.1 hx
  have by' := Num.fits_def.1 hy
  show Calls _ _ _ _ fun e w' => e = .returned (.tuple #[.int .i64 (Num.subS x y).1, .int .i64 (Num.subS x y).2]) ∧ w = w'
  go_enter Try.func9, Try.ntmps9
  go_wp2_with (first | (go_at_call 11; refine (is16R _ _).mono ?_; rintro e w' ⟨rfl, rfl⟩) | (go_at_call 20; refine (Num.fitsR _ _).mono ?_; rintro e w' ⟨rfl, rfl⟩) | (go_at_call 27; refine (truthR _ _).mono ?_; rintro e w' ⟨rfl, rfl⟩) | (go_at_call 22; refine (Num.subR _ _ _).mono ?_; rintro e w' ⟨rfl, rfl⟩))
  go_ret2
  exact ⟨rfl, rfl⟩

set_option maxRecDepth 100000 in
set_option maxHeartbeats 2000000 in
theorem sc3R (x y : Int) (w : World) (hx : Num.fitsB x = true) (hy : Num.fitsB y = true) : Calls Try.prog 9 #[.int .i64 3, .int .i64 x, .int .i64 y] w fun e w' => e = .returned (.tuple #[.int .i64 (binV 3 x y).1, .int .i64 (binV 3 x y).2]) ∧ w = w' := by
  have hp : binB 3 = true := by decide
  have bx := Num.fits_def.1 hx
  have by' := Num.fits_def.1 hy
  show Calls _ _ _ _ fun e w' => e = .returned (.tuple #[.int .i64 (Num.mulS x y).1, .int .i64 (Num.mulS x y).2]) ∧ w = w'
  go_enter Try.func9, Try.ntmps9
  go_wp2_with (first | (go_at_call 11; refine (is16R _ _).mono ?_; rintro e w' ⟨rfl, rfl⟩) | (go_at_call 20; refine (Num.fitsR _ _).mono ?_; rintro e w' ⟨rfl, rfl⟩) | (go_at_call 27; refine (truthR _ _).mono ?_; rintro e w' ⟨rfl, rfl⟩) | (go_at_call 23; refine (Num.mulR _ _ _).mono ?_; rintro e w' ⟨rfl, rfl⟩))
  go_ret2
  exact ⟨rfl, rfl⟩

set_option maxRecDepth 100000 in
set_option maxHeartbeats 2000000 in
theorem sc4R (x y : Int) (w : World) (hx : Num.fitsB x = true) (hy : Num.fitsB y = true) : Calls Try.prog 9 #[.int .i64 4, .int .i64 x, .int .i64 y] w fun e w' => e = .returned (.tuple #[.int .i64 (binV 4 x y).1, .int .i64 (binV 4 x y).2]) ∧ w = w' := by
  have hp : binB 4 = true := by decide
  have bx := Num.fits_def.1 hx
  have by' := Num.fits_def.1 hy
  show Calls _ _ _ _ fun e w' => e = .returned (.tuple #[.int .i64 (Num.divS x y).1, .int .i64 (Num.divS x y).2]) ∧ w = w'
  go_enter Try.func9, Try.ntmps9
  go_wp2_with (first | (go_at_call 11; refine (is16R _ _).mono ?_; rintro e w' ⟨rfl, rfl⟩) | (go_at_call 20; refine (Num.fitsR _ _).mono ?_; rintro e w' ⟨rfl, rfl⟩) | (go_at_call 27; refine (truthR _ _).mono ?_; rintro e w' ⟨rfl, rfl⟩) | (go_at_call 24; refine (Num.divR _ _ _).mono ?_; rintro e w' ⟨rfl, rfl⟩))
  go_ret2
  exact ⟨rfl, rfl⟩

set_option maxRecDepth 100000 in
set_option maxHeartbeats 2000000 in
theorem sc5R (x y : Int) (w : World) (hx : Num.fitsB x = true) (hy : Num.fitsB y = true) : Calls Try.prog 9 #[.int .i64 5, .int .i64 x, .int .i64 y] w fun e w' => e = .returned (.tuple #[.int .i64 (binV 5 x y).1, .int .i64 (binV 5 x y).2]) ∧ w = w' := by
  have hp : binB 5 = true := by decide
  have bx := Num.fits_def.1 hx
  have by' := Num.fits_def.1 hy
  show Calls _ _ _ _ fun e w' => e = .returned (.tuple #[.int .i64 (Num.modS x y).1, .int .i64 (Num.modS x y).2]) ∧ w = w'
  go_enter Try.func9, Try.ntmps9
  go_wp2_with (first | (go_at_call 11; refine (is16R _ _).mono ?_; rintro e w' ⟨rfl, rfl⟩) | (go_at_call 20; refine (Num.fitsR _ _).mono ?_; rintro e w' ⟨rfl, rfl⟩) | (go_at_call 27; refine (truthR _ _).mono ?_; rintro e w' ⟨rfl, rfl⟩) | (go_at_call 25; refine (Num.modR _ _ _).mono ?_; rintro e w' ⟨rfl, rfl⟩))
  go_ret2
  exact ⟨rfl, rfl⟩

set_option maxRecDepth 100000 in
set_option maxHeartbeats 2000000 in
theorem sc6R (x y : Int) (w : World) (hx : Num.fitsB x = true) (hy : Num.fitsB y = true) : Calls Try.prog 9 #[.int .i64 6, .int .i64 x, .int .i64 y] w fun e w' => e = .returned (.tuple #[.int .i64 (binV 6 x y).1, .int .i64 (binV 6 x y).2]) ∧ w = w' := by
  have hp : binB 6 = true := by decide
  have bx := Num.fits_def.1 hx
  have by' := Num.fits_def.1 hy
  show Calls _ _ _ _ fun e w' => e = .returned (.tuple #[.int .i64 (Num.powS x y).1, .int .i64 (Num.powS x y).2]) ∧ w = w'
  go_enter Try.func9, Try.ntmps9
  go_wp2_with (first | (go_at_call 11; refine (is16R _ _).mono ?_; rintro e w' ⟨rfl, rfl⟩) | (go_at_call 20; refine (Num.fitsR _ _).mono ?_; rintro e w' ⟨rfl, rfl⟩) | (go_at_call 27; refine (truthR _ _).mono ?_; rintro e w' ⟨rfl, rfl⟩) | (go_at_call 26; refine (Num.powR _ _ _).mono ?_; rintro e w' ⟨rfl, rfl⟩))
  go_ret2
  exact ⟨rfl, rfl⟩

set_option maxRecDepth 100000 in
set_option maxHeartbeats 2000000 in
theorem sc7R (x y : Int) (w : World) (hx : Num.fitsB x = true) (hy : Num.fitsB y = true) : Calls Try.prog 9 #[.int .i64 7, .int .i64 x, .int .i64 y] w fun e w' => e = .returned (.tuple #[.int .i64 (binV 7 x y).1, .int .i64 (binV 7 x y).2]) ∧ w = w' := by
  have hp : binB 7 = true := by decide
  have bx := Num.fits_def.1 hx
  have by' := Num.fits_def.1 hy
  rcases Int.lt_trichotomy x y with hc | hc | hc
  · have e : binV 7 x y = (x, 0) := by show ((if x ≤ y then x else y, 0) : Int × Int) = _; rw [if_pos (show x ≤ y by omega)]
    rw [e]
    go_enter Try.func9, Try.ntmps9
    go_wp2_with (first | (go_at_call 11; refine (is16R _ _).mono ?_; rintro e w' ⟨rfl, rfl⟩) | (go_at_call 20; refine (Num.fitsR _ _).mono ?_; rintro e w' ⟨rfl, rfl⟩) | (go_at_call 27; refine (truthR _ _).mono ?_; rintro e w' ⟨rfl, rfl⟩))
    all_goals go_ret2
    all_goals exact ⟨rfl, rfl⟩

  · subst hc
    have e : binV 7 x x = (x, 0) := by show ((if x ≤ x then x else x, 0) : Int × Int) = _; rw [if_pos (show x ≤ x by omega)]
    rw [e]
    go_enter Try.func9, Try.ntmps9
    go_wp2_with (first | (go_at_call 11; refine (is16R _ _).mono ?_; rintro e w' ⟨rfl, rfl⟩) | (go_at_call 20; refine (Num.fitsR _ _).mono ?_; rintro e w' ⟨rfl, rfl⟩) | (go_at_call 27; refine (truthR _ _).mono ?_; rintro e w' ⟨rfl, rfl⟩))
    all_goals go_ret2
    all_goals exact ⟨rfl, rfl⟩

  · have e : binV 7 x y = (y, 0) := by show ((if x ≤ y then x else y, 0) : Int × Int) = _; rw [if_neg (show ¬ x ≤ y by omega)]
    rw [e]
    go_enter Try.func9, Try.ntmps9
    go_wp2_with (first | (go_at_call 11; refine (is16R _ _).mono ?_; rintro e w' ⟨rfl, rfl⟩) | (go_at_call 20; refine (Num.fitsR _ _).mono ?_; rintro e w' ⟨rfl, rfl⟩) | (go_at_call 27; refine (truthR _ _).mono ?_; rintro e w' ⟨rfl, rfl⟩))
    all_goals go_ret2
    all_goals exact ⟨rfl, rfl⟩

set_option maxRecDepth 100000 in
set_option maxHeartbeats 2000000 in
theorem sc8R (x y : Int) (w : World) (hx : Num.fitsB x = true) (hy : Num.fitsB y = true) : Calls Try.prog 9 #[.int .i64 8, .int .i64 x, .int .i64 y] w fun e w' => e = .returned (.tuple #[.int .i64 (binV 8 x y).1, .int .i64 (binV 8 x y).2]) ∧ w = w' := by
  have hp : binB 8 = true := by decide
  have bx := Num.fits_def.1 hx
  have by' := Num.fits_def.1 hy
  rcases Int.lt_trichotomy x y with hc | hc | hc
  · have e : binV 8 x y = (y, 0) := by show ((if x ≤ y then y else x, 0) : Int × Int) = _; rw [if_pos (show x ≤ y by omega)]
    rw [e]
    go_enter Try.func9, Try.ntmps9
    go_wp2_with (first | (go_at_call 11; refine (is16R _ _).mono ?_; rintro e w' ⟨rfl, rfl⟩) | (go_at_call 20; refine (Num.fitsR _ _).mono ?_; rintro e w' ⟨rfl, rfl⟩) | (go_at_call 27; refine (truthR _ _).mono ?_; rintro e w' ⟨rfl, rfl⟩))
    all_goals go_ret2
    all_goals exact ⟨rfl, rfl⟩

  · subst hc
    have e : binV 8 x x = (x, 0) := by show ((if x ≤ x then x else x, 0) : Int × Int) = _; rw [if_pos (show x ≤ x by omega)]
    rw [e]
    go_enter Try.func9, Try.ntmps9
    go_wp2_with (first | (go_at_call 11; refine (is16R _ _).mono ?_; rintro e w' ⟨rfl, rfl⟩) | (go_at_call 20; refine (Num.fitsR _ _).mono ?_; rintro e w' ⟨rfl, rfl⟩) | (go_at_call 27; refine (truthR _ _).mono ?_; rintro e w' ⟨rfl, rfl⟩))
    all_goals go_ret2
    all_goals exact ⟨rfl, rfl⟩

  · have e : binV 8 x y = (x, 0) := by show ((if x ≤ y then y else x, 0) : Int × Int) = _; rw [if_neg (show ¬ x ≤ y by omega)]
    rw [e]
    go_enter Try.func9, Try.ntmps9
    go_wp2_with (first | (go_at_call 11; refine (is16R _ _).mono ?_; rintro e w' ⟨rfl, rfl⟩) | (go_at_call 20; refine (Num.fitsR _ _).mono ?_; rintro e w' ⟨rfl, rfl⟩) | (go_at_call 27; refine (truthR _ _).mono ?_; rintro e w' ⟨rfl, rfl⟩))
    all_goals go_ret2
    all_goals exact ⟨rfl, rfl⟩

set_option maxRecDepth 100000 in
set_option maxHeartbeats 2000000 in
theorem sc9R (x y : Int) (w : World) (hx : Num.fitsB x = true) (hy : Num.fitsB y = true) : Calls Try.prog 9 #[.int .i64 9, .int .i64 x, .int .i64 y] w fun e w' => e = .returned (.tuple #[.int .i64 (binV 9 x y).1, .int .i64 (binV 9 x y).2]) ∧ w = w' := by
  have hp : binB 9 = true := by decide
  have bx := Num.fits_def.1 hx
  have by' := Num.fits_def.1 hy
  show Calls _ _ _ _ fun e w' => e = .returned (.tuple #[.int .i64 (tru (decide (x < y))), .int .i64 0]) ∧ w = w'
  go_enter Try.func9, Try.ntmps9
  go_wp2_with (first | (go_at_call 11; refine (is16R _ _).mono ?_; rintro e w' ⟨rfl, rfl⟩) | (go_at_call 20; refine (Num.fitsR _ _).mono ?_; rintro e w' ⟨rfl, rfl⟩) | (go_at_call 27; refine (truthR _ _).mono ?_; rintro e w' ⟨rfl, rfl⟩))
  go_ret2
  exact ⟨rfl, rfl⟩

set_option maxRecDepth 100000 in
set_option maxHeartbeats 2000000 in
theorem sc10R (x y : Int) (w : World) (hx : Num.fitsB x = true) (hy : Num.fitsB y = true) : Calls Try.prog 9 #[.int .i64 10, .int .i64 x, .int .i64 y] w fun e w' => e = .returned (.tuple #[.int .i64 (binV 10 x y).1, .int .i64 (binV 10 x y).2]) ∧ w = w' := by
  have hp : binB 10 = true := by decide
  have bx := Num.fits_def.1 hx
  have by' := Num.fits_def.1 hy
  show Calls _ _ _ _ fun e w' => e = .returned (.tuple #[.int .i64 (tru (decide (x ≤ y))), .int .i64 0]) ∧ w = w'
  go_enter Try.func9, Try.ntmps9
  go_wp2_with (first | (go_at_call 11; refine (is16R _ _).mono ?_; rintro e w' ⟨rfl, rfl⟩) | (go_at_call 20; refine (Num.fitsR _ _).mono ?_; rintro e w' ⟨rfl, rfl⟩) | (go_at_call 27; refine (truthR _ _).mono ?_; rintro e w' ⟨rfl, rfl⟩))
  go_ret2
  exact ⟨rfl, rfl⟩

set_option maxRecDepth 100000 in
set_option maxHeartbeats 2000000 in
theorem sc11R (x y : Int) (w : World) (hx : Num.fitsB x = true) (hy : Num.fitsB y = true) : Calls Try.prog 9 #[.int .i64 11, .int .i64 x, .int .i64 y] w fun e w' => e = .returned (.tuple #[.int .i64 (binV 11 x y).1, .int .i64 (binV 11 x y).2]) ∧ w = w' := by
  have hp : binB 11 = true := by decide
  have bx := Num.fits_def.1 hx
  have by' := Num.fits_def.1 hy
  show Calls _ _ _ _ fun e w' => e = .returned (.tuple #[.int .i64 (tru (decide (x = y))), .int .i64 0]) ∧ w = w'
  go_enter Try.func9, Try.ntmps9
  go_wp2_with (first | (go_at_call 11; refine (is16R _ _).mono ?_; rintro e w' ⟨rfl, rfl⟩) | (go_at_call 20; refine (Num.fitsR _ _).mono ?_; rintro e w' ⟨rfl, rfl⟩) | (go_at_call 27; refine (truthR _ _).mono ?_; rintro e w' ⟨rfl, rfl⟩))
  go_ret2
  exact ⟨rfl, rfl⟩

set_option maxRecDepth 100000 in
set_option maxHeartbeats 2000000 in
theorem sc12R (x y : Int) (w : World) (hx : Num.fitsB x = true) (hy : Num.fitsB y = true) : Calls Try.prog 9 #[.int .i64 12, .int .i64 x, .int .i64 y] w fun e w' => e = .returned (.tuple #[.int .i64 (binV 12 x y).1, .int .i64 (binV 12 x y).2]) ∧ w = w' := by
  have hp : binB 12 = true := by decide
  have bx := Num.fits_def.1 hx
  have by' := Num.fits_def.1 hy
  show Calls _ _ _ _ fun e w' => e = .returned (.tuple #[.int .i64 (tru (decide (¬ x = y))), .int .i64 0]) ∧ w = w'
  rw [show decide (¬ x = y) = (x != y) by by_cases g : x = y <;> simp [g]]
  go_enter Try.func9, Try.ntmps9
  go_wp2_with (first | (go_at_call 11; refine (is16R _ _).mono ?_; rintro e w' ⟨rfl, rfl⟩) | (go_at_call 20; refine (Num.fitsR _ _).mono ?_; rintro e w' ⟨rfl, rfl⟩) | (go_at_call 27; refine (truthR _ _).mono ?_; rintro e w' ⟨rfl, rfl⟩))
  go_ret2
  exact ⟨rfl, rfl⟩

set_option maxRecDepth 100000 in
set_option maxHeartbeats 2000000 in
theorem sc13R (x y : Int) (w : World) (hx : Num.fitsB x = true) (hy : Num.fitsB y = true) : Calls Try.prog 9 #[.int .i64 13, .int .i64 x, .int .i64 y] w fun e w' => e = .returned (.tuple #[.int .i64 (binV 13 x y).1, .int .i64 (binV 13 x y).2]) ∧ w = w' := by
  have hp : binB 13 = true := by decide
  have bx := Num.fits_def.1 hx
  have by' := Num.fits_def.1 hy
  show Calls _ _ _ _ fun e w' => e = .returned (.tuple #[.int .i64 (tru (decide (y ≤ x))), .int .i64 0]) ∧ w = w'
  go_enter Try.func9, Try.ntmps9
  go_wp2_with (first | (go_at_call 11; refine (is16R _ _).mono ?_; rintro e w' ⟨rfl, rfl⟩) | (go_at_call 20; refine (Num.fitsR _ _).mono ?_; rintro e w' ⟨rfl, rfl⟩) | (go_at_call 27; refine (truthR _ _).mono ?_; rintro e w' ⟨rfl, rfl⟩))
  go_ret2
  exact ⟨rfl, rfl⟩

set_option maxRecDepth 100000 in
set_option maxHeartbeats 2000000 in
theorem sc14R (x y : Int) (w : World) (hx : Num.fitsB x = true) (hy : Num.fitsB y = true) : Calls Try.prog 9 #[.int .i64 14, .int .i64 x, .int .i64 y] w fun e w' => e = .returned (.tuple #[.int .i64 (binV 14 x y).1, .int .i64 (binV 14 x y).2]) ∧ w = w' := by
  have hp : binB 14 = true := by decide
  have bx := Num.fits_def.1 hx
  have by' := Num.fits_def.1 hy
  show Calls _ _ _ _ fun e w' => e = .returned (.tuple #[.int .i64 (tru (decide (y < x))), .int .i64 0]) ∧ w = w'
  go_enter Try.func9, Try.ntmps9
  go_wp2_with (first | (go_at_call 11; refine (is16R _ _).mono ?_; rintro e w' ⟨rfl, rfl⟩) | (go_at_call 20; refine (Num.fitsR _ _).mono ?_; rintro e w' ⟨rfl, rfl⟩) | (go_at_call 27; refine (truthR _ _).mono ?_; rintro e w' ⟨rfl, rfl⟩))
  go_ret2
  exact ⟨rfl, rfl⟩

set_option maxRecDepth 100000 in
set_option maxHeartbeats 2000000 in
theorem sc15R (x y : Int) (w : World) (hx : Num.fitsB x = true) (hy : Num.fitsB y = true) : Calls Try.prog 9 #[.int .i64 15, .int .i64 x, .int .i64 y] w fun e w' => e = .returned (.tuple #[.int .i64 (binV 15 x y).1, .int .i64 (binV 15 x y).2]) ∧ w = w' := by
  have hp : binB 15 = true := by decide
  have bx := Num.fits_def.1 hx
  have by' := Num.fits_def.1 hy
  by_cases cx : x = 0 ∨ x = 1
  · by_cases cy : y = 0 ∨ y = 1
    · rcases cx with rfl | rfl <;> rcases cy with rfl | rfl
      · show Calls _ _ _ _ fun e w' => e = .returned (.tuple #[.int .i64 0, .int .i64 0]) ∧ w = w'
        go_enter Try.func9, Try.ntmps9
        go_wp2_with (first | (go_at_call 11; refine (is16R _ _).mono ?_; rintro e w' ⟨rfl, rfl⟩) | (go_at_call 20; refine (Num.fitsR _ _).mono ?_; rintro e w' ⟨rfl, rfl⟩) | (go_at_call 27; refine (truthR _ _).mono ?_; rintro e w' ⟨rfl, rfl⟩))
        go_ret2
        exact ⟨rfl, rfl⟩

      · show Calls _ _ _ _ fun e w' => e = .returned (.tuple #[.int .i64 0, .int .i64 0]) ∧ w = w'
        go_enter Try.func9, Try.ntmps9
        go_wp2_with (first | (go_at_call 11; refine (is16R _ _).mono ?_; rintro e w' ⟨rfl, rfl⟩) | (go_at_call 20; refine (Num.fitsR _ _).mono ?_; rintro e w' ⟨rfl, rfl⟩) | (go_at_call 27; refine (truthR _ _).mono ?_; rintro e w' ⟨rfl, rfl⟩))
        go_ret2
        exact ⟨rfl, rfl⟩

      · show Calls _ _ _ _ fun e w' => e = .returned (.tuple #[.int .i64 0, .int .i64 0]) ∧ w = w'
        go_enter Try.func9, Try.ntmps9
        go_wp2_with (first | (go_at_call 11; refine (is16R _ _).mono ?_; rintro e w' ⟨rfl, rfl⟩) | (go_at_call 20; refine (Num.fitsR _ _).mono ?_; rintro e w' ⟨rfl, rfl⟩) | (go_at_call 27; refine (truthR _ _).mono ?_; rintro e w' ⟨rfl, rfl⟩))
        go_ret2
        exact ⟨rfl, rfl⟩

      · show Calls _ _ _ _ fun e w' => e = .returned (.tuple #[.int .i64 1, .int .i64 0]) ∧ w = w'
        go_enter Try.func9, Try.ntmps9
        go_wp2_with (first | (go_at_call 11; refine (is16R _ _).mono ?_; rintro e w' ⟨rfl, rfl⟩) | (go_at_call 20; refine (Num.fitsR _ _).mono ?_; rintro e w' ⟨rfl, rfl⟩) | (go_at_call 27; refine (truthR _ _).mono ?_; rintro e w' ⟨rfl, rfl⟩))
        go_ret2
        exact ⟨rfl, rfl⟩

    · have e : binV 15 x y = (0, 17) := by unfold binV; simp [bitB, cy]
      rw [e]
      have y0 : ¬ y = 0 := by omega
      have y1 : ¬ y = 1 := by omega
      have y2 : (y != 0) = true := by simpa using y0
      have y3 : (y != 1) = true := by simpa using y1
      rcases cx with rfl | rfl
      · go_enter Try.func9, Try.ntmps9
        go_wp2_with (first | (go_at_call 11; refine (is16R _ _).mono ?_; rintro e w' ⟨rfl, rfl⟩) | (go_at_call 20; refine (Num.fitsR _ _).mono ?_; rintro e w' ⟨rfl, rfl⟩) | (go_at_call 27; refine (truthR _ _).mono ?_; rintro e w' ⟨rfl, rfl⟩))
        go_ret2
        exact ⟨rfl, rfl⟩

      · go_enter Try.func9, Try.ntmps9
        go_wp2_with (first | (go_at_call 11; refine (is16R _ _).mono ?_; rintro e w' ⟨rfl, rfl⟩) | (go_at_call 20; refine (Num.fitsR _ _).mono ?_; rintro e w' ⟨rfl, rfl⟩) | (go_at_call 27; refine (truthR _ _).mono ?_; rintro e w' ⟨rfl, rfl⟩))
        go_ret2
        exact ⟨rfl, rfl⟩

  · have e : binV 15 x y = (0, 17) := by unfold binV; simp [bitB, cx]
    rw [e]
    have y0 : (x == 0) = false := by simp; omega
    have y1 : (x == 1) = false := by simp; omega
    go_enter Try.func9, Try.ntmps9
    go_wp2_with (first | (go_at_call 11; refine (is16R _ _).mono ?_; rintro e w' ⟨rfl, rfl⟩) | (go_at_call 20; refine (Num.fitsR _ _).mono ?_; rintro e w' ⟨rfl, rfl⟩) | (go_at_call 27; refine (truthR _ _).mono ?_; rintro e w' ⟨rfl, rfl⟩))
    go_ret2
    exact ⟨rfl, rfl⟩

set_option maxRecDepth 100000 in
set_option maxHeartbeats 2000000 in
theorem sc16R (x y : Int) (w : World) (hx : Num.fitsB x = true) (hy : Num.fitsB y = true) : Calls Try.prog 9 #[.int .i64 16, .int .i64 x, .int .i64 y] w fun e w' => e = .returned (.tuple #[.int .i64 (binV 16 x y).1, .int .i64 (binV 16 x y).2]) ∧ w = w' := by
  have hp : binB 16 = true := by decide
  have bx := Num.fits_def.1 hx
  have by' := Num.fits_def.1 hy
  by_cases cx : x = 0 ∨ x = 1
  · by_cases cy : y = 0 ∨ y = 1
    · rcases cx with rfl | rfl <;> rcases cy with rfl | rfl
      · show Calls _ _ _ _ fun e w' => e = .returned (.tuple #[.int .i64 0, .int .i64 0]) ∧ w = w'
        go_enter Try.func9, Try.ntmps9
        go_wp2_with (first | (go_at_call 11; refine (is16R _ _).mono ?_; rintro e w' ⟨rfl, rfl⟩) | (go_at_call 20; refine (Num.fitsR _ _).mono ?_; rintro e w' ⟨rfl, rfl⟩) | (go_at_call 27; refine (truthR _ _).mono ?_; rintro e w' ⟨rfl, rfl⟩))
        go_ret2
        exact ⟨rfl, rfl⟩

      · show Calls _ _ _ _ fun e w' => e = .returned (.tuple #[.int .i64 1, .int .i64 0]) ∧ w = w'
        go_enter Try.func9, Try.ntmps9
        go_wp2_with (first | (go_at_call 11; refine (is16R _ _).mono ?_; rintro e w' ⟨rfl, rfl⟩) | (go_at_call 20; refine (Num.fitsR _ _).mono ?_; rintro e w' ⟨rfl, rfl⟩) | (go_at_call 27; refine (truthR _ _).mono ?_; rintro e w' ⟨rfl, rfl⟩))
        go_ret2
        exact ⟨rfl, rfl⟩

      · show Calls _ _ _ _ fun e w' => e = .returned (.tuple #[.int .i64 1, .int .i64 0]) ∧ w = w'
        go_enter Try.func9, Try.ntmps9
        go_wp2_with (first | (go_at_call 11; refine (is16R _ _).mono ?_; rintro e w' ⟨rfl, rfl⟩) | (go_at_call 20; refine (Num.fitsR _ _).mono ?_; rintro e w' ⟨rfl, rfl⟩) | (go_at_call 27; refine (truthR _ _).mono ?_; rintro e w' ⟨rfl, rfl⟩))
        go_ret2
        exact ⟨rfl, rfl⟩

      · show Calls _ _ _ _ fun e w' => e = .returned (.tuple #[.int .i64 1, .int .i64 0]) ∧ w = w'
        go_enter Try.func9, Try.ntmps9
        go_wp2_with (first | (go_at_call 11; refine (is16R _ _).mono ?_; rintro e w' ⟨rfl, rfl⟩) | (go_at_call 20; refine (Num.fitsR _ _).mono ?_; rintro e w' ⟨rfl, rfl⟩) | (go_at_call 27; refine (truthR _ _).mono ?_; rintro e w' ⟨rfl, rfl⟩))
        go_ret2
        exact ⟨rfl, rfl⟩

    · have e : binV 16 x y = (0, 17) := by unfold binV; simp [bitB, cy]
      rw [e]
      have y0 : ¬ y = 0 := by omega
      have y1 : ¬ y = 1 := by omega
      have y2 : (y != 0) = true := by simpa using y0
      have y3 : (y != 1) = true := by simpa using y1
      rcases cx with rfl | rfl
      · go_enter Try.func9, Try.ntmps9
        go_wp2_with (first | (go_at_call 11; refine (is16R _ _).mono ?_; rintro e w' ⟨rfl, rfl⟩) | (go_at_call 20; refine (Num.fitsR _ _).mono ?_; rintro e w' ⟨rfl, rfl⟩) | (go_at_call 27; refine (truthR _ _).mono ?_; rintro e w' ⟨rfl, rfl⟩))
        go_ret2
        exact ⟨rfl, rfl⟩

      · go_enter Try.func9, Try.ntmps9
        go_wp2_with (first | (go_at_call 11; refine (is16R _ _).mono ?_; rintro e w' ⟨rfl, rfl⟩) | (go_at_call 20; refine (Num.fitsR _ _).mono ?_; rintro e w' ⟨rfl, rfl⟩) | (go_at_call 27; refine (truthR _ _).mono ?_; rintro e w' ⟨rfl, rfl⟩))
        go_ret2
        exact ⟨rfl, rfl⟩

  · have e : binV 16 x y = (0, 17) := by unfold binV; simp [bitB, cx]
    rw [e]
    have y0 : (x == 0) = false := by simp; omega
    have y1 : (x == 1) = false := by simp; omega
    go_enter Try.func9, Try.ntmps9
    go_wp2_with (first | (go_at_call 11; refine (is16R _ _).mono ?_; rintro e w' ⟨rfl, rfl⟩) | (go_at_call 20; refine (Num.fitsR _ _).mono ?_; rintro e w' ⟨rfl, rfl⟩) | (go_at_call 27; refine (truthR _ _).mono ?_; rintro e w' ⟨rfl, rfl⟩))
    go_ret2
    exact ⟨rfl, rfl⟩

set_option maxHeartbeats 2000000 in
theorem scalar16R (p x y : Int) (w : World) : Calls Try.prog 9 #[.int .i64 p, .int .i64 x, .int .i64 y] w fun e w' => e = .returned (.tuple #[.int .i64 (binS p x y).1, .int .i64 (binS p x y).2]) ∧ w = w' := by
  by_cases hp : binB p = true
  · by_cases hx : Num.fitsB x = true
    · by_cases hy : Num.fitsB y = true
      · rw [binS_yes hp hx hy]
        rcases bin_cases hp with rfl | rfl | rfl | rfl | rfl | rfl | rfl | rfl | rfl | rfl | rfl | rfl | rfl | rfl | rfl | rfl
        · exact sc1R x y w hx hy
        · exact sc2R x y w hx hy
        · exact sc3R x y w hx hy
        · exact sc4R x y w hx hy
        · exact sc5R x y w hx hy
        · exact sc6R x y w hx hy
        · exact sc7R x y w hx hy
        · exact sc8R x y w hx hy
        · exact sc9R x y w hx hy
        · exact sc10R x y w hx hy
        · exact sc11R x y w hx hy
        · exact sc12R x y w hx hy
        · exact sc13R x y w hx hy
        · exact sc14R x y w hx hy
        · exact sc15R x y w hx hy
        · exact sc16R x y w hx hy
      · have hy' : Num.fitsB y = false := by simpa using hy
        rw [binS_no (Or.inr (Or.inr hy'))]
        go_enter Try.func9, Try.ntmps9
        go_wp2_with (first | (go_at_call 11; refine (is16R _ _).mono ?_; rintro e w' ⟨rfl, rfl⟩) | (go_at_call 20; refine (Num.fitsR _ _).mono ?_; rintro e w' ⟨rfl, rfl⟩) | (go_at_call 27; refine (truthR _ _).mono ?_; rintro e w' ⟨rfl, rfl⟩))
        go_ret2
        exact ⟨rfl, rfl⟩
    · have hx' : Num.fitsB x = false := by simpa using hx
      rw [binS_no (Or.inr (Or.inl hx'))]
      go_enter Try.func9, Try.ntmps9
      go_wp2_with (first | (go_at_call 11; refine (is16R _ _).mono ?_; rintro e w' ⟨rfl, rfl⟩) | (go_at_call 20; refine (Num.fitsR _ _).mono ?_; rintro e w' ⟨rfl, rfl⟩) | (go_at_call 27; refine (truthR _ _).mono ?_; rintro e w' ⟨rfl, rfl⟩))
      go_ret2
      exact ⟨rfl, rfl⟩
  · have hp' : binB p = false := by simpa using hp
    rw [binS_no (Or.inl hp')]
    go_enter Try.func9, Try.ntmps9
    go_wp2_with (first | (go_at_call 11; refine (is16R _ _).mono ?_; rintro e w' ⟨rfl, rfl⟩) | (go_at_call 20; refine (Num.fitsR _ _).mono ?_; rintro e w' ⟨rfl, rfl⟩) | (go_at_call 27; refine (truthR _ _).mono ?_; rintro e w' ⟨rfl, rfl⟩))
    go_ret2
    exact ⟨rfl, rfl⟩

end Go.Proofs.Ytekbdiniibmhgaa.Shape
