/-
  Layer 2: the program's Size and Right.
-/
import Derived.Test.YtppdibblkaepjaaDoorShapeRow
namespace Go.Proofs.YtppdibblkaepjaaDoor.Shape
open Go.RowKit

/-- Is there a dimension 0? -/
def hasZ (xs : List Int) : Bool := xs.any (fun x => decide (x = 0))
theorem hasZ_snoc (a : List Int) (x : Int) : hasZ (a ++ [x]) = (hasZ a || decide (x = 0)) := by simp [hasZ]
theorem pr_hasZ {xs : List Int} (h : hasZ xs = true) : pr xs = 0 := by
  induction xs with
  | nil => cases h
  | cons x r ih =>
    rw [pr]
    by_cases h0 : x = 0
    · rw [h0, Int.zero_mul]
    · rw [ih (by simpa [hasZ, h0] using h), Int.mul_zero]
theorem pr_noZ {xs : List Int} (h : hasZ xs = false) : pr xs = nz xs := by
  apply pr_eq_nz
  intro x hx e
  rw [hasZ, List.any_eq_false] at h
  exact absurd (by simpa using e) (h x hx)
theorem quo_gt {P d : Int} (h1 : 1 ≤ P) (_h2 : P ≤ 65536) : (65536 / P < d) ↔ 65536 < P * d := by
  rw [Int.ediv_lt_iff_lt_mul (by omega), Int.mul_comm d P]
  
end Go.Proofs.YtppdibblkaepjaaDoor.Shape
