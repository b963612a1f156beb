/-
  Layer 16: Apply of the reference, for any two arrays.
-/
import Derived.Test.YtekbdiniibmhgaaBinR4g
namespace Go.Proofs.Ytekbdiniibmhgaa.Shape
open Go.RowKit
open Go.Proofs.Ytekbdiniibmhgaa.Shp (agB agL)
set_option linter.unusedVariables false

theorem acc_plain {p kx ky : Int} (h : accB p kx ky = true) : kx ≠ 3 ∧ ky ≠ 3 := by
  unfold accB at h
  by_cases h1 : kx = 1 ∧ ky = 1
  · omega
  · rw [if_neg h1] at h
    by_cases h2 : kx = 3 ∨ ky = 3
    · rw [if_pos h2] at h; cases h
    · omega
theorem apply16R (p : Int) (v v2 : Value) (A B : Arr) (w : World) (h : ArrAt w v A) (g : ArrAt w v2 B) :
    Calls Try.prog 15 #[.int .i64 p, v, v2] w (GiveNewE (applyA p A B).1 (applyA p A B).2 w) := by
  by_cases hp : binB p = true
  · by_cases e1 : rightE A = 0
    · by_cases e2 : rightE B = 0
      · by_cases ha : accB p A.kind B.kind = true
        · by_cases hg : agB A.shape B.shape = true
          · exact applyMR p v v2 A B w h g hp e1 e2 ha hg (acc_plain ha).1 (acc_plain ha).2
          · rw [applyA_len hp e1 e2 ha (by simpa using hg)]
            exact applyLR p v v2 A B w h g hp e1 e2 ha (by simpa using hg)
        · rw [applyA_kind hp e1 e2 (by simpa using ha)]
          exact applyKR p v v2 A B w h g hp e1 e2 (by simpa using ha)
      · rw [applyA_arg (by simp [e2])]
        exact applyYR p v v2 A B w h g hp e1 e2
    · rw [applyA_arg (by simp [e1])]
      exact applyXR p v v2 A B w h g hp e1
  · rw [applyA_arg (by simp [hp])]
    exact applyNoR p v v2 A B w h g (by simpa using hp)
end Go.Proofs.Ytekbdiniibmhgaa.Shape
