/-
  Layer 1: Mul of the program and of the reference.
-/
import Derived.Test.YtngcahaidlgkfaaDoorNumLeaf
namespace Go.Proofs.YtngcahaidlgkfaaDoor.Num
open Go.RowKit

theorem wrap_quo (q : Int) (b : Int) (hb : -4611686018427387903 ≤ b ∧ b ≤ 4611686018427387903) (hq : -9223372036854775808 ≤ q ∧ q ≤ 9223372036854775808) : wrap64 q = b ↔ q = b := by
  unfold wrap64; omega

/-- The product fits into an int: dividing it by a gives b. -/
theorem mul_in {a b : Int} (h : bothB a b = true) (h0 : ¬ a = 0) (hp : -9223372036854775808 ≤ a * b ∧ a * b ≤ 9223372036854775807) : wrap64 (a * b) = a * b ∧ wrap64 ((a * b).tdiv a) = b := by
  obtain ⟨ha, hb⟩ := both_def.1 h
  refine ⟨IntWalk.wrap64_in _ hp, ?_⟩
  rw [Int.mul_tdiv_cancel_left _ h0]
  exact IntWalk.wrap64_in _ (by omega)

/-- The product does not: dividing what is left of it by a gives another number. -/
theorem mul_out {a b : Int} (h : bothB a b = true) (h0 : ¬ a = 0) (hp : ¬ (-9223372036854775808 ≤ a * b ∧ a * b ≤ 9223372036854775807)) : ¬ wrap64 ((wrap64 (a * b)).tdiv a) = b := by
  obtain ⟨ha, hb⟩ := both_def.1 h
  have hW : -9223372036854775808 ≤ wrap64 (a * b) ∧ wrap64 (a * b) ≤ 9223372036854775807 ∧ ∃ k : Int, wrap64 (a * b) = a * b - k * 18446744073709551616 ∧ k ≠ 0 := by
    generalize a * b = P at hp
    unfold wrap64
    refine ⟨by omega, by omega, (P + 9223372036854775808) / 18446744073709551616, by omega, by omega⟩
  obtain ⟨h1, h2, k, hk, hk0⟩ := hW
  generalize wrap64 (a * b) = W at *
  have hq := tdiv_abs_le W a
  rw [wrap_quo _ _ hb (by omega)]
  intro e
  have ed := Int.mul_tdiv_add_tmod W a
  have el := tmod_abs_lt W a h0
  rw [e] at ed
  omega

theorem fits_int {n : Int} (h : fitsB n = true) : -9223372036854775808 ≤ n ∧ n ≤ 9223372036854775807 := by
  have := fits_def.1 h; omega

theorem abs_natAbs (a : Int) : absI a = a.natAbs := by unfold absI; omega
/-- The reference asks before it multiplies. -/
theorem mul_asks {a b : Int} (h0 : ¬ a = 0) : (4611686018427387903 / absI a < absI b) ↔ fitsB (a * b) = false := by
  have e : fitsB (a * b) = false ↔ 4611686018427387903 < absI a * absI b := by
    rw [abs_natAbs, abs_natAbs, ← Int.natCast_mul, ← Int.natAbs_mul]
    simp only [fitsB, decide_eq_false_iff_not]; omega
  rw [e]
  have hp : 0 < absI a := by rw [abs_natAbs]; omega
  rw [Int.ediv_lt_iff_lt_mul hp, Int.mul_comm]

end Go.Proofs.YtngcahaidlgkfaaDoor.Num
