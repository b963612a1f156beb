/-
  Layer 16: quotient and remainder give back the dividend.
-/
import Derived.Test.YtekbdiniibmhgaaBinBdg
namespace Go.Proofs.Ytekbdiniibmhgaa.Shape
open Go.RowKit
set_option linter.unusedVariables false

theorem chk_in {n : Int} (h : Num.fitsB n = true) : Num.chk n = (n, 0) := by
  unfold Num.chk
  rw [if_pos h]
theorem chk_err (n : Int) : (Num.chk n).2 = 0 ∧ (Num.chk n).1 = n ∧ Num.fitsB n = true ∨ (Num.chk n).2 = 19 := by
  unfold Num.chk
  split
  · rename_i h; exact Or.inl ⟨rfl, rfl, h⟩
  · exact Or.inr rfl
/-- What BinaryDivides asks, as plain data. -/
theorem divides_math (x y : Int) :
    (((binS 4 x y).2 = 1 ∨ (binS 4 x y).2 = 20) ∧ (binS 5 x y).2 = (binS 4 x y).2) ∨
    ((binS 4 x y).2 = 0 ∧ (binS 5 x y).2 = 0 ∧ ((binS 3 (binS 4 x y).1 y).2 = 19 ∨ ((binS 3 (binS 4 x y).1 y).2 = 0 ∧ binS 1 (binS 3 (binS 4 x y).1 y).1 (binS 5 x y).1 = (x, 0)))) := by
  by_cases hx : Num.fitsB x = true
  · by_cases hy : Num.fitsB y = true
    · have e4 : binS 4 x y = Num.divS x y := binS_yes rfl hx hy
      have e5 : binS 5 x y = Num.modS x y := binS_yes rfl hx hy
      have hb : Num.bothB x y = true := by unfold Num.bothB; rw [hx, hy]; rfl
      by_cases h0 : y = 0
      · left
        rw [e4, e5]
        unfold Num.divS Num.modS
        rw [if_pos hb, if_pos hb, if_pos h0, if_pos h0]
        exact ⟨Or.inr rfl, rfl⟩
      · right
        have d4 : binS 4 x y = (Num.fl x y, 0) := by rw [e4]; unfold Num.divS; rw [if_pos hb, if_neg h0]
        have d5 : binS 5 x y = (Num.md x y, 0) := by rw [e5]; unfold Num.modS; rw [if_pos hb, if_neg h0]
        have bx := Num.fits_def.1 hx
        have bY := Num.fits_def.1 hy
        have fq : Num.fitsB (Num.fl x y) = true := Num.fits_def.2 (fl_bd h0 bx)
        have fm : Num.fitsB (Num.md x y) = true := Num.fits_def.2 (md_bd h0 bY)
        rw [d4, d5]
        refine ⟨rfl, rfl, ?_⟩
        show (binS 3 (Num.fl x y) y).2 = 19 ∨ ((binS 3 (Num.fl x y) y).2 = 0 ∧ binS 1 (binS 3 (Num.fl x y) y).1 (Num.md x y) = (x, 0))
        have e3 : binS 3 (Num.fl x y) y = Num.chk (Num.fl x y * y) := by
          rw [binS_yes rfl fq hy]
          show Num.mulS _ _ = _
          unfold Num.mulS Num.bothB
          rw [fq, hy]; rfl
        rw [e3]
        rcases chk_err (Num.fl x y * y) with ⟨h1, h2, h3⟩ | h1
        · refine Or.inr ⟨h1, ?_⟩
          rw [h2, binS_yes rfl h3 fm]
          show Num.addS _ _ = _
          unfold Num.addS Num.bothB
          rw [h3, fm]
          have := (Num.md_spec (a := x) h0).1
          have e : Num.fl x y * y + Num.md x y = x := by
            rw [Int.mul_comm]; omega
          rw [e]
          exact chk_in hx
        · exact Or.inl h1
    · left
      rw [binS_no (Or.inr (Or.inr (by simpa using hy))), binS_no (Or.inr (Or.inr (by simpa using hy)))]
      exact ⟨Or.inl rfl, rfl⟩
  · left
    rw [binS_no (Or.inr (Or.inl (by simpa using hx))), binS_no (Or.inr (Or.inl (by simpa using hx)))]
    exact ⟨Or.inl rfl, rfl⟩
end Go.Proofs.Ytekbdiniibmhgaa.Shape
