/-
  Layer 16: the dyadic scalar functions as plain data: numbers, kinds, arrays.
-/
import Derived.Test.YtekbdiniibmhgaaBinGM
import Derived.Test.YtekbdiniibmhgaaArrSameg
import Derived.Test.YtekbdiniibmhgaaBinGS
namespace Go.Proofs.Ytekbdiniibmhgaa.Shape
open Go.RowKit
open Go.Proofs.Ytekbdiniibmhgaa.Shp (agB agL)
set_option linter.unusedVariables false

def binB (p : Int) : Bool := decide (1 ≤ p ∧ p ≤ 16)
def tru (b : Bool) : Int := if b = true then 1 else 0
def bitB (x : Int) : Bool := decide (x = 0 ∨ x = 1)
/-- The value of a function for two numbers. -/
def binV (p x y : Int) : Int × Int :=
  if p = 1 then Num.addS x y else if p = 2 then Num.subS x y else if p = 3 then Num.mulS x y else if p = 4 then Num.divS x y else if p = 5 then Num.modS x y else if p = 6 then Num.powS x y
  else if p = 7 then (if x ≤ y then x else y, 0) else if p = 8 then (if x ≤ y then y else x, 0) else if p = 9 then (tru (decide (x < y)), 0) else if p = 10 then (tru (decide (x ≤ y)), 0) else if p = 11 then (tru (decide (x = y)), 0)
  else if p = 12 then (tru (decide (¬ x = y)), 0) else if p = 13 then (tru (decide (y ≤ x)), 0) else if p = 14 then (tru (decide (y < x)), 0)
  else if (bitB x && bitB y) = true then (if p = 15 then (if x ≤ y then x else y, 0) else (if x ≤ y then y else x, 0)) else (0, 17)
/-- Scalar. -/
def binS (p x y : Int) : Int × Int := if (binB p && (Num.fitsB x && Num.fitsB y)) = true then binV p x y else (0, 1)
/-- The kinds that a function accepts. -/
def accB (p kx ky : Int) : Bool :=
  if kx = 1 ∧ ky = 1 then true else if kx = 3 ∨ ky = 3 then false else if p = 11 ∨ p = 12 then true else decide (kx = ky) && decide (p = 9 ∨ p = 10 ∨ p = 13 ∨ p = 14)
theorem binS_yes {p x y : Int} (h1 : binB p = true) (h2 : Num.fitsB x = true) (h3 : Num.fitsB y = true) : binS p x y = binV p x y := by
  unfold binS; rw [h1, h2, h3]; rfl
theorem binS_no {p x y : Int} (h : binB p = false ∨ Num.fitsB x = false ∨ Num.fitsB y = false) : binS p x y = (0, 1) := by
  unfold binS
  rcases h with h | h | h <;> rw [h] <;> simp
theorem binB_def {p : Int} : binB p = true ↔ 1 ≤ p ∧ p ≤ 16 := by simp [binB]
theorem bin_cases {p : Int} (h : binB p = true) : p = 1 ∨ p = 2 ∨ p = 3 ∨ p = 4 ∨ p = 5 ∨ p = 6 ∨ p = 7 ∨ p = 8 ∨ p = 9 ∨ p = 10 ∨ p = 11 ∨ p = 12 ∨ p = 13 ∨ p = 14 ∨ p = 15 ∨ p = 16 := by
  have := binB_def.1 h
  omega
end Go.Proofs.Ytekbdiniibmhgaa.Shape
