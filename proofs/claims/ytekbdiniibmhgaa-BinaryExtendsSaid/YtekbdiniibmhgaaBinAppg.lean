/-
  Layer 16: Apply as plain data; exchanged arguments; quotient and remainder.
-/
import Derived.Test.YtekbdiniibmhgaaBinMathg
namespace Go.Proofs.Ytekbdiniibmhgaa.Shape
open Go.RowKit
open Go.Proofs.Ytekbdiniibmhgaa.Shp (agB agL)
set_option linter.unusedVariables false

/-- The value for two elements of two kinds. -/
def binE (p kx ky x y : Int) : Int × Int := (if kx = ky then (binS p x y).1 else tru (decide (p = 12)), (binS p x y).2)
/-- The values of a function of places, or the first error. -/
def goF (f : Nat → Int × Int) : Nat → Nat → List Int → List Int × Int
  | 0, _, acc => (acc, 0)
  | r + 1, i, acc => if (f i).2 = 0 then goF f r (i + 1) (acc ++ [(f i).1]) else ([], (f i).2)
/-- The element that stands for place i. -/
def elF (A : Arr) (s : List Int) (i : Nat) : Int := A.nums.getD (i / (pr (s.drop A.shape.length)).toNat) 0
def resF (p : Int) (A B : Arr) : List Int × Int :=
  goF (fun i => binE p A.kind B.kind (elF A (agL A.shape B.shape) i) (elF B (agL A.shape B.shape) i)) (pr (agL A.shape B.shape)).toNat 0 []
def applyA (p : Int) (A B : Arr) : Arr × Int :=
  if (binB p && (decide (rightE A = 0) && decide (rightE B = 0))) = true then
    if accB p A.kind B.kind = true then
      if agB A.shape B.shape = true then (if (resF p A B).2 = 0 then (.mk 1 (agL A.shape B.shape) (resF p A B).1 [], 0) else (.mk 0 [] [] [], (resF p A B).2)) else (.mk 0 [] [] [], 16)
    else (.mk 0 [] [] [], 14)
  else (.mk 0 [] [] [], 1)
theorem applyA_arg {p : Int} {A B : Arr} (h : ¬ (binB p && (decide (rightE A = 0) && decide (rightE B = 0))) = true) : applyA p A B = (.mk 0 [] [] [], 1) := by unfold applyA; rw [if_neg h]
theorem arg_ok {p : Int} {A B : Arr} (h1 : binB p = true) (h2 : rightE A = 0) (h3 : rightE B = 0) : (binB p && (decide (rightE A = 0) && decide (rightE B = 0))) = true := by rw [h1, h2, h3]; rfl
theorem applyA_kind {p : Int} {A B : Arr} (h1 : binB p = true) (h2 : rightE A = 0) (h3 : rightE B = 0) (h4 : accB p A.kind B.kind = false) : applyA p A B = (.mk 0 [] [] [], 14) := by
  unfold applyA; rw [if_pos (arg_ok h1 h2 h3), if_neg (by rw [h4]; decide)]
theorem applyA_len {p : Int} {A B : Arr} (h1 : binB p = true) (h2 : rightE A = 0) (h3 : rightE B = 0) (h4 : accB p A.kind B.kind = true) (h5 : agB A.shape B.shape = false) : applyA p A B = (.mk 0 [] [] [], 16) := by
  unfold applyA; rw [if_pos (arg_ok h1 h2 h3), if_pos h4, if_neg (by rw [h5]; decide)]
theorem applyA_err {p : Int} {A B : Arr} (h1 : binB p = true) (h2 : rightE A = 0) (h3 : rightE B = 0) (h4 : accB p A.kind B.kind = true) (h5 : agB A.shape B.shape = true) (h6 : ¬ (resF p A B).2 = 0) : applyA p A B = (.mk 0 [] [] [], (resF p A B).2) := by
  unfold applyA; rw [if_pos (arg_ok h1 h2 h3), if_pos h4, if_pos h5, if_neg h6]
theorem applyA_ok {p : Int} {A B : Arr} (h1 : binB p = true) (h2 : rightE A = 0) (h3 : rightE B = 0) (h4 : accB p A.kind B.kind = true) (h5 : agB A.shape B.shape = true) (h6 : (resF p A B).2 = 0) : applyA p A B = (.mk 1 (agL A.shape B.shape) (resF p A B).1 [], 0) := by
  unfold applyA; rw [if_pos (arg_ok h1 h2 h3), if_pos h4, if_pos h5, if_pos h6]
theorem goF_ext {f g : Nat → Int × Int} : ∀ (r i : Nat) (acc : List Int), (∀ j, i ≤ j → j < i + r → f j = g j) → goF f r i acc = goF g r i acc
  | 0, _, _, _ => rfl
  | r + 1, i, acc, h => by
    rw [goF, goF, h i (Nat.le_refl _) (by omega), goF_ext r (i + 1) _ fun j h1 h2 => h j (by omega) (by omega)]

/-! ### Exchanged arguments -/
theorem sameB_comm (a b : List Int) : Shp.sameB a b = Shp.sameB b a := by
  unfold Shp.sameB; by_cases h : a = b
  · subst h; rfl
  · rw [decide_eq_false h, decide_eq_false (fun e => h e.symm)]
theorem agB_comm (a b : List Int) : agB a b = agB b a := by
  unfold agB
  rw [Nat.min_comm b.length, sameB_comm (b.take _), Bool.and_comm (rightB b)]
theorem agL_comm (a b : List Int) : agL a b = agL b a := by
  unfold agL
  rw [agB_comm b a]
  by_cases h : agB a b = true
  · rw [if_pos h, if_pos h]
    by_cases h1 : b.length ≤ a.length
    · by_cases h2 : a.length ≤ b.length
      · rw [if_pos h1, if_pos h2]
        unfold agB Shp.sameB at h
        simp only [Bool.and_eq_true, decide_eq_true_eq] at h
        have e := h.2
        have hm : min a.length b.length = a.length := by omega
        rw [hm, List.take_length, List.take_of_length_le (by omega)] at e
        exact e
      · rw [if_pos h1, if_neg h2]
    · rw [if_neg h1, if_pos (by omega)]
  · rw [if_neg h, if_neg h]
/-- The function that stands for p when the arguments are exchanged. -/
def turnP (p : Int) : Int := if p = 9 then 14 else if p = 14 then 9 else if p = 10 then 13 else if p = 13 then 10 else p
theorem chk_comm_add (x y : Int) : Num.addS x y = Num.addS y x := by
  unfold Num.addS Num.bothB
  rw [Bool.and_comm, Int.add_comm]
theorem chk_comm_mul (x y : Int) : Num.mulS x y = Num.mulS y x := by
  unfold Num.mulS Num.bothB
  rw [Bool.and_comm, Int.mul_comm]
theorem turn_no {p : Int} (h : p = 1 ∨ p = 3 ∨ p = 7 ∨ p = 8 ∨ p = 11 ∨ p = 12 ∨ p = 15 ∨ p = 16) : turnP p = p := by
  unfold turnP; rw [if_neg (by omega), if_neg (by omega), if_neg (by omega), if_neg (by omega)]
theorem min_comm' (x y : Int) : (if x ≤ y then x else y) = if y ≤ x then y else x := by
  by_cases h : x ≤ y
  · by_cases g : y ≤ x
    · rw [if_pos h, if_pos g]; omega
    · rw [if_pos h, if_neg g]
  · rw [if_neg h, if_pos (by omega)]
theorem max_comm' (x y : Int) : (if x ≤ y then y else x) = if y ≤ x then x else y := by
  by_cases h : x ≤ y
  · by_cases g : y ≤ x
    · rw [if_pos h, if_pos g]; omega
    · rw [if_pos h, if_neg g]
  · rw [if_neg h, if_pos (by omega)]
theorem binV_turn {p : Int} (hp : binB p = true) (h : p ≠ 2 ∧ p ≠ 4 ∧ p ≠ 5 ∧ p ≠ 6) (x y : Int) : binV p x y = binV (turnP p) y x := by
  have e1 : (decide (x = y)) = decide (y = x) := by by_cases g : x = y <;> simp [g]; exact fun e => g e.symm
  have e2 : (decide (¬ x = y)) = decide (¬ y = x) := by by_cases g : x = y <;> simp [g]; exact fun e => g e.symm
  rcases bin_cases hp with rfl | rfl | rfl | rfl | rfl | rfl | rfl | rfl | rfl | rfl | rfl | rfl | rfl | rfl | rfl | rfl
  · exact chk_comm_add x y
  · exact absurd rfl h.1
  · exact chk_comm_mul x y
  · exact absurd rfl h.2.1
  · exact absurd rfl h.2.2.1
  · exact absurd rfl h.2.2.2
  · show ((if x ≤ y then x else y, 0) : Int × Int) = (if y ≤ x then y else x, 0); rw [min_comm']
  · show ((if x ≤ y then y else x, 0) : Int × Int) = (if y ≤ x then x else y, 0); rw [max_comm']
  · rfl
  · rfl
  · show ((tru (decide (x = y)), 0) : Int × Int) = (tru (decide (y = x)), 0); rw [e1]
  · show ((tru (decide (¬ x = y)), 0) : Int × Int) = (tru (decide (¬ y = x)), 0); rw [e2]
  · rfl
  · rfl
  · show (if (bitB x && bitB y) = true then ((if x ≤ y then x else y, 0) : Int × Int) else (0, 17)) = (if (bitB y && bitB x) = true then (if y ≤ x then y else x, 0) else (0, 17)); rw [min_comm', Bool.and_comm]
  · show (if (bitB x && bitB y) = true then ((if x ≤ y then y else x, 0) : Int × Int) else (0, 17)) = (if (bitB y && bitB x) = true then (if y ≤ x then x else y, 0) else (0, 17)); rw [max_comm', Bool.and_comm]
theorem turn_bin {p : Int} (hp : binB p = true) : binB (turnP p) = true := by
  rcases bin_cases hp with rfl | rfl | rfl | rfl | rfl | rfl | rfl | rfl | rfl | rfl | rfl | rfl | rfl | rfl | rfl | rfl <;> rfl
theorem binS_turn {p : Int} (hp : binB p = true) (h : p ≠ 2 ∧ p ≠ 4 ∧ p ≠ 5 ∧ p ≠ 6) (x y : Int) : binS p x y = binS (turnP p) y x := by
  unfold binS
  rw [hp, turn_bin hp, binV_turn hp h, Bool.and_comm (Num.fitsB x)]
theorem acc_turn (p kx ky : Int) : accB p kx ky = accB (turnP p) ky kx := by
  have e : (decide (kx = ky)) = decide (ky = kx) := by by_cases g : kx = ky <;> simp [g]; exact fun e => g e.symm
  unfold accB
  by_cases h1 : kx = 1 ∧ ky = 1
  · have h1' : ky = 1 ∧ kx = 1 := ⟨h1.2, h1.1⟩
    simp only [if_pos h1, if_pos h1']
  · have h1' : ¬ (ky = 1 ∧ kx = 1) := fun g => h1 ⟨g.2, g.1⟩
    simp only [if_neg h1, if_neg h1']
    by_cases h2 : kx = 3 ∨ ky = 3
    · have h2' : ky = 3 ∨ kx = 3 := h2.symm
      simp only [if_pos h2, if_pos h2']
    · have h2' : ¬ (ky = 3 ∨ kx = 3) := fun g => h2 g.symm
      simp only [if_neg h2, if_neg h2', e]
      unfold turnP
      by_cases p9 : p = 9
      · subst p9; rfl
      by_cases p14 : p = 14
      · subst p14; rfl
      by_cases p10 : p = 10
      · subst p10; rfl
      by_cases p13 : p = 13
      · subst p13; rfl
      simp only [if_neg p9, if_neg p14, if_neg p10, if_neg p13]
theorem eq12_turn (p : Int) : (decide (p = 12)) = decide (turnP p = 12) := by
  unfold turnP
  by_cases p9 : p = 9
  · subst p9; rfl
  by_cases p14 : p = 14
  · subst p14; rfl
  by_cases p10 : p = 10
  · subst p10; rfl
  by_cases p13 : p = 13
  · subst p13; rfl
  rw [if_neg p9, if_neg p14, if_neg p10, if_neg p13]
theorem binE_turn {p : Int} (hp : binB p = true) (h : p ≠ 2 ∧ p ≠ 4 ∧ p ≠ 5 ∧ p ≠ 6) (kx ky x y : Int) : binE p kx ky x y = binE (turnP p) ky kx y x := by
  unfold binE
  rw [binS_turn hp h, eq12_turn]
  by_cases g : kx = ky
  · rw [if_pos g, if_pos g.symm]
  · rw [if_neg g, if_neg (fun e => g e.symm)]
theorem resF_turn {p : Int} (hp : binB p = true) (h : p ≠ 2 ∧ p ≠ 4 ∧ p ≠ 5 ∧ p ≠ 6) (A B : Arr) : resF p A B = resF (turnP p) B A := by
  unfold resF
  rw [agL_comm B.shape A.shape]
  exact goF_ext _ _ _ fun j _ _ => binE_turn hp h _ _ _ _
/-- Exchanged arguments give the same. -/
theorem apply_turn {p : Int} (hp : binB p = true) (h : p ≠ 2 ∧ p ≠ 4 ∧ p ≠ 5 ∧ p ≠ 6) (A B : Arr) : applyA p A B = applyA (turnP p) B A := by
  unfold applyA
  rw [hp, turn_bin hp, Bool.and_comm (decide (rightE A = 0)), acc_turn p, agB_comm A.shape, agL_comm A.shape, resF_turn hp h]

/-! ### Quotient and remainder -/
theorem div_back {x y : Int} (hx : Num.fitsB x = true) (hy : Num.fitsB y = true) (h0 : ¬ y = 0) : Num.mulS (Num.fl x y) y = (y * Num.fl x y, 0) ∨ (Num.mulS (Num.fl x y) y).2 = 19 ∨ (Num.mulS (Num.fl x y) y).2 = 1 := by
  unfold Num.mulS
  split
  · unfold Num.chk
    split
    · left; rw [Int.mul_comm]
    · right; left; rfl
  · right; right; rfl
end Go.Proofs.Ytekbdiniibmhgaa.Shape
