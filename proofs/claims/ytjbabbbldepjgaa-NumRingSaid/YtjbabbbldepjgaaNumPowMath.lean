/-
  Plain mathematics of powers: the invariant of binary powers, and of powers by repeated multiplication.
-/
import Derived.Test.YtjbabbbldepjgaaNumMath
namespace Go.Proofs.Ytjbabbbldepjgaa.Num

theorem fits_natAbs {n : Int} : fitsB n = true ↔ n.natAbs ≤ 4611686018427387903 := by simp only [fitsB, decide_eq_true_eq]; omega
theorem fits_natAbs_no {n : Int} : fitsB n = false ↔ 4611686018427387903 < n.natAbs := by simp only [fitsB, decide_eq_false_iff_not]; omega
theorem fits_grow {x y : Int} (hx : fitsB x = false) (hy : y ≠ 0) : fitsB (x * y) = false := by
  rw [fits_natAbs_no] at *
  rw [Int.natAbs_mul]
  exact Nat.lt_of_lt_of_le hx (Nat.le_mul_of_pos_right _ (by omega))
theorem pow_ne {x : Int} (h : x ≠ 0) (n : Nat) : x ^ n ≠ 0 := by
  intro e
  have e2 : (x ^ n).natAbs = 0 := by rw [e]; rfl
  rw [Int.natAbs_pow] at e2
  have : 0 < x.natAbs ^ n := Nat.pow_pos (by omega)
  omega
theorem fits_one : fitsB 1 = true := by decide
theorem both_mk {a b : Int} (h1 : fitsB a = true) (h2 : fitsB b = true) : bothB a b = true := by simp [bothB, h1, h2]
theorem mul_yes {a b : Int} (h1 : fitsB a = true) (h2 : fitsB b = true) (h : fitsB (a * b) = true) : mulS a b = (a * b, 0) := by rw [mulS_yes (both_mk h1 h2), chk_yes h]
theorem mul_no {a b : Int} (h1 : fitsB a = true) (h2 : fitsB b = true) (h : fitsB (a * b) = false) : mulS a b = (0, 19) := by rw [mulS_yes (both_mk h1 h2), chk_no h]

/-! ### Binary powers -/
def PowInv (a b A B P : Int) : Prop := 0 ≤ B ∧ B ≤ 4611686018427387903 ∧ fitsB A = true ∧ fitsB P = true ∧ P * A ^ B.toNat = a ^ b.toNat ∧ (P ≠ 0 ∨ A = 0)
def PowMid (a b A C P : Int) : Prop := 0 ≤ C ∧ C ≤ 4611686018427387903 ∧ fitsB A = true ∧ fitsB P = true ∧ P * (A * A) ^ C.toNat = a ^ b.toNat ∧ (P ≠ 0 ∨ A = 0)

theorem inv_start {a b : Int} (h : bothB a b = true) (h0 : 0 ≤ b) : PowInv a b a b 1 := by
  have h' := both_def.1 h
  exact ⟨h0, by omega, fits_mk h'.1, fits_one, by rw [Int.one_mul], Or.inl (by decide)⟩
theorem pow_even (A : Int) (C : Int) (h : 0 ≤ C) (B : Int) (hB : B = 2 * C) : A ^ B.toNat = (A * A) ^ C.toNat := by
  have e : B.toNat = 2 * C.toNat := by omega
  rw [e, Int.pow_mul, Int.pow_succ, Int.pow_succ, Int.pow_zero, Int.one_mul]
theorem pow_odd (A : Int) (C : Int) (h : 0 ≤ C) (B : Int) (hB : B = 2 * C + 1) : A ^ B.toNat = A * (A * A) ^ C.toNat := by
  have e : B.toNat = (2 * C).toNat + 1 := by omega
  rw [e, Int.pow_succ, Int.mul_comm, pow_even A C h _ rfl]
theorem inv_over {a b A B P : Int} (h : PowInv a b A B P) (ho : B % 2 = 1) (hf : fitsB (P * A) = false) : fitsB (a ^ b.toNat) = false := by
  obtain ⟨h0, _, _, _, he, _⟩ := h
  rw [← he, pow_odd A (B / 2) (by omega) B (by omega), ← Int.mul_assoc]
  have hA : A ≠ 0 := by
    intro e; subst e; rw [Int.mul_zero] at hf; exact absurd hf (by decide)
  exact fits_grow hf (pow_ne (Int.mul_ne_zero hA hA) _)
theorem inv_odd {a b A B P : Int} (h : PowInv a b A B P) (ho : B % 2 = 1) (hf : fitsB (P * A) = true) : PowMid a b A (B / 2) (P * A) := by
  obtain ⟨h0, h1, hA, _, he, hz⟩ := h
  refine ⟨by omega, by omega, hA, hf, by rw [← he, pow_odd A (B / 2) (by omega) B (by omega), ← Int.mul_assoc], ?_⟩
  rcases hz with hz | hz
  · by_cases hA0 : A = 0
    · exact Or.inr hA0
    · exact Or.inl (Int.mul_ne_zero hz hA0)
  · exact Or.inr hz
theorem inv_even {a b A B P : Int} (h : PowInv a b A B P) (ho : ¬ B % 2 = 1) : PowMid a b A (B / 2) P := by
  obtain ⟨h0, h1, hA, hP, he, hz⟩ := h
  exact ⟨by omega, by omega, hA, hP, by rw [← he, pow_even A (B / 2) (by omega) B (by omega)], hz⟩
theorem mid_end {a b A C P : Int} (h : PowMid a b A C P) (hC : C = 0) : chk (a ^ b.toNat) = (P, 0) := by
  obtain ⟨h0, h1, hA, hP, he, hz⟩ := h
  subst hC
  rw [← he, show (0 : Int).toNat = 0 from rfl, Int.pow_zero, Int.mul_one, chk_yes hP]
theorem mid_over {a b A C P : Int} (h : PowMid a b A C P) (hC : ¬ C = 0) (hf : fitsB (A * A) = false) : chk (a ^ b.toNat) = (0, 19) := by
  obtain ⟨h0, h1, hA, hP, he, hz⟩ := h
  have hA0 : A ≠ 0 := by
    intro e; subst e; rw [Int.mul_zero] at hf; exact absurd hf (by decide)
  have e : C.toNat = (C.toNat - 1) + 1 := by omega
  refine chk_no ?_
  rw [← he, e, Int.pow_succ, Int.mul_comm, Int.mul_comm (_ ^ _), Int.mul_assoc]
  refine fits_grow hf (Int.mul_ne_zero (pow_ne (Int.mul_ne_zero hA0 hA0) _) ?_)
  rcases hz with hz | hz
  · exact hz
  · exact absurd hz hA0
theorem mid_next {a b A C P : Int} (h : PowMid a b A C P) (hf : fitsB (A * A) = true) : PowInv a b (A * A) C P := by
  obtain ⟨h0, h1, hA, hP, he, hz⟩ := h
  refine ⟨h0, h1, hf, hP, he, ?_⟩
  rcases hz with hz | hz
  · exact Or.inl hz
  · exact Or.inr (by rw [hz]; rfl)
theorem inv_over' {a b A B P : Int} (h : PowInv a b A B P) (ho : B % 2 = 1) (hf : fitsB (P * A) = false) : chk (a ^ b.toNat) = (0, 19) := chk_no (inv_over h ho hf)

/-! ### Powers by repeated multiplication -/
theorem pow_step (a : Int) (k : Nat) : a ^ k * a = a ^ (k + 1) := (Int.pow_succ a k).symm
theorem rep_over {a b : Int} {k : Nat} (ha : ¬ a = 0) (hk : (k : Int) < b) (hf : fitsB (a ^ k * a) = false) : chk (a ^ b.toNat) = (0, 19) := by
  have e : b.toNat = (k + 1) + (b.toNat - (k + 1)) := by omega
  refine chk_no ?_
  rw [e, Int.pow_add, ← pow_step]
  exact fits_grow hf (pow_ne ha _)
theorem one_pow (n : Nat) : (1 : Int) ^ n = 1 := Int.one_pow
theorem zero_pow (n : Nat) (h : 0 < n) : (0 : Int) ^ n = 0 := Int.zero_pow (by omega)
theorem neg_one_pow (n : Nat) : (-1 : Int) ^ n = if n % 2 = 0 then 1 else -1 := by
  induction n with
  | zero => rfl
  | succ n ih =>
    rw [Int.pow_succ, ih]
    by_cases h : n % 2 = 0
    · rw [if_pos h, if_neg (by omega)]; rfl
    · rw [if_neg h, if_pos (by omega)]; rfl
end Go.Proofs.Ytjbabbbldepjgaa.Num
