/-
  Plain mathematics of decimal writing: the digits of a number, and that reading them gives it back.
-/
import Derived.Test.YtngcahaidlgkfaaDoorNumReadMath
namespace Go.Proofs.YtngcahaidlgkfaaDoor.Num

/-- The digit of weight 1, as a byte. -/
def dig (m : Nat) : UInt8 := UInt8.ofNat (48 + m % 10)
theorem dig_nat (m : Nat) : (dig m).toNat = 48 + m % 10 := by
  unfold dig; rw [UInt8.toNat_ofNat']; omega
theorem dig_int (m : Nat) : ((dig m).toNat : Int) = 48 + (m : Int) % 10 := by rw [dig_nat]; omega

/-- The digits of m, without leading zeros. -/
def dg (m : Nat) : List UInt8 := if m < 10 then [dig m] else dg (m / 10) ++ [dig m]
  termination_by m
  decreasing_by omega
theorem dg_last {m : Nat} (h : m < 10) : dg m = [dig m] := by rw [dg, if_pos h]
theorem dg_more {m : Nat} (h : ¬ m < 10) : dg m = dg (m / 10) ++ [dig m] := by rw [dg, if_neg h]
/-- The digits of n, as they are written. -/
def shL (n : Int) : List UInt8 := if n < 0 then 95 :: dg n.natAbs else dg n.natAbs
theorem shL_neg {n : Int} (h : n < 0) : shL n = 95 :: dg n.natAbs := by rw [shL, if_pos h]
theorem shL_pos {n : Int} (h : ¬ n < 0) : shL n = dg n.natAbs := by rw [shL, if_neg h]

/-! ### The loop of the program: R is what is left, D the digits that are there -/
theorem loop_last {m R : Nat} {D : List UInt8} (h : dg m = dg R ++ D) (hR : R < 10) : dg m = dig R :: D := by
  rw [h, dg_last hR]; rfl
theorem loop_next {m R : Nat} {D : List UInt8} (h : dg m = dg R ++ D) (hR : ¬ R < 10) : dg m = dg (R / 10) ++ dig R :: D := by
  rw [h, dg_more hR, List.append_assoc]; rfl
theorem room_next {R A : Nat} (h : R < 10 ^ (A - 1)) (hR : ¬ R < 10) : 3 ≤ A ∧ R / 10 < 10 ^ (A - 1 - 1) := by
  have h3 : 3 ≤ A := by
    rcases Nat.lt_or_ge A 3 with h2 | h2
    · have : 10 ^ (A - 1) ≤ 10 ^ 1 := Nat.pow_le_pow_right (by decide) (by omega)
      omega
    · exact h2
  refine ⟨h3, ?_⟩
  have e : A - 1 = (A - 1 - 1) + 1 := by omega
  rw [e, Nat.pow_succ] at h
  omega

/-! ### Reading what was shown -/
theorem rdGo_append {l : List UInt8} : ∀ {n m : Int} {r : List UInt8}, rdGo n l = some m → rdGo n (l ++ r) = rdGo m r := by
  induction l with
  | nil => intro n m r h; simp only [rdGo, Option.some.injEq] at h; rw [h]; rfl
  | cons c l ih =>
    intro n m r h
    rw [List.cons_append, rdGo]
    rw [rdGo] at h
    split at h
    · cases h
    · rename_i h1
      rw [if_neg h1]
      split at h
      · cases h
      · rename_i h2
        rw [if_neg h2]
        exact ih h
theorem rdGo_none {l : List UInt8} : ∀ {n : Int} {r : List UInt8}, rdGo n l = none → rdGo n (l ++ r) = none := by
  induction l with
  | nil => intro n r h; cases h
  | cons c l ih =>
    intro n r h
    rw [List.cons_append, rdGo]
    rw [rdGo] at h
    split at h
    · rename_i h1; rw [if_pos h1]
    · rename_i h1
      rw [if_neg h1]
      split at h
      · rename_i h2; rw [if_pos h2]
      · rename_i h2
        rw [if_neg h2]
        exact ih h
theorem rdGo_dig (m : Nat) (n : Int) : rdGo n [dig m] = if (4611686018427387903 - (m : Int) % 10) / 10 < n then none else some (10 * n + (m : Int) % 10) := by
  have h := dig_int m
  have h' := dig_nat m
  rw [rdGo, if_neg (by omega)]
  have e : ((dig m).toNat : Int) - 48 = (m : Int) % 10 := by omega
  rw [e]
  rfl
/-- The digits of m read as m, if m is a number, and else as none. -/
theorem rdGo_dg (m : Nat) : rdGo 0 (dg m) = if (m : Int) ≤ 4611686018427387903 then some (m : Int) else none := by
  induction m using Nat.strongRecOn with
  | ind m ih =>
    by_cases h : m < 10
    · rw [dg_last h, rdGo_dig, if_neg (by omega), if_pos (by omega)]
      congr 1; omega
    · rw [dg_more h]
      have i := ih (m / 10) (by omega)
      by_cases h2 : ((m / 10 : Nat) : Int) ≤ 4611686018427387903
      · rw [if_pos h2] at i
        rw [rdGo_append i, rdGo_dig]
        by_cases h3 : (m : Int) ≤ 4611686018427387903
        · rw [if_pos h3, if_neg (by omega)]
          congr 1; omega
        · rw [if_neg h3, if_pos (by omega)]
      · rw [if_neg h2] at i
        rw [rdGo_none i, if_neg (by omega)]
theorem dg_ne (m : Nat) : dg m ≠ [] := by
  by_cases h : m < 10
  · rw [dg_last h]; simp
  · rw [dg_more h]; simp
theorem dg_head (m : Nat) : ∃ c r, dg m = c :: r ∧ ¬ c.toNat = 95 := by
  induction m using Nat.strongRecOn with
  | ind m ih =>
    by_cases h : m < 10
    · exact ⟨_, _, dg_last h, by rw [dig_nat]; omega⟩
    · obtain ⟨c, r, e, hc⟩ := ih (m / 10) (by omega)
      exact ⟨c, r ++ [dig m], by rw [dg_more h, e]; rfl, hc⟩
/-- Read returns exactly the numbers that Show shows. -/
theorem rdS_shL (n : Int) : rdS (shL n) = if fitsB n = true then (n, 0) else (0, 4) := by
  have hm := rdGo_dg n.natAbs
  by_cases h : n < 0
  · rw [shL_neg h, rdS_neg (dg_ne _), hm]
    by_cases hf : fitsB n = true
    · have := fits_def.1 hf
      rw [if_pos hf, if_pos (by omega)]
      show (-1 * _, 0) = (n, 0)
      congr 1; omega
    · have := fits_of_false (by simpa using hf : fitsB n = false)
      rw [if_neg hf, if_neg (by omega)]; rfl
  · obtain ⟨c, r, e, hc⟩ := dg_head n.natAbs
    rw [shL_pos h, e, rdS_pos hc, ← e, hm]
    by_cases hf : fitsB n = true
    · have := fits_def.1 hf
      rw [if_pos hf, if_pos (by omega)]
      show (1 * _, 0) = (n, 0)
      congr 1; omega
    · have := fits_of_false (by simpa using hf : fitsB n = false)
      rw [if_neg hf, if_neg (by omega)]; rfl
/-- What is written has at most 20 bytes. -/
theorem dg_len (k : Nat) : ∀ m, m < 10 ^ (k + 1) → (dg m).length ≤ k + 1 := by
  induction k with
  | zero => intro m h; rw [dg_last (by omega)]; simp
  | succ k ih =>
    intro m h
    by_cases h2 : m < 10
    · rw [dg_last h2]; simp
    · rw [dg_more h2, List.length_append]
      have := ih (m / 10) (by rw [Nat.pow_succ] at h; omega)
      simp only [List.length_cons, List.length_nil]
      omega
end Go.Proofs.YtngcahaidlgkfaaDoor.Num
