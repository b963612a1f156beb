/-
  Plain mathematics of layer 1 (numbers from -(2^62 - 1) to 2^62 - 1): the results of the nine calls as Lean functions, and lemmas about them. Nothing of the program is named here.
-/
namespace Go.Proofs.YtngcahaidlgkfaaDoor.Num

/-- Is n a number? -/
def fitsB (n : Int) : Bool := decide (-4611686018427387903 ≤ n ∧ n ≤ 4611686018427387903)

theorem fits_def {n : Int} : fitsB n = true ↔ -4611686018427387903 ≤ n ∧ n ≤ 4611686018427387903 := by simp [fitsB]
theorem fits_mk {n : Int} (h : -4611686018427387903 ≤ n ∧ n ≤ 4611686018427387903) : fitsB n = true := fits_def.2 h
theorem fits_no {n : Int} (h : ¬(-4611686018427387903 ≤ n ∧ n ≤ 4611686018427387903)) : fitsB n = false := by simpa [fitsB] using h
theorem fits_of_false {n : Int} (h : fitsB n = false) : n < -4611686018427387903 ∨ 4611686018427387903 < n := by
  simp [fitsB] at h; omega

/-- A result that is n, or the overflow error. -/
def chk (n : Int) : Int × Int := if fitsB n = true then (n, 0) else (0, 19)
theorem chk_yes {n : Int} (h : fitsB n = true) : chk n = (n, 0) := by simp [chk, h]
theorem chk_no {n : Int} (h : fitsB n = false) : chk n = (0, 19) := by simp [chk, h]

def bothB (a b : Int) : Bool := fitsB a && fitsB b
theorem both_def {a b : Int} : bothB a b = true ↔ (-4611686018427387903 ≤ a ∧ a ≤ 4611686018427387903) ∧ -4611686018427387903 ≤ b ∧ b ≤ 4611686018427387903 := by
  simp [bothB, fitsB]

def addS (a b : Int) : Int × Int := if bothB a b = true then chk (a + b) else (0, 1)
def subS (a b : Int) : Int × Int := if bothB a b = true then chk (a - b) else (0, 1)
def mulS (a b : Int) : Int × Int := if bothB a b = true then chk (a * b) else (0, 1)
/-- The quotient rounded toward minus infinity, and its remainder. -/
def fl (a b : Int) : Int := if 0 < b then a / b else (-a) / (-b)
def md (a b : Int) : Int := a - b * fl a b
def divS (a b : Int) : Int × Int := if bothB a b = true then (if b = 0 then (0, 20) else (fl a b, 0)) else (0, 1)
def modS (a b : Int) : Int × Int := if bothB a b = true then (if b = 0 then (0, 20) else (md a b, 0)) else (0, 1)
def powS (a b : Int) : Int × Int := if bothB a b = true then (if b < 0 then (0, 17) else chk (a ^ b.toNat)) else (0, 1)

theorem addS_no {a b : Int} (h : bothB a b = false) : addS a b = (0, 1) := by simp [addS, h]
theorem subS_no {a b : Int} (h : bothB a b = false) : subS a b = (0, 1) := by simp [subS, h]
theorem mulS_no {a b : Int} (h : bothB a b = false) : mulS a b = (0, 1) := by simp [mulS, h]
theorem divS_no {a b : Int} (h : bothB a b = false) : divS a b = (0, 1) := by simp [divS, h]
theorem modS_no {a b : Int} (h : bothB a b = false) : modS a b = (0, 1) := by simp [modS, h]
theorem powS_no {a b : Int} (h : bothB a b = false) : powS a b = (0, 1) := by simp [powS, h]
theorem addS_yes {a b : Int} (h : bothB a b = true) : addS a b = chk (a + b) := by simp [addS, h]
theorem subS_yes {a b : Int} (h : bothB a b = true) : subS a b = chk (a - b) := by simp [subS, h]
theorem mulS_yes {a b : Int} (h : bothB a b = true) : mulS a b = chk (a * b) := by simp [mulS, h]
theorem divS_zero {a : Int} (h : bothB a 0 = true) : divS a 0 = (0, 20) := by simp [divS, h]
theorem modS_zero {a : Int} (h : bothB a 0 = true) : modS a 0 = (0, 20) := by simp [modS, h]
theorem divS_yes {a b : Int} (h : bothB a b = true) (h0 : b ≠ 0) : divS a b = (fl a b, 0) := by simp [divS, h, h0]
theorem modS_yes {a b : Int} (h : bothB a b = true) (h0 : b ≠ 0) : modS a b = (md a b, 0) := by simp [modS, h, h0]
theorem powS_neg {a b : Int} (h : bothB a b = true) (h0 : b < 0) : powS a b = (0, 17) := by simp [powS, h, h0]
theorem powS_yes {a b : Int} (h : bothB a b = true) (h0 : 0 ≤ b) : powS a b = chk (a ^ b.toNat) := by
  simp [powS, h, show ¬ b < 0 by omega]

/-! Go's division rounds toward zero; the quotient of the document is rounded toward minus infinity. -/
theorem tdiv_abs_le (a b : Int) : (a.tdiv b).natAbs ≤ a.natAbs := by
  rw [Int.natAbs_tdiv]; exact Nat.div_le_self _ _
theorem tmod_abs_lt (a b : Int) (hb : b ≠ 0) : (a.tmod b).natAbs < b.natAbs := by
  rw [Int.natAbs_tmod]; exact Nat.mod_lt _ (by omega)
theorem tmod_abs_le (a b : Int) : (a.tmod b).natAbs ≤ a.natAbs := by
  rw [Int.natAbs_tmod]; exact Nat.mod_le _ _
theorem tdiv_bd {a b : Int} (ha : -4611686018427387903 ≤ a ∧ a ≤ 4611686018427387903) : -4611686018427387903 ≤ a.tdiv b ∧ a.tdiv b ≤ 4611686018427387903 := by
  have := tdiv_abs_le a b; omega
theorem tmod_bd {a b : Int} (ha : -4611686018427387903 ≤ a ∧ a ≤ 4611686018427387903) : -4611686018427387903 ≤ a.tmod b ∧ a.tmod b ≤ 4611686018427387903 := by
  have := tmod_abs_le a b; omega
theorem tmod_sign (a b : Int) : (0 ≤ a → 0 ≤ a.tmod b) ∧ (a ≤ 0 → a.tmod b ≤ 0) := by
  refine ⟨fun h => Int.tmod_nonneg b h, fun h => ?_⟩
  have := Int.tmod_nonneg (a := -a) b (by omega)
  rw [Int.neg_tmod] at this; omega

/-- The characterisation of quotient and remainder: the quotient is unique. -/
theorem fl_unique {a b q r : Int} (hb : b ≠ 0) (h : b * q + r = a) (hs : (0 < b → 0 ≤ r ∧ r < b) ∧ (b < 0 → r ≤ 0 ∧ b < r)) : fl a b = q ∧ md a b = r := by
  have key : fl a b = q := by
    unfold fl
    by_cases hp : 0 < b
    · rw [if_pos hp]
      have := hs.1 hp
      exact ((Int.ediv_emod_unique hp).2 ⟨by omega, this.1, this.2⟩).1
    · rw [if_neg hp]
      have := hs.2 (by omega)
      exact ((Int.ediv_emod_unique (a := -a) (b := -b) (r := -r) (q := q) (by omega)).2 ⟨by rw [Int.neg_mul]; omega, by omega, by omega⟩).1
  refine ⟨key, ?_⟩
  unfold md
  rw [key]; omega
theorem md_spec {a b : Int} (hb : b ≠ 0) : b * fl a b + md a b = a ∧ (0 < b → 0 ≤ md a b ∧ md a b < b) ∧ (b < 0 → md a b ≤ 0 ∧ b < md a b) := by
  unfold md fl
  refine ⟨by omega, fun hp => ?_, fun hn => ?_⟩
  · rw [if_pos hp]
    have h1 := Int.emod_nonneg a (b := b) (by omega)
    have h2 := Int.emod_lt_of_pos a hp
    have h3 := Int.mul_ediv_add_emod a b
    omega
  · rw [if_neg (by omega)]
    have h1 := Int.emod_nonneg (-a) (b := -b) (by omega)
    have h2 := Int.emod_lt_of_pos (-a) (b := -b) (by omega)
    have h3 := Int.mul_ediv_add_emod (-a) (-b)
    rw [Int.neg_mul] at h3
    omega
end Go.Proofs.YtngcahaidlgkfaaDoor.Num
