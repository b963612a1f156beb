/-
  Plain mathematics of layer 1 (numbers from -(2^62 - 1) to 2^62 - 1): the results of the nine calls as Lean functions, and lemmas about them. Nothing of the program is named here.
  Plain mathematics of shapes: validity, products, offsets, indices. Nothing of the program is named here.
  Plain mathematics of powers: the invariant of binary powers, and of powers by repeated multiplication.
-/

namespace Go.Proofs.Ytekbdiniibmhgaa.Num

/-- Is n a number? -/
def fitsB (n : Int) : Bool := decide (-4611686018427387903 ≤ n ∧ n ≤ 4611686018427387903)

theorem fits_def {n : Int} : fitsB n = true ↔ -4611686018427387903 ≤ n ∧ n ≤ 4611686018427387903 := by simp [fitsB]
theorem fits_mk {n : Int} (h : -4611686018427387903 ≤ n ∧ n ≤ 4611686018427387903) : fitsB n = true := fits_def.2 h
theorem fits_no {n : Int} (h : ¬(-4611686018427387903 ≤ n ∧ n ≤ 4611686018427387903)) : fitsB n = false := by simpa [fitsB] using h
theorem fits_of_false {n : Int} (h : fitsB n = false) : n < -4611686018427387903 ∨ 4611686018427387903 < n := by
  simp [fitsB] at h; omega

/-- A result that is n, or the overflow error. -/
def chk (n : Int) : Int × Int := if fitsB n = true then (n, 0) else (0, 19)
theorem chk_yes {n : Int} (h : fitsB n = true) : chk n = (n, 0) := by simp [chk, h]
theorem chk_no {n : Int} (h : fitsB n = false) : chk n = (0, 19) := by simp [chk, h]

def bothB (a b : Int) : Bool := fitsB a && fitsB b
theorem both_def {a b : Int} : bothB a b = true ↔ (-4611686018427387903 ≤ a ∧ a ≤ 4611686018427387903) ∧ -4611686018427387903 ≤ b ∧ b ≤ 4611686018427387903 := by
  simp [bothB, fitsB]

def addS (a b : Int) : Int × Int := if bothB a b = true then chk (a + b) else (0, 1)
def subS (a b : Int) : Int × Int := if bothB a b = true then chk (a - b) else (0, 1)
def mulS (a b : Int) : Int × Int := if bothB a b = true then chk (a * b) else (0, 1)
/-- The quotient rounded toward minus infinity, and its remainder. -/
def fl (a b : Int) : Int := if 0 < b then a / b else (-a) / (-b)
def md (a b : Int) : Int := a - b * fl a b
def divS (a b : Int) : Int × Int := if bothB a b = true then (if b = 0 then (0, 20) else (fl a b, 0)) else (0, 1)
def modS (a b : Int) : Int × Int := if bothB a b = true then (if b = 0 then (0, 20) else (md a b, 0)) else (0, 1)
def powS (a b : Int) : Int × Int := if bothB a b = true then (if b < 0 then (0, 17) else chk (a ^ b.toNat)) else (0, 1)

theorem addS_no {a b : Int} (h : bothB a b = false) : addS a b = (0, 1) := by simp [addS, h]
theorem subS_no {a b : Int} (h : bothB a b = false) : subS a b = (0, 1) := by simp [subS, h]
theorem mulS_no {a b : Int} (h : bothB a b = false) : mulS a b = (0, 1) := by simp [mulS, h]
theorem divS_no {a b : Int} (h : bothB a b = false) : divS a b = (0, 1) := by simp [divS, h]
theorem modS_no {a b : Int} (h : bothB a b = false) : modS a b = (0, 1) := by simp [modS, h]
theorem powS_no {a b : Int} (h : bothB a b = false) : powS a b = (0, 1) := by simp [powS, h]
theorem addS_yes {a b : Int} (h : bothB a b = true) : addS a b = chk (a + b) := by simp [addS, h]
theorem subS_yes {a b : Int} (h : bothB a b = true) : subS a b = chk (a - b) := by simp [subS, h]
theorem mulS_yes {a b : Int} (h : bothB a b = true) : mulS a b = chk (a * b) := by simp [mulS, h]
theorem divS_zero {a : Int} (h : bothB a 0 = true) : divS a 0 = (0, 20) := by simp [divS, h]
theorem modS_zero {a : Int} (h : bothB a 0 = true) : modS a 0 = (0, 20) := by simp [modS, h]
theorem divS_yes {a b : Int} (h : bothB a b = true) (h0 : b ≠ 0) : divS a b = (fl a b, 0) := by simp [divS, h, h0]
theorem modS_yes {a b : Int} (h : bothB a b = true) (h0 : b ≠ 0) : modS a b = (md a b, 0) := by simp [modS, h, h0]
theorem powS_neg {a b : Int} (h : bothB a b = true) (h0 : b < 0) : powS a b = (0, 17) := by simp [powS, h, h0]
theorem powS_yes {a b : Int} (h : bothB a b = true) (h0 : 0 ≤ b) : powS a b = chk (a ^ b.toNat) := by
  simp [powS, h, show ¬ b < 0 by omega]

/-! Go's division rounds toward zero; the quotient of the document is rounded toward minus infinity. -/
theorem tdiv_abs_le (a b : Int) : (a.tdiv b).natAbs ≤ a.natAbs := by
  rw [Int.natAbs_tdiv]; exact Nat.div_le_self _ _
theorem tmod_abs_lt (a b : Int) (hb : b ≠ 0) : (a.tmod b).natAbs < b.natAbs := by
  rw [Int.natAbs_tmod]; exact Nat.mod_lt _ (by omega)
theorem tmod_abs_le (a b : Int) : (a.tmod b).natAbs ≤ a.natAbs := by
  rw [Int.natAbs_tmod]; exact Nat.mod_le _ _
theorem tdiv_bd {a b : Int} (ha : -4611686018427387903 ≤ a ∧ a ≤ 4611686018427387903) : -4611686018427387903 ≤ a.tdiv b ∧ a.tdiv b ≤ 4611686018427387903 := by
  have := tdiv_abs_le a b; omega
theorem tmod_bd {a b : Int} (ha : -4611686018427387903 ≤ a ∧ a ≤ 4611686018427387903) : -4611686018427387903 ≤ a.tmod b ∧ a.tmod b ≤ 4611686018427387903 := by
  have := tmod_abs_le a b; omega
theorem tmod_sign (a b : Int) : (0 ≤ a → 0 ≤ a.tmod b) ∧ (a ≤ 0 → a.tmod b ≤ 0) := by
  refine ⟨fun h => Int.tmod_nonneg b h, fun h => ?_⟩
  have := Int.tmod_nonneg (a := -a) b (by omega)
  rw [Int.neg_tmod] at this; omega

/-- The characterisation of quotient and remainder: the quotient is unique. -/
theorem fl_unique {a b q r : Int} (hb : b ≠ 0) (h : b * q + r = a) (hs : (0 < b → 0 ≤ r ∧ r < b) ∧ (b < 0 → r ≤ 0 ∧ b < r)) : fl a b = q ∧ md a b = r := by
  have key : fl a b = q := by
    unfold fl
    by_cases hp : 0 < b
    · rw [if_pos hp]
      have := hs.1 hp
      exact ((Int.ediv_emod_unique hp).2 ⟨by omega, this.1, this.2⟩).1
    · rw [if_neg hp]
      have := hs.2 (by omega)
      exact ((Int.ediv_emod_unique (a := -a) (b := -b) (r := -r) (q := q) (by omega)).2 ⟨by rw [Int.neg_mul]; omega, by omega, by omega⟩).1
  refine ⟨key, ?_⟩
  unfold md
  rw [key]; omega
theorem md_spec {a b : Int} (hb : b ≠ 0) : b * fl a b + md a b = a ∧ (0 < b → 0 ≤ md a b ∧ md a b < b) ∧ (b < 0 → md a b ≤ 0 ∧ b < md a b) := by
  unfold md fl
  refine ⟨by omega, fun hp => ?_, fun hn => ?_⟩
  · rw [if_pos hp]
    have h1 := Int.emod_nonneg a (b := b) (by omega)
    have h2 := Int.emod_lt_of_pos a hp
    have h3 := Int.mul_ediv_add_emod a b
    omega
  · rw [if_neg (by omega)]
    have h1 := Int.emod_nonneg (-a) (b := -b) (by omega)
    have h2 := Int.emod_lt_of_pos (-a) (b := -b) (by omega)
    have h3 := Int.mul_ediv_add_emod (-a) (-b)
    rw [Int.neg_mul] at h3
    omega
end Go.Proofs.Ytekbdiniibmhgaa.Num

namespace Go.Proofs.Ytekbdiniibmhgaa.Shape

/-- The product of all dimensions, and of those other than 0. -/
def pr : List Int → Int
  | [] => 1
  | x :: r => x * pr r
def nz : List Int → Int
  | [] => 1
  | x :: r => (if x = 0 then 1 else x) * nz r
def NN (xs : List Int) : Prop := ∀ x ∈ xs, 0 ≤ x
instance (xs : List Int) : Decidable (NN xs) := inferInstanceAs (Decidable (∀ x ∈ xs, 0 ≤ x))

/-- Is xs a valid shape? -/
def rightB (xs : List Int) : Bool := decide (xs.length ≤ 8 ∧ NN xs ∧ nz xs ≤ 65536)
theorem right_def {xs : List Int} : rightB xs = true ↔ xs.length ≤ 8 ∧ NN xs ∧ nz xs ≤ 65536 := by simp [rightB]

theorem pr_append (a b : List Int) : pr (a ++ b) = pr a * pr b := by
  induction a with
  | nil => simp [pr]
  | cons x r ih => rw [List.cons_append, pr, pr, ih, Int.mul_assoc]
theorem nz_append (a b : List Int) : nz (a ++ b) = nz a * nz b := by
  induction a with
  | nil => simp [nz]
  | cons x r ih => rw [List.cons_append, nz, nz, ih, Int.mul_assoc]
theorem NN.nil : NN [] := fun _ h => absurd h (by simp)
theorem NN.left {a b : List Int} (h : NN (a ++ b)) : NN a := fun x hx => h x (List.mem_append_left _ hx)
theorem NN.right {a b : List Int} (h : NN (a ++ b)) : NN b := fun x hx => h x (List.mem_append_right _ hx)
theorem NN.head {x : Int} {r : List Int} (h : NN (x :: r)) : 0 ≤ x := h x (by simp)
theorem NN.tail {x : Int} {r : List Int} (h : NN (x :: r)) : NN r := fun y hy => h y (by simp [hy])
theorem NN.snoc {a : List Int} {x : Int} (h : NN a) (hx : 0 ≤ x) : NN (a ++ [x]) := by
  intro y hy
  rcases List.mem_append.1 hy with h1 | h1
  · exact h y h1
  · rw [List.mem_singleton.1 h1]; exact hx
theorem nz_pos {xs : List Int} (h : NN xs) : 1 ≤ nz xs := by
  induction xs with
  | nil => exact Int.le_refl _
  | cons x r ih =>
    have h1 := ih h.tail
    have h2 := h.head
    rw [nz]
    split
    · omega
    · have : 1 * 1 ≤ x * nz r := Int.mul_le_mul (by omega) h1 (by decide) (by omega)
      omega
theorem nz_left {a b : List Int} (h : NN (a ++ b)) : nz a ≤ nz (a ++ b) := by
  rw [nz_append]
  have h1 := nz_pos h.left
  have h2 := nz_pos h.right
  have : nz a * 1 ≤ nz a * nz b := Int.mul_le_mul_of_nonneg_left h2 (by omega)
  omega
theorem nz_right {a b : List Int} (h : NN (a ++ b)) : nz b ≤ nz (a ++ b) := by
  rw [nz_append]
  have h1 := nz_pos h.left
  have h2 := nz_pos h.right
  have : 1 * nz b ≤ nz a * nz b := Int.mul_le_mul_of_nonneg_right h1 (by omega)
  omega
theorem pr_nn {xs : List Int} (h : NN xs) : 0 ≤ pr xs := by
  induction xs with
  | nil => decide
  | cons x r ih => exact Int.mul_nonneg h.head (ih h.tail)
theorem pr_le_nz {xs : List Int} (h : NN xs) : pr xs ≤ nz xs := by
  induction xs with
  | nil => exact Int.le_refl _
  | cons x r ih =>
    have h1 := ih h.tail
    have h2 := h.head
    have h3 := nz_pos h.tail
    rw [pr, nz]
    split
    · rename_i e; rw [e, Int.zero_mul]; omega
    · exact Int.mul_le_mul_of_nonneg_left h1 h2
/-- Where no dimension is 0 the two products are one. -/
theorem pr_eq_nz {xs : List Int} (h : ∀ x ∈ xs, x ≠ 0) : pr xs = nz xs := by
  induction xs with
  | nil => rfl
  | cons x r ih => rw [pr, nz, if_neg (h x (by simp)), ih (fun y hy => h y (by simp [hy]))]

/-! ### Reading a list place by place -/
theorem split_at (xs : List Int) (k : Nat) (h : k < xs.length) : xs = xs.take k ++ xs[k] :: xs.drop (k + 1) := by
  rw [List.getElem_cons_drop, List.take_append_drop]
theorem take_snoc (xs : List Int) (k : Nat) (h : k < xs.length) : xs.take (k + 1) = xs.take k ++ [xs[k]] := by
  rw [List.take_succ_eq_append_getElem h]

/-! ### Validity, place by place -/
theorem right_len {xs : List Int} (h : 8 < xs.length) : rightB xs = false := by
  simp only [rightB, decide_eq_false_iff_not]; omega
theorem right_neg {xs : List Int} {k : Nat} (hk : k < xs.length) (h : xs[k] < 0) : rightB xs = false := by
  simp only [rightB, decide_eq_false_iff_not]
  rintro ⟨_, h2, _⟩
  have := h2 xs[k] (List.getElem_mem hk)
  omega
theorem right_big {xs : List Int} {k : Nat} (h : 65536 < nz (xs.take (k + 1))) : rightB xs = false := by
  simp only [rightB, decide_eq_false_iff_not]
  rintro ⟨_, h2, h3⟩
  have e : xs.take (k + 1) ++ xs.drop (k + 1) = xs := List.take_append_drop _ _
  have := nz_left (a := xs.take (k + 1)) (b := xs.drop (k + 1)) (by rw [e]; exact h2)
  rw [e] at this
  omega
theorem nz_step {xs : List Int} {k : Nat} (hk : k < xs.length) : nz (xs.take (k + 1)) = nz (xs.take k) * (if xs[k] = 0 then 1 else xs[k]) := by
  rw [take_snoc xs k hk, nz_append, nz, nz, Int.mul_one]
theorem right_huge {xs : List Int} {k : Nat} (hk : k < xs.length) (h : 65536 < xs[k]) : rightB xs = false := by
  simp only [rightB, decide_eq_false_iff_not]
  rintro ⟨_, h2, h3⟩
  have e := split_at xs k hk
  rw [e] at h2 h3
  have h4 := nz_right h2
  have h5 := nz_pos h2.right.tail
  rw [nz, if_neg (by omega)] at h4
  have : xs[k] * 1 ≤ xs[k] * nz (xs.drop (k + 1)) := Int.mul_le_mul_of_nonneg_left h5 (by omega)
  omega
theorem right_all {xs : List Int} (hl : xs.length ≤ 8) (h : NN xs) (h2 : nz xs ≤ 65536) : rightB xs = true := right_def.2 ⟨hl, h, h2⟩

/-- What a valid shape gives: each part of it has products of at most 65536. -/
theorem part_bd {a b : List Int} (h : rightB (a ++ b) = true) : 0 ≤ pr a ∧ pr a ≤ 65536 ∧ 0 ≤ pr b ∧ pr b ≤ 65536 := by
  obtain ⟨_, h2, h3⟩ := right_def.1 h
  have := pr_nn h2.left
  have := pr_nn h2.right
  have := pr_le_nz h2.left
  have := pr_le_nz h2.right
  have := nz_left h2
  have := nz_right h2
  omega
theorem dim_bd {xs : List Int} (h : rightB xs = true) {k : Nat} (hk : k < xs.length) : 0 ≤ xs[k] ∧ xs[k] ≤ 65536 := by
  have h' := right_def.1 h
  refine ⟨h'.2.1 _ (List.getElem_mem hk), ?_⟩
  rcases Int.lt_or_le 65536 xs[k] with hb | hb
  · rw [right_huge hk hb] at h; cases h
  · exact hb
end Go.Proofs.Ytekbdiniibmhgaa.Shape

namespace Go.Proofs.Ytekbdiniibmhgaa.Num

theorem fits_natAbs {n : Int} : fitsB n = true ↔ n.natAbs ≤ 4611686018427387903 := by simp only [fitsB, decide_eq_true_eq]; omega
theorem fits_natAbs_no {n : Int} : fitsB n = false ↔ 4611686018427387903 < n.natAbs := by simp only [fitsB, decide_eq_false_iff_not]; omega
theorem fits_grow {x y : Int} (hx : fitsB x = false) (hy : y ≠ 0) : fitsB (x * y) = false := by
  rw [fits_natAbs_no] at *
  rw [Int.natAbs_mul]
  exact Nat.lt_of_lt_of_le hx (Nat.le_mul_of_pos_right _ (by omega))
theorem pow_ne {x : Int} (h : x ≠ 0) (n : Nat) : x ^ n ≠ 0 := by
  intro e
  have e2 : (x ^ n).natAbs = 0 := by rw [e]; rfl
  rw [Int.natAbs_pow] at e2
  have : 0 < x.natAbs ^ n := Nat.pow_pos (by omega)
  omega
theorem fits_one : fitsB 1 = true := by decide
theorem both_mk {a b : Int} (h1 : fitsB a = true) (h2 : fitsB b = true) : bothB a b = true := by simp [bothB, h1, h2]
theorem mul_yes {a b : Int} (h1 : fitsB a = true) (h2 : fitsB b = true) (h : fitsB (a * b) = true) : mulS a b = (a * b, 0) := by rw [mulS_yes (both_mk h1 h2), chk_yes h]
theorem mul_no {a b : Int} (h1 : fitsB a = true) (h2 : fitsB b = true) (h : fitsB (a * b) = false) : mulS a b = (0, 19) := by rw [mulS_yes (both_mk h1 h2), chk_no h]

/-! ### Binary powers -/
def PowInv (a b A B P : Int) : Prop := 0 ≤ B ∧ B ≤ 4611686018427387903 ∧ fitsB A = true ∧ fitsB P = true ∧ P * A ^ B.toNat = a ^ b.toNat ∧ (P ≠ 0 ∨ A = 0)
def PowMid (a b A C P : Int) : Prop := 0 ≤ C ∧ C ≤ 4611686018427387903 ∧ fitsB A = true ∧ fitsB P = true ∧ P * (A * A) ^ C.toNat = a ^ b.toNat ∧ (P ≠ 0 ∨ A = 0)

theorem inv_start {a b : Int} (h : bothB a b = true) (h0 : 0 ≤ b) : PowInv a b a b 1 := by
  have h' := both_def.1 h
  exact ⟨h0, by omega, fits_mk h'.1, fits_one, by rw [Int.one_mul], Or.inl (by decide)⟩
theorem pow_even (A : Int) (C : Int) (h : 0 ≤ C) (B : Int) (hB : B = 2 * C) : A ^ B.toNat = (A * A) ^ C.toNat := by
  have e : B.toNat = 2 * C.toNat := by omega
  rw [e, Int.pow_mul, Int.pow_succ, Int.pow_succ, Int.pow_zero, Int.one_mul]
theorem pow_odd (A : Int) (C : Int) (h : 0 ≤ C) (B : Int) (hB : B = 2 * C + 1) : A ^ B.toNat = A * (A * A) ^ C.toNat := by
  have e : B.toNat = (2 * C).toNat + 1 := by omega
  rw [e, Int.pow_succ, Int.mul_comm, pow_even A C h _ rfl]
theorem inv_over {a b A B P : Int} (h : PowInv a b A B P) (ho : B % 2 = 1) (hf : fitsB (P * A) = false) : fitsB (a ^ b.toNat) = false := by
  obtain ⟨h0, _, _, _, he, _⟩ := h
  rw [← he, pow_odd A (B / 2) (by omega) B (by omega), ← Int.mul_assoc]
  have hA : A ≠ 0 := by
    intro e; subst e; rw [Int.mul_zero] at hf; exact absurd hf (by decide)
  exact fits_grow hf (pow_ne (Int.mul_ne_zero hA hA) _)
theorem inv_odd {a b A B P : Int} (h : PowInv a b A B P) (ho : B % 2 = 1) (hf : fitsB (P * A) = true) : PowMid a b A (B / 2) (P * A) := by
  obtain ⟨h0, h1, hA, _, he, hz⟩ := h
  refine ⟨by omega, by omega, hA, hf, by rw [← he, pow_odd A (B / 2) (by omega) B (by omega), ← Int.mul_assoc], ?_⟩
  rcases hz with hz | hz
  · by_cases hA0 : A = 0
    · exact Or.inr hA0
    · exact Or.inl (Int.mul_ne_zero hz hA0)
  · exact Or.inr hz
theorem inv_even {a b A B P : Int} (h : PowInv a b A B P) (ho : ¬ B % 2 = 1) : PowMid a b A (B / 2) P := by
  obtain ⟨h0, h1, hA, hP, he, hz⟩ := h
  exact ⟨by omega, by omega, hA, hP, by rw [← he, pow_even A (B / 2) (by omega) B (by omega)], hz⟩
theorem mid_end {a b A C P : Int} (h : PowMid a b A C P) (hC : C = 0) : chk (a ^ b.toNat) = (P, 0) := by
  obtain ⟨h0, h1, hA, hP, he, hz⟩ := h
  subst hC
  rw [← he, show (0 : Int).toNat = 0 from rfl, Int.pow_zero, Int.mul_one, chk_yes hP]
theorem mid_over {a b A C P : Int} (h : PowMid a b A C P) (hC : ¬ C = 0) (hf : fitsB (A * A) = false) : chk (a ^ b.toNat) = (0, 19) := by
  obtain ⟨h0, h1, hA, hP, he, hz⟩ := h
  have hA0 : A ≠ 0 := by
    intro e; subst e; rw [Int.mul_zero] at hf; exact absurd hf (by decide)
  have e : C.toNat = (C.toNat - 1) + 1 := by omega
  refine chk_no ?_
  rw [← he, e, Int.pow_succ, Int.mul_comm, Int.mul_comm (_ ^ _), Int.mul_assoc]
  refine fits_grow hf (Int.mul_ne_zero (pow_ne (Int.mul_ne_zero hA0 hA0) _) ?_)
  rcases hz with hz | hz
  · exact hz
  · exact absurd hz hA0
theorem mid_next {a b A C P : Int} (h : PowMid a b A C P) (hf : fitsB (A * A) = true) : PowInv a b (A * A) C P := by
  obtain ⟨h0, h1, hA, hP, he, hz⟩ := h
  refine ⟨h0, h1, hf, hP, he, ?_⟩
  rcases hz with hz | hz
  · exact Or.inl hz
  · exact Or.inr (by rw [hz]; rfl)
theorem inv_over' {a b A B P : Int} (h : PowInv a b A B P) (ho : B % 2 = 1) (hf : fitsB (P * A) = false) : chk (a ^ b.toNat) = (0, 19) := chk_no (inv_over h ho hf)

/-! ### Powers by repeated multiplication -/
theorem pow_step (a : Int) (k : Nat) : a ^ k * a = a ^ (k + 1) := (Int.pow_succ a k).symm
theorem rep_over {a b : Int} {k : Nat} (ha : ¬ a = 0) (hk : (k : Int) < b) (hf : fitsB (a ^ k * a) = false) : chk (a ^ b.toNat) = (0, 19) := by
  have e : b.toNat = (k + 1) + (b.toNat - (k + 1)) := by omega
  refine chk_no ?_
  rw [e, Int.pow_add, ← pow_step]
  exact fits_grow hf (pow_ne ha _)
theorem one_pow (n : Nat) : (1 : Int) ^ n = 1 := Int.one_pow
theorem zero_pow (n : Nat) (h : 0 < n) : (0 : Int) ^ n = 0 := Int.zero_pow (by omega)
theorem neg_one_pow (n : Nat) : (-1 : Int) ^ n = if n % 2 = 0 then 1 else -1 := by
  induction n with
  | zero => rfl
  | succ n ih =>
    rw [Int.pow_succ, ih]
    by_cases h : n % 2 = 0
    · rw [if_pos h, if_neg (by omega)]; rfl
    · rw [if_neg h, if_pos (by omega)]; rfl
end Go.Proofs.Ytekbdiniibmhgaa.Num
