/-
  Plain mathematics of shapes: validity, products, offsets, indices. Nothing of the program is named here.
-/
namespace Go.Proofs.YtngcahaidlgkfaaDoor.Shape

/-- The product of all dimensions, and of those other than 0. -/
def pr : List Int → Int
  | [] => 1
  | x :: r => x * pr r
def nz : List Int → Int
  | [] => 1
  | x :: r => (if x = 0 then 1 else x) * nz r
def NN (xs : List Int) : Prop := ∀ x ∈ xs, 0 ≤ x
instance (xs : List Int) : Decidable (NN xs) := inferInstanceAs (Decidable (∀ x ∈ xs, 0 ≤ x))

/-- Is xs a valid shape? -/
def rightB (xs : List Int) : Bool := decide (xs.length ≤ 8 ∧ NN xs ∧ nz xs ≤ 65536)
theorem right_def {xs : List Int} : rightB xs = true ↔ xs.length ≤ 8 ∧ NN xs ∧ nz xs ≤ 65536 := by simp [rightB]

theorem pr_append (a b : List Int) : pr (a ++ b) = pr a * pr b := by
  induction a with
  | nil => simp [pr]
  | cons x r ih => rw [List.cons_append, pr, pr, ih, Int.mul_assoc]
theorem nz_append (a b : List Int) : nz (a ++ b) = nz a * nz b := by
  induction a with
  | nil => simp [nz]
  | cons x r ih => rw [List.cons_append, nz, nz, ih, Int.mul_assoc]
theorem NN.nil : NN [] := fun _ h => absurd h (by simp)
theorem NN.left {a b : List Int} (h : NN (a ++ b)) : NN a := fun x hx => h x (List.mem_append_left _ hx)
theorem NN.right {a b : List Int} (h : NN (a ++ b)) : NN b := fun x hx => h x (List.mem_append_right _ hx)
theorem NN.head {x : Int} {r : List Int} (h : NN (x :: r)) : 0 ≤ x := h x (by simp)
theorem NN.tail {x : Int} {r : List Int} (h : NN (x :: r)) : NN r := fun y hy => h y (by simp [hy])
theorem NN.snoc {a : List Int} {x : Int} (h : NN a) (hx : 0 ≤ x) : NN (a ++ [x]) := by
  intro y hy
  rcases List.mem_append.1 hy with h1 | h1
  · exact h y h1
  · rw [List.mem_singleton.1 h1]; exact hx
theorem nz_pos {xs : List Int} (h : NN xs) : 1 ≤ nz xs := by
  induction xs with
  | nil => exact Int.le_refl _
  | cons x r ih =>
    have h1 := ih h.tail
    have h2 := h.head
    rw [nz]
    split
    · omega
    · have : 1 * 1 ≤ x * nz r := Int.mul_le_mul (by omega) h1 (by decide) (by omega)
      omega
theorem nz_left {a b : List Int} (h : NN (a ++ b)) : nz a ≤ nz (a ++ b) := by
  rw [nz_append]
  have h1 := nz_pos h.left
  have h2 := nz_pos h.right
  have : nz a * 1 ≤ nz a * nz b := Int.mul_le_mul_of_nonneg_left h2 (by omega)
  omega
theorem nz_right {a b : List Int} (h : NN (a ++ b)) : nz b ≤ nz (a ++ b) := by
  rw [nz_append]
  have h1 := nz_pos h.left
  have h2 := nz_pos h.right
  have : 1 * nz b ≤ nz a * nz b := Int.mul_le_mul_of_nonneg_right h1 (by omega)
  omega
theorem pr_nn {xs : List Int} (h : NN xs) : 0 ≤ pr xs := by
  induction xs with
  | nil => decide
  | cons x r ih => exact Int.mul_nonneg h.head (ih h.tail)
theorem pr_le_nz {xs : List Int} (h : NN xs) : pr xs ≤ nz xs := by
  induction xs with
  | nil => exact Int.le_refl _
  | cons x r ih =>
    have h1 := ih h.tail
    have h2 := h.head
    have h3 := nz_pos h.tail
    rw [pr, nz]
    split
    · rename_i e; rw [e, Int.zero_mul]; omega
    · exact Int.mul_le_mul_of_nonneg_left h1 h2
/-- Where no dimension is 0 the two products are one. -/
theorem pr_eq_nz {xs : List Int} (h : ∀ x ∈ xs, x ≠ 0) : pr xs = nz xs := by
  induction xs with
  | nil => rfl
  | cons x r ih => rw [pr, nz, if_neg (h x (by simp)), ih (fun y hy => h y (by simp [hy]))]

/-! ### Reading a list place by place -/
theorem split_at (xs : List Int) (k : Nat) (h : k < xs.length) : xs = xs.take k ++ xs[k] :: xs.drop (k + 1) := by
  rw [List.getElem_cons_drop, List.take_append_drop]
theorem take_snoc (xs : List Int) (k : Nat) (h : k < xs.length) : xs.take (k + 1) = xs.take k ++ [xs[k]] := by
  rw [List.take_succ_eq_append_getElem h]

/-! ### Validity, place by place -/
theorem right_len {xs : List Int} (h : 8 < xs.length) : rightB xs = false := by
  simp only [rightB, decide_eq_false_iff_not]; omega
theorem right_neg {xs : List Int} {k : Nat} (hk : k < xs.length) (h : xs[k] < 0) : rightB xs = false := by
  simp only [rightB, decide_eq_false_iff_not]
  rintro ⟨_, h2, _⟩
  have := h2 xs[k] (List.getElem_mem hk)
  omega
theorem right_big {xs : List Int} {k : Nat} (h : 65536 < nz (xs.take (k + 1))) : rightB xs = false := by
  simp only [rightB, decide_eq_false_iff_not]
  rintro ⟨_, h2, h3⟩
  have e : xs.take (k + 1) ++ xs.drop (k + 1) = xs := List.take_append_drop _ _
  have := nz_left (a := xs.take (k + 1)) (b := xs.drop (k + 1)) (by rw [e]; exact h2)
  rw [e] at this
  omega
theorem nz_step {xs : List Int} {k : Nat} (hk : k < xs.length) : nz (xs.take (k + 1)) = nz (xs.take k) * (if xs[k] = 0 then 1 else xs[k]) := by
  rw [take_snoc xs k hk, nz_append, nz, nz, Int.mul_one]
theorem right_huge {xs : List Int} {k : Nat} (hk : k < xs.length) (h : 65536 < xs[k]) : rightB xs = false := by
  simp only [rightB, decide_eq_false_iff_not]
  rintro ⟨_, h2, h3⟩
  have e := split_at xs k hk
  rw [e] at h2 h3
  have h4 := nz_right h2
  have h5 := nz_pos h2.right.tail
  rw [nz, if_neg (by omega)] at h4
  have : xs[k] * 1 ≤ xs[k] * nz (xs.drop (k + 1)) := Int.mul_le_mul_of_nonneg_left h5 (by omega)
  omega
theorem right_all {xs : List Int} (hl : xs.length ≤ 8) (h : NN xs) (h2 : nz xs ≤ 65536) : rightB xs = true := right_def.2 ⟨hl, h, h2⟩

/-- What a valid shape gives: each part of it has products of at most 65536. -/
theorem part_bd {a b : List Int} (h : rightB (a ++ b) = true) : 0 ≤ pr a ∧ pr a ≤ 65536 ∧ 0 ≤ pr b ∧ pr b ≤ 65536 := by
  obtain ⟨_, h2, h3⟩ := right_def.1 h
  have := pr_nn h2.left
  have := pr_nn h2.right
  have := pr_le_nz h2.left
  have := pr_le_nz h2.right
  have := nz_left h2
  have := nz_right h2
  omega
theorem dim_bd {xs : List Int} (h : rightB xs = true) {k : Nat} (hk : k < xs.length) : 0 ≤ xs[k] ∧ xs[k] ≤ 65536 := by
  have h' := right_def.1 h
  refine ⟨h'.2.1 _ (List.getElem_mem hk), ?_⟩
  rcases Int.lt_or_le 65536 xs[k] with hb | hb
  · rw [right_huge hk hb] at h; cases h
  · exact hb
end Go.Proofs.YtngcahaidlgkfaaDoor.Shape
