/-
  Plain mathematics of shapes: validity, products, offsets, indices. Nothing of the program is named here.
  Layer 4: plain mathematics of padding. Nothing of the program is named here.
-/

namespace Go.Proofs.Ytkjbccodahleoaa.Shape

/-- The product of all dimensions, and of those other than 0. -/
def pr : List Int → Int
  | [] => 1
  | x :: r => x * pr r
def nz : List Int → Int
  | [] => 1
  | x :: r => (if x = 0 then 1 else x) * nz r
def NN (xs : List Int) : Prop := ∀ x ∈ xs, 0 ≤ x
instance (xs : List Int) : Decidable (NN xs) := inferInstanceAs (Decidable (∀ x ∈ xs, 0 ≤ x))

/-- Is xs a valid shape? -/
def rightB (xs : List Int) : Bool := decide (xs.length ≤ 8 ∧ NN xs ∧ nz xs ≤ 65536)
theorem right_def {xs : List Int} : rightB xs = true ↔ xs.length ≤ 8 ∧ NN xs ∧ nz xs ≤ 65536 := by simp [rightB]

theorem pr_append (a b : List Int) : pr (a ++ b) = pr a * pr b := by
  induction a with
  | nil => simp [pr]
  | cons x r ih => rw [List.cons_append, pr, pr, ih, Int.mul_assoc]
theorem nz_append (a b : List Int) : nz (a ++ b) = nz a * nz b := by
  induction a with
  | nil => simp [nz]
  | cons x r ih => rw [List.cons_append, nz, nz, ih, Int.mul_assoc]
theorem NN.nil : NN [] := fun _ h => absurd h (by simp)
theorem NN.left {a b : List Int} (h : NN (a ++ b)) : NN a := fun x hx => h x (List.mem_append_left _ hx)
theorem NN.right {a b : List Int} (h : NN (a ++ b)) : NN b := fun x hx => h x (List.mem_append_right _ hx)
theorem NN.head {x : Int} {r : List Int} (h : NN (x :: r)) : 0 ≤ x := h x (by simp)
theorem NN.tail {x : Int} {r : List Int} (h : NN (x :: r)) : NN r := fun y hy => h y (by simp [hy])
theorem NN.snoc {a : List Int} {x : Int} (h : NN a) (hx : 0 ≤ x) : NN (a ++ [x]) := by
  intro y hy
  rcases List.mem_append.1 hy with h1 | h1
  · exact h y h1
  · rw [List.mem_singleton.1 h1]; exact hx
theorem nz_pos {xs : List Int} (h : NN xs) : 1 ≤ nz xs := by
  induction xs with
  | nil => exact Int.le_refl _
  | cons x r ih =>
    have h1 := ih h.tail
    have h2 := h.head
    rw [nz]
    split
    · omega
    · have : 1 * 1 ≤ x * nz r := Int.mul_le_mul (by omega) h1 (by decide) (by omega)
      omega
theorem nz_left {a b : List Int} (h : NN (a ++ b)) : nz a ≤ nz (a ++ b) := by
  rw [nz_append]
  have h1 := nz_pos h.left
  have h2 := nz_pos h.right
  have : nz a * 1 ≤ nz a * nz b := Int.mul_le_mul_of_nonneg_left h2 (by omega)
  omega
theorem nz_right {a b : List Int} (h : NN (a ++ b)) : nz b ≤ nz (a ++ b) := by
  rw [nz_append]
  have h1 := nz_pos h.left
  have h2 := nz_pos h.right
  have : 1 * nz b ≤ nz a * nz b := Int.mul_le_mul_of_nonneg_right h1 (by omega)
  omega
theorem pr_nn {xs : List Int} (h : NN xs) : 0 ≤ pr xs := by
  induction xs with
  | nil => decide
  | cons x r ih => exact Int.mul_nonneg h.head (ih h.tail)
theorem pr_le_nz {xs : List Int} (h : NN xs) : pr xs ≤ nz xs := by
  induction xs with
  | nil => exact Int.le_refl _
  | cons x r ih =>
    have h1 := ih h.tail
    have h2 := h.head
    have h3 := nz_pos h.tail
    rw [pr, nz]
    split
    · rename_i e; rw [e, Int.zero_mul]; omega
    · exact Int.mul_le_mul_of_nonneg_left h1 h2
/-- Where no dimension is 0 the two products are one. -/
theorem pr_eq_nz {xs : List Int} (h : ∀ x ∈ xs, x ≠ 0) : pr xs = nz xs := by
  induction xs with
  | nil => rfl
  | cons x r ih => rw [pr, nz, if_neg (h x (by simp)), ih (fun y hy => h y (by simp [hy]))]

/-! ### Reading a list place by place -/
theorem split_at (xs : List Int) (k : Nat) (h : k < xs.length) : xs = xs.take k ++ xs[k] :: xs.drop (k + 1) := by
  rw [List.getElem_cons_drop, List.take_append_drop]
theorem take_snoc (xs : List Int) (k : Nat) (h : k < xs.length) : xs.take (k + 1) = xs.take k ++ [xs[k]] := by
  rw [List.take_succ_eq_append_getElem h]

/-! ### Validity, place by place -/
theorem right_len {xs : List Int} (h : 8 < xs.length) : rightB xs = false := by
  simp only [rightB, decide_eq_false_iff_not]; omega
theorem right_neg {xs : List Int} {k : Nat} (hk : k < xs.length) (h : xs[k] < 0) : rightB xs = false := by
  simp only [rightB, decide_eq_false_iff_not]
  rintro ⟨_, h2, _⟩
  have := h2 xs[k] (List.getElem_mem hk)
  omega
theorem right_big {xs : List Int} {k : Nat} (h : 65536 < nz (xs.take (k + 1))) : rightB xs = false := by
  simp only [rightB, decide_eq_false_iff_not]
  rintro ⟨_, h2, h3⟩
  have e : xs.take (k + 1) ++ xs.drop (k + 1) = xs := List.take_append_drop _ _
  have := nz_left (a := xs.take (k + 1)) (b := xs.drop (k + 1)) (by rw [e]; exact h2)
  rw [e] at this
  omega
theorem nz_step {xs : List Int} {k : Nat} (hk : k < xs.length) : nz (xs.take (k + 1)) = nz (xs.take k) * (if xs[k] = 0 then 1 else xs[k]) := by
  rw [take_snoc xs k hk, nz_append, nz, nz, Int.mul_one]
theorem right_huge {xs : List Int} {k : Nat} (hk : k < xs.length) (h : 65536 < xs[k]) : rightB xs = false := by
  simp only [rightB, decide_eq_false_iff_not]
  rintro ⟨_, h2, h3⟩
  have e := split_at xs k hk
  rw [e] at h2 h3
  have h4 := nz_right h2
  have h5 := nz_pos h2.right.tail
  rw [nz, if_neg (by omega)] at h4
  have : xs[k] * 1 ≤ xs[k] * nz (xs.drop (k + 1)) := Int.mul_le_mul_of_nonneg_left h5 (by omega)
  omega
theorem right_all {xs : List Int} (hl : xs.length ≤ 8) (h : NN xs) (h2 : nz xs ≤ 65536) : rightB xs = true := right_def.2 ⟨hl, h, h2⟩

/-- What a valid shape gives: each part of it has products of at most 65536. -/
theorem part_bd {a b : List Int} (h : rightB (a ++ b) = true) : 0 ≤ pr a ∧ pr a ≤ 65536 ∧ 0 ≤ pr b ∧ pr b ≤ 65536 := by
  obtain ⟨_, h2, h3⟩ := right_def.1 h
  have := pr_nn h2.left
  have := pr_nn h2.right
  have := pr_le_nz h2.left
  have := pr_le_nz h2.right
  have := nz_left h2
  have := nz_right h2
  omega
theorem dim_bd {xs : List Int} (h : rightB xs = true) {k : Nat} (hk : k < xs.length) : 0 ≤ xs[k] ∧ xs[k] ≤ 65536 := by
  have h' := right_def.1 h
  refine ⟨h'.2.1 _ (List.getElem_mem hk), ?_⟩
  rcases Int.lt_or_le 65536 xs[k] with hb | hb
  · rw [right_huge hk hb] at h; cases h
  · exact hb
end Go.Proofs.Ytkjbccodahleoaa.Shape

namespace Go.Proofs.Ytkjbccodahleoaa.Shape
set_option linter.unusedVariables false

/-- The number of elements of a shape. -/
def prN (xs : List Int) : Nat := (pr xs).toNat
theorem prN_nil : prN [] = 1 := rfl
theorem prN_cons {x : Int} {r : List Int} (hx : 0 ≤ x) (hr : NN r) : prN (x :: r) = x.toNat * prN r := by
  have := pr_nn hr
  unfold prN
  rw [pr, Int.toNat_mul hx this]
theorem prN_append {a b : List Int} (ha : NN a) (hb : NN b) : prN (a ++ b) = prN a * prN b := by
  unfold prN
  rw [pr_append, Int.toNat_mul (pr_nn ha) (pr_nn hb)]

/-- Element by element, along the axes: within the smaller shape the elements, elsewhere the fill. Both shapes have as many axes. -/
def padS {α : Type} (z : α) : List Int → List Int → List α → List α
  | [], _, els => els
  | _ :: _, [], _ => []
  | t :: ts, f :: fs, els => ((List.range t.toNat).map fun i => if i < f.toNat ∧ 0 < prN fs then padS z ts fs ((els.drop (i * prN fs)).take (prN fs)) else List.replicate (prN ts) z).flatten

theorem flatten_len {α : Type} (n m : Nat) (g : Nat → List α) (h : ∀ i, i < n → (g i).length = m) : (((List.range n).map g).flatten).length = n * m := by
  induction n with
  | zero => simp
  | succ n ih =>
    rw [List.range_succ, List.map_append, List.flatten_append, List.length_append, ih (fun i hi => h i (by omega)), Nat.succ_mul]
    simp [h n (by omega)]
theorem flatten_succ {α : Type} (n : Nat) (g : Nat → List α) : ((List.range (n + 1)).map g).flatten = ((List.range n).map g).flatten ++ g n := by
  rw [List.range_succ, List.map_append, List.flatten_append]
  simp
theorem flatten_congr {α : Type} (n : Nat) (g h : Nat → List α) (e : ∀ i, i < n → g i = h i) : ((List.range n).map g).flatten = ((List.range n).map h).flatten := by
  congr 1
  apply List.map_congr_left
  intro i hi
  exact e i (List.mem_range.1 hi)
theorem flatten_rep {α : Type} (n m : Nat) (z : α) : ((List.range n).map fun _ => List.replicate m z).flatten = List.replicate (n * m) z := by
  induction n with
  | zero => simp
  | succ n ih =>
    rw [flatten_succ, ih, List.replicate_append_replicate, Nat.succ_mul]
/-- All the blocks of a list, one behind the other, are the list. -/
theorem flatten_blocks {α : Type} (n m : Nat) (l : List α) (h : l.length = n * m) : ((List.range n).map fun i => (l.drop (i * m)).take m).flatten = l := by
  have key : ∀ k, k ≤ n → ((List.range k).map fun i => (l.drop (i * m)).take m).flatten = l.take (k * m) := by
    intro k
    induction k with
    | zero => intro _; simp
    | succ k ih =>
      intro hk
      rw [flatten_succ, ih (by omega), Nat.succ_mul, List.take_add]
  rw [key n (Nat.le_refl _), ← h, List.take_length]
theorem block_len {α : Type} (l : List α) (i n m : Nat) (h : l.length = n * m) (hi : i < n) : ((l.drop (i * m)).take m).length = m := by
  have : (i + 1) * m ≤ n * m := Nat.mul_le_mul_right _ hi
  rw [Nat.succ_mul] at this
  rw [List.length_take, List.length_drop]
  omega

theorem padS_len {α : Type} (z : α) : ∀ (ts fs : List Int) (els : List α), ts.length = fs.length → NN ts → NN fs → els.length = prN fs → (padS z ts fs els).length = prN ts
  | [], [], els, _, _, _, h => by rw [padS, h]
  | [], _ :: _, _, h, _, _, _ => by simp at h
  | _ :: _, [], _, h, _, _, _ => by simp at h
  | t :: ts, f :: fs, els, hl, ht, hf, he => by
    rw [prN_cons ht.head ht.tail]
    rw [prN_cons hf.head hf.tail] at he
    rw [padS]
    refine flatten_len _ _ _ fun i hi => ?_
    split
    · rename_i h
      exact padS_len z ts fs _ (by simpa using hl) ht.tail hf.tail (block_len _ _ _ _ he h.1)
    · simp
/-- No elements: all is fill. -/
theorem padS_none {α : Type} (z : α) (ts fs : List Int) (els : List α) (hl : ts.length = fs.length) (ht : NN ts) (hf : NN fs) (h0 : prN fs = 0) : padS z ts fs els = List.replicate (prN ts) z := by
  cases ts with
  | nil =>
    cases fs with
    | nil => simp [prN, pr] at h0
    | cons _ _ => simp at hl
  | cons t ts =>
    cases fs with
    | nil => simp at hl
    | cons f fs =>
      rw [prN_cons hf.head hf.tail] at h0
      rw [padS, prN_cons ht.head ht.tail]
      rw [← flatten_rep]
      refine flatten_congr _ _ _ fun i hi => ?_
      rw [if_neg]
      rintro ⟨h1, h2⟩
      have : 0 < f.toNat * prN fs := Nat.mul_pos (by omega) h2
      omega
theorem padS_mem {α : Type} (z : α) : ∀ (ts fs : List Int) (els : List α), ∀ x ∈ padS z ts fs els, x = z ∨ x ∈ els
  | [], _, els, x, h => by rw [padS] at h; exact Or.inr h
  | _ :: _, [], els, x, h => by rw [padS] at h; simp at h
  | t :: ts, f :: fs, els, x, h => by
    rw [padS, List.mem_flatten] at h
    obtain ⟨l, hl, hx⟩ := h
    obtain ⟨i, -, rfl⟩ := List.mem_map.1 hl
    split at hx
    · rcases padS_mem z ts fs _ x hx with h1 | h1
      · exact Or.inl h1
      · exact Or.inr (List.mem_of_mem_drop (List.mem_of_mem_take h1))
    · exact Or.inl (List.mem_replicate.1 hx).2
theorem padS_map {α β : Type} (g : α → β) (z : α) : ∀ (ts fs : List Int) (els : List α), padS (g z) ts fs (els.map g) = (padS z ts fs els).map g
  | [], _, els => by rw [padS, padS]
  | _ :: _, [], els => by rw [padS, padS]; rfl
  | t :: ts, f :: fs, els => by
    rw [padS, padS, List.map_flatten, List.map_map]
    refine flatten_congr _ _ _ fun i _ => ?_
    rw [Function.comp_apply]
    split
    · rw [← padS_map g z ts fs, List.map_take, List.map_drop]
    · rw [List.map_replicate]

/-- The smaller shape fits: on each axis it is no longer. -/
def fits : List Int → List Int → Prop
  | [], [] => True
  | t :: ts, f :: fs => f ≤ t ∧ fits ts fs
  | _, _ => False
theorem fits_len : ∀ {ts fs : List Int}, fits ts fs → ts.length = fs.length
  | [], [], _ => rfl
  | _ :: _, _ :: _, h => by simp [fits_len h.2]
  | [], _ :: _, h => by simp [fits] at h
  | _ :: _, [], h => by simp [fits] at h
/-- To its own shape: nothing is turned. -/
theorem padS_self {α : Type} (z : α) : ∀ (ts : List Int) (els : List α), NN ts → els.length = prN ts → padS z ts ts els = els
  | [], els, _, _ => by rw [padS]
  | t :: ts, els, ht, he => by
    rw [prN_cons ht.head ht.tail] at he
    rw [padS]
    conv => rhs; rw [← flatten_blocks _ _ els he]
    refine flatten_congr _ _ _ fun i hi => ?_
    by_cases h0 : 0 < prN ts
    · rw [if_pos ⟨hi, h0⟩, padS_self z ts _ ht.tail (block_len _ _ _ _ he hi)]
    · rw [if_neg (fun g => h0 g.2)]
      have : prN ts = 0 := by omega
      rw [this]; simp

/-- Leading axes of length 1, up to n axes. -/
def leadS (s : List Int) (n : Nat) : List Int := List.replicate (n - s.length) 1 ++ s
theorem leadS_len {s : List Int} {n : Nat} (h : s.length ≤ n) : (leadS s n).length = n := by
  simp [leadS]; omega
theorem leadS_full {s : List Int} {n : Nat} (h : n ≤ s.length) : leadS s n = s := by
  simp [leadS, Nat.sub_eq_zero_of_le h]
theorem leadS_step {s : List Int} {n : Nat} (h : s.length < n + 1) : leadS s (n + 1) = 1 :: leadS s n := by
  simp only [leadS]
  rw [show n + 1 - s.length = (n - s.length) + 1 by omega, List.replicate_succ]; rfl
theorem NN_rep (n : Nat) : NN (List.replicate n 1) := fun x hx => by rw [(List.mem_replicate.1 hx).2]; decide
theorem pr_rep (n : Nat) : pr (List.replicate n 1) = 1 := by
  induction n with
  | zero => rfl
  | succ n ih => rw [List.replicate_succ, pr, ih]; rfl
theorem NN.append {a b : List Int} (ha : NN a) (hb : NN b) : NN (a ++ b) := fun x hx => by
  rcases List.mem_append.1 hx with h | h
  · exact ha x h
  · exact hb x h
theorem leadS_NN {s : List Int} {n : Nat} (h : NN s) : NN (leadS s n) := (NN_rep _).append h
theorem leadS_prN {s : List Int} {n : Nat} (h : NN s) : prN (leadS s n) = prN s := by
  unfold prN leadS
  rw [pr_append, pr_rep, Int.one_mul]

/-- Block i of the size m. -/
def blk {α : Type} (l : List α) (i m : Nat) : List α := (l.drop (i * m)).take m
theorem blk_len {α : Type} {l : List α} {i m : Nat} (h : (i + 1) * m ≤ l.length) : (blk l i m).length = m := by
  rw [Nat.succ_mul] at h
  rw [blk, List.length_take, List.length_drop]; omega
theorem blk_map {α β : Type} (g : α → β) (l : List α) (i m : Nat) : blk (l.map g) i m = (blk l i m).map g := by
  rw [blk, blk, List.map_take, List.map_drop]
theorem blk_mem {α : Type} {l : List α} {i m : Nat} {x : α} (h : x ∈ blk l i m) : x ∈ l := List.mem_of_mem_drop (List.mem_of_mem_take h)
theorem blk_rep {α : Type} (z : α) (n i m : Nat) (h : (i + 1) * m ≤ n) : blk (List.replicate n z) i m = List.replicate m z := by
  rw [Nat.succ_mul] at h
  rw [blk, List.drop_replicate, List.take_replicate, Nat.min_eq_left (by omega)]
theorem blks_take {α : Type} (l : List α) (m : Nat) : ∀ k, ((List.range k).map fun i => blk l i m).flatten = l.take (k * m)
  | 0 => by simp
  | k + 1 => by rw [flatten_succ, blks_take l m k, Nat.succ_mul, List.take_add, blk]
theorem blks_mid {α : Type} (l : List α) (m : Nat) (g : Nat → List α) (a : Nat) (hg : ∀ i, a ≤ i → g i = blk l i m) : ∀ k, ((List.range (a + k)).map g).flatten = ((List.range a).map g).flatten ++ (l.drop (a * m)).take (k * m)
  | 0 => by simp
  | k + 1 => by
    rw [← Nat.add_assoc, flatten_succ, blks_mid l m g a hg k, hg (a + k) (by omega), List.append_assoc, Nat.succ_mul, List.take_add, blk, List.drop_drop, Nat.add_mul]
/-- Element by element, over what stands there: within the smaller shape the elements, elsewhere what stood there. -/
def padT {α : Type} : List Int → List Int → List α → List α → List α
  | [], _, els, _ => els
  | _ :: _, [], _, tgt => tgt
  | t :: ts, f :: fs, els, tgt => ((List.range t.toNat).map fun i => if i < f.toNat ∧ 0 < prN fs then padT ts fs (blk els i (prN fs)) (blk tgt i (prN ts)) else blk tgt i (prN ts)).flatten
theorem padT_len {α : Type} : ∀ (ts fs : List Int) (els tgt : List α), ts.length = fs.length → NN ts → NN fs → els.length = prN fs → tgt.length = prN ts → (padT ts fs els tgt).length = prN ts
  | [], [], els, _, _, _, _, h, _ => by rw [padT, h]
  | [], _ :: _, _, _, h, _, _, _, _ => by simp at h
  | _ :: _, [], _, _, h, _, _, _, _ => by simp at h
  | t :: ts, f :: fs, els, tgt, hl, ht, hf, he, hg => by
    rw [prN_cons ht.head ht.tail] at hg ⊢
    rw [prN_cons hf.head hf.tail] at he
    rw [padT]
    refine flatten_len _ _ _ fun i hi => ?_
    have h1 := blk_len (l := tgt) (i := i) (m := prN ts) (by rw [hg]; exact Nat.mul_le_mul_right _ hi)
    split
    · rename_i h
      exact padT_len ts fs _ _ (by simpa using hl) ht.tail hf.tail (blk_len (by rw [he]; exact Nat.mul_le_mul_right _ h.1)) h1
    · exact h1
theorem padT_none {α : Type} (ts fs : List Int) (els tgt : List α) (hl : ts.length = fs.length) (ht : NN ts) (hf : NN fs) (hg : tgt.length = prN ts) (h0 : prN fs = 0) : padT ts fs els tgt = tgt := by
  cases ts with
  | nil =>
    cases fs with
    | nil => simp [prN, pr] at h0
    | cons _ _ => simp at hl
  | cons t ts =>
    cases fs with
    | nil => simp at hl
    | cons f fs =>
      rw [prN_cons hf.head hf.tail] at h0
      rw [prN_cons ht.head ht.tail] at hg
      rw [padT]
      have e : ((List.range t.toNat).map fun i => if i < f.toNat ∧ 0 < prN fs then padT ts fs (blk els i (prN fs)) (blk tgt i (prN ts)) else blk tgt i (prN ts)).flatten = ((List.range t.toNat).map fun i => blk tgt i (prN ts)).flatten := by
        refine flatten_congr _ _ _ fun i hi => ?_
        rw [if_neg]
        rintro ⟨h1, h2⟩
        have : 0 < f.toNat * prN fs := Nat.mul_pos (by omega) h2
        omega
      rw [e, blks_take, ← hg, List.take_length]
theorem padT_mem {α : Type} : ∀ (ts fs : List Int) (els tgt : List α), ∀ x ∈ padT ts fs els tgt, x ∈ tgt ∨ x ∈ els
  | [], _, els, tgt, x, h => by rw [padT] at h; exact Or.inr h
  | _ :: _, [], els, tgt, x, h => by rw [padT] at h; exact Or.inl h
  | t :: ts, f :: fs, els, tgt, x, h => by
    rw [padT, List.mem_flatten] at h
    obtain ⟨l, hl, hx⟩ := h
    obtain ⟨i, -, rfl⟩ := List.mem_map.1 hl
    split at hx
    · rcases padT_mem ts fs _ _ x hx with h1 | h1
      · exact Or.inl (blk_mem h1)
      · exact Or.inr (blk_mem h1)
    · exact Or.inl (blk_mem hx)
theorem padT_map {α β : Type} (g : α → β) : ∀ (ts fs : List Int) (els tgt : List α), padT ts fs (els.map g) (tgt.map g) = (padT ts fs els tgt).map g
  | [], _, els, _ => by rw [padT, padT]
  | _ :: _, [], els, _ => by rw [padT, padT]
  | t :: ts, f :: fs, els, tgt => by
    rw [padT, padT, List.map_flatten, List.map_map]
    refine flatten_congr _ _ _ fun i _ => ?_
    rw [Function.comp_apply, blk_map, blk_map]
    split
    · rw [padT_map g ts fs]
    · rfl
theorem padT_rep {α : Type} (z : α) : ∀ (ts fs : List Int) (els : List α), ts.length = fs.length → NN ts → padT ts fs els (List.replicate (prN ts) z) = padS z ts fs els
  | [], _, els, _, _ => by rw [padT, padS]
  | _ :: _, [], _, h, _ => by simp at h
  | t :: ts, f :: fs, els, hl, ht => by
    rw [padT, padS, prN_cons ht.head ht.tail]
    refine flatten_congr _ _ _ fun i hi => ?_
    rw [blk_rep z _ i _ (Nat.mul_le_mul_right _ hi)]
    split
    · rw [padT_rep z ts fs _ (by simpa using hl) ht.tail]; rfl
    · rfl
/-- One axis: the elements, and then what stood there. -/
theorem padT_one {α : Type} (t f : Int) (els tgt : List α) (hf : 0 ≤ f) (hft : f ≤ t) (he : els.length = f.toNat) (hg : tgt.length = t.toNat) : padT [t] [f] els tgt = els ++ tgt.drop f.toNat := by
  rw [padT]
  have e : t.toNat = f.toNat + (t.toNat - f.toNat) := by omega
  conv => lhs; rw [e]
  rw [blks_mid tgt 1 _ f.toNat (fun i hi => by rw [if_neg (by omega)]; rfl)]
  congr 1
  · conv => rhs; rw [← flatten_blocks f.toNat 1 els (by omega)]
    refine flatten_congr _ _ _ fun i hi => ?_
    rw [if_pos ⟨hi, by decide⟩, padT, prN_nil]; rfl
  · rw [Nat.mul_one, Nat.mul_one, List.take_of_length_le (by rw [List.length_drop]; omega)]
/-- A leading axis of length 1: the first block is turned alone. -/
theorem padT_lead {α : Type} (t : Int) (ts fs : List Int) (els tgt : List α) (ht : 1 ≤ t) (he : els.length = prN fs) (h0 : 0 < prN fs) (hg : tgt.length = t.toNat * prN ts) : padT (t :: ts) (1 :: fs) els tgt = padT ts fs els (tgt.take (prN ts)) ++ tgt.drop (prN ts) := by
  rw [padT]
  have e : t.toNat = 1 + (t.toNat - 1) := by omega
  conv => lhs; rw [e]
  rw [blks_mid tgt (prN ts) _ 1 (fun i hi => by rw [if_neg (by simp; omega)])]
  congr 1
  · rw [flatten_succ, if_pos ⟨by decide, h0⟩]
    simp [blk, ← he]
  · rw [Nat.one_mul, List.take_of_length_le]
    rw [List.length_drop, hg, Nat.sub_mul, Nat.one_mul]; exact Nat.le_refl _
/-- The first j blocks done, the others as they were. -/
def padJ {α : Type} (ts fs : List Int) (els tgt : List α) (j : Nat) : List α :=
  ((List.range j).map fun i => padT ts fs (blk els i (prN fs)) (blk tgt i (prN ts))).flatten ++ tgt.drop (j * prN ts)
theorem padJ_end {α : Type} (t f : Int) (ts fs : List Int) (els tgt : List α) (hf : 0 ≤ f) (hft : f ≤ t) (h0 : 0 < prN fs) (hg : tgt.length = t.toNat * prN ts) : padT (t :: ts) (f :: fs) els tgt = padJ ts fs els tgt f.toNat := by
  rw [padT, padJ]
  have e : t.toNat = f.toNat + (t.toNat - f.toNat) := by omega
  conv => lhs; rw [e]
  rw [blks_mid tgt (prN ts) _ f.toNat (fun i hi => by rw [if_neg (by omega)])]
  congr 1
  · refine flatten_congr _ _ _ fun i hi => ?_
    rw [if_pos ⟨hi, h0⟩]
  · rw [List.take_of_length_le]
    rw [List.length_drop, hg, Nat.sub_mul]; exact Nat.le_refl _
end Go.Proofs.Ytkjbccodahleoaa.Shape
