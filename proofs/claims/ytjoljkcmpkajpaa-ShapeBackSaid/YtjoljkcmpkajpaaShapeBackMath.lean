/-
  Layer 2: offsets and indices are inverse to each other, and equally ordered.
-/
import Derived.Test.YtjoljkcmpkajpaaShapeLawMath
namespace Go.Proofs.Ytjoljkcmpkajpaa.Shape

theorem pos_of_lt {x P o : Int} (hP : 0 ≤ P) (h0 : 0 ≤ o) (h : o < x * P) : 1 ≤ P := by
  rcases Int.lt_or_le 0 P with h1 | h1
  · omega
  · have : P = 0 := by omega
    rw [this, Int.mul_zero] at h; omega
theorem ofs_idx (xs : List Int) : ∀ (n o : Int), NN xs → 0 ≤ o → o < pr xs → ofsGo n xs (idxGo xs o) = some (n * pr xs + o) := by
  induction xs with
  | nil => intro n o _ h0 h1; have : o = 0 := by simp only [pr] at h1; omega
           subst this; simp [idxGo, ofsGo, pr]
  | cons x r ih =>
    intro n o hn h0 h1
    rw [pr] at h1
    have hP := pos_of_lt (pr_nn hn.tail) h0 h1
    have d := Int.mul_ediv_add_emod o (pr r)
    rw [idxGo, ofsGo, if_pos ⟨Int.ediv_nonneg h0 (by omega), Int.ediv_lt_of_lt_mul (by omega) h1⟩, ih _ _ hn.tail (Int.emod_nonneg _ (by omega)) (Int.emod_lt_of_pos _ (by omega)), pr]
    congr 1
    rw [Int.add_mul, Int.mul_assoc, Int.mul_comm (o / pr r)]
    omega
theorem off_idx {xs : List Int} {o : Int} (hr : rightB xs = true) (h0 : 0 ≤ o) (h1 : o < pr xs) : offS xs (idxL xs o) = (o, true) := by
  have hb : idxB xs o = true := by rw [idxB, hr]; simp; omega
  rw [idxL_yes hb, offS, if_pos hr, ofs_idx xs 0 o (right_def.1 hr).2.1 h0 h1, Int.zero_mul, Int.zero_add]; rfl
theorem idx_len (xs : List Int) : ∀ o, (idxGo xs o).length = xs.length := by
  induction xs with
  | nil => intro _; rfl
  | cons x r ih => intro o; rw [idxGo, List.length_cons, List.length_cons, ih]

/-- The first place at which two lists differ is K, and there the first one is smaller. -/
def Lex (l m : List Int) (K : Nat) : Prop := ∃ (h1 : K < l.length) (h2 : K < m.length), l[K] < m[K] ∧ ∀ j (g1 : j < l.length) (g2 : j < m.length), j < K → l[j] = m[j]
theorem idx_lex (xs : List Int) : ∀ (o p : Int), NN xs → 0 ≤ o → o < p → p < pr xs → ∃ K, Lex (idxGo xs o) (idxGo xs p) K := by
  induction xs with
  | nil => intro o p _ h0 h1 h2; simp only [pr] at h2; omega
  | cons x r ih =>
    intro o p hn h0 h1 h2
    rw [pr] at h2
    have hP := pos_of_lt (pr_nn hn.tail) (by omega : 0 ≤ p) h2
    have d1 := Int.mul_ediv_add_emod o (pr r)
    have d2 := Int.mul_ediv_add_emod p (pr r)
    by_cases e : o / pr r = p / pr r
    · rw [e] at d1
      obtain ⟨K, g1, g2, g3, g4⟩ := ih (o % pr r) (p % pr r) hn.tail (Int.emod_nonneg _ (by omega)) (by omega) (Int.emod_lt_of_pos _ (by omega))
      refine ⟨K + 1, by rw [idxGo, List.length_cons]; omega, by rw [idxGo, List.length_cons]; omega, ?_, ?_⟩
      · simpa [idxGo] using g3
      · intro j j1 j2 hj
        cases j with
        | zero => simp [idxGo, e]
        | succ j =>
          simp only [idxGo, List.length_cons] at j1 j2
          simpa [idxGo] using g4 j (by omega) (by omega) (by omega)
    · have hle : o / pr r ≤ p / pr r := Int.ediv_le_ediv (by omega) (by omega)
      refine ⟨0, by simp [idxGo], by simp [idxGo], ?_, fun j _ _ hj => absurd hj (Nat.not_lt_zero _)⟩
      simp only [idxGo, List.getElem_cons_zero]
      omega
theorem idxL_lex {xs : List Int} {o : Int} (hr : rightB xs = true) (h0 : 0 ≤ o) (h1 : o + 1 < pr xs) : ∃ K, Lex (idxL xs o) (idxL xs (o + 1)) K := by
  have hb : idxB xs o = true := by rw [idxB, hr]; simp; omega
  have hb2 : idxB xs (o + 1) = true := by rw [idxB, hr]; simp; omega
  rw [idxL_yes hb, idxL_yes hb2]
  exact idx_lex xs o (o + 1) (right_def.1 hr).2.1 h0 (by omega) h1
end Go.Proofs.Ytjoljkcmpkajpaa.Shape
