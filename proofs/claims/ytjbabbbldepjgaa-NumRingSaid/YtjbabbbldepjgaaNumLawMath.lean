/-
  Plain mathematics that the laws without a reference say: rings, powers, quotients.
-/
import Derived.Test.YtjbabbbldepjgaaNumPowMath
namespace Go.Proofs.Ytjbabbbldepjgaa.Num

theorem chk_or (n : Int) : (chk n = (n, 0) ∧ fitsB n = true) ∨ (∃ k, chk n = (0, k) ∧ (k == 0) = false) := by
  by_cases h : fitsB n = true
  · exact Or.inl ⟨chk_yes h, h⟩
  · exact Or.inr ⟨19, chk_no (by simpa using h), by decide⟩
theorem both_and {a b : Int} (h : bothB a b = true) : fitsB a = true ∧ fitsB b = true := by simpa [bothB] using h
theorem add_or (a b : Int) : (addS a b = (a + b, 0) ∧ fitsB a = true ∧ fitsB b = true ∧ fitsB (a + b) = true) ∨ (∃ k, addS a b = (0, k) ∧ (k == 0) = false) := by
  by_cases h : bothB a b = true
  · rw [addS_yes h]
    rcases chk_or (a + b) with hc | hc
    · exact Or.inl ⟨hc.1, (both_and h).1, (both_and h).2, hc.2⟩
    · exact Or.inr hc
  · exact Or.inr ⟨1, addS_no (by simpa using h), by decide⟩
theorem mul_or (a b : Int) : (mulS a b = (a * b, 0) ∧ fitsB a = true ∧ fitsB b = true ∧ fitsB (a * b) = true) ∨ (∃ k, mulS a b = (0, k) ∧ (k == 0) = false) := by
  by_cases h : bothB a b = true
  · rw [mulS_yes h]
    rcases chk_or (a * b) with hc | hc
    · exact Or.inl ⟨hc.1, (both_and h).1, (both_and h).2, hc.2⟩
    · exact Or.inr hc
  · exact Or.inr ⟨1, mulS_no (by simpa using h), by decide⟩
theorem pow_or (a b : Int) : (powS a b = (a ^ b.toNat, 0) ∧ 0 ≤ b ∧ fitsB (a ^ b.toNat) = true) ∨ (∃ k, powS a b = (0, k) ∧ (k == 0) = false) := by
  by_cases h : bothB a b = true
  · by_cases h0 : b < 0
    · exact Or.inr ⟨17, powS_neg h h0, by decide⟩
    · rw [powS_yes h (by omega)]
      rcases chk_or (a ^ b.toNat) with hc | hc
      · exact Or.inl ⟨hc.1, by omega, hc.2⟩
      · exact Or.inr hc
  · exact Or.inr ⟨1, powS_no (by simpa using h), by decide⟩
theorem both_comm (a b : Int) : bothB a b = bothB b a := by simp [bothB, Bool.and_comm]
theorem add_comm (a b : Int) : addS b a = addS a b := by unfold addS; rw [both_comm b a, Int.add_comm b a]
theorem mul_comm (a b : Int) : mulS b a = mulS a b := by unfold mulS; rw [both_comm b a, Int.mul_comm b a]
theorem sub_back {a b : Int} (ha : fitsB a = true) (hb : fitsB b = true) (h : fitsB (a + b) = true) : subS (a + b) b = (a, 0) := by
  rw [subS_yes (both_mk h hb), show a + b - b = a by omega, chk_yes ha]
theorem add_assoc {a b c : Int} (ha : fitsB a = true) (hc : fitsB c = true) (h : fitsB (a + b) = true) (k : fitsB (b + c) = true) : addS a (b + c) = addS (a + b) c := by
  rw [addS_yes (both_mk ha k), addS_yes (both_mk h hc), Int.add_assoc]
theorem mul_dist {a b c : Int} (ha : fitsB a = true) (h : fitsB (b + c) = true) (h1 : fitsB (a * b) = true) (h2 : fitsB (a * c) = true) : addS (a * b) (a * c) = mulS a (b + c) := by
  rw [addS_yes (both_mk h1 h2), mulS_yes (both_mk ha h), Int.mul_add]
theorem pow_sum {a b c : Int} (hb : 0 ≤ b) (hc : 0 ≤ c) (h1 : fitsB (a ^ b.toNat) = true) (h2 : fitsB (a ^ c.toNat) = true) (h3 : fitsB (a ^ (b + c).toNat) = true) :
    mulS (a ^ b.toNat) (a ^ c.toNat) = (a ^ (b + c).toNat, 0) := by
  have e : a ^ b.toNat * a ^ c.toNat = a ^ (b + c).toNat := by rw [← Int.pow_add, show (b + c).toNat = b.toNat + c.toNat by omega]
  rw [mulS_yes (both_mk h1 h2), e, chk_yes h3]
end Go.Proofs.Ytjbabbbldepjgaa.Num
