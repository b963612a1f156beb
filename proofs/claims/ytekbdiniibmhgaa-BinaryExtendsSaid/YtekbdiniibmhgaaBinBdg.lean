/-
  Layer 16: bounds; the elements that stand for a place.
-/
import Derived.Test.YtekbdiniibmhgaaBinAppg
namespace Go.Proofs.Ytekbdiniibmhgaa.Shape
open Go.RowKit
open Go.Proofs.Ytekbdiniibmhgaa.Shp (agB agL)
set_option linter.unusedVariables false
set_option linter.unusedSimpArgs false

theorem div_bd {a b : Int} (hb : 1 ≤ b) (h : -4611686018427387903 ≤ a ∧ a ≤ 4611686018427387903) : -4611686018427387903 ≤ a / b ∧ a / b ≤ 4611686018427387903 := by
  constructor
  · refine Int.le_ediv_of_mul_le (by omega) ?_
    omega
  · refine Int.ediv_le_of_le_mul (by omega) ?_
    omega
theorem nchk_bd (n : Int) : -4611686018427387903 ≤ (Num.chk n).1 ∧ (Num.chk n).1 ≤ 4611686018427387903 := by
  unfold Num.chk
  split
  · rename_i h; exact Num.fits_def.1 h
  · decide
theorem fl_bd {a b : Int} (hb : ¬ b = 0) (h : -4611686018427387903 ≤ a ∧ a ≤ 4611686018427387903) : -4611686018427387903 ≤ Num.fl a b ∧ Num.fl a b ≤ 4611686018427387903 := by
  unfold Num.fl
  split
  · exact div_bd (by omega) h
  · exact div_bd (by omega) (by omega)
theorem md_bd {a b : Int} (hb : ¬ b = 0) (h : -4611686018427387903 ≤ b ∧ b ≤ 4611686018427387903) : -4611686018427387903 ≤ Num.md a b ∧ Num.md a b ≤ 4611686018427387903 := by
  have m := Num.md_spec (a := a) hb
  rcases Int.lt_or_le 0 b with g | g
  · have := m.2.1 g; omega
  · have := m.2.2 (by omega); omega
theorem binV_bd {p x y : Int} (hx : -4611686018427387903 ≤ x ∧ x ≤ 4611686018427387903) (hy : -4611686018427387903 ≤ y ∧ y ≤ 4611686018427387903) : -4611686018427387903 ≤ (binV p x y).1 ∧ (binV p x y).1 ≤ 4611686018427387903 := by
  have t : ∀ b, -4611686018427387903 ≤ tru b ∧ tru b ≤ 4611686018427387903 := fun b => by cases b <;> decide
  have z : -4611686018427387903 ≤ (0 : Int) ∧ (0 : Int) ≤ 4611686018427387903 := by decide
  unfold binV
  by_cases p1 : p = 1
  · rw [if_pos p1]
    unfold Num.addS; split
    · exact nchk_bd _
    · exact z
  rw [if_neg p1]
  by_cases p2 : p = 2
  · rw [if_pos p2]
    unfold Num.subS; split
    · exact nchk_bd _
    · exact z
  rw [if_neg p2]
  by_cases p3 : p = 3
  · rw [if_pos p3]
    unfold Num.mulS; split
    · exact nchk_bd _
    · exact z
  rw [if_neg p3]
  by_cases p4 : p = 4
  · rw [if_pos p4]
    unfold Num.divS; split
    · split
      · exact z
      · rename_i h0; exact fl_bd h0 hx
    · exact z
  rw [if_neg p4]
  by_cases p5 : p = 5
  · rw [if_pos p5]
    unfold Num.modS; split
    · split
      · exact z
      · rename_i h0; exact md_bd h0 hy
    · exact z
  rw [if_neg p5]
  by_cases p6 : p = 6
  · rw [if_pos p6]
    unfold Num.powS; split
    · split
      · exact z
      · exact nchk_bd _
    · exact z
  rw [if_neg p6]
  by_cases p7 : p = 7
  · rw [if_pos p7]
    show _ ≤ (if x ≤ y then x else y) ∧ (if x ≤ y then x else y) ≤ _; split <;> assumption
  rw [if_neg p7]
  by_cases p8 : p = 8
  · rw [if_pos p8]
    show _ ≤ (if x ≤ y then y else x) ∧ (if x ≤ y then y else x) ≤ _; split <;> assumption
  rw [if_neg p8]
  by_cases p9 : p = 9
  · rw [if_pos p9]
    exact t _
  rw [if_neg p9]
  by_cases p10 : p = 10
  · rw [if_pos p10]
    exact t _
  rw [if_neg p10]
  by_cases p11 : p = 11
  · rw [if_pos p11]
    exact t _
  rw [if_neg p11]
  by_cases p12 : p = 12
  · rw [if_pos p12]
    exact t _
  rw [if_neg p12]
  by_cases p13 : p = 13
  · rw [if_pos p13]
    exact t _
  rw [if_neg p13]
  by_cases p14 : p = 14
  · rw [if_pos p14]
    exact t _
  rw [if_neg p14]
  by_cases pb : (bitB x && bitB y) = true
  · rw [if_pos pb]
    by_cases p15 : p = 15
    · rw [if_pos p15]
      show _ ≤ (if x ≤ y then x else y) ∧ (if x ≤ y then x else y) ≤ _; split <;> assumption
    · rw [if_neg p15]
      show _ ≤ (if x ≤ y then y else x) ∧ (if x ≤ y then y else x) ≤ _; split <;> assumption
  · rw [if_neg pb]
    exact z
theorem binE_bd (p kx ky x y : Int) : -4611686018427387903 ≤ (binE p kx ky x y).1 ∧ (binE p kx ky x y).1 ≤ 4611686018427387903 := by
  unfold binE
  show _ ≤ (if kx = ky then (binS p x y).1 else tru (decide (p = 12))) ∧ (if kx = ky then (binS p x y).1 else tru (decide (p = 12))) ≤ _
  split
  · unfold binS
    split
    · rename_i h
      simp only [Bool.and_eq_true] at h
      exact binV_bd (Num.fits_def.1 h.2.1) (Num.fits_def.1 h.2.2)
    · decide
  · unfold tru; split <;> decide
/-- Both shapes begin the agreed one. -/
theorem ag_pre {a b : List Int} (h : agB a b = true) : (agL a b).take a.length = a ∧ (agL a b).take b.length = b ∧ a.length ≤ (agL a b).length ∧ b.length ≤ (agL a b).length ∧ rightB (agL a b) = true := by
  have h0 := h
  unfold agB Shp.sameB at h
  simp only [Bool.and_eq_true, decide_eq_true_eq] at h
  obtain ⟨⟨ra, rb⟩, e⟩ := h
  by_cases hl : b.length ≤ a.length
  · rw [Shp.agL_left h0 hl]
    rw [Nat.min_eq_right hl, List.take_length] at e
    exact ⟨List.take_length, e, Nat.le_refl _, hl, ra⟩
  · rw [Shp.agL_right h0 hl]
    rw [Nat.min_eq_left (by omega), List.take_length] at e
    exact ⟨e.symm, List.take_length, by omega, Nat.le_refl _, rb⟩
theorem part_at {s a : List Int} {j : Nat} (hr : rightB s = true) (h : s.take a.length = a) (hj : (j : Int) < pr s) : 0 < pr (s.drop a.length) ∧ pr (s.drop a.length) ≤ 65536 ∧ ((j / (pr (s.drop a.length)).toNat : Nat) : Int) < pr a := by
  have e : pr s = pr a * pr (s.drop a.length) := by
    conv => lhs; rw [← List.take_append_drop a.length s, pr_append, h]
  have hs := (right_def.1 hr).2
  have nd : NN (s.drop a.length) := fun x hx => hs.1 x (List.mem_of_mem_drop hx)
  have na : NN a := fun x hx => hs.1 x (List.mem_of_mem_take (by rw [h]; exact hx))
  have p0 := pr_nn na
  have p1 := pr_nn nd
  have hd : 0 < pr (s.drop a.length) := by
    rcases Int.lt_or_le 0 (pr (s.drop a.length)) with g | g
    · exact g
    · rw [show pr (s.drop a.length) = 0 by omega, Int.mul_zero] at e
      omega
  have ha : 0 < pr a := by
    rcases Int.lt_or_le 0 (pr a) with g | g
    · exact g
    · rw [show pr a = 0 by omega, Int.zero_mul] at e
      omega
  have hb : pr s ≤ 65536 := Int.le_trans (pr_le_nz hs.1) hs.2
  refine ⟨hd, ?_, ?_⟩
  · have : 1 * pr (s.drop a.length) ≤ pr a * pr (s.drop a.length) := Int.mul_le_mul_of_nonneg_right (by omega) (by omega)
    omega
  · obtain ⟨d, hdn⟩ : ∃ d : Nat, pr (s.drop a.length) = d := ⟨(pr (s.drop a.length)).toNat, by omega⟩
    obtain ⟨m, hm⟩ : ∃ m : Nat, pr a = m := ⟨(pr a).toNat, by omega⟩
    rw [hdn, hm] at e
    rw [hdn, hm, Int.toNat_natCast]
    have h2 : j < m * d := by
      have : (j : Int) < ((m * d : Nat) : Int) := by rw [Int.natCast_mul, ← e]; exact hj
      omega
    have := Nat.div_lt_of_lt_mul (by rw [Nat.mul_comm]; exact h2 : j < d * m)
    omega
end Go.Proofs.Ytekbdiniibmhgaa.Shape
