/-
  Layer 1: Mul of the program and of the reference.
-/
import Derived.Test.YtjbabbbldepjgaaNumLeaf
namespace Go.Proofs.Ytjbabbbldepjgaa.Num
open Go.RowKit

theorem wrap_quo (q : Int) (b : Int) (hb : -4611686018427387903 ≤ b ∧ b ≤ 4611686018427387903) (hq : -9223372036854775808 ≤ q ∧ q ≤ 9223372036854775808) : wrap64 q = b ↔ q = b := by
  unfold wrap64; omega

/-- The product fits into an int: dividing it by a gives b. -/
theorem mul_in {a b : Int} (h : bothB a b = true) (h0 : ¬ a = 0) (hp : -9223372036854775808 ≤ a * b ∧ a * b ≤ 9223372036854775807) : wrap64 (a * b) = a * b ∧ wrap64 ((a * b).tdiv a) = b := by
  obtain ⟨ha, hb⟩ := both_def.1 h
  refine ⟨IntWalk.wrap64_in _ hp, ?_⟩
  rw [Int.mul_tdiv_cancel_left _ h0]
  exact IntWalk.wrap64_in _ (by omega)

/-- The product does not: dividing what is left of it by a gives another number. -/
theorem mul_out {a b : Int} (h : bothB a b = true) (h0 : ¬ a = 0) (hp : ¬ (-9223372036854775808 ≤ a * b ∧ a * b ≤ 9223372036854775807)) : ¬ wrap64 ((wrap64 (a * b)).tdiv a) = b := by
  obtain ⟨ha, hb⟩ := both_def.1 h
  have hW : -9223372036854775808 ≤ wrap64 (a * b) ∧ wrap64 (a * b) ≤ 9223372036854775807 ∧ ∃ k : Int, wrap64 (a * b) = a * b - k * 18446744073709551616 ∧ k ≠ 0 := by
    generalize a * b = P at hp
    unfold wrap64
    refine ⟨by omega, by omega, (P + 9223372036854775808) / 18446744073709551616, by omega, by omega⟩
  obtain ⟨h1, h2, k, hk, hk0⟩ := hW
  generalize wrap64 (a * b) = W at *
  have hq := tdiv_abs_le W a
  rw [wrap_quo _ _ hb (by omega)]
  intro e
  have ed := Int.mul_tdiv_add_tmod W a
  have el := tmod_abs_lt W a h0
  rw [e] at ed
  omega

theorem fits_int {n : Int} (h : fitsB n = true) : -9223372036854775808 ≤ n ∧ n ≤ 9223372036854775807 := by
  have := fits_def.1 h; omega

theorem mulP (a b : Int) (w : World) :
    Calls Try.prog 14 #[.int .i64 a, .int .i64 b] w fun e w' => e = .returned (.tuple #[.int .i64 (mulS a b).1, .int .i64 (mulS a b).2]) ∧ w = w' := by
  by_cases h : bothB a b = true
  · obtain ⟨⟨ha1, ha2⟩, hb1, hb2⟩ := both_def.1 h
    have em := mulS_yes h
    by_cases h0 : a = 0
    · subst h0
      rw [Int.zero_mul] at em
      clear ha1 ha2
      go_enter Try.func14, Try.ntmps14
      go_wp2_with (first | (go_at_call 29; refine (bothP _ _ _).mono ?_; rintro e w' ⟨rfl, rfl⟩) | (go_at_call 30; refine (checkedP _ _).mono ?_; rintro e w' ⟨rfl, rfl⟩))
      go_ret2
      exact ⟨pair_eq em, rfl⟩
    · have hz : (a != 0) = true := by simpa using h0
      by_cases hp : -9223372036854775808 ≤ a * b ∧ a * b ≤ 9223372036854775807
      · obtain ⟨hw, hq⟩ := mul_in h h0 hp
        have hn : (wrap64 ((a * b).tdiv a) != b) = false := by rw [hq]; simp
        clear hq hp
        go_enter Try.func14, Try.ntmps14
        go_wp2_with (first | (go_at_call 29; refine (bothP _ _ _).mono ?_; rintro e w' ⟨rfl, rfl⟩) | (go_at_call 30; refine (checkedP _ _).mono ?_; rintro e w' ⟨rfl, rfl⟩))
        go_ret2
        exact ⟨pair_eq em, rfl⟩
      · have hq := mul_out h h0 hp
        have hn : (wrap64 ((wrap64 (a * b)).tdiv a) != b) = true := by simpa using hq
        have hf : fitsB (a * b) = false := by
          cases hf : fitsB (a * b)
          · rfl
          · exact absurd (fits_int hf) hp
        rw [chk_no hf] at em
        clear hq hp hf
        go_enter Try.func14, Try.ntmps14
        go_wp2_with (go_at_call 29; refine (bothP _ _ _).mono ?_; rintro e w' ⟨rfl, rfl⟩)
        go_ret2
        exact ⟨pair_mk em, rfl⟩
  · have h' : bothB a b = false := by simpa using h
    go_enter Try.func14, Try.ntmps14
    go_wp2_with (go_at_call 29; refine (bothP _ _ _).mono ?_; rintro e w' ⟨rfl, rfl⟩)
    go_ret2
    exact ⟨pair_mk (mulS_no h'), rfl⟩

theorem abs_natAbs (a : Int) : absI a = a.natAbs := by unfold absI; omega
/-- The reference asks before it multiplies. -/
theorem mul_asks {a b : Int} (h0 : ¬ a = 0) : (4611686018427387903 / absI a < absI b) ↔ fitsB (a * b) = false := by
  have e : fitsB (a * b) = false ↔ 4611686018427387903 < absI a * absI b := by
    rw [abs_natAbs, abs_natAbs, ← Int.natCast_mul, ← Int.natAbs_mul]
    simp only [fitsB, decide_eq_false_iff_not]; omega
  rw [e]
  have hp : 0 < absI a := by rw [abs_natAbs]; omega
  rw [Int.ediv_lt_iff_lt_mul hp, Int.mul_comm]

theorem mulR (a b : Int) (w : World) :
    Calls Try.prog 15 #[.int .i64 a, .int .i64 b] w fun e w' => e = .returned (.tuple #[.int .i64 (mulS a b).1, .int .i64 (mulS a b).2]) ∧ w = w' := by
  by_cases h : bothB a b = true
  · obtain ⟨⟨ha1, ha2⟩, hb1, hb2⟩ := both_def.1 h
    have em := mulS_yes h
    by_cases h0 : a = 0
    · subst h0
      rw [Int.zero_mul] at em
      clear ha1 ha2
      go_enter Try.func15, Try.ntmps15
      go_wp2_with (go_at_call 31; refine (bothR _ _ _).mono ?_; rintro e w' ⟨rfl, rfl⟩)
      go_ret2
      exact ⟨pair_mk em, rfl⟩
    · have hz : (a != 0) = true := by simpa using h0
      have hk := mul_asks (b := b) h0
      have hA := abs_bd ⟨ha1, ha2⟩
      have hA0 : 1 ≤ absI a := by rw [abs_natAbs]; omega
      have hB := abs_bd ⟨hb1, hb2⟩
      obtain ⟨hA1, hA2⟩ := hA
      obtain ⟨hB1, hB2⟩ := hB
      by_cases hf : fitsB (a * b) = true
      · have hlt : ¬ 4611686018427387903 / absI a < absI b := by rw [hk, hf]; simp
        rw [chk_yes hf] at em
        obtain ⟨hw, _⟩ := mul_in h h0 (fits_int hf)
        clear hk hf
        go_enter Try.func15, Try.ntmps15
        go_wp2_with (first | (go_at_call 31; refine (bothR _ _ _).mono ?_; rintro e w' ⟨rfl, rfl⟩) | (go_at_call 33; refine (absR _ _ (by assumption) (by assumption)).mono ?_; rintro e w' ⟨rfl, rfl⟩))
        go_ret2
        exact ⟨pair_mk (by rw [hw]; exact em), rfl⟩
      · have hf' : fitsB (a * b) = false := by simpa using hf
        have hlt : 4611686018427387903 / absI a < absI b := hk.2 hf'
        rw [chk_no hf'] at em
        clear hk hf hf'
        go_enter Try.func15, Try.ntmps15
        go_wp2_with (first | (go_at_call 31; refine (bothR _ _ _).mono ?_; rintro e w' ⟨rfl, rfl⟩) | (go_at_call 33; refine (absR _ _ (by assumption) (by assumption)).mono ?_; rintro e w' ⟨rfl, rfl⟩))
        go_ret2
        exact ⟨pair_mk em, rfl⟩
  · have h' : bothB a b = false := by simpa using h
    go_enter Try.func15, Try.ntmps15
    go_wp2_with (go_at_call 31; refine (bothR _ _ _).mono ?_; rintro e w' ⟨rfl, rfl⟩)
    go_ret2
    exact ⟨pair_mk (mulS_no h'), rfl⟩
end Go.Proofs.Ytjbabbbldepjgaa.Num
