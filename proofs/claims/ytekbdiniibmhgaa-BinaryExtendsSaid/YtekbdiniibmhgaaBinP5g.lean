/-
  Layer 16: accepts of the program. (Written by a script: every case alike.)
-/
import Derived.Test.YtekbdiniibmhgaaBinP4g
import Derived.Test.YtekbdiniibmhgaaBinR2g
namespace Go.Proofs.Ytekbdiniibmhgaa.Shape
open Go.RowKit
set_option linter.unusedVariables false
set_option linter.unusedSimpArgs false

set_option maxHeartbeats 4000000 in
theorem acceptsP (p kx ky : Int) (w : World) (hp : binB p = true) (h1 : 1 ≤ kx ∧ kx ≤ 3) (h2 : 1 ≤ ky ∧ ky ≤ 3) : Calls Try.prog 31 #[.int .i64 p, .int .i64 kx, .int .i64 ky] w fun e w' => e = .returned (.bool (accB p kx ky)) ∧ w = w' := by
  have c1 : kx = 1 ∨ kx = 2 ∨ kx = 3 := by omega
  have c2 : ky = 1 ∨ ky = 2 ∨ ky = 3 := by omega
  clear h1 h2
  by_cases p11 : p = 11
  · subst p11
    rcases c1 with rfl | rfl | rfl <;> rcases c2 with rfl | rfl | rfl
    all_goals
      go_enter Try.func31, Try.ntmps31
      go_wp2
      go_ret
      exact ⟨rfl, rfl⟩
  by_cases p12 : p = 12
  · subst p12
    rcases c1 with rfl | rfl | rfl <;> rcases c2 with rfl | rfl | rfl
    all_goals
      go_enter Try.func31, Try.ntmps31
      go_wp2
      go_ret
      exact ⟨rfl, rfl⟩
  by_cases p9 : p = 9
  · subst p9
    rcases c1 with rfl | rfl | rfl <;> rcases c2 with rfl | rfl | rfl
    all_goals
      go_enter Try.func31, Try.ntmps31
      go_wp2
      go_ret
      exact ⟨rfl, rfl⟩
  by_cases p10 : p = 10
  · subst p10
    rcases c1 with rfl | rfl | rfl <;> rcases c2 with rfl | rfl | rfl
    all_goals
      go_enter Try.func31, Try.ntmps31
      go_wp2
      go_ret
      exact ⟨rfl, rfl⟩
  by_cases p13 : p = 13
  · subst p13
    rcases c1 with rfl | rfl | rfl <;> rcases c2 with rfl | rfl | rfl
    all_goals
      go_enter Try.func31, Try.ntmps31
      go_wp2
      go_ret
      exact ⟨rfl, rfl⟩
  by_cases p14 : p = 14
  · subst p14
    rcases c1 with rfl | rfl | rfl <;> rcases c2 with rfl | rfl | rfl
    all_goals
      go_enter Try.func31, Try.ntmps31
      go_wp2
      go_ret
      exact ⟨rfl, rfl⟩
  have q11 : (p == 11) = false := by simpa using p11
  have q12 : (p == 12) = false := by simpa using p12
  have q9 : (p == 9) = false := by simpa using p9
  have q10 : (p == 10) = false := by simpa using p10
  have q13 : (p == 13) = false := by simpa using p13
  have q14 : (p == 14) = false := by simpa using p14
  have e : ∀ a b : Int, accB p a b = (decide (a = 1) && decide (b = 1)) := by
    intro a b
    unfold accB
    by_cases h : a = 1 ∧ b = 1
    · rw [if_pos h]; simp [h.1, h.2]
    · rw [if_neg h]
      by_cases g : a = 3 ∨ b = 3
      · rw [if_pos g]
        by_cases ha : a = 1
        · have : ¬ b = 1 := fun e => h ⟨ha, e⟩
          simp [ha, this]
        · simp [ha]
      · rw [if_neg g, if_neg (by omega)]
        have hn : ¬ (p = 9 ∨ p = 10 ∨ p = 13 ∨ p = 14) := by omega
        rw [decide_eq_false hn, Bool.and_false]
        by_cases ha : a = 1
        · have : ¬ b = 1 := fun e => h ⟨ha, e⟩
          simp [ha, this]
        · simp [ha]
  rw [e]
  clear e
  rcases c1 with rfl | rfl | rfl <;> rcases c2 with rfl | rfl | rfl
  all_goals
    go_enter Try.func31, Try.ntmps31
    go_wp2
    go_ret
    exact ⟨rfl, rfl⟩
end Go.Proofs.Ytekbdiniibmhgaa.Shape
