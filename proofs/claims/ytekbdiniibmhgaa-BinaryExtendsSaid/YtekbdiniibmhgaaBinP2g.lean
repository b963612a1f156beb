/-
  Layer 16: choose, Is and Scalar of the program.
-/
import Derived.Test.YtekbdiniibmhgaaBinP1g
import Derived.Test.YtekbdiniibmhgaaBinLaw0g
import Derived.Laws.ByValue
namespace Go.Proofs.Ytekbdiniibmhgaa.Shape
open Go.RowKit
set_option linter.unusedVariables false
set_option linter.unusedSimpArgs false

/-- logical's closure, over whatever join lies in what it captured. -/
theorem logical1P (t : Nat) (HE : Ent t) (f : Int → Int → Int) (b : Nat) (T : ∀ (x y : Int) (w : World), (x = 0 ∨ x = 1) → (y = 0 ∨ y = 1) → Calls Try.prog t #[.int .i64 x, .int .i64 y] w fun e w' => e = .returned (.int .i64 (f x y)) ∧ w = w') (x y : Int) (w : World)
    (hb : w.cell? ⟨b, 0, none⟩ = some (.func (.func t) #[] #[])) : Calls Try.prog 83 #[.int .i64 x, .int .i64 y, .pointer (some ⟨b, 0, none⟩)] w fun e w' => e = .returned (.tuple #[.int .i64 (if (bitB x && bitB y) = true then f x y else 0), .int .i64 (if (bitB x && bitB y) = true then 0 else 17)]) ∧ w = w' := by
  unfold Ent at HE
  by_cases h : (bitB x && bitB y) = true
  · rw [if_pos h, if_pos h]
    simp only [bitB, Bool.and_eq_true, decide_eq_true_eq] at h
    have Tx := fun w => T x y w h.1 h.2
    clear T
    obtain ⟨hx, hy⟩ := h
    generalize f x y = r at Tx ⊢
    rcases hx with rfl | rfl <;> rcases hy with rfl | rfl
    all_goals
      go_enter Try.func83, Try.ntmps83
      go_wp2_with (refine Calls.mono (Tx _) ?_; rintro e w' ⟨rfl, rfl⟩)
      go_ret2
      exact ⟨rfl, rfl⟩
  · rw [if_neg h, if_neg h]
    clear T
    by_cases x0 : x = 0
    · subst x0
      have hy : ¬ y = 0 ∧ ¬ y = 1 := by simpa [bitB] using h
      obtain ⟨y0, y1⟩ := hy
      clear h
      have z0 : (y != 0) = true := by simpa using y0
      have z1 : (y != 1) = true := by simpa using y1
      go_enter Try.func83, Try.ntmps83
      go_wp2
      go_ret2
      exact ⟨rfl, rfl⟩
    · by_cases x1 : x = 1
      · subst x1
        have hy : ¬ y = 0 ∧ ¬ y = 1 := by simpa [bitB] using h
        obtain ⟨y0, y1⟩ := hy
        clear h
        have z0 : (y != 0) = true := by simpa using y0
        have z1 : (y != 1) = true := by simpa using y1
        go_enter Try.func83, Try.ntmps83
        go_wp2
        go_ret2
        exact ⟨rfl, rfl⟩
      · clear h
        have z0 : (x != 0) = true := by simpa using x0
        have z1 : (x != 1) = true := by simpa using x1
        go_enter Try.func83, Try.ntmps83
        go_wp2
        go_ret2
        exact ⟨rfl, rfl⟩
theorem truthP (t : Nat) (w : World) : Calls Try.prog 49 #[.func (.func t) #[] #[]] w fun e w' => e = .returned (.func (.func 82) #[] #[.pointer (some ⟨w.heap.size, 0, none⟩)]) ∧ w' = w.alloc (.cells #[.func (.func t) #[] #[]] 39) := by
  go_enter Try.func49, Try.ntmps49
  go_wp2
  go_ret
  exact ⟨rfl, rfl⟩
theorem logicalP (t : Nat) (w : World) : Calls Try.prog 56 #[.func (.func t) #[] #[]] w fun e w' => e = .returned (.func (.func 83) #[] #[.pointer (some ⟨w.heap.size, 0, none⟩)]) ∧ w' = w.alloc (.cells #[.func (.func t) #[] #[]] 61) := by
  go_enter Try.func56, Try.ntmps56
  go_wp2
  go_ret
  exact ⟨rfl, rfl⟩
end Go.Proofs.Ytekbdiniibmhgaa.Shape
