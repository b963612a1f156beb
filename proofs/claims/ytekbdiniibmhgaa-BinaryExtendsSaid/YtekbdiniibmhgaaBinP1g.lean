/-
  Layer 16: the program's functions as values: the closures that choose makes.
-/
import Derived.Test.YtekbdiniibmhgaaBinMathg
import Derived.Test.YtekbdiniibmhgaaBinGN
import Derived.Laws.EntriesVeiled
namespace Go.Proofs.Ytekbdiniibmhgaa.Shape
open Go.RowKit
set_option linter.unusedVariables false
set_option linter.unusedSimpArgs false

theorem ret_b16 {x y : Bool} (h : x = y) : Ending.returned (.bool x) = .returned (.bool y) := by rw [h]
theorem tup2 {a b c d : Int} (h : a = b) (g : c = d) : Ending.returned (.tuple #[.int .i64 a, .int .i64 c]) = .returned (.tuple #[.int .i64 b, .int .i64 d]) := by rw [h, g]
theorem ltP (x y : Int) (w : World) : Calls Try.prog 50 #[.int .i64 x, .int .i64 y] w fun e w' => e = .returned (.bool (decide (x < y))) ∧ w = w' := by
  go_enter Try.func50, Try.ntmps50
  go_wp2
  go_ret
  exact ⟨rfl, rfl⟩
theorem leP (x y : Int) (w : World) : Calls Try.prog 51 #[.int .i64 x, .int .i64 y] w fun e w' => e = .returned (.bool (decide (x ≤ y))) ∧ w = w' := by
  go_enter Try.func51, Try.ntmps51
  go_wp2
  go_ret
  exact ⟨rfl, rfl⟩
theorem eqP (x y : Int) (w : World) : Calls Try.prog 52 #[.int .i64 x, .int .i64 y] w fun e w' => e = .returned (.bool (decide (x = y))) ∧ w = w' := by
  go_enter Try.func52, Try.ntmps52
  go_wp2
  go_ret
  exact ⟨ret_b16 (by by_cases h : x = y <;> simp [h]), rfl⟩
theorem neP (x y : Int) (w : World) : Calls Try.prog 53 #[.int .i64 x, .int .i64 y] w fun e w' => e = .returned (.bool (decide (¬ x = y))) ∧ w = w' := by
  go_enter Try.func53, Try.ntmps53
  go_wp2
  go_ret
  exact ⟨ret_b16 (by by_cases h : x = y <;> simp [h]), rfl⟩
theorem geP (x y : Int) (w : World) : Calls Try.prog 54 #[.int .i64 x, .int .i64 y] w fun e w' => e = .returned (.bool (decide (y ≤ x))) ∧ w = w' := by
  go_enter Try.func54, Try.ntmps54
  go_wp2
  go_ret
  exact ⟨rfl, rfl⟩
theorem gtP (x y : Int) (w : World) : Calls Try.prog 55 #[.int .i64 x, .int .i64 y] w fun e w' => e = .returned (.bool (decide (y < x))) ∧ w = w' := by
  go_enter Try.func55, Try.ntmps55
  go_wp2
  go_ret
  exact ⟨rfl, rfl⟩
theorem minP (x y : Int) (w : World) : Calls Try.prog 47 #[.int .i64 x, .int .i64 y] w fun e w' => e = .returned (.tuple #[.int .i64 (if x ≤ y then x else y), .int .i64 0]) ∧ w = w' := by
  go_enter Try.func47, Try.ntmps47
  go_wp2
  all_goals
    go_ret2
    exact ⟨tup2 (by omega) rfl, rfl⟩
theorem maxP (x y : Int) (w : World) : Calls Try.prog 48 #[.int .i64 x, .int .i64 y] w fun e w' => e = .returned (.tuple #[.int .i64 (if x ≤ y then y else x), .int .i64 0]) ∧ w = w' := by
  go_enter Try.func48, Try.ntmps48
  go_wp2
  all_goals
    go_ret2
    exact ⟨tup2 (by omega) rfl, rfl⟩
theorem andP (x y : Int) (w : World) (hx : x = 0 ∨ x = 1) (hy : y = 0 ∨ y = 1) : Calls Try.prog 57 #[.int .i64 x, .int .i64 y] w fun e w' => e = .returned (.int .i64 (if x ≤ y then x else y)) ∧ w = w' := by
  rcases hx with rfl | rfl <;> rcases hy with rfl | rfl
  all_goals
    go_enter Try.func57, Try.ntmps57
    go_wp2
    go_ret
    exact ⟨rfl, rfl⟩
theorem orP (x y : Int) (w : World) (hx : x = 0 ∨ x = 1) (hy : y = 0 ∨ y = 1) : Calls Try.prog 58 #[.int .i64 x, .int .i64 y] w fun e w' => e = .returned (.int .i64 (if x ≤ y then y else x)) ∧ w = w' := by
  rcases hx with rfl | rfl <;> rcases hy with rfl | rfl
  all_goals
    go_enter Try.func58, Try.ntmps58
    go_wp2
    go_ret
    exact ⟨rfl, rfl⟩
def Ent (t : Nat) : Prop := ∀ (args : Array Value) (w : World), (callFunc t args).run Try.prog w = .ok (.enter t args) w
/-- truth's closure, over whatever test lies in what it captured. -/
theorem truth1P (t : Nat) (HE : Ent t) (f : Int → Int → Bool) (b : Nat) (T : ∀ (x y : Int) (w : World), Calls Try.prog t #[.int .i64 x, .int .i64 y] w fun e w' => e = .returned (.bool (f x y)) ∧ w = w') (x y : Int) (w : World)
    (hb : w.cell? ⟨b, 0, none⟩ = some (.func (.func t) #[] #[])) : Calls Try.prog 82 #[.int .i64 x, .int .i64 y, .pointer (some ⟨b, 0, none⟩)] w fun e w' => e = .returned (.tuple #[.int .i64 (tru (f x y)), .int .i64 0]) ∧ w = w' := by
  have Tx := T x y
  clear T
  unfold Ent at HE
  by_cases h : f x y = true
  · rw [h] at Tx ⊢
    go_enter Try.func82, Try.ntmps82
    go_wp2_with (refine Calls.mono (Tx _) ?_; rintro e w' ⟨rfl, rfl⟩)
    go_ret2
    exact ⟨rfl, rfl⟩
  · rw [Bool.not_eq_true] at h
    rw [h] at Tx ⊢
    go_enter Try.func82, Try.ntmps82
    go_wp2_with (refine Calls.mono (Tx _) ?_; rintro e w' ⟨rfl, rfl⟩)
    go_ret2
    exact ⟨rfl, rfl⟩
end Go.Proofs.Ytekbdiniibmhgaa.Shape
