/-
  Layer 9: the chapter's examples that each law asks.
-/
import Derived.Test.YtmnomkcgkjccgaaLitP9
import Derived.Test.YtmnomkcgkjccgaaLitQ
namespace Go.Proofs.Ytmnomkcgkjccgaa.Lit
open Go.RowKit
set_option linter.unusedVariables false
set_option linter.unusedSimpArgs false
set_option maxRecDepth 100000

theorem ex1 : readS 34 ⟨#[34, 120, 92, 117, 123, 52, 49, 125, 34, 32, 43, 32, 49]⟩ = .ok [120, 65] 9 := by kernel_rfl
theorem ex2 : readS 34 ⟨#[34, 97, 98]⟩ = .bad 5 := by kernel_rfl
theorem ex3 : readS 34 ⟨#[34, 92, 113, 34]⟩ = .bad 3 := by kernel_rfl
theorem ex4 : readS 39 ⟨#[39, 92, 110, 39, 120]⟩ = .ok (Lib.encodeRune ((10 : Nat) : Int)) 4 := by kernel_rfl
theorem ex5 : readS 39 ⟨#[39, 97, 98, 39]⟩ = .bad 5 := by kernel_rfl
theorem ex6 : quoteS ⟨#[97, 10, 34]⟩ = [34, 97, 92, 110, 92, 34, 34] := by kernel_rfl
theorem ex7 : showRuneS 127 = [39, 92, 117, 123, 55, 102, 125, 39] := by kernel_rfl
theorem ex8 : showRuneS 34 = [39, 34, 39] := by kernel_rfl

set_option maxHeartbeats 4000000 in
theorem livesL (w : World) : Calls Try.prog 6 #[] w fun e w' => e = .returned (.bool true) ∧ Below w.heap.size w w' := by
  have U := 14
  have c1 : ∀ w, Calls Try.prog 14 #[.string ⟨#[34, 120, 92, 117, 123, 52, 49, 125, 34, 32, 43, 32, 49]⟩] w fun e w' => e = .returned (.tuple #[.string ⟨#[120, 65]⟩, .int .i64 9, .int .i64 0]) ∧ Below w.heap.size w w' := fun w => by
    have := unquoteQ ⟨#[34, 120, 92, 117, 123, 52, 49, 125, 34, 32, 43, 32, 49]⟩ (by decide) w
    rw [ex1] at this; exact this
  have c2 : ∀ w, Calls Try.prog 14 #[.string ⟨#[34, 97, 98]⟩] w fun e w' => e = .returned (.tuple #[.string ⟨#[]⟩, .int .i64 0, .int .i64 5]) ∧ Below w.heap.size w w' := fun w => by
    have := unquoteQ ⟨#[34, 97, 98]⟩ (by decide) w
    rw [ex2] at this; exact this
  have c3 : ∀ w, Calls Try.prog 14 #[.string ⟨#[34, 92, 113, 34]⟩] w fun e w' => e = .returned (.tuple #[.string ⟨#[]⟩, .int .i64 0, .int .i64 3]) ∧ Below w.heap.size w w' := fun w => by
    have := unquoteQ ⟨#[34, 92, 113, 34]⟩ (by decide) w
    rw [ex3] at this; exact this
  have c4 : ∀ w, Calls Try.prog 12 #[.string ⟨#[39, 92, 110, 39, 120]⟩] w fun e w' => e = .returned (.tuple #[.int .i32 10, .int .i64 4, .int .i64 0]) ∧ Below w.heap.size w w' := fun w => runeO _ (by decide) 10 4 (by decide) ex4 w
  have c5 : ∀ w, Calls Try.prog 12 #[.string ⟨#[39, 97, 98, 39]⟩] w fun e w' => e = .returned (.tuple #[.int .i32 0, .int .i64 0, .int .i64 5]) ∧ Below w.heap.size w w' := fun w => runeB' _ (by decide) 5 ex5 w
  have c6 : ∀ w, Calls Try.prog 7 #[.string ⟨#[97, 10, 34]⟩] w fun e w' => e = .returned (.string ⟨#[34, 97, 92, 110, 92, 34, 34]⟩) ∧ Below w.heap.size w w' := fun w => by
    have := quoteQ ⟨#[97, 10, 34]⟩ (by decide) w
    rw [ex6] at this; exact this
  have c7 : ∀ w, Calls Try.prog 9 #[.int .i32 127] w fun e w' => e = .returned (.string ⟨#[39, 92, 117, 123, 55, 102, 125, 39]⟩) ∧ Below w.heap.size w w' := fun w => by
    have := showRuneQ 127 w
    rw [ex7] at this; exact this
  have c8 : ∀ w, Calls Try.prog 9 #[.int .i32 34] w fun e w' => e = .returned (.string ⟨#[39, 34, 39]⟩) ∧ Below w.heap.size w w' := fun w => by
    have := showRuneQ 34 w
    rw [ex8] at this; exact this
  clear U
  go_enter Try.func6, Try.ntmps6
  go_wp2_with (first
    | (go_at_call 14; with_reducible refine (c1 _).mono ?_; rintro e1 w1 ⟨rfl, b1⟩)
    | (go_at_call 14; with_reducible refine (c2 _).mono ?_; rintro e2 w2 ⟨rfl, b2⟩)
    | (go_at_call 14; with_reducible refine (c3 _).mono ?_; rintro e3 w3 ⟨rfl, b3⟩)
    | (go_at_call 12; with_reducible refine (c4 _).mono ?_; rintro e4 w4 ⟨rfl, b4⟩)
    | (go_at_call 12; with_reducible refine (c5 _).mono ?_; rintro e5 w5 ⟨rfl, b5⟩)
    | (go_at_call 7; with_reducible refine (c6 _).mono ?_; rintro e6 w6 ⟨rfl, b6⟩)
    | (go_at_call 9; with_reducible refine (c7 _).mono ?_; rintro e7 w7 ⟨rfl, b7⟩)
    | (go_at_call 9; with_reducible refine (c8 _).mono ?_; rintro e8 w8 ⟨rfl, b8⟩))
  go_ret
  exact ⟨rfl, Below.then (Below.then (Below.then (Below.then (Below.then (Below.then (Below.then b1 b2) b3) b4) b5) b6) b7) b8⟩
end Go.Proofs.Ytmnomkcgkjccgaa.Lit
