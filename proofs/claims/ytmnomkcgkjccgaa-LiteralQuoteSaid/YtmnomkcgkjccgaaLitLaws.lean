/-
  Layer 9: the laws LiteralQuote and LiteralShow.
-/
import Derived.Test.YtmnomkcgkjccgaaLitLives
import Derived.Test.YtmnomkcgkjccgaaLitR4
import Derived.Test.YtmnomkcgkjccgaaLitBack
namespace Go.Proofs.Ytmnomkcgkjccgaa.Lit
open Go.RowKit
set_option linter.unusedVariables false
set_option linter.unusedSimpArgs false

set_option maxRecDepth 100000 in
set_option maxHeartbeats 4000000 in
theorem quoteLaw (s : ByteArray) (hs : s.size ≤ 9223372036854775807) (w : World) : Calls Try.prog 3 #[.string s] w fun e w' => e = .returned (.bool true) ∧ Below w.heap.size w w' := by
  by_cases h : 2000 < s.size
  · have h' : (2000 : Int) < (s.size : Int) := by omega
    go_enter Try.func3, Try.ntmps3
    go_wp2_with (go_at_call 6; with_reducible refine (livesL _).mono ?_; rintro e1 w1 ⟨rfl, b1⟩)
    go_ret
    exact ⟨rfl, b1⟩
  · have h' : ¬ (2000 : Int) < (s.size : Int) := by omega
    have c1 := quoteQ s (by omega)
    have c2 := rquoteQ s (by omega)
    generalize quoteS s = Q at *
    go_enter Try.func3, Try.ntmps3
    go_wp2_with (first
      | (go_at_call 7; with_reducible refine (c1 _).mono ?_; rintro e1 w1 ⟨rfl, b1⟩)
      | (go_at_call 8; with_reducible refine (c2 _).mono ?_; rintro e2 w2 ⟨rfl, b2⟩)
      | (go_at_call 6; with_reducible refine (livesL _).mono ?_; rintro e3 w3 ⟨rfl, b3⟩))
    go_ret
    exact ⟨rfl, Below.then (Below.then b1 b2) b3⟩

set_option maxRecDepth 100000 in
set_option maxHeartbeats 4000000 in
theorem showLaw (r : Int) (t : ByteArray) (hr : -2147483648 ≤ r ∧ r ≤ 2147483647) (ht : t.size ≤ 9223372036854775807) (w : World) : Calls Try.prog 4 #[.int .i32 r, .string t] w fun e w' => e = .returned (.bool true) ∧ Below w.heap.size w w' := by
  obtain ⟨hr0, hr1⟩ := hr
  by_cases h : 2000 < t.size
  · have h' : (2000 : Int) < (t.size : Int) := by omega
    go_enter Try.func4, Try.ntmps4
    go_wp2_with (go_at_call 6; with_reducible refine (livesL _).mono ?_; rintro e1 w1 ⟨rfl, b1⟩)
    go_ret
    exact ⟨rfl, b1⟩
  · have h' : ¬ (2000 : Int) < (t.size : Int) := by omega
    have c1 := showRuneQ r
    have c2 := rshowQ r hr0 hr1
    have c3 := isR r
    cases hB : isChZ r with
    | false =>
      have e : showRuneS r = [] := by unfold showRuneS; rw [if_neg (by rw [hB]; decide)]
      rw [hB] at c3
      rw [e] at c1 c2
      have c1' : ∀ w, Calls Try.prog 9 #[.int .i32 r] w fun e w' => e = .returned (.string ⟨#[]⟩) ∧ Below w.heap.size w w' := c1
      have c2' : ∀ w, Calls Try.prog 10 #[.int .i32 r] w fun e w' => e = .returned (.string ⟨#[]⟩) ∧ Below w.heap.size w w' := c2
      clear c1 c2
      go_enter Try.func4, Try.ntmps4
      go_wp2_with (first
        | (go_at_call 9; with_reducible refine (c1' _).mono ?_; rintro e1 w1 ⟨rfl, b1⟩)
        | (go_at_call 10; with_reducible refine (c2' _).mono ?_; rintro e2 w2 ⟨rfl, b2⟩)
        | (go_at_call 11; with_reducible refine (c3 _).mono ?_; rintro e3 w3 ⟨rfl, rfl⟩)
        | (go_at_call 6; with_reducible refine (livesL _).mono ?_; rintro e4 w4 ⟨rfl, b4⟩))
      go_ret
      exact ⟨rfl, Below.then (Below.then b1 b2) b4⟩
    | true =>
      rw [hB] at c3
      obtain ⟨c, rfl⟩ : ∃ c : Nat, r = c := ⟨r.toNat, by simp only [isChZ, decide_eq_true_eq] at hB; omega⟩
      have hv : c < 55296 ∨ (57343 < c ∧ c ≤ 1114111) := by simp only [isChZ, decide_eq_true_eq] at hB; omega
      have e : showRuneS (c : Int) = [39] ++ chW 39 c ++ [39] := by unfold showRuneS; rw [if_pos hB, Int.toNat_natCast]
      have hl := chW_len 39 c
      have hz : ([39] ++ chW 39 c ++ [39]).length = (chW 39 c).length.succ.succ := by simp
      have hlist : (tx ([39] ++ chW 39 c ++ [39]) ++ t).data.toList = [39] ++ chW 39 c ++ [39] ++ t.data.toList := by
        rw [ByteArray.data_append, Array.toList_append]
      have c4 := runeO (tx ([39] ++ chW 39 c ++ [39]) ++ t) (by rw [ByteArray.size_append, tx_size, hz]; omega) c _ hv (show_back hv _ _ hlist)
      rw [e] at c1 c2
      rw [← hz] at c4
      have hz2 : (tx ([39] ++ chW 39 c ++ [39])).size = ([39] ++ chW 39 c ++ [39]).length := tx_size _
      have hz3 : ([39] ++ chW 39 c ++ [39]).length ≤ 100 := by rw [hz]; omega
      have ha := fun w => run_string_add_sum (P := Try.prog) w (tx ([39] ++ chW 39 c ++ [39])) t (by rw [hz2]; omega)
      unfold runeV at c4
      clear hl hz hlist e
      generalize [39] ++ chW 39 c ++ [39] = L at *
      simp only [tx] at *
      generalize (⟨L.toArray⟩ : ByteArray) = T at *
      rw [← hz2] at c4
      go_enter Try.func4, Try.ntmps4
      go_wp2_with (first
        | (go_at_call 9; with_reducible refine (c1 _).mono ?_; rintro e1 w1 ⟨rfl, b1⟩)
        | (go_at_call 10; with_reducible refine (c2 _).mono ?_; rintro e2 w2 ⟨rfl, b2⟩)
        | (go_at_call 11; with_reducible refine (c3 _).mono ?_; rintro e3 w3 ⟨rfl, rfl⟩)
        | (go_at_call 12; with_reducible refine (c4 _).mono ?_; rintro e4 w4 ⟨rfl, b4⟩)
        | (go_at_call 6; with_reducible refine (livesL _).mono ?_; rintro e5 w5 ⟨rfl, b5⟩))
      go_ret
      exact ⟨rfl, Below.then (Below.then (Below.then b1 b2) b4) b5⟩
end Go.Proofs.Ytmnomkcgkjccgaa.Lit
