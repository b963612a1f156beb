/-
  Layer 9: the reference's hex, short and ShowRune. (Written by wip/gen/literal-short.py.)
-/
import Derived.Test.YtmnomkcgkjccgaaLitR1
import Derived.Test.YtmnomkcgkjccgaaLitP9
namespace Go.Proofs.Ytmnomkcgkjccgaa.Lit
open Go.RowKit
set_option linter.unusedVariables false
set_option linter.unusedSimpArgs false

theorem hex_at (k : Nat) (h : k < 16) : (⟨#[48, 49, 50, 51, 52, 53, 54, 55, 56, 57, 97, 98, 99, 100, 101, 102]⟩ : ByteArray).extract k (k + 1) = ⟨#[hx1 k]⟩ := by
  have : k = 0 ∨ k = 1 ∨ k = 2 ∨ k = 3 ∨ k = 4 ∨ k = 5 ∨ k = 6 ∨ k = 7 ∨ k = 8 ∨ k = 9 ∨ k = 10 ∨ k = 11 ∨ k = 12 ∨ k = 13 ∨ k = 14 ∨ k = 15 := by omega
  rcases this with rfl | rfl | rfl | rfl | rfl | rfl | rfl | rfl | rfl | rfl | rfl | rfl | rfl | rfl | rfl | rfl <;> rfl
theorem slice_hex (K : Nat) (h : K < 16) (w : World) : (Instr.slice 9 (.string ⟨#[48, 49, 50, 51, 52, 53, 54, 55, 56, 57, 97, 98, 99, 100, 101, 102]⟩) (some (.int .i64 (K : Int))) (some (.int .i64 ((K : Int) + 1))) none).run Try.prog w = .ok (.string ⟨#[hx1 K]⟩) w := by
  rw [run_slice_string w 9 _ .i64 .i64 K (K + 1) Try.underlying9 (by omega) (by omega) (by show (K : Int) + 1 ≤ ((16 : Nat) : Int); omega)]
  rw [show ((K : Int) + 1).toNat = K + 1 by omega, show ((K : Int)).toNat = K by omega, hex_at K h]
set_option maxRecDepth 100000 in
set_option maxHeartbeats 1000000 in
theorem rhex1 (K : Nat) (hK : K < 16) (w : World) : Calls Try.prog 21 #[.int .i64 (K : Int)] w fun e w' => e = .returned (.string ⟨#[hx1 K]⟩) ∧ Below w.heap.size w w' := by
  have hlt : (K : Int) < 16 := by omega
  have hsl := slice_hex K hK
  go_enter Try.func21, Try.ntmps21
  go_wp2
  go_ret
  exact ⟨rfl, Below.refl _ _⟩
set_option maxRecDepth 100000 in
set_option maxHeartbeats 1000000 in
theorem rhex2 (c q K : Nat) (hc : c < 256) (hq : q < 16) (hK : K < 16) (hge : 16 ≤ c) (e0 : c / 16 = q) (e00 : c % 16 = K) (w : World) : Calls Try.prog 21 #[.int .i64 (c : Int)] w fun e w' => e = .returned (.string ⟨#[hx1 q, hx1 K]⟩) ∧ Below w.heap.size w w' := by
  have e1 : (c : Int).tmod 16 = (K : Int) := by rw [Int.tmod_eq_emod_of_nonneg (by omega)]; omega
  have e2 : (c : Int).tdiv 16 = (q : Int) := by rw [Int.tdiv_eq_ediv_of_nonneg (by omega)]; omega
  have e3 : (c : Int) / 16 = (q : Int) := by omega
  have e4 : (c : Int) % 16 = (K : Int) := by omega
  have hlt : ¬ (c : Int) < 16 := by omega
  have cR := rhex1 q hq
  have cS := rhex1 K hK
  have ha : (⟨#[hx1 q]⟩ : ByteArray) ++ ⟨#[hx1 K]⟩ = ⟨#[hx1 q, hx1 K]⟩ := rfl
  have hsz : (⟨#[hx1 q]⟩ : ByteArray).size = 1 := rfl
  have hsz2 : (⟨#[hx1 K]⟩ : ByteArray).size = 1 := rfl
  clear e0 e00
  go_enter Try.func21, Try.ntmps21
  go_wp2_with (first
    | (go_at_call 21; with_reducible refine (cR _).mono ?_; rintro e w1 ⟨rfl, b1⟩)
    | (go_at_call 21; with_reducible refine (cS _).mono ?_; rintro e w2 ⟨rfl, b2⟩))
  go_ret
  exact ⟨rfl, Below.then b1 b2⟩
theorem rhexQ (c : Nat) (hc : c < 256) (w : World) : Calls Try.prog 21 #[.int .i64 (c : Int)] w fun e w' => e = .returned (.string ⟨(hexL c).toArray⟩) ∧ Below w.heap.size w w' := by
  unfold hexL
  by_cases h : c < 16
  · rw [if_pos h]; exact rhex1 c h w
  · rw [if_neg h]; exact rhex2 c (c / 16) (c % 16) hc (by omega) (by omega) (by omega) rfl rfl w
set_option maxRecDepth 100000 in
set_option maxHeartbeats 1000000 in
theorem rshort_10 (q : Nat) (w : World) : Calls Try.prog 17 #[.int .i64 10, .int .i64 (q : Int)] w fun e w' => e = .returned (.string ⟨(chW q 10).toArray⟩) ∧ Below w.heap.size w w' := by
  go_enter Try.func17, Try.ntmps17
  go_wp2
  go_ret
  exact ⟨rfl, Below.refl _ _⟩
set_option maxRecDepth 100000 in
set_option maxHeartbeats 1000000 in
theorem rshort_9 (q : Nat) (w : World) : Calls Try.prog 17 #[.int .i64 9, .int .i64 (q : Int)] w fun e w' => e = .returned (.string ⟨(chW q 9).toArray⟩) ∧ Below w.heap.size w w' := by
  go_enter Try.func17, Try.ntmps17
  go_wp2
  go_ret
  exact ⟨rfl, Below.refl _ _⟩
set_option maxRecDepth 100000 in
set_option maxHeartbeats 1000000 in
theorem rshort_13 (q : Nat) (w : World) : Calls Try.prog 17 #[.int .i64 13, .int .i64 (q : Int)] w fun e w' => e = .returned (.string ⟨(chW q 13).toArray⟩) ∧ Below w.heap.size w w' := by
  go_enter Try.func17, Try.ntmps17
  go_wp2
  go_ret
  exact ⟨rfl, Below.refl _ _⟩
set_option maxRecDepth 100000 in
set_option maxHeartbeats 1000000 in
theorem rshort_92 (q : Nat) (w : World) : Calls Try.prog 17 #[.int .i64 92, .int .i64 (q : Int)] w fun e w' => e = .returned (.string ⟨(chW q 92).toArray⟩) ∧ Below w.heap.size w w' := by
  have hS : chW q 92 = [92, 92] := by unfold chW; rw [if_neg (by decide), if_neg (by decide), if_neg (by decide), if_pos (.inr rfl)]; rfl
  rw [hS]
  go_enter Try.func17, Try.ntmps17
  go_wp2
  go_ret
  exact ⟨rfl, Below.refl _ _⟩
set_option maxRecDepth 100000 in
set_option maxHeartbeats 1000000 in
theorem rshort_q (c : Nat) (hv : c < 55296) (h1 : c ≠ 10) (h2 : c ≠ 9) (h3 : c ≠ 13) (h4 : c ≠ 92) (w : World) : Calls Try.prog 17 #[.int .i64 (c : Int), .int .i64 (c : Int)] w fun e w' => e = .returned (.string ⟨(chW c c).toArray⟩) ∧ Below w.heap.size w w' := by
  have f1 : ((c : Int) == 10) = false := by simp; omega
  have f2 : ((c : Int) == 9) = false := by simp; omega
  have f3 : ((c : Int) == 13) = false := by simp; omega
  have f4 : ((c : Int) == 92) = false := by simp; omega
  have hS : chW c c = [92] ++ Lib.encodeRune (c : Int) := by unfold chW; rw [if_neg h1, if_neg h2, if_neg h3, if_pos (.inl rfl)]
  have hE : (⟨#[92]⟩ : ByteArray) ++ ⟨(Lib.encodeRune (c : Int)).toArray⟩ = ⟨(chW c c).toArray⟩ := by rw [hS]; exact tx_app [92] _
  rw [← hE]
  have hz := enc_len c
  have a2 := fun w => run_string_add_sum (P := Try.prog) w ⟨#[92]⟩ ⟨(Lib.encodeRune (c : Int)).toArray⟩ (by rw [fb1, tx_size]; omega)
  have cE := encodeR c (.inl hv)
  clear hE hS
  go_enter Try.func17, Try.ntmps17
  go_wp2_with (go_at_call 13; with_reducible refine (cE _).mono ?_; rintro e w1 ⟨rfl, b1⟩)
  go_ret
  exact ⟨rfl, b1⟩
set_option maxRecDepth 100000 in
set_option maxHeartbeats 1000000 in
theorem rshort_hex (q c : Nat) (hc : c < 32 ∨ c = 127) (h0 : c ≠ q) (h1 : c ≠ 10) (h2 : c ≠ 9) (h3 : c ≠ 13) (h4 : c ≠ 92) (w : World) : Calls Try.prog 17 #[.int .i64 (c : Int), .int .i64 (q : Int)] w fun e w' => e = .returned (.string ⟨(chW q c).toArray⟩) ∧ Below w.heap.size w w' := by
  have f1 : ((c : Int) == 10) = false := by simp; omega
  have f2 : ((c : Int) == 9) = false := by simp; omega
  have f3 : ((c : Int) == 13) = false := by simp; omega
  have f4 : ((c : Int) == 92) = false := by simp; omega
  have f5 : ((c : Int) == (q : Int)) = false := by simp; omega
  have cD := rhexQ c (by omega)
  have hz := hexL_size c
  have hS : chW q c = [92, 117, 123] ++ hexL c ++ [125] := by unfold chW; rw [if_neg h1, if_neg h2, if_neg h3, if_neg (by omega), if_pos hc]
  have hE : (⟨#[92, 117, 123]⟩ : ByteArray) ++ ⟨(hexL c).toArray⟩ ++ ⟨#[125]⟩ = ⟨(chW q c).toArray⟩ := by rw [hS]; apply ByteArray.ext; simp [ByteArray.data_append]
  rw [← hE]
  clear hE hS
  have a2 := fun w => run_string_add_sum (P := Try.prog) w ⟨#[92, 117, 123]⟩ ⟨(hexL c).toArray⟩ (by rw [fb3]; omega)
  have a3 := fun w => run_string_add_sum (P := Try.prog) w (⟨#[92, 117, 123]⟩ ++ ⟨(hexL c).toArray⟩) ⟨#[125]⟩ (by rw [ByteArray.size_append, fb1, fb3]; omega)
  by_cases h7 : c < 32
  · have h7' : (c : Int) < 32 := by omega
    go_enter Try.func17, Try.ntmps17
    go_wp2_with (go_at_call 21; with_reducible refine (cD _).mono ?_; rintro e w1 ⟨rfl, b1⟩)
    go_ret
    exact ⟨rfl, b1⟩
  · have h7' : ¬ (c : Int) < 32 := by omega
    have f7 : ((c : Int) == 127) = true := by simp; omega
    go_enter Try.func17, Try.ntmps17
    go_wp2_with (go_at_call 21; with_reducible refine (cD _).mono ?_; rintro e w1 ⟨rfl, b1⟩)
    go_ret
    exact ⟨rfl, b1⟩
set_option maxRecDepth 100000 in
set_option maxHeartbeats 1000000 in
theorem rshort_own (q c : Nat) (hv : c < 55296 ∨ (57343 < c ∧ c ≤ 1114111)) (hc : ¬ (c < 32 ∨ c = 127)) (h0 : c ≠ q) (h1 : c ≠ 10) (h2 : c ≠ 9) (h3 : c ≠ 13) (h4 : c ≠ 92) (w : World) : Calls Try.prog 17 #[.int .i64 (c : Int), .int .i64 (q : Int)] w fun e w' => e = .returned (.string ⟨(chW q c).toArray⟩) ∧ Below w.heap.size w w' := by
  have f1 : ((c : Int) == 10) = false := by simp; omega
  have f2 : ((c : Int) == 9) = false := by simp; omega
  have f3 : ((c : Int) == 13) = false := by simp; omega
  have f4 : ((c : Int) == 92) = false := by simp; omega
  have f5 : ((c : Int) == (q : Int)) = false := by simp; omega
  have f7 : ((c : Int) == 127) = false := by simp; omega
  have h7' : ¬ (c : Int) < 32 := by omega
  have hS : chW q c = Lib.encodeRune (c : Int) := by unfold chW; rw [if_neg (by omega), if_neg (by omega), if_neg (by omega), if_neg (by omega), if_neg hc]
  rw [hS]
  have cE := encodeR c hv
  go_enter Try.func17, Try.ntmps17
  go_wp2_with (go_at_call 13; with_reducible refine (cE _).mono ?_; rintro e w1 ⟨rfl, b1⟩)
  go_ret
  exact ⟨rfl, b1⟩
theorem rshortQ (q c : Nat) (hq : q = 34 ∨ q = 39) (hv : c < 55296 ∨ (57343 < c ∧ c ≤ 1114111)) (w : World) : Calls Try.prog 17 #[.int .i64 (c : Int), .int .i64 (q : Int)] w fun e w' => e = .returned (.string ⟨(chW q c).toArray⟩) ∧ Below w.heap.size w w' := by
  by_cases h1 : c = 10
  · subst h1; exact rshort_10 q w
  by_cases h2 : c = 9
  · subst h2; exact rshort_9 q w
  by_cases h3 : c = 13
  · subst h3; exact rshort_13 q w
  by_cases h4 : c = 92
  · subst h4; exact rshort_92 q w
  by_cases h0 : c = q
  · subst h0; exact rshort_q c (by omega) h1 h2 h3 h4 w
  by_cases hc : c < 32 ∨ c = 127
  · exact rshort_hex q c hc h0 h1 h2 h3 h4 w
  · exact rshort_own q c hv hc h0 h1 h2 h3 h4 w
set_option maxRecDepth 100000 in
set_option maxHeartbeats 1000000 in
theorem rshowQ (r : Int) (hr0 : -2147483648 ≤ r) (hr1 : r ≤ 2147483647) (w : World) :
    Calls Try.prog 10 #[.int .i32 r] w fun e' w' => e' = .returned (.string ⟨(showRuneS r).toArray⟩) ∧ Below w.heap.size w w' := by
  have cI := isR r
  unfold showRuneS
  cases hi : isChZ r with
  | false =>
    rw [hi] at cI
    rw [if_neg (by decide)]
    go_enter Try.func10, Try.ntmps10
    go_wp2_with (go_at_call 11; with_reducible refine (cI _).mono ?_; rintro e1 w1 ⟨rfl, rfl⟩)
    go_ret
    exact ⟨rfl, Below.refl _ _⟩
  | true =>
    rw [hi] at cI
    rw [if_pos rfl]
    obtain ⟨c, rfl⟩ : ∃ c : Nat, r = c := ⟨r.toNat, by simp only [isChZ, decide_eq_true_eq] at hi; omega⟩
    have cS : ∀ w, Calls Try.prog 17 #[.int .i64 (c : Int), .int .i64 39] w fun e w' => e = .returned (.string ⟨(chW 39 c).toArray⟩) ∧ Below w.heap.size w w' := rshortQ 39 c (.inr rfl) (by simp only [isChZ, decide_eq_true_eq] at hi; omega)
    have hl := chW_len 39 c
    have a1 := fun w => run_string_add_sum (P := Try.prog) w ⟨#[39]⟩ ⟨(chW 39 c).toArray⟩ (by rw [fb1, tx_size]; omega)
    have a2 := fun w => run_string_add_sum (P := Try.prog) w (⟨#[39]⟩ ++ ⟨(chW 39 c).toArray⟩) ⟨#[39]⟩ (by rw [ByteArray.size_append, fb1, tx_size]; omega)
    have e : (⟨#[39]⟩ : ByteArray) ++ ⟨(chW 39 c).toArray⟩ ++ ⟨#[39]⟩ = ⟨([39] ++ chW 39 c ++ [39]).toArray⟩ := by
      have e1 := tx_app [39] (chW 39 c)
      have e2 := tx_app ([39] ++ chW 39 c) [39]
      rw [← e1] at e2
      exact e2
    rw [Int.toNat_natCast, ← e]
    clear e
    go_enter Try.func10, Try.ntmps10
    go_wp2_with (first
      | (go_at_call 11; with_reducible refine (cI _).mono ?_; rintro e1 w1 ⟨rfl, rfl⟩)
      | (go_at_call 17; with_reducible refine (cS _).mono ?_; rintro e2 w2 ⟨rfl, b2⟩))
    go_ret
    exact ⟨rfl, b2⟩
end Go.Proofs.Ytmnomkcgkjccgaa.Lit
