/-
  Layer 9: the program's short form.
-/
import Derived.Test.YtmnomkcgkjccgaaLitP2
namespace Go.Proofs.Ytmnomkcgkjccgaa.Lit
open Go.RowKit
set_option linter.unusedVariables false
set_option linter.unusedSimpArgs false

theorem hexL_size (c : Nat) : (⟨(hexL c).toArray⟩ : ByteArray).size ≤ 2 := by
  rw [tx_size]; exact hexL_len c
theorem enc_size (c : Nat) : (Utf8.encode (c : Int)).size ≤ 4 := by
  rw [encB, tx_size]; exact (enc_len c).2
theorem fb1 (x : UInt8) : (ByteArray.mk #[x]).size = 1 := rfl
theorem fb3 : (ByteArray.mk #[92, 117, 123]).size = 3 := rfl
set_option maxRecDepth 100000 in
set_option maxHeartbeats 2000000 in
theorem short_10 (q : Nat) (w : World) : Calls Try.prog 15 #[.int .i32 10, .int .i32 (q : Int)] w fun e w' => e = .returned (.string ⟨(chW q 10).toArray⟩) ∧ Below w.heap.size w w' := by
  go_enter Try.func15, Try.ntmps15
  go_wp2
  go_ret
  exact ⟨rfl, Below.refl _ _⟩
set_option maxRecDepth 100000 in
set_option maxHeartbeats 2000000 in
theorem short_9 (q : Nat) (w : World) : Calls Try.prog 15 #[.int .i32 9, .int .i32 (q : Int)] w fun e w' => e = .returned (.string ⟨(chW q 9).toArray⟩) ∧ Below w.heap.size w w' := by
  go_enter Try.func15, Try.ntmps15
  go_wp2
  go_ret
  exact ⟨rfl, Below.refl _ _⟩
set_option maxRecDepth 100000 in
set_option maxHeartbeats 2000000 in
theorem short_13 (q : Nat) (w : World) : Calls Try.prog 15 #[.int .i32 13, .int .i32 (q : Int)] w fun e w' => e = .returned (.string ⟨(chW q 13).toArray⟩) ∧ Below w.heap.size w w' := by
  go_enter Try.func15, Try.ntmps15
  go_wp2
  go_ret
  exact ⟨rfl, Below.refl _ _⟩
set_option maxRecDepth 100000 in
set_option maxHeartbeats 2000000 in
theorem short_esc (q c : Nat) (h0 : c = q ∨ c = 92) (h1 : c ≠ 10) (h2 : c ≠ 9) (h3 : c ≠ 13) (w : World) : Calls Try.prog 15 #[.int .i32 (c : Int), .int .i32 (q : Int)] w fun e w' => e = .returned (.string ⟨(chW q c).toArray⟩) ∧ Below w.heap.size w w' := by
  have f1 : ((c : Int) == 10) = false := by simp; omega
  have f2 : ((c : Int) == 9) = false := by simp; omega
  have f3 : ((c : Int) == 13) = false := by simp; omega
  have hS : chW q c = [92] ++ Lib.encodeRune (c : Int) := by unfold chW; rw [if_neg h1, if_neg h2, if_neg h3, if_pos h0]
  have hE : (⟨#[92]⟩ : ByteArray) ++ Utf8.encode (c : Int) = ⟨(chW q c).toArray⟩ := by rw [hS, encB]; exact tx_app [92] _
  rw [← hE]
  have hz := enc_size c
  have a2 := fun w => run_string_add_sum (P := Try.prog) w ⟨#[92]⟩ (Utf8.encode (c : Int)) (by rw [fb1]; omega)
  clear hE hS
  by_cases h4 : c = q
  · subst h4
    have f4 : ((c : Int) == (c : Int)) = true := by simp
    clear h0
    go_enter Try.func15, Try.ntmps15
    go_wp2
    go_ret
    exact ⟨rfl, Below.refl _ _⟩
  · obtain rfl : c = 92 := by omega
    have f4 : ((92 : Int) == (q : Int)) = false := by simp; omega
    clear h0 f1 f2 f3 h1 h2 h3 h4 hz a2
    have a2 := fun w => run_string_add_sum (P := Try.prog) w ⟨#[92]⟩ (Utf8.encode 92) (by decide)
    go_enter Try.func15, Try.ntmps15
    go_wp2
    go_ret
    exact ⟨rfl, Below.refl _ _⟩
set_option maxRecDepth 100000 in
set_option maxHeartbeats 4000000 in
theorem short_hex (q c : Nat) (hc : c < 32 ∨ c = 127) (h0 : ¬ (c = q ∨ c = 92)) (h1 : c ≠ 10) (h2 : c ≠ 9) (h3 : c ≠ 13) (w : World) : Calls Try.prog 15 #[.int .i32 (c : Int), .int .i32 (q : Int)] w fun e w' => e = .returned (.string ⟨(chW q c).toArray⟩) ∧ Below w.heap.size w w' := by
  have f1 : ((c : Int) == 10) = false := by simp; omega
  have f2 : ((c : Int) == 9) = false := by simp; omega
  have f3 : ((c : Int) == 13) = false := by simp; omega
  have f4 : ((c : Int) == (q : Int)) = false := by simp; omega
  have f5 : ((c : Int) == 92) = false := by simp; omega
  have cD := hexQ c (by omega)
  have hz := hexL_size c
  have hS : chW q c = [92, 117, 123] ++ hexL c ++ [125] := by unfold chW; rw [if_neg h1, if_neg h2, if_neg h3, if_neg h0, if_pos hc]
  have hE : (⟨#[92, 117, 123]⟩ : ByteArray) ++ ⟨(hexL c).toArray⟩ ++ ⟨#[125]⟩ = ⟨(chW q c).toArray⟩ := by rw [hS]; apply ByteArray.ext; simp [ByteArray.data_append]
  rw [← hE]
  clear hE hS
  have a2 := fun w => run_string_add_sum (P := Try.prog) w ⟨#[92, 117, 123]⟩ ⟨(hexL c).toArray⟩ (by rw [fb3]; omega)
  have a3 := fun w => run_string_add_sum (P := Try.prog) w (⟨#[92, 117, 123]⟩ ++ ⟨(hexL c).toArray⟩) ⟨#[125]⟩ (by rw [ByteArray.size_append, fb1, fb3]; omega)
  by_cases h7 : c < 32
  · have h7' : (c : Int) < 32 := by omega
    go_enter Try.func15, Try.ntmps15
    go_wp2_with (go_at_call 20; with_reducible refine (cD _).mono ?_; rintro e w1 ⟨rfl, b1⟩)
    go_ret
    exact ⟨rfl, b1⟩
  · have h7' : ¬ (c : Int) < 32 := by omega
    have f7 : ((c : Int) == 127) = true := by simp; omega
    go_enter Try.func15, Try.ntmps15
    go_wp2_with (go_at_call 20; with_reducible refine (cD _).mono ?_; rintro e w1 ⟨rfl, b1⟩)
    go_ret
    exact ⟨rfl, b1⟩
set_option maxRecDepth 100000 in
set_option maxHeartbeats 4000000 in
theorem short_own (q c : Nat) (hc : ¬ (c < 32 ∨ c = 127)) (h0 : ¬ (c = q ∨ c = 92)) (w : World) : Calls Try.prog 15 #[.int .i32 (c : Int), .int .i32 (q : Int)] w fun e w' => e = .returned (.string ⟨(chW q c).toArray⟩) ∧ Below w.heap.size w w' := by
  have f1 : ((c : Int) == 10) = false := by simp; omega
  have f2 : ((c : Int) == 9) = false := by simp; omega
  have f3 : ((c : Int) == 13) = false := by simp; omega
  have f4 : ((c : Int) == (q : Int)) = false := by simp; omega
  have f5 : ((c : Int) == 92) = false := by simp; omega
  have f7 : ((c : Int) == 127) = false := by simp; omega
  have h7' : ¬ (c : Int) < 32 := by omega
  have hS : chW q c = Lib.encodeRune (c : Int) := by unfold chW; rw [if_neg (by omega), if_neg (by omega), if_neg (by omega), if_neg h0, if_neg hc]
  rw [hS, ← encB]
  go_enter Try.func15, Try.ntmps15
  go_wp2
  go_ret
  exact ⟨rfl, Below.refl _ _⟩
theorem shortQ (q c : Nat) (w : World) : Calls Try.prog 15 #[.int .i32 (c : Int), .int .i32 (q : Int)] w fun e w' => e = .returned (.string ⟨(chW q c).toArray⟩) ∧ Below w.heap.size w w' := by
  by_cases h1 : c = 10
  · subst h1; exact short_10 q w
  by_cases h2 : c = 9
  · subst h2; exact short_9 q w
  by_cases h3 : c = 13
  · subst h3; exact short_13 q w
  by_cases h0 : c = q ∨ c = 92
  · exact short_esc q c h0 h1 h2 h3 w
  by_cases hc : c < 32 ∨ c = 127
  · exact short_hex q c hc h0 h1 h2 h3 w
  · exact short_own q c hc h0 w
end Go.Proofs.Ytmnomkcgkjccgaa.Lit
