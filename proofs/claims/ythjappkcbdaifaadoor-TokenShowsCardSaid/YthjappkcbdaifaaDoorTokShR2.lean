/-
  Layer 8: how the reference writes a character in a literal. (Written by wip/gen/token-shr2.py.)
-/
import Derived.Test.YthjappkcbdaifaaDoorTokShR1
import Derived.Test.YthjappkcbdaifaaDoorTokWr
namespace Go.Proofs.YthjappkcbdaifaaDoor.Tok
open Go.RowKit
set_option linter.unusedVariables false
set_option linter.unusedSimpArgs false

theorem enc_eq (c : Nat) : (Utf8.encode (c : Int)).data.toList = Lib.encodeRune (c : Int) := by
  unfold Lib.encodeRune
  by_cases hv : Utf8.valid (c : Int) = true
  · have hv2 : ((0 : Int) ≤ c ∧ (c : Int) < 55296) ∨ ((57344 : Int) ≤ c ∧ (c : Int) ≤ 1114111) := by simpa [Utf8.valid] using hv
    unfold Utf8.encode
    simp only [hv, if_true, Int.toNat_natCast]
    by_cases h1 : c < 128
    · rw [if_pos h1, Lib.encodeRuneZ_one (by omega) (by omega)]
      rfl
    rw [if_neg h1]
    by_cases h2 : c < 2048
    · rw [if_pos h2, Lib.encodeRuneZ_two (by omega) (by omega)]
      simp only [List.map_cons, List.map_nil]
      rw [show (192 + (c : Int) / 64).toNat = 192 + c / 64 by omega, show (128 + (c : Int) % 64).toNat = 128 + c % 64 by omega]
    rw [if_neg h2]
    by_cases h3 : c < 65536
    · rw [if_pos h3, Lib.encodeRuneZ_three (by omega)]
      simp only [List.map_cons, List.map_nil]
      rw [show (224 + (c : Int) / 4096).toNat = 224 + c / 4096 by omega, show (128 + (c : Int) / 64 % 64).toNat = 128 + c / 64 % 64 by omega, show (128 + (c : Int) % 64).toNat = 128 + c % 64 by omega]
    · rw [if_neg h3, Lib.encodeRuneZ_four (by omega) (by omega)]
      simp only [List.map_cons, List.map_nil]
      rw [show (240 + (c : Int) / 262144).toNat = 240 + c / 262144 by omega, show (128 + (c : Int) / 4096 % 64).toNat = 128 + c / 4096 % 64 by omega, show (128 + (c : Int) / 64 % 64).toNat = 128 + c / 64 % 64 by omega, show (128 + (c : Int) % 64).toNat = 128 + c % 64 by omega]
  · have hv2 : ¬ (((0 : Int) ≤ c ∧ (c : Int) < 55296) ∨ ((57344 : Int) ≤ c ∧ (c : Int) ≤ 1114111)) := by simpa [Utf8.valid] using hv
    unfold Utf8.encode
    simp only [hv, Bool.false_eq_true, if_false]
    rw [Lib.encodeRuneZ_bad (by omega)]
    decide
theorem encB (c : Nat) : Utf8.encode (c : Int) = ⟨(Lib.encodeRune (c : Int)).toArray⟩ := by
  rw [← enc_eq, arr_list]
theorem enc_ascii (c : Nat) (h : c < 128) : Lib.encodeRune (c : Int) = [UInt8.ofNat c] := by
  unfold Lib.encodeRune
  rw [Lib.encodeRuneZ_one (by omega) (by omega)]
  rfl
theorem hexL_size (c : Nat) : (⟨(hexL c).toArray⟩ : ByteArray).size ≤ 2 := by
  show (hexL c).toArray.size ≤ 2
  have := hexL_len c
  rw [List.size_toArray]; omega
theorem fb1 (x : UInt8) : (ByteArray.mk #[x]).size = 1 := rfl
theorem fb3 : (ByteArray.mk #[92, 117, 123]).size = 3 := rfl
theorem q39 : ((⟨#[39]⟩ : ByteArray)[0]'(by decide)).toNat = 39 := rfl
theorem q34 : ((⟨#[34]⟩ : ByteArray)[0]'(by decide)).toNat = 34 := rfl
set_option maxRecDepth 100000 in
set_option maxHeartbeats 2000000 in
theorem written39_10 (w : World) : Calls Tryd.prog 58 #[.int .i64 10, .string ⟨#[39]⟩] w fun e w' => e = .returned (.string ⟨(chW 39 10).toArray⟩) ∧ Below w.heap.size w w' := by
  have hq := q39
  go_enter Tryd.func58, Tryd.ntmps58
  go_wp2
  go_ret
  exact ⟨by kernel_rfl, Below.refl _ _⟩
set_option maxRecDepth 100000 in
set_option maxHeartbeats 2000000 in
theorem written39_9 (w : World) : Calls Tryd.prog 58 #[.int .i64 9, .string ⟨#[39]⟩] w fun e w' => e = .returned (.string ⟨(chW 39 9).toArray⟩) ∧ Below w.heap.size w w' := by
  have hq := q39
  go_enter Tryd.func58, Tryd.ntmps58
  go_wp2
  go_ret
  exact ⟨by kernel_rfl, Below.refl _ _⟩
set_option maxRecDepth 100000 in
set_option maxHeartbeats 2000000 in
theorem written39_13 (w : World) : Calls Tryd.prog 58 #[.int .i64 13, .string ⟨#[39]⟩] w fun e w' => e = .returned (.string ⟨(chW 39 13).toArray⟩) ∧ Below w.heap.size w w' := by
  have hq := q39
  go_enter Tryd.func58, Tryd.ntmps58
  go_wp2
  go_ret
  exact ⟨by kernel_rfl, Below.refl _ _⟩
set_option maxRecDepth 100000 in
set_option maxHeartbeats 2000000 in
theorem written39_92 (w : World) : Calls Tryd.prog 58 #[.int .i64 92, .string ⟨#[39]⟩] w fun e w' => e = .returned (.string ⟨(chW 39 92).toArray⟩) ∧ Below w.heap.size w w' := by
  have hq := q39
  go_enter Tryd.func58, Tryd.ntmps58
  go_wp2
  go_ret
  exact ⟨by kernel_rfl, Below.refl _ _⟩
set_option maxRecDepth 100000 in
set_option maxHeartbeats 2000000 in
theorem written39_39 (w : World) : Calls Tryd.prog 58 #[.int .i64 39, .string ⟨#[39]⟩] w fun e w' => e = .returned (.string ⟨(chW 39 39).toArray⟩) ∧ Below w.heap.size w w' := by
  have hq := q39
  go_enter Tryd.func58, Tryd.ntmps58
  go_wp2
  go_ret
  exact ⟨by kernel_rfl, Below.refl _ _⟩
set_option maxRecDepth 100000 in
set_option maxHeartbeats 4000000 in
theorem written39_hex (c : Nat) (hc : c < 32 ∨ c = 127) (h1 : c ≠ 10) (h2 : c ≠ 9) (h3 : c ≠ 13) (w : World) : Calls Tryd.prog 58 #[.int .i64 (c : Int), .string ⟨#[39]⟩] w fun e w' => e = .returned (.string ⟨(chW 39 c).toArray⟩) ∧ Below w.heap.size w w' := by
  have f1 : ((c : Int) == 10) = false := by simp; omega
  have f2 : ((c : Int) == 9) = false := by simp; omega
  have f3 : ((c : Int) == 13) = false := by simp; omega
  have f4 : ((c : Int) == 92) = false := by simp; omega
  have f5 : ((c : Int) == 39) = false := by simp; omega
  have hq := q39
  have cD := digits16 c (by omega)
  have hz := hexL_size c
  have hS : chW 39 c = [92, 117, 123] ++ hexL c ++ [125] := by unfold chW; rw [if_neg h1, if_neg h2, if_neg h3, if_pos hc]
  have hE : (⟨#[92, 117, 123]⟩ : ByteArray) ++ ⟨(hexL c).toArray⟩ ++ ⟨#[125]⟩ = ⟨(chW 39 c).toArray⟩ := by rw [hS]; apply ByteArray.ext; simp [ByteArray.data_append]
  rw [← hE]
  clear hE hS
  have a2 := fun w => run_string_add_sum (P := Tryd.prog) w ⟨#[92, 117, 123]⟩ ⟨(hexL c).toArray⟩ (by rw [fb3]; omega)
  have a3 := fun w => run_string_add_sum (P := Tryd.prog) w (⟨#[92, 117, 123]⟩ ++ ⟨(hexL c).toArray⟩) ⟨#[125]⟩ (by rw [ByteArray.size_append, fb1, fb3]; omega)
  by_cases h7 : c < 32
  · have h7' : (c : Int) < 32 := by omega
    go_enter Tryd.func58, Tryd.ntmps58
    go_wp2_with (go_at_call 38; with_reducible refine (cD _).mono ?_; rintro e w1 ⟨rfl, b1⟩)
    go_ret
    exact ⟨rfl, b1⟩
  · have h7' : ¬ (c : Int) < 32 := by omega
    have f7 : ((c : Int) == 127) = true := by simp; omega
    go_enter Tryd.func58, Tryd.ntmps58
    go_wp2_with (go_at_call 38; with_reducible refine (cD _).mono ?_; rintro e w1 ⟨rfl, b1⟩)
    go_ret
    exact ⟨rfl, b1⟩
set_option maxRecDepth 100000 in
set_option maxHeartbeats 4000000 in
theorem written39_own (c : Nat) (hm : c ≤ 1114111) (hc : ¬ (c < 32 ∨ c = 127)) (h4 : c ≠ 92) (h5 : c ≠ 39) (w : World) : Calls Tryd.prog 58 #[.int .i64 (c : Int), .string ⟨#[39]⟩] w fun e w' => e = .returned (.string ⟨(chW 39 c).toArray⟩) ∧ Below w.heap.size w w' := by
  have f1 : ((c : Int) == 10) = false := by simp; omega
  have f2 : ((c : Int) == 9) = false := by simp; omega
  have f3 : ((c : Int) == 13) = false := by simp; omega
  have f4 : ((c : Int) == 92) = false := by simp; omega
  have f5 : ((c : Int) == 39) = false := by simp; omega
  have f7 : ((c : Int) == 127) = false := by simp; omega
  have hq := q39
  have h7' : ¬ (c : Int) < 32 := by omega
  have hw : IntKind.i32.wrap (c : Int) = c := by unfold IntKind.wrap; simp [IntKind.bits, IntKind.signed]; omega
  have hS : chW 39 c = Lib.encodeRune (c : Int) := by unfold chW; rw [if_neg (by omega), if_neg (by omega), if_neg (by omega), if_neg hc, if_neg (by omega)]
  rw [hS, ← encB]
  go_enter Tryd.func58, Tryd.ntmps58
  go_wp2
  go_ret
  exact ⟨rfl, Below.refl _ _⟩
theorem written39 (c : Nat) (hm : c ≤ 1114111) (w : World) : Calls Tryd.prog 58 #[.int .i64 (c : Int), .string ⟨#[39]⟩] w fun e w' => e = .returned (.string ⟨(chW 39 c).toArray⟩) ∧ Below w.heap.size w w' := by
  by_cases h1 : c = 10
  · subst h1; exact written39_10 w
  by_cases h2 : c = 9
  · subst h2; exact written39_9 w
  by_cases h3 : c = 13
  · subst h3; exact written39_13 w
  by_cases h4 : c = 92
  · subst h4; exact written39_92 w
  by_cases h5 : c = 39
  · subst h5; exact written39_39 w
  by_cases hc : c < 32 ∨ c = 127
  · exact written39_hex c hc h1 h2 h3 w
  · exact written39_own c hm hc h4 h5 w
set_option maxRecDepth 100000 in
set_option maxHeartbeats 2000000 in
theorem written34_10 (w : World) : Calls Tryd.prog 58 #[.int .i64 10, .string ⟨#[34]⟩] w fun e w' => e = .returned (.string ⟨(chW 34 10).toArray⟩) ∧ Below w.heap.size w w' := by
  have hq := q34
  go_enter Tryd.func58, Tryd.ntmps58
  go_wp2
  go_ret
  exact ⟨by kernel_rfl, Below.refl _ _⟩
set_option maxRecDepth 100000 in
set_option maxHeartbeats 2000000 in
theorem written34_9 (w : World) : Calls Tryd.prog 58 #[.int .i64 9, .string ⟨#[34]⟩] w fun e w' => e = .returned (.string ⟨(chW 34 9).toArray⟩) ∧ Below w.heap.size w w' := by
  have hq := q34
  go_enter Tryd.func58, Tryd.ntmps58
  go_wp2
  go_ret
  exact ⟨by kernel_rfl, Below.refl _ _⟩
set_option maxRecDepth 100000 in
set_option maxHeartbeats 2000000 in
theorem written34_13 (w : World) : Calls Tryd.prog 58 #[.int .i64 13, .string ⟨#[34]⟩] w fun e w' => e = .returned (.string ⟨(chW 34 13).toArray⟩) ∧ Below w.heap.size w w' := by
  have hq := q34
  go_enter Tryd.func58, Tryd.ntmps58
  go_wp2
  go_ret
  exact ⟨by kernel_rfl, Below.refl _ _⟩
set_option maxRecDepth 100000 in
set_option maxHeartbeats 2000000 in
theorem written34_92 (w : World) : Calls Tryd.prog 58 #[.int .i64 92, .string ⟨#[34]⟩] w fun e w' => e = .returned (.string ⟨(chW 34 92).toArray⟩) ∧ Below w.heap.size w w' := by
  have hq := q34
  go_enter Tryd.func58, Tryd.ntmps58
  go_wp2
  go_ret
  exact ⟨by kernel_rfl, Below.refl _ _⟩
set_option maxRecDepth 100000 in
set_option maxHeartbeats 2000000 in
theorem written34_34 (w : World) : Calls Tryd.prog 58 #[.int .i64 34, .string ⟨#[34]⟩] w fun e w' => e = .returned (.string ⟨(chW 34 34).toArray⟩) ∧ Below w.heap.size w w' := by
  have hq := q34
  go_enter Tryd.func58, Tryd.ntmps58
  go_wp2
  go_ret
  exact ⟨by kernel_rfl, Below.refl _ _⟩
set_option maxRecDepth 100000 in
set_option maxHeartbeats 4000000 in
theorem written34_hex (c : Nat) (hc : c < 32 ∨ c = 127) (h1 : c ≠ 10) (h2 : c ≠ 9) (h3 : c ≠ 13) (w : World) : Calls Tryd.prog 58 #[.int .i64 (c : Int), .string ⟨#[34]⟩] w fun e w' => e = .returned (.string ⟨(chW 34 c).toArray⟩) ∧ Below w.heap.size w w' := by
  have f1 : ((c : Int) == 10) = false := by simp; omega
  have f2 : ((c : Int) == 9) = false := by simp; omega
  have f3 : ((c : Int) == 13) = false := by simp; omega
  have f4 : ((c : Int) == 92) = false := by simp; omega
  have f5 : ((c : Int) == 34) = false := by simp; omega
  have hq := q34
  have cD := digits16 c (by omega)
  have hz := hexL_size c
  have hS : chW 34 c = [92, 117, 123] ++ hexL c ++ [125] := by unfold chW; rw [if_neg h1, if_neg h2, if_neg h3, if_pos hc]
  have hE : (⟨#[92, 117, 123]⟩ : ByteArray) ++ ⟨(hexL c).toArray⟩ ++ ⟨#[125]⟩ = ⟨(chW 34 c).toArray⟩ := by rw [hS]; apply ByteArray.ext; simp [ByteArray.data_append]
  rw [← hE]
  clear hE hS
  have a2 := fun w => run_string_add_sum (P := Tryd.prog) w ⟨#[92, 117, 123]⟩ ⟨(hexL c).toArray⟩ (by rw [fb3]; omega)
  have a3 := fun w => run_string_add_sum (P := Tryd.prog) w (⟨#[92, 117, 123]⟩ ++ ⟨(hexL c).toArray⟩) ⟨#[125]⟩ (by rw [ByteArray.size_append, fb1, fb3]; omega)
  by_cases h7 : c < 32
  · have h7' : (c : Int) < 32 := by omega
    go_enter Tryd.func58, Tryd.ntmps58
    go_wp2_with (go_at_call 38; with_reducible refine (cD _).mono ?_; rintro e w1 ⟨rfl, b1⟩)
    go_ret
    exact ⟨rfl, b1⟩
  · have h7' : ¬ (c : Int) < 32 := by omega
    have f7 : ((c : Int) == 127) = true := by simp; omega
    go_enter Tryd.func58, Tryd.ntmps58
    go_wp2_with (go_at_call 38; with_reducible refine (cD _).mono ?_; rintro e w1 ⟨rfl, b1⟩)
    go_ret
    exact ⟨rfl, b1⟩
set_option maxRecDepth 100000 in
set_option maxHeartbeats 4000000 in
theorem written34_own (c : Nat) (hm : c ≤ 1114111) (hc : ¬ (c < 32 ∨ c = 127)) (h4 : c ≠ 92) (h5 : c ≠ 34) (w : World) : Calls Tryd.prog 58 #[.int .i64 (c : Int), .string ⟨#[34]⟩] w fun e w' => e = .returned (.string ⟨(chW 34 c).toArray⟩) ∧ Below w.heap.size w w' := by
  have f1 : ((c : Int) == 10) = false := by simp; omega
  have f2 : ((c : Int) == 9) = false := by simp; omega
  have f3 : ((c : Int) == 13) = false := by simp; omega
  have f4 : ((c : Int) == 92) = false := by simp; omega
  have f5 : ((c : Int) == 34) = false := by simp; omega
  have f7 : ((c : Int) == 127) = false := by simp; omega
  have hq := q34
  have h7' : ¬ (c : Int) < 32 := by omega
  have hw : IntKind.i32.wrap (c : Int) = c := by unfold IntKind.wrap; simp [IntKind.bits, IntKind.signed]; omega
  have hS : chW 34 c = Lib.encodeRune (c : Int) := by unfold chW; rw [if_neg (by omega), if_neg (by omega), if_neg (by omega), if_neg hc, if_neg (by omega)]
  rw [hS, ← encB]
  go_enter Tryd.func58, Tryd.ntmps58
  go_wp2
  go_ret
  exact ⟨rfl, Below.refl _ _⟩
theorem written34 (c : Nat) (hm : c ≤ 1114111) (w : World) : Calls Tryd.prog 58 #[.int .i64 (c : Int), .string ⟨#[34]⟩] w fun e w' => e = .returned (.string ⟨(chW 34 c).toArray⟩) ∧ Below w.heap.size w w' := by
  by_cases h1 : c = 10
  · subst h1; exact written34_10 w
  by_cases h2 : c = 9
  · subst h2; exact written34_9 w
  by_cases h3 : c = 13
  · subst h3; exact written34_13 w
  by_cases h4 : c = 92
  · subst h4; exact written34_92 w
  by_cases h5 : c = 34
  · subst h5; exact written34_34 w
  by_cases hc : c < 32 ∨ c = 127
  · exact written34_hex c hc h1 h2 h3 w
  · exact written34_own c hm hc h4 h5 w
end Go.Proofs.YthjappkcbdaifaaDoor.Tok
