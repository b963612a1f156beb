/-
  Layer 9: the reference's Is and Encode. (Written by wip/gen/literal-enc.py.)
-/
import Derived.Test.YtmnomkcgkjccgaaLitP3
namespace Go.Proofs.Ytmnomkcgkjccgaa.Lit
open Go.RowKit
set_option linter.unusedVariables false
set_option linter.unusedSimpArgs false

theorem OB.lit (w : World) (cs : Array Value) (L : List UInt8) (hc : cs = (bc L).toArray) (hl : L.length ≤ 1000) : OB (w.alloc (.cells cs 5)) w.heap.size (.slice (some ⟨w.heap.size, 0, none⟩) L.length L.length) L := by
  subst hc
  have h := World.ownsRow_lit (base := w.heap.size) (e := 5) (size := 1) w (bc L).toArray L.length (Nat.le_refl _) (by unfold maxLen; omega) (by simp [bc])
  exact h
set_option maxRecDepth 100000 in
set_option maxHeartbeats 4000000 in
theorem isR (c : Int) (w : World) : Calls Try.prog 11 #[.int .i64 c] w fun e w' => e = .returned (.bool (isChZ c)) ∧ w = w' := by
  by_cases h1 : 0 ≤ c
  · by_cases h2 : c ≤ 1114111
    · by_cases h3 : c < 55296
      · have hz : isChZ c = true := decide_eq_true ⟨h1, h2, Or.inl h3⟩
        rw [hz]
        go_enter Try.func11, Try.ntmps11
        go_wp2
        go_ret
        exact ⟨rfl, rfl⟩
      · by_cases h4 : 57343 < c
        · have hz : isChZ c = true := decide_eq_true ⟨h1, h2, Or.inr h4⟩
          have hd : decide (57343 < c) = true := decide_eq_true h4
          rw [hz, ← hd]
          go_enter Try.func11, Try.ntmps11
          go_wp2
          go_ret
          exact ⟨rfl, rfl⟩
        · have hz : isChZ c = false := decide_eq_false (by omega)
          have hd : decide (57343 < c) = false := decide_eq_false h4
          rw [hz, ← hd]
          go_enter Try.func11, Try.ntmps11
          go_wp2
          go_ret
          exact ⟨rfl, rfl⟩
    · have hz : isChZ c = false := decide_eq_false (by omega)
      rw [hz]
      go_enter Try.func11, Try.ntmps11
      go_wp2
      go_ret
      exact ⟨rfl, rfl⟩
  · have hz : isChZ c = false := decide_eq_false (by omega)
    rw [hz]
    go_enter Try.func11, Try.ntmps11
    go_wp2
    go_ret
    exact ⟨rfl, rfl⟩
theorem bytes1 (w : World) (z0 : Int) (b0 : UInt8) (h0 : z0 = (b0.toNat : Int)) :
    (convert 36 9 (.slice (some ⟨w.heap.size, 0, none⟩) 1 1)).run Try.prog (w.alloc (.cells #[.int .u8 z0] 5)) = .ok (.string ⟨#[b0]⟩) (w.alloc (.cells #[.int .u8 z0] 5)) := by
  subst h0
  exact (OB.lit w _ [b0] rfl (by simp)).text
theorem bytes2 (w : World) (z0 z1 : Int) (b0 b1 : UInt8) (h0 : z0 = (b0.toNat : Int)) (h1 : z1 = (b1.toNat : Int)) :
    (convert 36 9 (.slice (some ⟨w.heap.size, 0, none⟩) 2 2)).run Try.prog (w.alloc (.cells #[.int .u8 z0, .int .u8 z1] 5)) = .ok (.string ⟨#[b0, b1]⟩) (w.alloc (.cells #[.int .u8 z0, .int .u8 z1] 5)) := by
  subst h0 h1
  exact (OB.lit w _ [b0, b1] rfl (by simp)).text
theorem bytes3 (w : World) (z0 z1 z2 : Int) (b0 b1 b2 : UInt8) (h0 : z0 = (b0.toNat : Int)) (h1 : z1 = (b1.toNat : Int)) (h2 : z2 = (b2.toNat : Int)) :
    (convert 36 9 (.slice (some ⟨w.heap.size, 0, none⟩) 3 3)).run Try.prog (w.alloc (.cells #[.int .u8 z0, .int .u8 z1, .int .u8 z2] 5)) = .ok (.string ⟨#[b0, b1, b2]⟩) (w.alloc (.cells #[.int .u8 z0, .int .u8 z1, .int .u8 z2] 5)) := by
  subst h0 h1 h2
  exact (OB.lit w _ [b0, b1, b2] rfl (by simp)).text
theorem bytes4 (w : World) (z0 z1 z2 z3 : Int) (b0 b1 b2 b3 : UInt8) (h0 : z0 = (b0.toNat : Int)) (h1 : z1 = (b1.toNat : Int)) (h2 : z2 = (b2.toNat : Int)) (h3 : z3 = (b3.toNat : Int)) :
    (convert 36 9 (.slice (some ⟨w.heap.size, 0, none⟩) 4 4)).run Try.prog (w.alloc (.cells #[.int .u8 z0, .int .u8 z1, .int .u8 z2, .int .u8 z3] 5)) = .ok (.string ⟨#[b0, b1, b2, b3]⟩) (w.alloc (.cells #[.int .u8 z0, .int .u8 z1, .int .u8 z2, .int .u8 z3] 5)) := by
  subst h0 h1 h2 h3
  exact (OB.lit w _ [b0, b1, b2, b3] rfl (by simp)).text
theorem u8_nat (x : Nat) (h : x < 256) : ((UInt8.ofNat x).toNat : Int) = (x : Int) := by rw [ofNat_nat x h]
theorem wrap8 (z : Int) (h0 : 0 ≤ z) (h1 : z < 256) : IntKind.u8.wrap z = z := by
  unfold IntKind.wrap
  simp [IntKind.bits, IntKind.signed]
  omega
set_option maxRecDepth 100000 in
set_option maxHeartbeats 4000000 in
theorem enc1R (c : Nat) (hc : c < 128) (w : World) : Calls Try.prog 13 #[.int .i64 (c : Int)] w fun e w' => e = .returned (.string ⟨#[UInt8.ofNat (c)]⟩) ∧ Below w.heap.size w w' := by
  have k1 : (c : Int) < 128 := by omega
  have hcv := bytes1 w ((c : Int)) (UInt8.ofNat (c)) (by rw [u8_nat _ (by omega)] <;> omega)
  have hw0 := wrap8 ((c : Int)) (by omega) (by omega)
  have B := below_new w (.cells #[.int .u8 ((c : Int))] 5)
  go_enter Try.func13, Try.ntmps13
  go_wp2
  go_ret
  exact ⟨rfl, B⟩
set_option maxRecDepth 100000 in
set_option maxHeartbeats 4000000 in
theorem enc2R (c k m : Nat) (h1 : 128 ≤ c) (hc : c < 2048) (d1 : (c : Int).tdiv 64 = (k : Int)) (e1 : (c : Int) / 64 = (k : Int)) (d2 : (c : Int).tmod 64 = (m : Int)) (e2 : (c : Int) % 64 = (m : Int)) (hk : k < 32) (hm : m < 64) (w : World) : Calls Try.prog 13 #[.int .i64 (c : Int)] w fun e w' => e = .returned (.string ⟨#[UInt8.ofNat (192 + k), UInt8.ofNat (128 + m)]⟩) ∧ Below w.heap.size w w' := by
  have k1 : ¬ (c : Int) < 128 := by omega
  have k2 : (c : Int) < 2048 := by omega
  have hcv := bytes2 w (192 + (k : Int)) (128 + (m : Int)) (UInt8.ofNat (192 + k)) (UInt8.ofNat (128 + m)) (by rw [u8_nat _ (by omega)] <;> omega) (by rw [u8_nat _ (by omega)] <;> omega)
  have hw0 := wrap8 (192 + (k : Int)) (by omega) (by omega)
  have hw1 := wrap8 (128 + (m : Int)) (by omega) (by omega)
  have B := below_new w (.cells #[.int .u8 (192 + (k : Int)), .int .u8 (128 + (m : Int))] 5)
  go_enter Try.func13, Try.ntmps13
  go_wp2
  go_ret
  exact ⟨rfl, B⟩
set_option maxRecDepth 100000 in
set_option maxHeartbeats 4000000 in
theorem enc3R (c k j m p : Nat) (h1 : 2048 ≤ c) (hc : c < 65536) (d1 : (c : Int).tdiv 4096 = (k : Int)) (e1 : (c : Int) / 4096 = (k : Int)) (d2 : (c : Int).tdiv 64 = (j : Int)) (e2 : (c : Int) / 64 = (j : Int)) (d3 : (j : Int).tmod 64 = (m : Int)) (e3 : (j : Int) % 64 = (m : Int)) (d4 : (c : Int).tmod 64 = (p : Int)) (e4 : (c : Int) % 64 = (p : Int)) (hk : k < 16) (hj : j < 1024) (hm : m < 64) (hp : p < 64) (w : World) : Calls Try.prog 13 #[.int .i64 (c : Int)] w fun e w' => e = .returned (.string ⟨#[UInt8.ofNat (224 + k), UInt8.ofNat (128 + m), UInt8.ofNat (128 + p)]⟩) ∧ Below w.heap.size w w' := by
  have k1 : ¬ (c : Int) < 128 := by omega
  have k2 : ¬ (c : Int) < 2048 := by omega
  have k3 : (c : Int) < 65536 := by omega
  have hcv := bytes3 w (224 + (k : Int)) (128 + (m : Int)) (128 + (p : Int)) (UInt8.ofNat (224 + k)) (UInt8.ofNat (128 + m)) (UInt8.ofNat (128 + p)) (by rw [u8_nat _ (by omega)] <;> omega) (by rw [u8_nat _ (by omega)] <;> omega) (by rw [u8_nat _ (by omega)] <;> omega)
  have hw0 := wrap8 (224 + (k : Int)) (by omega) (by omega)
  have hw1 := wrap8 (128 + (m : Int)) (by omega) (by omega)
  have hw2 := wrap8 (128 + (p : Int)) (by omega) (by omega)
  have B := below_new w (.cells #[.int .u8 (224 + (k : Int)), .int .u8 (128 + (m : Int)), .int .u8 (128 + (p : Int))] 5)
  go_enter Try.func13, Try.ntmps13
  go_wp2
  go_ret
  exact ⟨rfl, B⟩
set_option maxRecDepth 100000 in
set_option maxHeartbeats 4000000 in
theorem enc4R (c k i j m p q : Nat) (h1 : 65536 ≤ c) (hc : c ≤ 1114111) (d1 : (c : Int).tdiv 262144 = (k : Int)) (e1 : (c : Int) / 262144 = (k : Int)) (d2 : (c : Int).tdiv 4096 = (i : Int)) (e2 : (c : Int) / 4096 = (i : Int)) (d3 : (i : Int).tmod 64 = (m : Int)) (e3 : (i : Int) % 64 = (m : Int)) (d4 : (c : Int).tdiv 64 = (j : Int)) (e4 : (c : Int) / 64 = (j : Int)) (d5 : (j : Int).tmod 64 = (p : Int)) (e5 : (j : Int) % 64 = (p : Int)) (d6 : (c : Int).tmod 64 = (q : Int)) (e6 : (c : Int) % 64 = (q : Int)) (hk : k < 8) (hi : i < 1024) (hj : j < 65536) (hm : m < 64) (hp : p < 64) (hq : q < 64) (w : World) : Calls Try.prog 13 #[.int .i64 (c : Int)] w fun e w' => e = .returned (.string ⟨#[UInt8.ofNat (240 + k), UInt8.ofNat (128 + m), UInt8.ofNat (128 + p), UInt8.ofNat (128 + q)]⟩) ∧ Below w.heap.size w w' := by
  have k1 : ¬ (c : Int) < 128 := by omega
  have k2 : ¬ (c : Int) < 2048 := by omega
  have k3 : ¬ (c : Int) < 65536 := by omega
  have hcv := bytes4 w (240 + (k : Int)) (128 + (m : Int)) (128 + (p : Int)) (128 + (q : Int)) (UInt8.ofNat (240 + k)) (UInt8.ofNat (128 + m)) (UInt8.ofNat (128 + p)) (UInt8.ofNat (128 + q)) (by rw [u8_nat _ (by omega)] <;> omega) (by rw [u8_nat _ (by omega)] <;> omega) (by rw [u8_nat _ (by omega)] <;> omega) (by rw [u8_nat _ (by omega)] <;> omega)
  have hw0 := wrap8 (240 + (k : Int)) (by omega) (by omega)
  have hw1 := wrap8 (128 + (m : Int)) (by omega) (by omega)
  have hw2 := wrap8 (128 + (p : Int)) (by omega) (by omega)
  have hw3 := wrap8 (128 + (q : Int)) (by omega) (by omega)
  have B := below_new w (.cells #[.int .u8 (240 + (k : Int)), .int .u8 (128 + (m : Int)), .int .u8 (128 + (p : Int)), .int .u8 (128 + (q : Int))] 5)
  go_enter Try.func13, Try.ntmps13
  go_wp2
  go_ret
  exact ⟨rfl, B⟩
theorem encodeR (c : Nat) (h : c < 55296 ∨ (57343 < c ∧ c ≤ 1114111)) (w : World) : Calls Try.prog 13 #[.int .i64 (c : Int)] w fun e w' => e = .returned (.string ⟨(Lib.encodeRune (c : Int)).toArray⟩) ∧ Below w.heap.size w w' := by
  by_cases h1 : c < 128
  · rw [enc_ascii c h1]; exact enc1R c h1 w
  by_cases h2 : c < 2048
  · rw [enc2 c (by omega) h2]
    exact enc2R c (c / 64) (c % 64) (by omega) h2 (by rw [Int.tdiv_eq_ediv_of_nonneg (by omega)]; omega) (by omega) (by rw [Int.tmod_eq_emod_of_nonneg (by omega)]; omega) (by omega) (by omega) (by omega) w
  by_cases h3 : c < 65536
  · rw [enc3 c (by omega)]
    exact enc3R c (c / 4096) (c / 64) (c / 64 % 64) (c % 64) (by omega) h3 (by rw [Int.tdiv_eq_ediv_of_nonneg (by omega)]; omega) (by omega) (by rw [Int.tdiv_eq_ediv_of_nonneg (by omega)]; omega) (by omega) (by rw [Int.tmod_eq_emod_of_nonneg (by omega)]; omega) (by omega) (by rw [Int.tmod_eq_emod_of_nonneg (by omega)]; omega) (by omega) (by omega) (by omega) (by omega) (by omega) w
  · rw [enc4 c (by omega) (by omega)]
    exact enc4R c (c / 262144) (c / 4096) (c / 64) (c / 4096 % 64) (c / 64 % 64) (c % 64) (by omega) (by omega) (by rw [Int.tdiv_eq_ediv_of_nonneg (by omega)]; omega) (by omega) (by rw [Int.tdiv_eq_ediv_of_nonneg (by omega)]; omega) (by omega) (by rw [Int.tmod_eq_emod_of_nonneg (by omega)]; omega) (by omega) (by rw [Int.tdiv_eq_ediv_of_nonneg (by omega)]; omega) (by omega) (by rw [Int.tmod_eq_emod_of_nonneg (by omega)]; omega) (by omega) (by rw [Int.tmod_eq_emod_of_nonneg (by omega)]; omega) (by omega) (by omega) (by omega) (by omega) (by omega) (by omega) (by omega) w
end Go.Proofs.Ytmnomkcgkjccgaa.Lit
