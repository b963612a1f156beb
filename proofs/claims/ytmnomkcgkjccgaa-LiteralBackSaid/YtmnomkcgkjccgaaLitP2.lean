/-
  Layer 9: the program's hex and short.
-/
import Derived.Test.YtmnomkcgkjccgaaLitP1
namespace Go.Proofs.Ytmnomkcgkjccgaa.Lit
open Go.RowKit
set_option linter.unusedVariables false
set_option linter.unusedSimpArgs false

theorem hx1_bd (k : Nat) (h : k < 16) : (hx1 k).toNat < 128 := by
  have : k = 0 ∨ k = 1 ∨ k = 2 ∨ k = 3 ∨ k = 4 ∨ k = 5 ∨ k = 6 ∨ k = 7 ∨ k = 8 ∨ k = 9 ∨ k = 10 ∨ k = 11 ∨ k = 12 ∨ k = 13 ∨ k = 14 ∨ k = 15 := by omega
  rcases this with rfl | rfl | rfl | rfl | rfl | rfl | rfl | rfl | rfl | rfl | rfl | rfl | rfl | rfl | rfl | rfl <;> decide
theorem hx1_at (k : Nat) (h : k < 16) (hs : k < (⟨#[48, 49, 50, 51, 52, 53, 54, 55, 56, 57, 97, 98, 99, 100, 101, 102]⟩ : ByteArray).size) : (⟨#[48, 49, 50, 51, 52, 53, 54, 55, 56, 57, 97, 98, 99, 100, 101, 102]⟩ : ByteArray)[k] = hx1 k := by
  have : k = 0 ∨ k = 1 ∨ k = 2 ∨ k = 3 ∨ k = 4 ∨ k = 5 ∨ k = 6 ∨ k = 7 ∨ k = 8 ∨ k = 9 ∨ k = 10 ∨ k = 11 ∨ k = 12 ∨ k = 13 ∨ k = 14 ∨ k = 15 := by omega
  rcases this with rfl | rfl | rfl | rfl | rfl | rfl | rfl | rfl | rfl | rfl | rfl | rfl | rfl | rfl | rfl | rfl <;> rfl
theorem hx1_enc (k : Nat) (h : k < 16) : Utf8.encode ((hx1 k).toNat : Int) = ⟨#[hx1 k]⟩ := by
  rw [encB, enc_ascii _ (hx1_bd k h)]
  have : UInt8.ofNat (hx1 k).toNat = hx1 k := by simp
  rw [this]

set_option maxRecDepth 100000 in
set_option maxHeartbeats 4000000 in
theorem hex1 (K : Nat) (hK : K < 16) (w : World) : Calls Try.prog 20 #[.int .i32 (K : Int)] w fun e w' => e = .returned (.string ⟨#[hx1 K]⟩) ∧ Below w.heap.size w w' := by
  have e1 : (K : Int).tmod 16 = (K : Int) := by rw [Int.tmod_eq_emod_of_nonneg (by omega)]; omega
  have hlt : (K : Int) < 16 := by omega
  have hat := fun h => hx1_at K hK h
  have hen := hx1_enc K hK
  have hb := hx1_bd K hK
  have hw : IntKind.i32.wrap ((hx1 K).toNat : Int) = ((hx1 K).toNat : Int) := by unfold IntKind.wrap; simp [IntKind.bits, IntKind.signed]; omega
  go_enter Try.func20, Try.ntmps20
  go_wp2
  go_ret
  exact ⟨rfl, Below.refl _ _⟩
set_option maxRecDepth 100000 in
set_option maxHeartbeats 4000000 in
theorem hex2 (c q K : Nat) (hc : c < 256) (hq : q < 16) (hK : K < 16) (hge : 16 ≤ c) (e0 : c / 16 = q) (e00 : c % 16 = K) (w : World) : Calls Try.prog 20 #[.int .i32 (c : Int)] w fun e w' => e = .returned (.string ⟨#[hx1 q, hx1 K]⟩) ∧ Below w.heap.size w w' := by
  have e1 : (c : Int).tmod 16 = (K : Int) := by rw [Int.tmod_eq_emod_of_nonneg (by omega)]; omega
  have e2 : (c : Int).tdiv 16 = (q : Int) := by rw [Int.tdiv_eq_ediv_of_nonneg (by omega)]; omega
  have e3 : (c : Int) / 16 = (q : Int) := by omega
  have e4 : (c : Int) % 16 = (K : Int) := by omega
  have hlt : ¬ (c : Int) < 16 := by omega
  have hat := fun h => hx1_at K hK h
  have hen := hx1_enc K hK
  have hb := hx1_bd K hK
  have cR := hex1 q hq
  have hw : IntKind.i32.wrap ((hx1 K).toNat : Int) = ((hx1 K).toNat : Int) := by unfold IntKind.wrap; simp [IntKind.bits, IntKind.signed]; omega
  have hw2 : IntKind.i32.wrap (q : Int) = (q : Int) := by unfold IntKind.wrap; simp [IntKind.bits, IntKind.signed]; omega
  have ha : (⟨#[hx1 q]⟩ : ByteArray) ++ ⟨#[hx1 K]⟩ = ⟨#[hx1 q, hx1 K]⟩ := rfl
  have hsz : (⟨#[hx1 q]⟩ : ByteArray).size = 1 := rfl
  clear e0 e00
  go_enter Try.func20, Try.ntmps20
  go_wp2_with (go_at_call 20; with_reducible refine (cR _).mono ?_; rintro e w1 ⟨rfl, b1⟩)
  go_ret
  exact ⟨rfl, b1⟩
theorem hexQ (c : Nat) (hc : c < 256) (w : World) : Calls Try.prog 20 #[.int .i32 (c : Int)] w fun e w' => e = .returned (.string ⟨(hexL c).toArray⟩) ∧ Below w.heap.size w w' := by
  unfold hexL
  by_cases h : c < 16
  · rw [if_pos h]; exact hex1 c h w
  · rw [if_neg h]; exact hex2 c (c / 16) (c % 16) hc (by omega) (by omega) (by omega) rfl rfl w
end Go.Proofs.Ytmnomkcgkjccgaa.Lit
