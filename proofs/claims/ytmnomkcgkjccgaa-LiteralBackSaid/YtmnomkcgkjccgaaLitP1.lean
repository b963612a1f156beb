/-
  Layer 9: the program's small functions: isCharacter, hexValue, hex, short.
-/
import Derived.Test.YtmnomkcgkjccgaaLitOwn
namespace Go.Proofs.Ytmnomkcgkjccgaa.Lit
open Go.RowKit
set_option linter.unusedVariables false
set_option linter.unusedSimpArgs false

def isChZ (c : Int) : Bool := decide (0 ≤ c ∧ c ≤ 1114111 ∧ (c < 55296 ∨ 57343 < c))
set_option maxRecDepth 100000 in
set_option maxHeartbeats 4000000 in
theorem isCharQ (c : Int) (w : World) : Calls Try.prog 18 #[.int .i32 c] w fun e w' => e = .returned (.bool (isChZ c)) ∧ w = w' := by
  by_cases h1 : 0 ≤ c
  · by_cases h2 : c ≤ 1114111
    · by_cases h3 : c < 55296
      · have hz : isChZ c = true := decide_eq_true ⟨h1, h2, Or.inl h3⟩
        rw [hz]
        go_enter Try.func18, Try.ntmps18
        go_wp2
        go_ret
        exact ⟨rfl, rfl⟩
      · by_cases h4 : 57343 < c
        · have hz : isChZ c = true := decide_eq_true ⟨h1, h2, Or.inr h4⟩
          have hd : decide (57343 < c) = true := decide_eq_true h4
          rw [hz, ← hd]
          go_enter Try.func18, Try.ntmps18
          go_wp2
          go_ret
          exact ⟨rfl, rfl⟩
        · have hz : isChZ c = false := decide_eq_false (by omega)
          have hd : decide (57343 < c) = false := decide_eq_false h4
          rw [hz, ← hd]
          go_enter Try.func18, Try.ntmps18
          go_wp2
          go_ret
          exact ⟨rfl, rfl⟩
    · have hz : isChZ c = false := decide_eq_false (by omega)
      rw [hz]
      go_enter Try.func18, Try.ntmps18
      go_wp2
      go_ret
      exact ⟨rfl, rfl⟩
  · have hz : isChZ c = false := decide_eq_false (by omega)
    rw [hz]
    go_enter Try.func18, Try.ntmps18
    go_wp2
    go_ret
    exact ⟨rfl, rfl⟩

def hexR : Option Nat → Value
  | some v => .tuple #[.int .i32 (v : Int), .bool true]
  | none => .tuple #[.int .i32 0, .bool false]
set_option maxRecDepth 100000 in
set_option maxHeartbeats 4000000 in
theorem hexValQ (c : Nat) (hc : c ≤ 1114111) (w : World) : Calls Try.prog 29 #[.int .i32 (c : Int)] w fun e w' => e = .returned (hexR (hexV c)) ∧ w = w' := by
  by_cases h1 : 48 ≤ c ∧ c ≤ 57
  · have hz : hexV c = some (c - 48) := by unfold hexV; rw [if_pos h1]
    rw [hz]
    obtain ⟨k1, k2⟩ := h1
    have e : ((c - 48 : Nat) : Int) = (c : Int) - 48 := by omega
    have a1 : (48 : Int) ≤ c := by omega
    have a2 : (c : Int) ≤ 57 := by omega
    rw [hexR, e]
    go_enter Try.func29, Try.ntmps29
    go_wp2
    go_ret2
    exact ⟨rfl, rfl⟩
  · by_cases h2 : 97 ≤ c ∧ c ≤ 102
    · have hz : hexV c = some (c - 87) := by unfold hexV; rw [if_neg h1, if_pos h2]
      rw [hz]
      obtain ⟨k1, k2⟩ := h2
      have e : ((c - 87 : Nat) : Int) = (c : Int) - 97 + 10 := by omega
      have a0 : (48 : Int) ≤ c := by omega
      have a1 : (97 : Int) ≤ c := by omega
      have a2 : (c : Int) ≤ 102 := by omega
      have a3 : ¬ (c : Int) ≤ 57 := by omega
      rw [hexR, e]
      go_enter Try.func29, Try.ntmps29
      go_wp2
      go_ret2
      exact ⟨rfl, rfl⟩
    · have hz : hexV c = none := by unfold hexV; rw [if_neg h1, if_neg h2]
      rw [hz]
      rw [hexR]
      by_cases b1 : c < 48
      · have a1 : ¬ (48 : Int) ≤ c := by omega
        have a2 : ¬ (97 : Int) ≤ c := by omega
        go_enter Try.func29, Try.ntmps29
        go_wp2
        go_ret2
        exact ⟨rfl, rfl⟩
      · by_cases b2 : c < 97
        · have a0 : (48 : Int) ≤ c := by omega
          have a1 : ¬ (c : Int) ≤ 57 := by omega
          have a2 : ¬ (97 : Int) ≤ c := by omega
          go_enter Try.func29, Try.ntmps29
          go_wp2
          go_ret2
          exact ⟨rfl, rfl⟩
        · have a0 : (48 : Int) ≤ c := by omega
          have a1 : ¬ (c : Int) ≤ 57 := by omega
          have a2 : (97 : Int) ≤ c := by omega
          have a3 : ¬ (c : Int) ≤ 102 := by omega
          go_enter Try.func29, Try.ntmps29
          go_wp2
          go_ret2
          exact ⟨rfl, rfl⟩
end Go.Proofs.Ytmnomkcgkjccgaa.Lit
