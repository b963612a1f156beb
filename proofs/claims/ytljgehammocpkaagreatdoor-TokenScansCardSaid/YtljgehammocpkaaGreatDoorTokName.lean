/-
  Layer 8: the reference's IsName, of a name.
-/
import Derived.Test.YtljgehammocpkaaGreatDoorTokPl0
namespace Go.Proofs.YtljgehammocpkaaGreatDoor.Tok
open Go.RowKit
set_option linter.unusedVariables false

set_option maxRecDepth 100000 in
set_option maxHeartbeats 2000000 in
theorem smallR (c : Nat) (w : World) : Calls Tryz.prog 121 #[.int .u8 (c : Int)] w fun e w' => e = .returned (.bool (decide (97 ≤ c ∧ c ≤ 122))) ∧ w = w' := by
  by_cases h1 : 97 ≤ c
  · by_cases h2 : c ≤ 122
    · rw [decide_eq_true ⟨h1, h2⟩]
      have e : decide ((c : Int) ≤ 122) = true := decide_eq_true (by omega)
      go_enter Tryz.func121, Tryz.ntmps121
      go_wp2
      go_ret
      exact ⟨rfl, rfl⟩
    · rw [decide_eq_false (fun h => h2 h.2)]
      have e : decide ((c : Int) ≤ 122) = false := decide_eq_false (by omega)
      go_enter Tryz.func121, Tryz.ntmps121
      go_wp2
      go_ret
      exact ⟨rfl, rfl⟩
  · rw [decide_eq_false (fun h => h1 h.1)]
    go_enter Tryz.func121, Tryz.ntmps121
    go_wp2
    go_ret
    exact ⟨rfl, rfl⟩
set_option maxRecDepth 100000 in
set_option maxHeartbeats 2000000 in
theorem digitR (c : Nat) (h1 : 48 ≤ c) (h2 : c ≤ 57) (w : World) : Calls Tryz.prog 73 #[.int .u8 (c : Int)] w fun e w' => e = .returned (.bool true) ∧ w = w' := by
  have e : decide ((c : Int) ≤ 57) = true := decide_eq_true (by omega)
  go_enter Tryz.func73, Tryz.ntmps73
  go_wp2
  go_ret
  exact ⟨rfl, rfl⟩
theorem smallT (c : Nat) (h1 : 97 ≤ c) (h2 : c ≤ 122) (w : World) : Calls Tryz.prog 121 #[.int .u8 (c : Int)] w fun e w' => e = .returned (.bool true) ∧ w = w' := by
  have := smallR c w
  rw [decide_eq_true ⟨h1, h2⟩] at this
  exact this
theorem smallF (c : Nat) (h2 : c ≤ 57) (w : World) : Calls Tryz.prog 121 #[.int .u8 (c : Int)] w fun e w' => e = .returned (.bool false) ∧ w = w' := by
  have := smallR c w
  rw [decide_eq_false (by omega)] at this
  exact this
set_option maxRecDepth 100000 in
set_option maxHeartbeats 8000000 in
theorem plainR (t : ByteArray) (hN : Named t) (w : World) : Calls Tryz.prog 123 #[.string t] w fun e w' => e = .returned (.bool true) ∧ w = w' := by
  obtain ⟨n, hn⟩ : ∃ n, t.size = n := ⟨_, rfl⟩
  have hpos := hN.pos
  have hsm := hN.small
  have hx : ((n : Int) == 0) = false := by simp; omega
  have hf := hN.first hpos
  have ha := hN.all
  have hcb0 : (t[0].toNat : Int) ≤ 255 := by have := t[0].toNat_lt; omega
  have n1 : (n : Int) ≤ 32 := by omega
  unfold lowC at hf
  clear hN
  go_enter Tryz.func123, Tryz.ntmps123
  go_wp2_with (go_at_call 121; with_reducible refine (smallT _ hf.1 hf.2 _).mono ?_; rintro e1 w1 ⟨rfl, rfl⟩)
  go_loopw [3] (fun i wr => ∃ j : Nat, j ≤ n ∧ i = .int .i64 (j : Int) ∧ w = wr) (fun i _ => n - (intOf i).toNat)
  case atStart => exact ⟨0, Nat.zero_le _, rfl, by first | rfl | trivial⟩
  case round =>
    obtain ⟨j, hj, rfl, rfl⟩ := hrel
    by_cases hlt : j < n
    · have hlt' : (j : Int) < (n : Int) := by omega
      have hjs : j < t.size := by rw [hn]; exact hlt
      have hcb : (t[j].toNat : Int) ≤ 255 := by have := t[j].toNat_lt; omega
      rcases ha j hjs with h | h
      · unfold lowC at h
        go_wp2_with (go_at_call 121; with_reducible refine (smallT _ h.1 h.2 _).mono ?_; rintro e1 w1 ⟨rfl, rfl⟩)
        go_roundw
        case rel => exact ⟨j + 1, by omega, by go_num, by first | rfl | trivial⟩
        case measure => simp [intOf]; omega
      · unfold digC at h
        go_wp2_with (first
          | (go_at_call 121; with_reducible refine (smallF _ h.2 _).mono ?_; rintro e1 w1 ⟨rfl, rfl⟩)
          | (go_at_call 73; with_reducible refine (digitR _ h.1 h.2 _).mono ?_; rintro e2 w2 ⟨rfl, rfl⟩))
        go_roundw
        case rel => exact ⟨j + 1, by omega, by go_num, by first | rfl | trivial⟩
        case measure => simp [intOf]; omega
    · obtain rfl : j = n := by omega
      go_wp2
      go_ret
      exact ⟨rfl, rfl⟩
end Go.Proofs.YtljgehammocpkaaGreatDoor.Tok
