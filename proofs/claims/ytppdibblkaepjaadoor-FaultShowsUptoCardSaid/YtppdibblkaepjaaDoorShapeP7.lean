/-
  Layer 2: the program's leading: the value of the first decimal place.
-/
import Derived.Test.YtppdibblkaepjaaDoorShapeP6
import Derived.Test.YtppdibblkaepjaaDoorShapeShowMath
namespace Go.Proofs.YtppdibblkaepjaaDoor.Shape
open Go.RowKit Go.Proofs.YtppdibblkaepjaaDoor.Num

/-- The last k digits of N, the first one being of weight 10 ^ (k - 1). -/
def dgs (N : Nat) : Nat → List UInt8
  | 0 => []
  | k + 1 => dig (N / 10 ^ k) :: dgs N k
theorem dgs_last (N k : Nat) : dgs N (k + 1) = dgs (N / 10) k ++ [dig N] := by
  induction k with
  | zero => simp [dgs]
  | succ k ih =>
    rw [dgs, ih, dgs, List.cons_append, Nat.pow_succ, Nat.mul_comm, ← Nat.div_div_eq_div_mul]
theorem dg_dgs : ∀ (e N : Nat), (e = 0 ∨ 10 ^ e ≤ N) → N / 10 ^ e < 10 → dg N = dgs N (e + 1)
  | 0, N, _, h => by
    rw [Nat.pow_zero, Nat.div_one] at h
    rw [dg_last h]; simp [dgs]
  | e + 1, N, h0, h => by
    have h1 : 10 ^ (e + 1) ≤ N := by rcases h0 with h0 | h0; cases h0; exact h0
    rw [Nat.pow_succ] at h1
    rw [Nat.pow_succ, Nat.mul_comm, ← Nat.div_div_eq_div_mul] at h
    have hp : 0 < 10 ^ e := Nat.pow_pos (by decide)
    rw [dg_more (by omega), dgs_last, dg_dgs e (N / 10) (Or.inr (by omega)) h]

set_option maxHeartbeats 400000 in
theorem leadP (N : Nat) (hN : N ≤ 9223372036854775808) (w : World) :
    Calls Tryd.prog 35 #[.int .u64 N] w fun en w' => ∃ e P : Nat, Hid (P = 10 ^ e) ∧ en = .returned (.int .u64 (P : Int)) ∧ (e = 0 ∨ P ≤ N) ∧ N / P < 10 ∧ w = w' := by
  go_enter Tryd.func35, Tryd.ntmps35
  go_wp2
  go_loop [3] (fun u => ∃ e P : Nat, P = 10 ^ e ∧ u = .int .u64 (P : Int) ∧ (e = 0 ∨ P ≤ N)) (fun u => N / (intOf u).toNat)
  case atStart => exact ⟨0, 1, rfl, rfl, Or.inl rfl⟩
  case round =>
    obtain ⟨e, P, hP, rfl, he⟩ := hrel
    have hp : 1 ≤ P := by rw [hP]; exact Nat.pow_pos (by decide)
    have q0 : Int.tdiv (N : Int) (P : Int) = ((N / P : Nat) : Int) := by rw [Int.tdiv_eq_ediv_of_nonneg (by omega)]; rfl
    have HP : Hid (P = 10 ^ e) := hP
    clear hP
    have hmul := Nat.div_mul_le_self N P
    have hne : (P : Int) ≠ 0 := by omega
    have hQN : N / P ≤ N := Nat.div_le_self _ _
    have hwq : IntKind.u64.wrap ((N / P : Nat) : Int) = ((N / P : Nat) : Int) := by
      generalize N / P = Q at hQN
      exact IntWalk.u64_in _ (by omega)
    by_cases hq : 10 ≤ N / P
    · have hle : P * 10 ≤ N := by
        have : P * 10 ≤ N / P * P := by rw [Nat.mul_comm (N / P) P]; exact Nat.mul_le_mul_left _ hq
        omega
      have hdec : Hid (N / (P * 10) < N / P) := by
        unfold Hid
        rw [← Nat.div_div_eq_div_mul]; omega
      generalize hQe : N / P = Q at q0 hq hdec hQN hwq ⊢
      have HQe : Hid (N / P = Q) := hQe
      clear hQe
      clear hmul
      go_wp2
      refine ⟨⟨e + 1, P * 10, by rw [HP.out, Nat.pow_succ], rfl, Or.inr hle⟩, ?_⟩
      have h1 : (intOf (Value.int IntKind.u64 ((P : Int) * 10))).toNat = P * 10 := by simp only [intOf]; omega
      have h2 : (intOf (Value.int IntKind.u64 (P : Int))).toNat = P := by simp only [intOf]; omega
      rw [h1, h2, HQe.out]; exact hdec.out
    · have HQ : Hid (N / P < 10) := by unfold Hid; omega
      have HE : Hid (e = 0 ∨ P ≤ N) := he
      generalize N / P = Q at q0 hq hQN hwq ⊢
      clear hmul he
      go_wp2
      go_ret
      exact ⟨e, P, HP, rfl, HE.out, HQ.out, rfl⟩
end Go.Proofs.YtppdibblkaepjaaDoor.Shape
