/-
  Layer 8: the reference's small functions.
-/
import Derived.Test.YtljgehammocpkaaGreatDoorTokName
namespace Go.Proofs.YtljgehammocpkaaGreatDoor.Tok
open Go.RowKit
set_option linter.unusedVariables false
set_option linter.unusedSimpArgs false

def smB (c : Nat) : Bool := decide (97 ≤ c ∧ c ≤ 122)
def dgB (c : Nat) : Bool := decide (48 ≤ c ∧ c ≤ 57)
def leB (c : Nat) : Bool := smB c || decide (65 ≤ c ∧ c ≤ 90)
theorem inB_c {s : ByteArray} {i lo hi : Nat} (h : i < s.size) : inB s i (lo : Int) (hi : Int) = decide (lo ≤ s[i].toNat ∧ s[i].toNat ≤ hi) := by
  unfold inB
  rw [dif_pos h]
  exact decide_eq_decide.2 (by omega)
theorem isDig_c {s : ByteArray} {i : Nat} (h : i < s.size) : isDig s i = dgB s[i].toNat := inB_c (lo := 48) (hi := 57) h
theorem isLet_c {s : ByteArray} {i : Nat} (h : i < s.size) : isLet s i = leB s[i].toNat := by
  have a := inB_c (lo := 97) (hi := 122) h
  have b := inB_c (lo := 65) (hi := 90) h
  unfold isLet leB smB
  rw [← a, ← b]
  rfl
theorem smallB (c : Nat) (w : World) : Calls Tryz.prog 121 #[.int .u8 (c : Int)] w fun e w' => e = .returned (.bool (smB c)) ∧ w = w' := smallR c w
set_option maxRecDepth 100000 in
set_option maxHeartbeats 2000000 in
theorem digitB (c : Nat) (w : World) : Calls Tryz.prog 73 #[.int .u8 (c : Int)] w fun e w' => e = .returned (.bool (dgB c)) ∧ w = w' := by
  unfold dgB
  by_cases h1 : 48 ≤ c
  · by_cases h2 : c ≤ 57
    · rw [decide_eq_true ⟨h1, h2⟩]
      have e : decide ((c : Int) ≤ 57) = true := decide_eq_true (by omega)
      go_enter Tryz.func73, Tryz.ntmps73
      go_wp2
      go_ret
      exact ⟨rfl, rfl⟩
    · rw [decide_eq_false (fun h => h2 h.2)]
      have e : decide ((c : Int) ≤ 57) = false := decide_eq_false (by omega)
      go_enter Tryz.func73, Tryz.ntmps73
      go_wp2
      go_ret
      exact ⟨rfl, rfl⟩
  · rw [decide_eq_false (fun h => h1 h.1)]
    go_enter Tryz.func73, Tryz.ntmps73
    go_wp2
    go_ret
    exact ⟨rfl, rfl⟩
set_option maxRecDepth 100000 in
set_option maxHeartbeats 2000000 in
theorem letterB (c : Nat) (w : World) : Calls Tryz.prog 75 #[.int .u8 (c : Int)] w fun e w' => e = .returned (.bool (leB c)) ∧ w = w' := by
  have cS := fun w => smallB c w
  unfold leB
  cases h : smB c
  · rw [h] at cS
    rw [Bool.false_or]
    by_cases h1 : 65 ≤ c
    · by_cases h2 : c ≤ 90
      · rw [decide_eq_true ⟨h1, h2⟩]
        have e : decide ((c : Int) ≤ 90) = true := decide_eq_true (by omega)
        go_enter Tryz.func75, Tryz.ntmps75
        go_wp2_with (go_at_call 121; with_reducible refine (cS _).mono ?_; rintro e1 w1 ⟨rfl, rfl⟩)
        go_ret
        exact ⟨rfl, rfl⟩
      · rw [decide_eq_false (fun h => h2 h.2)]
        have e : decide ((c : Int) ≤ 90) = false := decide_eq_false (by omega)
        go_enter Tryz.func75, Tryz.ntmps75
        go_wp2_with (go_at_call 121; with_reducible refine (cS _).mono ?_; rintro e1 w1 ⟨rfl, rfl⟩)
        go_ret
        exact ⟨rfl, rfl⟩
    · rw [decide_eq_false (fun h => h1 h.1)]
      go_enter Tryz.func75, Tryz.ntmps75
      go_wp2_with (go_at_call 121; with_reducible refine (cS _).mono ?_; rintro e1 w1 ⟨rfl, rfl⟩)
      go_ret
      exact ⟨rfl, rfl⟩
  · rw [h] at cS
    rw [Bool.true_or]
    go_enter Tryz.func75, Tryz.ntmps75
    go_wp2_with (go_at_call 121; with_reducible refine (cS _).mono ?_; rintro e1 w1 ⟨rfl, rfl⟩)
    go_ret
    exact ⟨rfl, rfl⟩
set_option maxRecDepth 100000 in
set_option maxHeartbeats 2000000 in
theorem overR (s : ByteArray) (p : Nat) (hs : s.size ≤ 65536) (hp : p ≤ 100000) (w : World) : Calls Tryz.prog 35 #[.string s, .int .i64 (p : Int)] w fun e w' => e = .returned (.bool (endL s p)) ∧ w = w' := by
  obtain ⟨R, hR⟩ : ∃ R, Hid (endL s p = R) := ⟨_, rfl⟩
  rw [hR.out]
  have hR2 := hR.out
  unfold endL at hR2
  by_cases hlt : p < s.size
  · rw [dif_pos hlt] at hR2
    have hlt' : ¬ (s.size : Int) ≤ (p : Int) := by omega
    have hcb : (s[p].toNat : Int) ≤ 255 := by have := s[p].toNat_lt; omega
    have e : ((s[p].toNat : Int) == 10) = R := by
      rw [← hR2, Bool.eq_iff_iff]
      simp only [beq_iff_eq]
      omega
    clear hR2 hR
    go_enter Tryz.func35, Tryz.ntmps35
    go_wp2
    go_ret
    exact ⟨rfl, rfl⟩
  · rw [dif_neg hlt] at hR2
    subst hR2
    have hlt' : (s.size : Int) ≤ (p : Int) := by omega
    clear hR
    go_enter Tryz.func35, Tryz.ntmps35
    go_wp2
    go_ret
    exact ⟨rfl, rfl⟩
/-- What the reference says of a token. -/
def Tk.ref (i : Nat) : Tk → Value
  | .tok k n t j => .tuple #[.agg #[.int .i64 k, .int .i64 (i : Int), .int .i64 ((j : Int) - (i : Int)), .int .i64 n, .string t], .int .i64 0]
  | .bad e a => .tuple #[.agg #[.int .i64 0, .int .i64 0, .int .i64 0, .int .i64 0, .string ⟨#[]⟩], .int .i64 e]
theorem tok_ref (k n : Int) (t : ByteArray) (i d : Nat) : (Tk.tok k n t (i + d)).ref i = .tuple #[.agg #[.int .i64 k, .int .i64 (i : Int), .int .i64 (d : Int), .int .i64 n, .string t], .int .i64 0] := by
  simp only [Tk.ref]
  rw [show ((i + d : Nat) : Int) - (i : Int) = (d : Int) by omega]
theorem inB_eq {s : ByteArray} {i : Nat} (h : i < s.size) (k : Nat) : inB s i (k : Int) (k : Int) = ((s[i].toNat : Int) == (k : Int)) := by
  rw [inB_c h, Bool.eq_iff_iff, decide_eq_true_iff, beq_iff_eq]
  omega
end Go.Proofs.YtljgehammocpkaaGreatDoor.Tok
