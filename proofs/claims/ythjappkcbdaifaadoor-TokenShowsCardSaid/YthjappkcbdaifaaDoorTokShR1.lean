/-
  Layer 8: the reference's digits, and what it asks of numbers and characters.
-/
import Derived.Test.YthjappkcbdaifaaDoorTokFmt
import Derived.Test.YthjappkcbdaifaaDoorTokShow
import Derived.Test.YthjappkcbdaifaaDoorNumShowMath
namespace Go.Proofs.YthjappkcbdaifaaDoor.Tok
open Go.RowKit
set_option linter.unusedVariables false
set_option linter.unusedSimpArgs false

theorem below_drew (w : World) : Below w.heap.size w w.drew := (Below.refl _ _).drew
theorem hex_at (k : Nat) (h : k < 16) : (⟨#[48, 49, 50, 51, 52, 53, 54, 55, 56, 57, 97, 98, 99, 100, 101, 102]⟩ : ByteArray).extract k (k + 1) = ⟨#[hx1 k]⟩ := by
  have : k = 0 ∨ k = 1 ∨ k = 2 ∨ k = 3 ∨ k = 4 ∨ k = 5 ∨ k = 6 ∨ k = 7 ∨ k = 8 ∨ k = 9 ∨ k = 10 ∨ k = 11 ∨ k = 12 ∨ k = 13 ∨ k = 14 ∨ k = 15 := by omega
  rcases this with rfl | rfl | rfl | rfl | rfl | rfl | rfl | rfl | rfl | rfl | rfl | rfl | rfl | rfl | rfl | rfl <;> rfl
theorem slice_hex (K : Nat) (h : K < 16) (w : World) : (Instr.slice 9 (.string ⟨#[48, 49, 50, 51, 52, 53, 54, 55, 56, 57, 97, 98, 99, 100, 101, 102]⟩) (some (.int .i64 (K : Int))) (some (.int .i64 ((K : Int) + 1))) none).run Tryd.prog w = .ok (.string ⟨#[hx1 K]⟩) w := by
  rw [run_slice_string w 9 _ .i64 .i64 K (K + 1) Tryd.underlying9 (by omega) (by omega) (by show (K : Int) + 1 ≤ ((16 : Nat) : Int); omega)]
  rw [show ((K : Int) + 1).toNat = K + 1 by omega, show ((K : Int)).toNat = K by omega, hex_at K h]
/-- The digits of a number to a base. -/
def dB (b : Nat) (f n : Nat) : List UInt8 := match f with
  | 0 => [hx1 (n % b)]
  | f + 1 => if n < b then [hx1 (n % b)] else dB b f (n / b) ++ [hx1 (n % b)]

set_option maxRecDepth 100000 in
set_option maxHeartbeats 4000000 in
theorem digits_last (n b : Int) (K : Nat) (w : World) (hn : 0 ≤ n) (hn2 : n ≤ 4611686018427387903) (hb : 2 ≤ b) (hb2 : b ≤ 16) (hbig : n < b) (e2 : n.tmod b = (K : Int)) (e6 : n % b = (K : Int)) (hK : K < 16) :
    Calls Tryd.prog 38 #[.int .i64 n, .int .i64 b] w fun e w' => e = .returned (.string ⟨#[hx1 K]⟩) ∧ Below w.heap.size w w' := by
  have hsl := slice_hex K hK
  have hb0 : (b == 0) = false := by simp; omega
  go_enter Tryd.func38, Tryd.ntmps38
  go_wp2
  go_region
  go_wp2
  go_ret
  exact ⟨rfl, below_drew w⟩
set_option maxRecDepth 100000 in
set_option maxHeartbeats 4000000 in
theorem digits_step (n b q : Int) (K : Nat) (X : List UInt8) (hXl : X.length ≤ 1000) (w : World) (hn : 0 ≤ n) (hn2 : n ≤ 4611686018427387903) (hb : 2 ≤ b) (hb2 : b ≤ 16) (hbig : ¬ n < b) (e1 : n.tdiv b = q) (e5 : n / b = q) (e2 : n.tmod b = (K : Int)) (e6 : n % b = (K : Int)) (hK : K < 16) (q0 : 0 ≤ q) (q1 : q ≤ 4611686018427387903)
    (ic : ∀ w : World, Calls Tryd.prog 38 #[.int .i64 q, .int .i64 b] w fun e w' => e = .returned (.string ⟨X.toArray⟩) ∧ Below w.heap.size w w') :
    Calls Tryd.prog 38 #[.int .i64 n, .int .i64 b] w fun e w' => e = .returned (.string ⟨(X ++ [hx1 K]).toArray⟩) ∧ Below w.heap.size w w' := by
  have hsl := slice_hex K hK
  have hb0 : (b == 0) = false := by simp; omega
  have hbn : (b == -1) = false := by simp; omega
  have hq3 : IntKind.i64.wrap q = q := IntWalk.i64_in _ (by omega)
  have hsz : ((⟨X.toArray⟩ : ByteArray).size : Int) ≤ 1000 := by show ((X.toArray.size : Nat) : Int) ≤ 1000; rw [List.size_toArray]; omega
  have hX : (⟨X.toArray⟩ : ByteArray) ++ ⟨#[hx1 K]⟩ = ⟨(X ++ [hx1 K]).toArray⟩ := by apply ByteArray.ext; simp [ByteArray.data_append]
  go_enter Tryd.func38, Tryd.ntmps38
  go_wp2
  go_region
  go_wp2_with (go_at_call 38; with_reducible refine (ic _).mono ?_; rintro e w1 ⟨rfl, b1⟩)
  go_ret
  exact ⟨rfl, Below.then (below_drew w) b1⟩
theorem dB_len (b : Nat) : ∀ (f n : Nat), (dB b f n).length ≤ f + 1
  | 0, n => by rw [dB]; simp
  | f + 1, n => by
    rw [dB]
    have := dB_len b f (n / b)
    split <;> simp <;> omega
theorem digitsR (b : Nat) (hb : 2 ≤ b) (hb2 : b ≤ 16) : ∀ (f n : Nat) (w : World), f ≤ 100 → n < b ^ (f + 1) → n ≤ 4611686018427387903 →
    Calls Tryd.prog 38 #[.int .i64 (n : Int), .int .i64 (b : Int)] w fun e w' => e = .returned (.string ⟨(dB b f n).toArray⟩) ∧ Below w.heap.size w w'
  | 0, n, w, hf, h, hn => by
    have hm : n % b < 16 := by have := Nat.mod_lt n (show 0 < b by omega); omega
    have h1 : n < b := by simpa using h
    exact digits_last n b (n % b) w (by omega) (by omega) (by omega) (by omega) (by omega) (by rw [Int.tmod_eq_emod_of_nonneg (by omega)]; exact (Int.natCast_emod n b).symm) ((Int.natCast_emod n b).symm) hm
  | f + 1, n, w, hf, h, hn => by
    have hm : n % b < 16 := by have := Nat.mod_lt n (show 0 < b by omega); omega
    by_cases h1 : n < b
    · rw [dB, if_pos h1]
      exact digits_last n b (n % b) w (by omega) (by omega) (by omega) (by omega) (by omega) (by rw [Int.tmod_eq_emod_of_nonneg (by omega)]; exact (Int.natCast_emod n b).symm) ((Int.natCast_emod n b).symm) hm
    · rw [dB, if_neg h1]
      have hq : n / b < b ^ (f + 1) := by
        rw [Nat.div_lt_iff_lt_mul (by omega)]
        rw [Nat.pow_succ] at h
        exact h
      have hq2 : n / b ≤ n := Nat.div_le_self _ _
      have hXl := dB_len b f (n / b)
      exact digits_step n b ((n / b : Nat) : Int) (n % b) (dB b f (n / b)) (by omega) w (by omega) (by omega) (by omega) (by omega) (by omega) (by rw [Int.tdiv_eq_ediv_of_nonneg (by omega)]; exact (Int.natCast_ediv n b).symm) ((Int.natCast_ediv n b).symm) (by rw [Int.tmod_eq_emod_of_nonneg (by omega)]; exact (Int.natCast_emod n b).symm) ((Int.natCast_emod n b).symm) hm (Int.natCast_nonneg _) (by omega)
        fun w => digitsR b hb hb2 f (n / b) w (by omega) hq (by omega)
theorem dig_hx (n : Nat) : hx1 (n % 10) = Num.dig n := by
  have h : n % 10 < 10 := Nat.mod_lt _ (by decide)
  unfold hx1 Num.dig
  rw [if_pos h]
theorem dB_10 : ∀ (f n : Nat), n < 10 ^ (f + 1) → dB 10 f n = Num.dg n
  | 0, n, h => by
    rw [dB, dig_hx, Num.dg_last (by simpa using h)]
  | f + 1, n, h => by
    rw [dB]
    split
    · rename_i h1; rw [dig_hx, Num.dg_last h1]
    · rename_i h1
      rw [dig_hx, Num.dg_more h1, dB_10 f (n / 10) (by rw [Nat.div_lt_iff_lt_mul (by omega)]; rw [Nat.pow_succ] at h; exact h)]
theorem dB_16 (n : Nat) (h : n < 256) : dB 16 1 n = hexL n := by
  rw [dB, hexL]
  by_cases h1 : n < 16
  · rw [if_pos h1, if_pos h1, Nat.mod_eq_of_lt h1]
  · rw [if_neg h1, if_neg h1, dB, Nat.mod_eq_of_lt (show n / 16 < 16 by omega)]
    rfl
theorem digits10 (n : Nat) (hn : n ≤ 4611686018427387903) (w : World) : Calls Tryd.prog 38 #[.int .i64 (n : Int), .int .i64 10] w fun e w' => e = .returned (.string ⟨(Num.dg n).toArray⟩) ∧ Below w.heap.size w w' := by
  have h : n < 10 ^ (18 + 1) := by omega
  have := digitsR 10 (by decide) (by decide) 18 n w (by decide) h hn
  rw [dB_10 18 n h] at this
  exact this
theorem digits16 (n : Nat) (hn : n < 256) (w : World) : Calls Tryd.prog 38 #[.int .i64 (n : Int), .int .i64 16] w fun e w' => e = .returned (.string ⟨(hexL n).toArray⟩) ∧ Below w.heap.size w w' := by
  have := digitsR 16 (by decide) (by decide) 1 n w (by decide) hn (by omega)
  rw [dB_16 n hn] at this
  exact this

set_option maxRecDepth 100000 in
set_option maxHeartbeats 4000000 in
theorem numberT (n : Int) (h : Num.fitsB n = true) (w : World) : Calls Tryd.prog 37 #[.int .i64 n] w fun e w' => e = .returned (.bool true) ∧ w = w' := by
  obtain ⟨h1, h2⟩ := Num.fits_def.1 h
  have e : decide (n ≤ 4611686018427387903) = true := decide_eq_true h2
  go_enter Tryd.func37, Tryd.ntmps37
  go_wp2
  go_ret
  exact ⟨rfl, rfl⟩
set_option maxRecDepth 100000 in
set_option maxHeartbeats 4000000 in
theorem numberF (n : Int) (h : ¬ Num.fitsB n = true) (w : World) : Calls Tryd.prog 37 #[.int .i64 n] w fun e w' => e = .returned (.bool false) ∧ w = w' := by
  by_cases h1 : -4611686018427387903 ≤ n
  · have h2 : ¬ n ≤ 4611686018427387903 := fun q => h (Num.fits_def.2 ⟨h1, q⟩)
    have e : decide (n ≤ 4611686018427387903) = false := decide_eq_false h2
    go_enter Tryd.func37, Tryd.ntmps37
    go_wp2
    go_ret
    exact ⟨rfl, rfl⟩
  · go_enter Tryd.func37, Tryd.ntmps37
    go_wp2
    go_ret
    exact ⟨rfl, rfl⟩
end Go.Proofs.YthjappkcbdaifaaDoor.Tok
