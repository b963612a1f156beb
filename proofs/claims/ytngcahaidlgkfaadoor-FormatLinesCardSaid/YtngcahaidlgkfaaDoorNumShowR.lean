/-
  Layer 1: Show of the reference: it calls itself.
-/
import Derived.Test.YtngcahaidlgkfaaDoorNumShowP
import Derived.Test.YtngcahaidlgkfaaDoorNumMul
import Derived.Deep.QuietTactic
import Derived.BigQuiet
namespace Go.Proofs.YtngcahaidlgkfaaDoor.Num
open Go.RowKit
set_option maxRecDepth 100000

def digits : ByteArray := ⟨#[48, 49, 50, 51, 52, 53, 54, 55, 56, 57]⟩
theorem digits_at (k : Nat) (h : k < 10) : digits.extract k (k + 1) = ⟨#[dig k]⟩ := by
  have : k = 0 ∨ k = 1 ∨ k = 2 ∨ k = 3 ∨ k = 4 ∨ k = 5 ∨ k = 6 ∨ k = 7 ∨ k = 8 ∨ k = 9 := by omega
  rcases this with rfl | rfl | rfl | rfl | rfl | rfl | rfl | rfl | rfl | rfl <;> rfl
theorem shS_small {n : Int} (h0 : 0 ≤ n) (h : n < 10) : shS n = ⟨#[dig n.toNat]⟩ := by
  rw [shS, shL_pos (by omega), dg_last (by omega), show n.natAbs = n.toNat by omega]
theorem shS_low {n : Int} (h0 : n < 0) (h : -10 < n) : shS n = ⟨#[95]⟩ ++ ⟨#[dig n.natAbs]⟩ := by
  rw [shS, shL_neg h0, dg_last (by omega)]; rfl
theorem shL_step {n : Int} (h : n ≤ -10 ∨ 10 ≤ n) : shL n = shL (n.tdiv 10) ++ [dig n.natAbs] := by
  have e : (n.tdiv 10).natAbs = n.natAbs / 10 := by rw [Int.natAbs_tdiv]; rfl
  have e2 : 10 * n.tdiv 10 + n.tmod 10 = n := Int.mul_tdiv_add_tmod n 10
  have l := tmod_abs_lt n 10 (by decide)
  have s := tmod_sign n 10
  rcases h with h | h
  · rw [shL_neg (by omega), shL_neg (by omega), e, dg_more (by omega)]; rfl
  · rw [shL_pos (by omega), shL_pos (by omega), e, dg_more (by omega)]
theorem shS_step {n : Int} (h : n ≤ -10 ∨ 10 ≤ n) : shS n = shS (n.tdiv 10) ++ ⟨#[dig n.natAbs]⟩ := by
  unfold shS
  rw [shL_step h]
  apply ByteArray.ext
  simp [ByteArray.data_append]

theorem ext_low {n : Int} (h0 : n < 0) (h : -10 < n) : (ByteArray.mk #[48, 49, 50, 51, 52, 53, 54, 55, 56, 57]).extract (-n).toNat (1 - n).toNat = ⟨#[dig n.natAbs]⟩ := by
  rw [show (1 - n).toNat = n.natAbs + 1 by omega, show (-n).toNat = n.natAbs by omega]
  exact digits_at _ (by omega)
theorem ext_small {n : Int} (h0 : 0 ≤ n) (h : n < 10) : (ByteArray.mk #[48, 49, 50, 51, 52, 53, 54, 55, 56, 57]).extract n.toNat (n + 1).toNat = ⟨#[dig n.toNat]⟩ := by
  rw [show (n + 1).toNat = n.toNat + 1 by omega]
  exact digits_at _ (by omega)
theorem dig_mod (m : Nat) : dig (m % 10) = dig m := by
  unfold dig
  rw [Nat.mod_mod]
theorem parts_of (n : Int) (h1 : -9223372036854775808 ≤ n) (h2 : n ≤ 9223372036854775807) (h : n ≤ -10 ∨ 10 ≤ n) : ∃ q r : Int, ∃ K : Nat, n.tdiv 10 = q ∧ n.tmod 10 = r ∧ IntKind.i64.wrap q = q ∧ (0 ≤ n → n / 10 = q ∧ n % 10 = r) ∧
    -922337203685477580 ≤ q ∧ q ≤ 922337203685477580 ∧ q.natAbs < n.natAbs ∧ -9 ≤ r ∧ r ≤ 9 ∧ K ≤ 9 ∧ absI r = (K : Int) ∧ dig n.natAbs = dig K ∧ shS n = shS q ++ ⟨#[dig K]⟩ := by
  have e : (n.tdiv 10).natAbs = n.natAbs / 10 := by rw [Int.natAbs_tdiv]; rfl
  have l := tmod_abs_lt n 10 (by decide)
  refine ⟨n.tdiv 10, n.tmod 10, n.natAbs % 10, rfl, rfl, IntWalk.i64_in _ (by omega), fun h0 => ⟨(Int.tdiv_eq_ediv_of_nonneg h0).symm, (Int.tmod_eq_emod_of_nonneg h0).symm⟩, by omega, by omega, by omega, by omega, by omega, by omega, ?_, (dig_mod _).symm, ?_⟩
  · rw [abs_natAbs, Int.natAbs_tmod]; rfl
  · rw [shS_step h, dig_mod]
theorem last_of (n : Int) : ∃ K : Nat, K ≤ 9 ∧ absI (n.tmod 10) = (K : Int) ∧ dig K = dig n.natAbs := by
  refine ⟨n.natAbs % 10, by omega, ?_, dig_mod _⟩
  rw [abs_natAbs, Int.natAbs_tmod]; rfl

theorem slice_digit (K : Nat) (h : K ≤ 9) (w : World) : (Instr.slice 9 (.string ⟨#[48, 49, 50, 51, 52, 53, 54, 55, 56, 57]⟩) (some (.int .i64 (K : Int))) (some (.int .i64 ((K : Int) + 1))) none).run Tryd.prog w = .ok (.string ⟨#[dig K]⟩) w := by
  rw [run_slice_string w 9 _ .i64 .i64 K (K + 1) Tryd.underlying9 (by omega) (by omega) (by show (K : Int) + 1 ≤ ((10 : Nat) : Int); omega)]
  have := digits_at K (by omega)
  unfold digits at this
  rw [show ((K : Int) + 1).toNat = K + 1 by omega, show ((K : Int)).toNat = K by omega, this]

theorem shS_size (n : Int) (h1 : -9223372036854775808 ≤ n) (h2 : n ≤ 9223372036854775807) : (shS n).size ≤ 20 := by
  have h := dg_len 18 n.natAbs (by omega)
  show (shL n).toArray.size ≤ 20
  unfold shL
  split <;> simp <;> omega

set_option maxHeartbeats 400000 in
theorem showR_big (n q r : Int) (K : Nat) (w : World) (h1 : -9223372036854775808 ≤ n) (h2 : n ≤ 9223372036854775807) (hb : 10 ≤ n)
    (e1 : n.tdiv 10 = q) (e2 : n.tmod 10 = r) (e3 : IntKind.i64.wrap q = q) (e5 : n / 10 = q) (e6 : n % 10 = r) (q1 : -922337203685477580 ≤ q) (q2 : q ≤ 922337203685477580) (r1 : -9 ≤ r) (r2 : r ≤ 9) (hK : K ≤ 9) (hL : absI r = (K : Int)) (hs : shS n = shS q ++ ⟨#[dig K]⟩)
    (ic : ∀ w : World, Calls Tryd.prog 59 #[.int .i64 q] w fun e w' => e = .returned (.string (shS q)) ∧ ∃ k, w' = w.drewN k) :
    Calls Tryd.prog 59 #[.int .i64 n] w fun e w' => e = .returned (.string (shS n)) ∧ ∃ k, w' = w.drewN k := by
  have hk : IntKind.i64.wrap ((K : Int) + 1) = K + 1 := IntWalk.i64_in _ (by omega)
  have hx := slice_digit K hK
  have hz := shS_size q (by omega) (by omega)
  have ha := fun w => run_string_add (P := Tryd.prog) w (shS q) ⟨#[dig K]⟩ (by omega) (by show ((1 : Nat) : Int) ≤ 8388608; omega)
  go_enter Tryd.func59, Tryd.ntmps59
  go_wp2_with (go_at_call 75; refine (absR _ _ (by omega) (by omega)).mono ?_; rintro e w' ⟨rfl, rfl⟩)
  go_quiet ((go_at_call 59; with_reducible exact Calls.quiet_of (ic _)))
  go_wp2_with fail
  go_ret
  first | exact ⟨rfl, _, rfl⟩ | exact ⟨by rw [hs]; rfl, _, rfl⟩

set_option maxHeartbeats 400000 in
theorem showR_neg (n q r : Int) (K : Nat) (w : World) (h1 : -9223372036854775808 ≤ n) (h2 : n ≤ 9223372036854775807) (hb : n ≤ -10)
    (e1 : n.tdiv 10 = q) (e2 : n.tmod 10 = r) (e3 : IntKind.i64.wrap q = q) (q1 : -922337203685477580 ≤ q) (q2 : q ≤ 922337203685477580) (r1 : -9 ≤ r) (r2 : r ≤ 9) (hK : K ≤ 9) (hL : absI r = (K : Int)) (hs : shS n = shS q ++ ⟨#[dig K]⟩)
    (ic : ∀ w : World, Calls Tryd.prog 59 #[.int .i64 q] w fun e w' => e = .returned (.string (shS q)) ∧ ∃ k, w' = w.drewN k) :
    Calls Tryd.prog 59 #[.int .i64 n] w fun e w' => e = .returned (.string (shS n)) ∧ ∃ k, w' = w.drewN k := by
  have hk : IntKind.i64.wrap ((K : Int) + 1) = K + 1 := IntWalk.i64_in _ (by omega)
  have hx := slice_digit K hK
  have hz := shS_size q (by omega) (by omega)
  have ha := fun w => run_string_add (P := Tryd.prog) w (shS q) ⟨#[dig K]⟩ (by omega) (by show ((1 : Nat) : Int) ≤ 8388608; omega)
  go_enter Tryd.func59, Tryd.ntmps59
  go_wp2_with (go_at_call 75; refine (absR _ _ (by omega) (by omega)).mono ?_; rintro e w' ⟨rfl, rfl⟩)
  go_quiet ((go_at_call 59; with_reducible exact Calls.quiet_of (ic _)))
  go_wp2_with fail
  go_ret
  first | exact ⟨rfl, _, rfl⟩ | exact ⟨by rw [hs]; rfl, _, rfl⟩

set_option maxHeartbeats 1000000 in
theorem showR_any (m : Nat) : ∀ (n : Int) (w : World), n.natAbs ≤ m → -9223372036854775808 ≤ n → n ≤ 9223372036854775807 →
    Calls Tryd.prog 59 #[.int .i64 n] w fun e w' => e = .returned (.string (shS n)) ∧ ∃ k, w' = w.drewN k := by
  induction m with
  | zero =>
    intro n w hm _ _
    obtain rfl : n = 0 := by omega
    have hs := shS_small (n := 0) (by decide) (by decide)
    have he := ext_small (n := 0) (by decide) (by decide)
    go_enter Tryd.func59, Tryd.ntmps59
    go_wp2_with fail
    go_ret
    exact ⟨by rw [hs]; rfl, 0, rfl⟩
  | succ m ih =>
    intro n w hm h1 h2
    by_cases ha : -10 < n
    · by_cases hn : n < 0
      · have hs := shS_low hn ha
        have he := ext_low hn ha
        go_enter Tryd.func59, Tryd.ntmps59
        go_wp2_with fail
        go_ret
        first | exact ⟨rfl, 0, rfl⟩ | exact ⟨by rw [hs]; rfl, 0, rfl⟩
      · by_cases hb : n < 10
        · have hs := shS_small (by omega) hb
          have he := ext_small (by omega) hb
          go_enter Tryd.func59, Tryd.ntmps59
          go_wp2_with fail
          go_ret
          first | exact ⟨rfl, 0, rfl⟩ | exact ⟨by rw [hs]; rfl, 0, rfl⟩
        · obtain ⟨q, r, K, e1, e2, e3, e4, q1, q2, q3, r1, r2, hK, hL, hd, hs⟩ := parts_of n h1 h2 (Or.inr (by omega))
          obtain ⟨e5, e6⟩ := e4 (by omega)
          exact showR_big n q r K w h1 h2 (by omega) e1 e2 e3 e5 e6 q1 q2 r1 r2 hK hL hs (fun w => ih q w (by omega) (by omega) (by omega))
    · obtain ⟨q, r, K, e1, e2, e3, e4, q1, q2, q3, r1, r2, hK, hL, hd, hs⟩ := parts_of n h1 h2 (Or.inl (by omega))
      exact showR_neg n q r K w h1 h2 (by omega) e1 e2 e3 q1 q2 r1 r2 hK hL hs (fun w => ih q w (by omega) (by omega) (by omega))

theorem below_drewN {w : World} (k : Nat) : Below w.heap.size w (w.drewN k) := ⟨rfl, rfl, rfl, Nat.le_refl _, fun _ _ => rfl⟩
theorem showR (n : Int) (w : World) (h1 : -9223372036854775808 ≤ n) (h2 : n ≤ 9223372036854775807) :
    Calls Tryd.prog 59 #[.int .i64 n] w fun e w' => e = .returned (.string (shS n)) ∧ Below w.heap.size w w' :=
  (showR_any n.natAbs n w (Nat.le_refl _) h1 h2).mono fun _ _ ⟨he, k, hk⟩ => ⟨he, by rw [hk]; exact below_drewN k⟩
end Go.Proofs.YtngcahaidlgkfaaDoor.Num
