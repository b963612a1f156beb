/-
  Layer 2: the reference's Digits and Show.
-/
import Derived.Test.YtppdibblkaepjaaDoorShapeR
import Derived.Test.YtppdibblkaepjaaDoorShapeShowMath
namespace Go.Proofs.YtppdibblkaepjaaDoor.Shape
open Go.RowKit

theorem slice_small (n : Int) (h0 : 0 ≤ n) (h : n < 10) (w : World) : (Instr.slice 9 (.string ⟨#[48, 49, 50, 51, 52, 53, 54, 55, 56, 57]⟩) (some (.int .i64 n)) (some (.int .i64 (n + 1))) none).run Tryd.prog w = .ok (.string (sS n)) w := by
  rw [run_slice_string w 9 _ .i64 .i64 n (n + 1) Tryd.underlying9 (by omega) (by omega) (by show n + 1 ≤ ((10 : Nat) : Int); omega), ext_small h0 h]

set_option maxHeartbeats 400000 in
theorem digitsR_nn (m : Nat) : ∀ (n : Int) (w : World), n.natAbs ≤ m → 0 ≤ n → n ≤ 9223372036854775807 →
    Calls Tryd.prog 36 #[.int .i64 n] w fun e w' => e = .returned (.string (sS n)) ∧ w = w' := by
  induction m with
  | zero =>
    intro n w hm _ _
    have h10 : n < 10 := by omega
    have h0 : 0 ≤ n := by omega
    have he := slice_small n h0 h10
    go_enter Tryd.func36, Tryd.ntmps36
    go_wp2_with fail
    go_ret
    exact ⟨rfl, rfl⟩
  | succ m ih =>
    intro n w hm h1 h2
    by_cases hb : n < 10
    · have he := slice_small n h1 hb
      go_enter Tryd.func36, Tryd.ntmps36
      go_wp2_with fail
      go_ret
      exact ⟨rfl, rfl⟩
    · have hs := sS_step (n := n) (q := n / 10) (r := n % 10) (Or.inr (by omega)) (by omega) (by omega) (by omega) (by omega)
      have z1 := sS_size (n / 10) (by omega) (by omega)
      have z2 := sS_size (n % 10) (by omega) (by omega)
      have ic1 := fun w => ih (n / 10) w (by omega) (by omega) (by omega)
      have ic2 := fun w => ih (n % 10) w (by omega) (by omega) (by omega)
      clear ih
      go_enter Tryd.func36, Tryd.ntmps36
      go_wp2_with (first
        | (go_at_call 36; ((with_reducible refine (ic1 _).mono ?_); rintro e w' ⟨rfl, rfl⟩))
        | (go_at_call 36; ((with_reducible refine (ic2 _).mono ?_); rintro e w' ⟨rfl, rfl⟩)))
      go_ret
      exact ⟨by first | rfl | (rw [hs]; rfl), rfl⟩

set_option maxHeartbeats 400000 in
theorem digitsR_any (m : Nat) : ∀ (n : Int) (w : World), n.natAbs ≤ m → -9223372036854775808 ≤ n → n ≤ 9223372036854775807 →
    Calls Tryd.prog 36 #[.int .i64 n] w fun e w' => e = .returned (.string (sS n)) ∧ w = w' := by
  induction m with
  | zero => intro n w hm _ h2; exact digitsR_nn 0 n w hm (by omega) h2
  | succ m ih =>
    intro n w hm h1 h2
    by_cases h0 : 0 ≤ n
    · exact digitsR_nn (m + 1) n w hm h0 h2
    · by_cases ha : -10 < n
      · have hs := sS_low (n := n) (by omega) ha
        have z1 := sS_size (-n) (by omega) (by omega)
        have ic := fun w => digitsR_nn (-n).natAbs (-n) w (Nat.le_refl _) (by omega) (by omega)
        clear ih
        go_enter Tryd.func36, Tryd.ntmps36
        go_wp2_with (go_at_call 36; ((with_reducible refine (ic _).mono ?_); rintro e w' ⟨rfl, rfl⟩))
        go_ret
        exact ⟨by first | rfl | (rw [hs]; rfl), rfl⟩
      · have e1 : (n.tdiv 10).natAbs = n.natAbs / 10 := by rw [Int.natAbs_tdiv]; rfl
        have e2 : 10 * n.tdiv 10 + n.tmod 10 = n := Int.mul_tdiv_add_tmod n 10
        have e3 : (n.tmod 10).natAbs = n.natAbs % 10 := by rw [Int.natAbs_tmod]; rfl
        have hs := sS_step (n := n) (q := n.tdiv 10) (r := -n.tmod 10) (Or.inl (by omega)) e1 (by omega) (by omega) (by omega)
        have z1 := sS_size (n.tdiv 10) (by omega) (by omega)
        have z2 := sS_size (-n.tmod 10) (by omega) (by omega)
        have ic1 := fun w => ih (n.tdiv 10) w (by omega) (by omega) (by omega)
        have ic2 := fun w => digitsR_nn (-n.tmod 10).natAbs (-n.tmod 10) w (Nat.le_refl _) (by omega) (by omega)
        have b1 : -9 ≤ n.tmod 10 := by omega
        have b2 : n.tmod 10 ≤ 0 := by omega
        have b3 : -922337203685477580 ≤ n.tdiv 10 := by omega
        have b4 : n.tdiv 10 ≤ 0 := by omega
        clear ih e1 e2 e3
        go_enter Tryd.func36, Tryd.ntmps36
        go_wp2_with (first
          | (go_at_call 36; ((with_reducible refine (ic1 _).mono ?_); rintro e w' ⟨rfl, rfl⟩))
          | (go_at_call 36; ((with_reducible refine (ic2 _).mono ?_); rintro e w' ⟨rfl, rfl⟩)))
        go_ret
        exact ⟨by first | rfl | (rw [hs]; rfl), rfl⟩

theorem digitsR (n : Int) (w : World) (h1 : -9223372036854775808 ≤ n) (h2 : n ≤ 9223372036854775807) :
    Calls Tryd.prog 36 #[.int .i64 n] w fun e w' => e = .returned (.string (sS n)) ∧ w = w' := digitsR_any n.natAbs n w (Nat.le_refl _) h1 h2

set_option maxHeartbeats 1000000 in
theorem showR (a : Option Addr) (cap : Nat) (xs : List Int) (w : World) (h : IntsAt w a cap xs) (hsmall : xs.length ≤ 2000000) :
    Calls Tryd.prog 32 #[.slice a xs.length cap] w fun e w' => e = .returned (.string (jS xs)) ∧ w = w' := by
  have hl := h.len
  go_enter Tryd.func32, Tryd.ntmps32
  go_wp2
  go_loop [3, 4] (fun o i => ∃ k : Nat, k ≤ xs.length ∧ i = .int .i64 k ∧ o = .string (jS (xs.take k))) (fun _ i => xs.length - (intOf i).toNat)
  case atStart => exact ⟨0, Nat.zero_le _, rfl, rfl⟩
  case round =>
    obtain ⟨k, hk, rfl, rfl⟩ := hrel
    by_cases hlt : k < xs.length
    · obtain ⟨b, off, hi, hc⟩ := h.at hlt
      obtain ⟨bd1, bd2⟩ := h.bd hlt
      have ht := take_snoc xs k hlt
      have z1 : (jS (xs.take k)).size ≤ 21 * k := by
        have := jS_size (xs.take k) (fun x hx => h.2.2.1 x (List.mem_of_mem_take hx))
        rwa [List.length_take, Nat.min_eq_left hk] at this
      have z2 := sS_size xs[k] bd1 bd2
      by_cases h0 : 0 < k
      · have hj := jS_snoc (xs.take k) xs[k] (by intro e; have := congrArg List.length e; rw [List.length_take, Nat.min_eq_left hk] at this; simp at this; omega)
        rw [← ht] at hj
        have HJ : Hid (jS (xs.take (k + 1)) = jS (xs.take k) ++ ⟨#[32]⟩ ++ sS xs[k]) := hj
        clear hj ht
        go_wp2_with (go_at_call 36; refine (digitsR _ _ bd1 bd2).mono ?_; rintro e w' ⟨rfl, rfl⟩)
        go_round
        case rel => exact ⟨k + 1, by omega, by go_num, by rw [HJ.out]⟩
        case measure => simp [intOf]; omega
      · have hj : jS (xs.take (k + 1)) = sS xs[k] := by
          rw [ht, List.take_eq_nil_iff.2 (Or.inl (by omega))]; exact jS_one _
        have HJ : Hid (jS (xs.take (k + 1)) = sS xs[k]) := hj
        have hz : jS (xs.take k) = ⟨#[]⟩ := by rw [List.take_eq_nil_iff.2 (Or.inl (by omega))]; rfl
        have he : (ByteArray.mk #[]) ++ sS xs[k] = sS xs[k] := by apply ByteArray.ext; simp [ByteArray.data_append]
        clear hj ht z1
        go_wp2_with (go_at_call 36; refine (digitsR _ _ bd1 bd2).mono ?_; rintro e w' ⟨rfl, rfl⟩)
        go_round
        case rel => exact ⟨k + 1, by omega, by go_num, by rw [HJ.out]⟩
        case measure => simp [intOf]; omega
    · obtain rfl : k = xs.length := by omega
      have e : xs.take xs.length = xs := List.take_length
      go_wp2
      go_ret
      exact ⟨by first | rfl | (rw [e]), rfl⟩
end Go.Proofs.YtppdibblkaepjaaDoor.Shape
