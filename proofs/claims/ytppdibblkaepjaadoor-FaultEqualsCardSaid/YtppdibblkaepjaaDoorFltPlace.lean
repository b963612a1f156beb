/-
  Layer 7: Place of the program and of the reference.
-/
import Derived.Test.YtppdibblkaepjaaDoorFltWord
import Derived.Test.YtppdibblkaepjaaDoorShelf
namespace Go.Proofs.YtppdibblkaepjaaDoor.Flt
open Go.RowKit Go.Proofs.YtppdibblkaepjaaDoor.Shape
set_option linter.unusedVariables false

theorem countP (s : ByteArray) (w : World) : Calls Tryd.prog 17 #[.string s, .string ⟨#[10]⟩] w fun e w' => e = .returned (.int .i64 (Lib.countByte s.data.toList 10 : Nat)) ∧ w = w' :=
  (Any.strings_Count_one Tryd.laysCount s 10 w).mono fun _ _ ⟨h1, h2⟩ => ⟨h1, h2.symm⟩
theorem lastP (s : ByteArray) (hs : s.size < 4611686018427387904) (w : World) : Calls Tryd.prog 18 #[.string s, .int .u8 10] w fun e w' => e = .returned (.int .i64 (Lib.lastIndexByte s 10)) ∧ w = w' :=
  (Any.strings_LastIndexByte Tryd.laysLast s 10 hs w).mono fun _ _ ⟨h1, h2⟩ => ⟨h1, h2.symm⟩
theorem hid' {p : Prop} (h : p) : Hid p := h
theorem pair_eq {a b c d : Int} (h : a = c) (g : b = d) : Ending.returned (.tuple #[.int .i64 a, .int .i64 b]) = .returned (.tuple #[.int .i64 c, .int .i64 d]) := by rw [h, g]
set_option maxHeartbeats 1000000 in
theorem placeP (s : ByteArray) (n : Int) (hs : s.size ≤ 4611686018427387903) (w : World) :
    Calls Tryd.prog 11 #[.string s, .int .i64 n] w fun e w' => e = .returned (.tuple #[.int .i64 (lin s (kS s n)), .int .i64 (col s (kS s n))]) ∧ w = w' := by
  obtain ⟨X, hX, hXs, h1, h2, h3, h4, h5⟩ : ∃ X, s.extract 0 (min (max n 0) ↑s.size).toNat = X ∧ X.size ≤ 4611686018427387903 ∧ Hid ((1 : Int) + (Lib.countByte X.data.toList 10 : Nat) = lin s (kS s n)) ∧ Hid ((X.size : Int) - Lib.lastIndexByte X 10 = col s (kS s n)) ∧ Lib.countByte X.data.toList 10 ≤ 4611686018427387903 ∧ -1 ≤ Lib.lastIndexByte X 10 ∧ Lib.lastIndexByte X 10 ≤ 4611686018427387903 := by
    have hk := kS_le s n
    have c1 := lin_count hk
    have c2 := col_last hk
    have c3 := count_bd hk
    have c4 := last_bd hk
    have c5 : (s.extract 0 (kS s n)).size = kS s n := by simp; omega
    refine ⟨s.extract 0 (kS s n), rfl, by omega, c1, ?_, by omega, by omega, by omega⟩
    rw [c5]
    exact c2
  generalize (lin s (kS s n) : Int) = L at *
  generalize (col s (kS s n) : Int) = C at *
  have hc := fun w => countP X w
  have hl := fun w => lastP X (by omega) w
  generalize Lib.countByte X.data.toList 10 = c at *
  generalize Lib.lastIndexByte X 10 = l at *
  go_enter Tryd.func11, Tryd.ntmps11
  go_wp2_with (first
    | (go_at_call 17; (with_reducible refine (hc _).mono ?_); rintro e w1 ⟨rfl, rfl⟩)
    | (go_at_call 18; (with_reducible refine (hl _).mono ?_); rintro e w1 ⟨rfl, rfl⟩))
  go_ret2
  exact ⟨pair_eq (by have := h1.out; omega) (by have := h2.out; omega), rfl⟩
set_option maxHeartbeats 1000000 in
theorem placeR (s : ByteArray) (n : Int) (hn : -9223372036854775808 ≤ n ∧ n ≤ 9223372036854775807) (hs : s.size ≤ 4611686018427387903) (w : World) :
    Calls Tryd.prog 12 #[.string s, .int .i64 n] w fun e w' => e = .returned (.tuple #[.int .i64 (lin s (kS s n)), .int .i64 (col s (kS s n))]) ∧ w = w' := by
  obtain ⟨K, hK, hK1, hK2, hK3⟩ : ∃ K, Hid (kS s n = K) ∧ K ≤ s.size ∧ Hid (∀ j : Nat, (j < K ↔ (j : Int) < n ∧ j < s.size)) ∧ True := ⟨_, rfl, kS_le s n, fun j => (by unfold kS; omega), trivial⟩
  rw [hK.out]
  go_enter Tryd.func12, Tryd.ntmps12
  go_wp2_with fail
  go_loop [6, 7, 8] (fun l c i => ∃ k : Nat, k ≤ K ∧ i = .int .i64 k ∧ l = .int .i64 (lin s k) ∧ c = .int .i64 (col s k)) (fun _ _ i => K - (intOf i).toNat)
  case atStart => exact ⟨0, Nat.zero_le _, rfl, rfl, rfl⟩
  case round =>
    obtain ⟨k, hk, rfl, rfl, rfl⟩ := hrel
    have hb := lc_bd s k
    have hj := hK2.out k
    by_cases hlt : k < K
    · obtain ⟨g1, g2⟩ := hj.1 hlt
      have ha := at_get g2
      by_cases h10 : s.data[k]!.toNat = 10
      · have e1 := hid' (lin_nl h10)
        have e2 := hid' (col_nl h10)
        have t1 : ((s[k].toNat : Int) == 10) = true := by rw [← ha, h10]; rfl
        clear ha h10 hj
        go_wp2_with fail
        go_round
        case rel => exact ⟨k + 1, by omega, by go_num, by rw [e1.out]; go_num, by rw [e2.out]; rfl⟩
        case measure => simp [intOf]; omega
      · have e1 := hid' (lin_no h10)
        have e2 := hid' (col_no h10)
        have t1 : ((s[k].toNat : Int) == 10) = false := by rw [← ha]; simp; omega
        clear ha h10 hj
        go_wp2_with fail
        go_round
        case rel => exact ⟨k + 1, by omega, by go_num, by rw [e1.out], by rw [e2.out]; go_num⟩
        case measure => simp [intOf]; omega
    · obtain rfl : k = K := by omega
      by_cases h1 : (k : Int) < n
      · have h2 : ¬ k < s.size := fun g => hlt (hj.2 ⟨h1, g⟩)
        clear hj hlt
        go_wp2_with fail
        go_ret2
        exact ⟨rfl, rfl⟩
      · clear hj hlt
        go_wp2_with fail
        go_ret2
        exact ⟨rfl, rfl⟩
end Go.Proofs.YtppdibblkaepjaaDoor.Flt
