/-
  Layer 1: Pow of the program (binary powers) and of the reference (repeated multiplication).
-/
import Derived.Test.YtjbabbbldepjgaaNumMul
import Derived.Test.YtjbabbbldepjgaaNumPowMath
namespace Go.Proofs.Ytjbabbbldepjgaa.Num
open Go.RowKit

set_option maxHeartbeats 400000 in
theorem powP (a b : Int) (w : World) :
    Calls Try.prog 23 #[.int .i64 a, .int .i64 b] w fun e w' => e = .returned (.tuple #[.int .i64 (powS a b).1, .int .i64 (powS a b).2]) ∧ w = w' := by
  by_cases h : bothB a b = true
  · by_cases h0 : b < 0
    · go_enter Try.func23, Try.ntmps23
      go_wp2_with (go_at_call 29; refine (bothP _ _ _).mono ?_; rintro e w' ⟨rfl, rfl⟩)
      go_ret2
      exact ⟨pair_mk (powS_neg h h0), rfl⟩
    · have h0' : 0 ≤ b := by omega
      have em := powS_yes h h0'
      have hs := inv_start h h0'
      go_enter Try.func23, Try.ntmps23
      go_wp2_with (go_at_call 29; refine (bothP _ _ _).mono ?_; rintro e w' ⟨rfl, rfl⟩)
      go_loop [0, 1, 6, 7] (fun x y p r => ∃ A B P : Int, x = .int .i64 A ∧ y = .int .i64 B ∧ p = .int .i64 P ∧ r = .int .i64 0 ∧ PowInv a b A B P) (fun _ y _ _ => (intOf y).toNat)
      case atStart => exact ⟨a, b, 1, rfl, rfl, rfl, rfl, hs⟩
      case round =>
        obtain ⟨A, B, P, rfl, rfl, rfl, rfl, hi⟩ := hrel
        obtain ⟨hB0, hB1, hA, hP, -, -⟩ := id hi
        clear hs h h0
        by_cases ho : B % 2 = 1
        · by_cases hf : fitsB (P * A) = true
          · have em1 := mul_yes hP hA hf
            have hm := inv_odd hi ho hf
            have hB2 : 1 ≤ B := by omega
            by_cases hC : B / 2 = 0
            · have en := mid_end hm hC
              rw [en] at em
              have hCb : (B / 2 == 0) = true := by simpa using hC
              have hob : (B % 2 == 1) = true := by simpa using ho
              clear hm hC ho hi en hf
              go_wp2_with (go_at_call 14; refine (mulP _ _ _).mono ?_; rintro e w' ⟨rfl, rfl⟩)
              go_ret2
              first | exact ⟨pair_mk em, rfl⟩ | exact ⟨rfl, rfl⟩
            · have hCb : (B / 2 == 0) = false := by simpa using hC
              have hob : (B % 2 == 1) = true := by simpa using ho
              by_cases hq : fitsB (A * A) = true
              · have em2 := mul_yes hA hA hq
                have hn := mid_next hm hq
                clear hm hC ho hi hf hq
                go_wp2_with (first | (go_at_call 14; refine (mulP _ _ _).mono ?_; rintro e w' ⟨rfl, rfl⟩))
                go_round
                case rel => exact ⟨_, _, _, rfl, rfl, rfl, rfl, hn⟩
                case measure => simp [intOf]; omega
              · have hq' : fitsB (A * A) = false := by simpa using hq
                have em2 := mul_no hA hA hq'
                rw [mid_over hm hC hq'] at em
                clear hm hC ho hi hf hq hq'
                go_wp2_with (first | (go_at_call 14; refine (mulP _ _ _).mono ?_; rintro e w' ⟨rfl, rfl⟩))
                go_ret2
                first | exact ⟨pair_mk em, rfl⟩ | exact ⟨rfl, rfl⟩
          · have hf' : fitsB (P * A) = false := by simpa using hf
            have em1 := mul_no hP hA hf'
            have hob : (B % 2 == 1) = true := by simpa using ho
            rw [inv_over' hi ho hf'] at em
            clear ho hi hf hf'
            go_wp2_with (first | (go_at_call 14; refine (mulP _ _ _).mono ?_; rintro e w' ⟨rfl, rfl⟩))
            go_ret2
            first | exact ⟨pair_mk em, rfl⟩ | exact ⟨rfl, rfl⟩
        · have hm := inv_even hi ho
          have hob : (B % 2 == 1) = false := by simpa using ho
          by_cases hC : B / 2 = 0
          · have en := mid_end hm hC
            rw [en] at em
            have hCb : (B / 2 == 0) = true := by simpa using hC
            clear hm hC ho hi en
            go_wp2_with (go_at_call 14; refine (mulP _ _ _).mono ?_; rintro e w' ⟨rfl, rfl⟩)
            go_ret2
            first | exact ⟨pair_mk em, rfl⟩ | exact ⟨rfl, rfl⟩
          · have hCb : (B / 2 == 0) = false := by simpa using hC
            by_cases hq : fitsB (A * A) = true
            · have em2 := mul_yes hA hA hq
              have hn := mid_next hm hq
              have hB2 : 2 ≤ B := by omega
              clear hm hC ho hi hq
              go_wp2_with (first | (go_at_call 14; refine (mulP _ _ _).mono ?_; rintro e w' ⟨rfl, rfl⟩))
              go_round
              case rel => exact ⟨_, _, _, rfl, rfl, rfl, rfl, hn⟩
              case measure => simp [intOf]; omega
            · have hq' : fitsB (A * A) = false := by simpa using hq
              have em2 := mul_no hA hA hq'
              rw [mid_over hm hC hq'] at em
              clear hm hC ho hi hq hq'
              go_wp2_with (first | (go_at_call 14; refine (mulP _ _ _).mono ?_; rintro e w' ⟨rfl, rfl⟩))
              go_ret2
              first | exact ⟨pair_mk em, rfl⟩ | exact ⟨rfl, rfl⟩
  · have h' : bothB a b = false := by simpa using h
    go_enter Try.func23, Try.ntmps23
    go_wp2_with (go_at_call 29; refine (bothP _ _ _).mono ?_; rintro e w' ⟨rfl, rfl⟩)
    go_ret2
    exact ⟨pair_mk (powS_no h'), rfl⟩

set_option maxHeartbeats 400000 in
theorem powR (a b : Int) (w : World) :
    Calls Try.prog 24 #[.int .i64 a, .int .i64 b] w fun e w' => e = .returned (.tuple #[.int .i64 (powS a b).1, .int .i64 (powS a b).2]) ∧ w = w' := by
  by_cases h : bothB a b = true
  · obtain ⟨⟨ha1, ha2⟩, hb1, hb2⟩ := both_def.1 h
    by_cases h0 : b < 0
    · go_enter Try.func24, Try.ntmps24
      go_wp2_with (go_at_call 31; refine (bothR _ _ _).mono ?_; rintro e w' ⟨rfl, rfl⟩)
      go_ret2
      exact ⟨pair_mk (powS_neg h h0), rfl⟩
    · have h0' : 0 ≤ b := by omega
      have em := powS_yes h h0'
      have hA := abs_bd ⟨ha1, ha2⟩
      by_cases hs : 0 < b ∧ absI a ≤ 1
      · obtain ⟨hb, hs⟩ := hs
        have h3 : a = -1 ∨ a = 0 ∨ a = 1 := by unfold absI at hs; omega
        rcases h3 with rfl | rfl | rfl
        · rw [neg_one_pow] at em
          by_cases hp : b % 2 = 0
          · rw [if_pos (by omega)] at em
            have hpb : (b % 2 == 0) = true := by simpa using hp
            have em2 : powS (-1) b = (1, 0) := em
            clear em hA h0 hp
            go_enter Try.func24, Try.ntmps24
            go_wp2_with (first | (go_at_call 31; refine (bothR _ _ _).mono ?_; rintro e w' ⟨rfl, rfl⟩) | (go_at_call 33; refine (absR _ _ (by omega) (by omega)).mono ?_; rintro e w' ⟨rfl, rfl⟩))
            go_ret2
            first | exact ⟨pair_mk em2, rfl⟩ | exact ⟨rfl, rfl⟩
          · rw [if_neg (by omega)] at em
            have hpb : (b % 2 == 0) = false := by simpa using hp
            have em2 : powS (-1) b = (-1, 0) := em
            clear em hA h0 hp
            go_enter Try.func24, Try.ntmps24
            go_wp2_with (first | (go_at_call 31; refine (bothR _ _ _).mono ?_; rintro e w' ⟨rfl, rfl⟩) | (go_at_call 33; refine (absR _ _ (by omega) (by omega)).mono ?_; rintro e w' ⟨rfl, rfl⟩))
            go_ret2
            first | exact ⟨pair_mk em2, rfl⟩ | exact ⟨rfl, rfl⟩
        · rw [zero_pow _ (by omega)] at em
          have em2 : powS 0 b = (0, 0) := em
          clear em hA h0
          go_enter Try.func24, Try.ntmps24
          go_wp2_with (first | (go_at_call 31; refine (bothR _ _ _).mono ?_; rintro e w' ⟨rfl, rfl⟩) | (go_at_call 33; refine (absR _ _ (by omega) (by omega)).mono ?_; rintro e w' ⟨rfl, rfl⟩))
          go_ret2
          first | exact ⟨pair_mk em2, rfl⟩ | exact ⟨rfl, rfl⟩
        · rw [one_pow] at em
          have em2 : powS 1 b = (1, 0) := em
          clear em hA h0
          go_enter Try.func24, Try.ntmps24
          go_wp2_with (first | (go_at_call 31; refine (bothR _ _ _).mono ?_; rintro e w' ⟨rfl, rfl⟩) | (go_at_call 33; refine (absR _ _ (by omega) (by omega)).mono ?_; rintro e w' ⟨rfl, rfl⟩))
          go_ret2
          first | exact ⟨pair_mk em2, rfl⟩ | exact ⟨rfl, rfl⟩
      · have hfa : fitsB a = true := fits_mk ⟨ha1, ha2⟩
        have hne : ¬ b = 0 → ¬ a = 0 := fun hb ha => hs ⟨by omega, by rw [ha]; decide⟩
        have hs' : ¬ 0 < b ∨ (0 < b ∧ 1 < absI a) := by omega
        clear h0 hA hs
        have loop : ∀ w : World, Calls Try.prog 24 #[.int .i64 a, .int .i64 b] w fun e w' => e = .returned (.tuple #[.int .i64 (powS a b).1, .int .i64 (powS a b).2]) ∧ w = w' := by
          intro w
          rcases hs' with hs' | ⟨hs', hs2⟩
          all_goals
            go_enter Try.func24, Try.ntmps24
            go_wp2_with (first | (go_at_call 31; refine (bothR _ _ _).mono ?_; rintro e w' ⟨rfl, rfl⟩) | (go_at_call 33; refine (absR _ _ (by assumption) (by assumption)).mono ?_; rintro e w' ⟨rfl, rfl⟩))
            go_loop [6, 7] (fun p i => ∃ k : Nat, (k : Int) ≤ b ∧ i = .int .i64 k ∧ p = .int .i64 (a ^ k) ∧ fitsB (a ^ k) = true) (fun _ i => b.toNat - (intOf i).toNat)
            case atStart => exact ⟨0, by omega, rfl, by rw [Int.pow_zero], by rw [Int.pow_zero]; exact fits_one⟩
            case round =>
              obtain ⟨k, hk, rfl, rfl, hf⟩ := hrel
              by_cases hlt : (k : Int) < b
              · by_cases hg : fitsB (a ^ k * a) = true
                · have e1 := mul_yes hf hfa hg
                  rw [pow_step] at hg
                  clear hne em
                  go_wp2_with (go_at_call 15; refine (mulR _ _ _).mono ?_; rintro e w' ⟨rfl, rfl⟩)
                  go_round
                  case rel => exact ⟨k + 1, by omega, by go_num, by rw [← pow_step], hg⟩
                  case measure => simp [intOf]; omega
                · have hg' : fitsB (a ^ k * a) = false := by simpa using hg
                  have e1 := mul_no hf hfa hg'
                  rw [rep_over (hne (by omega)) hlt hg'] at em
                  clear hne hg hg'
                  go_wp2_with (go_at_call 15; refine (mulR _ _ _).mono ?_; rintro e w' ⟨rfl, rfl⟩)
                  go_ret2
                  first | exact ⟨pair_mk em, rfl⟩ | exact ⟨rfl, rfl⟩
              · have ek : b.toNat = k := by omega
                rw [ek, chk_yes hf] at em
                clear hne ek
                go_wp2
                go_ret2
                first | exact ⟨pair_mk em, rfl⟩ | exact ⟨rfl, rfl⟩
        exact loop w
  · have h' : bothB a b = false := by simpa using h
    go_enter Try.func24, Try.ntmps24
    go_wp2_with (go_at_call 31; refine (bothR _ _ _).mono ?_; rintro e w' ⟨rfl, rfl⟩)
    go_ret2
    exact ⟨pair_mk (powS_no h'), rfl⟩
end Go.Proofs.Ytjbabbbldepjgaa.Num
