/-
  Layer 1: Div and Mod of the program and of the reference.
-/
import Derived.Test.YtjbabbbldepjgaaNumLeaf
namespace Go.Proofs.Ytjbabbbldepjgaa.Num
open Go.RowKit

/-- What both programs compute from Go's own division. -/
theorem quo_case {a b : Int} (h0 : ¬ b = 0) :
    (a.tmod b = 0 → fl a b = a.tdiv b ∧ md a b = 0) ∧
    (a.tmod b ≠ 0 → (a < 0 ↔ b < 0) → fl a b = a.tdiv b ∧ md a b = a.tmod b) ∧
    (a.tmod b ≠ 0 → ¬ (a < 0 ↔ b < 0) → fl a b = a.tdiv b - 1 ∧ md a b = a.tmod b + b) := by
  have e := Int.mul_tdiv_add_tmod a b
  have l := tmod_abs_lt a b h0
  have s := tmod_sign a b
  refine ⟨fun hr => ?_, fun hr hd => ?_, fun hr hd => ?_⟩
  · exact fl_unique h0 (by omega) ⟨fun _ => by omega, fun _ => by omega⟩
  · refine fl_unique h0 e ?_
    exact ⟨fun hp => by omega, fun hn => by omega⟩
  · refine fl_unique h0 (by rw [Int.mul_sub]; omega) ?_
    exact ⟨fun hp => by omega, fun hn => by omega⟩
theorem mul_fl_bd {a b : Int} (h : bothB a b = true) (h0 : ¬ b = 0) : -9223372036854775807 ≤ b * fl a b ∧ b * fl a b ≤ 9223372036854775807 := by
  have := md_spec (a := a) h0
  have := both_def.1 h
  omega
theorem md_def (a b : Int) : a - b * fl a b = md a b := rfl

theorem divP (a b : Int) (w : World) :
    Calls Try.prog 16 #[.int .i64 a, .int .i64 b] w fun e w' => e = .returned (.tuple #[.int .i64 (divS a b).1, .int .i64 (divS a b).2]) ∧ w = w' := by
  by_cases h : bothB a b = true
  · obtain ⟨⟨ha1, ha2⟩, hb1, hb2⟩ := both_def.1 h
    by_cases h0 : b = 0
    · subst h0
      have hc : cdS a 0 = 20 := by simp [cdS, h]
      have em := divS_zero h
      clear hb1 hb2
      go_enter Try.func16, Try.ntmps16
      go_wp2_with (go_at_call 34; refine (checkDivP _ _ _).mono ?_; rintro e w' ⟨rfl, rfl⟩)
      go_ret2
      exact ⟨pair_mk em, rfl⟩
    · have hc : cdS a b = 0 := by simp [cdS, h, h0]
      have em := divS_yes h h0
      have hz : (b == 0) = false := by simpa using h0
      obtain ⟨hq1, hq2⟩ := tdiv_bd (b := b) ⟨ha1, ha2⟩
      obtain ⟨hm1, hm2⟩ := tmod_bd (b := b) ⟨ha1, ha2⟩
      have hl := tmod_abs_lt a b h0
      have hm3 : -9223372036854775806 ≤ a.tmod b + b := by omega
      have hm4 : a.tmod b + b ≤ 9223372036854775806 := by omega
      clear hl
      by_cases hr : a.tmod b = 0
      · have q := (quo_case h0).1 hr
        rw [q.1] at em
        have hr' : (a.tmod b != 0) = false := by simpa using hr
        clear q
        go_enter Try.func16, Try.ntmps16
        go_wp2_with (go_at_call 34; refine (checkDivP _ _ _).mono ?_; rintro e w' ⟨rfl, rfl⟩)
        go_ret2
        exact ⟨pair_mk em, rfl⟩
      · have hr' : (a.tmod b != 0) = true := by simpa using hr
        have q2 := (quo_case h0).2.1 hr
        have q3 := (quo_case h0).2.2 hr
        by_cases sa : a < 0
        · by_cases sb : b < 0
          · rw [(q2 (by omega)).1] at em
            have ga : decide (a < 0) = true := by simpa using sa
            have gb : decide (b < 0) = true := by simpa using sb
            clear q2 q3 hr sa sb
            go_enter Try.func16, Try.ntmps16
            go_wp2_with (go_at_call 34; refine (checkDivP _ _ _).mono ?_; rintro e w' ⟨rfl, rfl⟩)
            go_ret2
            exact ⟨pair_mk em, rfl⟩
          · rw [(q3 (by omega)).1] at em
            have ga : decide (a < 0) = true := by simpa using sa
            have gb : decide (b < 0) = false := by simpa using sb
            clear q2 q3 hr sa sb
            go_enter Try.func16, Try.ntmps16
            go_wp2_with (go_at_call 34; refine (checkDivP _ _ _).mono ?_; rintro e w' ⟨rfl, rfl⟩)
            go_ret2
            exact ⟨pair_mk em, rfl⟩
        · by_cases sb : b < 0
          · rw [(q3 (by omega)).1] at em
            have ga : decide (a < 0) = false := by simpa using sa
            have gb : decide (b < 0) = true := by simpa using sb
            clear q2 q3 hr sa sb
            go_enter Try.func16, Try.ntmps16
            go_wp2_with (go_at_call 34; refine (checkDivP _ _ _).mono ?_; rintro e w' ⟨rfl, rfl⟩)
            go_ret2
            exact ⟨pair_mk em, rfl⟩
          · rw [(q2 (by omega)).1] at em
            have ga : decide (a < 0) = false := by simpa using sa
            have gb : decide (b < 0) = false := by simpa using sb
            clear q2 q3 hr sa sb
            go_enter Try.func16, Try.ntmps16
            go_wp2_with (go_at_call 34; refine (checkDivP _ _ _).mono ?_; rintro e w' ⟨rfl, rfl⟩)
            go_ret2
            exact ⟨pair_mk em, rfl⟩
  · have h' : bothB a b = false := by simpa using h
    have hc : cdS a b = 1 := by simp [cdS, h']
    go_enter Try.func16, Try.ntmps16
    go_wp2_with (go_at_call 34; refine (checkDivP _ _ _).mono ?_; rintro e w' ⟨rfl, rfl⟩)
    go_ret2
    exact ⟨pair_mk (divS_no h'), rfl⟩

theorem modP (a b : Int) (w : World) :
    Calls Try.prog 18 #[.int .i64 a, .int .i64 b] w fun e w' => e = .returned (.tuple #[.int .i64 (modS a b).1, .int .i64 (modS a b).2]) ∧ w = w' := by
  by_cases h : bothB a b = true
  · obtain ⟨⟨ha1, ha2⟩, hb1, hb2⟩ := both_def.1 h
    by_cases h0 : b = 0
    · subst h0
      have hc : cdS a 0 = 20 := by simp [cdS, h]
      have em := modS_zero h
      clear hb1 hb2
      go_enter Try.func18, Try.ntmps18
      go_wp2_with (go_at_call 34; refine (checkDivP _ _ _).mono ?_; rintro e w' ⟨rfl, rfl⟩)
      go_ret2
      exact ⟨pair_mk em, rfl⟩
    · have hc : cdS a b = 0 := by simp [cdS, h, h0]
      have em := modS_yes h h0
      have hz : (b == 0) = false := by simpa using h0
      obtain ⟨hq1, hq2⟩ := tdiv_bd (b := b) ⟨ha1, ha2⟩
      obtain ⟨hm1, hm2⟩ := tmod_bd (b := b) ⟨ha1, ha2⟩
      have hl := tmod_abs_lt a b h0
      have hm3 : -9223372036854775806 ≤ a.tmod b + b := by omega
      have hm4 : a.tmod b + b ≤ 9223372036854775806 := by omega
      clear hl
      by_cases hr : a.tmod b = 0
      · have q := (quo_case h0).1 hr
        rw [q.2] at em
        have hr' : (a.tmod b != 0) = false := by simpa using hr
        clear q
        go_enter Try.func18, Try.ntmps18
        go_wp2_with (go_at_call 34; refine (checkDivP _ _ _).mono ?_; rintro e w' ⟨rfl, rfl⟩)
        go_ret2
        exact ⟨pair_mk em, rfl⟩
      · have hr' : (a.tmod b != 0) = true := by simpa using hr
        have q2 := (quo_case h0).2.1 hr
        have q3 := (quo_case h0).2.2 hr
        by_cases sa : a < 0
        · by_cases sb : b < 0
          · rw [(q2 (by omega)).2] at em
            have ga : decide (a < 0) = true := by simpa using sa
            have gb : decide (b < 0) = true := by simpa using sb
            clear q2 q3 hr sa sb
            go_enter Try.func18, Try.ntmps18
            go_wp2_with (go_at_call 34; refine (checkDivP _ _ _).mono ?_; rintro e w' ⟨rfl, rfl⟩)
            go_ret2
            exact ⟨pair_mk em, rfl⟩
          · rw [(q3 (by omega)).2] at em
            have ga : decide (a < 0) = true := by simpa using sa
            have gb : decide (b < 0) = false := by simpa using sb
            clear q2 q3 hr sa sb
            go_enter Try.func18, Try.ntmps18
            go_wp2_with (go_at_call 34; refine (checkDivP _ _ _).mono ?_; rintro e w' ⟨rfl, rfl⟩)
            go_ret2
            exact ⟨pair_mk em, rfl⟩
        · by_cases sb : b < 0
          · rw [(q3 (by omega)).2] at em
            have ga : decide (a < 0) = false := by simpa using sa
            have gb : decide (b < 0) = true := by simpa using sb
            clear q2 q3 hr sa sb
            go_enter Try.func18, Try.ntmps18
            go_wp2_with (go_at_call 34; refine (checkDivP _ _ _).mono ?_; rintro e w' ⟨rfl, rfl⟩)
            go_ret2
            exact ⟨pair_mk em, rfl⟩
          · rw [(q2 (by omega)).2] at em
            have ga : decide (a < 0) = false := by simpa using sa
            have gb : decide (b < 0) = false := by simpa using sb
            clear q2 q3 hr sa sb
            go_enter Try.func18, Try.ntmps18
            go_wp2_with (go_at_call 34; refine (checkDivP _ _ _).mono ?_; rintro e w' ⟨rfl, rfl⟩)
            go_ret2
            exact ⟨pair_mk em, rfl⟩
  · have h' : bothB a b = false := by simpa using h
    have hc : cdS a b = 1 := by simp [cdS, h']
    go_enter Try.func18, Try.ntmps18
    go_wp2_with (go_at_call 34; refine (checkDivP _ _ _).mono ?_; rintro e w' ⟨rfl, rfl⟩)
    go_ret2
    exact ⟨pair_mk (modS_no h'), rfl⟩

theorem divR (a b : Int) (w : World) :
    Calls Try.prog 17 #[.int .i64 a, .int .i64 b] w fun e w' => e = .returned (.tuple #[.int .i64 (divS a b).1, .int .i64 (divS a b).2]) ∧ w = w' := by
  by_cases h : bothB a b = true
  · obtain ⟨⟨ha1, ha2⟩, hb1, hb2⟩ := both_def.1 h
    by_cases h0 : b = 0
    · subst h0
      have hc : cdS a 0 = 20 := by simp [cdS, h]
      have em := divS_zero h
      clear hb1 hb2
      go_enter Try.func17, Try.ntmps17
      go_wp2_with (go_at_call 31; refine (bothR _ _ _).mono ?_; rintro e w' ⟨rfl, rfl⟩)
      go_ret2
      exact ⟨pair_mk em, rfl⟩
    · have hc : cdS a b = 0 := by simp [cdS, h, h0]
      have em := divS_yes h h0
      have hz : (b == 0) = false := by simpa using h0
      obtain ⟨hq1, hq2⟩ := tdiv_bd (b := b) ⟨ha1, ha2⟩
      obtain ⟨hm1, hm2⟩ := tmod_bd (b := b) ⟨ha1, ha2⟩
      have hl := tmod_abs_lt a b h0
      have hm3 : -9223372036854775806 ≤ a.tmod b + b := by omega
      have hm4 : a.tmod b + b ≤ 9223372036854775806 := by omega
      clear hl
      by_cases hr : a.tmod b = 0
      · have q := (quo_case h0).1 hr
        rw [q.1] at em
        have hr' : (a.tmod b != 0) = false := by simpa using hr
        clear q
        go_enter Try.func17, Try.ntmps17
        go_wp2_with (go_at_call 31; refine (bothR _ _ _).mono ?_; rintro e w' ⟨rfl, rfl⟩)
        go_ret2
        exact ⟨pair_mk em, rfl⟩
      · have hr' : (a.tmod b != 0) = true := by simpa using hr
        have q2 := (quo_case h0).2.1 hr
        have q3 := (quo_case h0).2.2 hr
        by_cases sa : a < 0
        · by_cases sb : b < 0
          · rw [(q2 (by omega)).1] at em
            have ga : decide (a < 0) = true := by simpa using sa
            have gb : decide (b < 0) = true := by simpa using sb
            clear q2 q3 hr sa sb
            go_enter Try.func17, Try.ntmps17
            go_wp2_with (go_at_call 31; refine (bothR _ _ _).mono ?_; rintro e w' ⟨rfl, rfl⟩)
            go_ret2
            exact ⟨pair_mk em, rfl⟩
          · rw [(q3 (by omega)).1] at em
            have ga : decide (a < 0) = true := by simpa using sa
            have gb : decide (b < 0) = false := by simpa using sb
            clear q2 q3 hr sa sb
            go_enter Try.func17, Try.ntmps17
            go_wp2_with (go_at_call 31; refine (bothR _ _ _).mono ?_; rintro e w' ⟨rfl, rfl⟩)
            go_ret2
            exact ⟨pair_mk em, rfl⟩
        · by_cases sb : b < 0
          · rw [(q3 (by omega)).1] at em
            have ga : decide (a < 0) = false := by simpa using sa
            have gb : decide (b < 0) = true := by simpa using sb
            clear q2 q3 hr sa sb
            go_enter Try.func17, Try.ntmps17
            go_wp2_with (go_at_call 31; refine (bothR _ _ _).mono ?_; rintro e w' ⟨rfl, rfl⟩)
            go_ret2
            exact ⟨pair_mk em, rfl⟩
          · rw [(q2 (by omega)).1] at em
            have ga : decide (a < 0) = false := by simpa using sa
            have gb : decide (b < 0) = false := by simpa using sb
            clear q2 q3 hr sa sb
            go_enter Try.func17, Try.ntmps17
            go_wp2_with (go_at_call 31; refine (bothR _ _ _).mono ?_; rintro e w' ⟨rfl, rfl⟩)
            go_ret2
            exact ⟨pair_mk em, rfl⟩
  · have h' : bothB a b = false := by simpa using h
    have hc : cdS a b = 1 := by simp [cdS, h']
    go_enter Try.func17, Try.ntmps17
    go_wp2_with (go_at_call 31; refine (bothR _ _ _).mono ?_; rintro e w' ⟨rfl, rfl⟩)
    go_ret2
    exact ⟨pair_mk (divS_no h'), rfl⟩

theorem modR (a b : Int) (w : World) :
    Calls Try.prog 19 #[.int .i64 a, .int .i64 b] w fun e w' => e = .returned (.tuple #[.int .i64 (modS a b).1, .int .i64 (modS a b).2]) ∧ w = w' := by
  by_cases h : bothB a b = true
  · obtain ⟨⟨ha1, ha2⟩, hb1, hb2⟩ := both_def.1 h
    by_cases h0 : b = 0
    · subst h0
      have em := modS_zero h
      have ed := divS_zero h
      clear hb1 hb2
      go_enter Try.func19, Try.ntmps19
      go_wp2_with (go_at_call 17; refine (divR _ _ _).mono ?_; rintro e w' ⟨rfl, rfl⟩)
      go_ret2
      exact ⟨pair_mk em, rfl⟩
    · have em := modS_yes h h0
      have ed := divS_yes h h0
      obtain ⟨hm1, hm2⟩ := mul_fl_bd h h0
      have hs := md_spec (a := a) h0
      have hd : -9223372036854775807 ≤ a - b * fl a b ∧ a - b * fl a b ≤ 9223372036854775807 := by omega
      obtain ⟨hd1, hd2⟩ := hd
      clear hs
      go_enter Try.func19, Try.ntmps19
      go_wp2_with (go_at_call 17; refine (divR _ _ _).mono ?_; rintro e w' ⟨rfl, rfl⟩)
      go_ret2
      exact ⟨pair_mk em, rfl⟩
  · have h' : bothB a b = false := by simpa using h
    have ed := divS_no h'
    go_enter Try.func19, Try.ntmps19
    go_wp2_with (go_at_call 17; refine (divR _ _ _).mono ?_; rintro e w' ⟨rfl, rfl⟩)
    go_ret2
    exact ⟨pair_mk (modS_no h'), rfl⟩
end Go.Proofs.Ytjbabbbldepjgaa.Num
