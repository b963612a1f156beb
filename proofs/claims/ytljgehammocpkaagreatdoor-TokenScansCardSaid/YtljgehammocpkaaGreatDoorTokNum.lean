/-
  Layer 8: the scanner's method that reads a number. (Written by wip/gen/token-num.py.)
-/
import Derived.Test.YtljgehammocpkaaGreatDoorTokVals
namespace Go.Proofs.YtljgehammocpkaaGreatDoor.Tok
open Go.RowKit
set_option linter.unusedVariables false
set_option linter.unusedSimpArgs false

set_option maxRecDepth 100000 in
set_option maxHeartbeats 4000000 in
theorem numberQ (s : ByteArray) (hs : s.size ≤ 65536) (w : World) (b start i : Nat) (hst : start ≤ i) (hi' : i ≤ s.size) (h : Sc w b s i) :
    Calls Tryz.prog 64 #[.pointer (some ⟨b, 0, none⟩), .int .i64 (start : Int)] w (Toks s b w (numS s start i)) := by
  obtain ⟨r, hr⟩ : ∃ r, Hid (numS s start i = r) := ⟨_, rfl⟩
  rw [hr.out]
  have hlt := h.lt
  have g := manyTo_ge (goes_one (n := s.size) (p := isDig s) fun i h => isDig_lt h) (s.size - i) i hi'
  have cM := fun w (h : Sc w b s i) => many_digit s hs _ (digitQ s hs) (goes_one fun i h => isDig_lt h) w b i hi' h
  unfold numS at hr
  generalize manyTo (one (isDig s)) (s.size - i) i = j at cM g hr
  obtain ⟨g1, g2⟩ := g
  have hsj : start ≤ j := by omega
  have hss : (s.extract start j).size ≤ 9223372036854775807 := by rw [ByteArray.size_extract]; omega
  have cR := fun w => Num.readP (s.extract start j) w hss
  obtain ⟨n, e, hne⟩ : ∃ n e, Hid (Num.rdS (s.extract start j).data.toList = (n, e)) := ⟨_, _, rfl⟩
  unfold numAt at hr
  rw [hne.out] at hr cR
  simp only [] at hr cR
  by_cases he : e = 0
  · subst he
    have c3 := fun w (h : Sc w b s j) => letterQ s hs w b j g2 h
    simp only [one] at c3
    cases hA : isLet s j
    · have c4 := fun w (h : Sc w b s j) => nextQ s hs 95 (by decide) w b j g2 h
      simp only [hA, adv_f] at c3
      cases hB : inB s j 95 95
      · have hr2 : r = .tok 1 n ⟨#[]⟩ j := by rw [← hr.out, if_neg (by rw [hA, hB]; simp)]
        subst hr2
        clear hr
        simp only [hB, adv_f] at c4
        go_enter Tryz.func64, Tryz.ntmps64
        go_wp2_with (go_at_call 32; with_reducible refine (cM _ (h.start _ _)).mono ?_; rintro e w1 ⟨rfl, h1, b1⟩; have r1 := (Res.new w).but b1 hlt; have B1 := (But.start b w _ _).trans b1; have s1 := B1.size; obtain ⟨d0, d1, g0, g1⟩ := h1.cells)
        go_region_law ((go_simp; (with_reducible refine (cR _).mono ?_); rintro e2 w2 ⟨rfl, b2⟩; have h2 := h1.drew.below b2; have r2 := r1.drew.but (But.of b2) hlt; have B2 := B1.drew.trans (But.of b2)))
        all_goals go_wp2_with (first
          | (go_at_call 65; with_reducible refine (c3 _ h2).mono ?_; rintro e3 w3 ⟨rfl, h3, b3⟩; have r3 := r2.but b3 hlt; have B3 := B2.trans b3)
          | (go_at_call 61; with_reducible refine (c4 _ h3).mono ?_; rintro e4 w4 ⟨rfl, h4, b4⟩; have r4 := r3.but b4 hlt; have B4 := B3.trans b4; obtain ⟨p0, p1, p2, p3, p4, p5, p6, p7, p8, p9⟩ := r4.tok; obtain ⟨q0, q1, q2, q3, q4, q5, q6, q7, q8, q9⟩ := r4.flt))
        all_goals refine bodyPost_ret (by simp [results, Tryz.results64, go_sem, p0, p1, p2, p3, p4, q0, q1, q2, q3, q4]; try rfl) rfl ?_
        all_goals (obtain ⟨k1, k2⟩ := stored hlt h4 B4 (.int .i64 1) (.int .i64 0) (.int .i64 0) (.int .i64 n) (.string ⟨#[]⟩) (.int .i64 0) (.int .i64 0) (.slice none 0 0) (.slice none 0 0) (.string ⟨#[]⟩); exact ⟨rfl, ⟨j, g2, k1, rfl⟩, k2⟩)

      · have hr2 : r = .bad 4 start := by rw [← hr.out, if_pos (Or.inr (Or.inr hB))]
        subst hr2
        clear hr
        have hj2 := inB_lt hB
        simp only [hB, adv_t] at c4
        go_enter Tryz.func64, Tryz.ntmps64
        go_wp2_with (go_at_call 32; with_reducible refine (cM _ (h.start _ _)).mono ?_; rintro e w1 ⟨rfl, h1, b1⟩; have r1 := (Res.new w).but b1 hlt; have B1 := (But.start b w _ _).trans b1; have s1 := B1.size; obtain ⟨d0, d1, g0, g1⟩ := h1.cells)
        go_region_law ((go_simp; (with_reducible refine (cR _).mono ?_); rintro e2 w2 ⟨rfl, b2⟩; have h2 := h1.drew.below b2; have r2 := r1.drew.but (But.of b2) hlt; have B2 := B1.drew.trans (But.of b2)))
        all_goals go_wp2_with (first
          | (go_at_call 65; with_reducible refine (c3 _ h2).mono ?_; rintro e3 w3 ⟨rfl, h3, b3⟩; have r3 := r2.but b3 hlt; have B3 := B2.trans b3)
          | (go_at_call 61; with_reducible refine (c4 _ h3).mono ?_; rintro e4 w4 ⟨rfl, h4, b4⟩; have r4 := r3.but b4 hlt; have B4 := B3.trans b4)
          | (go_at_call 113; with_reducible refine (failedQ 4 start _).mono ?_; rintro e5 w5 ⟨rfl, b5⟩; have h5 := h4.below b5; have r5 := r4.but (But.of b5) hlt; have B5 := B4.trans (But.of b5); obtain ⟨p0, p1, p2, p3, p4, p5, p6, p7, p8, p9⟩ := r5.tok; obtain ⟨q0, q1, q2, q3, q4, q5, q6, q7, q8, q9⟩ := r5.flt))
        all_goals refine bodyPost_ret (by simp [results, Tryz.results64, go_sem, p0, p1, p2, p3, p4, q0, q1, q2, q3, q4]; try rfl) rfl ?_
        all_goals (obtain ⟨k1, k2⟩ := stored hlt h5 B5 (.int .i64 0) (.int .i64 0) (.int .i64 0) (.int .i64 0) (.string ⟨#[]⟩) (.int .i64 4) (.int .i64 (start : Int)) (.slice none 0 0) (.slice none 0 0) (.string ⟨#[]⟩); exact ⟨rfl, ⟨j + 1, hj2, k1, trivial⟩, k2⟩)

    · have hr2 : r = .bad 4 start := by rw [← hr.out, if_pos (Or.inr (Or.inl hA))]
      subst hr2
      clear hr
      have hj2 := isLet_lt hA
      simp only [hA, adv_t] at c3
      go_enter Tryz.func64, Tryz.ntmps64
      go_wp2_with (go_at_call 32; with_reducible refine (cM _ (h.start _ _)).mono ?_; rintro e w1 ⟨rfl, h1, b1⟩; have r1 := (Res.new w).but b1 hlt; have B1 := (But.start b w _ _).trans b1; have s1 := B1.size; obtain ⟨d0, d1, g0, g1⟩ := h1.cells)
      go_region_law ((go_simp; (with_reducible refine (cR _).mono ?_); rintro e2 w2 ⟨rfl, b2⟩; have h2 := h1.drew.below b2; have r2 := r1.drew.but (But.of b2) hlt; have B2 := B1.drew.trans (But.of b2)))
      all_goals go_wp2_with (first
        | (go_at_call 65; with_reducible refine (c3 _ h2).mono ?_; rintro e3 w3 ⟨rfl, h3, b3⟩; have r3 := r2.but b3 hlt; have B3 := B2.trans b3)
        | (go_at_call 113; with_reducible refine (failedQ 4 start _).mono ?_; rintro e4 w4 ⟨rfl, b4⟩; have h4 := h3.below b4; have r4 := r3.but (But.of b4) hlt; have B4 := B3.trans (But.of b4); obtain ⟨p0, p1, p2, p3, p4, p5, p6, p7, p8, p9⟩ := r4.tok; obtain ⟨q0, q1, q2, q3, q4, q5, q6, q7, q8, q9⟩ := r4.flt))
      all_goals refine bodyPost_ret (by simp [results, Tryz.results64, go_sem, p0, p1, p2, p3, p4, q0, q1, q2, q3, q4]; try rfl) rfl ?_
      all_goals (obtain ⟨k1, k2⟩ := stored hlt h4 B4 (.int .i64 0) (.int .i64 0) (.int .i64 0) (.int .i64 0) (.string ⟨#[]⟩) (.int .i64 4) (.int .i64 (start : Int)) (.slice none 0 0) (.slice none 0 0) (.string ⟨#[]⟩); exact ⟨rfl, ⟨j + 1, hj2, k1, trivial⟩, k2⟩)

  · have hr2 : r = .bad 4 start := by rw [← hr.out, if_pos (Or.inl he)]
    subst hr2
    clear hr
    go_enter Tryz.func64, Tryz.ntmps64
    go_wp2_with (go_at_call 32; with_reducible refine (cM _ (h.start _ _)).mono ?_; rintro e w1 ⟨rfl, h1, b1⟩; have r1 := (Res.new w).but b1 hlt; have B1 := (But.start b w _ _).trans b1; have s1 := B1.size; obtain ⟨d0, d1, g0, g1⟩ := h1.cells)
    go_region_law ((go_simp; (with_reducible refine (cR _).mono ?_); rintro e2 w2 ⟨rfl, b2⟩; have h2 := h1.drew.below b2; have r2 := r1.drew.but (But.of b2) hlt; have B2 := B1.drew.trans (But.of b2)))
    all_goals go_wp2_with (first
      | (go_at_call 113; with_reducible refine (failedQ 4 start _).mono ?_; rintro e3 w3 ⟨rfl, b3⟩; have h3 := h2.below b3; have r3 := r2.but (But.of b3) hlt; have B3 := B2.trans (But.of b3); obtain ⟨p0, p1, p2, p3, p4, p5, p6, p7, p8, p9⟩ := r3.tok; obtain ⟨q0, q1, q2, q3, q4, q5, q6, q7, q8, q9⟩ := r3.flt))
    all_goals refine bodyPost_ret (by simp [results, Tryz.results64, go_sem, p0, p1, p2, p3, p4, q0, q1, q2, q3, q4]; try rfl) rfl ?_
    all_goals (obtain ⟨k1, k2⟩ := stored hlt h3 B3 (.int .i64 0) (.int .i64 0) (.int .i64 0) (.int .i64 0) (.string ⟨#[]⟩) (.int .i64 4) (.int .i64 (start : Int)) (.slice none 0 0) (.slice none 0 0) (.string ⟨#[]⟩); exact ⟨rfl, ⟨j, g2, k1, trivial⟩, k2⟩)

end Go.Proofs.YtljgehammocpkaaGreatDoor.Tok
