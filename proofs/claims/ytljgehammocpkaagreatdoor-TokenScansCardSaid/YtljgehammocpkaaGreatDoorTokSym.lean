/-
  Layer 8: the scanner's method that reads a symbol. (Written by wip/gen/token-sym.py.)
-/
import Derived.Test.YtljgehammocpkaaGreatDoorTokWord
import Derived.LoopN
namespace Go.Proofs.YtljgehammocpkaaGreatDoor.Tok
open Go.RowKit
set_option linter.unusedVariables false
set_option linter.unusedSimpArgs false


set_option maxRecDepth 100000 in
set_option maxHeartbeats 4000000 in
theorem symbolQ (s : ByteArray) (hs : s.size ≤ 65536) (w : World) (b i : Nat) (hi' : i < s.size) (h : Sc w b s i) :
    Calls Tryz.prog 69 #[.pointer (some ⟨b, 0, none⟩)] w (Toks s b w (symS s i)) := by
  obtain ⟨r, hr⟩ : ∃ r, Hid (symS s i = r) := ⟨_, rfl⟩
  rw [hr.out]
  have hlt := h.lt
  have g1 : i ≤ s.size := by omega
  obtain ⟨rs, hrs⟩ : ∃ rs, s.extract i s.size = rs := ⟨_, rfl⟩
  have hn : rs.size = s.size - i := by rw [← hrs, ByteArray.size_extract]; omega
  obtain ⟨n, hns⟩ : ∃ n, n = rs.size := ⟨_, rfl⟩
  have hz : rs.size = n := hns.symm
  have hni : n = s.size - i := by omega
  clear hn hns
  have x1 : s.extract i (i + 1) = rs.extract 0 1 := by rw [← hrs, ByteArray.extract_extract]; congr 1 <;> omega
  obtain ⟨t1, ht1⟩ : ∃ t, rs.extract 0 1 = t := ⟨_, rfl⟩
  rw [ht1] at x1
  have c1 := fun w => isSymbolQ t1 w
  have h2 := (h.start (.cells #[.int .i64 0, .int .i64 0, .int .i64 0, .int .i64 0, .string ⟨#[]⟩] 62 (0, 0)) (.cells #[.int .i64 0, .int .i64 0, .slice none 0 0, .slice none 0 0, .string ⟨#[]⟩] 27 (0, 0))).drew
  have r2 := (Res.new w).drew
  have B2 := (But.start b w (.cells #[.int .i64 0, .int .i64 0, .int .i64 0, .int .i64 0, .string ⟨#[]⟩] 62 (0, 0)) (.cells #[.int .i64 0, .int .i64 0, .slice none 0 0, .slice none 0 0, .string ⟨#[]⟩] 27 (0, 0))).drew
  obtain ⟨d0, d1, g0, g1'⟩ := h.cells
  have hl1 : (1 : Int) ≤ (n : Int) := by omega
  by_cases hn2 : i + 2 ≤ s.size
  · have hl2 : (2 : Int) ≤ (n : Int) := by omega
    have hmin : min (2 : Int) (n : Int) = 2 := by omega
    have x2 : s.extract i (i + 2) = rs.extract 0 2 := by rw [← hrs, ByteArray.extract_extract]; congr 1 <;> omega
    clear hni
    obtain ⟨t2, ht2⟩ : ∃ t, rs.extract 0 2 = t := ⟨_, rfl⟩
    have c2 := fun w => isSymbolQ t2 w
    rw [ht2] at x2
    cases hA : (signB t2.toList || resB t2.toList)
    · cases hB : (signB t1.toList || resB t1.toList)
      · have hr2 : r = .bad 6 i := by rw [← hr.out, symS, x2, x1, if_neg (by rw [hA]; simp), if_neg (by rw [hB]; simp)]
        subst hr2
        clear hr
        simp only [hA] at c2
        simp only [hB] at c1
        go_enter Tryz.func69, Tryz.ntmps69
        go_wp2
        go_region
        all_goals go_wp2
        all_goals refine wp_loop_rounds 3 ?_
        all_goals (rw [rounds_succ]; go_wp2_with (first | (go_at_call 118; with_reducible refine (c2 _).mono ?_; rintro e2 w2 ⟨rfl, rfl⟩) | (go_at_call 118; with_reducible refine (c1 _).mono ?_; rintro e1 w1 ⟨rfl, rfl⟩)))
        all_goals (rw [rounds_succ]; go_wp2_with (first | (go_at_call 118; with_reducible refine (c2 _).mono ?_; rintro e2 w2 ⟨rfl, rfl⟩) | (go_at_call 118; with_reducible refine (c1 _).mono ?_; rintro e1 w1 ⟨rfl, rfl⟩)))
        all_goals (rw [rounds_succ]; go_wp2_with (first | (go_at_call 118; with_reducible refine (c2 _).mono ?_; rintro e2 w2 ⟨rfl, rfl⟩) | (go_at_call 118; with_reducible refine (c1 _).mono ?_; rintro e1 w1 ⟨rfl, rfl⟩)))
        all_goals go_wp2_with (first | (go_at_call 113; with_reducible refine (failedQ 6 (i : Int) _).mono ?_; rintro e9 w9 ⟨rfl, b9⟩; have h9 := h2.below b9; have r9 := r2.but (But.of b9) hlt; have B9 := B2.trans (But.of b9); obtain ⟨p0, p1, p2, p3, p4, p5, p6, p7, p8, p9⟩ := r9.tok; obtain ⟨q0, q1, q2, q3, q4, q5, q6, q7, q8, q9⟩ := r9.flt))
        all_goals refine bodyPost_ret (by simp [results, Tryz.results69, go_sem, p0, p1, p2, p3, p4, q0, q1, q2, q3, q4]; try rfl) rfl ?_
        all_goals (obtain ⟨k1, k2⟩ := stored hlt h9 B9 (.int .i64 0) (.int .i64 0) (.int .i64 0) (.int .i64 0) (.string ⟨#[]⟩) (.int .i64 6) (.int .i64 (i : Int)) (.slice none 0 0) (.slice none 0 0) (.string ⟨#[]⟩); exact ⟨rfl, ⟨i, (by omega), k1, trivial⟩, k2⟩)

      · have hr2 : r = .tok 5 0 t1 (i + 1) := by rw [← hr.out, symS, x2, x1, if_neg (by rw [hA]; simp), if_pos hB]
        subst hr2
        clear hr
        simp only [hA] at c2
        simp only [hB] at c1
        go_enter Tryz.func69, Tryz.ntmps69
        go_wp2
        go_region
        all_goals go_wp2
        all_goals refine wp_loop_rounds 3 ?_
        all_goals (rw [rounds_succ]; go_wp2_with (first | (go_at_call 118; with_reducible refine (c2 _).mono ?_; rintro e2 w2 ⟨rfl, rfl⟩) | (go_at_call 118; with_reducible refine (c1 _).mono ?_; rintro e1 w1 ⟨rfl, rfl⟩)))
        all_goals (rw [rounds_succ]; go_wp2_with (first | (go_at_call 118; with_reducible refine (c2 _).mono ?_; rintro e2 w2 ⟨rfl, rfl⟩) | (go_at_call 118; with_reducible refine (c1 _).mono ?_; rintro e1 w1 ⟨rfl, rfl⟩)))
        all_goals go_returns
        all_goals exact ⟨rfl, ⟨i + 1, (by omega), ((h.set (i + 1)).start _ _).drew, rfl⟩, ((But.set _ _ _).trans (But.start _ _ _ _)).drew⟩

    · have hr2 : r = .tok 5 0 t2 (i + 2) := by rw [← hr.out, symS, x2, if_pos ⟨hn2, hA⟩]
      subst hr2
      clear hr
      simp only [hA] at c2
      go_enter Tryz.func69, Tryz.ntmps69
      go_wp2
      go_region
      all_goals go_wp2
      all_goals refine wp_loop_rounds 3 ?_
      all_goals (rw [rounds_succ]; go_wp2_with (first | (go_at_call 118; with_reducible refine (c2 _).mono ?_; rintro e2 w2 ⟨rfl, rfl⟩)))
      all_goals go_returns
      all_goals exact ⟨rfl, ⟨i + 2, (by omega), ((h.set (i + 2)).start _ _).drew, rfl⟩, ((But.set _ _ _).trans (But.start _ _ _ _)).drew⟩

  · obtain rfl : n = 1 := by omega
    clear hni
    have hmin : min (2 : Int) 1 = 1 := by decide
    cases hB : (signB t1.toList || resB t1.toList)
    · have hr2 : r = .bad 6 i := by rw [← hr.out, symS, x1, if_neg (fun q => hn2 q.1), if_neg (by rw [hB]; simp)]
      subst hr2
      clear hr
      simp only [hB] at c1
      go_enter Tryz.func69, Tryz.ntmps69
      go_wp2
      go_region
      all_goals go_wp2
      all_goals refine wp_loop_rounds 3 ?_
      all_goals (rw [rounds_succ]; go_wp2_with (first | (go_at_call 118; with_reducible refine (c1 _).mono ?_; rintro e1 w1 ⟨rfl, rfl⟩)))
      all_goals (rw [rounds_succ]; go_wp2_with (first | (go_at_call 118; with_reducible refine (c1 _).mono ?_; rintro e1 w1 ⟨rfl, rfl⟩)))
      all_goals go_wp2_with (first | (go_at_call 113; with_reducible refine (failedQ 6 (i : Int) _).mono ?_; rintro e9 w9 ⟨rfl, b9⟩; have h9 := h2.below b9; have r9 := r2.but (But.of b9) hlt; have B9 := B2.trans (But.of b9); obtain ⟨p0, p1, p2, p3, p4, p5, p6, p7, p8, p9⟩ := r9.tok; obtain ⟨q0, q1, q2, q3, q4, q5, q6, q7, q8, q9⟩ := r9.flt))
      all_goals refine bodyPost_ret (by simp [results, Tryz.results69, go_sem, p0, p1, p2, p3, p4, q0, q1, q2, q3, q4]; try rfl) rfl ?_
      all_goals (obtain ⟨k1, k2⟩ := stored hlt h9 B9 (.int .i64 0) (.int .i64 0) (.int .i64 0) (.int .i64 0) (.string ⟨#[]⟩) (.int .i64 6) (.int .i64 (i : Int)) (.slice none 0 0) (.slice none 0 0) (.string ⟨#[]⟩); exact ⟨rfl, ⟨i, (by omega), k1, trivial⟩, k2⟩)

    · have hr2 : r = .tok 5 0 t1 (i + 1) := by rw [← hr.out, symS, x1, if_neg (fun q => hn2 q.1), if_pos hB]
      subst hr2
      clear hr
      simp only [hB] at c1
      go_enter Tryz.func69, Tryz.ntmps69
      go_wp2
      go_region
      all_goals go_wp2
      all_goals refine wp_loop_rounds 3 ?_
      all_goals (rw [rounds_succ]; go_wp2_with (first | (go_at_call 118; with_reducible refine (c1 _).mono ?_; rintro e1 w1 ⟨rfl, rfl⟩)))
      all_goals go_returns
      all_goals exact ⟨rfl, ⟨i + 1, (by omega), ((h.set (i + 1)).start _ _).drew, rfl⟩, ((But.set _ _ _).trans (But.start _ _ _ _)).drew⟩

end Go.Proofs.YtljgehammocpkaaGreatDoor.Tok
