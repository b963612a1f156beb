/-
  Layer 8: the scanner's method that reads a character literal. (Written by wip/gen/token-clit.py.)
-/
import Derived.Test.YtljgehammocpkaaGreatDoorTokChar2
namespace Go.Proofs.YtljgehammocpkaaGreatDoor.Tok
open Go.RowKit
set_option linter.unusedVariables false
set_option linter.unusedSimpArgs false

def clitEnd (s : ByteArray) (start : Nat) : Ch → Tk
  | .bad e a => .bad e a
  | .ok c j => if inB s j 39 39 = true then .tok 2 (c : Int) ⟨#[]⟩ (j + 1) else if endL s j = true then .bad 5 start else .bad 3 start
def clitS (s : ByteArray) (start i : Nat) : Tk := if inB s i 39 39 = true then .bad 3 start else clitEnd s start (charS s start i)
theorem charS_bad {s : ByteArray} {start i a : Nat} {e : Int} (h : charS s start i = .bad e a) : ¬ e = 0 := by
  unfold charS at h
  split at h
  · injection h with h1 h2; rw [← h1]; decide
  · split at h
    · cases hx : escS s (i + 1) with
      | none => rw [hx] at h; injection h with h1 h2; rw [← h1]; decide
      | some q => rw [hx] at h; cases h
    · split at h
      · cases h
      · injection h with h1 h2; rw [← h1]; decide

set_option maxRecDepth 100000 in
set_option maxHeartbeats 4000000 in
theorem charLiteralQ (s : ByteArray) (hs : s.size ≤ 65536) (HE : EscOK s) (w : World) (b start i : Nat) (hi' : i ≤ s.size) (hb2 : 7 < b) (hT : Tabs w) (h : Sc w b s i) :
    Calls Tryz.prog 67 #[.pointer (some ⟨b, 0, none⟩), .int .i64 (start : Int)] w (Toks s b w (clitS s start i)) := by
  obtain ⟨r, hr⟩ : ∃ r, Hid (clitS s start i = r) := ⟨_, rfl⟩
  rw [hr.out]
  have hlt := h.lt
  have cN := fun w (h : Sc w b s i) => nextQ s hs 39 (by decide) w b i hi' h
  cases hA : inB s i 39 39
  · simp only [hA, adv_f] at cN
    cases hC : charS s start i with
    | bad e a =>
      have hr2 : r = .bad e a := by rw [← hr.out, clitS, if_neg (by rw [hA]; decide), hC]; rfl
      subst hr2
      clear hr
      have he := charS_bad hC
      have cC : ∀ w, Tabs w → Sc w b s i → Calls Tryz.prog 116 #[.pointer (some ⟨b, 0, none⟩), .int .i64 (start : Int)] w fun e' w' => e' = .returned (.tuple #[.int .i32 0, .agg #[.int .i64 e, .int .i64 (a : Int), .slice none 0 0, .slice none 0 0, .string ⟨#[]⟩]]) ∧ (∃ j, j ≤ s.size ∧ Sc w' b s j) ∧ But b w w' := fun w hT h =>
        (characterQ s hs HE w b start i hi' hb2 hT h).mono fun e' w' q => by
          rw [hC] at q
          obtain ⟨q1, ⟨j, q2, q3, -⟩, q4⟩ := q
          exact ⟨q1, ⟨j, q2, q3⟩, q4⟩
      go_enter Tryz.func67, Tryz.ntmps67
      go_wp2_with (first
        | (go_at_call 61; with_reducible refine (cN _ (h.start _ _)).mono ?_; rintro e1 w1 ⟨rfl, h1, b1⟩; have r1 := (Res.new w).but b1 hlt; have B1 := (But.start b w _ _).trans b1; have T1 := hT.but B1 hb2)
        | (go_at_call 116; with_reducible refine (cC _ T1 h1).mono ?_; rintro e2 w2 ⟨rfl, ⟨j, hj, h2⟩, b2⟩; have r2 := r1.but b2 hlt; have B2 := B1.trans b2; have r3 := r2.but (But.start1 b w2 (.cells #[.int .i64 e, .int .i64 (a : Int), .slice none 0 0, .slice none 0 0, .string ⟨#[]⟩] 27)) hlt; have hn1 : w.heap.size ≠ w2.heap.size := (by have := r2.lt; omega); have hn2 : w.heap.size + 1 ≠ w2.heap.size := (by have := r2.lt; omega); have hn3 := hn1.symm; have hn4 := hn2.symm; obtain ⟨p0, p1, p2, p3, p4, p5, p6, p7, p8, p9⟩ := r3.tok; obtain ⟨q0, q1, q2, q3, q4, q5, q6, q7, q8, q9⟩ := r3.flt))
      go_region
      all_goals go_wp2
      all_goals refine bodyPost_ret (by simp [results, Tryz.results67, go_sem, p0, p1, p2, p3, p4, q0, q1, q2, q3, q4]; try rfl) rfl ?_
      all_goals (obtain ⟨k1, k2⟩ := stored hlt (h2.start1 (.cells #[.int .i64 e, .int .i64 (a : Int), .slice none 0 0, .slice none 0 0, .string ⟨#[]⟩] 27)) (B2.trans (But.start1 b w2 (.cells #[.int .i64 e, .int .i64 (a : Int), .slice none 0 0, .slice none 0 0, .string ⟨#[]⟩] 27))) (.int .i64 0) (.int .i64 0) (.int .i64 0) (.int .i64 0) (.string ⟨#[]⟩) (.int .i64 e) (.int .i64 (a : Int)) (.slice none 0 0) (.slice none 0 0) (.string ⟨#[]⟩); exact ⟨rfl, ⟨j, hj, k1.drew, trivial⟩, k2.drew⟩)

    | ok c j =>
      have hj := (charS_le hC).2.1
      have cC : ∀ w, Tabs w → Sc w b s i → Calls Tryz.prog 116 #[.pointer (some ⟨b, 0, none⟩), .int .i64 (start : Int)] w fun e' w' => e' = .returned (.tuple #[.int .i32 (c : Int), .agg #[.int .i64 0, .int .i64 0, .slice none 0 0, .slice none 0 0, .string ⟨#[]⟩]]) ∧ j ≤ s.size ∧ Sc w' b s j ∧ But b w w' := fun w hT h =>
        (characterQ s hs HE w b start i hi' hb2 hT h).mono fun e' w' q => by
          rw [hC] at q
          obtain ⟨q1, ⟨j', q2, q3, q5⟩, q4⟩ := q
          have : j' = j := q5
          subst this
          exact ⟨q1, q2, q3, q4⟩
      have hc : (c : Int) ≤ 1114111 := by have := (charS_le hC).2.2; omega
      have c3 := fun w (h : Sc w b s j) => nextQ s hs 39 (by decide) w b j hj h
      cases hB : inB s j 39 39
      · simp only [hB, adv_f] at c3
        have c4 := fun w (h : Sc w b s j) => lineEndsQ s hs w b j hj h
        cases hD : endL s j
        · simp only [hD] at c4
          have hr2 : r = .bad 3 start := by rw [← hr.out, clitS, if_neg (by rw [hA]; decide), hC, clitEnd, if_neg (by rw [hB]; decide), if_neg (by rw [hD]; decide)]
          subst hr2
          clear hr
          go_enter Tryz.func67, Tryz.ntmps67
          go_wp2_with (first
            | (go_at_call 61; with_reducible refine (cN _ (h.start _ _)).mono ?_; rintro e1 w1 ⟨rfl, h1, b1⟩; have r1 := (Res.new w).but b1 hlt; have B1 := (But.start b w _ _).trans b1; have T1 := hT.but B1 hb2)
            | (go_at_call 116; with_reducible refine (cC _ T1 h1).mono ?_; rintro e2 w2 ⟨rfl, hj, h2, b2⟩; have r2 := r1.but b2 hlt; have B2 := B1.trans b2)
            | (go_at_call 61; with_reducible refine (c3 _ (h2.start1 _)).mono ?_; rintro e3 w3 ⟨rfl, h3, b3⟩; have r3 := (r2.but (But.start1 b _ _) hlt).but b3 hlt; have B3 := (B2.trans (But.start1 b _ _)).trans b3)
            | (go_at_call 111; with_reducible refine (c4 _ h3).mono ?_; rintro e4 w4 ⟨rfl, h4, b4⟩; have r4 := r3.but b4 hlt; have B4 := B3.trans b4)
            | (go_at_call 113; with_reducible refine (failedQ 3 start _).mono ?_; rintro e5 w5 ⟨rfl, b5⟩; have h5 := h4.below b5; have r5 := r4.but (But.of b5) hlt; have B5 := B4.trans (But.of b5); obtain ⟨p0, p1, p2, p3, p4, p5, p6, p7, p8, p9⟩ := r5.tok; obtain ⟨q0, q1, q2, q3, q4, q5, q6, q7, q8, q9⟩ := r5.flt))
          refine bodyPost_ret (by simp [results, Tryz.results67, go_sem, p0, p1, p2, p3, p4, q0, q1, q2, q3, q4]; try rfl) rfl ?_
          (obtain ⟨k1, k2⟩ := stored hlt h5 B5 (.int .i64 0) (.int .i64 0) (.int .i64 0) (.int .i64 0) (.string ⟨#[]⟩) (.int .i64 3) (.int .i64 (start : Int)) (.slice none 0 0) (.slice none 0 0) (.string ⟨#[]⟩); exact ⟨rfl, ⟨j, hj, k1, trivial⟩, k2⟩)

        · simp only [hD] at c4
          have hr2 : r = .bad 5 start := by rw [← hr.out, clitS, if_neg (by rw [hA]; decide), hC, clitEnd, if_neg (by rw [hB]; decide), if_pos hD]
          subst hr2
          clear hr
          go_enter Tryz.func67, Tryz.ntmps67
          go_wp2_with (first
            | (go_at_call 61; with_reducible refine (cN _ (h.start _ _)).mono ?_; rintro e1 w1 ⟨rfl, h1, b1⟩; have r1 := (Res.new w).but b1 hlt; have B1 := (But.start b w _ _).trans b1; have T1 := hT.but B1 hb2)
            | (go_at_call 116; with_reducible refine (cC _ T1 h1).mono ?_; rintro e2 w2 ⟨rfl, hj, h2, b2⟩; have r2 := r1.but b2 hlt; have B2 := B1.trans b2)
            | (go_at_call 61; with_reducible refine (c3 _ (h2.start1 _)).mono ?_; rintro e3 w3 ⟨rfl, h3, b3⟩; have r3 := (r2.but (But.start1 b _ _) hlt).but b3 hlt; have B3 := (B2.trans (But.start1 b _ _)).trans b3)
            | (go_at_call 111; with_reducible refine (c4 _ h3).mono ?_; rintro e4 w4 ⟨rfl, h4, b4⟩; have r4 := r3.but b4 hlt; have B4 := B3.trans b4)
            | (go_at_call 113; with_reducible refine (failedQ 5 start _).mono ?_; rintro e5 w5 ⟨rfl, b5⟩; have h5 := h4.below b5; have r5 := r4.but (But.of b5) hlt; have B5 := B4.trans (But.of b5); obtain ⟨p0, p1, p2, p3, p4, p5, p6, p7, p8, p9⟩ := r5.tok; obtain ⟨q0, q1, q2, q3, q4, q5, q6, q7, q8, q9⟩ := r5.flt))
          refine bodyPost_ret (by simp [results, Tryz.results67, go_sem, p0, p1, p2, p3, p4, q0, q1, q2, q3, q4]; try rfl) rfl ?_
          (obtain ⟨k1, k2⟩ := stored hlt h5 B5 (.int .i64 0) (.int .i64 0) (.int .i64 0) (.int .i64 0) (.string ⟨#[]⟩) (.int .i64 5) (.int .i64 (start : Int)) (.slice none 0 0) (.slice none 0 0) (.string ⟨#[]⟩); exact ⟨rfl, ⟨j, hj, k1, trivial⟩, k2⟩)

      · simp only [hB, adv_t] at c3
        have hj2 := inB_lt hB
        have hr2 : r = .tok 2 (c : Int) ⟨#[]⟩ (j + 1) := by rw [← hr.out, clitS, if_neg (by rw [hA]; decide), hC, clitEnd, if_pos hB]
        subst hr2
        clear hr
        go_enter Tryz.func67, Tryz.ntmps67
        go_wp2_with (first
          | (go_at_call 61; with_reducible refine (cN _ (h.start _ _)).mono ?_; rintro e1 w1 ⟨rfl, h1, b1⟩; have r1 := (Res.new w).but b1 hlt; have B1 := (But.start b w _ _).trans b1; have T1 := hT.but B1 hb2)
          | (go_at_call 116; with_reducible refine (cC _ T1 h1).mono ?_; rintro e2 w2 ⟨rfl, hj, h2, b2⟩; have r2 := r1.but b2 hlt; have B2 := B1.trans b2)
          | (go_at_call 61; with_reducible refine (c3 _ (h2.start1 _)).mono ?_; rintro e3 w3 ⟨rfl, h3, b3⟩; have r3 := (r2.but (But.start1 b _ _) hlt).but b3 hlt; have B3 := (B2.trans (But.start1 b _ _)).trans b3; obtain ⟨p0, p1, p2, p3, p4, p5, p6, p7, p8, p9⟩ := r3.tok; obtain ⟨q0, q1, q2, q3, q4, q5, q6, q7, q8, q9⟩ := r3.flt))
        refine bodyPost_ret (by simp [results, Tryz.results67, go_sem, p0, p1, p2, p3, p4, q0, q1, q2, q3, q4]; try rfl) rfl ?_
        (obtain ⟨k1, k2⟩ := stored hlt h3 B3 (.int .i64 2) (.int .i64 0) (.int .i64 0) (.int .i64 (c : Int)) (.string ⟨#[]⟩) (.int .i64 0) (.int .i64 0) (.slice none 0 0) (.slice none 0 0) (.string ⟨#[]⟩); exact ⟨rfl, ⟨j + 1, hj2, k1, rfl⟩, k2⟩)

  · have hr2 : r = .bad 3 start := by rw [← hr.out, clitS, if_pos hA]
    subst hr2
    clear hr
    simp only [hA, adv_t] at cN
    have hi2 := inB_lt hA
    go_enter Tryz.func67, Tryz.ntmps67
    go_wp2_with (first
      | (go_at_call 61; with_reducible refine (cN _ (h.start _ _)).mono ?_; rintro e1 w1 ⟨rfl, h1, b1⟩; have r1 := (Res.new w).but b1 hlt; have B1 := (But.start b w _ _).trans b1; have T1 := hT.but B1 hb2)
      | (go_at_call 113; with_reducible refine (failedQ 3 start _).mono ?_; rintro e2 w2 ⟨rfl, b2⟩; have h2 := h1.below b2; have r2 := r1.but (But.of b2) hlt; have B2 := B1.trans (But.of b2); obtain ⟨p0, p1, p2, p3, p4, p5, p6, p7, p8, p9⟩ := r2.tok; obtain ⟨q0, q1, q2, q3, q4, q5, q6, q7, q8, q9⟩ := r2.flt))
    refine bodyPost_ret (by simp [results, Tryz.results67, go_sem, p0, p1, p2, p3, p4, q0, q1, q2, q3, q4]; try rfl) rfl ?_
    (obtain ⟨k1, k2⟩ := stored hlt h2 B2 (.int .i64 0) (.int .i64 0) (.int .i64 0) (.int .i64 0) (.string ⟨#[]⟩) (.int .i64 3) (.int .i64 (start : Int)) (.slice none 0 0) (.slice none 0 0) (.string ⟨#[]⟩); exact ⟨rfl, ⟨i + 1, hi2, k1, trivial⟩, k2⟩)

end Go.Proofs.YtljgehammocpkaaGreatDoor.Tok
