/-
  Layer 8: the scanner's method that reads a character of a literal. (Written by wip/gen/token-char.py.)
-/
import Derived.Test.YtljgehammocpkaaGreatDoorTokChar
namespace Go.Proofs.YtljgehammocpkaaGreatDoor.Tok
open Go.RowKit
set_option linter.unusedVariables false
set_option linter.unusedSimpArgs false

set_option maxRecDepth 100000 in
set_option maxHeartbeats 4000000 in
theorem characterQ (s : ByteArray) (hs : s.size ≤ 65536) (HE : EscOK s) (w : World) (b start i : Nat) (hi' : i ≤ s.size) (hb2 : 7 < b) (hT : Tabs w) (h : Sc w b s i) :
    Calls Tryz.prog 116 #[.pointer (some ⟨b, 0, none⟩), .int .i64 (start : Int)] w (Chars s b w (charS s start i)) := by
  obtain ⟨r, hr⟩ : ∃ r, Hid (charS s start i = r) := ⟨_, rfl⟩
  rw [hr.out]
  have hlt := h.lt
  have cE := fun w (h : Sc w b s i) => lineEndsQ s hs w b i hi' h
  cases hA : endL s i
  · have hl1 : i < s.size := endL_lt (by rw [hA]; decide)
    have hl2 : i + 1 ≤ s.size := hl1
    have cN := fun w (h : Sc w b s i) => nextQ s hs 92 (by decide) w b i hi' h
    simp only [hA] at cE
    cases hB : inB s i 92 92
    · simp only [hB, adv_f] at cN
      cases hC : plainB (Utf8.decode s i).1 (Utf8.decode s i).2
      · have hr2 : r = .bad 3 i := by rw [← hr.out, charS, if_neg (by rw [hA]; decide), if_neg (by rw [hB]; decide), if_neg (by rw [hC]; decide)]
        subst hr2
        clear hr
        have cP := fun w (T2 : Tabs w) (h2 : Sc w b s i) => plainQ s hs w b i hl1 hb2 T2 h2
        rw [hC] at cP
        have z1 := (dec_pos s i hl1).2.1
        generalize Utf8.decode s i = cz at cP hC z1
        go_enter Tryz.func116, Tryz.ntmps116
        go_wp2_with (first
          | (go_at_call 111; with_reducible refine (cE _ (h.start1 _)).mono ?_; rintro e1 w1 ⟨rfl, h1, b1⟩; have r1 := (FRes.new w).but b1 hlt; have B1 := (But.start1 b w _).trans b1; have T1 := hT.but B1 hb2; obtain ⟨d0, d1, g0, g1⟩ := h1.cells)
          | (go_at_call 61; with_reducible refine (cN _ h1).mono ?_; rintro e2 w2 ⟨rfl, h2, b2⟩; have r2 := r1.but b2 hlt; have B2 := B1.trans b2; have T2 := T1.but b2 hb2)
          | (go_at_call 155; with_reducible refine (cP _ T2 h2).mono ?_; rintro e3 w3 ⟨rfl, h3, b3⟩; have r3 := r2.but b3 hlt; have B3 := B2.trans b3; obtain ⟨q0, q1, q2, q3, q4, q5, q6, q7, q8, q9⟩ := r3.flt))
        refine bodyPost_ret (by simp [results, Tryz.results116, go_sem, q0, q1, q2, q3, q4]; try rfl) rfl ?_
        (obtain ⟨k1, k2⟩ := storedF hlt h3 B3 (.int .i64 3) (.int .i64 (i : Int)) (.slice none 0 0) (.slice none 0 0) (.string ⟨#[]⟩); exact ⟨rfl, ⟨i + cz.2, z1, k1, trivial⟩, k2⟩)

      · have hr2 : r = .ok (Utf8.decode s i).1 (i + (Utf8.decode s i).2) := by rw [← hr.out, charS, if_neg (by rw [hA]; decide), if_neg (by rw [hB]; decide), if_pos hC]
        subst hr2
        clear hr
        have cP := fun w (T2 : Tabs w) (h2 : Sc w b s i) => plainQ s hs w b i hl1 hb2 T2 h2
        rw [hC] at cP
        have z1 := (dec_pos s i hl1).2.1
        generalize Utf8.decode s i = cz at cP hC z1 ⊢
        go_enter Tryz.func116, Tryz.ntmps116
        go_wp2_with (first
          | (go_at_call 111; with_reducible refine (cE _ (h.start1 _)).mono ?_; rintro e1 w1 ⟨rfl, h1, b1⟩; have r1 := (FRes.new w).but b1 hlt; have B1 := (But.start1 b w _).trans b1; have T1 := hT.but B1 hb2; obtain ⟨d0, d1, g0, g1⟩ := h1.cells)
          | (go_at_call 61; with_reducible refine (cN _ h1).mono ?_; rintro e2 w2 ⟨rfl, h2, b2⟩; have r2 := r1.but b2 hlt; have B2 := B1.trans b2; have T2 := T1.but b2 hb2)
          | (go_at_call 155; with_reducible refine (cP _ T2 h2).mono ?_; rintro e3 w3 ⟨rfl, h3, b3⟩; have r3 := r2.but b3 hlt; have B3 := B2.trans b3; obtain ⟨q0, q1, q2, q3, q4, q5, q6, q7, q8, q9⟩ := r3.flt))
        refine bodyPost_ret (by simp [results, Tryz.results116, go_sem, q0, q1, q2, q3, q4]; try rfl) rfl ?_
        (obtain ⟨k1, k2⟩ := storedF hlt h3 B3 (.int .i64 0) (.int .i64 0) (.slice none 0 0) (.slice none 0 0) (.string ⟨#[]⟩); exact ⟨rfl, ⟨i + cz.2, z1, k1, rfl⟩, k2⟩)

    · simp only [hB, adv_t] at cN
      have hq : inB s (i + 1 - 1) 92 92 = true := hB
      cases hC : escS s (i + 1) with
      | none =>
        have hr2 : r = .bad 3 i := by rw [← hr.out, charS, if_neg (by rw [hA]; decide), if_pos hB, hC]; rfl
        subst hr2
        clear hr
        have cX := fun w (T2 : Tabs w) (h2 : Sc w b s (i + 1)) => HE w b (i + 1) hl2 (by omega) hq hb2 T2 h2
        rw [hC] at cX
        simp only [Option.isSome_none] at cX
        go_enter Tryz.func116, Tryz.ntmps116
        go_wp2_with (first
          | (go_at_call 111; with_reducible refine (cE _ (h.start1 _)).mono ?_; rintro e1 w1 ⟨rfl, h1, b1⟩; have r1 := (FRes.new w).but b1 hlt; have B1 := (But.start1 b w _).trans b1; have T1 := hT.but B1 hb2; obtain ⟨d0, d1, g0, g1⟩ := h1.cells)
          | (go_at_call 61; with_reducible refine (cN _ h1).mono ?_; rintro e2 w2 ⟨rfl, h2, b2⟩; have r2 := r1.but b2 hlt; have B2 := B1.trans b2; have T2 := T1.but b2 hb2)
          | (go_at_call 156; with_reducible refine (cX _ T2 h2).mono ?_; rintro e3 w3 ⟨c0, j, rfl, hj, h3, b3, hcj⟩; have r3 := r2.but b3 hlt; have B3 := B2.trans b3; obtain ⟨q0, q1, q2, q3, q4, q5, q6, q7, q8, q9⟩ := r3.flt))
        refine bodyPost_ret (by simp [results, Tryz.results116, go_sem, q0, q1, q2, q3, q4]; try rfl) rfl ?_
        (obtain ⟨k1, k2⟩ := storedF hlt h3 B3 (.int .i64 3) (.int .i64 (i : Int)) (.slice none 0 0) (.slice none 0 0) (.string ⟨#[]⟩); exact ⟨rfl, ⟨j, hj, k1, trivial⟩, k2⟩)

      | some q =>
        obtain ⟨c, k⟩ := q
        have hr2 : r = .ok c k := by rw [← hr.out, charS, if_neg (by rw [hA]; decide), if_pos hB, hC]; rfl
        subst hr2
        clear hr
        have cX : ∀ w, Tabs w → Sc w b s (i + 1) → Calls Tryz.prog 156 #[.pointer (some ⟨b, 0, none⟩)] w fun e w' => e = .returned (.tuple #[.int .i32 (c : Int), .bool true]) ∧ Sc w' b s k ∧ But b w w' := fun w T2 h2 =>
          (HE w b (i + 1) hl2 (by omega) hq hb2 T2 h2).mono fun e w' q => by
            obtain ⟨c0, j, rfl, hj, h3, b3, hcj⟩ := q
            obtain ⟨rfl, rfl⟩ := hcj c k hC
            rw [hC]
            exact ⟨rfl, h3, b3⟩
        have hk := (escS_le hC).2.1
        go_enter Tryz.func116, Tryz.ntmps116
        go_wp2_with (first
          | (go_at_call 111; with_reducible refine (cE _ (h.start1 _)).mono ?_; rintro e1 w1 ⟨rfl, h1, b1⟩; have r1 := (FRes.new w).but b1 hlt; have B1 := (But.start1 b w _).trans b1; have T1 := hT.but B1 hb2; obtain ⟨d0, d1, g0, g1⟩ := h1.cells)
          | (go_at_call 61; with_reducible refine (cN _ h1).mono ?_; rintro e2 w2 ⟨rfl, h2, b2⟩; have r2 := r1.but b2 hlt; have B2 := B1.trans b2; have T2 := T1.but b2 hb2)
          | (go_at_call 156; with_reducible refine (cX _ T2 h2).mono ?_; rintro e3 w3 ⟨rfl, h3, b3⟩; have r3 := r2.but b3 hlt; have B3 := B2.trans b3; obtain ⟨q0, q1, q2, q3, q4, q5, q6, q7, q8, q9⟩ := r3.flt))
        refine bodyPost_ret (by simp [results, Tryz.results116, go_sem, q0, q1, q2, q3, q4]; try rfl) rfl ?_
        (obtain ⟨k1, k2⟩ := storedF hlt h3 B3 (.int .i64 0) (.int .i64 0) (.slice none 0 0) (.slice none 0 0) (.string ⟨#[]⟩); exact ⟨rfl, ⟨k, hk, k1, rfl⟩, k2⟩)

  · have hr2 : r = .bad 5 start := by rw [← hr.out, charS, if_pos hA]
    subst hr2
    clear hr
    simp only [hA] at cE
    go_enter Tryz.func116, Tryz.ntmps116
    go_wp2_with (first
      | (go_at_call 111; with_reducible refine (cE _ (h.start1 _)).mono ?_; rintro e1 w1 ⟨rfl, h1, b1⟩; have r1 := (FRes.new w).but b1 hlt; have B1 := (But.start1 b w _).trans b1; have T1 := hT.but B1 hb2; obtain ⟨d0, d1, g0, g1⟩ := h1.cells; obtain ⟨q0, q1, q2, q3, q4, q5, q6, q7, q8, q9⟩ := r1.flt))
    refine bodyPost_ret (by simp [results, Tryz.results116, go_sem, q0, q1, q2, q3, q4]; try rfl) rfl ?_
    (obtain ⟨k1, k2⟩ := storedF hlt h1 B1 (.int .i64 5) (.int .i64 (start : Int)) (.slice none 0 0) (.slice none 0 0) (.string ⟨#[]⟩); exact ⟨rfl, ⟨i, hi', k1, trivial⟩, k2⟩)

end Go.Proofs.YtljgehammocpkaaGreatDoor.Tok
