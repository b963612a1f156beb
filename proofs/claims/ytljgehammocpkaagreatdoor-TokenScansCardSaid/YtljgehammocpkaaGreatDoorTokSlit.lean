/-
  Layer 8: the scanner's method that reads a string literal. (Written by wip/gen/token-slit.py.)
-/
import Derived.Test.YtljgehammocpkaaGreatDoorTokSlit0
namespace Go.Proofs.YtljgehammocpkaaGreatDoor.Tok
open Go.RowKit
set_option linter.unusedVariables false
set_option linter.unusedSimpArgs false

theorem enc_le (c : Int) : (Lib.encodeRune c).length ≤ 4 := by
  unfold Lib.encodeRune Lib.encodeRuneZ
  rw [List.length_map]
  repeat' split
  all_goals simp

set_option maxRecDepth 100000 in
set_option maxHeartbeats 8000000 in
theorem stringLiteralQ (s : ByteArray) (hs : s.size ≤ 65536) (HE : EscOK s) (w : World) (b start i : Nat) (hi' : i ≤ s.size) (hb2 : 7 < b) (hT : Tabs w) (h : Sc w b s i) :
    Calls Tryz.prog 68 #[.pointer (some ⟨b, 0, none⟩), .int .i64 (start : Int)] w (Toks s b w (strS s start i)) := by
  obtain ⟨r, hr⟩ : ∃ r, Hid (strS s start i = r) := ⟨_, rfl⟩
  rw [hr.out]
  have hlt := h.lt
  have hbX : b < w.heap.size + 2 := by omega
  unfold strS at hr
  have r0 := (Res.new w).but (But.start1 b _ (.cells #[.pointer none, .slice none 0 0] 116)) hlt
  have B0 := (But.start b w (.cells #[.int .i64 0, .int .i64 0, .int .i64 0, .int .i64 0, .string ⟨#[]⟩] 62) (.cells #[.int .i64 0, .int .i64 0, .slice none 0 0, .slice none 0 0, .string ⟨#[]⟩] 27)).trans (But.start1 b _ (.cells #[.pointer none, .slice none 0 0] 116))
  have h0 := (h.start (.cells #[.int .i64 0, .int .i64 0, .int .i64 0, .int .i64 0, .string ⟨#[]⟩] 62) (.cells #[.int .i64 0, .int .i64 0, .slice none 0 0, .slice none 0 0, .string ⟨#[]⟩] 27)).start1 (.cells #[.pointer none, .slice none 0 0] 116)
  have D0 := Bld.new ((w.alloc (.cells #[.int .i64 0, .int .i64 0, .int .i64 0, .int .i64 0, .string ⟨#[]⟩] 62)).alloc (.cells #[.int .i64 0, .int .i64 0, .slice none 0 0, .slice none 0 0, .string ⟨#[]⟩] 27))
  have hs2 : ((w.alloc (.cells #[.int .i64 0, .int .i64 0, .int .i64 0, .int .i64 0, .string ⟨#[]⟩] 62)).alloc (.cells #[.int .i64 0, .int .i64 0, .slice none 0 0, .slice none 0 0, .string ⟨#[]⟩] 27)).heap.size = w.heap.size + 2 := by simp
  rw [hs2] at D0
  clear hs2
  go_enter Tryz.func68, Tryz.ntmps68
  go_wp2
  go_loopw [] (fun wr => ∃ f k acc, k ≤ s.size ∧ s.size < k + f ∧ Sc wr b s k ∧ But b w wr ∧ Res wr w.heap.size ∧ Bld wr (w.heap.size + 2) acc ∧ acc.length ≤ 4 * k ∧ Hid (strGo s start f k acc = r)) (fun wr => s.size - posOf wr b)
  case atStart => exact ⟨_, i, [], hi', by omega, h0, B0, r0, D0, by simp, hr⟩
  case round =>
    clear h0 B0 r0 D0 hr h
    obtain ⟨f, k, acc, hk, hf, h0, B0, r0, D0, hac, hr⟩ := hrel
    obtain ⟨f', rfl⟩ : ∃ f', f = f' + 1 := ⟨f - 1, by omega⟩
    have T0 := hT.but B0 hb2
    have hpk := h0.pos
    have cN := nextQ s hs 34 (by decide) wr b k hk h0
    cases hA : inB s k 34 34
    · simp only [hA, adv_f] at cN
      cases hC : charS s start k with
      | bad e a =>
        have hr2 : r = .bad e a := by rw [← hr.out, strGo, if_neg (by rw [hA]; decide), hC]
        subst hr2
        clear hr
        have he := charS_bad hC
        have cC : ∀ w, Tabs w → Sc w b s k → Calls Tryz.prog 116 #[.pointer (some ⟨b, 0, none⟩), .int .i64 (start : Int)] w fun e' w' => e' = .returned (.tuple #[.int .i32 0, .agg #[.int .i64 e, .int .i64 (a : Int), .slice none 0 0, .slice none 0 0, .string ⟨#[]⟩]]) ∧ (∃ j, j ≤ s.size ∧ Sc w' b s j) ∧ But b w w' := fun w hT h =>
          (characterQ s hs HE w b start k hk hb2 hT h).mono fun e' w' q => by
            rw [hC] at q
            obtain ⟨q1, ⟨j, q2, q3, -⟩, q4⟩ := q
            exact ⟨q1, ⟨j, q2, q3⟩, q4⟩
        go_wp2_with (first
      | (go_at_call 61; with_reducible refine cN.mono ?_; rintro e1 w1 ⟨rfl, h1, b1⟩; have r1 := r0.but b1 hlt; have B1 := B0.trans b1; have D1 := D0.but b1 hbX; have T1 := T0.but b1 hb2)
      | (go_at_call 116; with_reducible refine (cC _ T1 h1).mono ?_; rintro e2 w2 ⟨rfl, ⟨j, hj, h2⟩, b2⟩; have r2 := r1.but b2 hlt; have B2 := B1.trans b2; have D2 := D1.but b2 hbX; have T2 := T1.but b2 hb2; have r3 := r2.but (But.start1 b w2 (.cells #[.int .i64 e, .int .i64 (a : Int), .slice none 0 0, .slice none 0 0, .string ⟨#[]⟩] 27)) hlt; have hn1 : w.heap.size ≠ w2.heap.size := (by have := r2.lt; omega); have hn2 : w.heap.size + 1 ≠ w2.heap.size := (by have := r2.lt; omega); have hn3 := hn1.symm; have hn4 := hn2.symm; obtain ⟨p0, p1, p2, p3, p4, p5, p6, p7, p8, p9⟩ := r3.tok; obtain ⟨q0, q1, q2, q3, q4, q5, q6, q7, q8, q9⟩ := r3.flt))
        go_region
        all_goals go_wp2
        all_goals refine bodyPost_ret (by simp [results, Tryz.results68, go_sem, p0, p1, p2, p3, p4, q0, q1, q2, q3, q4]; try rfl) rfl ?_
        all_goals (obtain ⟨k1, k2⟩ := stored hlt (h2.start1 (.cells #[.int .i64 e, .int .i64 (a : Int), .slice none 0 0, .slice none 0 0, .string ⟨#[]⟩] 27)) (B2.trans (But.start1 b w2 (.cells #[.int .i64 e, .int .i64 (a : Int), .slice none 0 0, .slice none 0 0, .string ⟨#[]⟩] 27))) (.int .i64 0) (.int .i64 0) (.int .i64 0) (.int .i64 0) (.string ⟨#[]⟩) (.int .i64 e) (.int .i64 (a : Int)) (.slice none 0 0) (.slice none 0 0) (.string ⟨#[]⟩); exact ⟨rfl, ⟨j, hj, k1.drew, trivial⟩, k2.drew⟩)
      | ok c j =>
        obtain ⟨hj1, hj, hc⟩ := charS_le hC
        have hr2 : Hid (strGo s start f' j (acc ++ Lib.encodeRune (c : Int)) = r) := by
          have q := hr.out
          rw [strGo, if_neg (by rw [hA]; decide), hC] at q
          exact q
        clear hr
        have cC : ∀ w, Tabs w → Sc w b s k → Calls Tryz.prog 116 #[.pointer (some ⟨b, 0, none⟩), .int .i64 (start : Int)] w fun e' w' => e' = .returned (.tuple #[.int .i32 (c : Int), .agg #[.int .i64 0, .int .i64 0, .slice none 0 0, .slice none 0 0, .string ⟨#[]⟩]]) ∧ j ≤ s.size ∧ Sc w' b s j ∧ But b w w' := fun w hT h =>
          (characterQ s hs HE w b start k hk hb2 hT h).mono fun e' w' q => by
            rw [hC] at q
            obtain ⟨q1, ⟨j', q2, q3, q5⟩, q4⟩ := q
            have : j' = j := q5
            subst this
            exact ⟨q1, q2, q3, q4⟩
        have hac2 : (acc ++ Lib.encodeRune (c : Int)).length ≤ 4 * j := by
          have := enc_le (c : Int)
          rw [List.length_append]
          omega
        go_wp2_with (first
      | (go_at_call 61; with_reducible refine cN.mono ?_; rintro e1 w1 ⟨rfl, h1, b1⟩; have r1 := r0.but b1 hlt; have B1 := B0.trans b1; have D1 := D0.but b1 hbX; have T1 := T0.but b1 hb2)
      | (go_at_call 116; with_reducible refine (cC _ T1 h1).mono ?_; rintro e2 w2 ⟨rfl, hj, h2, b2⟩; have r2 := r1.but b2 hlt; have B2 := B1.trans b2; have D2 := D1.but b2 hbX; have T2 := T1.but b2 hb2; have r3 := r2.but (But.start1 b w2 (.cells #[.int .i64 0, .int .i64 0, .slice none 0 0, .slice none 0 0, .string ⟨#[]⟩] 27)) hlt; have h3 := h2.start1 (.cells #[.int .i64 0, .int .i64 0, .slice none 0 0, .slice none 0 0, .string ⟨#[]⟩] 27); have B3 := B2.trans (But.start1 b w2 (.cells #[.int .i64 0, .int .i64 0, .slice none 0 0, .slice none 0 0, .string ⟨#[]⟩] 27)); have D3 := D2.but (But.start1 b w2 (.cells #[.int .i64 0, .int .i64 0, .slice none 0 0, .slice none 0 0, .string ⟨#[]⟩] 27)) hbX)
      | (go_at_call 117; with_reducible refine (writeRuneQ _ (w.heap.size + 2) c acc hc (by omega) D3).mono ?_; rintro e4 w4 ⟨⟨n4, rfl⟩, D4, b4⟩; have r4 := r3.belowB b4 (by omega); have h4 := h3.belowB b4 hbX; have B4 := B3.belowB b4 (by omega)))
        go_roundw
        case rel => exact ⟨f', j, _, hj, by omega, h4, B4, r4, D4, hac2, hr2⟩
        case measure => rw [h4.pos, hpk]; omega
    · simp only [hA, adv_t] at cN
      have hk2 := inB_lt hA
      have hr2 : r = .tok 3 0 ⟨acc.toArray⟩ (k + 1) := by rw [← hr.out, strGo, if_pos hA]
      subst hr2
      clear hr
      go_wp2_with (first
      | (go_at_call 61; with_reducible refine cN.mono ?_; rintro e1 w1 ⟨rfl, h1, b1⟩; have r1 := r0.but b1 hlt; have B1 := B0.trans b1; have D1 := D0.but b1 hbX; have T1 := T0.but b1 hb2)
      | (go_at_call 99; with_reducible refine (stringQ _ (w.heap.size + 2) acc D1).mono ?_; rintro e2 w2 ⟨rfl, b2⟩; have r2 := r1.belowB b2 (by omega); have h2 := h1.belowB b2 hbX; have B2 := B1.belowB b2 (by omega); obtain ⟨p0, p1, p2, p3, p4, p5, p6, p7, p8, p9⟩ := r2.tok; obtain ⟨q0, q1, q2, q3, q4, q5, q6, q7, q8, q9⟩ := r2.flt))
      refine bodyPost_ret (by simp [results, Tryz.results68, go_sem, p0, p1, p2, p3, p4, q0, q1, q2, q3, q4]; try rfl) rfl ?_
      (obtain ⟨k1, k2⟩ := stored hlt h2 B2 (.int .i64 3) (.int .i64 0) (.int .i64 0) (.int .i64 0) (.string ⟨acc.toArray⟩) (.int .i64 0) (.int .i64 0) (.slice none 0 0) (.slice none 0 0) (.string ⟨#[]⟩); exact ⟨rfl, ⟨k + 1, hk2, k1, rfl⟩, k2⟩)
end Go.Proofs.YtljgehammocpkaaGreatDoor.Tok
