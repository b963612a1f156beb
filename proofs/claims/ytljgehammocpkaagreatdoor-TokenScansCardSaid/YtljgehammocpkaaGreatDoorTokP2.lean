/-
  Layer 8: the scanner's method that reads as long as another one reads, and the separators. (Written by wip/gen/token-many.py.)
-/
import Derived.Test.YtljgehammocpkaaGreatDoorTokP1
namespace Go.Proofs.YtljgehammocpkaaGreatDoor.Tok
open Go.RowKit
set_option linter.unusedVariables false
set_option linter.unusedSimpArgs false

set_option maxRecDepth 100000 in
set_option maxHeartbeats 4000000 in
theorem many_lineByte (s : ByteArray) (hs : s.size ≤ 65536) (st : Nat → Bool × Nat) (hf : Reads 62 (fun p => #[p]) s st) (hg : Goes s.size st) (w : World) (b i : Nat) (hi' : i ≤ s.size) (h : Sc w b s i) :
    Calls Tryz.prog 32 #[.pointer (some ⟨b, 0, none⟩), .func (.func 62) #[.pointer (some ⟨b, 0, none⟩)] #[]] w fun e w' => e = .returned (.string (s.extract i (manyTo st (s.size - i) i))) ∧ Sc w' b s (manyTo st (s.size - i) i) ∧ But b w w' := by
  obtain ⟨j, hj⟩ : ∃ j, Hid (manyTo st (s.size - i) i = j) := ⟨_, rfl⟩
  rw [hj.out]
  have hge : i ≤ j ∧ j ≤ s.size := by rw [← hj.out]; exact manyTo_ge hg _ _ hi'
  obtain ⟨hge1, hge2⟩ := hge
  obtain ⟨c0, c1, f0, f1⟩ := h.cells
  go_enter Tryz.func32, Tryz.ntmps32
  go_wp2
  go_loopw [] (fun wr => ∃ k, k ≤ s.size ∧ Sc wr b s k ∧ But b w wr ∧ Hid (manyTo st (s.size - k) k = j)) (fun wr => s.size - posOf wr b)
  case atStart => exact ⟨i, hi', h, But.refl _ _, hj⟩
  case round =>
    clear c0 c1 f0 f1 hj hi' h
    obtain ⟨k, hk, h, bw, hj⟩ := hrel
    have hpk := h.pos
    have cR := hf wr b k hk h
    cases hA : (st k).1
    · have hs2 := (hg k hk).2 hA
      rw [manyTo_stop hA] at hj
      have hkj := hj.out
      subst hkj
      clear hj
      rw [hA, hs2] at cR
      go_wp2_with (go_at_call 62; with_reducible refine cR.mono ?_; rintro e w1 ⟨rfl, h1, b1⟩; obtain ⟨d0, d1, g0, g1⟩ := h1.cells)
      go_region
      go_wp2
      go_ret
      exact ⟨rfl, h1, (bw.trans b1).drew⟩
    · have hs2 := (hg k hk).1 hA
      rw [manyTo_step hg hk hA] at hj
      rw [hA] at cR
      generalize (st k).2 = m at hj cR hs2
      go_wp2_with (go_at_call 62; with_reducible refine cR.mono ?_; rintro e w1 ⟨rfl, h1, b1⟩)
      go_roundw
      case rel => exact ⟨m, hs2.2, h1, bw.trans b1, hj⟩
      case measure => rw [h1.pos, hpk]; omega

set_option maxRecDepth 100000 in
set_option maxHeartbeats 4000000 in
theorem many_digit (s : ByteArray) (hs : s.size ≤ 65536) (st : Nat → Bool × Nat) (hf : Reads 63 (fun p => #[p]) s st) (hg : Goes s.size st) (w : World) (b i : Nat) (hi' : i ≤ s.size) (h : Sc w b s i) :
    Calls Tryz.prog 32 #[.pointer (some ⟨b, 0, none⟩), .func (.func 63) #[.pointer (some ⟨b, 0, none⟩)] #[]] w fun e w' => e = .returned (.string (s.extract i (manyTo st (s.size - i) i))) ∧ Sc w' b s (manyTo st (s.size - i) i) ∧ But b w w' := by
  obtain ⟨j, hj⟩ : ∃ j, Hid (manyTo st (s.size - i) i = j) := ⟨_, rfl⟩
  rw [hj.out]
  have hge : i ≤ j ∧ j ≤ s.size := by rw [← hj.out]; exact manyTo_ge hg _ _ hi'
  obtain ⟨hge1, hge2⟩ := hge
  obtain ⟨c0, c1, f0, f1⟩ := h.cells
  go_enter Tryz.func32, Tryz.ntmps32
  go_wp2
  go_loopw [] (fun wr => ∃ k, k ≤ s.size ∧ Sc wr b s k ∧ But b w wr ∧ Hid (manyTo st (s.size - k) k = j)) (fun wr => s.size - posOf wr b)
  case atStart => exact ⟨i, hi', h, But.refl _ _, hj⟩
  case round =>
    clear c0 c1 f0 f1 hj hi' h
    obtain ⟨k, hk, h, bw, hj⟩ := hrel
    have hpk := h.pos
    have cR := hf wr b k hk h
    cases hA : (st k).1
    · have hs2 := (hg k hk).2 hA
      rw [manyTo_stop hA] at hj
      have hkj := hj.out
      subst hkj
      clear hj
      rw [hA, hs2] at cR
      go_wp2_with (go_at_call 63; with_reducible refine cR.mono ?_; rintro e w1 ⟨rfl, h1, b1⟩; obtain ⟨d0, d1, g0, g1⟩ := h1.cells)
      go_region
      go_wp2
      go_ret
      exact ⟨rfl, h1, (bw.trans b1).drew⟩
    · have hs2 := (hg k hk).1 hA
      rw [manyTo_step hg hk hA] at hj
      rw [hA] at cR
      generalize (st k).2 = m at hj cR hs2
      go_wp2_with (go_at_call 63; with_reducible refine cR.mono ?_; rintro e w1 ⟨rfl, h1, b1⟩)
      go_roundw
      case rel => exact ⟨m, hs2.2, h1, bw.trans b1, hj⟩
      case measure => rw [h1.pos, hpk]; omega

set_option maxRecDepth 100000 in
set_option maxHeartbeats 4000000 in
theorem many_letterOrDigit (s : ByteArray) (hs : s.size ≤ 65536) (st : Nat → Bool × Nat) (hf : Reads 114 (fun p => #[p]) s st) (hg : Goes s.size st) (w : World) (b i : Nat) (hi' : i ≤ s.size) (h : Sc w b s i) :
    Calls Tryz.prog 32 #[.pointer (some ⟨b, 0, none⟩), .func (.func 114) #[.pointer (some ⟨b, 0, none⟩)] #[]] w fun e w' => e = .returned (.string (s.extract i (manyTo st (s.size - i) i))) ∧ Sc w' b s (manyTo st (s.size - i) i) ∧ But b w w' := by
  obtain ⟨j, hj⟩ : ∃ j, Hid (manyTo st (s.size - i) i = j) := ⟨_, rfl⟩
  rw [hj.out]
  have hge : i ≤ j ∧ j ≤ s.size := by rw [← hj.out]; exact manyTo_ge hg _ _ hi'
  obtain ⟨hge1, hge2⟩ := hge
  obtain ⟨c0, c1, f0, f1⟩ := h.cells
  go_enter Tryz.func32, Tryz.ntmps32
  go_wp2
  go_loopw [] (fun wr => ∃ k, k ≤ s.size ∧ Sc wr b s k ∧ But b w wr ∧ Hid (manyTo st (s.size - k) k = j)) (fun wr => s.size - posOf wr b)
  case atStart => exact ⟨i, hi', h, But.refl _ _, hj⟩
  case round =>
    clear c0 c1 f0 f1 hj hi' h
    obtain ⟨k, hk, h, bw, hj⟩ := hrel
    have hpk := h.pos
    have cR := hf wr b k hk h
    cases hA : (st k).1
    · have hs2 := (hg k hk).2 hA
      rw [manyTo_stop hA] at hj
      have hkj := hj.out
      subst hkj
      clear hj
      rw [hA, hs2] at cR
      go_wp2_with (go_at_call 114; with_reducible refine cR.mono ?_; rintro e w1 ⟨rfl, h1, b1⟩; obtain ⟨d0, d1, g0, g1⟩ := h1.cells)
      go_region
      go_wp2
      go_ret
      exact ⟨rfl, h1, (bw.trans b1).drew⟩
    · have hs2 := (hg k hk).1 hA
      rw [manyTo_step hg hk hA] at hj
      rw [hA] at cR
      generalize (st k).2 = m at hj cR hs2
      go_wp2_with (go_at_call 114; with_reducible refine cR.mono ?_; rintro e w1 ⟨rfl, h1, b1⟩)
      go_roundw
      case rel => exact ⟨m, hs2.2, h1, bw.trans b1, hj⟩
      case measure => rw [h1.pos, hpk]; omega

set_option maxRecDepth 100000 in
set_option maxHeartbeats 4000000 in
theorem many_hexDigit (s : ByteArray) (hs : s.size ≤ 65536) (st : Nat → Bool × Nat) (hf : Reads 199 (fun p => #[p]) s st) (hg : Goes s.size st) (w : World) (b i : Nat) (hi' : i ≤ s.size) (h : Sc w b s i) :
    Calls Tryz.prog 32 #[.pointer (some ⟨b, 0, none⟩), .func (.func 199) #[.pointer (some ⟨b, 0, none⟩)] #[]] w fun e w' => e = .returned (.string (s.extract i (manyTo st (s.size - i) i))) ∧ Sc w' b s (manyTo st (s.size - i) i) ∧ But b w w' := by
  obtain ⟨j, hj⟩ : ∃ j, Hid (manyTo st (s.size - i) i = j) := ⟨_, rfl⟩
  rw [hj.out]
  have hge : i ≤ j ∧ j ≤ s.size := by rw [← hj.out]; exact manyTo_ge hg _ _ hi'
  obtain ⟨hge1, hge2⟩ := hge
  obtain ⟨c0, c1, f0, f1⟩ := h.cells
  go_enter Tryz.func32, Tryz.ntmps32
  go_wp2
  go_loopw [] (fun wr => ∃ k, k ≤ s.size ∧ Sc wr b s k ∧ But b w wr ∧ Hid (manyTo st (s.size - k) k = j)) (fun wr => s.size - posOf wr b)
  case atStart => exact ⟨i, hi', h, But.refl _ _, hj⟩
  case round =>
    clear c0 c1 f0 f1 hj hi' h
    obtain ⟨k, hk, h, bw, hj⟩ := hrel
    have hpk := h.pos
    have cR := hf wr b k hk h
    cases hA : (st k).1
    · have hs2 := (hg k hk).2 hA
      rw [manyTo_stop hA] at hj
      have hkj := hj.out
      subst hkj
      clear hj
      rw [hA, hs2] at cR
      go_wp2_with (go_at_call 199; with_reducible refine cR.mono ?_; rintro e w1 ⟨rfl, h1, b1⟩; obtain ⟨d0, d1, g0, g1⟩ := h1.cells)
      go_region
      go_wp2
      go_ret
      exact ⟨rfl, h1, (bw.trans b1).drew⟩
    · have hs2 := (hg k hk).1 hA
      rw [manyTo_step hg hk hA] at hj
      rw [hA] at cR
      generalize (st k).2 = m at hj cR hs2
      go_wp2_with (go_at_call 199; with_reducible refine cR.mono ?_; rintro e w1 ⟨rfl, h1, b1⟩)
      go_roundw
      case rel => exact ⟨m, hs2.2, h1, bw.trans b1, hj⟩
      case measure => rw [h1.pos, hpk]; omega

set_option maxRecDepth 100000 in
set_option maxHeartbeats 4000000 in
theorem separatorQ (s : ByteArray) (hs : s.size ≤ 65536) : Reads 33 (fun p => #[p]) s (sepS s) := by
  intro w b i hi' h
  show Calls _ _ #[_] _ _
  have c1 := nextQ s hs 35 (by decide) w b i hi' h
  have e := sepS_eq s i
  cases hA : inB s i 35 35
  · simp only [hA, adv_f] at c1 e
    cases hB : inB s i 32 32
    · cases hC : inB s i 9 9
      · cases hD : inB s i 13 13 <;> simp only [hB, hC, hD, Bool.or_false, Bool.or_true, Bool.false_eq_true, if_false, if_true, adv_f, adv_t] at e <;>
        · rw [e]
          go_enter Tryz.func33, Tryz.ntmps33
          go_wp2_with (first
            | (go_at_call 61; with_reducible refine c1.mono ?_; rintro e w1 ⟨rfl, h1, b1⟩; have c2 := nextQ s hs 32 (by decide) w1 b i hi' h1; simp only [hB, adv_f] at c2)
            | (go_at_call 61; with_reducible refine c2.mono ?_; rintro e w2 ⟨rfl, h2, b2⟩; have c3 := nextQ s hs 9 (by decide) w2 b i hi' h2; simp only [hC, adv_f] at c3)
            | (go_at_call 61; with_reducible refine c3.mono ?_; rintro e w3 ⟨rfl, h3, b3⟩; have c4 := nextQ s hs 13 (by decide) w3 b i hi' h3; simp only [hD, adv_f, adv_t] at c4)
            | (go_at_call 61; with_reducible refine c4.mono ?_; rintro e w4 ⟨rfl, h4, b4⟩))
          go_ret
          exact ⟨rfl, h4, ((b1.trans b2).trans b3).trans b4⟩
      · simp only [hB, hC, Bool.or_true, Bool.true_or, if_true] at e
        rw [e]
        go_enter Tryz.func33, Tryz.ntmps33
        go_wp2_with (first
          | (go_at_call 61; with_reducible refine c1.mono ?_; rintro e w1 ⟨rfl, h1, b1⟩; have c2 := nextQ s hs 32 (by decide) w1 b i hi' h1; simp only [hB, adv_f] at c2)
          | (go_at_call 61; with_reducible refine c2.mono ?_; rintro e w2 ⟨rfl, h2, b2⟩; have c3 := nextQ s hs 9 (by decide) w2 b i hi' h2; simp only [hC, adv_t] at c3)
          | (go_at_call 61; with_reducible refine c3.mono ?_; rintro e w3 ⟨rfl, h3, b3⟩))
        go_ret
        exact ⟨rfl, h3, (b1.trans b2).trans b3⟩
    · simp only [hB, Bool.true_or, if_true] at e
      rw [e]
      go_enter Tryz.func33, Tryz.ntmps33
      go_wp2_with (first
        | (go_at_call 61; with_reducible refine c1.mono ?_; rintro e w1 ⟨rfl, h1, b1⟩; have c2 := nextQ s hs 32 (by decide) w1 b i hi' h1; simp only [hB, adv_t] at c2)
        | (go_at_call 61; with_reducible refine c2.mono ?_; rintro e w2 ⟨rfl, h2, b2⟩))
      go_ret
      exact ⟨rfl, h2, b1.trans b2⟩
  · simp only [hA, adv_t, if_true] at c1 e
    rw [e]
    have hlt := inB_lt hA
    have cM := fun w1 (h1 : Sc w1 b s (i + 1)) => many_lineByte s hs _ (lineByteQ s hs) (goes_one fun i h => isLine_lt h) w1 b (i + 1) hlt h1
    go_enter Tryz.func33, Tryz.ntmps33
    go_wp2_with (first
      | (go_at_call 61; with_reducible refine c1.mono ?_; rintro e w1 ⟨rfl, h1, b1⟩)
      | (go_at_call 32; with_reducible refine (cM w1 h1).mono ?_; rintro e w2 ⟨rfl, h2, b2⟩))
    go_ret
    exact ⟨rfl, h2, b1.trans b2⟩

set_option maxRecDepth 100000 in
set_option maxHeartbeats 4000000 in
theorem many_separator (s : ByteArray) (hs : s.size ≤ 65536) (st : Nat → Bool × Nat) (hf : Reads 33 (fun p => #[p]) s st) (hg : Goes s.size st) (w : World) (b i : Nat) (hi' : i ≤ s.size) (h : Sc w b s i) :
    Calls Tryz.prog 32 #[.pointer (some ⟨b, 0, none⟩), .func (.func 33) #[.pointer (some ⟨b, 0, none⟩)] #[]] w fun e w' => e = .returned (.string (s.extract i (manyTo st (s.size - i) i))) ∧ Sc w' b s (manyTo st (s.size - i) i) ∧ But b w w' := by
  obtain ⟨j, hj⟩ : ∃ j, Hid (manyTo st (s.size - i) i = j) := ⟨_, rfl⟩
  rw [hj.out]
  have hge : i ≤ j ∧ j ≤ s.size := by rw [← hj.out]; exact manyTo_ge hg _ _ hi'
  obtain ⟨hge1, hge2⟩ := hge
  obtain ⟨c0, c1, f0, f1⟩ := h.cells
  go_enter Tryz.func32, Tryz.ntmps32
  go_wp2
  go_loopw [] (fun wr => ∃ k, k ≤ s.size ∧ Sc wr b s k ∧ But b w wr ∧ Hid (manyTo st (s.size - k) k = j)) (fun wr => s.size - posOf wr b)
  case atStart => exact ⟨i, hi', h, But.refl _ _, hj⟩
  case round =>
    clear c0 c1 f0 f1 hj hi' h
    obtain ⟨k, hk, h, bw, hj⟩ := hrel
    have hpk := h.pos
    have cR := hf wr b k hk h
    cases hA : (st k).1
    · have hs2 := (hg k hk).2 hA
      rw [manyTo_stop hA] at hj
      have hkj := hj.out
      subst hkj
      clear hj
      rw [hA, hs2] at cR
      go_wp2_with (go_at_call 33; with_reducible refine cR.mono ?_; rintro e w1 ⟨rfl, h1, b1⟩; obtain ⟨d0, d1, g0, g1⟩ := h1.cells)
      go_region
      go_wp2
      go_ret
      exact ⟨rfl, h1, (bw.trans b1).drew⟩
    · have hs2 := (hg k hk).1 hA
      rw [manyTo_step hg hk hA] at hj
      rw [hA] at cR
      generalize (st k).2 = m at hj cR hs2
      go_wp2_with (go_at_call 33; with_reducible refine cR.mono ?_; rintro e w1 ⟨rfl, h1, b1⟩)
      go_roundw
      case rel => exact ⟨m, hs2.2, h1, bw.trans b1, hj⟩
      case measure => rw [h1.pos, hpk]; omega
end Go.Proofs.YtljgehammocpkaaGreatDoor.Tok
