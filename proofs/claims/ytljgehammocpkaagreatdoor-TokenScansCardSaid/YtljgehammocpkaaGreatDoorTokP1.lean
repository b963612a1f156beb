/-
  Layer 8: the scanner's methods that read one byte.
-/
import Derived.Test.YtljgehammocpkaaGreatDoorTokBase
namespace Go.Proofs.YtljgehammocpkaaGreatDoor.Tok
open Go.RowKit
set_option linter.unusedVariables false

/-- A contract of a method that reads: what it answers, and where the scanner stands behind. -/
@[reducible] def Reads (f : FuncId) (args : Value → Array Value) (s : ByteArray) (st : Nat → Bool × Nat) : Prop :=
  ∀ (w : World) (b i : Nat), i ≤ s.size → Sc w b s i → Calls Tryz.prog f (args (.pointer (some ⟨b, 0, none⟩))) w fun e w' => e = .returned (.bool (st i).1) ∧ Sc w' b s (st i).2 ∧ But b w w'

set_option maxRecDepth 100000 in
set_option maxHeartbeats 2000000 in
theorem betweenN (s : ByteArray) (hs : s.size ≤ 65536) (lo hi : Nat) : Reads 110 (fun p => #[p, .int .u8 (lo : Int), .int .u8 (hi : Int)]) s fun i => (inB s i (lo : Int) (hi : Int), adv (inB s i (lo : Int) (hi : Int)) i) := by
  intro w b i hi' h
  show Calls _ _ #[_, _, _] _ _
  obtain ⟨c0, c1, f0, f1⟩ := h.cells
  by_cases hlt : i < s.size
  · have hx : ((i : Int) == (s.size : Int)) = false := by simp; omega
    have hcb : (s[i].toNat : Int) ≤ 255 := by have := s[i].toNat_lt; omega
    by_cases h1 : s[i].toNat < lo
    · have h1' : (s[i].toNat : Int) < (lo : Int) := by omega
      have e := inB_low (hi := (hi : Int)) hlt h1'
      go_enter Tryz.func110, Tryz.ntmps110
      go_wp2
      go_region
      go_wp2
      go_ret
      simp only [e, adv]
      exact ⟨rfl, h, (But.refl _ _).drew⟩
    · have h1' : ¬ (s[i].toNat : Int) < (lo : Int) := by omega
      by_cases h2 : hi < s[i].toNat
      · have h2' : (hi : Int) < (s[i].toNat : Int) := by omega
        have e := inB_high (lo := (lo : Int)) hlt h2'
        go_enter Tryz.func110, Tryz.ntmps110
        go_wp2
        go_region
        go_wp2
        go_ret
        simp only [e, adv]
        exact ⟨rfl, h, (But.refl _ _).drew⟩
      · have e := inB_yes hlt (Int.not_lt.1 h1') (by omega : (s[i].toNat : Int) ≤ (hi : Int))
        have h2' : ¬ (hi : Int) < (s[i].toNat : Int) := by omega
        go_enter Tryz.func110, Tryz.ntmps110
        go_wp2
        go_region
        go_wp2
        go_ret
        simp only [e, adv]
        exact ⟨rfl, h.set (i + 1), (But.set _ _ _).drew⟩
  · have e := inB_end (lo := (lo : Int)) (hi := (hi : Int)) hlt
    obtain rfl : s.size = i := by omega
    go_enter Tryz.func110, Tryz.ntmps110
    go_wp2
    go_region
    go_wp2
    go_ret
    simp only [e, adv]
    exact ⟨rfl, h, (But.refl _ _).drew⟩

theorem betweenQ (s : ByteArray) (hs : s.size ≤ 65536) (lo hi : Int) (h0 : 0 ≤ lo) (h1 : 0 ≤ hi) : Reads 110 (fun p => #[p, .int .u8 lo, .int .u8 hi]) s fun i => (inB s i lo hi, adv (inB s i lo hi) i) := by
  obtain ⟨n, rfl⟩ := Int.eq_ofNat_of_zero_le h0
  obtain ⟨m, rfl⟩ := Int.eq_ofNat_of_zero_le h1
  exact betweenN s hs n m
set_option maxRecDepth 100000 in
set_option maxHeartbeats 2000000 in
theorem nextQ (s : ByteArray) (hs : s.size ≤ 65536) (c : Int) (hc : 0 ≤ c) : Reads 61 (fun p => #[p, .int .u8 c]) s fun i => (inB s i c c, adv (inB s i c c) i) := by
  intro w b i hi' h
  show Calls _ _ #[_, _] _ _
  go_enter Tryz.func61, Tryz.ntmps61
  go_wp2_with (go_at_call 110; with_reducible refine (betweenQ s hs c c hc hc w b i hi' h).mono ?_; rintro e w1 ⟨rfl, h1, b1⟩)
  go_ret
  exact ⟨rfl, h1, b1⟩
set_option maxRecDepth 100000 in
set_option maxHeartbeats 2000000 in
theorem digitQ (s : ByteArray) (hs : s.size ≤ 65536) : Reads 63 (fun p => #[p]) s (one (isDig s)) := by
  intro w b i hi' h
  show Calls _ _ #[_] _ _
  go_enter Tryz.func63, Tryz.ntmps63
  go_wp2_with (go_at_call 110; with_reducible refine (betweenQ s hs 48 57 (by decide) (by decide) w b i hi' h).mono ?_; rintro e w1 ⟨rfl, h1, b1⟩)
  go_ret
  exact ⟨rfl, h1, b1⟩
set_option maxRecDepth 100000 in
set_option maxHeartbeats 2000000 in
theorem letterQ (s : ByteArray) (hs : s.size ≤ 65536) : Reads 65 (fun p => #[p]) s (one (isLet s)) := by
  intro w b i hi' h
  show Calls _ _ #[_] _ _
  have e1 : one (isLet s) i = (inB s i 97 122 || inB s i 65 90, adv (inB s i 97 122 || inB s i 65 90) i) := rfl
  rw [e1]
  have c1 := betweenQ s hs 97 122 (by decide) (by decide) w b i hi' h
  cases hA : inB s i 97 122
  · simp only [hA, adv_f] at c1
    go_enter Tryz.func65, Tryz.ntmps65
    go_wp2_with (first
      | (go_at_call 110; with_reducible refine c1.mono ?_; rintro e w1 ⟨rfl, h1, b1⟩)
      | (go_at_call 110; with_reducible refine (betweenQ s hs 65 90 (by decide) (by decide) w1 b i hi' h1).mono ?_; rintro e w2 ⟨rfl, h2, b2⟩))
    go_ret
    exact ⟨rfl, h2, b1.trans b2⟩
  · simp only [hA, adv_t] at c1
    go_enter Tryz.func65, Tryz.ntmps65
    go_wp2_with (go_at_call 110; with_reducible refine c1.mono ?_; rintro e w1 ⟨rfl, h1, b1⟩)
    go_ret
    exact ⟨rfl, h1, b1⟩
set_option maxRecDepth 100000 in
set_option maxHeartbeats 2000000 in
theorem hexDigitQ (s : ByteArray) (hs : s.size ≤ 65536) : Reads 199 (fun p => #[p]) s (one (isHex s)) := by
  intro w b i hi' h
  show Calls _ _ #[_] _ _
  have e1 : one (isHex s) i = (isDig s i || inB s i 97 102, adv (isDig s i || inB s i 97 102) i) := rfl
  rw [e1]
  have c1 := digitQ s hs w b i hi' h
  simp only [one] at c1
  cases hA : isDig s i
  · simp only [hA, adv_f] at c1
    go_enter Tryz.func199, Tryz.ntmps199
    go_wp2_with (first
      | (go_at_call 63; with_reducible refine c1.mono ?_; rintro e w1 ⟨rfl, h1, b1⟩)
      | (go_at_call 110; with_reducible refine (betweenQ s hs 97 102 (by decide) (by decide) w1 b i hi' h1).mono ?_; rintro e w2 ⟨rfl, h2, b2⟩))
    go_ret
    exact ⟨rfl, h2, b1.trans b2⟩
  · simp only [hA, adv_t] at c1
    go_enter Tryz.func199, Tryz.ntmps199
    go_wp2_with (go_at_call 63; with_reducible refine c1.mono ?_; rintro e w1 ⟨rfl, h1, b1⟩)
    go_ret
    exact ⟨rfl, h1, b1⟩
set_option maxRecDepth 100000 in
set_option maxHeartbeats 2000000 in
theorem letterOrDigitQ (s : ByteArray) (hs : s.size ≤ 65536) : Reads 114 (fun p => #[p]) s (one (isLD s)) := by
  intro w b i hi' h
  show Calls _ _ #[_] _ _
  have e1 : one (isLD s) i = (isLet s i || isDig s i, adv (isLet s i || isDig s i) i) := rfl
  rw [e1]
  have c1 := letterQ s hs w b i hi' h
  simp only [one] at c1
  cases hA : isLet s i
  · simp only [hA, adv_f] at c1
    go_enter Tryz.func114, Tryz.ntmps114
    go_wp2_with (first
      | (go_at_call 65; with_reducible refine c1.mono ?_; rintro e w1 ⟨rfl, h1, b1⟩)
      | (go_at_call 63; with_reducible refine (digitQ s hs w1 b i hi' h1).mono ?_; rintro e w2 ⟨rfl, h2, b2⟩))
    go_ret
    exact ⟨rfl, h2, b1.trans b2⟩
  · simp only [hA, adv_t] at c1
    go_enter Tryz.func114, Tryz.ntmps114
    go_wp2_with (go_at_call 65; with_reducible refine c1.mono ?_; rintro e w1 ⟨rfl, h1, b1⟩)
    go_ret
    exact ⟨rfl, h1, b1⟩

set_option maxRecDepth 100000 in
set_option maxHeartbeats 2000000 in
theorem lineEndsQ (s : ByteArray) (hs : s.size ≤ 65536) (w : World) (b i : Nat) (hi' : i ≤ s.size) (h : Sc w b s i) :
    Calls Tryz.prog 111 #[.pointer (some ⟨b, 0, none⟩)] w fun e w' => e = .returned (.bool (endL s i)) ∧ Sc w' b s i ∧ But b w w' := by
  obtain ⟨c0, c1, f0, f1⟩ := h.cells
  by_cases hlt : i < s.size
  · have hx : ((i : Int) == (s.size : Int)) = false := by simp; omega
    have hcb : (s[i].toNat : Int) ≤ 255 := by have := s[i].toNat_lt; omega
    have e : endL s i = (s[i].toNat == 10) := by simp [endL, hlt]
    by_cases h1 : s[i].toNat = 10
    · have h1' : ((s[i].toNat : Int) == 10) = true := by simp; omega
      go_enter Tryz.func111, Tryz.ntmps111
      go_wp2
      go_region
      go_wp2
      go_ret
      rw [e, h1]
      exact ⟨rfl, h, (But.refl _ _).drew⟩
    · have h1' : ((s[i].toNat : Int) == 10) = false := by simp; omega
      have h2 : (s[i].toNat == 10) = false := by simp; omega
      go_enter Tryz.func111, Tryz.ntmps111
      go_wp2
      go_region
      go_wp2
      go_ret
      rw [e, h2]
      exact ⟨rfl, h, (But.refl _ _).drew⟩
  · have e : endL s i = true := by simp [endL, hlt]
    obtain rfl : s.size = i := by omega
    go_enter Tryz.func111, Tryz.ntmps111
    go_wp2
    go_region
    go_wp2
    go_ret
    rw [e]
    exact ⟨rfl, h, (But.refl _ _).drew⟩
set_option maxRecDepth 100000 in
set_option maxHeartbeats 2000000 in
theorem lineByteQ (s : ByteArray) (hs : s.size ≤ 65536) : Reads 62 (fun p => #[p]) s (one (isLine s)) := by
  intro w b i hi' h
  show Calls _ _ #[_] _ _
  have c1 := lineEndsQ s hs w b i hi' h
  have e1 : one (isLine s) i = (!endL s i, adv (!endL s i) i) := rfl
  rw [e1]
  cases hA : endL s i
  · have hlt : i < s.size := isLine_lt (by rw [isLine, hA]; rfl)
    simp only [hA] at c1
    go_enter Tryz.func62, Tryz.ntmps62
    go_wp2_with (go_at_call 111; with_reducible refine c1.mono ?_; rintro e w1 ⟨rfl, h1, b1⟩; obtain ⟨d0, d1, g0, g1⟩ := h1.cells)
    go_ret
    exact ⟨rfl, h1.set (i + 1), b1.trans (But.set _ _ _)⟩
  · simp only [hA] at c1
    go_enter Tryz.func62, Tryz.ntmps62
    go_wp2_with (go_at_call 111; with_reducible refine c1.mono ?_; rintro e w1 ⟨rfl, h1, b1⟩)
    go_ret
    exact ⟨rfl, h1, b1⟩
end Go.Proofs.YtljgehammocpkaaGreatDoor.Tok
