/-
  Layer 7: the law's own examples.
-/
import Derived.Test.YtppdibblkaepjaaDoorFltShow
namespace Go.Proofs.YtppdibblkaepjaaDoor.Flt
open Go.RowKit Go.Proofs.YtppdibblkaepjaaDoor.Shape
set_option linter.unusedVariables false

theorem showP_any (s nm : ByteArray) (k n : Int) (L R : List Int) (la ra : Option Addr) (lc rc : Nat) (w : World) (hT : TabW w) (hL : IntsAt w la lc L) (hR : IntsAt w ra rc R) (hl : L.length ≤ 2000000) (hr : R.length ≤ 2000000) (hm : nm.size ≤ 2000000) (hn : -9223372036854775808 ≤ n ∧ n ≤ 9223372036854775807) (hs : s.size ≤ 4611686018427387903) :
    Calls Tryd.prog 13 #[.string s, fltV k n la L.length lc ra R.length rc nm] w fun e w' => e = .returned (.string (showT s k n L R nm)) ∧ Below w.heap.size w w' := by
  by_cases h : k = 0
  · subst h
    have e : showT s 0 n L R nm = ⟨#[]⟩ := by unfold showT; rw [if_pos rfl]
    rw [e]; exact showP_ok s nm n L R la ra lc rc w
  · have e : showT s k n L R nm = tailS (nameS (headS s k n) nm) k L R := by unfold showT; rw [if_neg h]
    rw [e]; exact showP_some s nm k n L R la ra lc rc w hT hL hR hl hr hm hn hs (by simpa using h)
theorem showR_any (s nm : ByteArray) (k n : Int) (L R : List Int) (la ra : Option Addr) (lc rc : Nat) (w : World) (hL : IntsAt w la lc L) (hR : IntsAt w ra rc R) (hl : L.length ≤ 2000000) (hr : R.length ≤ 2000000) (hm : nm.size ≤ 2000000) (hn : -9223372036854775808 ≤ n ∧ n ≤ 9223372036854775807) (hs : s.size ≤ 4611686018427387903) :
    Calls Tryd.prog 14 #[.string s, fltV k n la L.length lc ra R.length rc nm] w fun e w' => e = .returned (.string (showT s k n L R nm)) ∧ Below w.heap.size w w' := by
  by_cases h : k = 0
  · subst h
    have e : showT s 0 n L R nm = ⟨#[]⟩ := by unfold showT; rw [if_pos rfl]
    rw [e]; exact showR_ok s nm n L R la ra lc rc w
  · have e : showT s k n L R nm = tailS (nameS (headS s k n) nm) k L R := by unfold showT; rw [if_neg h]
    rw [e]; exact showR_some s nm k n L R la ra lc rc w hL hR hl hr hm hn hs (by simpa using h)

/-! ### The examples -/
def exS : ByteArray := ⟨#[49, 32, 50, 32, 51, 32, 43, 32, 50, 32, 51, 32, 114, 101, 115, 104, 97, 112, 101, 32, 49, 48]⟩
def exT : ByteArray := ⟨#[49, 58, 55, 58, 32, 108, 101, 110, 103, 116, 104, 58, 32, 108, 101, 102, 116, 32, 51, 44, 32, 114, 105, 103, 104, 116, 32, 50, 32, 51]⟩
theorem ex_k : kS exS 6 = 6 := by decide
theorem ex_lin : lin exS 6 = 1 := by decide
theorem ex_col : col exS 6 = 7 := by decide
theorem ex_sh (n : Nat) (h : n < 10) : Num.shS (n : Int) = ⟨#[Num.dig n]⟩ := by
  unfold Num.shS
  rw [Num.shL_pos (by omega), Num.dg_last (by omega)]
  rfl
theorem ex_sc3 : scS [3] = ⟨#[51]⟩ := by
  rw [scS_cons (by decide), jS_one]
  unfold sS
  rw [Num.shL_pos (by decide), Num.dg_last (by decide)]; rfl
theorem ex_sc23 : scS [2, 3] = ⟨#[50, 32, 51]⟩ := by
  rw [scS_cons (by decide)]
  simp only [jS, jn, jn.jt]
  rw [Num.shL_pos (by decide), Num.shL_pos (by decide), Num.dg_last (by decide), Num.dg_last (by decide)]; rfl
theorem ex_text : showT exS 16 6 [3] [2, 3] ⟨#[]⟩ = exT := by
  have h1 : headS exS 16 6 = ⟨#[49, 58, 55, 58, 32, 108, 101, 110, 103, 116, 104]⟩ := by
    unfold headS
    rw [ex_k, ex_lin, ex_col, ex_sh 1 (by decide), ex_sh 7 (by decide)]
    decide
  have h2 : nameS (headS exS 16 6) ⟨#[]⟩ = headS exS 16 6 := by unfold nameS; rw [if_pos (by simp)]
  unfold showT
  rw [if_neg (by decide), h2, h1]
  unfold tailS
  rw [if_pos (by decide), ex_sc3, ex_sc23]
  decide
theorem ex_lin2 : lin ⟨#[97, 10, 98, 99]⟩ (kS ⟨#[97, 10, 98, 99]⟩ 3) = 2 := by decide
theorem ex_col2 : col ⟨#[97, 10, 98, 99]⟩ (kS ⟨#[97, 10, 98, 99]⟩ 3) = 2 := by decide

theorem showKn (a b : Option Addr) (w : World) (hT : TabW w) (hA : IntsAt w a 1 [3]) (hB : IntsAt w b 2 [2, 3]) :
    Calls Tryd.prog 13 #[.string ⟨#[49, 32, 50, 32, 51, 32, 43, 32, 50, 32, 51, 32, 114, 101, 115, 104, 97, 112, 101, 32, 49, 48]⟩, .agg #[.int .i64 16, .int .i64 6, .slice a 1 1, .slice b 2 2, .string ⟨#[]⟩]] w fun e w' => e = .returned (.string ⟨#[49, 58, 55, 58, 32, 108, 101, 110, 103, 116, 104, 58, 32, 108, 101, 102, 116, 32, 51, 44, 32, 114, 105, 103, 104, 116, 32, 50, 32, 51]⟩) ∧ Below w.heap.size w w' := by
  have h := showP_any exS ⟨#[]⟩ 16 6 [3] [2, 3] a b 1 2 w hT hA hB (by decide) (by decide) (by decide) (by decide) (by decide)
  rw [ex_text] at h
  exact h
theorem ints_nil (w : World) : IntsAt w none 0 [] := ⟨Nat.le_refl _, by decide, fun x hx => absurd hx (by simp), 0, 0, fun h => absurd rfl h, fun i hi => absurd hi (by simp)⟩
theorem showZero (w : World) (hT : TabW w) :
    Calls Tryd.prog 13 #[.string ⟨#[120]⟩, .agg #[.int .i64 0, .int .i64 0, .slice none 0 0, .slice none 0 0, .string ⟨#[]⟩]] w fun e w' => e = .returned (.string ⟨#[]⟩) ∧ Below w.heap.size w w' :=
  showP_ok ⟨#[120]⟩ ⟨#[]⟩ 0 [] [] none none 0 0 w
theorem word28 (w : World) (hT : TabW w) : Calls Tryd.prog 8 #[.int .i64 28] w fun r w' => r = .returned (.string ⟨#[110, 111, 116, 102, 111, 117, 110, 100]⟩) ∧ w = w' := wordP 28 w hT
theorem wordNo (w : World) (hT : TabW w) : Calls Tryd.prog 8 #[.int .i64 (-1)] w fun r w' => r = .returned (.string ⟨#[117, 110, 107, 110, 111, 119, 110]⟩) ∧ w = w' := wordP (-1) w hT
theorem sameSelf (a b : Option Addr) (w : World) (hA : IntsAt w a 1 [3]) (hB : IntsAt w b 2 [2, 3]) :
    Calls Tryd.prog 15 #[.agg #[.int .i64 16, .int .i64 6, .slice a 1 1, .slice b 2 2, .string ⟨#[]⟩], .agg #[.int .i64 16, .int .i64 6, .slice a 1 1, .slice b 2 2, .string ⟨#[]⟩]] w fun e w' => e = .returned (.bool true) ∧ Below w.heap.size w w' := by
  have h := sameP 16 6 16 6 [3] [2, 3] [3] [2, 3] ⟨#[]⟩ ⟨#[]⟩ a b a b 1 2 1 2 w hA hB hA hB
  rw [fsame_self] at h
  exact h
theorem sameZero (a b : Option Addr) (w : World) (hA : IntsAt w a 1 [3]) (hB : IntsAt w b 2 [2, 3]) :
    Calls Tryd.prog 15 #[.agg #[.int .i64 16, .int .i64 6, .slice a 1 1, .slice b 2 2, .string ⟨#[]⟩], .agg #[.int .i64 0, .int .i64 0, .slice none 0 0, .slice none 0 0, .string ⟨#[]⟩]] w fun e w' => e = .returned (.bool false) ∧ Below w.heap.size w w' := by
  have h := sameP 16 6 0 0 [3] [2, 3] [] [] ⟨#[]⟩ ⟨#[]⟩ a b none none 1 2 0 0 w hA hB (ints_nil w) (ints_nil w)
  have e : fsame 16 6 [3] [2, 3] ⟨#[]⟩ 0 0 [] [] ⟨#[]⟩ = false := by simp [fsame]
  rw [e] at h
  exact h
set_option maxRecDepth 100000 in
set_option maxHeartbeats 2000000 in
theorem knowsL (w : World) (hT : TabW w) :
    Calls Tryd.prog 10 #[] w fun e w' => e = .returned (.bool true) ∧ Below w.heap.size w w' := by
  have hp := fun w => placeP ⟨#[97, 10, 98, 99]⟩ 3 (by decide) w
  rw [ex_lin2, ex_col2] at hp
  have B1 : Below w.heap.size w (((w.alloc (.cells #[.int .i64 3] 3)).alloc (.cells #[.int .i64 2, .int .i64 3] 3)).alloc (.cells #[.int .i64 16, .int .i64 6, .slice (some ⟨w.heap.size, 0, none⟩) 1 1, .slice (some ⟨w.heap.size + 1, 0, none⟩) 2 2, .string ⟨#[]⟩] 31)) := Below.then (Below.then (below_new _ _) (below_new _ _)) (below_new _ _)
  have hA : IntsAt (((w.alloc (.cells #[.int .i64 3] 3)).alloc (.cells #[.int .i64 2, .int .i64 3] 3)).alloc (.cells #[.int .i64 16, .int .i64 6, .slice (some ⟨w.heap.size, 0, none⟩) 1 1, .slice (some ⟨w.heap.size + 1, 0, none⟩) 2 2, .string ⟨#[]⟩] 31)) (some ⟨w.heap.size, 0, none⟩) 1 [3] := ((lit_at _ _ _ _ _ _ rfl rfl rfl (small_bd (by decide)) (by decide)).old _).old _
  have hB : IntsAt (((w.alloc (.cells #[.int .i64 3] 3)).alloc (.cells #[.int .i64 2, .int .i64 3] 3)).alloc (.cells #[.int .i64 16, .int .i64 6, .slice (some ⟨w.heap.size, 0, none⟩) 1 1, .slice (some ⟨w.heap.size + 1, 0, none⟩) 2 2, .string ⟨#[]⟩] 31)) (some ⟨w.heap.size + 1, 0, none⟩) 2 [2, 3] := (lit_at _ _ _ _ _ _ rfl (by simp) rfl (small_bd (by decide)) (by decide)).old _
  have F1 : Five (((w.alloc (.cells #[.int .i64 3] 3)).alloc (.cells #[.int .i64 2, .int .i64 3] 3)).alloc (.cells #[.int .i64 16, .int .i64 6, .slice (some ⟨w.heap.size, 0, none⟩) 1 1, .slice (some ⟨w.heap.size + 1, 0, none⟩) 2 2, .string ⟨#[]⟩] 31)) (w.heap.size + 1 + 1) (.int .i64 16) (.int .i64 6) (.slice (some ⟨w.heap.size, 0, none⟩) 1 1) (.slice (some ⟨w.heap.size + 1, 0, none⟩) 2 2) (.string ⟨#[]⟩) := by
    have h := Five.new2 (w.alloc (.cells #[.int .i64 3] 3)) (.cells #[.int .i64 2, .int .i64 3] 3) (.int .i64 16) (.int .i64 6) (.slice (some ⟨w.heap.size, 0, none⟩) 1 1) (.slice (some ⟨w.heap.size + 1, 0, none⟩) 2 2) (.string ⟨#[]⟩) 31
    have e : (w.alloc (.cells #[.int .i64 3] 3)).heap.size = w.heap.size + 1 := by simp
    rw [e] at h
    exact h
  have hT1 := hT.below B1
  have C1 := showKn _ _ _ hT1 hA hB
  clear hT
  go_enter Tryd.func10, Tryd.ntmps10
  go_wp2_with (go_at_call 11; (with_reducible refine (hp _).mono ?_); rintro e w1 ⟨rfl, rfl⟩)
  go_at_call 13
  refine C1.mono ?_
  rintro e w2 ⟨rfl, b2⟩
  generalize (((w.alloc (.cells #[.int .i64 3] 3)).alloc (.cells #[.int .i64 2, .int .i64 3] 3)).alloc (.cells #[.int .i64 16, .int .i64 6, .slice (some ⟨w.heap.size, 0, none⟩) 1 1, .slice (some ⟨w.heap.size + 1, 0, none⟩) 2 2, .string ⟨#[]⟩] 31)) = W at *
  have hT2 := hT1.below b2
  have hA2 := hA.below b2
  have hB2 := hB.below b2
  obtain ⟨p0, p1, p2, p3, p4⟩ := id (F1.below b2)
  have F2 := F1.below b2
  have B2 := Below.then B1 b2
  have C2 := word28 w2 hT2
  have C3 := wordNo w2 hT2
  have C4 := showZero w2 hT2
  clear C1 hp hT1 hA hB F1 B1 b2
  go_wp2_with (first
    | (go_at_call 8; (with_reducible refine C2.mono ?_); rintro e w3 ⟨rfl, rfl⟩)
    | (go_at_call 8; (with_reducible refine C3.mono ?_); rintro e w3 ⟨rfl, rfl⟩))
  go_at_call 13
  with_reducible refine C4.mono ?_
  rintro e w3 ⟨rfl, b3⟩
  have hA3 := hA2.below b3
  have hB3 := hB2.below b3
  obtain ⟨r0, r1, r2, r3, r4⟩ := id (F2.below b3)
  have F3 := F2.below b3
  have B3 := Below.then B2 b3
  have C5 := sameSelf _ _ w3 hA3 hB3
  clear C2 C3 C4 hT2 hA2 hB2 p0 p1 p2 p3 p4 F2 B2 b3
  go_wp2_with fail
  go_at_call 15
  with_reducible refine C5.mono ?_
  rintro e w4 ⟨rfl, b4⟩
  obtain ⟨t0, t1, t2, t3, t4⟩ := F3.below b4
  have C6 := sameZero _ _ w4 (hA3.below b4) (hB3.below b4)
  have B4 := Below.then B3 b4
  clear C5 hA3 hB3 r0 r1 r2 r3 r4 F3 B3 b4
  go_wp2_with fail
  go_at_call 15
  with_reducible refine C6.mono ?_
  rintro e w5 ⟨rfl, b5⟩
  go_wp2_with fail
  go_ret
  exact ⟨rfl, Below.then B4 b5⟩
end Go.Proofs.YtppdibblkaepjaaDoor.Flt
