/-
  Layer 16: Accepts and part of the reference. (Written by wip/gen/binary-r2.py.)
-/
import Derived.Test.YtekbdiniibmhgaaBinR1g
import Derived.Test.YtekbdiniibmhgaaBinGS
namespace Go.Proofs.Ytekbdiniibmhgaa.Shape
open Go.RowKit
set_option linter.unusedVariables false
set_option linter.unusedSimpArgs false

set_option maxHeartbeats 2000000 in
theorem acceptsR (p kx ky : Int) (w : World) (h1 : 1 ≤ kx ∧ kx ≤ 3) (h2 : 1 ≤ ky ∧ ky ≤ 3) : Calls Try.prog 35 #[.int .i64 p, .int .i64 kx, .int .i64 ky] w fun e w' => e = .returned (.bool (accB p kx ky)) ∧ w = w' := by
  have c1 : kx = 1 ∨ kx = 2 ∨ kx = 3 := by omega
  have c2 : ky = 1 ∨ ky = 2 ∨ ky = 3 := by omega
  clear h1 h2
  rcases c1 with rfl | rfl | rfl <;> rcases c2 with rfl | rfl | rfl
  · have e : accB p 1 1 = true := by unfold accB; simp
    rw [e]
    go_enter Try.func35, Try.ntmps35
    go_wp2
    go_ret
    exact ⟨rfl, rfl⟩
  · by_cases p1 : p = 11
    · subst p1
      go_enter Try.func35, Try.ntmps35
      go_wp2
      go_ret
      exact ⟨rfl, rfl⟩
    by_cases p2 : p = 12
    · subst p2
      go_enter Try.func35, Try.ntmps35
      go_wp2
      go_ret
      exact ⟨rfl, rfl⟩
    have q1 : (p == 11) = false := by simpa using p1
    have q2 : (p == 12) = false := by simpa using p2
    have e : accB p 1 2 = false := by unfold accB; simp [p1, p2]
    rw [e]
    go_enter Try.func35, Try.ntmps35
    go_wp2
    go_ret
    exact ⟨rfl, rfl⟩
  · have e : accB p 1 3 = false := by unfold accB; simp
    rw [e]
    go_enter Try.func35, Try.ntmps35
    go_wp2
    go_ret
    exact ⟨rfl, rfl⟩
  · by_cases p1 : p = 11
    · subst p1
      go_enter Try.func35, Try.ntmps35
      go_wp2
      go_ret
      exact ⟨rfl, rfl⟩
    by_cases p2 : p = 12
    · subst p2
      go_enter Try.func35, Try.ntmps35
      go_wp2
      go_ret
      exact ⟨rfl, rfl⟩
    have q1 : (p == 11) = false := by simpa using p1
    have q2 : (p == 12) = false := by simpa using p2
    have e : accB p 2 1 = false := by unfold accB; simp [p1, p2]
    rw [e]
    go_enter Try.func35, Try.ntmps35
    go_wp2
    go_ret
    exact ⟨rfl, rfl⟩
  · by_cases p11 : p = 11
    · subst p11
      go_enter Try.func35, Try.ntmps35
      go_wp2
      go_ret
      exact ⟨rfl, rfl⟩
    have q11 : (p == 11) = false := by simpa using p11
    by_cases p12 : p = 12
    · subst p12
      go_enter Try.func35, Try.ntmps35
      go_wp2
      go_ret
      exact ⟨rfl, rfl⟩
    have q12 : (p == 12) = false := by simpa using p12
    by_cases p9 : p = 9
    · subst p9
      go_enter Try.func35, Try.ntmps35
      go_wp2
      go_ret
      exact ⟨rfl, rfl⟩
    have q9 : (p == 9) = false := by simpa using p9
    by_cases p10 : p = 10
    · subst p10
      go_enter Try.func35, Try.ntmps35
      go_wp2
      go_ret
      exact ⟨rfl, rfl⟩
    have q10 : (p == 10) = false := by simpa using p10
    by_cases p13 : p = 13
    · subst p13
      go_enter Try.func35, Try.ntmps35
      go_wp2
      go_ret
      exact ⟨rfl, rfl⟩
    have q13 : (p == 13) = false := by simpa using p13
    by_cases p14 : p = 14
    · subst p14
      go_enter Try.func35, Try.ntmps35
      go_wp2
      go_ret
      exact ⟨rfl, rfl⟩
    have q14 : (p == 14) = false := by simpa using p14
    have e : accB p 2 2 = false := by unfold accB; simp [p11, p12, p9, p10, p13, p14]
    rw [e]
    go_enter Try.func35, Try.ntmps35
    go_wp2
    go_ret
    exact ⟨rfl, rfl⟩
  · have e : accB p 2 3 = false := by unfold accB; simp
    rw [e]
    go_enter Try.func35, Try.ntmps35
    go_wp2
    go_ret
    exact ⟨rfl, rfl⟩
  · have e : accB p 3 1 = false := by unfold accB; simp
    rw [e]
    go_enter Try.func35, Try.ntmps35
    go_wp2
    go_ret
    exact ⟨rfl, rfl⟩
  · have e : accB p 3 2 = false := by unfold accB; simp
    rw [e]
    go_enter Try.func35, Try.ntmps35
    go_wp2
    go_ret
    exact ⟨rfl, rfl⟩
  · have e : accB p 3 3 = false := by unfold accB; simp
    rw [e]
    go_enter Try.func35, Try.ntmps35
    go_wp2
    go_ret
    exact ⟨rfl, rfl⟩
/-- For how many elements an element is repeated. -/
theorem partR (a : Option Addr) (cap : Nat) (xs : List Int) (a2 : Option Addr) (cap2 : Nat) (ys : List Int) (w : World) (hl : xs.length ≤ 9223372036854775807) (g : IntsAt w a2 cap2 ys) (hr : rightB ys = true) (hle : xs.length ≤ ys.length) :
    Calls Try.prog 38 #[.slice a xs.length cap, .slice a2 ys.length cap2] w fun e w' => e = .returned (.int .i64 (pr (ys.drop xs.length))) ∧ w = w' := by
  have hl2 := g.len
  have P := Shp.productR a2 cap2 ys xs.length ys.length w g hr hle (Nat.le_refl _)
  rw [List.take_length] at P
  go_enter Try.func38, Try.ntmps38
  go_wp2_with (go_at_call 72; refine P.mono ?_; rintro e w' ⟨rfl, rfl⟩)
  go_ret
  exact ⟨rfl, rfl⟩
end Go.Proofs.Ytekbdiniibmhgaa.Shape
