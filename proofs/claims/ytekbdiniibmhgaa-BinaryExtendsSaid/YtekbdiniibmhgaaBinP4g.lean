/-
  Layer 16: Scalar and unequal of the program.
-/
import Derived.Test.YtekbdiniibmhgaaBinP3g
namespace Go.Proofs.Ytekbdiniibmhgaa.Shape
open Go.RowKit
set_option linter.unusedVariables false
set_option linter.unusedSimpArgs false

theorem chooseY (p : Int) (w : World) (hp : binB p = true) : Calls Try.prog 18 #[.int .i64 p] w fun e w' => ∃ (t : Nat) (cap : Array Value), e = .returned (.func (.func t) #[] cap) ∧ Below w.heap.size w w' ∧ Ent t ∧
    ∀ (x y : Int) (w1 : World), Below w'.heap.size w' w1 → Num.fitsB x = true → Num.fitsB y = true → Calls Try.prog t (#[.int .i64 x, .int .i64 y] ++ cap) w1 fun e w' => e = .returned (.tuple #[.int .i64 (binV p x y).1, .int .i64 (binV p x y).2]) ∧ Below w1.heap.size w1 w' := by
  refine (chooseP p w).mono ?_
  rintro e w' ⟨v, rfl, hb, ⟨h, -⟩ | ⟨-, t, cap, rfl, HE, hc⟩⟩
  · rw [h] at hp; cases hp
  · exact ⟨t, cap, rfl, hb, HE, hc⟩
theorem chooseN (p : Int) (w : World) (hp : binB p = false) : Calls Try.prog 18 #[.int .i64 p] w fun e w' => e = .returned .nilFunc ∧ Below w.heap.size w w' := by
  refine (chooseP p w).mono ?_
  rintro e w' ⟨v, rfl, hb, ⟨-, rfl⟩ | ⟨h, -⟩⟩
  · exact ⟨rfl, hb⟩
  · rw [h] at hp; cases hp
set_option maxHeartbeats 1000000 in
theorem scalarP16 : ScalarOK := by
  intro p x y w
  have EF := eql_f16
  have EN := eql_n16
  by_cases hp : binB p = true
  · by_cases hx : Num.fitsB x = true
    · by_cases hy : Num.fitsB y = true
      · rw [binS_yes hp hx hy]
        go_enter Try.func8, Try.ntmps8
        go_wp2_with (first
          | (go_at_call 18; refine Calls.mono (chooseY _ _ hp) ?_; rintro e w1 ⟨t, cap, rfl, hb1, HE, hc⟩; unfold Ent at HE)
          | (go_at_call 19; refine Calls.mono (Num.fitsP _ _) ?_; rintro e w' ⟨rfl, rfl⟩)
          | (refine Calls.mono (hc x y _ (Below.refl _ _) hx hy) ?_; rintro e w2 ⟨rfl, hb2⟩))
        go_ret2
        exact ⟨rfl, Below.then hb1 hb2⟩
      · rw [binS_no (Or.inr (Or.inr (by simpa using hy)))]
        have hy' : Num.fitsB y = false := by simpa using hy
        go_enter Try.func8, Try.ntmps8
        go_wp2_with (first
          | (go_at_call 18; refine Calls.mono (chooseY _ _ hp) ?_; rintro e w1 ⟨t, cap, rfl, hb1, -, -⟩)
          | (go_at_call 19; refine Calls.mono (Num.fitsP _ _) ?_; rintro e w' ⟨rfl, rfl⟩))
        go_ret2
        exact ⟨rfl, hb1⟩
    · rw [binS_no (Or.inr (Or.inl (by simpa using hx)))]
      have hx' : Num.fitsB x = false := by simpa using hx
      go_enter Try.func8, Try.ntmps8
      go_wp2_with (first
        | (go_at_call 18; refine Calls.mono (chooseY _ _ hp) ?_; rintro e w1 ⟨t, cap, rfl, hb1, -, -⟩)
        | (go_at_call 19; refine Calls.mono (Num.fitsP _ _) ?_; rintro e w' ⟨rfl, rfl⟩))
      go_ret2
      exact ⟨rfl, hb1⟩
  · rw [binS_no (Or.inl (by simpa using hp))]
    go_enter Try.func8, Try.ntmps8
    go_wp2_with (go_at_call 18; refine Calls.mono (chooseN _ _ (by simpa using hp)) ?_; rintro e w1 ⟨rfl, hb1⟩)
    go_ret2
    exact ⟨rfl, hb1⟩
/-- unequal's closure, over whatever function lies in what it captured. -/
theorem unequal1P (g : Int → Int → Int × Int) (v : Value) (b : Nat) (x y : Int) (w : World) (hv : Fun16 w v g) (hb : w.cell? ⟨b, 0, none⟩ = some v) :
    Calls Try.prog 67 #[.int .i64 x, .int .i64 y, .pointer (some ⟨b, 0, none⟩)] w fun e w' => e = .returned (.tuple #[.int .i64 (g 0 1).1, .int .i64 (g 0 1).2]) ∧ Below w.heap.size w w' := by
  obtain ⟨t, cap, rfl, HE, hc⟩ := hv
  unfold Ent at HE
  go_enter Try.func67, Try.ntmps67
  go_wp2_with (refine Calls.mono (hc 0 1 _ (Below.refl _ _) (by decide) (by decide)) ?_; rintro e w2 ⟨rfl, hb2⟩)
  go_ret2
  exact ⟨rfl, hb2⟩
theorem unequalP (t : Nat) (cap : Array Value) (w : World) : Calls Try.prog 33 #[.func (.func t) #[] cap] w fun e w' => e = .returned (.func (.func 67) #[] #[.pointer (some ⟨w.heap.size, 0, none⟩)]) ∧ w' = w.alloc (.cells #[.func (.func t) #[] cap] 42) := by
  go_enter Try.func33, Try.ntmps33
  go_wp2
  go_ret
  exact ⟨rfl, rfl⟩
theorem unequalF (v : Value) (g : Int → Int → Int × Int) (w : World) (hv : Fun16 w v g) : Calls Try.prog 33 #[v] w fun e w' => ∃ v', e = .returned v' ∧ Fun16 w' v' (fun _ _ => g 0 1) ∧ Below w.heap.size w w' := by
  have hv' := hv
  obtain ⟨t, cap, rfl, HE, hc⟩ := hv'
  refine (unequalP t cap w).mono ?_
  rintro e w' ⟨rfl, rfl⟩
  refine ⟨_, rfl, ⟨_, _, rfl, ent_binary_unequal1, fun x y w1 hb _ _ => ?_⟩, below_new _ _⟩
  exact unequal1P g _ _ x y w1 (hv.below (Below.then (below_new _ _) hb)) ((hb.cell (by simp)).trans (by rw [World.cell?_alloc_new]; rfl))
end Go.Proofs.Ytekbdiniibmhgaa.Shape
