/-
  Layer 16: the laws' weigh and small: they return (what they return, the laws do not need).
-/
import Derived.Test.YtekbdiniibmhgaaArrSameg
namespace Go.Proofs.Ytekbdiniibmhgaa.Shape
open Go.RowKit
set_option linter.unusedVariables false

def GiveInt (w : World) (e : Ending) (w' : World) : Prop := ∃ n : Int, e = .returned (.int .i64 n) ∧ Below w.heap.size w w'
def GiveBool (w : World) (e : Ending) (w' : World) : Prop := ∃ b : Bool, e = .returned (.bool b) ∧ Below w.heap.size w w'
theorem GiveInt.mk {w w' : World} (n : Int) (h : Below w.heap.size w w') : GiveInt w (.returned (.int .i64 n)) w' := ⟨n, rfl, h⟩
theorem GiveBool.mk {w w' : World} (b : Bool) (h : Below w.heap.size w w') : GiveBool w (.returned (.bool b)) w' := ⟨b, rfl, h⟩

set_option maxHeartbeats 1000000 in
theorem weighL_any (n : Nat) : ∀ (v : Value) (A : Arr) (most : Int) (w : World), rk A ≤ n → ArrAt w v A → Calls Try.prog 29 #[v, .int .i64 most] w (GiveInt w) := by
  induction n with
  | zero =>
    intro v A most w hn _
    obtain ⟨k, sh, nu, it⟩ := A
    rw [rk] at hn; omega
  | succ n ih =>
    intro v A most w hn h
    obtain ⟨k, sh, nu, it⟩ := A
    rw [ArrAt] at h
    obtain ⟨sa, sc, na, nc, ia, ic, rfl, hk, hs, hnn, h1, h2, b, off, ha, hc⟩ := h
    have hP1 := Par.new w (.int .i64 k) (.slice sa sh.length sc) (.slice na nu.length nc) (.slice ia it.length ic) 33
    clear hs hnn hk
    go_enter Try.func29, Try.ntmps29
    go_wp2_with fail
    go_loopw [5, 6] (fun m i wr => ∃ (j : Nat) (M : Int), j ≤ it.length ∧ i = .int .i64 j ∧ m = .int .i64 M ∧ Par wr w.heap.size (.int .i64 k) (.slice sa sh.length sc) (.slice na nu.length nc) (.slice ia it.length ic) ∧ Below w.heap.size w wr) (fun _ i _ => it.length - (intOf i).toNat)
    case atStart => exact ⟨0, _, Nat.zero_le _, rfl, rfl, hP1, below_new _ _⟩
    case round =>
      obtain ⟨j, M, hj, rfl, rfl, hp, hb⟩ := hrel
      obtain ⟨p0, p1, p2, p3, p4⟩ := id hp
      by_cases hlt : j < it.length
      · by_cases hM : M < most
        · have hi := items_at (ic := ic) rfl ha hlt
          obtain ⟨c0, c1, c2, c3, ⟨g0, g1, g2, g3⟩, hB⟩ := (ArrsAt.below hb hc).at hlt
          have hrk : rk it[j] ≤ n := Nat.le_of_lt_succ (Nat.lt_of_lt_of_le (rk_item hlt) hn)
          have ic1 := fun m => ih _ _ m wr hrk hB
          clear ih
          go_wp2_with (go_at_call 29; refine (ic1 _).mono ?_; rintro e w2 ⟨m2, rfl, hb2⟩)
          go_roundw
          case rel => exact ⟨j + 1, _, by omega, by go_num, rfl, hp.below hb2, hb.trans (hb2.mono hb.size)⟩
          case measure => simp [intOf]; omega
        · clear ih
          go_wp2_with fail
          all_goals go_ret
          all_goals exact GiveInt.mk _ hb
      · clear ih
        go_wp2_with fail
        all_goals go_ret
        all_goals exact GiveInt.mk _ hb

theorem smallL16 (v : Value) (A : Arr) (w : World) (h : ArrAt w v A) : Calls Try.prog 13 #[v] w (GiveBool w) := by
  have hA := h
  obtain ⟨k, sh, nu, it⟩ := A
  rw [ArrAt] at h
  obtain ⟨sa, sc, na, nc, ia, ic, rfl, -⟩ := h
  have hA1 := hA.below (below_new w (.cells #[.int .i64 k, .slice sa sh.length sc, .slice na nu.length nc, .slice ia it.length ic] 33))
  go_enter Try.func13, Try.ntmps13
  go_wp2_with (go_at_call 29; refine (weighL_any _ _ _ _ _ (Nat.le_refl _) hA1).mono ?_; rintro e w2 ⟨m2, rfl, hb2⟩)
  go_ret
  exact GiveBool.mk _ (Below.then (below_new _ _) hb2)

end Go.Proofs.Ytekbdiniibmhgaa.Shape
