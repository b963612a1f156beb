/-
  Layer 1: what the small functions do: Fits, both, checked, checkDivision, abs and the law's own 'is', of the program and of the reference.
-/
import Derived.Test.YtngcahaidlgkfaaDoorRows
import Derived.Test.YtngcahaidlgkfaaDoorNumMath
import Derived.WalkKit
import Derived.WalkSpells
import Derived.WalkLawsBesides
namespace Go.Proofs.YtngcahaidlgkfaaDoor.Num
open Go.RowKit

theorem ret_bool {x y : Bool} (h : x = y) : Ending.returned (.bool x) = .returned (.bool y) := by rw [h]

/-- A result of two ints. -/
theorem pair_mk {p : Int × Int} {x y : Int} (h : p = (x, y)) : Ending.returned (.tuple #[.int .i64 x, .int .i64 y]) = .returned (.tuple #[.int .i64 p.1, .int .i64 p.2]) := by rw [h]
theorem pair_eq {p q : Int × Int} (h : p = q) : Ending.returned (.tuple #[.int .i64 q.1, .int .i64 q.2]) = .returned (.tuple #[.int .i64 p.1, .int .i64 p.2]) := by rw [h]

/-- What the division asks first. -/
def cdS (a b : Int) : Int := if bothB a b = true then (if b = 0 then 20 else 0) else 1
def absI (a : Int) : Int := if a < 0 then -a else a
theorem abs_bd {a m : Int} (h : -m ≤ a ∧ a ≤ m) : 0 ≤ absI a ∧ absI a ≤ m := by unfold absI; omega
theorem absR (a : Int) (w : World) (h1 : -4611686018427387903 ≤ a) (h2 : a ≤ 4611686018427387903) :
    Calls Tryd.prog 75 #[.int .i64 a] w fun e w' => e = .returned (.int .i64 (absI a)) ∧ w = w' := by
  by_cases h : a < 0
  · go_enter Tryd.func75, Tryd.ntmps75
    go_wp2
    go_ret
    exact ⟨by simp [absI]; omega, rfl⟩
  · go_enter Tryd.func75, Tryd.ntmps75
    go_wp2
    go_ret
    exact ⟨by simp [absI]; omega, rfl⟩

end Go.Proofs.YtngcahaidlgkfaaDoor.Num
