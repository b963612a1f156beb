/-
  Layer 3: the reference's Scalar, Vector, Box and Boxes. (Written by wip/gen/array-makers.py.)
-/
import Derived.Test.YtngcahaidlgkfaaDoorArrValid
namespace Go.Proofs.YtngcahaidlgkfaaDoor.Shape
open Go.RowKit

theorem reach_plain {k : Int} {sh nu : List Int} (h1 : sh.length * 8 ≤ 140737488351232) (h2 : nu.length * 8 ≤ 140737488351232) : Reach (.mk k sh nu []) := by
  rw [Reach]; exact ⟨h1, h2, by simp, by rw [ReachL]; trivial⟩
theorem nat_bd {n : Nat} (h : n ≤ 9223372036854775807) : -9223372036854775808 ≤ (n : Int) ∧ (n : Int) ≤ 9223372036854775807 := by omega

theorem below_three (w : World) (o o' o'' : Obj) : Below w.heap.size w (((w.alloc o).alloc o').alloc o'') := (below_two w o o').alloc (by simp; omega) _
end Go.Proofs.YtngcahaidlgkfaaDoor.Shape
