/-
  Layer 3: the reference's Size and Weight.
-/
import Derived.Test.YtngcahaidlgkfaaDoorArr
namespace Go.Proofs.YtngcahaidlgkfaaDoor.Shape
open Go.RowKit

theorem ret_int {a b : Int} (h : a = b) : Ending.returned (.int .i64 a) = .returned (.int .i64 b) := by rw [h]
theorem below_new (w : World) (o : Obj) : Below w.heap.size w (w.alloc o) := (Below.refl _ _).alloc (Nat.le_refl _) _
theorem Below.then {a b c : World} (h : Below a.heap.size a b) (k : Below b.heap.size b c) : Below a.heap.size a c := h.trans (k.mono h.size)

/-- The number of elements. -/
def aSize (A : Arr) : Nat := if A.kind = 1 ∨ A.kind = 2 then A.nums.length else if A.kind = 3 then A.items.length else 0

theorem aSize_le {k : Int} {sh nu : List Int} {it : List Arr} {N : Nat} (h1 : nu.length ≤ N) (h2 : it.length ≤ N) : aSize (.mk k sh nu it) ≤ N := by
  unfold aSize
  split
  · exact h1
  · split
    · exact h2
    · omega
theorem sizeR (v : Value) (A : Arr) (w : World) (h : ArrAt w v A) :
    Calls Tryd.prog 26 #[v] w fun e w' => e = .returned (.int .i64 (aSize A)) ∧ Below w.heap.size w w' := by
  obtain ⟨k, sh, nu, it⟩ := A
  rw [ArrAt] at h
  obtain ⟨sa, sc, na, nc, ia, ic, rfl, hk, hs, hn, h1, h2, b, off, ha, hc⟩ := h
  clear hk hs hn h1 h2 ha hc
  by_cases k1 : k = 1
  · subst k1
    go_enter Tryd.func26, Tryd.ntmps26
    go_wp2
    go_ret
    exact ⟨rfl, below_new _ _⟩
  · by_cases k2 : k = 2
    · subst k2
      go_enter Tryd.func26, Tryd.ntmps26
      go_wp2
      go_ret
      exact ⟨rfl, below_new _ _⟩
    · by_cases k3 : k = 3
      · subst k3
        go_enter Tryd.func26, Tryd.ntmps26
        go_wp2
        go_ret
        exact ⟨rfl, below_new _ _⟩
      · have e1 : (k == 1) = false := by simpa using k1
        have e2 : (k == 2) = false := by simpa using k2
        have e3 : (k == 3) = false := by simpa using k3
        have es : aSize (.mk k sh nu it) = 0 := by simp [aSize, Arr.kind, k1, k2, k3]
        clear k1 k2 k3
        go_enter Tryd.func26, Tryd.ntmps26
        go_wp2
        go_ret
        exact ⟨by first | rfl | (rw [es]; rfl), below_new _ _⟩
end Go.Proofs.YtngcahaidlgkfaaDoor.Shape
