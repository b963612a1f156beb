/-
  Layer 2: small facts that the laws' walks want.
-/
import Derived.Test.YtppdibblkaepjaaDoorShapeIndex
import Derived.Test.YtppdibblkaepjaaDoorShapeRow
namespace Go.Proofs.YtppdibblkaepjaaDoor.Shape
open Go.RowKit

theorem below_of_drew {w w' : World} {n : Nat} (h : w' = w.drewN n) : Below w.heap.size w w' := h ▸ below_drewN n
theorem below_any (w : World) (n : Nat) : Below w.heap.size w (w.drewN n).drew := (below_drewN n).drew
theorem row_mul {xs : List Int} {f : Int} (hr : rightB xs = true) (h0 : 0 ≤ f) (h1 : f ≤ xs.length) :
    0 ≤ (rowS xs f).1 ∧ (rowS xs f).1 ≤ 65536 ∧ 0 ≤ (rowS xs f).2 ∧ (rowS xs f).2 ≤ 65536 ∧ (wrap64 ((rowS xs f).1 * (rowS xs f).2) == sizeS xs) = true := by
  obtain ⟨k, rfl⟩ : ∃ k : Nat, f = k := ⟨f.toNat, by omega⟩
  rw [rowS_yes hr (by omega)]
  have hb := part_bd (a := xs.take k) (b := xs.drop k) (by rw [List.take_append_drop]; exact hr)
  refine ⟨hb.1, hb.2.1, hb.2.2.1, hb.2.2.2, ?_⟩
  have e : pr xs = pr (xs.take k) * pr (xs.drop k) := by rw [← pr_append, List.take_append_drop]
  have hz := part_bd (a := xs) (b := []) (by rw [List.append_nil]; exact hr)
  rw [sizeS, if_pos hr, ← e, IntWalk.wrap64_in _ (by omega)]; simp
theorem agB_comm (xs ys : List Int) : agB ys xs = agB xs ys := by
  unfold agB sameB
  rw [Nat.min_comm ys.length xs.length, Bool.and_comm (rightB ys) (rightB xs)]
  congr 1
  exact decide_eq_decide.2 ⟨Eq.symm, Eq.symm⟩
theorem agL_comm (xs ys : List Int) : agL ys xs = agL xs ys := by
  unfold agL
  rw [agB_comm]
  by_cases h : agB xs ys = true
  · rw [if_pos h, if_pos h]
    by_cases h1 : xs.length ≤ ys.length
    · by_cases h2 : ys.length ≤ xs.length
      · rw [if_pos h1, if_pos h2]
        have e : xs.length = ys.length := by omega
        simp only [agB, Bool.and_eq_true, sameB, decide_eq_true_eq] at h
        have := h.2
        rw [e, Nat.min_self, List.take_length, ← e, List.take_length] at this
        exact this.symm
      · rw [if_pos h1, if_neg h2]
    · rw [if_neg h1, if_pos (by omega)]
  · rw [if_neg h, if_neg h]
theorem same_self (xs : List Int) : sameB xs xs = true := by simp [sameB]
end Go.Proofs.YtppdibblkaepjaaDoor.Shape
