/-
  Layer 2: the program's Right, Row and Offset.
-/
import Derived.Test.YtppdibblkaepjaaDoorShapeP1
import Derived.Test.YtppdibblkaepjaaDoorShapeAgree
namespace Go.Proofs.YtppdibblkaepjaaDoor.Shape
open Go.RowKit

/-- From the number k on, as a slice of the same array. -/
def fromAt (a : Option Addr) (cap k : Nat) : Option Addr := if cap = k then a else a.map (·.add (k * 1))
theorem IntsAt.from {w : World} {a : Option Addr} {cap : Nat} {xs : List Int} (h : IntsAt w a cap xs) (k : Nat) (hk : k ≤ xs.length) :
    IntsAt w (fromAt a cap k) (cap - k) (xs.drop k) ∧ (∀ w', (Instr.slice 29 (.slice a xs.length cap) (some (.int .i64 (k : Int))) none none).run Tryd.prog w' = .ok (.slice (fromAt a cap k) (xs.drop k).length (cap - k)) w') := by
  obtain ⟨h1, h2, h3, b, off, ha, hc⟩ := h
  have hlen : (xs.drop k).length = xs.length - k := by rw [List.length_drop]
  refine ⟨⟨by omega, by omega, fun x hx => h3 x (List.mem_of_mem_drop hx), b, off + k, fun hne => ?_, fun i hi => ?_⟩, fun w' => ?_⟩
  · have e := ha (fun e => hne (by rw [e]; simp))
    subst e
    have : xs.length ≠ k := fun e => hne (List.drop_eq_nil_of_le (by omega))
    unfold fromAt
    rw [if_neg (by omega)]
    simp [Addr.add]
  · have hi' : k + i < xs.length := by omega
    rw [List.getElem_drop, Nat.add_assoc]; exact hc (k + i) hi'
  · rw [run_slice_l w' 29 a xs.length cap elemInts .i64 k (by omega) (by omega), sizeInts, hlen]
    show Result.ok (sliced _ _ _ _ _) w' = _
    unfold sliced fromAt
    rw [show (k : Int).toNat = k by omega]
theorem right_take {xs : List Int} {k : Nat} (h : rightB xs = true) : rightB (xs.take k) = true := by
  obtain ⟨h1, h2, h3⟩ := right_def.1 h
  have e : xs.take k ++ xs.drop k = xs := List.take_append_drop _ _
  rw [← e] at h2 h3
  have := nz_left h2
  exact right_def.2 ⟨by rw [List.length_take]; omega, h2.left, by omega⟩
theorem right_drop {xs : List Int} {k : Nat} (h : rightB xs = true) : rightB (xs.drop k) = true := by
  obtain ⟨h1, h2, h3⟩ := right_def.1 h
  have e : xs.take k ++ xs.drop k = xs := List.take_append_drop _ _
  rw [← e] at h2 h3
  have := nz_right h2
  exact right_def.2 ⟨by rw [List.length_drop]; omega, h2.right, by omega⟩

end Go.Proofs.YtppdibblkaepjaaDoor.Shape
