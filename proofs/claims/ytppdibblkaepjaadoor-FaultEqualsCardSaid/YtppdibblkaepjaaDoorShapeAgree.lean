/-
  Layer 2: the reference's Agree.
-/
import Derived.Test.YtppdibblkaepjaaDoorShapeR
namespace Go.Proofs.YtppdibblkaepjaaDoor.Shape
open Go.RowKit

theorem below_drewN {w : World} (k : Nat) : Below w.heap.size w (w.drewN k) := ⟨rfl, rfl, rfl, Nat.le_refl _, fun _ _ => rfl⟩
/-- The first k numbers as a slice of the same array. -/
def cutAt (a : Option Addr) (cap : Nat) : Option Addr := if cap = 0 then a else a.map (·.add (0 * 1))
theorem IntsAt.cut {w : World} {a : Option Addr} {cap : Nat} {xs : List Int} (h : IntsAt w a cap xs) (k : Nat) (hk : k ≤ xs.length) :
    IntsAt w (cutAt a cap) cap (xs.take k) ∧ (∀ w', (Instr.slice 29 (.slice a xs.length cap) none (some (.int .i64 (k : Int))) none).run Tryd.prog w' = .ok (.slice (cutAt a cap) k cap) w') := by
  obtain ⟨h1, h2, h3, b, off, ha, hc⟩ := h
  have hlen : (xs.take k).length = k := by rw [List.length_take, Nat.min_eq_left hk]
  refine ⟨⟨by omega, h2, fun x hx => h3 x (List.mem_of_mem_take hx), b, off, fun hne => ?_, fun i hi => ?_⟩, fun w' => ?_⟩
  · have e := ha (fun e => hne (by rw [e]; simp))
    subst e
    unfold cutAt
    split
    · rfl
    · simp [Addr.add]
  · have hi' : i < xs.length := by omega
    rw [List.getElem_take]; exact hc i hi'
  · rw [run_slice_h w' 29 a xs.length cap elemInts .i64 k (by omega) (by omega), sizeInts]
    show Result.ok (sliced _ _ _ _ _) w' = _
    unfold sliced cutAt
    rw [show (k : Int).toNat = k by omega, Nat.sub_zero, Nat.sub_zero]

def agB (xs ys : List Int) : Bool := rightB xs && rightB ys && sameB (xs.take (min xs.length ys.length)) (ys.take (min xs.length ys.length))
def agL (xs ys : List Int) : List Int := if agB xs ys = true then (if ys.length ≤ xs.length then xs else ys) else []
/-- A result that is a slice holding L, and a bool. -/
def SliceBool (L : List Int) (b : Bool) (w : World) (e : Ending) (w' : World) : Prop := ∃ a c, e = .returned (.tuple #[.slice a L.length c, .bool b]) ∧ IntsAt w' a c L ∧ Below w.heap.size w w'
theorem SliceBool.nil {w w' : World} {xs ys : List Int} (h : agB xs ys = false) (hb : Below w.heap.size w w') : SliceBool (agL xs ys) (agB xs ys) w (.returned (.tuple #[.slice none 0 0, .bool false])) w' := by
  have e : agL xs ys = [] := by rw [agL, h]; rfl
  rw [e, h]
  exact ⟨none, 0, rfl, ⟨Nat.zero_le _, by decide, fun x hx => absurd hx (by simp), 0, 0, fun hn => absurd rfl hn, fun i hi => absurd hi (by simp)⟩, hb⟩

theorem agL_left {xs ys : List Int} (h : agB xs ys = true) (hl : ys.length ≤ xs.length) : agL xs ys = xs := by rw [agL, if_pos h, if_pos hl]
theorem agL_right {xs ys : List Int} (h : agB xs ys = true) (hl : ¬ ys.length ≤ xs.length) : agL xs ys = ys := by rw [agL, if_pos h, if_neg hl]
theorem SliceBool.some {L : List Int} {b : Bool} {w w' : World} {a : Option Addr} {c : Nat} {M : List Int} (hL : L = M) (hb : b = true) (h : IntsAt w' a c M) (hw : Below w.heap.size w w') : SliceBool L b w (.returned (.tuple #[.slice a M.length c, .bool true])) w' := by
  subst hL; subst hb; exact ⟨a, c, rfl, h, hw⟩

theorem SliceBool.none {L : List Int} {b : Bool} {w w' : World} (hL : L = []) (hb : b = false) (hw : Below w.heap.size w w') : SliceBool L b w (.returned (.tuple #[.slice none 0 0, .bool false])) w' := by
  subst hL; subst hb
  exact ⟨Option.none, 0, rfl, ⟨Nat.zero_le _, by decide, fun x hx => absurd hx (by simp), 0, 0, fun hn => absurd rfl hn, fun i hi => absurd hi (by simp)⟩, hw⟩

end Go.Proofs.YtppdibblkaepjaaDoor.Shape
