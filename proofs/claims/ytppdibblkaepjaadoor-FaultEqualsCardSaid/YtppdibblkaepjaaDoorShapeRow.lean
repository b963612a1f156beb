/-
  Layer 2: the reference's Row and Offset.
-/
import Derived.Test.YtppdibblkaepjaaDoorShapeR
namespace Go.Proofs.YtppdibblkaepjaaDoor.Shape
open Go.RowKit

theorem pair_mk {p : Int × Int} {x y : Int} (h : p = (x, y)) : Ending.returned (.tuple #[.int .i64 x, .int .i64 y]) = .returned (.tuple #[.int .i64 p.1, .int .i64 p.2]) := by rw [h]
def rowS (xs : List Int) (f : Int) : Int × Int := if rightB xs = true ∧ 0 ≤ f ∧ f ≤ xs.length then (pr (xs.take f.toNat), pr (xs.drop f.toNat)) else (0, 0)
theorem rowS_no {xs : List Int} {f : Int} (h : ¬ (rightB xs = true ∧ 0 ≤ f ∧ f ≤ xs.length)) : rowS xs f = (0, 0) := by rw [rowS, if_neg h]
theorem rowS_yes {xs : List Int} {k : Nat} (h : rightB xs = true) (hk : k ≤ xs.length) : rowS xs k = (pr (xs.take k), pr (xs.drop k)) := by
  rw [rowS, if_pos ⟨h, by omega, by omega⟩]; rfl

/-! ### Offset -/
def ofsGo : Int → List Int → List Int → Option Int
  | n, [], [] => some n
  | n, x :: r, i :: s => if 0 ≤ i ∧ i < x then ofsGo (n * x + i) r s else none
  | _, _, _ => none
def ofsAns : Option Int → Int × Bool
  | some n => (n, true)
  | none => (0, false)
def offS (xs is : List Int) : Int × Bool := if rightB xs = true then ofsAns (ofsGo 0 xs is) else (0, false)
theorem ofsGo_len : ∀ (xs is : List Int) (n : Int), ¬ xs.length = is.length → ofsGo n xs is = none
  | [], [], _, h => absurd rfl h
  | [], _ :: _, _, _ => rfl
  | _ :: _, [], _, _ => rfl
  | x :: r, i :: s, n, h => by
    rw [ofsGo]
    split
    · exact ofsGo_len r s _ (fun e => h (by simp [e]))
    · rfl
theorem offS_wrong {xs is : List Int} (h : rightB xs = false) : offS xs is = (0, false) := by simp [offS, h]
theorem offS_len {xs is : List Int} (h : ¬ xs.length = is.length) : offS xs is = (0, false) := by
  rw [offS, ofsGo_len xs is 0 h]; split <;> rfl
theorem ofsGo_out {xs is : List Int} {k : Nat} {n : Int} (h1 : k < xs.length) (h2 : k < is.length) (h : is[k] < 0 ∨ xs[k] ≤ is[k]) : ofsGo n (xs.drop k) (is.drop k) = none := by
  rw [List.drop_eq_getElem_cons h1, List.drop_eq_getElem_cons h2, ofsGo, if_neg (by omega)]
theorem ofsGo_in {xs is : List Int} {k : Nat} {n : Int} (h1 : k < xs.length) (h2 : k < is.length) (h3 : 0 ≤ is[k]) (h4 : is[k] < xs[k]) : ofsGo n (xs.drop k) (is.drop k) = ofsGo (n * xs[k] + is[k]) (xs.drop (k + 1)) (is.drop (k + 1)) := by
  rw [List.drop_eq_getElem_cons h1, List.drop_eq_getElem_cons h2, ofsGo, if_pos ⟨h3, h4⟩]
theorem ofsGo_end {xs is : List Int} {k : Nat} {n : Int} (h1 : ¬ k < xs.length) (h2 : xs.length = is.length) : ofsGo n (xs.drop k) (is.drop k) = some n := by
  rw [List.drop_eq_nil_of_le (by omega), List.drop_eq_nil_of_le (by omega)]; rfl
theorem ofs_bd {xs : List Int} {k : Nat} {n i : Int} (hr : rightB xs = true) (hk : k < xs.length) (h0 : 0 ≤ n) (h1 : n < pr (xs.take k)) (h3 : 0 ≤ i) (h4 : i < xs[k]) :
    0 ≤ n * xs[k] ∧ n * xs[k] ≤ 65536 ∧ 0 ≤ n * xs[k] + i ∧ n * xs[k] + i < pr (xs.take (k + 1)) ∧ pr (xs.take (k + 1)) ≤ 65536 := by
  have e : pr (xs.take (k + 1)) = pr (xs.take k) * xs[k] := by rw [take_snoc xs k hk, pr_append, pr, pr, Int.mul_one]
  have hb := part_bd (a := xs.take (k + 1)) (b := xs.drop (k + 1)) (by rw [List.take_append_drop]; exact hr)
  have m1 : (n + 1) * xs[k] ≤ pr (xs.take k) * xs[k] := Int.mul_le_mul_of_nonneg_right (by omega) (by omega)
  have m2 : 0 ≤ n * xs[k] := Int.mul_nonneg h0 (by omega)
  rw [Int.add_mul, Int.one_mul] at m1
  rw [e] at hb ⊢
  omega

def retIB (n : Int) (b : Bool) : Ending := .returned (.tuple #[.int .i64 n, .bool b])
theorem ret_ib {p : Int × Bool} {n : Int} {b : Bool} (h : p = (n, b)) : Ending.returned (.tuple #[.int .i64 n, .bool b]) = .returned (.tuple #[.int .i64 p.1, .bool p.2]) := by rw [h]

end Go.Proofs.YtppdibblkaepjaaDoor.Shape
