/-
  Plain mathematics of numbers and shapes as text.
-/
import Derived.Test.YtngcahaidlgkfaaDoorNumShowMath
namespace Go.Proofs.YtngcahaidlgkfaaDoor.Shape
open Go.Proofs.YtngcahaidlgkfaaDoor.Num

/-- n written in decimal, as a string. -/
def sS (n : Int) : ByteArray := ⟨(shL n).toArray⟩
theorem digits_at (k : Nat) (h : k < 10) : (ByteArray.mk #[48, 49, 50, 51, 52, 53, 54, 55, 56, 57]).extract k (k + 1) = ⟨#[dig k]⟩ := by
  have : k = 0 ∨ k = 1 ∨ k = 2 ∨ k = 3 ∨ k = 4 ∨ k = 5 ∨ k = 6 ∨ k = 7 ∨ k = 8 ∨ k = 9 := by omega
  rcases this with rfl | rfl | rfl | rfl | rfl | rfl | rfl | rfl | rfl | rfl <;> rfl
theorem dig_mod (m : Nat) : dig (m % 10) = dig m := by
  unfold dig
  rw [Nat.mod_mod]
theorem sS_small {n : Int} (h0 : 0 ≤ n) (h : n < 10) : sS n = ⟨#[dig n.natAbs]⟩ := by
  rw [sS, shL_pos (by omega), dg_last (by omega)]
theorem ext_small {n : Int} (h0 : 0 ≤ n) (h : n < 10) : (ByteArray.mk #[48, 49, 50, 51, 52, 53, 54, 55, 56, 57]).extract n.toNat (n + 1).toNat = sS n := by
  rw [sS_small h0 h, show (n + 1).toNat = n.toNat + 1 by omega, show n.natAbs = n.toNat by omega]
  exact digits_at _ (by omega)
theorem sS_low {n : Int} (h0 : n < 0) (h : -10 < n) : sS n = ⟨#[95]⟩ ++ sS (-n) := by
  rw [sS, sS, shL_neg h0, shL_pos (by omega), show (-n).natAbs = n.natAbs by omega]
  apply ByteArray.ext
  simp [ByteArray.data_append]
theorem shL_step {n q r : Int} (h : n ≤ -10 ∨ 10 ≤ n) (hq : q.natAbs = n.natAbs / 10) (hs : q < 0 ↔ n < 0) (hr : r.natAbs = n.natAbs % 10) (hr0 : 0 ≤ r) : shL n = shL q ++ shL r := by
  have e : shL r = [dig n.natAbs] := by rw [shL_pos (by omega), dg_last (by omega), hr, dig_mod]
  rw [e]
  rcases h with h | h
  · rw [shL_neg (by omega), shL_neg (by omega), hq, dg_more (by omega)]; rfl
  · rw [shL_pos (by omega), shL_pos (by omega), hq, dg_more (by omega)]
theorem sS_step {n q r : Int} (h : n ≤ -10 ∨ 10 ≤ n) (hq : q.natAbs = n.natAbs / 10) (hs : q < 0 ↔ n < 0) (hr : r.natAbs = n.natAbs % 10) (hr0 : 0 ≤ r) : sS n = sS q ++ sS r := by
  unfold sS
  rw [shL_step h hq hs hr hr0]
  apply ByteArray.ext
  simp [ByteArray.data_append]
theorem sS_size (n : Int) (h1 : -9223372036854775808 ≤ n) (h2 : n ≤ 9223372036854775807) : (sS n).size ≤ 20 := by
  have h := dg_len 18 n.natAbs (by omega)
  show (shL n).toArray.size ≤ 20
  unfold shL
  split <;> simp <;> omega

/-- The numbers of a list, joined by blanks. -/
def jn : List Int → List UInt8
  | [] => []
  | x :: r => shL x ++ jt r
where jt : List Int → List UInt8
  | [] => []
  | x :: r => 32 :: (shL x ++ jt r)
def jS (xs : List Int) : ByteArray := ⟨(jn xs).toArray⟩
theorem jt_snoc (r : List Int) (x : Int) : jn.jt (r ++ [x]) = jn.jt r ++ 32 :: shL x := by
  induction r with
  | nil => simp [jn.jt]
  | cons y r ih => rw [List.cons_append, jn.jt, jn.jt, ih]; simp
theorem jn_snoc (xs : List Int) (x : Int) (h : xs ≠ []) : jn (xs ++ [x]) = jn xs ++ 32 :: shL x := by
  cases xs with
  | nil => exact absurd rfl h
  | cons y r => rw [List.cons_append, jn, jn, jt_snoc]; simp
theorem jn_one (x : Int) : jn [x] = shL x := by simp [jn, jn.jt]
theorem jS_snoc (xs : List Int) (x : Int) (h : xs ≠ []) : jS (xs ++ [x]) = jS xs ++ ⟨#[32]⟩ ++ sS x := by
  unfold jS sS
  rw [jn_snoc xs x h]
  apply ByteArray.ext
  simp [ByteArray.data_append]
theorem jS_one (x : Int) : jS [x] = sS x := by unfold jS sS; rw [jn_one]
theorem jS_size (xs : List Int) (h : ∀ x ∈ xs, -9223372036854775808 ≤ x ∧ x ≤ 9223372036854775807) : (jS xs).size ≤ 21 * xs.length := by
  have key : ∀ r : List Int, (∀ x ∈ r, -9223372036854775808 ≤ x ∧ x ≤ 9223372036854775807) → (jn.jt r).length ≤ 21 * r.length := by
    intro r
    induction r with
    | nil => intro _; simp [jn.jt]
    | cons y r ih =>
      intro hr
      have h1 := ih (fun x hx => hr x (by simp [hx]))
      have h2 := sS_size y (hr y (by simp)).1 (hr y (by simp)).2
      have h3 : (sS y).size = (shL y).length := by simp [sS, ByteArray.size]
      simp only [jn.jt, List.length_cons, List.length_append]
      omega
  show (jn xs).toArray.size ≤ _
  cases xs with
  | nil => simp [jn]
  | cons y r =>
    have h1 := key r (fun x hx => h x (by simp [hx]))
    have h2 := sS_size y (h y (by simp)).1 (h y (by simp)).2
    have h3 : (sS y).size = (shL y).length := by simp [sS, ByteArray.size]
    simp only [jn, List.size_toArray, List.length_append, List.length_cons]
    omega
end Go.Proofs.YtngcahaidlgkfaaDoor.Shape
