/-
  Layer 6: vectors are ordered like words, on plain data.
-/
import Derived.Test.YtppdibblkaepjaaBd24
namespace Go.Proofs.Ytppdibblkaepjaa.Shape
open Go.RowKit
set_option linter.unusedVariables false

theorem vec_cmp (xs ys : List Int) : cmpF 1 (vecA xs) (vecA ys) = if firstN (fun c => sgn (xs.getD c 0) (ys.getD c 0)) 0 (min xs.length ys.length) ≠ 0 then firstN (fun c => sgn (xs.getD c 0) (ys.getD c 0)) 0 (min xs.length ys.length) else sgn (xs.length : Int) (ys.length : Int) := by
  have e : cntS (elS 0 (vecA xs) (vecA ys)) (vecA xs).shape (vecA ys).shape 0 0 = if firstN (fun c => sgn (xs.getD c 0) (ys.getD c 0)) 0 (min xs.length ys.length) ≠ 0 then firstN (fun c => sgn (xs.getD c 0) (ys.getD c 0)) 0 (min xs.length ys.length) else sgn (xs.length : Int) (ys.length : Int) := by
    show cntS (elS 0 (vecA xs) (vecA ys)) [(xs.length : Int)] [(ys.length : Int)] 0 0 = _
    rw [cntS_cons]
    have e1 : (min (xs.length : Int) (ys.length : Int)).toNat = min xs.length ys.length := by omega
    have e2 : (fun c => cntS (elS 0 (vecA xs) (vecA ys)) [] [] (0 + c * prN []) (0 + c * prN [])) = fun c => sgn (xs.getD c 0) (ys.getD c 0) := by
      funext c
      rw [cntS_nil, prN_nil, Nat.mul_one, Nat.zero_add]
      unfold elS
      rw [if_neg (by show ¬ (1 : Int) = 3; decide)]
      rfl
    rw [e1, e2]
  rw [cmpF_succ, if_neg (fun g => g rfl), if_neg (fun g => g rfl), e]
  generalize firstN (fun c => sgn (xs.getD c 0) (ys.getD c 0)) 0 (min xs.length ys.length) = F
  show (if (if F ≠ 0 then F else sgn (xs.length : Int) (ys.length : Int)) ≠ 0 then (if F ≠ 0 then F else sgn (xs.length : Int) (ys.length : Int)) else shpS [(xs.length : Int)] [(ys.length : Int)]) = _
  by_cases hF : F = 0
  · simp only [hF, ne_eq, not_true_eq_false, if_false]
    by_cases hs : sgn (xs.length : Int) (ys.length : Int) = 0
    · rw [if_neg (fun g => g hs), hs]
      have := sgn_zero.1 hs
      rw [shpS, if_neg (fun g => g this)]
      simp [shpS]
    · rw [if_pos hs]
  · simp [hF]
theorem vec_at {xs ys : List Int} {j : Nat} (h1 : j < xs.length) (h2 : j < ys.length) (heq : ∀ i, i < j → xs.getD i 0 = ys.getD i 0) (hne : xs.getD j 0 ≠ ys.getD j 0) : cmpF 1 (vecA xs) (vecA ys) = sgn (xs.getD j 0) (ys.getD j 0) := by
  have hz : firstN (fun c => sgn (xs.getD c 0) (ys.getD c 0)) 0 j = 0 := (firstN_zero j 0).2 fun m _ hm => sgn_zero.2 (heq m (by omega))
  have hn : sgn (xs.getD j 0) (ys.getD j 0) ≠ 0 := fun g => hne (sgn_zero.1 g)
  have := firstN_at (f := fun c => sgn (xs.getD c 0) (ys.getD c 0)) (N := min xs.length ys.length) hz (by omega) hn
  rw [vec_cmp, this, if_pos hn]
theorem vec_end {xs ys : List Int} (heq : ∀ i, i < min xs.length ys.length → xs.getD i 0 = ys.getD i 0) : cmpF 1 (vecA xs) (vecA ys) = sgn (xs.length : Int) (ys.length : Int) := by
  have hz : firstN (fun c => sgn (xs.getD c 0) (ys.getD c 0)) 0 (min xs.length ys.length) = 0 := (firstN_zero _ 0).2 fun m _ hm => sgn_zero.2 (heq m (by omega))
  rw [vec_cmp, hz, if_neg (fun g => g rfl)]
end Go.Proofs.Ytppdibblkaepjaa.Shape
