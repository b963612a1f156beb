/-
  Layer 6: the order of arrays on plain data: exchanging inverts it, and it is transitive.
-/
import Derived.Test.YtppdibblkaepjaaBd2
namespace Go.Proofs.Ytppdibblkaepjaa.Shape
open Go.RowKit
set_option linter.unusedVariables false

/-! ### Exchanging -/
theorem cntS_neg {el el2 : Nat → Nat → Int} (h : ∀ i k, el2 k i = - el i k) : ∀ (ss ts : List Int) (i k : Nat), ss.length = ts.length → cntS el2 ts ss k i = - cntS el ss ts i k
  | [], [], i, k, _ => by rw [cntS_nil, cntS_nil]; exact h i k
  | [], _ :: _, _, _, hl => by simp at hl
  | _ :: _, [], _, _, hl => by simp at hl
  | s :: ss, t :: ts, i, k, hl => by
    rw [cntS_cons, cntS_cons]
    have e : firstN (fun c => cntS el2 ts ss (k + c * prN ts) (i + c * prN ss)) 0 (min t s).toNat = - firstN (fun c => cntS el ss ts (i + c * prN ss) (k + c * prN ts)) 0 (min s t).toNat := by
      rw [← firstN_neg, Int.min_comm t s]
      exact firstN_congr _ _ fun m _ _ => cntS_neg h ss ts _ _ (by simpa using hl)
    rw [e]
    generalize firstN (fun c => cntS el ss ts (i + c * prN ss) (k + c * prN ts)) 0 (min s t).toNat = x
    by_cases hx : x = 0
    · subst hx
      simp only [Int.neg_zero, ne_eq, not_true_eq_false, if_false]
      exact sgn_neg s t
    · have : ¬ (- x = 0) := by omega
      simp [hx]
theorem shpS_neg : ∀ (s t : List Int), s.length = t.length → shpS t s = - shpS s t
  | [], [], _ => by simp [shpS]
  | [], _ :: _, hl => by simp at hl
  | _ :: _, [], hl => by simp at hl
  | s :: ss, t :: ts, hl => by
    rw [shpS, shpS]
    by_cases h : s = t
    · subst h; simp only [ne_eq, not_true_eq_false, if_false]; exact shpS_neg ss ts (by simpa using hl)
    · rw [if_pos h, if_pos (Ne.symm h)]; exact sgn_neg s t
theorem cmpF_neg : ∀ (n : Nat) (A B : Arr), cmpF n B A = - cmpF n A B
  | 0, _, _ => by rw [cmpF, cmpF]; rfl
  | n + 1, A, B => by
    rw [cmpF_succ, cmpF_succ]
    by_cases hk : A.kind = B.kind
    · rw [if_neg (show ¬ B.kind ≠ A.kind from fun h => h hk.symm), if_neg (show ¬ A.kind ≠ B.kind from fun h => h hk)]
      by_cases hl : A.shape.length = B.shape.length
      · rw [if_neg (show ¬ B.shape.length ≠ A.shape.length from fun h => h hl.symm), if_neg (show ¬ A.shape.length ≠ B.shape.length from fun h => h hl)]
        have e : cntS (elS n B A) B.shape A.shape 0 0 = - cntS (elS n A B) A.shape B.shape 0 0 := by
          refine cntS_neg (fun i k => ?_) _ _ _ _ hl
          unfold elS
          rw [hk]
          split
          · exact cmpF_neg n _ _
          · exact sgn_neg _ _
        rw [e]
        generalize cntS (elS n A B) A.shape B.shape 0 0 = x
        by_cases hx : x = 0
        · subst hx
          simp only [Int.neg_zero, ne_eq, not_true_eq_false, if_false]
          exact shpS_neg _ _ hl
        · have : ¬ (- x = 0) := by omega
          simp [hx]
      · rw [if_pos (show B.shape.length ≠ A.shape.length from fun h => hl h.symm), if_pos (show A.shape.length ≠ B.shape.length from hl)]; exact sgn_neg _ _
    · rw [if_pos (show B.kind ≠ A.kind from fun h => hk h.symm), if_pos (show A.kind ≠ B.kind from hk)]; exact sgn_neg _ _

/-! ### Transitivity -/
/-- What three comparisons of x with y, y with z, and x with z keep. -/
def Tr (x y z : Int) : Prop := x ≤ 0 → y ≤ 0 → z ≤ 0 ∧ (z = 0 ↔ x = 0 ∧ y = 0)
theorem sgn_tr (a b c : Int) : Tr (sgn a b) (sgn b c) (sgn a c) := by
  intro h1 h2
  have g1 := sgn_le.1 h1
  have g2 := sgn_le.1 h2
  refine ⟨sgn_le.2 (by omega), ?_⟩
  rw [sgn_zero, sgn_zero, sgn_zero]
  omega
/-- The first of two that is not 0. -/
def lex (x x' : Int) : Int := if x ≠ 0 then x else x'
theorem tr_lex {x y z x' y' z' : Int} (h : Tr x y z) (h' : x = 0 → y = 0 → Tr x' y' z') : Tr (lex x x') (lex y y') (lex z z') := by
  intro h1 h2
  unfold lex at h1 h2 ⊢
  by_cases hx : x = 0
  · by_cases hy : y = 0
    · obtain ⟨h3, h4⟩ := h (by omega) (by omega)
      have hz := h4.2 ⟨hx, hy⟩
      simp only [hx, hy, hz, ne_eq, not_true_eq_false, if_false] at h1 h2 ⊢
      exact h' hx hy h1 h2
    · simp only [ne_eq, hy, not_false_eq_true, if_true] at h2 ⊢
      obtain ⟨h3, h4⟩ := h (by omega) h2
      have hz : ¬ z = 0 := fun g => hy (h4.1 g).2
      simp only [hz, not_false_eq_true, if_true]
      exact ⟨h3, fun g => g.elim, fun g => g.2.elim⟩
  · simp only [ne_eq, hx, not_false_eq_true, if_true] at h1 ⊢
    have hy2 : y ≤ 0 := by
      by_cases hy : y = 0
      · omega
      · simpa [hy] using h2
    obtain ⟨h3, h4⟩ := h h1 hy2
    have hz : ¬ z = 0 := fun g => hx (h4.1 g).1
    simp only [hz, not_false_eq_true, if_true]
    exact ⟨h3, fun g => g.elim, fun g => g.1.elim⟩
/-- Two lists by their elements' comparisons f c, f (c + 1), .., then by their lengths. -/
def lx (f : Nat → Int) : Nat → Nat → Nat → Int
  | _, 0, 0 => 0
  | _, 0, _ + 1 => -1
  | _, _ + 1, 0 => 1
  | c, s + 1, t + 1 => lex (f c) (lx f (c + 1) s t)
theorem lx_eq (f : Nat → Int) : ∀ (s t c : Nat), lex (firstN f c (min s t)) (sgn (s : Int) (t : Int)) = lx f c s t
  | 0, 0, c => by simp [lx, lex, firstN, sgn]
  | 0, t + 1, c => by
    rw [Nat.zero_min, firstN, lx]
    simp only [lex, ne_eq, not_true_eq_false, if_false, sgn]
    rw [if_pos (by omega)]
  | s + 1, 0, c => by
    rw [Nat.min_zero, firstN, lx]
    simp only [lex, ne_eq, not_true_eq_false, if_false, sgn]
    rw [if_neg (by omega), if_pos (by omega)]
  | s + 1, t + 1, c => by
    have e : min (s + 1) (t + 1) = min s t + 1 := by omega
    have e2 : sgn ((s + 1 : Nat) : Int) ((t + 1 : Nat) : Int) = sgn (s : Int) (t : Int) := by
      unfold sgn
      by_cases h1 : (s : Int) < t
      · rw [if_pos (by omega), if_pos h1]
      · rw [if_neg (by omega), if_neg h1]
        by_cases h2 : (t : Int) < s
        · rw [if_pos (by omega), if_pos h2]
        · rw [if_neg (by omega), if_neg h2]
    rw [e, firstN, e2, lx, ← lx_eq f s t (c + 1)]
    by_cases h : f c = 0
    · simp [lex, h]
    · simp [lex, h]
theorem lx_tr {f g h : Nat → Int} (H : ∀ m, Tr (f m) (g m) (h m)) : ∀ (s t u c : Nat), Tr (lx f c s t) (lx g c t u) (lx h c s u)
  | 0, 0, 0, c => by simp [lx, Tr]
  | 0, 0, u + 1, c => by simp [lx, Tr]
  | 0, t + 1, 0, c => by simp [lx, Tr]
  | 0, t + 1, u + 1, c => by intro h1 h2; simp [lx]
  | s + 1, 0, u, c => by intro h1; simp [lx] at h1
  | s + 1, t + 1, 0, c => by intro h1 h2; simp [lx] at h2
  | s + 1, t + 1, u + 1, c => by
    rw [lx, lx, lx]
    exact tr_lex (H c) fun _ _ => lx_tr H s t u (c + 1)
theorem cntS_lx (el : Nat → Nat → Int) (s t : Int) (ss ts : List Int) (i k : Nat) (hs : 0 ≤ s) (ht : 0 ≤ t) : cntS el (s :: ss) (t :: ts) i k = lx (fun c => cntS el ss ts (i + c * prN ss) (k + c * prN ts)) 0 s.toNat t.toNat := by
  rw [cntS_cons, ← lx_eq]
  have e : (min s t).toNat = min s.toNat t.toNat := by omega
  rw [e, show ((s.toNat : Nat) : Int) = s by omega, show ((t.toNat : Nat) : Int) = t by omega]
  rfl
theorem cntS_tr {f g h : Nat → Nat → Int} (H : ∀ i k m, Tr (f i k) (g k m) (h i m)) : ∀ (ss ts us : List Int) (i k m : Nat), ss.length = ts.length → ts.length = us.length → NN ss → NN ts → NN us → Tr (cntS f ss ts i k) (cntS g ts us k m) (cntS h ss us i m)
  | [], [], [], i, k, m, _, _, _, _, _ => by rw [cntS_nil, cntS_nil, cntS_nil]; exact H i k m
  | [], _ :: _, _, _, _, _, hl, _, _, _, _ => by simp at hl
  | [], [], _ :: _, _, _, _, _, hl, _, _, _ => by simp at hl
  | _ :: _, [], _, _, _, _, hl, _, _, _, _ => by simp at hl
  | _ :: _, _ :: _, [], _, _, _, _, hl, _, _, _ => by simp at hl
  | s :: ss, t :: ts, u :: us, i, k, m, h1, h2, n1, n2, n3 => by
    rw [cntS_lx _ _ _ _ _ _ _ n1.head n2.head, cntS_lx _ _ _ _ _ _ _ n2.head n3.head, cntS_lx _ _ _ _ _ _ _ n1.head n3.head]
    exact lx_tr (fun c => cntS_tr H ss ts us _ _ _ (by simpa using h1) (by simpa using h2) n1.tail n2.tail n3.tail) _ _ _ _
theorem shpS_lex (s t : Int) (ss ts : List Int) : shpS (s :: ss) (t :: ts) = lex (sgn s t) (shpS ss ts) := by
  rw [shpS, lex]
  by_cases h : s = t
  · subst h; simp [sgn]
  · rw [if_pos h, if_pos (fun g => h (sgn_zero.1 g))]
theorem shpS_tr : ∀ (s t u : List Int), s.length = t.length → t.length = u.length → Tr (shpS s t) (shpS t u) (shpS s u)
  | [], [], [], _, _ => by simp [shpS, Tr]
  | [], _ :: _, _, hl, _ => by simp at hl
  | [], [], _ :: _, _, hl => by simp at hl
  | _ :: _, [], _, hl, _ => by simp at hl
  | _ :: _, _ :: _, [], _, hl => by simp at hl
  | s :: ss, t :: ts, u :: us, h1, h2 => by
    rw [shpS_lex, shpS_lex, shpS_lex]
    exact tr_lex (sgn_tr s t u) fun _ _ => shpS_tr ss ts us (by simpa using h1) (by simpa using h2)
/-- Arrays whose dimensions are no less than 0, and their items' too. -/
def NNA : Nat → Arr → Prop
  | 0, _ => True
  | n + 1, A => NN A.shape ∧ ∀ B ∈ A.items, NNA n B
theorem cmpF_lex (n : Nat) (A B : Arr) : cmpF (n + 1) A B = lex (sgn A.kind B.kind) (lex (sgn A.shape.length B.shape.length) (if A.kind = B.kind ∧ A.shape.length = B.shape.length then lex (cntS (elS n A B) A.shape B.shape 0 0) (shpS A.shape B.shape) else 0)) := by
  rw [cmpF_succ]
  by_cases hk : A.kind = B.kind
  · have e1 : sgn A.kind B.kind = 0 := sgn_zero.2 hk
    rw [if_neg (show ¬ A.kind ≠ B.kind from fun h => h hk), e1]
    by_cases hl : A.shape.length = B.shape.length
    · have e2 : sgn (A.shape.length : Int) B.shape.length = 0 := sgn_zero.2 (by rw [hl])
      rw [if_neg (show ¬ A.shape.length ≠ B.shape.length from fun h => h hl), e2, if_pos (show A.kind = B.kind ∧ A.shape.length = B.shape.length from ⟨hk, hl⟩)]
      simp [lex]
    · have e2 : sgn (A.shape.length : Int) B.shape.length ≠ 0 := fun h => hl (by have := sgn_zero.1 h; omega)
      rw [if_pos (show A.shape.length ≠ B.shape.length from hl)]
      simp [lex, e2]
  · have e1 : sgn A.kind B.kind ≠ 0 := fun h => hk (sgn_zero.1 h)
    rw [if_pos (show A.kind ≠ B.kind from hk)]
    simp [lex, e1]
theorem nna_arr0 : ∀ n, NNA n arr0
  | 0 => trivial
  | n + 1 => ⟨fun x hx => by simp [arr0, Arr.shape] at hx, fun B hB => by simp [arr0, Arr.items] at hB⟩
theorem nna_item {n : Nat} {A : Arr} (h : NNA (n + 1) A) (i : Nat) : NNA n (A.items.getD i arr0) := by
  rw [List.getD_eq_getElem?_getD]
  cases hx : A.items[i]? with
  | none => exact nna_arr0 n
  | some B => exact h.2 B (List.mem_of_getElem? hx)
theorem cmpF_tr : ∀ (n : Nat) (A B C : Arr), NNA n A → NNA n B → NNA n C → Tr (cmpF n A B) (cmpF n B C) (cmpF n A C)
  | 0, A, B, C, _, _, _ => by simp [cmpF, Tr]
  | n + 1, A, B, C, hA, hB, hC => by
    rw [cmpF_lex, cmpF_lex, cmpF_lex]
    refine tr_lex (sgn_tr _ _ _) fun h1 h2 => tr_lex (sgn_tr _ _ _) fun h3 h4 => ?_
    have k1 := sgn_zero.1 h1
    have k2 := sgn_zero.1 h2
    have l1 : A.shape.length = B.shape.length := by have := sgn_zero.1 h3; omega
    have l2 : B.shape.length = C.shape.length := by have := sgn_zero.1 h4; omega
    rw [if_pos ⟨k1, l1⟩, if_pos ⟨k2, l2⟩, if_pos ⟨k1.trans k2, l1.trans l2⟩]
    refine tr_lex (cntS_tr (fun i k m => ?_) _ _ _ _ _ _ l1 l2 hA.1 hB.1 hC.1) fun _ _ => shpS_tr _ _ _ l1 l2
    unfold elS
    rw [k1, k2]
    split
    · exact cmpF_tr n _ _ _ (nna_item hA i) (nna_item hB k) (nna_item hC m)
    · exact sgn_tr _ _ _
end Go.Proofs.Ytppdibblkaepjaa.Shape
