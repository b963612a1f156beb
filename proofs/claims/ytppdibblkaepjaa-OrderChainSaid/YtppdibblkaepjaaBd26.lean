/-
  Layer 6: arrays compare as equal exactly if they are the same, on plain data.
-/
import Derived.Test.YtppdibblkaepjaaBd25
import Derived.Test.YtppdibblkaepjaaBd21
import Derived.Test.YtppdibblkaepjaaBd13
namespace Go.Proofs.Ytppdibblkaepjaa.Shape
open Go.RowKit
set_option linter.unusedVariables false

theorem shpS_zero : ∀ (s t : List Int), s.length = t.length → (shpS s t = 0 ↔ s = t)
  | [], [], _ => by simp [shpS]
  | [], _ :: _, h => by simp at h
  | _ :: _, [], h => by simp at h
  | x :: s, y :: t, h => by
    rw [shpS]
    by_cases e : x = y
    · subst e
      rw [if_neg (fun g => g rfl), shpS_zero s t (by simpa using h)]
      simp
    · rw [if_pos e]
      constructor
      · intro g; exact absurd (sgn_zero.1 g) e
      · intro g; exact absurd (List.cons.inj g).1 e
theorem cntS_zero (el : Nat → Nat → Int) : ∀ (ss : List Int) (i k : Nat), NN ss → (cntS el ss ss i k = 0 ↔ ∀ j, j < prN ss → el (i + j) (k + j) = 0)
  | [], i, k, _ => by
    rw [cntS_nil, prN_nil]
    constructor
    · intro h j hj
      obtain rfl : j = 0 := by omega
      exact h
    · intro h; exact h 0 (by omega)
  | s :: ss, i, k, hN => by
    have e : sgn s s = 0 := sgn_zero.2 rfl
    have hz : (cntS el (s :: ss) (s :: ss) i k = 0) ↔ firstN (fun c => cntS el ss ss (i + c * prN ss) (k + c * prN ss)) 0 s.toNat = 0 := by
      rw [cntS_cons, e, Int.min_self]
      generalize firstN (fun c => cntS el ss ss (i + c * prN ss) (k + c * prN ss)) 0 s.toNat = x
      by_cases hx : x = 0 <;> simp [hx]
    rw [hz, firstN_zero, prN_cons hN.head hN.tail]
    constructor
    · intro h j hj
      have hp : 0 < prN ss := by
        rcases Nat.eq_zero_or_pos (prN ss) with g | g
        · rw [g] at hj; omega
        · exact g
      have hm : j % prN ss < prN ss := Nat.mod_lt _ hp
      have hd : j / prN ss < s.toNat := (Nat.div_lt_iff_lt_mul hp).2 hj
      have h1 := (cntS_zero el ss _ _ hN.tail).1 (h (j / prN ss) (Nat.zero_le _) (by rw [Nat.zero_add]; exact hd)) (j % prN ss) hm
      have e2 : j / prN ss * prN ss + j % prN ss = j := by rw [Nat.mul_comm]; exact Nat.div_add_mod j _
      rw [Nat.add_assoc, Nat.add_assoc, e2] at h1
      exact h1
    · intro h c _ hc
      refine (cntS_zero el ss _ _ hN.tail).2 fun j hj => ?_
      have h5 : (c + 1) * prN ss ≤ s.toNat * prN ss := Nat.mul_le_mul_right _ (by omega)
      rw [Nat.succ_mul] at h5
      have := h (c * prN ss + j) (by omega)
      rwa [← Nat.add_assoc, ← Nat.add_assoc] at this
theorem list_eq {xs ys : List Int} (hl : xs.length = ys.length) : (∀ j, j < xs.length → xs.getD j 0 = ys.getD j 0) ↔ xs = ys := by
  constructor
  · intro h
    refine List.ext_getElem hl fun j h1 h2 => ?_
    have := h j h1
    rw [List.getD_eq_getElem?_getD, List.getD_eq_getElem?_getD] at this
    simpa [h1, h2] using this
  · rintro rfl j _; rfl
theorem eqL_iff : ∀ (l m : List Arr), eqL l m = true ↔ l.length = m.length ∧ ∀ j, j < l.length → eqA (l.getD j arr0) (m.getD j arr0) = true
  | [], [] => by rw [eqL]; simp
  | [], _ :: _ => by rw [eqL] <;> simp
  | _ :: _, [] => by rw [eqL] <;> simp
  | A :: r, B :: s => by
    rw [eqL, Bool.and_eq_true, eqL_iff r s]
    constructor
    · rintro ⟨h1, h2, h3⟩
      refine ⟨by simp [h2], fun j hj => ?_⟩
      cases j with
      | zero => simpa using h1
      | succ j => simpa using h3 j (by simpa using hj)
    · rintro ⟨h1, h2⟩
      refine ⟨by simpa using h2 0 (by simp), by simpa using h1, fun j hj => ?_⟩
      have := h2 (j + 1) (by simpa using hj)
      simpa using this
theorem eqA_iff (A B : Arr) : eqA A B = true ↔ A.kind = B.kind ∧ A.shape = B.shape ∧ A.nums = B.nums ∧ eqL A.items B.items = true := by
  obtain ⟨k, sh, nu, it⟩ := A
  obtain ⟨k2, sh2, nu2, it2⟩ := B
  rw [eqA]
  simp only [Arr.kind, Arr.shape, Arr.nums, Arr.items, Bool.and_eq_true, beq_iff_eq, sameB, decide_eq_true_eq]
  constructor
  · rintro ⟨⟨⟨h1, h2⟩, h3⟩, h4⟩; exact ⟨h1, h2, h3, h4⟩
  · rintro ⟨h1, h2, h3, h4⟩; exact ⟨⟨⟨h1, h2⟩, h3⟩, h4⟩
theorem item_right {A : Arr} (hx : rightE A = 0) {j : Nat} (hj : j < A.items.length) : rightE (A.items.getD j arr0) = 0 := by
  rw [List.getD_eq_getElem?_getD]
  simp only [List.getElem?_eq_getElem hj, Option.getD_some]
  exact ((right_more hx).2 _ (List.getElem_mem hj)).1
theorem item_rank {A : Arr} {n : Nat} (hr : rk A ≤ n + 1) {j : Nat} (hj : j < A.items.length) : rk (A.items.getD j arr0) ≤ n := by
  rw [List.getD_eq_getElem?_getD]
  simp only [List.getElem?_eq_getElem hj, Option.getD_some]
  obtain ⟨k, sh, nu, it⟩ := A
  exact Nat.le_of_lt_succ (Nat.lt_of_lt_of_le (rk_item hj) hr)
theorem cmpF_zero : ∀ (n : Nat) (A B : Arr), rk A ≤ n → rightE A = 0 → rightE B = 0 → (cmpF n A B = 0 ↔ eqA A B = true)
  | 0, A, B, hr, _, _ => by obtain ⟨k, sh, nu, it⟩ := A; rw [rk] at hr; omega
  | n + 1, A, B, hr, hA, hB => by
    obtain ⟨-, -, lA3, lA4, -⟩ := right_lens hA
    obtain ⟨-, -, lB3, lB4, -⟩ := right_lens hB
    have nA := (right_def.1 (right_short hA)).2.1
    rw [eqA_iff, cmpF_succ]
    by_cases hk : A.kind = B.kind
    · rw [if_neg (fun g => g hk)]
      by_cases hl : A.shape.length = B.shape.length
      · rw [if_neg (fun g => g hl)]
        by_cases hs : A.shape = B.shape
        · have hz : (if cntS (elS n A B) A.shape B.shape 0 0 ≠ 0 then cntS (elS n A B) A.shape B.shape 0 0 else shpS A.shape B.shape) = 0 ↔ cntS (elS n A B) A.shape A.shape 0 0 = 0 := by
            rw [← hs, (shpS_zero A.shape A.shape rfl).2 rfl]
            generalize cntS (elS n A B) A.shape A.shape 0 0 = x
            by_cases hx : x = 0 <;> simp [hx]
          rw [hz, cntS_zero _ _ _ _ nA]
          simp only [Nat.zero_add]
          by_cases h3 : A.kind = 3
          · have h3' : B.kind = 3 := hk ▸ h3
            obtain ⟨p1, p2⟩ := lA4 h3
            obtain ⟨q1, q2⟩ := lB4 h3'
            have hel : ∀ j, elS n A B j j = cmpF n (A.items.getD j arr0) (B.items.getD j arr0) := fun j => by unfold elS; rw [if_pos h3]
            rw [p2, q2, eqL_iff, p1, q1, ← hs]
            constructor
            · intro h
              refine ⟨hk, rfl, rfl, rfl, fun j hj => ?_⟩
              have := h j hj
              rw [hel] at this
              exact (cmpF_zero n _ _ (item_rank hr (by rw [p1]; exact hj)) (item_right hA (by rw [p1]; exact hj)) (item_right hB (by rw [q1, ← hs]; exact hj))).1 this
            · rintro ⟨-, -, -, -, h⟩ j hj
              rw [hel]
              exact (cmpF_zero n _ _ (item_rank hr (by rw [p1]; exact hj)) (item_right hA (by rw [p1]; exact hj)) (item_right hB (by rw [q1, ← hs]; exact hj))).2 (h j hj)
          · have h3' : B.kind ≠ 3 := fun g => h3 (hk.trans g)
            obtain ⟨p1, p2⟩ := lA3 h3
            obtain ⟨q1, q2⟩ := lB3 h3'
            have hel : ∀ j, elS n A B j j = sgn (A.nums.getD j 0) (B.nums.getD j 0) := fun j => by unfold elS; rw [if_neg h3]
            have hln : A.nums.length = B.nums.length := by rw [p1, q1, hs]
            rw [p2, q2, ← list_eq hln, p1]
            constructor
            · intro h
              refine ⟨hk, hs, fun j hj => ?_, by rw [eqL]⟩
              have := h j hj
              rw [hel] at this
              exact sgn_zero.1 this
            · rintro ⟨-, -, h, -⟩ j hj
              rw [hel]
              exact sgn_zero.2 (h j hj)
        · have hn : shpS A.shape B.shape ≠ 0 := fun g => hs ((shpS_zero _ _ hl).1 g)
          constructor
          · intro h
            by_cases hc : cntS (elS n A B) A.shape B.shape 0 0 = 0
            · rw [if_neg (fun g => g hc)] at h; exact absurd h hn
            · rw [if_pos hc] at h; exact absurd h hc
          · rintro ⟨-, h, -⟩; exact absurd h hs
      · rw [if_pos hl]
        constructor
        · intro h; have := sgn_zero.1 h; exact absurd (by omega) hl
        · rintro ⟨-, h, -⟩; exact absurd (by rw [h]) hl
    · rw [if_pos hk]
      constructor
      · intro h; exact absurd (sgn_zero.1 h) hk
      · rintro ⟨h, -⟩; exact absurd h hk
theorem nna_right : ∀ (n : Nat) (A : Arr), rightE A = 0 → NNA n A
  | 0, _, _ => trivial
  | n + 1, A, h => ⟨(right_def.1 (right_short h)).2.1, fun B hB => nna_right n B ((right_more h).2 B hB).1⟩
theorem cmpF_beq (n : Nat) (A B : Arr) (hr : rk A ≤ n) (hA : rightE A = 0) (hB : rightE B = 0) : (cmpF n A B == 0) = eqA A B := by
  have h := cmpF_zero n A B hr hA hB
  by_cases e : eqA A B = true
  · rw [e, h.2 e]; rfl
  · have e' : eqA A B = false := by simpa using e
    rw [e']
    simpa using fun g => e (h.1 g)
end Go.Proofs.Ytppdibblkaepjaa.Shape
