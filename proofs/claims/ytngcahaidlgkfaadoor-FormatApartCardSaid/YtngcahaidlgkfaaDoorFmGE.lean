/-
  Layer 5: texts of numbers, of lists of numbers and of characters can be read back from what follows them.
  Layer 5: characters in literals, and string literals, can be read back from what follows them.
  Layer 5: the literal of a valid array is read back from what follows it: two valid arrays that have the same literal are equal.
  Layer 5: two valid arrays have the same literal just where they are equal.
-/
import Derived.Test.YtngcahaidlgkfaaDoorFmGA
import Derived.Test.YtngcahaidlgkfaaDoorArrCheckMath
import Derived.Lib.RuneBytes
import Derived.Test.YtngcahaidlgkfaaDoorFmGC
namespace Go.Proofs.YtngcahaidlgkfaaDoor.Shape
open Go.RowKit Go.Proofs.YtngcahaidlgkfaaDoor.Num
set_option linter.unusedVariables false
set_option linter.unusedSimpArgs false

theorem cut {p : UInt8 → Prop} : ∀ (a b s t : List UInt8), (∀ x ∈ a, p x) → (∀ x ∈ b, p x) → (∀ x r, s = x :: r → ¬ p x) → (∀ x r, t = x :: r → ¬ p x) → a ++ s = b ++ t → a = b ∧ s = t
  | [], [], s, t, _, _, _, _, h => ⟨rfl, h⟩
  | [], y :: b, s, t, _, hb, hs, _, h => absurd (hb y (by simp)) (hs y (b ++ t) h)
  | x :: a, [], s, t, ha, _, _, ht, h => absurd (ha x (by simp)) (ht x (a ++ s) h.symm)
  | x :: a, y :: b, s, t, ha, hb, hs, ht, h => by
    simp only [List.cons_append, List.cons.injEq] at h
    obtain ⟨rfl, h2⟩ := h
    obtain ⟨e1, e2⟩ := cut a b s t (fun z hz => ha z (by simp [hz])) (fun z hz => hb z (by simp [hz])) hs ht h2
    exact ⟨by rw [e1], e2⟩

/-! ### Decimal -/
def isDg (b : UInt8) : Prop := 48 ≤ b.toNat ∧ b.toNat ≤ 57
theorem dig_is (m : Nat) : isDg (dig m) := by
  unfold isDg
  rw [dig_nat]
  omega
theorem dg_all : ∀ (m : Nat), ∀ b ∈ dg m, isDg b := fun m => by
  induction m using Nat.strongRecOn with
  | ind m ih =>
    intro b hb
    by_cases h : m < 10
    · rw [dg_last h] at hb
      obtain rfl : b = dig m := by simpa using hb
      exact dig_is m
    · rw [dg_more h] at hb
      rcases List.mem_append.1 hb with q | q
      · exact ih (m / 10) (by omega) b q
      · obtain rfl : b = dig m := by simpa using q
        exact dig_is m
theorem dg_ne (m : Nat) : dg m ≠ [] := by
  by_cases h : m < 10
  · rw [dg_last h]; simp
  · rw [dg_more h]; simp
def dval (l : List UInt8) : Nat := l.foldl (fun a b => a * 10 + (b.toNat - 48)) 0
theorem dval_dg : ∀ (m : Nat), dval (dg m) = m := fun m => by
  induction m using Nat.strongRecOn with
  | ind m ih =>
    by_cases h : m < 10
    · rw [dg_last h]
      show 0 * 10 + ((dig m).toNat - 48) = m
      rw [dig_nat]
      omega
    · rw [dg_more h, dval, List.foldl_append]
      show dval (dg (m / 10)) * 10 + ((dig m).toNat - 48) = m
      rw [ih (m / 10) (by omega), dig_nat]
      omega
theorem dg_inj {m n : Nat} (h : dg m = dg n) : m = n := by rw [← dval_dg m, h, dval_dg]
/-- No digit comes first. -/
def ND (s : List UInt8) : Prop := ∀ x r, s = x :: r → ¬ isDg x
theorem dg_cut {m n : Nat} {s t : List UInt8} (hs : ND s) (ht : ND t) (h : dg m ++ s = dg n ++ t) : m = n ∧ s = t := by
  obtain ⟨e1, e2⟩ := cut (p := isDg) _ _ _ _ (dg_all m) (dg_all n) hs ht h
  exact ⟨dg_inj e1, e2⟩
theorem dg_head (m : Nat) : ∃ b r, dg m = b :: r ∧ isDg b := by
  cases h : dg m with
  | nil => exact absurd h (dg_ne m)
  | cons b r => exact ⟨b, r, rfl, dg_all m b (by rw [h]; simp)⟩
theorem shL_cut {x y : Int} {s t : List UInt8} (hs : ND s) (ht : ND t) (h : shL x ++ s = shL y ++ t) : x = y ∧ s = t := by
  by_cases hx : x < 0 <;> by_cases hy : y < 0
  · rw [shL_neg hx, shL_neg hy] at h
    simp only [List.cons_append, List.cons.injEq, true_and] at h
    obtain ⟨e1, e2⟩ := dg_cut hs ht h
    exact ⟨by omega, e2⟩
  · rw [shL_neg hx, shL_pos hy] at h
    obtain ⟨b, r, e, hb⟩ := dg_head y.natAbs
    rw [e] at h
    simp only [List.cons_append, List.cons.injEq] at h
    rw [← h.1] at hb
    exact absurd hb (by unfold isDg; decide)
  · rw [shL_pos hx, shL_neg hy] at h
    obtain ⟨b, r, e, hb⟩ := dg_head x.natAbs
    rw [e] at h
    simp only [List.cons_append, List.cons.injEq] at h
    rw [h.1] at hb
    exact absurd hb (by unfold isDg; decide)
  · rw [shL_pos hx, shL_pos hy] at h
    obtain ⟨e1, e2⟩ := dg_cut hs ht h
    exact ⟨by omega, e2⟩
theorem shL_head (x : Int) : ∃ b r, shL x = b :: r ∧ (isDg b ∨ b = 95) := by
  by_cases hx : x < 0
  · exact ⟨95, dg x.natAbs, shL_neg hx, Or.inr rfl⟩
  · obtain ⟨b, r, e, hb⟩ := dg_head x.natAbs
    exact ⟨b, r, by rw [shL_pos hx, e], Or.inl hb⟩
/-- What may follow a list of numbers. -/
def NL (s : List UInt8) : Prop := ND s ∧ ∀ b r, s = 32 :: b :: r → ¬ isDg b ∧ b ≠ 95
theorem jt_nd (r : List Int) {s : List UInt8} (h : ND s) : ND (jn.jt r ++ s) := by
  cases r with
  | nil => exact h
  | cons y r =>
    rw [jn.jt]
    intro x q e
    simp only [List.cons_append, List.cons.injEq] at e
    rw [← e.1]
    unfold isDg
    decide
theorem jt_cut : ∀ (xs ys : List Int) {s t : List UInt8}, NL s → NL t → jn.jt xs ++ s = jn.jt ys ++ t → xs = ys ∧ s = t
  | [], [], s, t, _, _, h => ⟨rfl, h⟩
  | [], y :: ys, s, t, hs, _, h => by
    rw [jn.jt, jn.jt] at h
    obtain ⟨b, r, e, hb⟩ := shL_head y
    rw [e] at h
    obtain ⟨h1, h2⟩ := hs.2 b (r ++ jn.jt ys ++ t) (by simpa using h)
    exact absurd hb (by simp [h1, h2])
  | x :: xs, [], s, t, _, ht, h => by
    rw [jn.jt, jn.jt] at h
    obtain ⟨b, r, e, hb⟩ := shL_head x
    rw [e] at h
    obtain ⟨h1, h2⟩ := ht.2 b (r ++ jn.jt xs ++ s) (by simpa using h.symm)
    exact absurd hb (by simp [h1, h2])
  | x :: xs, y :: ys, s, t, hs, ht, h => by
    rw [jn.jt, jn.jt] at h
    simp only [List.cons_append, List.cons.injEq, true_and, List.append_assoc] at h
    obtain ⟨e1, e2⟩ := shL_cut (jt_nd xs hs.1) (jt_nd ys ht.1) h
    obtain ⟨e3, e4⟩ := jt_cut xs ys hs ht e2
    exact ⟨by rw [e1, e3], e4⟩
theorem jn_cut {xs ys : List Int} (hx : xs ≠ []) (hy : ys ≠ []) {s t : List UInt8} (hs : NL s) (ht : NL t) (h : jn xs ++ s = jn ys ++ t) : xs = ys ∧ s = t := by
  cases xs with
  | nil => exact absurd rfl hx
  | cons x xs =>
    cases ys with
    | nil => exact absurd rfl hy
    | cons y ys =>
      rw [jn, jn, List.append_assoc, List.append_assoc] at h
      obtain ⟨e1, e2⟩ := shL_cut (jt_nd xs hs.1) (jt_nd ys ht.1) h
      obtain ⟨e3, e4⟩ := jt_cut xs ys hs ht e2
      exact ⟨by rw [e1, e3], e4⟩

/-! ### Hexadecimal -/
def isHx (b : UInt8) : Prop := (48 ≤ b.toNat ∧ b.toNat ≤ 57) ∨ (97 ≤ b.toNat ∧ b.toNat ≤ 102)
theorem hd_nat (m : Nat) : (hd m).toNat = if m % 16 < 10 then 48 + m % 16 else 87 + m % 16 := by
  unfold hd
  rw [UInt8.toNat_ofNat']
  split <;> omega
theorem hd_is (m : Nat) : isHx (hd m) := by
  unfold isHx
  rw [hd_nat]
  split <;> omega
theorem hx_all : ∀ (m : Nat), ∀ b ∈ hx m, isHx b := fun m => by
  induction m using Nat.strongRecOn with
  | ind m ih =>
    intro b hb
    by_cases h : m < 16
    · rw [hx_small h] at hb
      obtain rfl : b = hd m := by simpa using hb
      exact hd_is m
    · rw [hx_more h] at hb
      rcases List.mem_append.1 hb with q | q
      · exact ih (m / 16) (by omega) b q
      · obtain rfl : b = hd m := by simpa using q
        exact hd_is m
def hv1 (b : UInt8) : Nat := if b.toNat < 58 then b.toNat - 48 else b.toNat - 87
theorem hv1_hd (m : Nat) : hv1 (hd m) = m % 16 := by
  unfold hv1
  rw [hd_nat]
  split <;> split <;> omega
def hval (l : List UInt8) : Nat := l.foldl (fun a b => a * 16 + hv1 b) 0
theorem hval_hx : ∀ (m : Nat), hval (hx m) = m := fun m => by
  induction m using Nat.strongRecOn with
  | ind m ih =>
    by_cases h : m < 16
    · rw [hx_small h]
      show 0 * 16 + hv1 (hd m) = m
      rw [hv1_hd]
      omega
    · rw [hx_more h, hval, List.foldl_append]
      show hval (hx (m / 16)) * 16 + hv1 (hd m) = m
      rw [ih (m / 16) (by omega), hv1_hd]
      omega
theorem hx_cut {m n : Nat} {s t : List UInt8} (h : hx m ++ 125 :: s = hx n ++ 125 :: t) : m = n ∧ s = t := by
  have hn : ∀ (u : List UInt8), ∀ x r, (125 :: u) = x :: r → ¬ isHx x := fun u x r e => by
    simp only [List.cons.injEq] at e
    rw [← e.1]
    unfold isHx
    decide
  obtain ⟨e1, e2⟩ := cut (p := isHx) _ _ _ _ (hx_all m) (hx_all n) (hn s) (hn t) h
  exact ⟨by rw [← hval_hx m, e1, hval_hx], by simpa using e2⟩

/-! ### Code points -/
theorem valid_rune {c : Nat} (h : c < 55296 ∨ (57343 < c ∧ c ≤ 1114111)) : Utf8.valid (c : Int) = true := by
  have h2 : ((0 : Int) ≤ c ∧ (c : Int) < 55296) ∨ ((57344 : Int) ≤ c ∧ (c : Int) ≤ 1114111) := by omega
  simpa [Utf8.valid] using h2
theorem encode_eq (c : Nat) (hv : Utf8.valid (c : Int) = true) : (Utf8.encode (c : Int)).data.toList = Lib.encodeRune (c : Int) := by
  have hv2 : ((0 : Int) ≤ c ∧ (c : Int) < 55296) ∨ ((57344 : Int) ≤ c ∧ (c : Int) ≤ 1114111) := by simpa [Utf8.valid] using hv
  unfold Lib.encodeRune
  unfold Utf8.encode
  simp only [hv, if_true, Int.toNat_natCast]
  by_cases h1 : c < 128
  · rw [if_pos h1, Lib.encodeRuneZ_one (by omega) (by omega)]
    rfl
  rw [if_neg h1]
  by_cases h2 : c < 2048
  · rw [if_pos h2, Lib.encodeRuneZ_two (by omega) (by omega)]
    simp only [List.map_cons, List.map_nil]
    rw [show (192 + (c : Int) / 64).toNat = 192 + c / 64 by omega, show (128 + (c : Int) % 64).toNat = 128 + c % 64 by omega]
  rw [if_neg h2]
  by_cases h3 : c < 65536
  · rw [if_pos h3, Lib.encodeRuneZ_three (by omega)]
    simp only [List.map_cons, List.map_nil]
    rw [show (224 + (c : Int) / 4096).toNat = 224 + c / 4096 by omega, show (128 + (c : Int) / 64 % 64).toNat = 128 + c / 64 % 64 by omega, show (128 + (c : Int) % 64).toNat = 128 + c % 64 by omega]
  · rw [if_neg h3, Lib.encodeRuneZ_four (by omega) (by omega)]
    simp only [List.map_cons, List.map_nil]
    rw [show (240 + (c : Int) / 262144).toNat = 240 + c / 262144 by omega, show (128 + (c : Int) / 4096 % 64).toNat = 128 + c / 4096 % 64 by omega, show (128 + (c : Int) / 64 % 64).toNat = 128 + c / 64 % 64 by omega, show (128 + (c : Int) % 64).toNat = 128 + c % 64 by omega]
theorem enc_one {c : Nat} (hv : Utf8.valid (c : Int) = true) (h1 : c < 128) : Lib.encodeRune (c : Int) = [c.toUInt8] := by
  unfold Lib.encodeRune
  rw [Lib.encodeRuneZ_one (by omega) (by omega)]
  rfl
theorem enc_two {c : Nat} (h1 : ¬ c < 128) (h2 : c < 2048) : Lib.encodeRune (c : Int) = [(192 + c / 64).toUInt8, (128 + c % 64).toUInt8] := by
  unfold Lib.encodeRune
  rw [Lib.encodeRuneZ_two (by omega) (by omega)]
  simp only [List.map_cons, List.map_nil]
  rw [show (192 + (c : Int) / 64).toNat = 192 + c / 64 by omega, show (128 + (c : Int) % 64).toNat = 128 + c % 64 by omega]
theorem enc_three {c : Nat} (h : c < 55296 ∨ (57343 < c ∧ c ≤ 1114111)) (h2 : ¬ c < 2048) (h3 : c < 65536) : Lib.encodeRune (c : Int) = [(224 + c / 4096).toUInt8, (128 + c / 64 % 64).toUInt8, (128 + c % 64).toUInt8] := by
  unfold Lib.encodeRune
  rw [Lib.encodeRuneZ_three (by omega)]
  simp only [List.map_cons, List.map_nil]
  rw [show (224 + (c : Int) / 4096).toNat = 224 + c / 4096 by omega, show (128 + (c : Int) / 64 % 64).toNat = 128 + c / 64 % 64 by omega, show (128 + (c : Int) % 64).toNat = 128 + c % 64 by omega]
theorem enc_four {c : Nat} (h : c < 55296 ∨ (57343 < c ∧ c ≤ 1114111)) (h3 : ¬ c < 65536) : Lib.encodeRune (c : Int) = [(240 + c / 262144).toUInt8, (128 + c / 4096 % 64).toUInt8, (128 + c / 64 % 64).toUInt8, (128 + c % 64).toUInt8] := by
  unfold Lib.encodeRune
  rw [Lib.encodeRuneZ_four (by omega) (by omega)]
  simp only [List.map_cons, List.map_nil]
  rw [show (240 + (c : Int) / 262144).toNat = 240 + c / 262144 by omega, show (128 + (c : Int) / 4096 % 64).toNat = 128 + c / 4096 % 64 by omega, show (128 + (c : Int) / 64 % 64).toNat = 128 + c / 64 % 64 by omega, show (128 + (c : Int) % 64).toNat = 128 + c % 64 by omega]
theorem u8_nat {n : Nat} (h : n < 256) : n.toUInt8.toNat = n := by
  have e : n.toUInt8 = UInt8.ofNat n := rfl
  rw [e, UInt8.toNat_ofNat']
  omega
theorem enc_def (c : Int) : enc c = (Utf8.encode c).data.toList := rfl
theorem enc_enc {c : Nat} (hv : Utf8.valid (c : Int) = true) : enc (c : Int) = Lib.encodeRune (c : Int) := by
  rw [enc_def]
  exact encode_eq c hv
theorem enc_cases {c : Nat} (h : c < 55296 ∨ (57343 < c ∧ c ≤ 1114111)) :
    (c < 128 ∧ enc (c : Int) = [c.toUInt8]) ∨ (128 ≤ c ∧ c < 2048 ∧ enc (c : Int) = [(192 + c / 64).toUInt8, (128 + c % 64).toUInt8]) ∨
    (2048 ≤ c ∧ c < 65536 ∧ enc (c : Int) = [(224 + c / 4096).toUInt8, (128 + c / 64 % 64).toUInt8, (128 + c % 64).toUInt8]) ∨
    (65536 ≤ c ∧ enc (c : Int) = [(240 + c / 262144).toUInt8, (128 + c / 4096 % 64).toUInt8, (128 + c / 64 % 64).toUInt8, (128 + c % 64).toUInt8]) := by
  have hv := valid_rune h
  have e := enc_enc hv
  generalize enc (c : Int) = L at e ⊢
  subst e
  by_cases h1 : c < 128
  · exact Or.inl ⟨h1, enc_one hv h1⟩
  by_cases h2 : c < 2048
  · exact Or.inr (Or.inl ⟨by omega, h2, enc_two h1 h2⟩)
  by_cases h3 : c < 65536
  · exact Or.inr (Or.inr (Or.inl ⟨by omega, h3, enc_three h h2 h3⟩))
  · exact Or.inr (Or.inr (Or.inr ⟨by omega, enc_four h h3⟩))
theorem u8_inj {m n : Nat} (hm : m < 256) (hn : n < 256) (h : m.toUInt8 = n.toUInt8) : m = n := by rw [← u8_nat hm, h, u8_nat hn]
end Go.Proofs.YtngcahaidlgkfaaDoor.Shape

namespace Go.Proofs.YtngcahaidlgkfaaDoor.Shape
open Go.RowKit Go.Proofs.YtngcahaidlgkfaaDoor.Num
set_option linter.unusedVariables false
set_option linter.unusedSimpArgs false

def okR (c : Nat) : Prop := c < 55296 ∨ (57343 < c ∧ c ≤ 1114111)
theorem runeB_nat {c : Int} (h : runeB c = true) : ∃ n : Nat, c = (n : Int) ∧ okR n := by
  have h1 : 0 ≤ c ∧ c ≤ 1114111 ∧ (c < 55296 ∨ 57343 < c) := by simpa [runeB] using h
  refine ⟨c.toNat, by omega, ?_⟩
  unfold okR
  omega
theorem enc_head {c : Nat} (h : okR c) : ∃ b r, enc (c : Int) = b :: r ∧ ((c < 128 ∧ b.toNat = c ∧ r = []) ∨ (128 ≤ c ∧ 192 ≤ b.toNat)) := by
  rcases enc_cases h with ⟨h1, e⟩ | ⟨h1, h2, e⟩ | ⟨h1, h2, e⟩ | ⟨h1, e⟩
  · exact ⟨_, _, e, Or.inl ⟨h1, u8_nat (by omega), rfl⟩⟩
  · exact ⟨_, _, e, Or.inr ⟨h1, by rw [u8_nat (by omega)]; omega⟩⟩
  · exact ⟨_, _, e, Or.inr ⟨by omega, by rw [u8_nat (by omega)]; omega⟩⟩
  · have h4 : c ≤ 1114111 := by unfold okR at h; omega
    exact ⟨_, _, e, Or.inr ⟨by omega, by rw [u8_nat (by omega)]; omega⟩⟩
theorem enc_cut {c d : Nat} (hc : okR c) (hd : okR d) {s t : List UInt8} (h : enc (c : Int) ++ s = enc (d : Int) ++ t) : c = d ∧ s = t := by
  have c4 : c ≤ 1114111 := by unfold okR at hc; omega
  have d4 : d ≤ 1114111 := by unfold okR at hd; omega
  have key : ∀ {m n : Nat}, m < 256 → n < 256 → m.toUInt8 = n.toUInt8 → m = n := fun hm hn e => u8_inj hm hn e
  rcases enc_cases hc with ⟨h1, e⟩ | ⟨h1, h2, e⟩ | ⟨h1, h2, e⟩ | ⟨h1, e⟩ <;> rcases enc_cases hd with ⟨g1, f⟩ | ⟨g1, g2, f⟩ | ⟨g1, g2, f⟩ | ⟨g1, f⟩ <;> rw [e, f] at h <;> simp only [List.cons_append, List.nil_append, List.cons.injEq] at h
  · have := key (by omega) (by omega) h.1; exact ⟨by omega, h.2⟩
  · have := key (by omega) (by omega) h.1; omega
  · have := key (by omega) (by omega) h.1; omega
  · have := key (by omega) (by omega) h.1; omega
  · have := key (by omega) (by omega) h.1; omega
  · have a := key (by omega) (by omega) h.1
    have b := key (by omega) (by omega) h.2.1
    exact ⟨by omega, h.2.2⟩
  · have := key (by omega) (by omega) h.1; omega
  · have := key (by omega) (by omega) h.1; omega
  · have := key (by omega) (by omega) h.1; omega
  · have := key (by omega) (by omega) h.1; omega
  · have a := key (by omega) (by omega) h.1
    have b := key (by omega) (by omega) h.2.1
    have c := key (by omega) (by omega) h.2.2.1
    exact ⟨by omega, h.2.2.2⟩
  · have := key (by omega) (by omega) h.1; omega
  · have := key (by omega) (by omega) h.1; omega
  · have := key (by omega) (by omega) h.1; omega
  · have := key (by omega) (by omega) h.1; omega
  · have a := key (by omega) (by omega) h.1
    have b := key (by omega) (by omega) h.2.1
    have c := key (by omega) (by omega) h.2.2.1
    have d := key (by omega) (by omega) h.2.2.2.1
    exact ⟨by omega, h.2.2.2.2⟩
/-- The forms of a character in quotes q. -/
theorem chS_cases {c : Nat} (hc : okR c) {q : Int} (hq : q = 34 ∨ q = 39) :
    (c = 10 ∧ chS c q = [92, 110]) ∨ (c = 9 ∧ chS c q = [92, 116]) ∨ (c = 13 ∧ chS c q = [92, 114]) ∨
    (((c : Int) = 92 ∨ (c : Int) = q) ∧ ∃ b : UInt8, chS c q = [92, b] ∧ b.toNat = c) ∨
    (chS c q = [92, 117, 123] ++ hx c ++ [125]) ∨
    (chS c q = enc (c : Int) ∧ ∃ b r, enc (c : Int) = b :: r ∧ b.toNat ≠ 92 ∧ (b.toNat : Int) ≠ q) := by
  unfold chS
  by_cases h1 : (c : Int) = 10
  · rw [if_pos h1]; exact Or.inl ⟨by omega, rfl⟩
  rw [if_neg h1]
  by_cases h2 : (c : Int) = 9
  · rw [if_pos h2]; exact Or.inr (Or.inl ⟨by omega, rfl⟩)
  rw [if_neg h2]
  by_cases h3 : (c : Int) = 13
  · rw [if_pos h3]; exact Or.inr (Or.inr (Or.inl ⟨by omega, rfl⟩))
  rw [if_neg h3]
  obtain ⟨b, r, e, hb⟩ := enc_head hc
  by_cases h4 : (c : Int) = 92 ∨ (c : Int) = q
  · rw [if_pos h4]
    refine Or.inr (Or.inr (Or.inr (Or.inl ⟨h4, b, ?_⟩)))
    rcases hb with ⟨_, hb, rfl⟩ | ⟨hb, _⟩
    · exact ⟨by rw [e], hb⟩
    · rcases h4 with h4 | h4 <;> rcases hq with hq | hq <;> omega
  rw [if_neg h4]
  by_cases h5 : (c : Int) < 32 ∨ (c : Int) = 127
  · rw [if_pos h5]
    exact Or.inr (Or.inr (Or.inr (Or.inr (Or.inl (by rw [Int.toNat_natCast])))))
  rw [if_neg h5]
  refine Or.inr (Or.inr (Or.inr (Or.inr (Or.inr ⟨rfl, b, r, e, ?_⟩))))
  rcases hb with ⟨_, hb, _⟩ | ⟨_, hb⟩
  · exact ⟨by omega, by omega⟩
  · exact ⟨by omega, by rcases hq with hq | hq <;> omega⟩
theorem chS_head {c : Nat} (hc : okR c) {q : Int} (hq : q = 34 ∨ q = 39) : ∃ b r, chS c q = b :: r ∧ (b.toNat : Int) ≠ q := by
  have h92 : (((92 : UInt8).toNat : Nat) : Int) ≠ q := by rcases hq with rfl | rfl <;> decide
  rcases chS_cases hc hq with ⟨_, e⟩ | ⟨_, e⟩ | ⟨_, e⟩ | ⟨_, b, e, _⟩ | e | ⟨e, b, r, e2, _, h⟩
  · exact ⟨_, _, e, h92⟩
  · exact ⟨_, _, e, h92⟩
  · exact ⟨_, _, e, h92⟩
  · exact ⟨_, _, e, h92⟩
  · exact ⟨_, _, e, h92⟩
  · exact ⟨b, r, e.trans e2, h⟩
set_option maxRecDepth 100000 in
theorem chS_cut {c d : Nat} (hc : okR c) (hd : okR d) {q : Int} (hq : q = 34 ∨ q = 39) {s t : List UInt8} (h : chS c q ++ s = chS d q ++ t) : c = d ∧ s = t := by
  have n1 : ∀ {b : UInt8}, b.toNat ≠ 92 → b ≠ 92 := fun hb e => hb (by rw [e]; rfl)
  have sb : ∀ {x : Nat} {b : UInt8}, ((x : Int) = 92 ∨ (x : Int) = q) → b.toNat = x → b ≠ 110 ∧ b ≠ 116 ∧ b ≠ 114 ∧ b ≠ 117 := fun hx hb => by
    have h1 : ∀ {k : UInt8}, k.toNat ≠ 92 → k.toNat ≠ 34 → k.toNat ≠ 39 → ∀ {b : UInt8}, b.toNat = 92 ∨ b.toNat = 34 ∨ b.toNat = 39 → b ≠ k := fun k1 k2 k3 b hb e => by subst e; omega
    have h2 := hb
    rcases hx with hx | hx <;> rcases hq with hq | hq <;> exact ⟨h1 (by decide) (by decide) (by decide) (by omega), h1 (by decide) (by decide) (by decide) (by omega), h1 (by decide) (by decide) (by decide) (by omega), h1 (by decide) (by decide) (by decide) (by omega)⟩
  rcases chS_cases hc hq with ⟨p, e⟩ | ⟨p, e⟩ | ⟨p, e⟩ | ⟨p, b, e, pb⟩ | e | ⟨e, b, r, e2, p1, p2⟩ <;> rcases chS_cases hd hq with ⟨p', f⟩ | ⟨p', f⟩ | ⟨p', f⟩ | ⟨p', b', f, pb'⟩ | f | ⟨f, b', r', f2, p1', p2'⟩
  all_goals first
    | (rw [e, f] at h
       simp only [List.cons_append, List.nil_append, List.append_assoc, List.cons.injEq, true_and] at h
       first
         | (with_reducible exact ⟨by omega, h⟩)
         | exact absurd h.1 (by decide)
         | exact absurd h.1.symm (sb p' pb').1
         | exact absurd h.1.symm (sb p' pb').2.1
         | exact absurd h.1.symm (sb p' pb').2.2.1
         | exact absurd h.1.symm (sb p' pb').2.2.2
         | exact absurd h.1 (sb p pb).1
         | exact absurd h.1 (sb p pb).2.1
         | exact absurd h.1 (sb p pb).2.2.1
         | exact absurd h.1 (sb p pb).2.2.2
         | exact ⟨by rw [← pb, ← pb', h.1], h.2⟩
         | (with_reducible exact hx_cut h))
    | (rw [e, f, f2] at h
       simp only [List.cons_append, List.nil_append, List.append_assoc, List.cons.injEq] at h
       exact absurd h.1.symm (n1 p1'))
    | (rw [e, f, e2] at h
       simp only [List.cons_append, List.nil_append, List.append_assoc, List.cons.injEq] at h
       exact absurd h.1 (n1 p1))
    | (rw [e, f] at h
       exact enc_cut hc hd h)
/-- A string literal's characters and its closing quote. -/
theorem quo_cut : ∀ (l m : List Int), (∀ c ∈ l, runeB c = true) → (∀ c ∈ m, runeB c = true) → ∀ {s t : List UInt8}, (l.map fun c => chS c 34).flatten ++ 34 :: s = (m.map fun c => chS c 34).flatten ++ 34 :: t → l = m ∧ s = t
  | [], [], _, _, s, t, h => ⟨rfl, by simpa using h⟩
  | [], d :: m, _, hm, s, t, h => by
    obtain ⟨n, rfl, hn⟩ := runeB_nat (hm d (by simp))
    obtain ⟨b, r, e, hb⟩ := chS_head hn (q := 34) (Or.inl rfl)
    rw [List.map_cons, List.flatten_cons, e] at h
    simp only [List.map_nil, List.flatten_nil, List.nil_append, List.cons_append, List.cons.injEq] at h
    rw [← h.1] at hb
    exact absurd (by decide) hb
  | c :: l, [], hl, _, s, t, h => by
    obtain ⟨n, rfl, hn⟩ := runeB_nat (hl c (by simp))
    obtain ⟨b, r, e, hb⟩ := chS_head hn (q := 34) (Or.inl rfl)
    rw [List.map_cons, List.flatten_cons, e] at h
    simp only [List.map_nil, List.flatten_nil, List.nil_append, List.cons_append, List.cons.injEq] at h
    rw [h.1] at hb
    exact absurd (by decide) hb
  | c :: l, d :: m, hl, hm, s, t, h => by
    obtain ⟨n, rfl, hn⟩ := runeB_nat (hl c (by simp))
    obtain ⟨k, rfl, hk⟩ := runeB_nat (hm d (by simp))
    rw [List.map_cons, List.flatten_cons, List.map_cons, List.flatten_cons, List.append_assoc, List.append_assoc] at h
    obtain ⟨e1, e2⟩ := chS_cut hn hk (Or.inl rfl) h
    obtain ⟨e3, e4⟩ := quo_cut l m (fun c hc => hl c (by simp [hc])) (fun c hc => hm c (by simp [hc])) e2
    exact ⟨by rw [e1, e3], e4⟩
end Go.Proofs.YtngcahaidlgkfaaDoor.Shape

namespace Go.Proofs.YtngcahaidlgkfaaDoor.Shape
open Go.RowKit Go.Proofs.YtngcahaidlgkfaaDoor.Num
set_option linter.unusedVariables false
set_option linter.unusedSimpArgs false

/-- What may follow a literal: nothing, or a closing parenthesis. -/
def Term (s : List UInt8) : Prop := s = [] ∨ ∃ r, s = 41 :: r
theorem Term.nl {s : List UInt8} (h : Term s) : NL s := by
  rcases h with rfl | ⟨r, rfl⟩
  · exact ⟨(fun x r e => by cases e), (fun b r e => by cases e)⟩
  · refine ⟨fun x q e => ?_, fun b q e => ?_⟩
    · simp only [List.cons.injEq] at e
      rw [← e.1]
      unfold isDg
      decide
    · simp only [List.cons.injEq] at e
      exact absurd e.1 (by decide)
theorem res_nl (r : List UInt8) : NL (reS ++ r) := by
  refine ⟨fun x q e => ?_, fun b q e => ?_⟩
  · simp only [reS, List.cons_append, List.cons.injEq] at e
    rw [← e.1]
    unfold isDg
    decide
  · simp only [reS, List.cons_append, List.cons.injEq] at e
    rw [← e.2.1]
    unfold isDg
    decide
theorem Term.not_res {s : List UInt8} (h : Term s) (r : List UInt8) : s ≠ reS ++ r := fun e => by
  rcases h with rfl | ⟨q, rfl⟩
  · cases e
  · simp only [reS, List.cons_append, List.cons.injEq] at e
    exact absurd e.1 (by decide)
def bxL (A : Arr) : List UInt8 := 40 :: 98 :: 111 :: 120 :: 32 :: (litS A ++ [41])
theorem boxes_map : ∀ (it : List Arr), ((litsS it).map fun t => 40 :: (t ++ [41])) = it.map bxL
  | [] => by rw [litsS]; rfl
  | A :: r => by rw [litsS, List.map_cons, List.map_cons, boxes_map r]; rfl
/-- The main claim at one array. -/
def Apart (A : Arr) : Prop := ∀ B, rightE B = 0 → ∀ s t, Term s → Term t → litS A ++ s = litS B ++ t → A = B ∧ s = t
theorem btail_cut : ∀ (l m : List Arr), (∀ A ∈ l, Apart A) → (∀ B ∈ m, rightE B = 0) → ∀ {s t : List UInt8}, Term s → Term t → ((l.map bxL).map fun y => 32 :: y).flatten ++ s = ((m.map bxL).map fun y => 32 :: y).flatten ++ t → l = m ∧ s = t
  | [], [], _, _, s, t, _, _, h => ⟨rfl, by simpa using h⟩
  | [], B :: m, _, _, s, t, hs, _, h => by
    exfalso
    simp only [List.map_nil, List.flatten_nil, List.nil_append, List.map_cons, List.flatten_cons, List.cons_append] at h
    rcases hs with rfl | ⟨r, rfl⟩
    · cases h
    · simp only [List.cons.injEq] at h
      exact absurd h.1 (by decide)
  | A :: l, [], _, _, s, t, _, ht, h => by
    exfalso
    simp only [List.map_nil, List.flatten_nil, List.nil_append, List.map_cons, List.flatten_cons, List.cons_append] at h
    rcases ht with rfl | ⟨r, rfl⟩
    · cases h
    · simp only [List.cons.injEq] at h
      exact absurd h.1 (by decide)
  | A :: l, B :: m, hl, hm, s, t, hs, ht, h => by
    simp only [List.map_cons, List.flatten_cons, List.cons_append, List.cons.injEq, true_and, bxL, List.append_assoc] at h
    obtain ⟨rfl, e⟩ := hl A (by simp) B (hm B (by simp)) _ _ (Or.inr ⟨_, rfl⟩) (Or.inr ⟨_, rfl⟩) h
    simp only [List.cons.injEq, true_and, List.nil_append] at e
    obtain ⟨e1, e2⟩ := btail_cut l m (fun A hA => hl A (by simp [hA])) (fun B hB => hm B (by simp [hB])) hs ht (by simpa [bxL] using e)
    exact ⟨by rw [e1], e2⟩
theorem boxes_cut {l m : List Arr} (hl0 : l ≠ []) (hm0 : m ≠ []) (hl : ∀ A ∈ l, Apart A) (hm : ∀ B ∈ m, rightE B = 0) {s t : List UInt8} (hs : Term s) (ht : Term t) (h : blankS (l.map bxL) ++ s = blankS (m.map bxL) ++ t) : l = m ∧ s = t := by
  cases l with
  | nil => exact absurd rfl hl0
  | cons A l =>
    cases m with
    | nil => exact absurd rfl hm0
    | cons B m =>
      rw [List.map_cons, List.map_cons, blankS, blankS] at h
      simp only [bxL, List.append_assoc, List.cons_append, List.cons.injEq, true_and, List.nil_append] at h
      obtain ⟨rfl, e⟩ := hl A (by simp) B (hm B (by simp)) _ _ (Or.inr ⟨_, rfl⟩) (Or.inr ⟨_, rfl⟩) h
      simp only [List.cons.injEq, true_and] at e
      obtain ⟨e1, e2⟩ := btail_cut l m (fun A hA => hl A (by simp [hA])) (fun B hB => hm B (by simp [hB])) hs ht (by simpa [bxL] using e)
      exact ⟨by rw [e1], e2⟩
/-- The elements' text: of one element, or of more. -/
def cont (A : Arr) : List UInt8 := if (elsT A).length = 1 then (elsT A).headD [] else vecS A.kind A.nums (elsT A)
theorem blank_jn (nu : List Int) : blankS (nu.map shL) = jn nu := by rw [jn_blank]
/-- The forms of the elements' text. -/
theorem cont_num {sh nu : List Int} {it : List Arr} (hn : nu ≠ []) : cont (.mk 1 sh nu it) = jn nu := by
  have e : elsT (.mk 1 sh nu it) = nu.map shL := by simp [elsT, Arr.kind, Arr.nums]
  unfold cont
  rw [e]
  split
  · rename_i h
    rw [List.length_map] at h
    match nu, h with
    | [x], _ => simp [jn, jn.jt]
  · simp [vecS, Arr.kind, Arr.nums, blank_jn]
theorem cont_chr1 {sh : List Int} {x : Int} {it : List Arr} : cont (.mk 2 sh [x] it) = 39 :: (chS x 39 ++ [39]) := by
  simp [cont, elsT, Arr.kind, Arr.nums]
theorem cont_chr {sh nu : List Int} {it : List Arr} (h : nu.length ≠ 1) : cont (.mk 2 sh nu it) = quoS nu := by
  have e : elsT (.mk 2 sh nu it) = nu.map fun x => 39 :: (chS x 39 ++ [39]) := by simp [elsT, Arr.kind, Arr.nums]
  unfold cont
  rw [e, if_neg (by rw [List.length_map]; exact h)]
  simp [vecS, Arr.kind, Arr.nums]
theorem cont_box1 {sh nu : List Int} {A : Arr} : cont (.mk 3 sh nu [A]) = 98 :: 111 :: 120 :: 32 :: litS A := by
  simp [cont, elsT, Arr.kind, Arr.items, litsS]
theorem cont_box {sh nu : List Int} {it : List Arr} (h : it.length ≠ 1) : cont (.mk 3 sh nu it) = blankS (it.map bxL) := by
  have e : elsT (.mk 3 sh nu it) = litsS it := by simp [elsT, Arr.kind, Arr.items]
  unfold cont
  rw [e, if_neg (by rw [litsS_len]; exact h)]
  simp [vecS, Arr.kind, Arr.nums, boxes_map]
/-- How the elements' text begins. -/
inductive Hd : Int → Nat → UInt8 → Prop
  | num (n : Nat) (b : UInt8) : isDg b ∨ b = 95 → Hd 1 n b
  | chr1 : Hd 2 1 39
  | chr (n : Nat) : n ≠ 1 → Hd 2 n 34
  | box1 : Hd 3 1 98
  | box (n : Nat) : n ≠ 1 → Hd 3 n 40
theorem jn_head {nu : List Int} (h : nu ≠ []) : ∃ b r, jn nu = b :: r ∧ (isDg b ∨ b = 95) := by
  cases nu with
  | nil => exact absurd rfl h
  | cons x r =>
    obtain ⟨b, q, e, hb⟩ := shL_head x
    exact ⟨b, q ++ jn.jt r, by rw [jn, e]; rfl, hb⟩
theorem cont_head {k : Int} {sh nu : List Int} {it : List Arr} (V : Val k sh nu it) (hn : 1 ≤ aSize (.mk k sh nu it)) : ∃ b r, cont (.mk k sh nu it) = b :: r ∧ Hd k (aSize (.mk k sh nu it)) b := by
  rcases (by have := V.kind; omega : k = 1 ∨ k = 2 ∨ k = 3) with rfl | rfl | rfl
  · have hs : aSize (.mk 1 sh nu it) = nu.length := size12 (by simp [Arr.kind]) (by simp [Arr.kind])
    have h0 : nu ≠ [] := fun e => by rw [hs, e] at hn; simp at hn
    obtain ⟨b, r, e, hb⟩ := jn_head h0
    exact ⟨b, r, (cont_num h0).trans e, .num _ _ hb⟩
  · have hs : aSize (.mk 2 sh nu it) = nu.length := size12 (by simp [Arr.kind]) (by simp [Arr.kind])
    by_cases h1 : nu.length = 1
    · match nu, h1 with
      | [x], _ => exact ⟨_, _, cont_chr1, by rw [hs]; exact .chr1⟩
    · exact ⟨_, _, cont_chr h1, by rw [hs]; exact .chr _ h1⟩
  · have hs : aSize (.mk 3 sh nu it) = it.length := size3 rfl
    by_cases h1 : it.length = 1
    · match it, h1 with
      | [A], _ => exact ⟨_, _, cont_box1, by rw [hs]; exact .box1⟩
    · rw [cont_box h1]
      cases it with
      | nil => rw [hs] at hn; simp at hn
      | cons A r => exact ⟨40, _, by rw [List.map_cons, blankS, bxL]; rfl, by rw [hs]; exact .box _ h1⟩
theorem Hd.not_dg {k : Int} {n : Nat} {b : UInt8} (h : Hd k n b) (hk : k ≠ 1) : ¬ (isDg b ∨ b = 95) := by
  cases h with
  | num => exact absurd rfl hk
  | chr1 => unfold isDg; decide
  | chr => unfold isDg; decide
  | box1 => unfold isDg; decide
  | box => unfold isDg; decide
theorem Hd.kind {k k' : Int} {n n' : Nat} {b : UInt8} (h : Hd k n b) (h' : Hd k' n' b) : k = k' := by
  cases h with
  | num _ _ hb => exact (Classical.byContradiction fun q => h'.not_dg (fun e => q e.symm) hb)
  | chr1 => cases h' with
    | num _ _ hb => exact absurd hb (by unfold isDg; decide)
    | chr1 => rfl
  | chr => cases h' with
    | num _ _ hb => exact absurd hb (by unfold isDg; decide)
    | chr => rfl
  | box1 => cases h' with
    | num _ _ hb => exact absurd hb (by unfold isDg; decide)
    | box1 => rfl
  | box => cases h' with
    | num _ _ hb => exact absurd hb (by unfold isDg; decide)
    | box => rfl
theorem Hd.one {n n' : Nat} {k : Int} {b : UInt8} (h : Hd k n b) (h' : Hd k n' b) (hk : k ≠ 1) : n = 1 ↔ n' = 1 := by
  cases h with
  | num => exact absurd rfl hk
  | chr1 => cases h'; exact Iff.rfl
  | chr _ q => cases h' with | chr _ q' => exact ⟨fun e => absurd e q, fun e => absurd e q'⟩
  | box1 => cases h'; exact Iff.rfl
  | box _ q => cases h' with | box _ q' => exact ⟨fun e => absurd e q, fun e => absurd e q'⟩
/-- Two texts of elements, both of one or both of more. -/
theorem cont_cut {k k' : Int} {sh nu sh' nu' : List Int} {it it' : List Arr} (V : Val k sh nu it) (V' : Val k' sh' nu' it') (hn : 1 ≤ aSize (.mk k sh nu it)) (hn' : 1 ≤ aSize (.mk k' sh' nu' it')) (hit : ∀ A ∈ it, Apart A) {s t : List UInt8} (hs : Term s) (ht : Term t)
    (h : cont (.mk k sh nu it) ++ s = cont (.mk k' sh' nu' it') ++ t) : k = k' ∧ nu = nu' ∧ it = it' ∧ s = t := by
  obtain ⟨b, r, e, hb⟩ := cont_head V hn
  obtain ⟨b', r', e', hb'⟩ := cont_head V' hn'
  obtain rfl : b = b' := by
    rw [e, e'] at h
    simp only [List.cons_append, List.cons.injEq] at h
    exact h.1
  obtain rfl := hb.kind hb'
  refine ⟨rfl, ?_⟩
  rcases (by have := V.kind; omega : k = 1 ∨ k = 2 ∨ k = 3) with rfl | rfl | rfl
  · have q : ∀ {sh nu : List Int} {it : List Arr}, 1 ≤ aSize (.mk 1 sh nu it) → nu ≠ [] := fun h1 e => by
      rw [size12 (by simp [Arr.kind]) (by simp [Arr.kind])] at h1
      simp only [Arr.nums] at h1
      rw [e] at h1
      simp at h1
    rw [cont_num (q hn), cont_num (q hn')] at h
    obtain ⟨e1, e2⟩ := jn_cut (q hn) (q hn') hs.nl ht.nl h
    exact ⟨e1, by rw [V.plain (by decide), V'.plain (by decide)], e2⟩
  · have hs1 : aSize (.mk 2 sh nu it) = nu.length := size12 (by simp [Arr.kind]) (by simp [Arr.kind])
    have hs2 : aSize (.mk 2 sh' nu' it') = nu'.length := size12 (by simp [Arr.kind]) (by simp [Arr.kind])
    have hone := hb.one hb' (by decide)
    rw [hs1, hs2] at hone
    have r1 : ∀ c ∈ nu, runeB c = true := fun c hc => by simpa [elemB] using V.elems c hc
    have r2 : ∀ c ∈ nu', runeB c = true := fun c hc => by simpa [elemB] using V'.elems c hc
    have hit0 : it = it' := by rw [V.plain (by decide), V'.plain (by decide)]
    by_cases h1 : nu.length = 1
    · have h2 := hone.1 h1
      match nu, nu', h1, h2 with
      | [x], [y], _, _ =>
        rw [cont_chr1, cont_chr1] at h
        obtain ⟨n, rfl, hnx⟩ := runeB_nat (r1 x (by simp))
        obtain ⟨m, rfl, hmx⟩ := runeB_nat (r2 y (by simp))
        simp only [List.cons_append, List.cons.injEq, true_and, List.append_assoc] at h
        obtain ⟨e1, e2⟩ := chS_cut hnx hmx (Or.inr rfl) h
        simp only [List.cons.injEq, true_and, List.nil_append] at e2
        exact ⟨by rw [e1], hit0, e2⟩
    · have h2 : nu'.length ≠ 1 := fun e => h1 (hone.2 e)
      rw [cont_chr h1, cont_chr h2, quoS, quoS] at h
      simp only [List.cons_append, List.cons.injEq, true_and, List.append_assoc, List.nil_append] at h
      obtain ⟨e1, e2⟩ := quo_cut nu nu' r1 r2 h
      exact ⟨e1, hit0, e2⟩
  · have hs1 : aSize (.mk 3 sh nu it) = it.length := size3 rfl
    have hs2 : aSize (.mk 3 sh' nu' it') = it'.length := size3 rfl
    have hone := hb.one hb' (by decide)
    rw [hs1, hs2] at hone
    rw [hs1] at hn
    rw [hs2] at hn'
    have hnu : nu = nu' := by rw [V.boxed rfl, V'.boxed rfl]
    have hv : ∀ B ∈ it', rightE B = 0 := fun B hB => by
      obtain ⟨j, hj, rfl⟩ := List.getElem_of_mem hB
      exact V'.items j hj
    by_cases h1 : it.length = 1
    · have h2 := hone.1 h1
      match it, it', h1, h2 with
      | [A], [B], _, _ =>
        rw [cont_box1, cont_box1] at h
        simp only [List.cons_append, List.cons.injEq, true_and] at h
        obtain ⟨rfl, e2⟩ := hit A (by simp) B (hv B (by simp)) _ _ hs ht h
        exact ⟨hnu, rfl, e2⟩
    · have h2 : it'.length ≠ 1 := fun e => h1 (hone.2 e)
      rw [cont_box h1, cont_box h2] at h
      have q : ∀ {l : List Arr}, 1 ≤ l.length → l ≠ [] := fun h1 e => by rw [e] at h1; simp at h1
      obtain ⟨e1, e2⟩ := boxes_cut (q hn) (q hn') hit hv hs ht h
      exact ⟨hnu, e1, e2⟩
/-- The four forms of a valid array's literal. -/
theorem lit_forms {k : Int} {sh nu : List Int} {it : List Arr} (V : Val k sh nu it) :
    (sh = [] ∧ aSize (.mk k sh nu it) = 1 ∧ litS (.mk k sh nu it) = cont (.mk k sh nu it)) ∨
    (sh.length = 1 ∧ k ≠ 2 ∧ 2 ≤ aSize (.mk k sh nu it) ∧ litS (.mk k sh nu it) = cont (.mk k sh nu it)) ∨
    (sh.length = 1 ∧ k = 2 ∧ litS (.mk k sh nu it) = quoS nu) ∨
    (sh ≠ [] ∧ ¬ (sh.length = 1 ∧ (k = 2 ∨ 2 ≤ aSize (.mk k sh nu it))) ∧ litS (.mk k sh nu it) = jn sh ++ (reS ++ if aSize (.mk k sh nu it) = 0 then fillT k else cont (.mk k sh nu it))) := by
  have hl := els_len (A := .mk k sh nu it) V.kind
  have hlit := litS_els (.mk k sh nu it)
  simp only [Arr.kind, Arr.shape, Arr.nums] at hlit
  have hsz := V.size
  unfold litT at hlit
  by_cases h0 : sh.length = 0
  · have e : sh = [] := List.eq_nil_of_length_eq_zero h0
    rw [if_pos h0] at hlit
    have h1 : aSize (.mk k sh nu it) = 1 := by
      rw [e, pr] at hsz
      rw [e]
      omega
    exact Or.inl ⟨e, h1, by rw [hlit, cont, if_pos (by rw [hl, h1])]⟩
  rw [if_neg h0] at hlit
  by_cases h1 : sh.length = 1 ∧ (k = 2 ∨ 2 ≤ (elsT (.mk k sh nu it)).length)
  · rw [if_pos h1] at hlit
    by_cases h2 : k = 2
    · exact Or.inr (Or.inr (Or.inl ⟨h1.1, h2, by rw [hlit, vecS, if_pos h2]⟩))
    · rcases h1.2 with q | q
      · exact absurd q h2
      · exact Or.inr (Or.inl ⟨h1.1, h2, by rw [← hl]; exact q, by rw [hlit, cont, if_neg (by omega)]; rfl⟩)
  · rw [if_neg h1] at hlit
    refine Or.inr (Or.inr (Or.inr ⟨fun e => h0 (by rw [e]; rfl), by rw [← hl]; exact h1, ?_⟩))
    rw [hlit, List.append_assoc, ← hl]
    congr 2
theorem fill_head {k : Int} (hk : 1 ≤ k ∧ k ≤ 3) : ∀ {k' : Int}, 1 ≤ k' ∧ k' ≤ 3 → ∀ {s t : List UInt8}, fillT k ++ s = fillT k' ++ t → k = k' ∧ s = t := fun {k'} hk' {s t} h => by
  rcases (by omega : k = 1 ∨ k = 2 ∨ k = 3) with rfl | rfl | rfl <;> rcases (by omega : k' = 1 ∨ k' = 2 ∨ k' = 3) with rfl | rfl | rfl <;> simp [fillT] at h <;> first | exact ⟨rfl, h⟩ | exact absurd h (by simp)
theorem one_dim {sh sh' : List Int} (h : sh.length = 1) (h' : sh'.length = 1) (e : pr sh = pr sh') : sh = sh' := by
  match sh, sh', h, h' with
  | [x], [y], _, _ => simpa [pr] using e
end Go.Proofs.YtngcahaidlgkfaaDoor.Shape

namespace Go.Proofs.YtngcahaidlgkfaaDoor.Shape
open Go.RowKit Go.Proofs.YtngcahaidlgkfaaDoor.Num
set_option linter.unusedVariables false
set_option linter.unusedSimpArgs false

theorem size_zero {k : Int} {sh nu : List Int} {it : List Arr} (V : Val k sh nu it) (h : aSize (.mk k sh nu it) = 0) : nu = [] ∧ it = [] := by
  by_cases h3 : k = 3
  · subst h3
    rw [size3 rfl] at h
    exact ⟨V.boxed rfl, List.eq_nil_of_length_eq_zero h⟩
  · rw [size12 (A := .mk k sh nu it) h3 V.kind] at h
    exact ⟨List.eq_nil_of_length_eq_zero h, V.plain h3⟩
theorem size_of {k : Int} {sh sh' nu : List Int} {it : List Arr} : aSize (.mk k sh nu it) = aSize (.mk k sh' nu it) := rfl
theorem apart_step {k : Int} {sh nu : List Int} {it : List Arr} (hA : rightE (.mk k sh nu it) = 0) (hit : ∀ A ∈ it, Apart A) : Apart (.mk k sh nu it) := by
  rintro ⟨k', sh', nu', it'⟩ hB s t hs ht h
  have V := val_of hA
  have V' := val_of hB
  have nn := (dims_parts V.dims).2.1
  have nn' := (dims_parts V'.dims).2.1
  -- how the texts begin
  have hdC : ∀ {k : Int} {sh nu : List Int} {it : List Arr}, Val k sh nu it → 1 ≤ aSize (.mk k sh nu it) → litS (.mk k sh nu it) = cont (.mk k sh nu it) → ∃ b r, litS (.mk k sh nu it) = b :: r ∧ Hd k (aSize (.mk k sh nu it)) b := fun V hn e => by
    obtain ⟨b, r, e2, hb⟩ := cont_head V hn
    exact ⟨b, r, e.trans e2, hb⟩
  have hdR : ∀ {sh : List Int} {X : List UInt8}, sh ≠ [] → ∃ b r, jn sh ++ X = b :: r ∧ (isDg b ∨ b = 95) := fun {sh X} h0 => by
    obtain ⟨b, r, e, hb⟩ := jn_head h0
    exact ⟨b, r ++ X, by rw [e]; rfl, hb⟩
  have hx : ∀ {L M : List UInt8} {b b' : UInt8} {r r' : List UInt8}, L = b :: r → M = b' :: r' → L ++ s = M ++ t → b = b' := fun e1 e2 e => by
    rw [e1, e2] at e
    simp only [List.cons_append, List.cons.injEq] at e
    exact e.1
  have q34 : ¬ (isDg (34 : UInt8) ∨ (34 : UInt8) = 95) := by unfold isDg; decide
  have h34 : ∀ {k : Int} {n : Nat}, Hd k n 34 → k = 2 ∧ n ≠ 1 := fun hb => by
    cases hb with
    | num _ _ hb => exact absurd hb q34
    | chr _ q => exact ⟨rfl, q⟩
  have quoH : ∀ (nu : List Int), quoS nu = 34 :: ((nu.map fun c => chS c 34).flatten ++ [34]) := fun _ => rfl
  have num1 : ∀ {k : Int} {n : Nat} {b : UInt8}, Hd k n b → (isDg b ∨ b = 95) → k = 1 := fun hb hd => Classical.byContradiction fun q => hb.not_dg q hd
  have nu0 : ∀ {sh nu : List Int} {it : List Arr}, 1 ≤ aSize (.mk 1 sh nu it) → nu ≠ [] ∧ aSize (.mk 1 sh nu it) = nu.length := fun {sh nu it} h1 => by
    have e := size12 (A := .mk 1 sh nu it) (by simp [Arr.kind]) (by simp [Arr.kind])
    exact ⟨fun q => by rw [e] at h1; simp only [Arr.nums] at h1; rw [q] at h1; simp at h1, e⟩
  rcases lit_forms V with ⟨a1, a2, a3⟩ | ⟨a1, a2, a3, a4⟩ | ⟨a1, a2, a3⟩ | ⟨a1, a2, a3⟩ <;> rcases lit_forms V' with ⟨c1, c2, c3⟩ | ⟨c1, c2, c3, c4⟩ | ⟨c1, c2, c3⟩ | ⟨c1, c2, c3⟩
  -- a scalar ..
  · rw [a3, c3] at h
    obtain ⟨rfl, rfl, rfl, e⟩ := cont_cut V V' (by omega) (by omega) hit hs ht h
    exact ⟨by rw [a1, c1], e⟩
  · rw [a3, c4] at h
    obtain ⟨rfl, rfl, rfl, e⟩ := cont_cut V V' (by omega) (by omega) hit hs ht h
    have : aSize (.mk k sh nu it) = aSize (.mk k sh' nu it) := rfl
    omega
  · obtain ⟨b, r, e, hb⟩ := hdC V (by omega) a3
    have := hx e (c3.trans (quoH _)) h
    subst this
    exact absurd a2 (h34 hb).2
  · obtain ⟨b, r, e, hb⟩ := hdC V (by omega) a3
    obtain ⟨b', r', e', hb'⟩ := hdR (X := reS ++ if aSize (.mk k' sh' nu' it') = 0 then fillT k' else cont (.mk k' sh' nu' it')) c1
    have := hx e (c3.trans e') h
    subst this
    obtain rfl := num1 hb hb'
    have q0 := (nu0 (sh := sh) (nu := nu) (it := it) (by omega)).1
    rw [a3, cont_num q0, c3, List.append_assoc, List.append_assoc] at h
    exact absurd (jn_cut q0 c1 hs.nl (res_nl _) h).2 (hs.not_res _)
  -- a vector ..
  · rw [a4, c3] at h
    obtain ⟨rfl, rfl, rfl, e⟩ := cont_cut V V' (by omega) (by omega) hit hs ht h
    have : aSize (.mk k sh nu it) = aSize (.mk k sh' nu it) := rfl
    omega
  · rw [a4, c4] at h
    obtain ⟨rfl, rfl, rfl, e⟩ := cont_cut V V' (by omega) (by omega) hit hs ht h
    have e2 : sh = sh' := one_dim a1 c1 (by rw [← V.size, ← V'.size]; rfl)
    exact ⟨by rw [e2], e⟩
  · obtain ⟨b, r, e, hb⟩ := hdC V (by omega) a4
    have := hx e (c3.trans (quoH _)) h
    subst this
    exact absurd (h34 hb).1 a2
  · obtain ⟨b, r, e, hb⟩ := hdC V (by omega) a4
    obtain ⟨b', r', e', hb'⟩ := hdR (X := reS ++ if aSize (.mk k' sh' nu' it') = 0 then fillT k' else cont (.mk k' sh' nu' it')) c1
    have := hx e (c3.trans e') h
    subst this
    obtain rfl := num1 hb hb'
    have q0 := (nu0 (sh := sh) (nu := nu) (it := it) (by omega)).1
    rw [a4, cont_num q0, c3, List.append_assoc, List.append_assoc] at h
    exact absurd (jn_cut q0 c1 hs.nl (res_nl _) h).2 (hs.not_res _)
  -- a string ..
  · obtain ⟨b, r, e, hb⟩ := hdC V' (by omega) c3
    have := hx (a3.trans (quoH _)) e h
    subst this
    exact absurd c2 (h34 hb).2
  · obtain ⟨b, r, e, hb⟩ := hdC V' (by omega) c4
    have := hx (a3.trans (quoH _)) e h
    subst this
    exact absurd (h34 hb).1 c2
  · rw [a3, c3, quoS, quoS] at h
    simp only [List.cons_append, List.cons.injEq, true_and, List.append_assoc, List.nil_append] at h
    subst a2 c2
    obtain ⟨e1, e2⟩ := quo_cut nu nu' (fun c hc => by simpa [elemB] using V.elems c hc) (fun c hc => by simpa [elemB] using V'.elems c hc) h
    subst e1
    have e3 : it = it' := by rw [V.plain (by decide), V'.plain (by decide)]
    subst e3
    have e2' : sh = sh' := one_dim a1 c1 (by rw [← V.size, ← V'.size]; rfl)
    exact ⟨by rw [e2'], e2⟩
  · obtain ⟨b', r', e', hb'⟩ := hdR (X := reS ++ if aSize (.mk k' sh' nu' it') = 0 then fillT k' else cont (.mk k' sh' nu' it')) c1
    have := hx (a3.trans (quoH _)) (c3.trans e') h
    subst this
    exact absurd hb' q34
  -- any other ..
  · obtain ⟨b, r, e, hb⟩ := hdC V' (by omega) c3
    obtain ⟨b', r', e', hb'⟩ := hdR (X := reS ++ if aSize (.mk k sh nu it) = 0 then fillT k else cont (.mk k sh nu it)) a1
    have := hx (a3.trans e') e h
    subst this
    obtain rfl := num1 hb hb'
    have q0 := (nu0 (sh := sh') (nu := nu') (it := it') (by omega)).1
    rw [c3, cont_num q0, a3, List.append_assoc, List.append_assoc] at h
    exact absurd (jn_cut a1 q0 (res_nl _) ht.nl h).2.symm (ht.not_res _)
  · obtain ⟨b, r, e, hb⟩ := hdC V' (by omega) c4
    obtain ⟨b', r', e', hb'⟩ := hdR (X := reS ++ if aSize (.mk k sh nu it) = 0 then fillT k else cont (.mk k sh nu it)) a1
    have := hx (a3.trans e') e h
    subst this
    obtain rfl := num1 hb hb'
    have q0 := (nu0 (sh := sh') (nu := nu') (it := it') (by omega)).1
    rw [c4, cont_num q0, a3, List.append_assoc, List.append_assoc] at h
    exact absurd (jn_cut a1 q0 (res_nl _) ht.nl h).2.symm (ht.not_res _)
  · obtain ⟨b', r', e', hb'⟩ := hdR (X := reS ++ if aSize (.mk k sh nu it) = 0 then fillT k else cont (.mk k sh nu it)) a1
    have := hx (a3.trans e') (c3.trans (quoH _)) h
    subst this
    exact absurd hb' q34
  · rw [a3, c3, List.append_assoc, List.append_assoc, List.append_assoc, List.append_assoc] at h
    obtain ⟨rfl, e⟩ := jn_cut a1 c1 (res_nl _) (res_nl _) h
    have e2 := List.append_cancel_left e
    have hn : (aSize (.mk k sh nu it) : Int) = (aSize (.mk k' sh nu' it') : Int) := by rw [V.size, V'.size]
    by_cases h0 : aSize (.mk k sh nu it) = 0
    · have h0' : aSize (.mk k' sh nu' it') = 0 := by omega
      rw [if_pos h0, if_pos h0'] at e2
      obtain ⟨rfl, e3⟩ := fill_head V.kind V'.kind e2
      obtain ⟨rfl, rfl⟩ := size_zero V h0
      obtain ⟨rfl, rfl⟩ := size_zero V' h0'
      exact ⟨rfl, e3⟩
    · have h0' : ¬ aSize (.mk k' sh nu' it') = 0 := by omega
      rw [if_neg h0, if_neg h0'] at e2
      obtain ⟨rfl, rfl, rfl, e3⟩ := cont_cut V V' (by omega) (by omega) hit hs ht e2
      exact ⟨rfl, e3⟩
theorem apart_all : ∀ (n : Nat) (A : Arr), rk A ≤ n → rightE A = 0 → Apart A := fun n => by
  induction n with
  | zero => rintro ⟨k, sh, nu, it⟩ h _; rw [rk] at h; omega
  | succ n ih =>
    rintro ⟨k, sh, nu, it⟩ h hA
    refine apart_step hA fun A hA' => ?_
    obtain ⟨j, hj, rfl⟩ := List.getElem_of_mem hA'
    exact ih _ (by have := rk_item (k := k) (sh := sh) (nu := nu) hj; omega) ((val_of hA).items j hj)
theorem lit_inj {A B : Arr} (hA : rightE A = 0) (hB : rightE B = 0) (h : litA A = litA B) : A = B := by
  rw [litA, litA, if_pos hA, if_pos hB] at h
  exact (apart_all _ A (Nat.le_refl _) hA B hB [] [] (Or.inl rfl) (Or.inl rfl) (by rw [h])).1
mutual
theorem eqA_eq : ∀ (A B : Arr), eqA A B = true → A = B
  | .mk k sh nu it, .mk k2 sh2 nu2 it2, h => by
    rw [eqA] at h
    simp only [Bool.and_eq_true, beq_iff_eq, sameB, decide_eq_true_eq] at h
    obtain ⟨⟨⟨rfl, rfl⟩, rfl⟩, h4⟩ := h
    rw [eqL_eq it it2 h4]
theorem eqL_eq : ∀ (l m : List Arr), eqL l m = true → l = m
  | [], [], _ => rfl
  | [], _ :: _, h => by simp [eqL] at h
  | _ :: _, [], h => by simp [eqL] at h
  | A :: l, B :: m, h => by
    rw [eqL] at h
    simp only [Bool.and_eq_true] at h
    rw [eqA_eq A B h.1, eqL_eq l m h.2]
end
mutual
theorem eqA_refl : ∀ (A : Arr), eqA A A = true
  | .mk k sh nu it => by
    rw [eqA, eqL_refl it]
    simp [sameB]
theorem eqL_refl : ∀ (l : List Arr), eqL l l = true
  | [] => by rw [eqL]
  | A :: l => by rw [eqL, eqA_refl A, eqL_refl l]; rfl
end
/-- The law's claim. -/
theorem apart_law {A B : Arr} (hA : rightE A = 0) (hB : rightE B = 0) : decide (litA A = litA B) = eqA A B := by
  cases h : eqA A B with
  | true =>
    rw [eqA_eq A B h]
    exact decide_eq_true rfl
  | false =>
    refine decide_eq_false fun e => ?_
    rw [lit_inj hA hB e, eqA_refl] at h
    cases h
end Go.Proofs.YtngcahaidlgkfaaDoor.Shape
