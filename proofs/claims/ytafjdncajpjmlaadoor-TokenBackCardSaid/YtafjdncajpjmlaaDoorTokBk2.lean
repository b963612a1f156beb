/-
  Layer 8: the tokens of a text, shown, are read back alike.
-/
import Derived.Test.YtafjdncajpjmlaaDoorTokBk1
namespace Go.Proofs.YtafjdncajpjmlaaDoor.Tok
open Go.RowKit
set_option linter.unusedVariables false

/-- A token as a text has it. -/
inductive Gd : Int → Int → ByteArray → Prop
  | num (n : Int) : Num.fitsB n = true → Gd 1 n ⟨#[]⟩
  | chr (c : Nat) : okC c → Gd 2 (c : Int) ⟨#[]⟩
  | str (cs : List Nat) : (∀ c ∈ cs, okC c) → Gd 3 0 ⟨(cs.flatMap (fun c : Nat => Lib.encodeRune (c : Int))).toArray⟩
  | name (t : ByteArray) : Named t → Gd 4 0 t
  | sym (t : ByteArray) : (signB t.data.toList || resB t.data.toList) = true → Gd 5 0 t
  | brk : Gd 6 0 ⟨#[]⟩

/-! ### How a token is written -/
theorem lit_enc (q : Nat) {s : ByteArray} : ∀ (cs : List Nat) (p f : Nat), (∀ c ∈ cs, okC c) → Sfx s p (cs.flatMap (fun c : Nat => Lib.encodeRune (c : Int))) → cs.length < f → litGo q s f p = cs.flatMap (chW q)
  | [], p, f, hc, h, hf => by
    obtain ⟨g, rfl⟩ : ∃ g, f = g + 1 := ⟨f - 1, by simp at hf; omega⟩
    have hz := h.len
    rw [litGo, if_neg (by simp at hz; omega)]
    rfl
  | c :: cs, p, f, hc, h, hf => by
    rw [List.length_cons] at hf
    obtain ⟨g, rfl⟩ : ∃ g, f = g + 1 := ⟨f - 1, by omega⟩
    rw [List.flatMap_cons] at h
    obtain ⟨b, r, e, -⟩ := bk_head c (hc c (by simp))
    have hlt : p < s.size := by have := h.len; rw [e] at this; simp at this; omega
    have hd := h.decode
    rw [bk_dec c (hc c (by simp))] at hd
    rw [litGo, if_pos hlt, hd, List.flatMap_cons]
    simp only
    rw [lit_enc q cs _ g (fun x hx => hc x (List.mem_cons_of_mem _ hx)) h.app (by omega)]
theorem valid_enc : ∀ (cs : List Nat), (∀ c ∈ cs, okC c) → Lib.validD (cs.flatMap (fun c : Nat => Lib.encodeRune (c : Int))) = true
  | [], _ => Lib.validD_nil
  | c :: cs, hc => by
    have ho := hc c (by simp)
    obtain ⟨b, r, e, -⟩ := bk_head c ho
    rw [List.flatMap_cons, Lib.validD_step _ (by rw [e]; simp), bk_dec c ho]
    simp only
    rw [if_neg, List.drop_left]
    · exact valid_enc cs (fun x hx => hc x (List.mem_cons_of_mem _ hx))
    · rintro ⟨q1, q2⟩
      subst q1
      rw [bk_enc3 65533 (by omega)] at q2
      simp at q2
theorem enc_many : ∀ (cs : List Nat), (∀ c ∈ cs, okC c) → cs.length ≤ (cs.flatMap (fun c : Nat => Lib.encodeRune (c : Int))).length ∧ (cs.flatMap (fun c : Nat => Lib.encodeRune (c : Int))).length ≤ 4 * cs.length
  | [], _ => ⟨Nat.le_refl _, Nat.zero_le _⟩
  | c :: cs, hc => by
    obtain ⟨b, r, e, -⟩ := bk_head c (hc c (by simp))
    have h1 := enc_many cs (fun x hx => hc x (List.mem_cons_of_mem _ hx))
    have h2 := enc_le' (c : Int)
    have h3 : 0 < (Lib.encodeRune (c : Int)).length := by rw [e]; simp
    rw [List.flatMap_cons, List.length_append, List.length_cons]
    omega
theorem chW_many (q : Nat) : ∀ (cs : List Nat), (cs.flatMap (chW q)).length ≤ 6 * cs.length
  | [] => Nat.zero_le _
  | c :: cs => by
    have h1 := chW_many q cs
    have h2 := chW_len q c
    rw [List.flatMap_cons, List.length_append, List.length_cons]
    omega
theorem one_num {n : Int} (h : Num.fitsB n = true) (t : ByteArray) : oneW 1 n t = Num.shL n := by
  unfold oneW
  rw [if_pos rfl, if_pos h, Num.shS, arr_of]
theorem one_chr {c : Nat} (h : okC c) (t : ByteArray) : oneW 2 (c : Int) t = 39 :: (chW 39 c ++ [39]) := by
  have e : isChar (c : Int) = true := by
    unfold okC at h
    simp only [isChar, Lib.validRune, Bool.and_eq_true, decide_eq_true_eq]
    omega
  unfold oneW
  rw [if_neg (by decide), if_pos rfl, if_pos e, litGo_one h, bk_enc1 39 (by decide)]
  rfl
theorem one_str {cs : List Nat} (h : ∀ c ∈ cs, okC c) (n : Int) : oneW 3 n ⟨(cs.flatMap (fun c : Nat => Lib.encodeRune (c : Int))).toArray⟩ = 34 :: (cs.flatMap (chW 34) ++ [34]) := by
  have hz := (enc_many cs h).1
  unfold oneW
  rw [if_neg (by decide), if_neg (by decide), if_pos rfl, arr_of, if_pos (valid_enc cs h), litW, lit_enc 34 cs 0 _ h ⟨Nat.zero_le _, by rw [List.drop_zero, arr_of]⟩ (by rw [Lib.size_eq, arr_of]; omega), bk_enc1 34 (by decide)]
  rfl
theorem one_text (k : Int) (h : k = 4 ∨ k = 5) (n : Int) (t : ByteArray) : oneW k n t = t.data.toList := by
  unfold oneW
  rw [if_neg (by omega), if_neg (by omega), if_neg (by omega), if_pos h]
theorem one_brk (n : Int) (t : ByteArray) : oneW 6 n t = [59] := by
  unfold oneW
  rw [if_neg (by decide), if_neg (by decide), if_neg (by decide), if_neg (by decide), if_pos rfl]
/-- A token as it is written is read back. -/
theorem tok_back {k n : Int} {t : ByteArray} (hg : Gd k n t) {s : ByteArray} {i : Nat} {R : List UInt8} (hR : Gap R) (h : Sfx s i (oneW k n t ++ R)) : tokenS s i = .tok k n t (i + (oneW k n t).length) := by
  cases hg with
  | num n hf => rw [one_num hf] at h ⊢; exact num_back hf h hR
  | chr c hc =>
    rw [one_chr hc] at h ⊢
    have e2 : (39 :: (chW 39 c ++ [39])) ++ R = 39 :: (chW 39 c ++ 39 :: R) := by simp
    rw [e2] at h
    exact char_back hc h
  | str cs hc =>
    rw [one_str hc] at h ⊢
    have e2 : (34 :: (cs.flatMap (chW 34) ++ [34])) ++ R = 34 :: (cs.flatMap (chW 34) ++ 34 :: R) := by simp
    rw [e2] at h
    exact str_back hc (chW_pos (Or.inr rfl) hc) h
  | name t hN => rw [one_text 4 (Or.inl rfl)] at h ⊢; exact name_back hN h hR
  | sym t hS =>
    rw [one_text 5 (Or.inr rfl)] at h ⊢
    have := sym_back hS h hR
    rw [arr_list] at this
    exact this
  | brk =>
    rw [one_brk] at h ⊢
    rw [tokenS_sfx h, if_neg (by exact fls rfl), if_neg (by exact fls rfl), if_neg (by exact fls rfl), if_neg (by exact fls rfl), if_neg (by exact fls rfl), if_pos (by rfl)]
    rfl

/-! ### What it begins with -/
def hdOk (L : List UInt8) : Bool := match L with
  | [] => false
  | c :: _ => !(c == 32 || c == 9 || c == 13 || c == 35)
theorem hdOk_app {A R : List UInt8} (h : hdOk A = true) : hdOk (A ++ R) = true := by
  cases A with
  | nil => cases h
  | cons c A => exact h
theorem hdOk_ge {c : UInt8} {L : List UInt8} (h : 36 ≤ c.toNat ∨ c.toNat = 34) : hdOk (c :: L) = true := by
  simp only [hdOk, Bool.not_eq_true', Bool.or_eq_false_iff, beq_eq_false_iff_ne]
  refine ⟨⟨⟨?_, ?_⟩, ?_⟩, ?_⟩ <;> (rintro rfl; revert h; decide)
theorem hdOk_no {L : List UInt8} (h : hdOk L = true) : L ≠ [] ∧ hdIn L 35 35 = false ∧ hdIn L 32 32 = false ∧ hdIn L 9 9 = false ∧ hdIn L 13 13 = false := by
  cases L with
  | nil => cases h
  | cons c L =>
    simp only [hdOk, Bool.not_eq_true', Bool.or_eq_false_iff, beq_eq_false_iff_ne] at h
    obtain ⟨⟨⟨h1, h2⟩, h3⟩, h4⟩ := h
    have go : ∀ k : UInt8, c ≠ k → hdIn (c :: L) (k.toNat : Int) (k.toNat : Int) = false := fun k hk => by
      refine decide_eq_false fun q => hk (UInt8.toNat_inj.1 ?_)
      omega
    exact ⟨by simp, go 35 h4, go 32 h1, go 9 h2, go 13 h3⟩
theorem Named.head {t : ByteArray} (h : Named t) : ∃ x D, t.data.toList = x :: D ∧ lowC x := by
  have hp := h.pos
  have q := h.first hp
  have e2 : t[0] = t.data.toList[0]'(by rw [← Lib.size_eq]; exact hp) := rfl
  rw [e2] at q
  rw [Lib.size_eq] at hp
  cases hl : t.data.toList with
  | nil => rw [hl] at hp; simp at hp
  | cons x D =>
    simp only [hl, List.getElem_cons_zero] at q
    exact ⟨x, D, rfl, q⟩
theorem one_head {k n : Int} {t : ByteArray} (hg : Gd k n t) : hdOk (oneW k n t) = true := by
  cases hg with
  | num n hf =>
    rw [one_num hf]
    by_cases hn : n < 0
    · rw [Num.shL_neg hn]; exact hdOk_ge (by decide)
    · rw [Num.shL_pos hn]
      have hd := dg_dig n.natAbs
      obtain ⟨c, r, e, hc⟩ := Num.dg_head n.natAbs
      rw [e] at hd ⊢
      have h1 := hd c (by simp)
      exact hdOk_ge (by omega)
  | chr c hc => rw [one_chr hc]; exact hdOk_ge (by decide)
  | str cs hc => rw [one_str hc]; exact hdOk_ge (by decide)
  | name t hN =>
    rw [one_text 4 (Or.inl rfl)]
    obtain ⟨x, D, e, hx⟩ := hN.head
    unfold lowC at hx
    rw [e]; exact hdOk_ge (by omega)
  | sym t hS =>
    rw [one_text 5 (Or.inr rfl)]
    have hk := okSym_of hS
    cases hl : t.data.toList with
    | nil => rw [hl] at hk; cases hk
    | cons c r =>
      rw [hl] at hk
      simp only [okSym] at hk
      by_cases hle : hdLet (c :: r) = true
      · simp only [hdLet, hdIn, Bool.or_eq_true, decide_eq_true_eq] at hle
        exact hdOk_ge (by omega)
      · rw [if_neg hle] at hk
        simp only [Bool.and_eq_true] at hk
        exact hk.2
  | brk => rw [one_brk]; exact hdOk_ge (by decide)
theorem sep_no {s : ByteArray} {i : Nat} {L : List UInt8} (h : Sfx s i L) (h1 : hdIn L 35 35 = false) (h2 : hdIn L 32 32 = false) (h3 : hdIn L 9 9 = false) (h4 : hdIn L 13 13 = false) : sepTo s i = i := by
  unfold sepTo
  refine manyTo_stop ?_
  rw [sepS_eq, h.inB, h.inB, h.inB, h.inB, h1, h2, h3, h4]
  rfl
theorem sep_end {s : ByteArray} {i : Nat} (h : Sfx s i []) : sepTo s i = i := sep_no h rfl rfl rfl rfl
theorem sep_ok {s : ByteArray} {i : Nat} {L : List UInt8} (h : Sfx s i L) (hk : hdOk L = true) : sepTo s i = i := by
  obtain ⟨-, h1, h2, h3, h4⟩ := hdOk_no hk
  exact sep_no h h1 h2 h3 h4
theorem sep_blank {s : ByteArray} {i : Nat} {L : List UInt8} (h : Sfx s i (32 :: L)) (hk : hdOk L = true) : sepTo s i = i + 1 := by
  have e : sepS s i = (true, i + 1) := by
    rw [sepS_eq, h.inB, h.inB, h.inB, h.inB, if_neg (by exact fls rfl), if_pos (by rfl)]
  have h1 := sep_ok h.next hk
  unfold sepTo at h1 ⊢
  rw [manyTo_step (goes_sep s) h.le (by rw [e]), e]
  exact h1

/-! ### The tokens of a text are such -/
theorem okC_valid {c : Nat} (h : Lib.validRune (c : Int) = true) : okC c := by
  simp only [Lib.validRune, decide_eq_true_eq] at h
  unfold okC; omega
theorem cpS_ok {s : ByteArray} {i c j : Nat} (h : cpS s i = some (c, j)) : okC c := by
  unfold cpS at h
  split at h
  · split at h
    · rename_i h2
      simp only [Option.some.injEq, Prod.mk.injEq] at h
      have hv := h2.2.2.2
      rw [h.1] at hv
      exact okC_valid hv
    · cases h
  · cases h
theorem escS_ok {s : ByteArray} {i c j : Nat} (h : escS s i = some (c, j)) : okC c := by
  unfold escS at h
  have go : ∀ {k : Nat}, (some (k, i + 1) : Option (Nat × Nat)) = some (c, j) → k < 55296 → okC c := fun he hk => by
    simp only [Option.some.injEq, Prod.mk.injEq] at he
    rw [← he.1]; exact Or.inl hk
  split at h
  · exact go h (by decide)
  split at h
  · exact go h (by decide)
  split at h
  · exact go h (by decide)
  split at h
  · exact go h (by decide)
  split at h
  · exact go h (by decide)
  split at h
  · exact go h (by decide)
  split at h
  · exact cpS_ok h
  · cases h
theorem charS_ok {s : ByteArray} {start i c j : Nat} (h : charS s start i = .ok c j) : okC c := by
  unfold charS at h
  split at h
  · cases h
  split at h
  · cases hx : escS s (i + 1) with
    | none => rw [hx] at h; cases h
    | some q =>
      obtain ⟨c', j'⟩ := q
      rw [hx] at h
      injection h with h1 h2
      subst h1
      exact escS_ok hx
  split at h
  · injection h with h1 h2
    rw [← h1]
    exact bk_rune s i
  · cases h
theorem strGo_good {s : ByteArray} {st : Nat} : ∀ (f i : Nat) (acc : List UInt8) (cs : List Nat) {k n : Int} {t : ByteArray} {j : Nat}, (∀ c ∈ cs, okC c) → acc = cs.flatMap (fun c : Nat => Lib.encodeRune (c : Int)) → strGo s st f i acc = .tok k n t j →
    k = 3 ∧ n = 0 ∧ ∃ ds : List Nat, (∀ c ∈ ds, okC c) ∧ t = ⟨(ds.flatMap (fun c : Nat => Lib.encodeRune (c : Int))).toArray⟩ ∧ ds.length + i + 1 ≤ cs.length + j
  | 0, i, acc, cs, k, n, t, j, hc, ha, h => by rw [strGo] at h; cases h
  | f + 1, i, acc, cs, k, n, t, j, hc, ha, h => by
    rw [strGo] at h
    split at h
    · injection h with h1 h2 h3 h4
      exact ⟨h1.symm, h2.symm, cs, hc, by rw [← h3, ha], by omega⟩
    · cases hx : charS s st i with
      | bad e a => rw [hx] at h; cases h
      | ok c j' =>
        rw [hx] at h
        have hl := charS_le hx
        have ho := charS_ok hx
        obtain ⟨r1, r2, ds, r3, r4, r5⟩ := strGo_good f j' _ (cs ++ [c]) (fun x hx => by
          rcases List.mem_append.1 hx with q | q
          · exact hc x q
          · rw [List.mem_singleton] at q; subst q; exact ho) (by rw [List.flatMap_append, ha]; simp) h
        rw [List.length_append, List.length_singleton] at r5
        exact ⟨r1, r2, ds, r3, r4, by omega⟩
theorem rdGo_fits : ∀ (l : List UInt8) (n m : Int), 0 ≤ n → n ≤ 4611686018427387903 → Num.rdGo n l = some m → 0 ≤ m ∧ m ≤ 4611686018427387903
  | [], n, m, h0, h1, h => by rw [Num.rdGo] at h; injection h with h; omega
  | c :: l, n, m, h0, h1, h => by
    rw [Num.rdGo] at h
    split at h
    · cases h
    split at h
    · cases h
    · exact rdGo_fits l _ m (by omega) (by omega) h
theorem rdS_fits (l : List UInt8) (h : (Num.rdS l).2 = 0) : Num.fitsB (Num.rdS l).1 = true := by
  have go : ∀ (s : Int), (s = 1 ∨ s = -1) → ∀ r, (Num.rdAns s (Num.rdGo 0 r)).2 = 0 → Num.fitsB (Num.rdAns s (Num.rdGo 0 r)).1 = true := fun s hs r h => by
    cases hr : Num.rdGo 0 r with
    | none => rw [hr] at h; cases h
    | some m =>
      have := rdGo_fits r 0 m (by decide) (by decide) hr
      refine Num.fits_mk ?_
      show _ ≤ s * m ∧ s * m ≤ _
      rcases hs with rfl | rfl <;> omega
  cases l with
  | nil => cases h
  | cons c r =>
    unfold Num.rdS at h ⊢
    simp only at h ⊢
    split at h
    · rename_i h1
      rw [if_pos h1]
      split at h
      · cases h
      · rename_i h2
        rw [if_neg h2]
        exact go _ (Or.inr rfl) _ h
    · rename_i h1
      rw [if_neg h1]
      exact go _ (Or.inl rfl) _ h
theorem shL_len {n : Int} (h : Num.fitsB n = true) : (Num.shL n).length ≤ 20 := by
  have hb := Num.fits_def.1 h
  have := Num.dg_len 18 n.natAbs (by omega)
  by_cases hn : n < 0
  · rw [Num.shL_neg hn, List.length_cons]; omega
  · rw [Num.shL_pos hn]; omega
theorem num_good {s : ByteArray} {i x : Nat} {k n : Int} {t : ByteArray} {j : Nat} (h : numS s i x = .tok k n t j) : Gd k n t := by
  unfold numS numAt at h
  split at h
  · cases h
  · rename_i hc
    injection h with h1 h2 h3 h4
    have hf := rdS_fits _ (Decidable.not_not.1 fun q => hc (Or.inl q))
    rw [h2] at hf
    rw [← h1, ← h3]
    exact Gd.num n hf
theorem small_good {i j : Nat} (hij : i < j) {k n : Int} {t : ByteArray} (hg : Gd k n t) (h3 : k ≠ 3) (ht : k = 4 ∨ k = 5 → t.size = j - i) : (oneW k n t).length + 1 ≤ 24 * (j - i) ∧ t.size ≤ 4 * (j - i) := by
  cases hg with
  | num n hf => rw [one_num hf]; have := shL_len hf; exact ⟨by omega, Nat.zero_le _⟩
  | chr c hc => rw [one_chr hc]; have := chW_len 39 c; simp only [List.length_cons, List.length_append, List.length_nil]; exact ⟨by omega, Nat.zero_le _⟩
  | str cs hc => exact absurd rfl h3
  | name t hN => have := ht (Or.inl rfl); rw [one_text 4 (Or.inl rfl), ← Lib.size_eq]; omega
  | sym t hS => have := ht (Or.inr rfl); rw [one_text 5 (Or.inr rfl), ← Lib.size_eq]; omega
  | brk => rw [one_brk]; simp only [List.length_cons, List.length_nil]; exact ⟨by omega, Nat.zero_le _⟩
theorem tok_good {s : ByteArray} {i : Nat} (hi : i < s.size) {k n : Int} {t : ByteArray} {j : Nat} (h : tokenS s i = .tok k n t j) : Gd k n t ∧ (oneW k n t).length + 1 ≤ 24 * (j - i) ∧ t.size ≤ 4 * (j - i) := by
  have hj := tokenS_le hi h
  have hk := token_ok hi h
  have fin : Gd k n t → k ≠ 3 → Gd k n t ∧ (oneW k n t).length + 1 ≤ 24 * (j - i) ∧ t.size ≤ 4 * (j - i) := fun hg h3 => ⟨hg, small_good hj.1 hg h3 fun q => by
    rw [hk.1 q, ByteArray.size_extract]; omega⟩
  unfold tokenS at h
  split at h
  · have hg := num_good h
    refine fin hg ?_
    unfold numS numAt at h
    split at h
    · cases h
    · injection h with h1 h2 h3 h4; omega
  split at h
  · have hg := num_good h
    refine fin hg ?_
    unfold numS numAt at h
    split at h
    · cases h
    · injection h with h1 h2 h3 h4; omega
  split at h
  · unfold wordS wordAt at h
    split at h
    · rename_i hr
      injection h with h1 h2 h3 h4
      rw [h3] at hr
      subst h1; subst h2
      exact fin (Gd.sym _ (by rw [← ByteArray.toList_eq, hr, Bool.or_true])) (by decide)
    split at h
    · cases h
    split at h
    · cases h
    · injection h with h1 h2 h3 h4
      subst h1; subst h2
      exact fin (Gd.name _ (hk.2 rfl)) (by decide)
  split at h
  · unfold clitS at h
    split at h
    · cases h
    cases hx : charS s i (i + 1) with
    | bad e a => rw [hx, clitEnd] at h; cases h
    | ok c j' =>
      rw [hx, clitEnd] at h
      have ho := charS_ok hx
      split at h
      · injection h with h1 h2 h3 h4
        subst h1; subst h2; subst h3
        exact fin (Gd.chr c ho) (by decide)
      split at h
      · cases h
      · cases h
  split at h
  · unfold strS at h
    obtain ⟨r1, r2, ds, r3, r4, r5⟩ := strGo_good _ _ _ [] (fun c hc => (by cases hc)) rfl h
    subst r1; subst r2; subst r4
    have h1 := enc_many ds r3
    have h2 := chW_many 34 ds
    rw [List.length_nil] at r5
    refine ⟨Gd.str ds r3, ?_, ?_⟩
    · rw [one_str r3]
      simp only [List.length_cons, List.length_append, List.length_nil]
      omega
    · rw [Lib.size_eq, arr_of]; omega
  split at h
  · injection h with h1 h2 h3 h4
    subst h1; subst h2; subst h3
    exact fin Gd.brk (by decide)
  · unfold symS at h
    split at h
    · rename_i hr
      injection h with h1 h2 h3 h4
      subst h1; subst h2; subst h3
      exact fin (Gd.sym _ (by rw [← ByteArray.toList_eq]; exact hr.2)) (by decide)
    split at h
    · rename_i hr
      injection h with h1 h2 h3 h4
      subst h1; subst h2; subst h3
      exact fin (Gd.sym _ (by rw [← ByteArray.toList_eq]; exact hr)) (by decide)
    · cases h

/-! ### The whole text -/
def wSum (l : List T5) : Nat := (l.map fun x => (oneW x.k x.n x.t).length + 1).sum
theorem scan_good {s : ByteArray} : ∀ (f i : Nat) (acc l : List T5), i ≤ s.size → scanGo s f i acc = .ok l → ∃ r, l = acc ++ r ∧ (∀ x ∈ r, Gd x.k x.n x.t ∧ x.t.size ≤ 4 * s.size) ∧ wSum r ≤ 24 * (s.size - i)
  | 0, i, acc, l, hi, h => by rw [scanGo] at h; injection h with h; exact ⟨[], by rw [List.append_nil, h], fun x hx => (by cases hx), Nat.zero_le _⟩
  | f + 1, i, acc, l, hi, h => by
    rw [scanGo] at h
    split at h
    · rename_i hlt
      cases ht : tokenS s i with
      | bad e a => rw [ht] at h; cases h
      | tok k n t j =>
        rw [ht] at h
        have hj := tokenS_le hlt ht
        have hk := tok_good hlt ht
        have hp := sepTo_ge (s := s) (i := j) hj.2
        simp only at h
        split at h
        · cases h
        · obtain ⟨r, e, h1, h2⟩ := scan_good f (sepTo s j) _ l hp.2 h
          refine ⟨⟨k, i, (j : Int) - i, n, t⟩ :: r, by rw [e]; simp, fun x hx => ?_, ?_⟩
          · rcases List.mem_cons.1 hx with rfl | hx
            · exact ⟨hk.1, by have := hk.2.2; show t.size ≤ _; omega⟩
            · exact h1 x hx
          · have h3 := hk.2.1
            unfold wSum at h2 ⊢
            rw [List.map_cons, List.sum_cons]
            show (oneW k n t).length + 1 + _ ≤ _
            omega
    · injection h with h; exact ⟨[], by rw [List.append_nil, h], fun x hx => (by cases hx), Nat.zero_le _⟩
def tailJ (l : List T5) : List UInt8 := l.flatMap fun x => 32 :: oneW x.k x.n x.t
theorem tail_eq (l : List T5) : Lib.joinTail [32] ((l.map txt).map (·.data.toList)) = tailJ l := by
  induction l with
  | nil => rfl
  | cons x r ih =>
    unfold Lib.joinTail tailJ at *
    rw [List.map_cons, List.map_cons, List.map_cons, List.flatten_cons, List.flatMap_cons, ih]
    simp [txt]
theorem showS_cons (x : T5) (l : List T5) : showS (x :: l) = oneW x.k x.n x.t ++ tailJ l := by
  unfold showS
  rw [List.map_cons, List.map_cons, Lib.join_cons, tail_eq]
  simp [txt]
theorem tailJ_len (l : List T5) : (tailJ l).length = wSum l := by
  induction l with
  | nil => rfl
  | cons x r ih =>
    unfold tailJ wSum at *
    rw [List.flatMap_cons, List.length_append, ih, List.map_cons, List.sum_cons, List.length_cons]
theorem showS_len (l : List T5) : (showS l).length ≤ wSum l := by
  cases l with
  | nil => exact Nat.zero_le _
  | cons x r =>
    rw [showS_cons, List.length_append, tailJ_len]
    unfold wSum
    rw [List.map_cons, List.sum_cons]
    omega
/-- What Show shows of a token. -/
def key (x : T5) : Int × Int × ByteArray := (x.k, x.n, x.t)
theorem back_go {s : ByteArray} : ∀ (l : List T5) (x : T5) (f i : Nat) (acc : List T5), (∀ y ∈ x :: l, Gd y.k y.n y.t) → Sfx s i (oneW x.k x.n x.t ++ tailJ l) → acc.length + l.length + 1 ≤ 16384 → l.length < f →
    ∃ m, scanGo s f i acc = .ok (acc ++ m) ∧ m.map key = (x :: l).map key
  | l, x, 0, i, acc, hg, h, hl, hf => by omega
  | l, x, f + 1, i, acc, hg, h, hl, hf => by
    have hx := hg x (by simp)
    have hne := (hdOk_no (one_head hx)).1
    have hlt : i < s.size := by
      have h1 := h.len
      have h2 := List.length_pos_iff.2 hne
      rw [List.length_append] at h1
      omega
    have hgap : Gap (tailJ l) := by
      cases l with
      | nil => exact Or.inl rfl
      | cons y r => exact Or.inr ⟨oneW y.k y.n y.t ++ tailJ r, by rw [tailJ, List.flatMap_cons]; rfl⟩
    have ht := tok_back hx hgap h
    have hj := h.app
    rw [scanGo, if_pos hlt, ht]
    simp only
    rw [if_neg (by omega)]
    cases l with
    | nil =>
      have hj0 : Sfx s (i + (oneW x.k x.n x.t).length) [] := hj
      rw [sep_end hj0]
      refine ⟨[⟨x.k, i, ((i + (oneW x.k x.n x.t).length : Nat) : Int) - i, x.n, x.t⟩], ?_, rfl⟩
      have hz := hj0.len
      rw [List.length_nil] at hz
      cases f with
      | zero => rw [scanGo]
      | succ f => rw [scanGo, if_neg (by omega)]
    | cons y r =>
      have hj1 : Sfx s (i + (oneW x.k x.n x.t).length) (32 :: (oneW y.k y.n y.t ++ tailJ r)) := by rw [tailJ, List.flatMap_cons] at hj; exact hj
      have hy := hg y (by simp)
      rw [sep_blank hj1 (hdOk_app (one_head hy))]
      rw [List.length_cons] at hl hf
      obtain ⟨m, m1, m2⟩ := back_go r y f (i + (oneW x.k x.n x.t).length + 1) (acc ++ [⟨x.k, i, ((i + (oneW x.k x.n x.t).length : Nat) : Int) - i, x.n, x.t⟩]) (fun z hz => hg z (List.mem_cons_of_mem _ hz)) hj1.next (by rw [List.length_append, List.length_singleton]; omega) (by omega)
      refine ⟨⟨x.k, i, ((i + (oneW x.k x.n x.t).length : Nat) : Int) - i, x.n, x.t⟩ :: m, ?_, ?_⟩
      · rw [m1, List.append_assoc]; rfl
      · rw [List.map_cons, m2]; rfl
/-- The tokens of a text, shown, are read back alike. -/
theorem scan_back {s : ByteArray} (hs : s.size ≤ 2000) {l : List T5} (h : scanS s = .ok l) : (∃ m, scanS ⟨(showS l).toArray⟩ = .ok m ∧ m.map key = l.map key) ∧ (showS l).length ≤ 48000 ∧ l.length ≤ 16384 ∧
    ∀ x ∈ l, (-9223372036854775808 ≤ x.n ∧ x.n ≤ 9223372036854775807) ∧ x.t.size ≤ 100000 := by
  have hl := (scanS_asc h).2
  obtain ⟨r, e, h1, h2⟩ := scan_good _ _ _ _ (sepTo_ge (Nat.zero_le _)).2 h
  rw [List.nil_append] at e
  subst e
  have hw := showS_len l
  refine ⟨?_, by omega, hl, fun x hx => ⟨?_, by have := (h1 x hx).2; omega⟩⟩
  · have S : Sfx ⟨(showS l).toArray⟩ 0 (showS l) := ⟨Nat.zero_le _, by rw [List.drop_zero, arr_of]⟩
    unfold scanS
    have hz := S.len
    rw [Nat.zero_add] at hz
    rw [hz]
    cases l with
    | nil =>
      rw [sep_end S]
      refine ⟨[], ?_, rfl⟩
      rw [scanGo, if_neg (by rw [hz]; exact Nat.lt_irrefl 0)]
    | cons x r =>
      have S1 : Sfx ⟨(showS (x :: r)).toArray⟩ 0 (oneW x.k x.n x.t ++ tailJ r) := ⟨S.le, S.eq.trans (showS_cons x r)⟩
      rw [sep_ok S1 (hdOk_app (one_head (h1 x (by simp)).1))]
      rw [List.length_cons] at hl
      obtain ⟨m, m1, m2⟩ := back_go r x ((showS (x :: r)).length + 1) 0 [] (fun y hy => (h1 y hy).1) S1 (by rw [List.length_nil]; omega) (by
        rw [showS_cons, List.length_append, tailJ_len]
        have : ∀ l : List T5, l.length ≤ wSum l := fun l => by
          induction l with
          | nil => exact Nat.zero_le _
          | cons z q ih => unfold wSum at *; rw [List.map_cons, List.sum_cons, List.length_cons]; omega
        have := this r
        omega)
      exact ⟨m, by rw [m1, List.nil_append], m2⟩
  · have hg := (h1 x hx).1
    generalize x.k = k at hg
    generalize x.n = n at hg ⊢
    generalize x.t = t at hg
    cases hg with
    | num n hf => have := Num.fits_def.1 hf; omega
    | chr c hc => unfold okC at hc; omega
    | str cs hc => omega
    | name t hN => omega
    | sym t hS => omega
    | brk => omega
end Go.Proofs.YtafjdncajpjmlaaDoor.Tok
