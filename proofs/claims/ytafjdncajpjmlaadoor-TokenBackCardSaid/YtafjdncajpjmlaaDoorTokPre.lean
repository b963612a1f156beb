/-
  Layer 8: a text that a newline follows is read as it is read alone.
-/
import Derived.Test.YtafjdncajpjmlaaDoorTokSft
namespace Go.Proofs.YtafjdncajpjmlaaDoor.Tok
open Go.RowKit
set_option linter.unusedVariables false

/-- J begins with s and a newline. -/
structure Pre (J s : ByteArray) : Prop where
  size : s.size < J.size
  nl : ∀ h : s.size < J.size, J[s.size].toNat = 10
  get : ∀ i (h : i < s.size) (h2 : i < J.size), J[i] = s[i]
theorem Pre.inB {J s : ByteArray} (h : Pre J s) {i : Nat} (hi : i < s.size) (lo hi' : Int) : inB J i lo hi' = inB s i lo hi' := by
  unfold Tok.inB
  have hz := h.size
  rw [dif_pos hi, dif_pos (show i < J.size by omega), h.get i hi]
theorem Pre.inB' {J s : ByteArray} (h : Pre J s) {i : Nat} (hi : i ≤ s.size) (lo hi' : Int) (hn : ¬ (lo ≤ 10 ∧ 10 ≤ hi')) : Tok.inB J i lo hi' = Tok.inB s i lo hi' := by
  rcases Nat.lt_or_ge i s.size with hl | hl
  · exact h.inB hl lo hi'
  · obtain rfl : i = s.size := by omega
    unfold Tok.inB
    have hz := h.size
    rw [dif_pos hz, dif_neg (Nat.lt_irrefl _), h.nl hz]
    exact decide_eq_false hn
theorem Pre.endL {J s : ByteArray} (h : Pre J s) {i : Nat} (hi : i ≤ s.size) : endL J i = endL s i := by
  unfold Tok.endL
  have hz := h.size
  rcases Nat.lt_or_ge i s.size with hl | hl
  · rw [dif_pos hl, dif_pos (show i < J.size by omega), h.get i hl]
  · obtain rfl : i = s.size := by omega
    rw [dif_pos hz, dif_neg (Nat.lt_irrefl _), h.nl hz]
    rfl
theorem Pre.isDig {J s : ByteArray} (h : Pre J s) {i : Nat} (hi : i ≤ s.size) : isDig J i = isDig s i := by unfold Tok.isDig; rw [h.inB' hi _ _ (by decide)]
theorem Pre.isLet {J s : ByteArray} (h : Pre J s) {i : Nat} (hi : i ≤ s.size) : isLet J i = isLet s i := by unfold Tok.isLet; rw [h.inB' hi _ _ (by decide), h.inB' hi _ _ (by decide)]
theorem Pre.isHex {J s : ByteArray} (h : Pre J s) {i : Nat} (hi : i ≤ s.size) : isHex J i = isHex s i := by unfold Tok.isHex; rw [h.isDig hi, h.inB' hi _ _ (by decide)]
theorem Pre.isLD {J s : ByteArray} (h : Pre J s) {i : Nat} (hi : i ≤ s.size) : isLD J i = isLD s i := by unfold Tok.isLD; rw [h.isLet hi, h.isDig hi]
theorem Pre.isLine {J s : ByteArray} (h : Pre J s) {i : Nat} (hi : i ≤ s.size) : isLine J i = isLine s i := by unfold Tok.isLine; rw [h.endL hi]
theorem many_pre {p q : Nat → Bool} {n : Nat} (h : ∀ i, i ≤ n → p i = q i) (hq : q n = false) : ∀ f g i, i ≤ n → n - i ≤ f → n - i ≤ g → manyTo (one p) f i = manyTo (one q) g i
  | 0, g, i, hi, hf, hg => by
    obtain rfl : i = n := by omega
    rw [manyTo]
    cases g with
    | zero => rfl
    | succ g => rw [manyTo, if_neg (by show ¬ q i = true; rw [hq]; decide)]
  | f + 1, g, i, hi, hf, hg => by
    rw [manyTo]
    by_cases hp : (one p i).1 = true
    · have hpq : q i = true := (h i hi).symm.trans hp
      have hin : i ≠ n := fun e => by rw [e, hq] at hpq; cases hpq
      obtain ⟨g', rfl⟩ : ∃ g', g = g' + 1 := ⟨g - 1, by omega⟩
      rw [if_pos hp, manyTo, if_pos (show (one q i).1 = true from hpq)]
      show manyTo (one p) f (adv (p i) i) = manyTo (one q) g' (adv (q i) i)
      rw [h i hi, hpq, adv_t]
      exact many_pre h hq f g' (i + 1) (by omega) (by omega) (by omega)
    · have hpq : ¬ q i = true := fun e => hp ((h i hi).trans e)
      rw [if_neg hp]
      cases g with
      | zero => rfl
      | succ g => rw [manyTo, if_neg (show ¬ (one q i).1 = true from hpq)]
theorem Pre.many {J s : ByteArray} (h : Pre J s) {P : ByteArray → Nat → Bool} (hP : ∀ i, i ≤ s.size → P J i = P s i) (he : P s s.size = false) {i : Nat} (hi : i ≤ s.size) : manyTo (one (P J)) (J.size - i) i = manyTo (one (P s)) (s.size - i) i :=
  many_pre hP he _ _ i hi (by have := h.size; omega) (Nat.le_refl _)
theorem Pre.list {J s : ByteArray} (h : Pre J s) : J.data.toList.take s.size = s.data.toList := by
  have hz := h.size
  have e1 : J.data.toList.length = J.size := (Lib.size_eq J).symm
  have e2 : s.data.toList.length = s.size := (Lib.size_eq s).symm
  apply List.ext_getElem
  · rw [List.length_take, e1, e2]; omega
  · intro i h1 h2
    rw [List.getElem_take]
    exact h.get i (by rw [← e2]; exact h2) (by omega)
theorem Pre.extract {J s : ByteArray} (h : Pre J s) {i j : Nat} (hj : j ≤ s.size) : J.extract i j = s.extract i j := by
  have e : (J.extract i j).data.toList = (s.extract i j).data.toList := by
    rw [extract_list, extract_list, ← h.list, List.drop_take, List.take_take, Nat.min_eq_left (by omega)]
  have a1 := arr_list' (J.extract i j)
  have a2 := arr_list' (s.extract i j)
  rw [← a1, e, a2]
theorem Pre.getD {J s : ByteArray} (h : Pre J s) {i : Nat} (hi : i < s.size) : J.data.toList.getD i 0 = s.data.toList.getD i 0 := by
  rw [← h.list]
  simp [List.getD, hi]
theorem Pre.getN {J s : ByteArray} (h : Pre J s) : (J.data.toList.getD s.size 0).toNat = 10 := by
  have hz := h.size
  have e1 : J.data.toList.length = J.size := (Lib.size_eq J).symm
  rw [List.getD_eq_getElem?_getD, List.getElem?_eq_getElem (by rw [e1]; exact hz)]
  exact h.nl hz
theorem decodeN_cut (n b0 b1 b2 b3 c1 c2 c3 m : Nat) (h1 : 1 < n → b1 = c1) (h1' : n = 1 → c1 = 10) (h2 : 2 < n → b2 = c2) (h2' : n = 2 → c2 = 10) (h3 : 3 < n → b3 = c3) (h3' : n = 3 → c3 = 10) (hn : 0 < n) (hm : n < m) :
    Lib.decodeN m b0 c1 c2 c3 = Lib.decodeN n b0 b1 b2 b3 := by
  unfold Lib.decodeN
  by_cases k1 : n = 1
  · have := h1' k1
    subst k1; subst this
    simp
  have e1 := h1 (by omega)
  subst e1
  by_cases k2 : n = 2
  · have := h2' k2
    subst k2; subst this
    simp [show 1 < m by omega]
  have e2 := h2 (by omega)
  subst e2
  by_cases k3 : n = 3
  · have := h3' k3
    subst k3; subst this
    simp [show 1 < m by omega, show 2 < m by omega]
  have e3 := h3 (by omega)
  subst e3
  simp [show 1 < m by omega, show 2 < m by omega, show 3 < m by omega, show 1 < n by omega, show 2 < n by omega, show 3 < n by omega]
theorem Pre.decode {J s : ByteArray} (h : Pre J s) {i : Nat} (hi : i < s.size) : Utf8.decode J i = Utf8.decode s i := by
  have hz := h.size
  have e1 : J.data.toList.length = J.size := (Lib.size_eq J).symm
  have e2 : s.data.toList.length = s.size := (Lib.size_eq s).symm
  have hN := h.getN
  rw [Lib.decode_N, Lib.decode_N, e1, e2, h.getD hi]
  refine decodeN_cut _ _ _ _ _ _ _ _ _ (fun g => by rw [h.getD (by omega)]) (fun g => ?_) (fun g => by rw [h.getD (by omega)]) (fun g => ?_) (fun g => by rw [h.getD (by omega)]) (fun g => ?_) (by omega) (by omega)
  · rw [show i + 1 = s.size by omega]; exact hN
  · rw [show i + 2 = s.size by omega]; exact hN
  · rw [show i + 3 = s.size by omega]; exact hN
theorem isDig_end (s : ByteArray) : Tok.isDig s s.size = false := by
  cases h : Tok.isDig s s.size
  · rfl
  · exact absurd (isDig_lt h) (Nat.lt_irrefl _)
theorem isHex_end (s : ByteArray) : Tok.isHex s s.size = false := by
  cases h : Tok.isHex s s.size
  · rfl
  · exact absurd (isHex_lt h) (Nat.lt_irrefl _)
theorem isLD_end (s : ByteArray) : Tok.isLD s s.size = false := by
  cases h : Tok.isLD s s.size
  · rfl
  · exact absurd (isLD_lt h) (Nat.lt_irrefl _)
theorem Pre.cpS {J s : ByteArray} (h : Pre J s) {i : Nat} (hi : i ≤ s.size) : cpS J i = cpS s i := by
  unfold Tok.cpS
  rw [h.inB' hi _ _ (by decide)]
  by_cases h1 : Tok.inB s i 123 123 = true
  · have hlt := inB_lt h1
    have g := many_le s (i + 1) (by omega)
    rw [if_pos h1, if_pos h1, h.many (fun i hi => h.isHex hi) (isHex_end s) (show i + 1 ≤ s.size by omega)]
    generalize manyTo (one (Tok.isHex s)) (s.size - (i + 1)) (i + 1) = m at g
    rw [h.inB' g.2 _ _ (by decide), h.extract g.2]
  · rw [if_neg h1, if_neg h1]
theorem Pre.escS {J s : ByteArray} (h : Pre J s) {i : Nat} (hi : i ≤ s.size) : escS J i = escS s i := by
  unfold Tok.escS
  rw [h.inB' hi _ _ (by decide), h.inB' hi _ _ (by decide), h.inB' hi _ _ (by decide), h.inB' hi _ _ (by decide), h.inB' hi _ _ (by decide), h.inB' hi _ _ (by decide), h.inB' hi _ _ (by decide)]
  by_cases h1 : Tok.inB s i 117 117 = true
  · rw [h.cpS (show i + 1 ≤ s.size from inB_lt h1)]
  · rw [if_neg h1, if_neg h1]
theorem Pre.charS {J s : ByteArray} (h : Pre J s) (start : Nat) {i : Nat} (hi : i ≤ s.size) : charS J start i = charS s start i := by
  unfold Tok.charS
  rw [h.endL hi]
  by_cases h1 : Tok.endL s i = true
  · rw [if_pos h1, if_pos h1]
  · have hlt := endL_lt h1
    rw [if_neg h1, if_neg h1, h.inB hlt, h.escS (show i + 1 ≤ s.size from hlt), h.decode hlt]
theorem Pre.strGo {J s : ByteArray} (h : Pre J s) (start : Nat) : ∀ (f g i : Nat) (acc : List UInt8), i ≤ s.size → s.size + 1 - i ≤ f → s.size + 1 - i ≤ g → strGo J start f i acc = strGo s start g i acc
  | 0, g, i, acc, hi, hf, hg => by omega
  | f + 1, g, i, acc, hi, hf, hg => by
    obtain ⟨g', rfl⟩ : ∃ g', g = g' + 1 := ⟨g - 1, by omega⟩
    rw [Tok.strGo, Tok.strGo, h.inB' hi _ _ (by decide), h.charS start hi]
    by_cases h1 : Tok.inB s i 34 34 = true
    · rw [if_pos h1, if_pos h1]
    · rw [if_neg h1, if_neg h1]
      cases hc : Tok.charS s start i with
      | bad e a => rfl
      | ok c j =>
        have := charS_le hc
        exact Pre.strGo h start f g' j _ this.2.1 (by omega) (by omega)
theorem Pre.clitS {J s : ByteArray} (h : Pre J s) (start : Nat) {i : Nat} (hi : i ≤ s.size) : clitS J start i = clitS s start i := by
  unfold Tok.clitS
  rw [h.inB' hi _ _ (by decide), h.charS start hi]
  by_cases h1 : Tok.inB s i 39 39 = true
  · rw [if_pos h1, if_pos h1]
  · rw [if_neg h1, if_neg h1]
    cases hc : Tok.charS s start i with
    | bad e a => rfl
    | ok c j =>
      have := charS_le hc
      unfold clitEnd
      simp only
      rw [h.inB' this.2.1 _ _ (by decide), h.endL this.2.1]
theorem Pre.numS {J s : ByteArray} (h : Pre J s) (start : Nat) {i : Nat} (hi : i ≤ s.size) : numS J start i = numS s start i := by
  have g := manyTo_ge (goes_one (n := s.size) (p := Tok.isDig s) fun i h => isDig_lt h) (s.size - i) i hi
  unfold Tok.numS
  rw [h.many (fun i hi => h.isDig hi) (isDig_end s) hi]
  generalize manyTo (one (Tok.isDig s)) (s.size - i) i = j at g
  unfold numAt
  rw [h.extract g.2, h.isLet g.2, h.inB' g.2 _ _ (by decide)]
theorem Pre.wordS {J s : ByteArray} (h : Pre J s) (start : Nat) {i : Nat} (hi : i ≤ s.size) : wordS J start i = wordS s start i := by
  have g := manyTo_ge (goes_one (n := s.size) (p := Tok.isLD s) fun i h => isLD_lt h) (s.size - i) i hi
  unfold Tok.wordS
  rw [h.many (fun i hi => h.isLD hi) (isLD_end s) hi, h.extract g.2]
theorem no_nl (c : UInt8) : (signB [c, 10] || resB [c, 10]) = false := by
  have k1 : ∀ w ∈ signWords, w.getLast? ≠ some 10 := by decide
  have k2 : ∀ w ∈ resWords, w.getLast? ≠ some 10 := by decide
  have e1 : signB [c, 10] = false := by
    rw [signB, List.any_eq_false]
    intro w hw he
    have := k1 w hw
    rw [← eq_of_beq he] at this
    exact this rfl
  have e2 : resB [c, 10] = false := by
    rw [resB, List.any_eq_false]
    intro w hw he
    have := k2 w hw
    rw [← eq_of_beq he] at this
    exact this rfl
  rw [e1, e2]
  rfl
theorem Pre.two {J s : ByteArray} (h : Pre J s) {i : Nat} (hi : i + 1 = s.size) : ∃ c, (J.extract i (i + 2)).toList = [c, 10] := by
  have hz := h.size
  have e1 : J.data.toList.length = J.size := (Lib.size_eq J).symm
  rw [ByteArray.toList_eq, extract_list, show i + 2 - i = 2 by omega]
  rw [List.drop_eq_getElem_cons (show i < J.data.toList.length by omega), List.drop_eq_getElem_cons (show i + 1 < J.data.toList.length by omega)]
  refine ⟨J.data.toList[i]'(by omega), ?_⟩
  simp only [List.take_succ_cons, List.take_zero]
  congr 2
  have hn := h.nl hz
  have : J.data.toList[i + 1]'(by omega) = J[s.size] := by
    show J[i + 1]'(by omega) = J[s.size]
    congr 1
  rw [this]
  exact UInt8.toNat.inj (by rw [hn]; rfl)
theorem Pre.symS {J s : ByteArray} (h : Pre J s) {i : Nat} (hi : i < s.size) : symS J i = symS s i := by
  have hz := h.size
  unfold Tok.symS
  rw [h.extract (show i + 1 ≤ s.size from hi)]
  by_cases h2 : i + 2 ≤ s.size
  · rw [h.extract h2]
    by_cases k : (signB (s.extract i (i + 2)).toList || resB (s.extract i (i + 2)).toList) = true
    · rw [if_pos ⟨by omega, k⟩, if_pos ⟨h2, k⟩]
    · have kA : ¬ (i + 2 ≤ J.size ∧ (signB (s.extract i (i + 2)).toList || resB (s.extract i (i + 2)).toList) = true) := fun q => k q.2
      have kB : ¬ (i + 2 ≤ s.size ∧ (signB (s.extract i (i + 2)).toList || resB (s.extract i (i + 2)).toList) = true) := fun q => k q.2
      rw [if_neg kA, if_neg kB]
  · obtain ⟨c, hc⟩ := h.two (show i + 1 = s.size by omega)
    have kA : ¬ (i + 2 ≤ J.size ∧ (signB (J.extract i (i + 2)).toList || resB (J.extract i (i + 2)).toList) = true) := fun q => by
      have := q.2
      rw [hc, no_nl] at this
      cases this
    have kB : ¬ (i + 2 ≤ s.size ∧ (signB (s.extract i (i + 2)).toList || resB (s.extract i (i + 2)).toList) = true) := fun q => h2 q.1
    rw [if_neg kA, if_neg kB]
theorem Pre.tokenS {J s : ByteArray} (h : Pre J s) {i : Nat} (hi : i < s.size) : tokenS J i = tokenS s i := by
  have hz := h.size
  have h1 : i + 1 ≤ s.size := hi
  unfold Tok.tokenS
  rw [h.inB hi, h.isDig (Nat.le_of_lt hi), h.isLet (Nat.le_of_lt hi), h.inB hi, h.inB hi, h.inB hi, h.inB hi, h.numS i h1, h.wordS i h1, h.clitS i h1, h.symS hi]
  have e : strS J i (i + 1) = strS s i (i + 1) := by
    unfold strS
    exact h.strGo i _ _ _ _ h1 (by omega) (Nat.le_refl _)
  rw [e]
theorem isLine_end (s : ByteArray) : Tok.isLine s s.size = false := by
  unfold Tok.isLine Tok.endL
  rw [dif_neg (Nat.lt_irrefl _)]
  rfl
theorem Pre.sepS {J s : ByteArray} (h : Pre J s) {i : Nat} (hi : i ≤ s.size) : sepS J i = sepS s i := by
  rw [sepS_eq, sepS_eq, h.inB' hi _ _ (by decide), h.inB' hi _ _ (by decide), h.inB' hi _ _ (by decide), h.inB' hi _ _ (by decide)]
  by_cases h1 : Tok.inB s i 35 35 = true
  · rw [if_pos h1, if_pos h1, h.many (fun i hi => h.isLine hi) (isLine_end s) (show i + 1 ≤ s.size from inB_lt h1)]
  · rw [if_neg h1, if_neg h1]
theorem sep_pre {J s : ByteArray} (h : Pre J s) : ∀ f g i, i ≤ s.size → s.size - i ≤ f → s.size - i ≤ g → manyTo (Tok.sepS J) f i = manyTo (Tok.sepS s) g i
  | 0, g, i, hi, hf, hg => by
    obtain rfl : i = s.size := by omega
    rw [manyTo]
    cases g with
    | zero => rfl
    | succ g =>
      have : ¬ (Tok.sepS s s.size).1 = true := fun e => by
        have := ((goes_sep s) s.size (Nat.le_refl _)).1 e
        omega
      rw [manyTo, if_neg this]
  | f + 1, g, i, hi, hf, hg => by
    rw [manyTo, h.sepS hi]
    by_cases hp : (Tok.sepS s i).1 = true
    · have hs := ((goes_sep s) i hi).1 hp
      obtain ⟨g', rfl⟩ : ∃ g', g = g' + 1 := ⟨g - 1, by omega⟩
      rw [if_pos hp, manyTo, if_pos hp]
      exact sep_pre h f g' _ hs.2 (by omega) (by omega)
    · rw [if_neg hp]
      cases g with
      | zero => rfl
      | succ g => rw [manyTo, if_neg hp]
theorem Pre.sepTo {J s : ByteArray} (h : Pre J s) {i : Nat} (hi : i ≤ s.size) : sepTo J i = sepTo s i := by
  unfold Tok.sepTo
  exact sep_pre h _ _ i hi (by have := h.size; omega) (Nat.le_refl _)
/-- The newline is a token of its own. -/
theorem Pre.brk {J s : ByteArray} (h : Pre J s) : Tok.tokenS J s.size = .tok 6 0 ⟨#[]⟩ (s.size + 1) := by
  have hz := h.size
  have hb : ∀ lo hi : Int, Tok.inB J s.size lo hi = decide (lo ≤ 10 ∧ 10 ≤ hi) := fun lo hi => by
    unfold Tok.inB
    rw [dif_pos hz, h.nl hz]
    rfl
  unfold Tok.tokenS Tok.isDig Tok.isLet
  rw [hb, hb, hb, hb, hb, hb, hb]
  rfl
end Go.Proofs.YtafjdncajpjmlaaDoor.Tok
