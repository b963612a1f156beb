/-
  Layer 8: a text that stands behind another is read as it is read alone, all places greater by as much.
  Layer 8: a text that a newline follows is read as it is read alone.
  Layer 8: the tokens of two texts that a newline joins.
  Layer 8: the joined text, and the reference's SameFault of a fault and itself.
-/
import Derived.Test.YtljgehammocpkaaGreatDoorTokPl0
namespace Go.Proofs.YtljgehammocpkaaGreatDoor.Tok
open Go.RowKit
set_option linter.unusedVariables false

/-- From d on, s is u. -/
structure Sh (s u : ByteArray) (d : Nat) : Prop where
  size : s.size = d + u.size
  get : ∀ i (h : i < u.size) (h2 : d + i < s.size), s[d + i] = u[i]
theorem Sh.inB {s u : ByteArray} {d : Nat} (h : Sh s u d) (i : Nat) (lo hi : Int) : inB s (d + i) lo hi = inB u i lo hi := by
  unfold Tok.inB
  have hz := h.size
  by_cases hi : i < u.size
  · rw [dif_pos hi, dif_pos (show d + i < s.size by omega), h.get i hi]
  · rw [dif_neg hi, dif_neg (show ¬ d + i < s.size by omega)]
theorem Sh.endL {s u : ByteArray} {d : Nat} (h : Sh s u d) (i : Nat) : endL s (d + i) = endL u i := by
  unfold Tok.endL
  have hz := h.size
  by_cases hi : i < u.size
  · rw [dif_pos hi, dif_pos (show d + i < s.size by omega), h.get i hi]
  · rw [dif_neg hi, dif_neg (show ¬ d + i < s.size by omega)]
theorem Sh.isLet {s u : ByteArray} {d : Nat} (h : Sh s u d) (i : Nat) : isLet s (d + i) = isLet u i := by unfold Tok.isLet; rw [h.inB, h.inB]
theorem Sh.isDig {s u : ByteArray} {d : Nat} (h : Sh s u d) (i : Nat) : isDig s (d + i) = isDig u i := by unfold Tok.isDig; rw [h.inB]
theorem Sh.isHex {s u : ByteArray} {d : Nat} (h : Sh s u d) (i : Nat) : isHex s (d + i) = isHex u i := by unfold Tok.isHex; rw [h.isDig, h.inB]
theorem Sh.isLD {s u : ByteArray} {d : Nat} (h : Sh s u d) (i : Nat) : isLD s (d + i) = isLD u i := by unfold Tok.isLD; rw [h.isLet, h.isDig]
theorem Sh.isLine {s u : ByteArray} {d : Nat} (h : Sh s u d) (i : Nat) : isLine s (d + i) = isLine u i := by unfold Tok.isLine; rw [h.endL]
theorem many_shift {p q : Nat → Bool} {d : Nat} (h : ∀ i, p (d + i) = q i) : ∀ f i, manyTo (one p) f (d + i) = d + manyTo (one q) f i
  | 0, i => rfl
  | f + 1, i => by
    rw [manyTo, manyTo]
    have e1 : (one p (d + i)).1 = (one q i).1 := h i
    by_cases hq : (one q i).1 = true
    · rw [if_pos hq, if_pos (e1.trans hq)]
      show manyTo (one p) f (adv (p (d + i)) (d + i)) = d + manyTo (one q) f (adv (q i) i)
      rw [h, show q i = true from hq, adv_t, adv_t, Nat.add_assoc]
      exact many_shift h f (i + 1)
    · rw [if_neg hq, if_neg (fun g => hq (e1.symm.trans g))]
theorem Sh.left {s u : ByteArray} {d : Nat} (h : Sh s u d) (i : Nat) : s.size - (d + i) = u.size - i := by have := h.size; omega
theorem Sh.list {s u : ByteArray} {d : Nat} (h : Sh s u d) : s.data.toList.drop d = u.data.toList := by
  have hz := h.size
  have e1 : s.data.toList.length = s.size := (Lib.size_eq s).symm
  have e2 : u.data.toList.length = u.size := (Lib.size_eq u).symm
  apply List.ext_getElem
  · rw [List.length_drop, e1, e2]; omega
  · intro i h1 h2
    rw [List.getElem_drop]
    exact h.get i (by rw [← e2]; exact h2) (by omega)
theorem arr_list' (t : ByteArray) : (⟨t.data.toList.toArray⟩ : ByteArray) = t := by cases t; simp
theorem Sh.extract {s u : ByteArray} {d : Nat} (h : Sh s u d) (i j : Nat) : s.extract (d + i) (d + j) = u.extract i j := by
  have e : (s.extract (d + i) (d + j)).data.toList = (u.extract i j).data.toList := by
    rw [extract_list, extract_list, ← h.list, List.drop_drop, show d + j - (d + i) = j - i by omega]
  have a1 := arr_list' (s.extract (d + i) (d + j))
  have a2 := arr_list' (u.extract i j)
  rw [← a1, e, a2]
theorem Sh.getD {s u : ByteArray} {d : Nat} (h : Sh s u d) (i : Nat) : s.data.toList.getD (d + i) 0 = u.data.toList.getD i 0 := by
  rw [← h.list]
  simp [List.getD, List.getElem?_drop]
theorem Sh.decode {s u : ByteArray} {d : Nat} (h : Sh s u d) (i : Nat) : Utf8.decode s (d + i) = Utf8.decode u i := by
  have e1 : s.data.toList.length = s.size := (Lib.size_eq s).symm
  have e2 : u.data.toList.length = u.size := (Lib.size_eq u).symm
  rw [Lib.decode_N, Lib.decode_N, e1, e2, h.left, Nat.add_assoc, Nat.add_assoc, Nat.add_assoc, h.getD, h.getD, h.getD, h.getD]
def sftO (d : Nat) : Option (Nat × Nat) → Option (Nat × Nat)
  | some (c, j) => some (c, d + j)
  | none => none
theorem Sh.cpS {s u : ByteArray} {d : Nat} (h : Sh s u d) (i : Nat) : cpS s (d + i) = sftO d (cpS u i) := by
  have hm : manyTo (one (Tok.isHex s)) (s.size - (d + i + 1)) (d + i + 1) = d + manyTo (one (Tok.isHex u)) (u.size - (i + 1)) (i + 1) := by
    rw [Nat.add_assoc, h.left]
    exact many_shift h.isHex _ _
  unfold Tok.cpS
  rw [h.inB, hm]
  generalize manyTo (one (Tok.isHex u)) (u.size - (i + 1)) (i + 1) = m
  rw [h.inB, Nat.add_assoc d i 1, h.extract, show d + m - (d + (i + 1)) = m - (i + 1) by omega]
  by_cases h1 : Tok.inB u i 123 123 = true
  · rw [if_pos h1, if_pos h1]
    by_cases h2 : Tok.inB u m 125 125 = true ∧ m - (i + 1) ≤ 6 ∧ i + 1 < m ∧ Lib.validRune (hexV (u.extract (i + 1) m).data.toList : Int) = true
    · rw [if_pos h2, if_pos ⟨h2.1, h2.2.1, by have := h2.2.2.1; omega, h2.2.2.2⟩]
      simp only [sftO, Nat.add_assoc]
    · rw [if_neg h2, if_neg (fun q => h2 ⟨q.1, q.2.1, by have := q.2.2.1; omega, q.2.2.2⟩)]
      rfl
  · rw [if_neg h1, if_neg h1]
    rfl
theorem Sh.escS {s u : ByteArray} {d : Nat} (h : Sh s u d) (i : Nat) : escS s (d + i) = sftO d (escS u i) := by
  unfold Tok.escS
  rw [h.inB, h.inB, h.inB, h.inB, h.inB, h.inB, h.inB, Nat.add_assoc, h.cpS]
  repeat' split
  all_goals first | rfl | (exfalso; simp_all; done)
def Ch.sft (d : Nat) : Ch → Ch
  | .ok c j => .ok c (d + j)
  | .bad e a => .bad e (d + a)
def Tk.sft (d : Nat) : Tk → Tk
  | .tok k n t j => .tok k n t (d + j)
  | .bad e a => .bad e (d + a)
theorem Sh.charS {s u : ByteArray} {d : Nat} (h : Sh s u d) (start i : Nat) : charS s (d + start) (d + i) = (charS u start i).sft d := by
  unfold Tok.charS
  rw [h.endL, h.inB, h.decode, Nat.add_assoc d i 1, h.escS]
  split
  · rfl
  split
  · cases Tok.escS u (i + 1) with
    | none => rfl
    | some q => rfl
  split
  · simp only [Ch.sft, Nat.add_assoc]
  · rfl
theorem Sh.strGo {s u : ByteArray} {d : Nat} (h : Sh s u d) (start : Nat) : ∀ (f i : Nat) (acc : List UInt8), strGo s (d + start) f (d + i) acc = (strGo u start f i acc).sft d
  | 0, i, acc => by rw [Tok.strGo, Tok.strGo]; rfl
  | f + 1, i, acc => by
    rw [Tok.strGo, Tok.strGo, h.inB, h.charS]
    split
    · simp only [Tk.sft, Nat.add_assoc]
    · cases Tok.charS u start i with
      | bad e a => rfl
      | ok c j => exact Sh.strGo h start f j _
theorem Sh.strS {s u : ByteArray} {d : Nat} (h : Sh s u d) (start i : Nat) : strS s (d + start) (d + i) = (strS u start i).sft d := by
  unfold Tok.strS
  rw [show s.size + 1 - (d + i) = u.size + 1 - i by have := h.size; omega]
  exact h.strGo start _ _ _
theorem Sh.clitS {s u : ByteArray} {d : Nat} (h : Sh s u d) (start i : Nat) : clitS s (d + start) (d + i) = (clitS u start i).sft d := by
  unfold Tok.clitS
  rw [h.inB, h.charS]
  split
  · rfl
  · cases Tok.charS u start i with
    | bad e a => rfl
    | ok c j =>
      show clitEnd s (d + start) (.ok c (d + j)) = (clitEnd u start (.ok c j)).sft d
      unfold clitEnd
      simp only
      rw [h.inB, h.endL]
      split
      · simp only [Tk.sft, Nat.add_assoc]
      split
      · rfl
      · rfl
theorem Sh.numS {s u : ByteArray} {d : Nat} (h : Sh s u d) (start i : Nat) : numS s (d + start) (d + i) = (numS u start i).sft d := by
  unfold Tok.numS
  rw [h.left, many_shift h.isDig]
  generalize manyTo (one (Tok.isDig u)) (u.size - i) i = j
  unfold numAt
  rw [h.extract, h.isLet, h.inB]
  split
  · rfl
  · rfl
theorem Sh.wordS {s u : ByteArray} {d : Nat} (h : Sh s u d) (start i : Nat) : wordS s (d + start) (d + i) = (wordS u start i).sft d := by
  unfold Tok.wordS
  rw [h.left, many_shift h.isLD]
  generalize manyTo (one (Tok.isLD u)) (u.size - i) i = j
  rw [h.extract]
  unfold wordAt
  split
  · rfl
  split
  · rfl
  split
  · rfl
  · rfl
theorem Sh.symS {s u : ByteArray} {d : Nat} (h : Sh s u d) (i : Nat) : symS s (d + i) = (symS u i).sft d := by
  unfold Tok.symS
  rw [Nat.add_assoc d i 2, Nat.add_assoc d i 1, h.extract, h.extract]
  have hz := h.size
  by_cases h1 : i + 2 ≤ u.size ∧ (signB (u.extract i (i + 2)).toList || resB (u.extract i (i + 2)).toList) = true
  · rw [if_pos h1, if_pos ⟨by omega, h1.2⟩]
    rfl
  · rw [if_neg h1, if_neg (fun q => h1 ⟨by omega, q.2⟩)]
    split
    · rfl
    · rfl
theorem Sh.tokenS {s u : ByteArray} {d : Nat} (h : Sh s u d) (i : Nat) : tokenS s (d + i) = (tokenS u i).sft d := by
  unfold Tok.tokenS
  rw [h.inB, h.isDig, h.isLet, h.inB, h.inB, h.inB, h.inB, Nat.add_assoc d i 1, h.numS, h.wordS, h.clitS, h.strS, h.symS]
  split
  · rfl
  split
  · rfl
  split
  · rfl
  split
  · rfl
  split
  · rfl
  split
  · rfl
  · rfl
theorem Sh.sepS {s u : ByteArray} {d : Nat} (h : Sh s u d) (i : Nat) : sepS s (d + i) = ((sepS u i).1, d + (sepS u i).2) := by
  rw [sepS_eq, sepS_eq, h.inB, h.inB, h.inB, h.inB, Nat.add_assoc d i 1, h.left, many_shift h.isLine]
  split
  · rfl
  split
  · rfl
  · rfl
theorem sep_shift {s u : ByteArray} {d : Nat} (h : Sh s u d) : ∀ f i, manyTo (Tok.sepS s) f (d + i) = d + manyTo (Tok.sepS u) f i
  | 0, i => rfl
  | f + 1, i => by
    rw [manyTo, manyTo, h.sepS]
    by_cases hq : (Tok.sepS u i).1 = true
    · rw [if_pos hq, if_pos hq]
      exact sep_shift h f _
    · rw [if_neg hq, if_neg hq]
theorem Sh.sepTo {s u : ByteArray} {d : Nat} (h : Sh s u d) (i : Nat) : sepTo s (d + i) = d + sepTo u i := by
  unfold Tok.sepTo
  rw [h.left]
  exact sep_shift h _ _
def T5.sft (d : Nat) (x : T5) : T5 := ⟨x.k, (d : Int) + x.at', x.len, x.n, x.t⟩
def Sr.sft (d : Nat) (acc : List T5) : Sr → Sr
  | .ok l => .ok (acc ++ l.map (T5.sft d))
  | .bad e a => .bad e (d + a)
/-- What is scanned from behind a place is what is scanned of the rest alone, while the list isn't full. -/
theorem scan_shift {s u : ByteArray} {d : Nat} (h : Sh s u d) (pre : List T5) : ∀ (f i : Nat) (acc : List T5), pre.length + acc.length + f ≤ 16384 →
    scanGo s f (d + i) (pre ++ acc.map (T5.sft d)) = (match scanGo u f i acc with
      | .ok l => .ok (pre ++ l.map (T5.sft d))
      | .bad e a => .bad e (d + a))
  | 0, i, acc, _ => by rw [scanGo, scanGo]
  | f + 1, i, acc, hf => by
    have hz := h.size
    rw [scanGo, scanGo, h.tokenS]
    by_cases hi : i < u.size
    · rw [if_pos hi, if_pos (show d + i < s.size by omega)]
      cases ht : Tok.tokenS u i with
      | bad e a => rfl
      | tok k n t j =>
        simp only [Tk.sft]
        rw [if_neg (show ¬ acc.length = 16384 by omega), if_neg (show ¬ (pre ++ acc.map (T5.sft d)).length = 16384 by rw [List.length_append, List.length_map]; omega), h.sepTo]
        have e1 : pre ++ acc.map (T5.sft d) ++ [(⟨k, ((d + i : Nat) : Int), ((d + j : Nat) : Int) - ((d + i : Nat) : Int), n, t⟩ : T5)] = pre ++ (acc ++ [(⟨k, (i : Int), (j : Int) - (i : Int), n, t⟩ : T5)]).map (T5.sft d) := by
          rw [List.map_append, ← List.append_assoc]
          congr 1
          simp only [List.map_cons, List.map_nil, T5.sft]
          congr 2
          omega
        rw [e1]
        exact scan_shift h pre f (Tok.sepTo u j) (acc ++ [⟨k, (i : Int), (j : Int) - (i : Int), n, t⟩]) (by rw [List.length_append, List.length_cons, List.length_nil]; omega)
    · rw [if_neg hi, if_neg (show ¬ d + i < s.size by omega)]
end Go.Proofs.YtljgehammocpkaaGreatDoor.Tok

namespace Go.Proofs.YtljgehammocpkaaGreatDoor.Tok
open Go.RowKit
set_option linter.unusedVariables false

/-- J begins with s and a newline. -/
structure Pre (J s : ByteArray) : Prop where
  size : s.size < J.size
  nl : ∀ h : s.size < J.size, J[s.size].toNat = 10
  get : ∀ i (h : i < s.size) (h2 : i < J.size), J[i] = s[i]
theorem Pre.inB {J s : ByteArray} (h : Pre J s) {i : Nat} (hi : i < s.size) (lo hi' : Int) : inB J i lo hi' = inB s i lo hi' := by
  unfold Tok.inB
  have hz := h.size
  rw [dif_pos hi, dif_pos (show i < J.size by omega), h.get i hi]
theorem Pre.inB' {J s : ByteArray} (h : Pre J s) {i : Nat} (hi : i ≤ s.size) (lo hi' : Int) (hn : ¬ (lo ≤ 10 ∧ 10 ≤ hi')) : Tok.inB J i lo hi' = Tok.inB s i lo hi' := by
  rcases Nat.lt_or_ge i s.size with hl | hl
  · exact h.inB hl lo hi'
  · obtain rfl : i = s.size := by omega
    unfold Tok.inB
    have hz := h.size
    rw [dif_pos hz, dif_neg (Nat.lt_irrefl _), h.nl hz]
    exact decide_eq_false hn
theorem Pre.endL {J s : ByteArray} (h : Pre J s) {i : Nat} (hi : i ≤ s.size) : endL J i = endL s i := by
  unfold Tok.endL
  have hz := h.size
  rcases Nat.lt_or_ge i s.size with hl | hl
  · rw [dif_pos hl, dif_pos (show i < J.size by omega), h.get i hl]
  · obtain rfl : i = s.size := by omega
    rw [dif_pos hz, dif_neg (Nat.lt_irrefl _), h.nl hz]
    rfl
theorem Pre.isDig {J s : ByteArray} (h : Pre J s) {i : Nat} (hi : i ≤ s.size) : isDig J i = isDig s i := by unfold Tok.isDig; rw [h.inB' hi _ _ (by decide)]
theorem Pre.isLet {J s : ByteArray} (h : Pre J s) {i : Nat} (hi : i ≤ s.size) : isLet J i = isLet s i := by unfold Tok.isLet; rw [h.inB' hi _ _ (by decide), h.inB' hi _ _ (by decide)]
theorem Pre.isHex {J s : ByteArray} (h : Pre J s) {i : Nat} (hi : i ≤ s.size) : isHex J i = isHex s i := by unfold Tok.isHex; rw [h.isDig hi, h.inB' hi _ _ (by decide)]
theorem Pre.isLD {J s : ByteArray} (h : Pre J s) {i : Nat} (hi : i ≤ s.size) : isLD J i = isLD s i := by unfold Tok.isLD; rw [h.isLet hi, h.isDig hi]
theorem Pre.isLine {J s : ByteArray} (h : Pre J s) {i : Nat} (hi : i ≤ s.size) : isLine J i = isLine s i := by unfold Tok.isLine; rw [h.endL hi]
theorem many_pre {p q : Nat → Bool} {n : Nat} (h : ∀ i, i ≤ n → p i = q i) (hq : q n = false) : ∀ f g i, i ≤ n → n - i ≤ f → n - i ≤ g → manyTo (one p) f i = manyTo (one q) g i
  | 0, g, i, hi, hf, hg => by
    obtain rfl : i = n := by omega
    rw [manyTo]
    cases g with
    | zero => rfl
    | succ g => rw [manyTo, if_neg (by show ¬ q i = true; rw [hq]; decide)]
  | f + 1, g, i, hi, hf, hg => by
    rw [manyTo]
    by_cases hp : (one p i).1 = true
    · have hpq : q i = true := (h i hi).symm.trans hp
      have hin : i ≠ n := fun e => by rw [e, hq] at hpq; cases hpq
      obtain ⟨g', rfl⟩ : ∃ g', g = g' + 1 := ⟨g - 1, by omega⟩
      rw [if_pos hp, manyTo, if_pos (show (one q i).1 = true from hpq)]
      show manyTo (one p) f (adv (p i) i) = manyTo (one q) g' (adv (q i) i)
      rw [h i hi, hpq, adv_t]
      exact many_pre h hq f g' (i + 1) (by omega) (by omega) (by omega)
    · have hpq : ¬ q i = true := fun e => hp ((h i hi).trans e)
      rw [if_neg hp]
      cases g with
      | zero => rfl
      | succ g => rw [manyTo, if_neg (show ¬ (one q i).1 = true from hpq)]
theorem Pre.many {J s : ByteArray} (h : Pre J s) {P : ByteArray → Nat → Bool} (hP : ∀ i, i ≤ s.size → P J i = P s i) (he : P s s.size = false) {i : Nat} (hi : i ≤ s.size) : manyTo (one (P J)) (J.size - i) i = manyTo (one (P s)) (s.size - i) i :=
  many_pre hP he _ _ i hi (by have := h.size; omega) (Nat.le_refl _)
theorem Pre.list {J s : ByteArray} (h : Pre J s) : J.data.toList.take s.size = s.data.toList := by
  have hz := h.size
  have e1 : J.data.toList.length = J.size := (Lib.size_eq J).symm
  have e2 : s.data.toList.length = s.size := (Lib.size_eq s).symm
  apply List.ext_getElem
  · rw [List.length_take, e1, e2]; omega
  · intro i h1 h2
    rw [List.getElem_take]
    exact h.get i (by rw [← e2]; exact h2) (by omega)
theorem Pre.extract {J s : ByteArray} (h : Pre J s) {i j : Nat} (hj : j ≤ s.size) : J.extract i j = s.extract i j := by
  have e : (J.extract i j).data.toList = (s.extract i j).data.toList := by
    rw [extract_list, extract_list, ← h.list, List.drop_take, List.take_take, Nat.min_eq_left (by omega)]
  have a1 := arr_list' (J.extract i j)
  have a2 := arr_list' (s.extract i j)
  rw [← a1, e, a2]
theorem Pre.getD {J s : ByteArray} (h : Pre J s) {i : Nat} (hi : i < s.size) : J.data.toList.getD i 0 = s.data.toList.getD i 0 := by
  rw [← h.list]
  simp [List.getD, hi]
theorem Pre.getN {J s : ByteArray} (h : Pre J s) : (J.data.toList.getD s.size 0).toNat = 10 := by
  have hz := h.size
  have e1 : J.data.toList.length = J.size := (Lib.size_eq J).symm
  rw [List.getD_eq_getElem?_getD, List.getElem?_eq_getElem (by rw [e1]; exact hz)]
  exact h.nl hz
theorem decodeN_cut (n b0 b1 b2 b3 c1 c2 c3 m : Nat) (h1 : 1 < n → b1 = c1) (h1' : n = 1 → c1 = 10) (h2 : 2 < n → b2 = c2) (h2' : n = 2 → c2 = 10) (h3 : 3 < n → b3 = c3) (h3' : n = 3 → c3 = 10) (hn : 0 < n) (hm : n < m) :
    Lib.decodeN m b0 c1 c2 c3 = Lib.decodeN n b0 b1 b2 b3 := by
  unfold Lib.decodeN
  by_cases k1 : n = 1
  · have := h1' k1
    subst k1; subst this
    simp
  have e1 := h1 (by omega)
  subst e1
  by_cases k2 : n = 2
  · have := h2' k2
    subst k2; subst this
    simp [show 1 < m by omega]
  have e2 := h2 (by omega)
  subst e2
  by_cases k3 : n = 3
  · have := h3' k3
    subst k3; subst this
    simp [show 1 < m by omega, show 2 < m by omega]
  have e3 := h3 (by omega)
  subst e3
  simp [show 1 < m by omega, show 2 < m by omega, show 3 < m by omega, show 1 < n by omega, show 2 < n by omega, show 3 < n by omega]
theorem Pre.decode {J s : ByteArray} (h : Pre J s) {i : Nat} (hi : i < s.size) : Utf8.decode J i = Utf8.decode s i := by
  have hz := h.size
  have e1 : J.data.toList.length = J.size := (Lib.size_eq J).symm
  have e2 : s.data.toList.length = s.size := (Lib.size_eq s).symm
  have hN := h.getN
  rw [Lib.decode_N, Lib.decode_N, e1, e2, h.getD hi]
  refine decodeN_cut _ _ _ _ _ _ _ _ _ (fun g => by rw [h.getD (by omega)]) (fun g => ?_) (fun g => by rw [h.getD (by omega)]) (fun g => ?_) (fun g => by rw [h.getD (by omega)]) (fun g => ?_) (by omega) (by omega)
  · rw [show i + 1 = s.size by omega]; exact hN
  · rw [show i + 2 = s.size by omega]; exact hN
  · rw [show i + 3 = s.size by omega]; exact hN
theorem isDig_end (s : ByteArray) : Tok.isDig s s.size = false := by
  cases h : Tok.isDig s s.size
  · rfl
  · exact absurd (isDig_lt h) (Nat.lt_irrefl _)
theorem isHex_end (s : ByteArray) : Tok.isHex s s.size = false := by
  cases h : Tok.isHex s s.size
  · rfl
  · exact absurd (isHex_lt h) (Nat.lt_irrefl _)
theorem isLD_end (s : ByteArray) : Tok.isLD s s.size = false := by
  cases h : Tok.isLD s s.size
  · rfl
  · exact absurd (isLD_lt h) (Nat.lt_irrefl _)
theorem Pre.cpS {J s : ByteArray} (h : Pre J s) {i : Nat} (hi : i ≤ s.size) : cpS J i = cpS s i := by
  unfold Tok.cpS
  rw [h.inB' hi _ _ (by decide)]
  by_cases h1 : Tok.inB s i 123 123 = true
  · have hlt := inB_lt h1
    have g := many_le s (i + 1) (by omega)
    rw [if_pos h1, if_pos h1, h.many (fun i hi => h.isHex hi) (isHex_end s) (show i + 1 ≤ s.size by omega)]
    generalize manyTo (one (Tok.isHex s)) (s.size - (i + 1)) (i + 1) = m at g
    rw [h.inB' g.2 _ _ (by decide), h.extract g.2]
  · rw [if_neg h1, if_neg h1]
theorem Pre.escS {J s : ByteArray} (h : Pre J s) {i : Nat} (hi : i ≤ s.size) : escS J i = escS s i := by
  unfold Tok.escS
  rw [h.inB' hi _ _ (by decide), h.inB' hi _ _ (by decide), h.inB' hi _ _ (by decide), h.inB' hi _ _ (by decide), h.inB' hi _ _ (by decide), h.inB' hi _ _ (by decide), h.inB' hi _ _ (by decide)]
  by_cases h1 : Tok.inB s i 117 117 = true
  · rw [h.cpS (show i + 1 ≤ s.size from inB_lt h1)]
  · rw [if_neg h1, if_neg h1]
theorem Pre.charS {J s : ByteArray} (h : Pre J s) (start : Nat) {i : Nat} (hi : i ≤ s.size) : charS J start i = charS s start i := by
  unfold Tok.charS
  rw [h.endL hi]
  by_cases h1 : Tok.endL s i = true
  · rw [if_pos h1, if_pos h1]
  · have hlt := endL_lt h1
    rw [if_neg h1, if_neg h1, h.inB hlt, h.escS (show i + 1 ≤ s.size from hlt), h.decode hlt]
theorem Pre.strGo {J s : ByteArray} (h : Pre J s) (start : Nat) : ∀ (f g i : Nat) (acc : List UInt8), i ≤ s.size → s.size + 1 - i ≤ f → s.size + 1 - i ≤ g → strGo J start f i acc = strGo s start g i acc
  | 0, g, i, acc, hi, hf, hg => by omega
  | f + 1, g, i, acc, hi, hf, hg => by
    obtain ⟨g', rfl⟩ : ∃ g', g = g' + 1 := ⟨g - 1, by omega⟩
    rw [Tok.strGo, Tok.strGo, h.inB' hi _ _ (by decide), h.charS start hi]
    by_cases h1 : Tok.inB s i 34 34 = true
    · rw [if_pos h1, if_pos h1]
    · rw [if_neg h1, if_neg h1]
      cases hc : Tok.charS s start i with
      | bad e a => rfl
      | ok c j =>
        have := charS_le hc
        exact Pre.strGo h start f g' j _ this.2.1 (by omega) (by omega)
theorem Pre.clitS {J s : ByteArray} (h : Pre J s) (start : Nat) {i : Nat} (hi : i ≤ s.size) : clitS J start i = clitS s start i := by
  unfold Tok.clitS
  rw [h.inB' hi _ _ (by decide), h.charS start hi]
  by_cases h1 : Tok.inB s i 39 39 = true
  · rw [if_pos h1, if_pos h1]
  · rw [if_neg h1, if_neg h1]
    cases hc : Tok.charS s start i with
    | bad e a => rfl
    | ok c j =>
      have := charS_le hc
      unfold clitEnd
      simp only
      rw [h.inB' this.2.1 _ _ (by decide), h.endL this.2.1]
theorem Pre.numS {J s : ByteArray} (h : Pre J s) (start : Nat) {i : Nat} (hi : i ≤ s.size) : numS J start i = numS s start i := by
  have g := manyTo_ge (goes_one (n := s.size) (p := Tok.isDig s) fun i h => isDig_lt h) (s.size - i) i hi
  unfold Tok.numS
  rw [h.many (fun i hi => h.isDig hi) (isDig_end s) hi]
  generalize manyTo (one (Tok.isDig s)) (s.size - i) i = j at g
  unfold numAt
  rw [h.extract g.2, h.isLet g.2, h.inB' g.2 _ _ (by decide)]
theorem Pre.wordS {J s : ByteArray} (h : Pre J s) (start : Nat) {i : Nat} (hi : i ≤ s.size) : wordS J start i = wordS s start i := by
  have g := manyTo_ge (goes_one (n := s.size) (p := Tok.isLD s) fun i h => isLD_lt h) (s.size - i) i hi
  unfold Tok.wordS
  rw [h.many (fun i hi => h.isLD hi) (isLD_end s) hi, h.extract g.2]
theorem no_nl (c : UInt8) : (signB [c, 10] || resB [c, 10]) = false := by
  have k1 : ∀ w ∈ signWords, w.getLast? ≠ some 10 := by decide
  have k2 : ∀ w ∈ resWords, w.getLast? ≠ some 10 := by decide
  have e1 : signB [c, 10] = false := by
    rw [signB, List.any_eq_false]
    intro w hw he
    have := k1 w hw
    rw [← eq_of_beq he] at this
    exact this rfl
  have e2 : resB [c, 10] = false := by
    rw [resB, List.any_eq_false]
    intro w hw he
    have := k2 w hw
    rw [← eq_of_beq he] at this
    exact this rfl
  rw [e1, e2]
  rfl
theorem Pre.two {J s : ByteArray} (h : Pre J s) {i : Nat} (hi : i + 1 = s.size) : ∃ c, (J.extract i (i + 2)).toList = [c, 10] := by
  have hz := h.size
  have e1 : J.data.toList.length = J.size := (Lib.size_eq J).symm
  rw [ByteArray.toList_eq, extract_list, show i + 2 - i = 2 by omega]
  rw [List.drop_eq_getElem_cons (show i < J.data.toList.length by omega), List.drop_eq_getElem_cons (show i + 1 < J.data.toList.length by omega)]
  refine ⟨J.data.toList[i]'(by omega), ?_⟩
  simp only [List.take_succ_cons, List.take_zero]
  congr 2
  have hn := h.nl hz
  have : J.data.toList[i + 1]'(by omega) = J[s.size] := by
    show J[i + 1]'(by omega) = J[s.size]
    congr 1
  rw [this]
  exact UInt8.toNat.inj (by rw [hn]; rfl)
theorem Pre.symS {J s : ByteArray} (h : Pre J s) {i : Nat} (hi : i < s.size) : symS J i = symS s i := by
  have hz := h.size
  unfold Tok.symS
  rw [h.extract (show i + 1 ≤ s.size from hi)]
  by_cases h2 : i + 2 ≤ s.size
  · rw [h.extract h2]
    by_cases k : (signB (s.extract i (i + 2)).toList || resB (s.extract i (i + 2)).toList) = true
    · rw [if_pos ⟨by omega, k⟩, if_pos ⟨h2, k⟩]
    · have kA : ¬ (i + 2 ≤ J.size ∧ (signB (s.extract i (i + 2)).toList || resB (s.extract i (i + 2)).toList) = true) := fun q => k q.2
      have kB : ¬ (i + 2 ≤ s.size ∧ (signB (s.extract i (i + 2)).toList || resB (s.extract i (i + 2)).toList) = true) := fun q => k q.2
      rw [if_neg kA, if_neg kB]
  · obtain ⟨c, hc⟩ := h.two (show i + 1 = s.size by omega)
    have kA : ¬ (i + 2 ≤ J.size ∧ (signB (J.extract i (i + 2)).toList || resB (J.extract i (i + 2)).toList) = true) := fun q => by
      have := q.2
      rw [hc, no_nl] at this
      cases this
    have kB : ¬ (i + 2 ≤ s.size ∧ (signB (s.extract i (i + 2)).toList || resB (s.extract i (i + 2)).toList) = true) := fun q => h2 q.1
    rw [if_neg kA, if_neg kB]
theorem Pre.tokenS {J s : ByteArray} (h : Pre J s) {i : Nat} (hi : i < s.size) : tokenS J i = tokenS s i := by
  have hz := h.size
  have h1 : i + 1 ≤ s.size := hi
  unfold Tok.tokenS
  rw [h.inB hi, h.isDig (Nat.le_of_lt hi), h.isLet (Nat.le_of_lt hi), h.inB hi, h.inB hi, h.inB hi, h.inB hi, h.numS i h1, h.wordS i h1, h.clitS i h1, h.symS hi]
  have e : strS J i (i + 1) = strS s i (i + 1) := by
    unfold strS
    exact h.strGo i _ _ _ _ h1 (by omega) (Nat.le_refl _)
  rw [e]
theorem isLine_end (s : ByteArray) : Tok.isLine s s.size = false := by
  unfold Tok.isLine Tok.endL
  rw [dif_neg (Nat.lt_irrefl _)]
  rfl
theorem Pre.sepS {J s : ByteArray} (h : Pre J s) {i : Nat} (hi : i ≤ s.size) : sepS J i = sepS s i := by
  rw [sepS_eq, sepS_eq, h.inB' hi _ _ (by decide), h.inB' hi _ _ (by decide), h.inB' hi _ _ (by decide), h.inB' hi _ _ (by decide)]
  by_cases h1 : Tok.inB s i 35 35 = true
  · rw [if_pos h1, if_pos h1, h.many (fun i hi => h.isLine hi) (isLine_end s) (show i + 1 ≤ s.size from inB_lt h1)]
  · rw [if_neg h1, if_neg h1]
theorem sep_pre {J s : ByteArray} (h : Pre J s) : ∀ f g i, i ≤ s.size → s.size - i ≤ f → s.size - i ≤ g → manyTo (Tok.sepS J) f i = manyTo (Tok.sepS s) g i
  | 0, g, i, hi, hf, hg => by
    obtain rfl : i = s.size := by omega
    rw [manyTo]
    cases g with
    | zero => rfl
    | succ g =>
      have : ¬ (Tok.sepS s s.size).1 = true := fun e => by
        have := ((goes_sep s) s.size (Nat.le_refl _)).1 e
        omega
      rw [manyTo, if_neg this]
  | f + 1, g, i, hi, hf, hg => by
    rw [manyTo, h.sepS hi]
    by_cases hp : (Tok.sepS s i).1 = true
    · have hs := ((goes_sep s) i hi).1 hp
      obtain ⟨g', rfl⟩ : ∃ g', g = g' + 1 := ⟨g - 1, by omega⟩
      rw [if_pos hp, manyTo, if_pos hp]
      exact sep_pre h f g' _ hs.2 (by omega) (by omega)
    · rw [if_neg hp]
      cases g with
      | zero => rfl
      | succ g => rw [manyTo, if_neg hp]
theorem Pre.sepTo {J s : ByteArray} (h : Pre J s) {i : Nat} (hi : i ≤ s.size) : sepTo J i = sepTo s i := by
  unfold Tok.sepTo
  exact sep_pre h _ _ i hi (by have := h.size; omega) (Nat.le_refl _)
/-- The newline is a token of its own. -/
theorem Pre.brk {J s : ByteArray} (h : Pre J s) : Tok.tokenS J s.size = .tok 6 0 ⟨#[]⟩ (s.size + 1) := by
  have hz := h.size
  have hb : ∀ lo hi : Int, Tok.inB J s.size lo hi = decide (lo ≤ 10 ∧ 10 ≤ hi) := fun lo hi => by
    unfold Tok.inB
    rw [dif_pos hz, h.nl hz]
    rfl
  unfold Tok.tokenS Tok.isDig Tok.isLet
  rw [hb, hb, hb, hb, hb, hb, hb]
  rfl
end Go.Proofs.YtljgehammocpkaaGreatDoor.Tok

namespace Go.Proofs.YtljgehammocpkaaGreatDoor.Tok
open Go.RowKit
set_option linter.unusedVariables false

theorem asc_len {s : ByteArray} : ∀ {l : List T5} {e : Nat}, Asc s e l → l.length ≤ s.size - e
  | [], e, _ => Nat.zero_le _
  | x :: r, e, ⟨a, j, h1, h2, h3, h4, h5, h6, h7, h8⟩ => by
    have := asc_len h8
    rw [List.length_cons]; omega
theorem scan_fuel {s : ByteArray} : ∀ (f g i : Nat) (acc : List T5), s.size - i < f → s.size - i < g → scanGo s f i acc = scanGo s g i acc
  | 0, g, i, acc, hf, hg => by omega
  | f + 1, g, i, acc, hf, hg => by
    obtain ⟨g', rfl⟩ : ∃ g', g = g' + 1 := ⟨g - 1, by omega⟩
    rw [scanGo, scanGo]
    by_cases hi : i < s.size
    · rw [if_pos hi, if_pos hi]
      cases ht : tokenS s i with
      | bad e a => rfl
      | tok k n t j =>
        simp only
        have hj := tokenS_le hi ht
        have hp := sepTo_ge (s := s) (i := j) hj.2
        by_cases hl : acc.length = 16384
        · rw [if_pos hl, if_pos hl]
        · rw [if_neg hl, if_neg hl]
          exact scan_fuel f g' _ _ (by omega) (by omega)
    · rw [if_neg hi, if_neg hi]
theorem scan_pre {J s : ByteArray} (h : Pre J s) (F : Nat) : ∀ (g i : Nat) (acc : List T5), i ≤ s.size → s.size - i < g →
    (∀ e a, scanGo s g i acc = .bad e a → scanGo J (F + g) i acc = .bad e a) ∧ (∀ l, scanGo s g i acc = .ok l → ∃ F', F < F' ∧ F' ≤ F + g ∧ scanGo J (F + g) i acc = scanGo J F' s.size l)
  | 0, i, acc, hi, hg => by omega
  | g + 1, i, acc, hi, hg => by
    have hz := h.size
    rw [show F + (g + 1) = F + g + 1 by omega, scanGo]
    by_cases hlt : i < s.size
    · rw [scanGo, if_pos hlt, if_pos (show i < J.size by omega), h.tokenS hlt]
      cases ht : tokenS s i with
      | bad e a => exact ⟨fun e' a' q => q, fun l q => (by cases q)⟩
      | tok k n t j =>
        simp only
        have hj := tokenS_le hlt ht
        have hp := sepTo_ge (s := s) (i := j) hj.2
        by_cases hl : acc.length = 16384
        · rw [if_pos hl, if_pos hl]
          exact ⟨fun e' a' q => q, fun l q => (by cases q)⟩
        · rw [if_neg hl, if_neg hl, h.sepTo hj.2]
          obtain ⟨k1, k2⟩ := scan_pre h F g (sepTo s j) (acc ++ [⟨k, (i : Int), (j : Int) - (i : Int), n, t⟩]) hp.2 (by omega)
          exact ⟨k1, fun l q => by obtain ⟨F', q1, q2, q3⟩ := k2 l q; exact ⟨F', q1, by omega, q3⟩⟩
    · obtain rfl : i = s.size := by omega
      rw [if_neg hlt]
      refine ⟨fun e a q => (by cases q), fun l q => ?_⟩
      injection q with q
      subst q
      exact ⟨F + g + 1, by omega, by omega, rfl⟩
/-- What is scanned of two texts that a newline joins. -/
def joinR (n : Nat) : Sr → Sr → Sr
  | .bad e a, _ => .bad e a
  | .ok l, .ok m => .ok (l ++ [⟨6, (n : Int), 1, 0, ⟨#[]⟩⟩] ++ m.map (T5.sft (n + 1)))
  | .ok _, .bad e a => .bad e (n + 1 + a)
theorem scan_join {J s t : ByteArray} (h : Pre J s) (k : Sh J t (s.size + 1)) (hs : s.size ≤ 2000) (ht : t.size ≤ 2000) : scanS J = joinR s.size (scanS s) (scanS t) := by
  have hz := k.size
  have hp := sepTo_ge (s := s) (i := 0) (Nat.zero_le _)
  obtain ⟨k1, k2⟩ := scan_pre h (t.size + 1) (s.size + 1) (sepTo s 0) [] hp.2 (by omega)
  have e0 : scanS J = scanGo J (t.size + 1 + (s.size + 1)) (sepTo s 0) [] := by
    unfold scanS
    rw [h.sepTo (Nat.zero_le _), show J.size + 1 = t.size + 1 + (s.size + 1) by omega]
  cases hr : scanS s with
  | bad e a =>
    rw [e0, k1 e a hr]
    rfl
  | ok l =>
    obtain ⟨F', f1, f2, f3⟩ := k2 l hr
    obtain ⟨f, rfl⟩ : ∃ f, F' = f + 1 := ⟨F' - 1, by omega⟩
    have hl := asc_len (scanS_asc hr).1
    have hpt := sepTo_ge (s := t) (i := 0) (Nat.zero_le _)
    have e1 : sepTo J (s.size + 1) = s.size + 1 + sepTo t 0 := k.sepTo 0
    have sh := scan_shift k (l ++ [⟨6, (s.size : Int), 1, 0, ⟨#[]⟩⟩]) f (sepTo t 0) [] (by rw [List.length_append, List.length_cons, List.length_nil]; omega)
    rw [List.map_nil, List.append_nil] at sh
    have e2 : scanGo t f (sepTo t 0) [] = scanS t := scan_fuel _ _ _ _ (by omega) (by omega)
    rw [e2] at sh
    have e3 : scanGo J (f + 1) s.size l = scanGo J f (s.size + 1 + sepTo t 0) (l ++ [⟨6, (s.size : Int), 1, 0, ⟨#[]⟩⟩]) := by
      rw [scanGo, if_pos h.size, h.brk]
      simp only
      rw [if_neg (show ¬ l.length = 16384 by omega), e1, show (((s.size + 1 : Nat) : Int) - (s.size : Int)) = 1 by omega]
    rw [e0, f3, e3, sh]
    cases scanS t with
    | bad e a => rfl
    | ok m => rfl
end Go.Proofs.YtljgehammocpkaaGreatDoor.Tok

namespace Go.Proofs.YtljgehammocpkaaGreatDoor.Tok
open Go.RowKit
set_option linter.unusedVariables false

theorem join_size (s t : ByteArray) : (s ++ ⟨#[10]⟩ ++ t).size = s.size + 1 + t.size := by
  rw [ByteArray.size_append, ByteArray.size_append]; rfl
theorem join_list (s t : ByteArray) : (s ++ ⟨#[10]⟩ ++ t).data.toList = s.data.toList ++ [10] ++ t.data.toList := by simp [ByteArray.data_append]
theorem get_of (s : ByteArray) (i : Nat) (h : i < s.size) : s.data.toList[i]? = some s[i] := by
  have : i < s.data.toList.length := by rw [← Lib.size_eq]; exact h
  rw [List.getElem?_eq_getElem this]
  rfl
theorem pre_join (s t : ByteArray) : Pre (s ++ ⟨#[10]⟩ ++ t) s := by
  have hz := join_size s t
  have e2 : s.data.toList.length = s.size := (Lib.size_eq s).symm
  refine ⟨by omega, fun h => ?_, fun i h h2 => ?_⟩
  · have e := get_of _ _ h
    rw [join_list, List.append_assoc, List.getElem?_append_right (by omega), e2, Nat.sub_self] at e
    have : (10 : UInt8) = (s ++ ⟨#[10]⟩ ++ t)[s.size] := by simpa using e
    rw [← this]; rfl
  · have e := get_of _ _ h2
    rw [join_list, List.append_assoc, List.getElem?_append_left (by omega), get_of s i h] at e
    exact (Option.some.inj e).symm
theorem sh_join (s t : ByteArray) : Sh (s ++ ⟨#[10]⟩ ++ t) t (s.size + 1) := by
  have hz := join_size s t
  have e2 : s.data.toList.length = s.size := (Lib.size_eq s).symm
  refine ⟨by omega, fun i h h2 => ?_⟩
  have e := get_of _ _ h2
  rw [join_list, List.getElem?_append_right (by rw [List.length_append, List.length_cons, List.length_nil]; omega), List.length_append, List.length_cons, List.length_nil, e2, show s.size + 1 + i - (s.size + (0 + 1)) = i by omega, get_of t i h] at e
  exact (Option.some.inj e).symm
theorem scan_joined (s t : ByteArray) (hs : s.size ≤ 2000) (ht : t.size ≤ 2000) : scanS (s ++ ⟨#[10]⟩ ++ t) = joinR s.size (scanS s) (scanS t) := scan_join (pre_join s t) (sh_join s t) hs ht

set_option maxRecDepth 100000 in
set_option maxHeartbeats 4000000 in
theorem shapesN (w : World) : Calls Tryz.prog 37 #[.slice none 0 0, .slice none 0 0] w fun e w' => e = .returned (.bool true) ∧ w = w' := by
  go_enter Tryz.func37, Tryz.ntmps37
  go_wp2
  go_loopw [5] (fun i wr => i = .int .i64 0 ∧ w = wr) (fun _ _ => 0)
  case atStart => exact ⟨rfl, by first | rfl | trivial⟩
  case round =>
    obtain ⟨rfl, rfl⟩ := hrel
    go_wp2
    go_ret
    exact ⟨rfl, rfl⟩
theorem new5b (w : World) (c0 c1 c2 c3 c4 : Value) (T : TypeId) : (w.alloc (.cells #[c0, c1, c2, c3, c4] T)).cell? ⟨w.heap.size, 0, none⟩ = some c0 ∧ (w.alloc (.cells #[c0, c1, c2, c3, c4] T)).cell? ⟨w.heap.size, 1, none⟩ = some c1 ∧ (w.alloc (.cells #[c0, c1, c2, c3, c4] T)).cell? ⟨w.heap.size, 2, none⟩ = some c2 ∧ (w.alloc (.cells #[c0, c1, c2, c3, c4] T)).cell? ⟨w.heap.size, 3, none⟩ = some c3 ∧ (w.alloc (.cells #[c0, c1, c2, c3, c4] T)).cell? ⟨w.heap.size, 4, none⟩ = some c4 := by
  refine ⟨?_, ?_, ?_, ?_, ?_⟩ <;> (rw [World.cell?_alloc_new]; rfl)
set_option maxRecDepth 100000 in
set_option maxHeartbeats 4000000 in
theorem sameFaultR (e a : Int) (w : World) : Calls Tryz.prog 14 #[.agg #[.int .i64 e, .int .i64 a, .slice none 0 0, .slice none 0 0, .string ⟨#[]⟩], .agg #[.int .i64 e, .int .i64 a, .slice none 0 0, .slice none 0 0, .string ⟨#[]⟩]] w fun r w' => r = .returned (.bool true) ∧ Below w.heap.size w w' := by
  have B := Below.then (below_new w (.cells #[.int .i64 e, .int .i64 a, .slice none 0 0, .slice none 0 0, .string ⟨#[]⟩] 27)) (below_new _ (.cells #[.int .i64 e, .int .i64 a, .slice none 0 0, .slice none 0 0, .string ⟨#[]⟩] 27))
  go_enter Tryz.func14, Tryz.ntmps14
  go_wp2_with (go_at_call 37; with_reducible refine (shapesN _).mono ?_; rintro e1 w1 ⟨rfl, rfl⟩)
  go_ret
  exact ⟨rfl, B⟩
end Go.Proofs.YtljgehammocpkaaGreatDoor.Tok
