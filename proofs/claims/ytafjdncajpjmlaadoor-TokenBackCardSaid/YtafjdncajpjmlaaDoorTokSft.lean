/-
  Layer 8: a text that stands behind another is read as it is read alone, all places greater by as much.
-/
import Derived.Test.YtafjdncajpjmlaaDoorTokPl0
namespace Go.Proofs.YtafjdncajpjmlaaDoor.Tok
open Go.RowKit
set_option linter.unusedVariables false

/-- From d on, s is u. -/
structure Sh (s u : ByteArray) (d : Nat) : Prop where
  size : s.size = d + u.size
  get : ∀ i (h : i < u.size) (h2 : d + i < s.size), s[d + i] = u[i]
theorem Sh.inB {s u : ByteArray} {d : Nat} (h : Sh s u d) (i : Nat) (lo hi : Int) : inB s (d + i) lo hi = inB u i lo hi := by
  unfold Tok.inB
  have hz := h.size
  by_cases hi : i < u.size
  · rw [dif_pos hi, dif_pos (show d + i < s.size by omega), h.get i hi]
  · rw [dif_neg hi, dif_neg (show ¬ d + i < s.size by omega)]
theorem Sh.endL {s u : ByteArray} {d : Nat} (h : Sh s u d) (i : Nat) : endL s (d + i) = endL u i := by
  unfold Tok.endL
  have hz := h.size
  by_cases hi : i < u.size
  · rw [dif_pos hi, dif_pos (show d + i < s.size by omega), h.get i hi]
  · rw [dif_neg hi, dif_neg (show ¬ d + i < s.size by omega)]
theorem Sh.isLet {s u : ByteArray} {d : Nat} (h : Sh s u d) (i : Nat) : isLet s (d + i) = isLet u i := by unfold Tok.isLet; rw [h.inB, h.inB]
theorem Sh.isDig {s u : ByteArray} {d : Nat} (h : Sh s u d) (i : Nat) : isDig s (d + i) = isDig u i := by unfold Tok.isDig; rw [h.inB]
theorem Sh.isHex {s u : ByteArray} {d : Nat} (h : Sh s u d) (i : Nat) : isHex s (d + i) = isHex u i := by unfold Tok.isHex; rw [h.isDig, h.inB]
theorem Sh.isLD {s u : ByteArray} {d : Nat} (h : Sh s u d) (i : Nat) : isLD s (d + i) = isLD u i := by unfold Tok.isLD; rw [h.isLet, h.isDig]
theorem Sh.isLine {s u : ByteArray} {d : Nat} (h : Sh s u d) (i : Nat) : isLine s (d + i) = isLine u i := by unfold Tok.isLine; rw [h.endL]
theorem many_shift {p q : Nat → Bool} {d : Nat} (h : ∀ i, p (d + i) = q i) : ∀ f i, manyTo (one p) f (d + i) = d + manyTo (one q) f i
  | 0, i => rfl
  | f + 1, i => by
    rw [manyTo, manyTo]
    have e1 : (one p (d + i)).1 = (one q i).1 := h i
    by_cases hq : (one q i).1 = true
    · rw [if_pos hq, if_pos (e1.trans hq)]
      show manyTo (one p) f (adv (p (d + i)) (d + i)) = d + manyTo (one q) f (adv (q i) i)
      rw [h, show q i = true from hq, adv_t, adv_t, Nat.add_assoc]
      exact many_shift h f (i + 1)
    · rw [if_neg hq, if_neg (fun g => hq (e1.symm.trans g))]
theorem Sh.left {s u : ByteArray} {d : Nat} (h : Sh s u d) (i : Nat) : s.size - (d + i) = u.size - i := by have := h.size; omega
theorem Sh.list {s u : ByteArray} {d : Nat} (h : Sh s u d) : s.data.toList.drop d = u.data.toList := by
  have hz := h.size
  have e1 : s.data.toList.length = s.size := (Lib.size_eq s).symm
  have e2 : u.data.toList.length = u.size := (Lib.size_eq u).symm
  apply List.ext_getElem
  · rw [List.length_drop, e1, e2]; omega
  · intro i h1 h2
    rw [List.getElem_drop]
    exact h.get i (by rw [← e2]; exact h2) (by omega)
theorem arr_list' (t : ByteArray) : (⟨t.data.toList.toArray⟩ : ByteArray) = t := by cases t; simp
theorem Sh.extract {s u : ByteArray} {d : Nat} (h : Sh s u d) (i j : Nat) : s.extract (d + i) (d + j) = u.extract i j := by
  have e : (s.extract (d + i) (d + j)).data.toList = (u.extract i j).data.toList := by
    rw [extract_list, extract_list, ← h.list, List.drop_drop, show d + j - (d + i) = j - i by omega]
  have a1 := arr_list' (s.extract (d + i) (d + j))
  have a2 := arr_list' (u.extract i j)
  rw [← a1, e, a2]
theorem Sh.getD {s u : ByteArray} {d : Nat} (h : Sh s u d) (i : Nat) : s.data.toList.getD (d + i) 0 = u.data.toList.getD i 0 := by
  rw [← h.list]
  simp [List.getD, List.getElem?_drop]
theorem Sh.decode {s u : ByteArray} {d : Nat} (h : Sh s u d) (i : Nat) : Utf8.decode s (d + i) = Utf8.decode u i := by
  have e1 : s.data.toList.length = s.size := (Lib.size_eq s).symm
  have e2 : u.data.toList.length = u.size := (Lib.size_eq u).symm
  rw [Lib.decode_N, Lib.decode_N, e1, e2, h.left, Nat.add_assoc, Nat.add_assoc, Nat.add_assoc, h.getD, h.getD, h.getD, h.getD]
def sftO (d : Nat) : Option (Nat × Nat) → Option (Nat × Nat)
  | some (c, j) => some (c, d + j)
  | none => none
theorem Sh.cpS {s u : ByteArray} {d : Nat} (h : Sh s u d) (i : Nat) : cpS s (d + i) = sftO d (cpS u i) := by
  have hm : manyTo (one (Tok.isHex s)) (s.size - (d + i + 1)) (d + i + 1) = d + manyTo (one (Tok.isHex u)) (u.size - (i + 1)) (i + 1) := by
    rw [Nat.add_assoc, h.left]
    exact many_shift h.isHex _ _
  unfold Tok.cpS
  rw [h.inB, hm]
  generalize manyTo (one (Tok.isHex u)) (u.size - (i + 1)) (i + 1) = m
  rw [h.inB, Nat.add_assoc d i 1, h.extract, show d + m - (d + (i + 1)) = m - (i + 1) by omega]
  by_cases h1 : Tok.inB u i 123 123 = true
  · rw [if_pos h1, if_pos h1]
    by_cases h2 : Tok.inB u m 125 125 = true ∧ m - (i + 1) ≤ 6 ∧ i + 1 < m ∧ Lib.validRune (hexV (u.extract (i + 1) m).data.toList : Int) = true
    · rw [if_pos h2, if_pos ⟨h2.1, h2.2.1, by have := h2.2.2.1; omega, h2.2.2.2⟩]
      simp only [sftO, Nat.add_assoc]
    · rw [if_neg h2, if_neg (fun q => h2 ⟨q.1, q.2.1, by have := q.2.2.1; omega, q.2.2.2⟩)]
      rfl
  · rw [if_neg h1, if_neg h1]
    rfl
theorem Sh.escS {s u : ByteArray} {d : Nat} (h : Sh s u d) (i : Nat) : escS s (d + i) = sftO d (escS u i) := by
  unfold Tok.escS
  rw [h.inB, h.inB, h.inB, h.inB, h.inB, h.inB, h.inB, Nat.add_assoc, h.cpS]
  repeat' split
  all_goals first | rfl | (exfalso; simp_all; done)
def Ch.sft (d : Nat) : Ch → Ch
  | .ok c j => .ok c (d + j)
  | .bad e a => .bad e (d + a)
def Tk.sft (d : Nat) : Tk → Tk
  | .tok k n t j => .tok k n t (d + j)
  | .bad e a => .bad e (d + a)
theorem Sh.charS {s u : ByteArray} {d : Nat} (h : Sh s u d) (start i : Nat) : charS s (d + start) (d + i) = (charS u start i).sft d := by
  unfold Tok.charS
  rw [h.endL, h.inB, h.decode, Nat.add_assoc d i 1, h.escS]
  split
  · rfl
  split
  · cases Tok.escS u (i + 1) with
    | none => rfl
    | some q => rfl
  split
  · simp only [Ch.sft, Nat.add_assoc]
  · rfl
theorem Sh.strGo {s u : ByteArray} {d : Nat} (h : Sh s u d) (start : Nat) : ∀ (f i : Nat) (acc : List UInt8), strGo s (d + start) f (d + i) acc = (strGo u start f i acc).sft d
  | 0, i, acc => by rw [Tok.strGo, Tok.strGo]; rfl
  | f + 1, i, acc => by
    rw [Tok.strGo, Tok.strGo, h.inB, h.charS]
    split
    · simp only [Tk.sft, Nat.add_assoc]
    · cases Tok.charS u start i with
      | bad e a => rfl
      | ok c j => exact Sh.strGo h start f j _
theorem Sh.strS {s u : ByteArray} {d : Nat} (h : Sh s u d) (start i : Nat) : strS s (d + start) (d + i) = (strS u start i).sft d := by
  unfold Tok.strS
  rw [show s.size + 1 - (d + i) = u.size + 1 - i by have := h.size; omega]
  exact h.strGo start _ _ _
theorem Sh.clitS {s u : ByteArray} {d : Nat} (h : Sh s u d) (start i : Nat) : clitS s (d + start) (d + i) = (clitS u start i).sft d := by
  unfold Tok.clitS
  rw [h.inB, h.charS]
  split
  · rfl
  · cases Tok.charS u start i with
    | bad e a => rfl
    | ok c j =>
      show clitEnd s (d + start) (.ok c (d + j)) = (clitEnd u start (.ok c j)).sft d
      unfold clitEnd
      simp only
      rw [h.inB, h.endL]
      split
      · simp only [Tk.sft, Nat.add_assoc]
      split
      · rfl
      · rfl
theorem Sh.numS {s u : ByteArray} {d : Nat} (h : Sh s u d) (start i : Nat) : numS s (d + start) (d + i) = (numS u start i).sft d := by
  unfold Tok.numS
  rw [h.left, many_shift h.isDig]
  generalize manyTo (one (Tok.isDig u)) (u.size - i) i = j
  unfold numAt
  rw [h.extract, h.isLet, h.inB]
  split
  · rfl
  · rfl
theorem Sh.wordS {s u : ByteArray} {d : Nat} (h : Sh s u d) (start i : Nat) : wordS s (d + start) (d + i) = (wordS u start i).sft d := by
  unfold Tok.wordS
  rw [h.left, many_shift h.isLD]
  generalize manyTo (one (Tok.isLD u)) (u.size - i) i = j
  rw [h.extract]
  unfold wordAt
  split
  · rfl
  split
  · rfl
  split
  · rfl
  · rfl
theorem Sh.symS {s u : ByteArray} {d : Nat} (h : Sh s u d) (i : Nat) : symS s (d + i) = (symS u i).sft d := by
  unfold Tok.symS
  rw [Nat.add_assoc d i 2, Nat.add_assoc d i 1, h.extract, h.extract]
  have hz := h.size
  by_cases h1 : i + 2 ≤ u.size ∧ (signB (u.extract i (i + 2)).toList || resB (u.extract i (i + 2)).toList) = true
  · rw [if_pos h1, if_pos ⟨by omega, h1.2⟩]
    rfl
  · rw [if_neg h1, if_neg (fun q => h1 ⟨by omega, q.2⟩)]
    split
    · rfl
    · rfl
theorem Sh.tokenS {s u : ByteArray} {d : Nat} (h : Sh s u d) (i : Nat) : tokenS s (d + i) = (tokenS u i).sft d := by
  unfold Tok.tokenS
  rw [h.inB, h.isDig, h.isLet, h.inB, h.inB, h.inB, h.inB, Nat.add_assoc d i 1, h.numS, h.wordS, h.clitS, h.strS, h.symS]
  split
  · rfl
  split
  · rfl
  split
  · rfl
  split
  · rfl
  split
  · rfl
  split
  · rfl
  · rfl
theorem Sh.sepS {s u : ByteArray} {d : Nat} (h : Sh s u d) (i : Nat) : sepS s (d + i) = ((sepS u i).1, d + (sepS u i).2) := by
  rw [sepS_eq, sepS_eq, h.inB, h.inB, h.inB, h.inB, Nat.add_assoc d i 1, h.left, many_shift h.isLine]
  split
  · rfl
  split
  · rfl
  · rfl
theorem sep_shift {s u : ByteArray} {d : Nat} (h : Sh s u d) : ∀ f i, manyTo (Tok.sepS s) f (d + i) = d + manyTo (Tok.sepS u) f i
  | 0, i => rfl
  | f + 1, i => by
    rw [manyTo, manyTo, h.sepS]
    by_cases hq : (Tok.sepS u i).1 = true
    · rw [if_pos hq, if_pos hq]
      exact sep_shift h f _
    · rw [if_neg hq, if_neg hq]
theorem Sh.sepTo {s u : ByteArray} {d : Nat} (h : Sh s u d) (i : Nat) : sepTo s (d + i) = d + sepTo u i := by
  unfold Tok.sepTo
  rw [h.left]
  exact sep_shift h _ _
def T5.sft (d : Nat) (x : T5) : T5 := ⟨x.k, (d : Int) + x.at', x.len, x.n, x.t⟩
def Sr.sft (d : Nat) (acc : List T5) : Sr → Sr
  | .ok l => .ok (acc ++ l.map (T5.sft d))
  | .bad e a => .bad e (d + a)
/-- What is scanned from behind a place is what is scanned of the rest alone, while the list isn't full. -/
theorem scan_shift {s u : ByteArray} {d : Nat} (h : Sh s u d) (pre : List T5) : ∀ (f i : Nat) (acc : List T5), pre.length + acc.length + f ≤ 16384 →
    scanGo s f (d + i) (pre ++ acc.map (T5.sft d)) = (match scanGo u f i acc with
      | .ok l => .ok (pre ++ l.map (T5.sft d))
      | .bad e a => .bad e (d + a))
  | 0, i, acc, _ => by rw [scanGo, scanGo]
  | f + 1, i, acc, hf => by
    have hz := h.size
    rw [scanGo, scanGo, h.tokenS]
    by_cases hi : i < u.size
    · rw [if_pos hi, if_pos (show d + i < s.size by omega)]
      cases ht : Tok.tokenS u i with
      | bad e a => rfl
      | tok k n t j =>
        simp only [Tk.sft]
        rw [if_neg (show ¬ acc.length = 16384 by omega), if_neg (show ¬ (pre ++ acc.map (T5.sft d)).length = 16384 by rw [List.length_append, List.length_map]; omega), h.sepTo]
        have e1 : pre ++ acc.map (T5.sft d) ++ [(⟨k, ((d + i : Nat) : Int), ((d + j : Nat) : Int) - ((d + i : Nat) : Int), n, t⟩ : T5)] = pre ++ (acc ++ [(⟨k, (i : Int), (j : Int) - (i : Int), n, t⟩ : T5)]).map (T5.sft d) := by
          rw [List.map_append, ← List.append_assoc]
          congr 1
          simp only [List.map_cons, List.map_nil, T5.sft]
          congr 2
          omega
        rw [e1]
        exact scan_shift h pre f (Tok.sepTo u j) (acc ++ [⟨k, (i : Int), (j : Int) - (i : Int), n, t⟩]) (by rw [List.length_append, List.length_cons, List.length_nil]; omega)
    · rw [if_neg hi, if_neg (show ¬ d + i < s.size by omega)]
end Go.Proofs.YtafjdncajpjmlaaDoor.Tok
