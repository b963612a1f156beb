/-
  Layer 8: the places of a text's tokens, as plain data.
-/
import Derived.Test.YtljgehammocpkaaGreatDoorTokScan0
import Derived.Test.YtljgehammocpkaaGreatDoorTokResR
import Derived.Lib.Strings
namespace Go.Proofs.YtljgehammocpkaaGreatDoor.Tok
open Go.RowKit
set_option linter.unusedVariables false

def lowC (c : UInt8) : Prop := 97 ≤ c.toNat ∧ c.toNat ≤ 122
def digC (c : UInt8) : Prop := 48 ≤ c.toNat ∧ c.toNat ≤ 57
/-- A name. -/
structure Named (t : ByteArray) : Prop where
  pos : 0 < t.size
  small : t.size ≤ 32
  first : ∀ h : 0 < t.size, lowC t[0]
  all : ∀ i (h : i < t.size), lowC t[i] ∨ digC t[i]
  free : resB t.toList = false
/-- The tokens ascend from e on, lie within the text, and names and symbols are the text at their place. -/
def Asc (s : ByteArray) : Nat → List T5 → Prop
  | _, [] => True
  | e, x :: r => ∃ a j : Nat, x.at' = (a : Int) ∧ x.len = (j : Int) - a ∧ e ≤ a ∧ a < j ∧ j ≤ s.size ∧ ((x.k = 4 ∨ x.k = 5) → x.t = s.extract a j) ∧ (x.k = 4 → Named x.t) ∧ Asc s j r
theorem Asc.mono {s : ByteArray} {e e' : Nat} (he : e' ≤ e) : ∀ {l : List T5}, Asc s e l → Asc s e' l
  | [], _ => trivial
  | x :: r, ⟨a, j, h1, h2, h3, h⟩ => ⟨a, j, h1, h2, Nat.le_trans he h3, h⟩

theorem inB_iff {s : ByteArray} {i lo hi : Nat} (h : i < s.size) : inB s i lo hi = true ↔ lo ≤ s[i].toNat ∧ s[i].toNat ≤ hi := by
  simp only [inB, h, dite_true, decide_eq_true_eq]
  omega
theorem isLet_iff {s : ByteArray} {i : Nat} (h : i < s.size) : isLet s i = true ↔ lowC s[i] ∨ (65 ≤ s[i].toNat ∧ s[i].toNat ≤ 90) := by
  have a := inB_iff (lo := 97) (hi := 122) h
  have b := inB_iff (lo := 65) (hi := 90) h
  simp only [isLet, Bool.or_eq_true, lowC]
  exact or_congr a b
theorem isDig_iff {s : ByteArray} {i : Nat} (h : i < s.size) : isDig s i = true ↔ digC s[i] := inB_iff (lo := 48) (hi := 57) h
theorem many_run {p : Nat → Bool} : ∀ (f i k : Nat), i ≤ k → k < manyTo (one p) f i → p k = true
  | 0, i, k, h1, h2 => by rw [manyTo] at h2; omega
  | f + 1, i, k, h1, h2 => by
    rw [manyTo] at h2
    split at h2
    · rename_i ht
      simp only [one] at ht h2
      rw [ht, adv_t] at h2
      by_cases hk : k = i
      · rw [hk]; exact ht
      · exact many_run f (i + 1) k (by omega) h2
    · omega
theorem get_extract {s : ByteArray} {a m i : Nat} (h : i < (s.extract a m).size) (h' : a + i < s.size) : (s.extract a m)[i] = s[a + i] := by
  have e1 : (s.extract a m)[i] = (s.extract a m).data.toList[i]'(Nat.lt_of_lt_of_eq h (Lib.size_eq _)) := rfl
  have e2 : s[a + i] = s.data.toList[a + i]'(by simpa using h') := rfl
  rw [e1, e2]
  simp only [extract_list, List.getElem_take, List.getElem_drop]
theorem up_not {t : ByteArray} (h : ¬ upB t.toList = true) (i : Nat) (hi : i < t.size) : ¬ (65 ≤ t[i].toNat ∧ t[i].toNat ≤ 90) := by
  intro hc
  apply h
  rw [upB, List.any_eq_true, ByteArray.toList_eq]
  exact ⟨t[i], List.getElem_mem (l := t.data.toList) (n := i) (by simpa using hi), decide_eq_true hc⟩
theorem word_ok {s : ByteArray} {a : Nat} (ha : a < s.size) (hl : isLet s a = true) {k n : Int} {t : ByteArray} {j : Nat} (h : wordS s a (a + 1) = .tok k n t j) :
    t = s.extract a j ∧ (k = 4 → Named t) := by
  have g := manyTo_ge (goes_one (n := s.size) (p := isLD s) fun i h => isLD_lt h) (s.size - (a + 1)) (a + 1) ha
  have hall : ∀ k, a + 1 ≤ k → k < manyTo (one (isLD s)) (s.size - (a + 1)) (a + 1) → isLD s k = true := fun k h1 h2 => many_run _ _ k h1 h2
  unfold wordS at h
  generalize manyTo (one (isLD s)) (s.size - (a + 1)) (a + 1) = m at h g hall
  have hz : (s.extract a m).size = m - a := by rw [ByteArray.size_extract]; omega
  unfold wordAt at h
  split at h
  · injection h with h1 h2 h3 h4
    subst h1; subst h3; subst h4
    exact ⟨rfl, fun hk => absurd hk (by decide)⟩
  rename_i hr
  split at h
  · cases h
  rename_i hu
  split at h
  · cases h
  · rename_i hs
    injection h with h1 h2 h3 h4
    subst h1; subst h3; subst h4
    refine ⟨rfl, fun _ => ⟨by omega, by omega, fun h0 => ?_, fun i hi => ?_, by simpa using hr⟩⟩
    · have h2 := up_not hu 0 h0
      rw [get_extract h0 (by omega)] at h2 ⊢
      have h3 := (isLet_iff (show a + 0 < s.size by omega)).1 hl
      rcases h3 with h3 | h3
      · exact h3
      · exact absurd h3 h2
    · have h2 := up_not hu i hi
      rw [get_extract hi (by omega)] at h2 ⊢
      by_cases hi0 : i = 0
      · subst hi0
        rcases (isLet_iff (show a + 0 < s.size by omega)).1 hl with h3 | h3
        · exact Or.inl h3
        · exact absurd h3 h2
      · have h3 := hall (a + i) (by omega) (by omega)
        simp only [isLD, Bool.or_eq_true] at h3
        rcases h3 with h3 | h3
        · rcases (isLet_iff (show a + i < s.size by omega)).1 h3 with h3 | h3
          · exact Or.inl h3
          · exact absurd h3 h2
        · exact Or.inr ((isDig_iff (by omega)).1 h3)
theorem clit_kind {s : ByteArray} {start i : Nat} {k n : Int} {t : ByteArray} {j : Nat} (h : clitS s start i = .tok k n t j) : ¬ k = 4 ∧ ¬ k = 5 := by
  unfold clitS at h
  split at h
  · cases h
  cases hc : charS s start i with
  | bad e a => rw [hc, clitEnd] at h; cases h
  | ok c j' =>
    rw [hc, clitEnd] at h
    split at h
    · injection h with h1 h2 h3 h4; omega
    split at h
    · cases h
    · cases h
theorem str_kind {s : ByteArray} {start : Nat} : ∀ (f i : Nat) (acc : List UInt8) {k n : Int} {t : ByteArray} {j : Nat}, strGo s start f i acc = .tok k n t j → ¬ k = 4 ∧ ¬ k = 5
  | 0, i, acc, k, n, t, j, h => by rw [strGo] at h; cases h
  | f + 1, i, acc, k, n, t, j, h => by
    rw [strGo] at h
    split at h
    · injection h with h1 h2 h3 h4; omega
    · cases hc : charS s start i with
      | bad e a => rw [hc] at h; cases h
      | ok c j' => rw [hc] at h; exact str_kind f j' _ h
theorem num_kind {s : ByteArray} {start i : Nat} {k n : Int} {t : ByteArray} {j : Nat} (h : numS s start i = .tok k n t j) : ¬ k = 4 ∧ ¬ k = 5 := by
  unfold numS numAt at h
  split at h
  · cases h
  · injection h with h1 h2 h3 h4; omega
theorem token_ok {s : ByteArray} {i : Nat} (hi : i < s.size) {k n : Int} {t : ByteArray} {j : Nat} (h : tokenS s i = .tok k n t j) :
    ((k = 4 ∨ k = 5) → t = s.extract i j) ∧ (k = 4 → Named t) := by
  have no : ¬ k = 4 ∧ ¬ k = 5 → ((k = 4 ∨ k = 5) → t = s.extract i j) ∧ (k = 4 → Named t) := fun q => ⟨fun o => by rcases o with o | o <;> omega, fun o => absurd o q.1⟩
  unfold tokenS at h
  split at h
  · exact no (num_kind h)
  split at h
  · exact no (num_kind h)
  split at h
  · rename_i hl
    have := word_ok hi hl h
    exact ⟨fun _ => this.1, this.2⟩
  split at h
  · exact no (clit_kind h)
  split at h
  · exact no (str_kind _ _ _ h)
  split at h
  · injection h with h1 h2 h3 h4; exact no (by omega)
  · unfold symS at h
    split at h
    · injection h with h1 h2 h3 h4
      subst h1; subst h3; subst h4
      exact ⟨fun _ => rfl, fun o => absurd o (by decide)⟩
    split at h
    · injection h with h1 h2 h3 h4
      subst h1; subst h3; subst h4
      exact ⟨fun _ => rfl, fun o => absurd o (by decide)⟩
    · cases h
theorem char_bad_at {s : ByteArray} {start i : Nat} (h0 : start ≤ s.size) (h1 : i ≤ s.size) {e : Int} {a : Nat} (h : charS s start i = .bad e a) : a ≤ s.size := by
  unfold charS at h
  split at h
  · injection h with h1 h2; omega
  split at h
  · cases hx : escS s (i + 1) with
    | none => rw [hx] at h; injection h with h1 h2; omega
    | some q => rw [hx] at h; cases h
  split at h
  · cases h
  · injection h with h1 h2; omega
theorem str_bad_at {s : ByteArray} {start : Nat} (h0 : start ≤ s.size) : ∀ (f i : Nat) (acc : List UInt8) (h1 : i ≤ s.size) {e : Int} {a : Nat}, strGo s start f i acc = .bad e a → a ≤ s.size
  | 0, i, acc, h1, e, a, h => by rw [strGo] at h; injection h with h1 h2; omega
  | f + 1, i, acc, h1, e, a, h => by
    rw [strGo] at h
    split at h
    · cases h
    · cases hc : charS s start i with
      | bad e' a' =>
        rw [hc] at h
        injection h with h2 h3
        have := char_bad_at h0 h1 hc
        omega
      | ok c j' =>
        rw [hc] at h
        have := charS_le hc
        exact str_bad_at h0 f j' _ (by omega) h
theorem token_bad_at {s : ByteArray} {i a : Nat} (hi : i < s.size) {e : Int} (h : tokenS s i = .bad e a) : a ≤ s.size := by
  unfold tokenS at h
  split at h
  · unfold numS numAt at h
    split at h
    · injection h with h1 h2; omega
    · cases h
  split at h
  · unfold numS numAt at h
    split at h
    · injection h with h1 h2; omega
    · cases h
  split at h
  · unfold wordS wordAt at h
    split at h
    · cases h
    split at h
    · injection h with h1 h2; omega
    split at h
    · injection h with h1 h2; omega
    · cases h
  split at h
  · unfold clitS at h
    split at h
    · injection h with h1 h2; omega
    cases hc : charS s i (i + 1) with
    | bad e' a' =>
      rw [hc, clitEnd] at h
      have := char_bad_at (by omega) hi hc
      injection h with h1 h2; omega
    | ok c j' =>
      rw [hc, clitEnd] at h
      split at h
      · cases h
      split at h
      · injection h with h1 h2; omega
      · injection h with h1 h2; omega
  split at h
  · exact str_bad_at (by omega) _ _ _ hi h
  split at h
  · cases h
  · unfold symS at h
    split at h
    · cases h
    split at h
    · cases h
    · injection h with h1 h2; omega
theorem scan_asc {s : ByteArray} : ∀ (f i : Nat) (acc l : List T5), i ≤ s.size → scanGo s f i acc = .ok l → ∃ r, l = acc ++ r ∧ Asc s i r
  | 0, i, acc, l, hi, h => by rw [scanGo] at h; injection h with h; exact ⟨[], by rw [List.append_nil, h], trivial⟩
  | f + 1, i, acc, l, hi, h => by
    rw [scanGo] at h
    split at h
    · rename_i hlt
      cases ht : tokenS s i with
      | bad e a => rw [ht] at h; cases h
      | tok k n t j =>
        rw [ht] at h
        have hj := tokenS_le hlt ht
        have hk := token_ok hlt ht
        have hp := sepTo_ge (s := s) (i := j) hj.2
        simp only at h
        split at h
        · cases h
        · obtain ⟨r, e, ha⟩ := scan_asc f (sepTo s j) _ l hp.2 h
          refine ⟨⟨k, i, (j : Int) - i, n, t⟩ :: r, by rw [e]; simp, i, j, rfl, rfl, Nat.le_refl _, hj.1, hj.2, hk.1, hk.2, ha.mono hp.1⟩
    · injection h with h; exact ⟨[], by rw [List.append_nil, h], trivial⟩
theorem scan_bad_at {s : ByteArray} : ∀ (f i : Nat) (acc : List T5) {e : Int} {a : Nat}, i ≤ s.size → scanGo s f i acc = .bad e a → a ≤ s.size
  | 0, i, acc, e, a, hi, h => by rw [scanGo] at h; cases h
  | f + 1, i, acc, e, a, hi, h => by
    rw [scanGo] at h
    split at h
    · rename_i hlt
      cases ht : tokenS s i with
      | bad e' a' =>
        rw [ht] at h
        have := token_bad_at hlt ht
        injection h with h1 h2; omega
      | tok k n t j =>
        rw [ht] at h
        have hj := tokenS_le hlt ht
        have hp := sepTo_ge (s := s) (i := j) hj.2
        simp only at h
        split at h
        · injection h with h1 h2; omega
        · exact scan_bad_at f (sepTo s j) _ hp.2 h
    · cases h
theorem scan_len {s : ByteArray} : ∀ (f i : Nat) (acc l : List T5), acc.length ≤ 16384 → scanGo s f i acc = .ok l → l.length ≤ 16384
  | 0, i, acc, l, hi, h => by rw [scanGo] at h; injection h with h; subst h; exact hi
  | f + 1, i, acc, l, hi, h => by
    rw [scanGo] at h
    split at h
    · cases ht : tokenS s i with
      | bad e a => rw [ht] at h; cases h
      | tok k n t j =>
        rw [ht] at h
        simp only at h
        split at h
        · cases h
        · exact scan_len f (sepTo s j) _ l (by simp; omega) h
    · injection h with h; subst h; exact hi
theorem scanS_asc {s : ByteArray} {l : List T5} (h : scanS s = .ok l) : Asc s 0 l ∧ l.length ≤ 16384 := by
  have hp := sepTo_ge (s := s) (i := 0) (Nat.zero_le _)
  obtain ⟨r, e, ha⟩ := scan_asc _ _ _ _ hp.2 h
  rw [List.nil_append] at e
  subst e
  exact ⟨ha.mono (Nat.zero_le _), scan_len _ _ _ _ (by simp) h⟩
theorem scanS_bad {s : ByteArray} {e : Int} {a : Nat} (h : scanS s = .bad e a) : a ≤ s.size := scan_bad_at _ _ _ (sepTo_ge (Nat.zero_le _)).2 h
end Go.Proofs.YtljgehammocpkaaGreatDoor.Tok
