/-
  Layer 8: the tokens of a text, as plain data. (Written by wip/gen/token-scan.py.)
-/
import Derived.Test.YtljgehammocpkaaGreatDoorTokTok
namespace Go.Proofs.YtljgehammocpkaaGreatDoor.Tok
open Go.RowKit
set_option linter.unusedVariables false

structure T5 where
  k : Int
  at' : Int
  len : Int
  n : Int
  t : ByteArray
def cells5 (x : T5) : List Value := [.int .i64 x.k, .int .i64 x.at', .int .i64 x.len, .int .i64 x.n, .string x.t]
def cellsT (l : List T5) : List Value := (l.map cells5).flatten
theorem cellsT_len (l : List T5) : (cellsT l).length = l.length * 5 := by
  induction l with
  | nil => rfl
  | cons x r ih => rw [cellsT, List.map_cons, List.flatten_cons, List.length_append]; rw [cellsT] at ih; rw [ih, List.length_cons]; simp [cells5]; omega
theorem cellsT_snoc (l : List T5) (x : T5) : cellsT (l ++ [x]) = cellsT l ++ cells5 x := by simp [cellsT]
inductive Sr where
  | ok (l : List T5)
  | bad (e : Int) (a : Nat)
def sepTo (s : ByteArray) (i : Nat) : Nat := manyTo (sepS s) (s.size - i) i
theorem sepTo_ge {s : ByteArray} {i : Nat} (h : i ≤ s.size) : i ≤ sepTo s i ∧ sepTo s i ≤ s.size := manyTo_ge (goes_sep s) _ _ h
def scanGo (s : ByteArray) : Nat → Nat → List T5 → Sr
  | 0, _, l => .ok l
  | f + 1, i, l => if i < s.size then match tokenS s i with
    | .bad e a => .bad e a
    | .tok k n t j => if l.length = 16384 then .bad 21 i else scanGo s f (sepTo s j) (l ++ [⟨k, i, (j : Int) - i, n, t⟩])
    else .ok l
def scanS (s : ByteArray) : Sr := scanGo s (s.size + 1) (sepTo s 0) []

theorem strGo_le {s : ByteArray} {start : Nat} : ∀ (f i : Nat) (acc : List UInt8) {k n : Int} {t : ByteArray} {j : Nat}, strGo s start f i acc = .tok k n t j → i < j ∧ j ≤ s.size
  | 0, i, acc, k, n, t, j, h => by rw [strGo] at h; cases h
  | f + 1, i, acc, k, n, t, j, h => by
    rw [strGo] at h
    split at h
    · rename_i hb
      have := inB_lt hb
      injection h with h1 h2 h3 h4
      omega
    · cases hc : charS s start i with
      | bad e a => rw [hc] at h; cases h
      | ok c j' =>
        rw [hc] at h
        have := charS_le hc
        have := strGo_le f j' _ h
        omega
theorem strGo_bad {s : ByteArray} {start : Nat} : ∀ (f i : Nat) (acc : List UInt8) {e : Int} {a : Nat}, strGo s start f i acc = .bad e a → ¬ e = 0
  | 0, i, acc, e, a, h => by rw [strGo] at h; injection h with h1 h2; rw [← h1]; decide
  | f + 1, i, acc, e, a, h => by
    rw [strGo] at h
    split at h
    · cases h
    · cases hc : charS s start i with
      | bad e' a' => rw [hc] at h; injection h with h1 h2; rw [← h1]; exact charS_bad hc
      | ok c j' => rw [hc] at h; exact strGo_bad f j' _ h
theorem numS_le {s : ByteArray} {start i : Nat} (hi : i ≤ s.size) {k n : Int} {t : ByteArray} {j : Nat} (h : numS s start i = .tok k n t j) : i ≤ j ∧ j ≤ s.size := by
  have g := manyTo_ge (goes_one (n := s.size) (p := isDig s) fun i h => isDig_lt h) (s.size - i) i hi
  unfold numS numAt at h
  split at h
  · cases h
  · injection h with h1 h2 h3 h4; omega
theorem wordS_le {s : ByteArray} {start i : Nat} (hi : i ≤ s.size) {k n : Int} {t : ByteArray} {j : Nat} (h : wordS s start i = .tok k n t j) : i ≤ j ∧ j ≤ s.size := by
  have g := manyTo_ge (goes_one (n := s.size) (p := isLD s) fun i h => isLD_lt h) (s.size - i) i hi
  unfold wordS wordAt at h
  split at h
  · injection h with h1 h2 h3 h4; omega
  split at h
  · cases h
  split at h
  · cases h
  · injection h with h1 h2 h3 h4; omega
theorem clitS_le {s : ByteArray} {start i : Nat} {k n : Int} {t : ByteArray} {j : Nat} (h : clitS s start i = .tok k n t j) : i < j ∧ j ≤ s.size := by
  unfold clitS at h
  split at h
  · cases h
  cases hc : charS s start i with
  | bad e a => rw [hc, clitEnd] at h; cases h
  | ok c j' =>
    rw [hc, clitEnd] at h
    have := charS_le hc
    split at h
    · rename_i hb
      have := inB_lt hb
      injection h with h1 h2 h3 h4; omega
    split at h
    · cases h
    · cases h
theorem tokenS_le {s : ByteArray} {i : Nat} (hi : i < s.size) {k n : Int} {t : ByteArray} {j : Nat} (h : tokenS s i = .tok k n t j) : i < j ∧ j ≤ s.size := by
  unfold tokenS at h
  split at h
  · have := numS_le hi h; omega
  split at h
  · have := numS_le hi h; omega
  split at h
  · have := wordS_le hi h; omega
  split at h
  · have := clitS_le h; omega
  split at h
  · have := strGo_le _ _ _ h; omega
  split at h
  · injection h with h1 h2 h3 h4; omega
  · unfold symS at h
    split at h
    · rename_i hb; injection h with h1 h2 h3 h4; omega
    split at h
    · injection h with h1 h2 h3 h4; omega
    · cases h
theorem tokenS_bad {s : ByteArray} {i a : Nat} {e : Int} (h : tokenS s i = .bad e a) : ¬ e = 0 := by
  have fin : ∀ {x : Int} {y : Nat}, x ≠ 0 → Tk.bad x y = .bad e a → ¬ e = 0 := fun hx h => by injection h with h1 h2; rw [← h1]; exact hx
  unfold tokenS at h
  split at h
  · unfold numS numAt at h
    split at h
    · exact fin (by decide) h
    · cases h
  split at h
  · unfold numS numAt at h
    split at h
    · exact fin (by decide) h
    · cases h
  split at h
  · unfold wordS wordAt at h
    split at h
    · cases h
    split at h
    · exact fin (by decide) h
    split at h
    · exact fin (by decide) h
    · cases h
  split at h
  · unfold clitS at h
    split at h
    · exact fin (by decide) h
    cases hc : charS s i (i + 1) with
    | bad e' a' => rw [hc, clitEnd] at h; exact fin (charS_bad hc) h
    | ok c j' =>
      rw [hc, clitEnd] at h
      split at h
      · cases h
      split at h
      · exact fin (by decide) h
      · exact fin (by decide) h
  split at h
  · exact strGo_bad _ _ _ h
  split at h
  · cases h
  · unfold symS at h
    split at h
    · cases h
    split at h
    · cases h
    · exact fin (by decide) h
end Go.Proofs.YtljgehammocpkaaGreatDoor.Tok
