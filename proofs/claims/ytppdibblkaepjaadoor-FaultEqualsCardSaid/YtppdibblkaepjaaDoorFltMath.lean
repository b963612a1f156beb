/-
  Layer 7: lines and columns of a text, on plain data.
-/
import Derived.Test.YtppdibblkaepjaaDoorRows
import Derived.Lib.Bytealg
import Derived.Lib.LastIndexByte
import Derived.WalkKit
namespace Go.Proofs.YtppdibblkaepjaaDoor.Flt
open Go.RowKit
set_option linter.unusedVariables false

/-- Line and column behind the first k bytes of s. -/
def lc (s : ByteArray) : Nat → Nat × Nat
  | 0 => (1, 1)
  | k + 1 => if s.data[k]!.toNat = 10 then ((lc s k).1 + 1, 1) else ((lc s k).1, (lc s k).2 + 1)
def lin (s : ByteArray) (k : Nat) : Nat := (lc s k).1
def col (s : ByteArray) (k : Nat) : Nat := (lc s k).2
theorem lin_zero (s : ByteArray) : lin s 0 = 1 := rfl
theorem col_zero (s : ByteArray) : col s 0 = 1 := rfl
theorem lin_nl {s : ByteArray} {k : Nat} (h : s.data[k]!.toNat = 10) : lin s (k + 1) = lin s k + 1 := by unfold lin; rw [lc, if_pos h]
theorem col_nl {s : ByteArray} {k : Nat} (h : s.data[k]!.toNat = 10) : col s (k + 1) = 1 := by unfold col; rw [lc, if_pos h]
theorem lin_no {s : ByteArray} {k : Nat} (h : ¬ s.data[k]!.toNat = 10) : lin s (k + 1) = lin s k := by unfold lin; rw [lc, if_neg h]
theorem col_no {s : ByteArray} {k : Nat} (h : ¬ s.data[k]!.toNat = 10) : col s (k + 1) = col s k + 1 := by unfold col; rw [lc, if_neg h]
theorem lc_bd (s : ByteArray) : ∀ k, 1 ≤ lin s k ∧ lin s k ≤ k + 1 ∧ 1 ≤ col s k ∧ col s k ≤ k + 1
  | 0 => by rw [lin_zero, col_zero]; omega
  | k + 1 => by
    have := lc_bd s k
    by_cases h : s.data[k]!.toNat = 10
    · rw [lin_nl h, col_nl h]; omega
    · rw [lin_no h, col_no h]; omega
/-- The place of an offset. -/
def kS (s : ByteArray) (n : Int) : Nat := (min (max n 0) s.size).toNat
theorem kS_le (s : ByteArray) (n : Int) : kS s n ≤ s.size := by unfold kS; omega

theorem at_get {s : ByteArray} {k : Nat} (h : k < s.size) : s.data[k]! = s[k] := by
  have h' : k < s.data.size := h
  rw [getElem!_pos s.data k h']
  rfl
theorem ext_get {s : ByteArray} {k j : Nat} (hk : k ≤ s.size) (hj : j < k) : (s.extract 0 k).data[j]! = s.data[j]! := by
  have h1 : j < s.size := by omega
  have h2 : j < (s.extract 0 k).size := by simp; omega
  rw [at_get h2, at_get h1, ByteArray.getElem_extract]
  congr 1
  omega
theorem last_ext {s : ByteArray} {k : Nat} (hk : k ≤ s.size) : ∀ j, j ≤ k → Lib.lastIdx (s.extract 0 k) 10 j = Lib.lastIdx s 10 j
  | 0, _ => rfl
  | j + 1, hj => by
    rw [Lib.lastIdx, Lib.lastIdx, ext_get hk (by omega), last_ext hk j (by omega)]
theorem col_idx (s : ByteArray) : ∀ k, (col s k : Int) = k - Lib.lastIdx s 10 k
  | 0 => by rw [col_zero]; rfl
  | k + 1 => by
    by_cases h : s.data[k]!.toNat = 10
    · rw [col_nl h, Lib.lastIdx_hit s 10 k (by omega)]; omega
    · rw [col_no h, Lib.lastIdx_miss s 10 k (by omega)]; have := col_idx s k; omega
theorem col_last {s : ByteArray} {k : Nat} (hk : k ≤ s.size) : (k : Int) - Lib.lastIndexByte (s.extract 0 k) 10 = col s k := by
  unfold Lib.lastIndexByte
  rw [show (s.extract 0 k).size = k by simp; omega, last_ext hk k (Nat.le_refl _), col_idx]
theorem take_snoc (s : ByteArray) (k : Nat) (h : k < s.size) : s.data.toList.take (k + 1) = s.data.toList.take k ++ [s[k]] := by
  rw [List.take_succ_eq_append_getElem (by simpa using h)]; rfl
theorem lin_take (s : ByteArray) : ∀ k, k ≤ s.size → lin s k = 1 + (s.data.toList.take k).count 10
  | 0, _ => by rw [lin_zero]; simp
  | k + 1, hk => by
    rw [take_snoc s k hk, List.count_append]
    have := lin_take s k (by omega)
    have e : s.data[k]! = s[k] := at_get hk
    by_cases h : s.data[k]!.toNat = 10
    · rw [lin_nl h]
      rw [e] at h
      have h' : s[k] = 10 := UInt8.toNat_inj.1 h
      rw [h', List.count_singleton_self]
      omega
    · rw [lin_no h]
      rw [e] at h
      have h' : ¬ s[k] = 10 := fun g => h (by rw [g]; rfl)
      rw [List.count_singleton, if_neg (by simpa using h')]
      omega
theorem lin_count {s : ByteArray} {k : Nat} (hk : k ≤ s.size) : (1 : Int) + (Lib.countByte (s.extract 0 k).data.toList 10 : Nat) = lin s k := by
  have e : (s.extract 0 k).data.toList = s.data.toList.take k := by simp
  rw [e, lin_take s k hk]
  unfold Lib.countByte
  omega
theorem count_bd {s : ByteArray} {k : Nat} (hk : k ≤ s.size) : Lib.countByte (s.extract 0 k).data.toList 10 ≤ k := by
  have h1 := lin_count hk
  have := lc_bd s k
  omega
theorem last_bd {s : ByteArray} {k : Nat} (hk : k ≤ s.size) : -1 ≤ Lib.lastIndexByte (s.extract 0 k) 10 ∧ Lib.lastIndexByte (s.extract 0 k) 10 ≤ k := by
  have h1 := col_last hk
  have := lc_bd s k
  omega

/-! ### Skipping lines -/
theorem lin_mono (s : ByteArray) (i : Nat) : ∀ d, lin s i ≤ lin s (i + d) ∧ (lin s i = lin s (i + d) → col s (i + d) = col s i + d)
  | 0 => ⟨Nat.le_refl _, fun _ => rfl⟩
  | d + 1 => by
    obtain ⟨h1, h2⟩ := lin_mono s i d
    by_cases h : s.data[i + d]!.toNat = 10
    · rw [show i + (d + 1) = i + d + 1 by omega, lin_nl h]
      exact ⟨by omega, fun g => absurd g (by omega)⟩
    · rw [show i + (d + 1) = i + d + 1 by omega, lin_no h, col_no h]
      exact ⟨h1, fun g => by rw [h2 g]; omega⟩
theorem lin_le {s : ByteArray} {i K : Nat} (h : i ≤ K) : lin s i ≤ lin s K := by
  have := (lin_mono s i (K - i)).1
  rwa [show i + (K - i) = K by omega] at this
theorem lin_end {s : ByteArray} {i K : Nat} (h : i ≤ K) (he : lin s i = lin s K) (hc : col s i = 1) : i + col s K = K + 1 := by
  have := (lin_mono s i (K - i)).2
  rw [show i + (K - i) = K by omega] at this
  have := this he
  omega
end Go.Proofs.YtppdibblkaepjaaDoor.Flt
