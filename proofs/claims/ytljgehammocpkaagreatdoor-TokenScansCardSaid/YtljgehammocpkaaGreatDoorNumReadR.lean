/-
  Layer 1: Read of the reference: it goes byte by byte.
-/
import Derived.Test.YtljgehammocpkaaGreatDoorNumLeaf
import Derived.Test.YtljgehammocpkaaGreatDoorNumReadMath
namespace Go.Proofs.YtljgehammocpkaaGreatDoor.Num
open Go.RowKit

theorem drop_cons (s : ByteArray) (k : Nat) (h : k < s.size) : s.data.toList.drop k = s[k] :: s.data.toList.drop (k + 1) := by
  rw [List.drop_eq_getElem_cons (by simpa using h)]; rfl
theorem list_cons (s : ByteArray) (h : 0 < s.size) : s.data.toList = s[0] :: s.data.toList.drop 1 := by
  have := drop_cons s 0 h
  rwa [List.drop_zero] at this
theorem drop_ne (s : ByteArray) (h : 1 < s.size) : s.data.toList.drop 1 ≠ [] := by
  rw [drop_cons s 1 h]; simp
theorem drop_end (s : ByteArray) (k : Nat) (h : ¬ k < s.size) : s.data.toList.drop k = [] := by
  rw [List.drop_eq_nil_iff]; simpa using h
theorem u8_eq {c : UInt8} (h : c.toNat = 95) : c = 95 := by
  apply UInt8.toNat_inj.1; rw [h]; rfl
/-- The three kinds of strings that get as far as the digits, and the two that do not. -/
theorem rd_empty (s : ByteArray) (h : ¬ 0 < s.size) : rdS s.data.toList = (0, 4) := by
  have : s.data.toList = [] := by have := drop_end s 0 h; rwa [List.drop_zero] at this
  rw [this]; rfl
theorem rd_bare (s : ByteArray) (h : 0 < s.size) (h1 : ¬ 1 < s.size) (h95 : s[0].toNat = 95) : rdS s.data.toList = (0, 4) := by
  rw [list_cons s h, drop_end s 1 h1, u8_eq h95]; rfl
theorem rd_neg (s : ByteArray) (h : 1 < s.size) (h95 : s[0].toNat = 95) : rdS s.data.toList = rdAns (-1) (rdGo 0 (s.data.toList.drop 1)) := by
  rw [list_cons s (by omega), u8_eq h95, rdS_neg (drop_ne s h)]; rfl
theorem rd_pos (s : ByteArray) (h : 0 < s.size) (h95 : ¬ s[0].toNat = 95) : rdS s.data.toList = rdAns 1 (rdGo 0 (s.data.toList.drop 0)) := by
  rw [List.drop_zero, list_cons s h, rdS_pos h95]

end Go.Proofs.YtljgehammocpkaaGreatDoor.Num
