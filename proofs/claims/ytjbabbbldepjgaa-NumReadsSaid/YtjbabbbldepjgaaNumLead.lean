/-
  A leading zero, of strings as the program joins them.
-/
import Derived.Test.YtjbabbbldepjgaaNumReadR
namespace Go.Proofs.Ytjbabbbldepjgaa.Num

theorem lead_list (s : ByteArray) : (ByteArray.mk #[48] ++ s).data.toList = 48 :: s.data.toList := by
  rw [ByteArray.data_append, Array.toList_append]; rfl
theorem lead_size (s : ByteArray) : (ByteArray.mk #[48] ++ s).size = 1 + s.size := by
  rw [ByteArray.size_append]; rfl
theorem lead_zero (s : ByteArray) (h : 0 < s.size) (h95 : ¬ s[0].toNat = 95) : rdS (ByteArray.mk #[48] ++ s).data.toList = rdS s.data.toList := by
  rw [lead_list, list_cons s h, rdS_zero h95]
theorem lead_t (s : ByteArray) (h : 0 < s.size) (h95 : ¬ s[0].toNat = 95) : ∃ t : ByteArray, ByteArray.mk #[48] ++ s = t ∧ rdS t.data.toList = rdS s.data.toList ∧ t.size = 1 + s.size :=
  ⟨_, rfl, lead_zero s h h95, lead_size s⟩
end Go.Proofs.Ytjbabbbldepjgaa.Num
