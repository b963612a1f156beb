/-
  Layer 9: the program's begins.
-/
import Derived.Test.YtmnomkcgkjccgaaLitP6
namespace Go.Proofs.Ytmnomkcgkjccgaa.Lit
open Go.RowKit
set_option linter.unusedVariables false
set_option linter.unusedSimpArgs false

theorem begB_long {s : ByteArray} {c : Nat} (h : ¬ s.size < (Utf8.encode (c : Int)).size) : ((s.extract 0 (Utf8.encode (c : Int)).size).toList == (Utf8.encode (c : Int)).toList) = begB s.data.toList c := by
  rw [ByteArray.toList_eq, ByteArray.toList_eq, enc_eq, extract_list, List.drop_zero, Nat.sub_zero]
  have e : (Utf8.encode (c : Int)).size = (Lib.encodeRune (c : Int)).length := by rw [encB, tx_size]
  rw [e]
  unfold begB
  rw [Bool.eq_iff_iff, beq_iff_eq, List.isPrefixOf_iff_prefix, List.prefix_iff_eq_take]
  exact eq_comm
theorem begB_short {s : ByteArray} {c : Nat} (h : s.size < (Utf8.encode (c : Int)).size) : begB s.data.toList c = false := by
  unfold begB
  rw [Bool.eq_false_iff]
  intro e
  have := (List.isPrefixOf_iff_prefix.1 e).length_le
  have e2 : (Utf8.encode (c : Int)).size = (Lib.encodeRune (c : Int)).length := by rw [encB, tx_size]
  have h2 : s.size = s.data.toList.length := Lib.size_eq s
  omega
set_option maxRecDepth 100000 in
set_option maxHeartbeats 4000000 in
theorem beginsQ (s : ByteArray) (c : Nat) (hc : c ≤ 1114111) (w : World) : Calls Try.prog 23 #[.string s, .int .i32 (c : Int)] w fun e w' => e = .returned (.bool (begB s.data.toList c)) ∧ w = w' := by
  by_cases hz : s.size < (Utf8.encode (c : Int)).size
  · have hz2 : ¬ ((Utf8.encode (c : Int)).size : Int) ≤ (s.size : Int) := by omega
    rw [begB_short hz]
    go_enter Try.func23, Try.ntmps23
    go_wp2
    go_ret
    exact ⟨rfl, rfl⟩
  · have hz2 : ((Utf8.encode (c : Int)).size : Int) ≤ (s.size : Int) := by omega
    go_enter Try.func23, Try.ntmps23
    go_wp2
    go_ret
    refine ⟨?_, rfl⟩
    rw [begB_long hz]
    rfl
end Go.Proofs.Ytmnomkcgkjccgaa.Lit
