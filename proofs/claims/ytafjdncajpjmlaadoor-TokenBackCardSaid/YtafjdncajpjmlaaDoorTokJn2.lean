/-
  Layer 8: the joined text, and the reference's SameFault of a fault and itself.
-/
import Derived.Test.YtafjdncajpjmlaaDoorTokJn
namespace Go.Proofs.YtafjdncajpjmlaaDoor.Tok
open Go.RowKit
set_option linter.unusedVariables false

theorem join_size (s t : ByteArray) : (s ++ ⟨#[10]⟩ ++ t).size = s.size + 1 + t.size := by
  rw [ByteArray.size_append, ByteArray.size_append]; rfl
theorem join_list (s t : ByteArray) : (s ++ ⟨#[10]⟩ ++ t).data.toList = s.data.toList ++ [10] ++ t.data.toList := by simp [ByteArray.data_append]
theorem get_of (s : ByteArray) (i : Nat) (h : i < s.size) : s.data.toList[i]? = some s[i] := by
  have : i < s.data.toList.length := by rw [← Lib.size_eq]; exact h
  rw [List.getElem?_eq_getElem this]
  rfl
theorem pre_join (s t : ByteArray) : Pre (s ++ ⟨#[10]⟩ ++ t) s := by
  have hz := join_size s t
  have e2 : s.data.toList.length = s.size := (Lib.size_eq s).symm
  refine ⟨by omega, fun h => ?_, fun i h h2 => ?_⟩
  · have e := get_of _ _ h
    rw [join_list, List.append_assoc, List.getElem?_append_right (by omega), e2, Nat.sub_self] at e
    have : (10 : UInt8) = (s ++ ⟨#[10]⟩ ++ t)[s.size] := by simpa using e
    rw [← this]; rfl
  · have e := get_of _ _ h2
    rw [join_list, List.append_assoc, List.getElem?_append_left (by omega), get_of s i h] at e
    exact (Option.some.inj e).symm
theorem sh_join (s t : ByteArray) : Sh (s ++ ⟨#[10]⟩ ++ t) t (s.size + 1) := by
  have hz := join_size s t
  have e2 : s.data.toList.length = s.size := (Lib.size_eq s).symm
  refine ⟨by omega, fun i h h2 => ?_⟩
  have e := get_of _ _ h2
  rw [join_list, List.getElem?_append_right (by rw [List.length_append, List.length_cons, List.length_nil]; omega), List.length_append, List.length_cons, List.length_nil, e2, show s.size + 1 + i - (s.size + (0 + 1)) = i by omega, get_of t i h] at e
  exact (Option.some.inj e).symm
theorem scan_joined (s t : ByteArray) (hs : s.size ≤ 2000) (ht : t.size ≤ 2000) : scanS (s ++ ⟨#[10]⟩ ++ t) = joinR s.size (scanS s) (scanS t) := scan_join (pre_join s t) (sh_join s t) hs ht

set_option maxRecDepth 100000 in
set_option maxHeartbeats 4000000 in
theorem shapesN (w : World) : Calls Tryd.prog 18 #[.slice none 0 0, .slice none 0 0] w fun e w' => e = .returned (.bool true) ∧ w = w' := by
  go_enter Tryd.func18, Tryd.ntmps18
  go_wp2
  go_loopw [5] (fun i wr => i = .int .i64 0 ∧ w = wr) (fun _ _ => 0)
  case atStart => exact ⟨rfl, by first | rfl | trivial⟩
  case round =>
    obtain ⟨rfl, rfl⟩ := hrel
    go_wp2
    go_ret
    exact ⟨rfl, rfl⟩
theorem new5b (w : World) (c0 c1 c2 c3 c4 : Value) (T : TypeId) : (w.alloc (.cells #[c0, c1, c2, c3, c4] T)).cell? ⟨w.heap.size, 0, none⟩ = some c0 ∧ (w.alloc (.cells #[c0, c1, c2, c3, c4] T)).cell? ⟨w.heap.size, 1, none⟩ = some c1 ∧ (w.alloc (.cells #[c0, c1, c2, c3, c4] T)).cell? ⟨w.heap.size, 2, none⟩ = some c2 ∧ (w.alloc (.cells #[c0, c1, c2, c3, c4] T)).cell? ⟨w.heap.size, 3, none⟩ = some c3 ∧ (w.alloc (.cells #[c0, c1, c2, c3, c4] T)).cell? ⟨w.heap.size, 4, none⟩ = some c4 := by
  refine ⟨?_, ?_, ?_, ?_, ?_⟩ <;> (rw [World.cell?_alloc_new]; rfl)
set_option maxRecDepth 100000 in
set_option maxHeartbeats 4000000 in
theorem sameFaultR (e a : Int) (w : World) : Calls Tryd.prog 9 #[.agg #[.int .i64 e, .int .i64 a, .slice none 0 0, .slice none 0 0, .string ⟨#[]⟩], .agg #[.int .i64 e, .int .i64 a, .slice none 0 0, .slice none 0 0, .string ⟨#[]⟩]] w fun r w' => r = .returned (.bool true) ∧ Below w.heap.size w w' := by
  have B := Below.then (below_new w (.cells #[.int .i64 e, .int .i64 a, .slice none 0 0, .slice none 0 0, .string ⟨#[]⟩] 27)) (below_new _ (.cells #[.int .i64 e, .int .i64 a, .slice none 0 0, .slice none 0 0, .string ⟨#[]⟩] 27))
  go_enter Tryd.func9, Tryd.ntmps9
  go_wp2_with (go_at_call 18; with_reducible refine (shapesN _).mono ?_; rintro e1 w1 ⟨rfl, rfl⟩)
  go_ret
  exact ⟨rfl, B⟩
end Go.Proofs.YtafjdncajpjmlaaDoor.Tok
