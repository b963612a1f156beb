/-
  Layer 7: the words of the error codes, by the program's table and by the reference's list.
-/
import Derived.Test.YtppdibblkaepjaaDoorFltMath
import Derived.Test.YtppdibblkaepjaaDoorInts
import Derived.Test.YtppdibblkaepjaaDoorShapeIndex
import Derived.Test.YtppdibblkaepjaaDoorShapeLives
namespace Go.Proofs.YtppdibblkaepjaaDoor.Flt
open Go.RowKit Go.Proofs.YtppdibblkaepjaaDoor.Shape
set_option linter.unusedVariables false

def unk : ByteArray := ⟨#[117, 110, 107, 110, 111, 119, 110]⟩
def wT : List ByteArray := [⟨#[111, 107]⟩, ⟨#[97, 114, 103]⟩, ⟨#[108, 111, 110, 103]⟩, ⟨#[99, 104, 97, 114]⟩, ⟨#[110, 117, 109, 98, 101, 114]⟩, ⟨#[115, 116, 114, 105, 110, 103]⟩, ⟨#[116, 111, 107, 101, 110]⟩, ⟨#[101, 110, 100]⟩, ⟨#[100, 101, 101, 112]⟩, ⟨#[110, 97, 109, 101]⟩, ⟨#[100, 117, 112, 108, 105, 99, 97, 116, 101]⟩, ⟨#[99, 108, 97, 115, 115]⟩, ⟨#[114, 101, 115, 117, 108, 116]⟩, ⟨#[118, 97, 108, 101, 110, 99, 101]⟩, ⟨#[107, 105, 110, 100]⟩, ⟨#[114, 97, 110, 107]⟩, ⟨#[108, 101, 110, 103, 116, 104]⟩, ⟨#[100, 111, 109, 97, 105, 110]⟩, ⟨#[105, 110, 100, 101, 120]⟩, ⟨#[111, 118, 101, 114, 102, 108, 111, 119]⟩, ⟨#[122, 101, 114, 111]⟩, ⟨#[108, 105, 109, 105, 116]⟩, ⟨#[99, 97, 108, 108, 115]⟩, ⟨#[115, 116, 101, 112, 115]⟩, ⟨#[109, 101, 109, 111, 114, 121]⟩, ⟨#[102, 111, 114, 109]⟩, ⟨#[99, 111, 100, 101]⟩, ⟨#[115, 117, 109]⟩, ⟨#[110, 111, 116, 102, 111, 117, 110, 100]⟩]
def wS (e : Int) : ByteArray := if e < 0 then unk else wT.getD e.toNat unk
theorem wT_len : wT.length = 29 := rfl
theorem wS_low {e : Int} (h : e < 0) : wS e = ⟨#[117, 110, 107, 110, 111, 119, 110]⟩ := by unfold wS; rw [if_pos h]; rfl
theorem wS_high {e : Int} (h : 29 ≤ e) : wS e = ⟨#[117, 110, 107, 110, 111, 119, 110]⟩ := by
  unfold wS
  rw [if_neg (by omega), List.getD_eq_getElem?_getD, List.getElem?_eq_none (by rw [wT_len]; omega)]
  rfl
theorem wS_at (k : Nat) : wS (k : Int) = wT.getD k unk := by
  unfold wS
  rw [if_neg (by omega)]
  rfl
theorem wT_size : ∀ k, k < 29 → (wT.getD k unk).size ≤ 9 := by decide
theorem wS_size (e : Int) : (wS e).size ≤ 9 := by
  by_cases h : e < 0
  · rw [wS_low h]; decide
  · by_cases h2 : 29 ≤ e
    · rw [wS_high h2]; decide
    · obtain ⟨k, rfl⟩ := Int.eq_ofNat_of_zero_le (by omega : 0 ≤ e)
      rw [wS_at]; exact wT_size k (by omega)
/-- The program's table, as it is laid. -/
def TabW (w : World) : Prop := ∀ j, j < 29 → w.cell? ⟨0, j, none⟩ = some (.string (wT.getD j unk))
theorem TabW.below {w w' : World} (h : TabW w) (hb : Below w.heap.size w w') : TabW w' := fun j hj => (hb.cell (cell_lt (h j hj))).trans (h j hj)
theorem TabW.size {w : World} (h : TabW w) : 0 < w.heap.size := cell_lt (h 0 (by decide))

set_option maxHeartbeats 1000000 in
theorem wordP (e : Int) (w : World) (hT : TabW w) :
    Calls Tryd.prog 8 #[.int .i64 e] w fun r w' => r = .returned (.string (wS e)) ∧ w = w' := by
  by_cases h : e < 0
  · rw [wS_low h]
    clear hT
    go_enter Tryd.func8, Tryd.ntmps8
    go_wp2_with fail
    go_ret
    exact ⟨rfl, rfl⟩
  · by_cases h2 : 29 ≤ e
    · rw [wS_high h2]
      clear hT
      go_enter Tryd.func8, Tryd.ntmps8
      go_wp2_with fail
      go_ret
      exact ⟨rfl, rfl⟩
    · obtain ⟨k, rfl⟩ := Int.eq_ofNat_of_zero_le (by omega : 0 ≤ e)
      rw [wS_at]
      have hk : k < 29 := by omega
      have hc := hT k hk
      generalize wT.getD k unk = X at *
      clear hT h h2
      have b1 : (0 : Int) ≤ (k : Int) := by omega
      have b2 : (k : Int) < 29 := by omega
      go_enter Tryd.func8, Tryd.ntmps8
      go_wp2_with fail
      go_ret
      exact ⟨rfl, rfl⟩

theorem elemStrs : Tryd.prog.underlying 36 = some (.slice (Tryd.prog.elem 36)) := by kernel_rfl
theorem sizeStrs (w : World) : (sizeOf (Tryd.prog.elem 36)).run Tryd.prog w = .ok 1 w := by kernel_rfl
theorem lit_cell (w : World) (k : Nat) (hk : k < 29) (t : TypeId) : (w.alloc (.cells #[.string ⟨#[111, 107]⟩, .string ⟨#[97, 114, 103]⟩, .string ⟨#[108, 111, 110, 103]⟩, .string ⟨#[99, 104, 97, 114]⟩, .string ⟨#[110, 117, 109, 98, 101, 114]⟩, .string ⟨#[115, 116, 114, 105, 110, 103]⟩, .string ⟨#[116, 111, 107, 101, 110]⟩, .string ⟨#[101, 110, 100]⟩, .string ⟨#[100, 101, 101, 112]⟩, .string ⟨#[110, 97, 109, 101]⟩, .string ⟨#[100, 117, 112, 108, 105, 99, 97, 116, 101]⟩, .string ⟨#[99, 108, 97, 115, 115]⟩, .string ⟨#[114, 101, 115, 117, 108, 116]⟩, .string ⟨#[118, 97, 108, 101, 110, 99, 101]⟩, .string ⟨#[107, 105, 110, 100]⟩, .string ⟨#[114, 97, 110, 107]⟩, .string ⟨#[108, 101, 110, 103, 116, 104]⟩, .string ⟨#[100, 111, 109, 97, 105, 110]⟩, .string ⟨#[105, 110, 100, 101, 120]⟩, .string ⟨#[111, 118, 101, 114, 102, 108, 111, 119]⟩, .string ⟨#[122, 101, 114, 111]⟩, .string ⟨#[108, 105, 109, 105, 116]⟩, .string ⟨#[99, 97, 108, 108, 115]⟩, .string ⟨#[115, 116, 101, 112, 115]⟩, .string ⟨#[109, 101, 109, 111, 114, 121]⟩, .string ⟨#[102, 111, 114, 109]⟩, .string ⟨#[99, 111, 100, 101]⟩, .string ⟨#[115, 117, 109]⟩, .string ⟨#[110, 111, 116, 102, 111, 117, 110, 100]⟩] t)).cell? ⟨w.heap.size, k, none⟩ = some (.string (wT.getD k unk)) := by
  rw [World.cell?_alloc_new]
  show (#[.string ⟨#[111, 107]⟩, .string ⟨#[97, 114, 103]⟩, .string ⟨#[108, 111, 110, 103]⟩, .string ⟨#[99, 104, 97, 114]⟩, .string ⟨#[110, 117, 109, 98, 101, 114]⟩, .string ⟨#[115, 116, 114, 105, 110, 103]⟩, .string ⟨#[116, 111, 107, 101, 110]⟩, .string ⟨#[101, 110, 100]⟩, .string ⟨#[100, 101, 101, 112]⟩, .string ⟨#[110, 97, 109, 101]⟩, .string ⟨#[100, 117, 112, 108, 105, 99, 97, 116, 101]⟩, .string ⟨#[99, 108, 97, 115, 115]⟩, .string ⟨#[114, 101, 115, 117, 108, 116]⟩, .string ⟨#[118, 97, 108, 101, 110, 99, 101]⟩, .string ⟨#[107, 105, 110, 100]⟩, .string ⟨#[114, 97, 110, 107]⟩, .string ⟨#[108, 101, 110, 103, 116, 104]⟩, .string ⟨#[100, 111, 109, 97, 105, 110]⟩, .string ⟨#[105, 110, 100, 101, 120]⟩, .string ⟨#[111, 118, 101, 114, 102, 108, 111, 119]⟩, .string ⟨#[122, 101, 114, 111]⟩, .string ⟨#[108, 105, 109, 105, 116]⟩, .string ⟨#[99, 97, 108, 108, 115]⟩, .string ⟨#[115, 116, 101, 112, 115]⟩, .string ⟨#[109, 101, 109, 111, 114, 121]⟩, .string ⟨#[102, 111, 114, 109]⟩, .string ⟨#[99, 111, 100, 101]⟩, .string ⟨#[115, 117, 109]⟩, .string ⟨#[110, 111, 116, 102, 111, 117, 110, 100]⟩] : Array Value)[k]? = _
  have e : (#[.string ⟨#[111, 107]⟩, .string ⟨#[97, 114, 103]⟩, .string ⟨#[108, 111, 110, 103]⟩, .string ⟨#[99, 104, 97, 114]⟩, .string ⟨#[110, 117, 109, 98, 101, 114]⟩, .string ⟨#[115, 116, 114, 105, 110, 103]⟩, .string ⟨#[116, 111, 107, 101, 110]⟩, .string ⟨#[101, 110, 100]⟩, .string ⟨#[100, 101, 101, 112]⟩, .string ⟨#[110, 97, 109, 101]⟩, .string ⟨#[100, 117, 112, 108, 105, 99, 97, 116, 101]⟩, .string ⟨#[99, 108, 97, 115, 115]⟩, .string ⟨#[114, 101, 115, 117, 108, 116]⟩, .string ⟨#[118, 97, 108, 101, 110, 99, 101]⟩, .string ⟨#[107, 105, 110, 100]⟩, .string ⟨#[114, 97, 110, 107]⟩, .string ⟨#[108, 101, 110, 103, 116, 104]⟩, .string ⟨#[100, 111, 109, 97, 105, 110]⟩, .string ⟨#[105, 110, 100, 101, 120]⟩, .string ⟨#[111, 118, 101, 114, 102, 108, 111, 119]⟩, .string ⟨#[122, 101, 114, 111]⟩, .string ⟨#[108, 105, 109, 105, 116]⟩, .string ⟨#[99, 97, 108, 108, 115]⟩, .string ⟨#[115, 116, 101, 112, 115]⟩, .string ⟨#[109, 101, 109, 111, 114, 121]⟩, .string ⟨#[102, 111, 114, 109]⟩, .string ⟨#[99, 111, 100, 101]⟩, .string ⟨#[115, 117, 109]⟩, .string ⟨#[110, 111, 116, 102, 111, 117, 110, 100]⟩] : Array Value) = (wT.map Value.string).toArray := rfl
  rw [e]
  have hl : k < wT.length := hk
  simp [hl]
theorem lit_at29 (w : World) (k : Nat) (hk : k < 29) (b : Nat) : (Instr.indexAt 36 (.slice (some ⟨b, 0, none⟩) 29 29) (.int .i64 k)).run Tryd.prog w = .ok (.pointer (some ⟨b, k, none⟩)) w := by
  rw [run_indexAt_slice w _ _ _ _ .i64 k elemStrs, if_pos (by omega), sizeStrs]
  show Result.ok _ w = _
  rw [show ((k : Int).toNat * 1) = k by omega, add_plain, Nat.zero_add]
set_option maxHeartbeats 1000000 in
theorem wordR (e : Int) (w : World) :
    Calls Tryd.prog 9 #[.int .i64 e] w fun r w' => r = .returned (.string (wS e)) ∧ Below w.heap.size w w' := by
  by_cases h : e < 0
  · rw [wS_low h]
    go_enter Tryd.func9, Tryd.ntmps9
    go_wp2_with fail
    go_ret
    exact ⟨rfl, below_new _ _⟩
  · by_cases h2 : 29 ≤ e
    · rw [wS_high h2]
      go_enter Tryd.func9, Tryd.ntmps9
      go_wp2_with fail
      go_ret
      exact ⟨rfl, below_new _ _⟩
    · obtain ⟨k, rfl⟩ := Int.eq_ofNat_of_zero_le (by omega : 0 ≤ e)
      rw [wS_at]
      have hk : k < 29 := by omega
      have hc := fun w => lit_cell w k hk 9
      have hx := fun w b => lit_at29 w k hk b
      generalize wT.getD k unk = X at *
      clear h h2
      have b1 : (0 : Int) ≤ (k : Int) := by omega
      have b2 : (k : Int) < 29 := by omega
      go_enter Tryd.func9, Tryd.ntmps9
      go_wp2_with fail
      go_ret
      exact ⟨rfl, below_new _ _⟩
set_option maxHeartbeats 400000 in
theorem runtimeP (e : Int) (w : World) :
    Calls Tryd.prog 20 #[.int .i64 e] w fun r w' => r = .returned (.bool (decide (13 ≤ e ∧ e ≤ 21))) ∧ w = w' := by
  by_cases h : 13 ≤ e
  · by_cases h2 : e ≤ 21
    · rw [decide_eq_true (⟨h, h2⟩ : 13 ≤ e ∧ e ≤ 21)]
      go_enter Tryd.func20, Tryd.ntmps20
      go_wp2_with fail
      go_ret
      exact ⟨rfl, rfl⟩
    · rw [decide_eq_false (fun g => h2 g.2 : ¬ (13 ≤ e ∧ e ≤ 21))]
      go_enter Tryd.func20, Tryd.ntmps20
      go_wp2_with fail
      go_ret
      exact ⟨rfl, rfl⟩
  · rw [decide_eq_false (fun g => h g.1 : ¬ (13 ≤ e ∧ e ≤ 21))]
    go_enter Tryd.func20, Tryd.ntmps20
    go_wp2_with fail
    go_ret
    exact ⟨rfl, rfl⟩
end Go.Proofs.YtppdibblkaepjaaDoor.Flt
