/-
  Layer 16: combine of the program: the results' row.
-/
import Derived.Test.YtekbdiniibmhgaaBinP5g
import Derived.Test.YtekbdiniibmhgaaBinR4g
import Derived.Test.YtekbdiniibmhgaaBinGT
import Derived.Laws.MakeOwn
import Derived.Deep.RegionHeldLaw
namespace Go.Proofs.Ytekbdiniibmhgaa.Shape
open Go.RowKit
open Go.Proofs.Ytekbdiniibmhgaa.Shp (agB agL)
set_option linter.unusedVariables false
set_option linter.unusedSimpArgs false

theorem run_make16 (w : World) (n : Nat) (hn : n * 8 ≤ 140737488351232) : (Instr.makeSlice 30 (.int .i64 (n : Int)) (.int .i64 (n : Int))).run Try.prog w = .ok (.slice (some ⟨w.heap.size, 0, none⟩) n n) (w.alloc (.cells (madeCells #[.int .i64 0] n) 3)) := by
  obtain ⟨i0, hi, hz0, hz1, hz2⟩ := info_parts infoInt
  have := run_make (P := Try.prog) w 30 3 i0 _ Try.underlying30 hi hz0 .i64 .i64 n n (by omega) (Int.le_refl _) (by rw [hz2]; omega) (by omega)
  rw [hz1, Nat.mul_one] at this
  simp only [Int.toNat_natCast] at this
  exact this
/-- A row of N numbers, the first of which are reckoned. -/
def rowL (acc : List Int) (N : Nat) : List Value := acc.map (Value.int .i64) ++ List.replicate (N - acc.length) (Value.int .i64 0)
def Row16 (w : World) (nb : Nat) (acc : List Int) (N : Nat) : Prop := w.heap[nb]? = some (.cells (rowL acc N).toArray 3 (0, 0))
theorem rowL_len {acc : List Int} {N : Nat} (h : acc.length ≤ N) : (rowL acc N).length = N := by unfold rowL; simp; omega
theorem row16_new (w : World) (N : Nat) : Row16 (w.alloc (.cells (madeCells #[.int .i64 0] N) 3)) w.heap.size [] N := by
  unfold Row16
  rw [heap_alloc_new]
  have : madeCells #[.int .i64 0] N = (rowL [] N).toArray := by
    unfold rowL madeCells
    apply Array.ext
    · simp
    · intro i h1 h2
      simp [Nat.mod_one]
  rw [this]
theorem Row16.lt {w : World} {nb N : Nat} {acc : List Int} (h : Row16 w nb acc N) : nb < w.heap.size := by
  rcases Nat.lt_or_ge nb w.heap.size with h1 | h1
  · exact h1
  · unfold Row16 at h; rw [Array.getElem?_eq_none h1] at h; cases h
theorem Row16.below {w w' : World} {nb N : Nat} {acc : List Int} (h : Row16 w nb acc N) (hb : Below w.heap.size w w') : Row16 w' nb acc N := (hb.block nb h.lt).trans h
theorem rowL_at {acc : List Int} {N : Nat} (hj : acc.length < N) : (rowL acc N)[acc.length]? = some (.int .i64 0) := by
  unfold rowL
  rw [List.getElem?_append_right (by simp), List.length_map, Nat.sub_self, List.getElem?_replicate_of_lt (by omega)]
theorem Row16.cell {w : World} {nb N : Nat} {acc : List Int} (h : Row16 w nb acc N) (hj : acc.length < N) : w.cell? ⟨nb, acc.length, none⟩ = some (.int .i64 0) ∧ w.frozen? ⟨nb, acc.length, none⟩ = false := by
  have e := rowL_at hj
  unfold Row16 at h
  have e2 : (rowL acc N).toArray[acc.length]? = some (.int .i64 0) := by simpa using e
  constructor
  · simp only [World.cell?, h, e2]
    rfl
  · simp [World.frozen?, h]
theorem rowL_set {acc : List Int} {N : Nat} (hj : acc.length < N) (x : Int) : (rowL acc N).set acc.length (.int .i64 x) = rowL (acc ++ [x]) N := by
  unfold rowL
  rw [List.set_append_right _ _ (by simp)]
  simp only [List.length_map, Nat.sub_self, List.map_append, List.map_cons, List.map_nil, List.length_append, List.length_singleton, List.append_assoc]
  rw [show N - acc.length = (N - (acc.length + 1)) + 1 by omega, List.replicate_succ]
  rfl
theorem Row16.set {w : World} {nb N : Nat} {acc : List Int} (h : Row16 w nb acc N) (hj : acc.length < N) (x : Int) : Row16 (w.setCell ⟨nb, acc.length, none⟩ (.int .i64 x)) nb (acc ++ [x]) N := by
  have hlt := h.lt
  have h' : w.heap[nb] = .cells (rowL acc N).toArray 3 (0, 0) := by unfold Row16 at h; simpa [Array.getElem?_eq_getElem hlt] using h
  unfold Row16
  show (w.heap.modify nb _)[nb]? = _
  rw [Array.getElem?_eq_getElem (by simpa using hlt), Array.getElem_modify_self, h']
  rw [← rowL_set hj x]
  simp
theorem Row16.ints {w : World} {nb N : Nat} {acc : List Int} (h : Row16 w nb acc N) (hN : N = acc.length) (hb : ∀ x ∈ acc, -9223372036854775808 ≤ x ∧ x ≤ 9223372036854775807) (hm : N ≤ 65536) (P : Nat → Prop) (hP : P nb) : IntsOn P w (some ⟨nb, 0, none⟩) N acc := by
  subst hN
  have e : rowL acc acc.length = acc.map (Value.int .i64) := by unfold rowL; simp
  unfold Row16 at h
  rw [e] at h
  refine ⟨⟨Nat.le_refl _, by omega, hb, nb, 0, fun _ => rfl, fun i hi => ?_⟩, fun _ ad e => by cases e; exact hP⟩
  simp [World.cell?, h, hi]
end Go.Proofs.Ytekbdiniibmhgaa.Shape
