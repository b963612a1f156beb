/-
  Layer 11: the law's comparison of two lists of names.
-/
import Derived.Test.YtmbljiapfbadeaaNamFam
namespace Go.Proofs.Ytmbljiapfbadeaa.Nam
open Go.RowKit Go.Maps
set_option linter.unusedVariables false

/-- A slice of strings, wherever it lies. -/
def SAt (w : World) (v : Value) (L : List ByteArray) : Prop := ∃ (a : Option Addr) (c : Nat), v = .slice a L.length c ∧ L.length ≤ 9223372036854775807 ∧ (∀ (w' : World) (j : Nat), j < L.length → (Instr.indexAt 39 (.slice a L.length c) (.int .i64 (j : Int))).run Try.prog w' = .ok (.pointer (a.map fun p => ⟨p.block, p.off + j, none⟩)) w') ∧
  ∀ (j : Nat) (h : j < L.length), ∃ p, a = some p ∧ w.cell? ⟨p.block, p.off + j, none⟩ = some (.string L[j])
theorem cell_lt {w : World} {p : Addr} {v : Value} (h : w.cell? p = some v) : p.block < w.heap.size := by
  rcases Nat.lt_or_ge p.block w.heap.size with q | q
  · exact q
  · simp [World.cell?, Array.getElem?_eq_none q] at h
theorem SAt.below {w w' : World} {v : Value} {L : List ByteArray} (h : SAt w v L) {B : Nat} (hb : Below B w w') (hB : ∀ g, v.ownBlock = some g → L ≠ [] → g < B) : SAt w' v L := by
  obtain ⟨a, c, rfl, h1, h2, h3⟩ := h
  refine ⟨a, c, rfl, h1, h2, fun j hj => ?_⟩
  obtain ⟨p, rfl, e⟩ := h3 j hj
  exact ⟨p, rfl, (hb.cell (p := ⟨p.block, p.off + j, none⟩) (hB p.block rfl (fun q => by rw [q] at hj; simp at hj))).trans e⟩
theorem SAt.below' {w w' : World} {v : Value} {L : List ByteArray} (h : SAt w v L) (hb : Below w.heap.size w w') : SAt w' v L := by
  obtain ⟨a, c, rfl, h1, h2, h3⟩ := h
  refine ⟨a, c, rfl, h1, h2, fun j hj => ?_⟩
  obtain ⟨p, rfl, e⟩ := h3 j hj
  exact ⟨p, rfl, (hb.cell (p := ⟨p.block, p.off + j, none⟩) (cell_lt e)).trans e⟩
theorem strs_at2 (w' : World) (g o n c k : Nat) (hk : k < n) : (Instr.indexAt 39 (.slice (some ⟨g, o, none⟩) n c) (.int .i64 (k : Int))).run Try.prog w' = .ok (.pointer (some ⟨g, o + k, none⟩)) w' := by
  rw [run_indexAt_slice w' _ _ _ _ .i64 k elemStrs, if_pos (by omega), sizeStrs]
  show Result.ok _ w' = _
  rw [show ((k : Int).toNat * 1) = k by omega, add_plain]
theorem Strs.sat {w : World} {g : Nat} {L : List ByteArray} (h : Strs w g L) (c : Nat) (hl : L.length ≤ 9223372036854775807) : SAt w (.slice (some ⟨g, 0, none⟩) L.length c) L := by
  refine ⟨_, c, rfl, hl, fun w' j hj => ?_, fun j hj => ⟨_, rfl, ?_⟩⟩
  · rw [strs_at2 w' g 0 _ c j hj]
    rfl
  · rw [Nat.zero_add]
    exact h.cell hj
theorem sat_nil (w : World) : SAt w (.slice none 0 0) [] := ⟨none, 0, rfl, by simp, fun w' j hj => absurd hj (by simp), fun j hj => absurd hj (by simp)⟩
theorem str_ne {t t2 : ByteArray} (h : ¬ t = t2) : (t.toList == t2.toList) = false := by
  rw [beq_eq_false_iff_ne]
  intro e
  apply h
  rw [ByteArray.toList_eq, ByteArray.toList_eq] at e
  cases t; cases t2
  simp only [ByteArray.mk.injEq]
  exact Array.toList_inj.1 e
set_option maxRecDepth 100000 in
set_option maxHeartbeats 8000000 in
theorem same0 (w : World) (a1 a2 : Option Addr) (c1 c2 n1 n2 : Nat) (L1 L2 : List ByteArray) (e1 : Hid (L1.length = n1)) (e2 : Hid (L2.length = n2)) (b1 : n1 ≤ 9223372036854775807) (b2 : n2 ≤ 9223372036854775807)
    (i1 : ∀ (w' : World) (j : Nat), j < n1 → (Instr.indexAt 39 (.slice a1 n1 c1) (.int .i64 (j : Int))).run Try.prog w' = .ok (.pointer (a1.map fun p => ⟨p.block, p.off + j, none⟩)) w')
    (i2 : ∀ (w' : World) (j : Nat), j < n2 → (Instr.indexAt 39 (.slice a2 n2 c2) (.int .i64 (j : Int))).run Try.prog w' = .ok (.pointer (a2.map fun p => ⟨p.block, p.off + j, none⟩)) w')
    (r1 : ∀ (j : Nat) (h : j < L1.length), ∃ p, a1 = some p ∧ w.cell? ⟨p.block, p.off + j, none⟩ = some (.string L1[j]))
    (r2 : ∀ (j : Nat) (h : j < L2.length), ∃ p, a2 = some p ∧ w.cell? ⟨p.block, p.off + j, none⟩ = some (.string L2[j])) (r : Bool) (hr : Hid (decide (L1 = L2) = r)) :
    Calls Try.prog 17 #[.slice a1 n1 c1, .slice a2 n2 c2] w fun e w' => e = .returned (.bool r) ∧ Below w.heap.size w w' := by
  go_enter Try.func17, Try.ntmps17
  go_wp2
  go_loopw [5] (fun i wr => ∃ k : Nat, k ≤ n1 ∧ k ≤ n2 ∧ i = .int .i64 (k : Int) ∧ Hid (L1.take k = L2.take k) ∧ Below w.heap.size w wr) (fun i _ => n1 - (intOf i).toNat)
  case atStart => exact ⟨0, Nat.zero_le _, Nat.zero_le _, rfl, Lib.hid rfl, Below.refl _ _⟩
  case round =>
    obtain ⟨k, k1, k2, rfl, hk, Bw⟩ := hrel
    by_cases q1 : k < n1
    · by_cases q2 : k < n2
      · have q1' : (k : Int) < (n1 : Int) := by omega
        have q2' : (k : Int) < (n2 : Int) := by omega
        have l1 : k < L1.length := by rw [e1.out]; exact q1
        have l2 : k < L2.length := by rw [e2.out]; exact q2
        obtain ⟨p1, rfl, s1⟩ := r1 k l1
        obtain ⟨p2, rfl, s2⟩ := r2 k l2
        have x1 := fun w' => i1 w' k q1
        have x2 := fun w' => i2 w' k q2
        simp only [Option.map_some] at x1 x2
        have t1 := (Bw.cell (cell_lt s1)).trans s1
        have t2 := (Bw.cell (cell_lt s2)).trans s2
        have hst : L1[k] = L2[k] → Hid (L1.take (k + 1) = L2.take (k + 1)) := fun e => Lib.hid (by
          rw [List.take_succ_eq_append_getElem l1, List.take_succ_eq_append_getElem l2, hk.out, e])
        have hno : ¬ L1[k] = L2[k] → r = false := fun e => by
          rw [← hr.out]
          exact decide_eq_false fun q => e (by subst q; rfl)
        have hH := Lib.hid (And.intro hst hno)
        clear hst hno hk s1 s2 r1 r2
        generalize L1[k] = y1 at *
        generalize L2[k] = y2 at *
        by_cases e : y1 = y2
        · have hk := hH.out.1 e
          clear hH
          subst e
          go_wp2
          go_region
          all_goals go_wp2
          all_goals go_roundw
          case rel => exact ⟨k + 1, by omega, by omega, by go_num, hk, Bw.drew⟩
          case measure => simp [intOf]; omega
        · obtain rfl := hH.out.2 e
          have ne := str_ne e
          clear hH
          go_wp2
          go_region
          all_goals go_wp2
          all_goals go_ret
          all_goals exact ⟨rfl, Bw.drew⟩
      · obtain rfl : k = n2 := by omega
        have q1' : (k : Int) < (n1 : Int) := by omega
        have hn0 : ¬ (k : Int) < (k : Int) := by omega
        have hx : ((n1 : Int) == (k : Int)) = false := by simp; omega
        obtain rfl : r = false := by
          rw [← hr.out]
          exact decide_eq_false fun q => by subst q; have := e1.out; have := e2.out; omega
        clear hk r1 r2
        go_wp2
        go_ret
        exact ⟨rfl, Bw⟩
    · obtain rfl : k = n1 := by omega
      have hn0 : ¬ (k : Int) < (k : Int) := by omega
      by_cases q2 : k = n2
      · obtain rfl : r = true := by
          rw [← hr.out]
          have := hk.out
          rw [List.take_of_length_le (Nat.le_of_eq e1.out), List.take_of_length_le (by rw [e2.out]; omega)] at this
          exact decide_eq_true this
        subst q2
        clear hk r1 r2
        go_wp2
        go_ret
        exact ⟨rfl, Bw⟩
      · obtain rfl : r = false := by
          rw [← hr.out]
          exact decide_eq_false fun q => by subst q; have := e1.out; have := e2.out; omega
        have hx : ((k : Int) == (n2 : Int)) = false := by simp; omega
        clear hk r1 r2
        go_wp2
        go_ret
        exact ⟨rfl, Bw⟩
theorem sameQ {w : World} {v1 v2 : Value} {L1 L2 : List ByteArray} (h1 : SAt w v1 L1) (h2 : SAt w v2 L2) :
    Calls Try.prog 17 #[v1, v2] w fun e w' => e = .returned (.bool (decide (L1 = L2))) ∧ Below w.heap.size w w' := by
  obtain ⟨a1, c1, rfl, b1, i1, r1⟩ := h1
  obtain ⟨a2, c2, rfl, b2, i2, r2⟩ := h2
  exact same0 w a1 a2 c1 c2 _ _ L1 L2 rfl rfl b1 b2 i1 i2 r1 r2 _ rfl
end Go.Proofs.Ytmbljiapfbadeaa.Nam
