/-
  Layer 3: the program's cycle: a list repeated cyclically.
-/
import Derived.Test.YtphcpolgeceljaaDoorArrP9
import Derived.Test.YtphcpolgeceljaaDoorArrOf1
namespace Go.Proofs.YtphcpolgeceljaaDoor.Shape
open Go.RowKit
set_option linter.unusedVariables false

/-- Repeated up to j, where whole copies end: one copy more, or its beginning. -/
theorem cyc_block {α : Type} (l : List α) (z : α) (j m : Nat) (h0 : 0 < l.length) (hj : j % l.length = 0) (hm : m ≤ l.length) : cyc l z (j + m) = cyc l z j ++ l.take m := by
  unfold cyc
  rw [List.range_add, List.map_append, List.map_map]
  congr 1
  apply List.ext_getElem
  · simp; omega
  · intro i h1 h2
    simp only [List.length_map, List.length_range] at h1
    simp only [List.getElem_map, List.getElem_range, Function.comp_apply, List.getElem_take]
    have e : (j + i) % l.length = i := by
      rw [Nat.add_mod, hj, Nat.zero_add, Nat.mod_mod]
      exact Nat.mod_eq_of_lt (by omega)
    rw [e, List.getD_eq_getElem?_getD, List.getElem?_eq_getElem (by omega)]
    rfl
theorem cyc_nil {α : Type} (l : List α) (z : α) : cyc l z 0 = [] := rfl
theorem cyc_map {α β : Type} (f : α → β) (l : List α) (z : α) (n : Nat) : cyc (l.map f) (f z) n = (cyc l z n).map f := by
  unfold cyc
  rw [List.map_map, List.length_map]
  apply List.map_congr_left
  intro i _
  simp [List.getD_eq_getElem?_getD]
/-- The row while it is filled: j cells, and what is still zero. -/
def Filled (w : World) (G : Nat) (t : TypeId) (qs : List Value) (z : Value) (N j : Nat) : Prop := ∃ rest : List Value, w.heap[G]? = some (.cells (cyc qs z j ++ rest).toArray t (0, 0)) ∧ rest.length + j = N
theorem filled_step {w : World} {G : Nat} {t : TypeId} {qs : List Value} {z : Value} {N j m : Nat} (h : Filled w G t qs z N j) (h0 : 0 < qs.length) (hj : j % qs.length = 0) (hm : m ≤ qs.length) (hN : j + m ≤ N) (cur : Array Value) (hc : w.heap[G]? = some (.cells cur t (0, 0))) :
    Filled (w.setRow G (cur.toList.take j ++ ((qs.take m) ++ cur.toList.drop (j + (qs.take m).length))).toArray) G t qs z N (j + m) := by
  obtain ⟨rest, hr, hl⟩ := h
  rw [hr] at hc
  simp only [Option.some.injEq, Obj.cells.injEq, and_true] at hc
  have hcl := cyc_len qs z j
  have e : cur.toList = cyc qs z j ++ rest := by rw [← hc]
  have hlen : (qs.take m).length = m := by rw [List.length_take]; omega
  refine ⟨rest.drop m, ?_, by rw [List.length_drop]; omega⟩
  rw [setRow_heap w G _ _ t _ hr, e, hlen, cyc_block qs z j m h0 hj hm]
  generalize cyc qs z j = C at hcl
  have e1 : (C ++ rest).take j = C := by rw [List.take_append_of_le_length (by omega), List.take_of_length_le (by omega)]
  have e2 : (C ++ rest).drop (j + m) = rest.drop m := by
    rw [List.drop_append, List.drop_of_length_le (by omega), List.nil_append, hcl, Nat.add_sub_cancel_left]
  rw [e1, e2, List.append_assoc]

theorem min_part (L s j : Nat) : Nat.min L (s - j) = if j + L ≤ s then L else s - j := by
  split
  · exact Nat.min_eq_left (by omega)
  · exact Nat.min_eq_right (by omega)

set_option maxHeartbeats 2000000 in
theorem cycleI_any (ad : Addr) (cap L : Nat) (qs : List Value) (n : Nat) (w : World) (hq : qs.length = L * 1) (h0 : 0 < L) (hr : L * 8 ≤ 140737488351232) (hn : n ≤ 65536)
    (hsrc : ∀ j v, qs[j]? = some v → w.cell? (ad.add j) = some v) (hadd : ∀ j, (ad.add j).block = ad.block) (h1 : ∀ u ∈ qs, u.oneCell' = true) :
    Calls Tryd.prog 62 #[.slice (some ad) L cap, .int .i64 (n : Int)] w fun e w' => e = .returned (.slice (some ⟨w.heap.size, 0, none⟩) n n) ∧ w'.heap[w.heap.size]? = some (.cells (cyc qs (.int .i64 0) (n * 1)).toArray 3 (0, 0)) ∧ Below w.heap.size w w' := by
  have hm := run_makeInts w n (by omega)
  have hlt0 : ad.block < w.heap.size := by
    have h2 : 0 < qs.length := by omega
    have h3 := hsrc 0 qs[0] (List.getElem?_eq_getElem h2)
    have h4 := World.cell?_spot h3
    have h5 := hadd 0
    cases hx : ad.add 0 with
    | mk b o sp =>
      rw [hx] at h3 h4 h5
      simp only at h4 h5
      subst h4
      rw [← h5]
      exact cell_lt h3
  have hsrc2 : ∀ W : World, Below w.heap.size w W → ∀ m j v, (qs.take m)[j]? = some v → W.cell? (ad.add j) = some v := by
    intro W hW m j v hj
    have hjm : j < m := by
      have := (List.getElem?_eq_some_iff.1 hj).1
      simp only [List.length_take] at this
      omega
    rw [List.getElem?_take_of_lt hjm] at hj
    rw [hW.cell (by rw [hadd]; exact hlt0)]
    exact hsrc j v hj
  have hne : ((L : Int) == 0) = false := by simp; omega
  have h0' : 0 < qs.length := by omega
  have F0 : Filled (w.alloc (.cells (madeCells #[.int .i64 0] n) 3)) w.heap.size 3 qs (.int .i64 0) (n * 1) 0 := ⟨((madeCells #[.int .i64 0] n)).toList, by rw [heap_alloc_new, cyc_nil, List.nil_append], by simp [size_madeCells]⟩
  have b0 := below_new w (.cells (madeCells #[.int .i64 0] n) 3)
  clear hsrc
  go_enter Tryd.func62, Tryd.ntmps62
  go_wp2_with fail
  go_loopw [6] (fun at' wr => ∃ j : Nat, at' = .int .i64 j ∧ Hid (j % L = 0) ∧ j < n + L ∧ Filled wr w.heap.size 3 qs (.int .i64 0) (n * 1) (min j n * 1) ∧ Below w.heap.size w wr) (fun at' _ => n - (intOf at').toNat)
  case atStart => exact ⟨0, rfl, Nat.zero_mod _, by omega, by simpa using F0, b0⟩
  case round =>
    obtain ⟨j, rfl, hj, hjn, hF, hb⟩ := hrel
    by_cases hlt : j < n
    · rw [Nat.min_eq_left (by omega)] at hF
      obtain ⟨rest, hg, hl⟩ := id hF
      obtain ⟨m, hme⟩ : ∃ m, Nat.min L (n - j) = m := ⟨_, rfl⟩
      have hm1 : m ≤ L := by rw [← hme]; exact Nat.min_le_left _ _
      have hm2 : m ≤ n - j := by rw [← hme]; exact Nat.min_le_right _ _
      have hm3 : Hid (min (j + L) n = j + m) := by unfold Hid; rw [← hme, min_part]; split <;> omega
      have hlt2 : (qs.take (m * 1)).length = m * 1 := by rw [List.length_take, hq, Nat.min_eq_left (Nat.mul_le_mul_right _ hm1)]
      have hcl := cyc_len qs (.int .i64 0) (j * 1)
      obtain ⟨W2, hcp, hF2, hb2⟩ : ∃ W2, (∀ ty, (Builtin.copy_ #[23, 23] ty #[.slice (some ⟨w.heap.size, j, none⟩) (n - j) (n - j), .slice (some ad) L cap]).run Tryd.prog wr = .ok (goInt m) W2) ∧ Hid (Filled W2 w.heap.size 3 qs (.int .i64 0) (n * 1) (min (j + L) n * 1)) ∧ Below w.heap.size w W2 := by
        have hc := fun ty => run_copy_wide (P := Tryd.prog) wr 23 23 ty 3 w.heap.size (j * 1) (n - j) (n - j) ad L cap 1 _ 3 (qs.take (m * 1)) Tryd.underlying23 sizeInt1 hg (by rw [hlt2, hme]) (hsrc2 _ hb _) (by rw [List.size_toArray, List.length_append, hcl, hlt2]; omega) (fun u hu => h1 u (List.mem_of_mem_take hu))
        rw [hme] at hc
        refine ⟨_, (by have hx := hc; rw [show (⟨w.heap.size, j * 1, none⟩ : Addr) = ⟨w.heap.size, j, none⟩ by rw [Nat.mul_one]] at hx; exact hx), ?_, below_setRow hb (Nat.le_refl _) _⟩
        have hst := filled_step hF h0' (by rw [hq, Nat.mul_mod_mul_right, hj.out, Nat.zero_mul]) (show m * 1 ≤ qs.length by rw [hq]; exact Nat.mul_le_mul_right _ hm1) (by rw [← Nat.add_mul]; exact Nat.mul_le_mul_right _ (by omega)) _ hg
        unfold Hid
        rw [hm3.out, Nat.add_mul]
        exact hst
      have hjL : Hid ((j + L) % L = 0) := by unfold Hid; rw [Nat.add_mod_right]; exact hj.out
      clear hF hg hl hcl hlt2 hme
      go_wp2_with fail
      go_roundw
      case rel => exact ⟨j + L, by go_num, hjL, by omega, hF2.out, hb2⟩
      case measure => simp [intOf]; omega
    · rw [Nat.min_eq_right (by omega)] at hF
      obtain ⟨rest, hg, hl⟩ := hF
      obtain rfl : rest = [] := List.eq_nil_of_length_eq_zero (by omega)
      rw [List.append_nil] at hg
      go_wp2_with fail
      go_ret
      exact ⟨rfl, hg, hb⟩

set_option maxHeartbeats 2000000 in
theorem cycleA_any (ad : Addr) (cap L : Nat) (qs : List Value) (n : Nat) (w : World) (hq : qs.length = L * 4) (h0 : 0 < L) (hr : L * 8 ≤ 140737488351232) (hn : n ≤ 65536)
    (hsrc : ∀ j v, qs[j]? = some v → w.cell? (ad.add j) = some v) (hadd : ∀ j, (ad.add j).block = ad.block) (h1 : ∀ u ∈ qs, u.oneCell' = true) :
    Calls Tryd.prog 63 #[.slice (some ad) L cap, .int .i64 (n : Int)] w fun e w' => e = .returned (.slice (some ⟨w.heap.size, 0, none⟩) n n) ∧ w'.heap[w.heap.size]? = some (.cells (cyc qs (.int .i64 0) (n * 4)).toArray 26 (0, 0)) ∧ Below w.heap.size w w' := by
  have hm := run_makeArrs w n (by omega)
  have hlt0 : ad.block < w.heap.size := by
    have h2 : 0 < qs.length := by omega
    have h3 := hsrc 0 qs[0] (List.getElem?_eq_getElem h2)
    have h4 := World.cell?_spot h3
    have h5 := hadd 0
    cases hx : ad.add 0 with
    | mk b o sp =>
      rw [hx] at h3 h4 h5
      simp only at h4 h5
      subst h4
      rw [← h5]
      exact cell_lt h3
  have hsrc2 : ∀ W : World, Below w.heap.size w W → ∀ m j v, (qs.take m)[j]? = some v → W.cell? (ad.add j) = some v := by
    intro W hW m j v hj
    have hjm : j < m := by
      have := (List.getElem?_eq_some_iff.1 hj).1
      simp only [List.length_take] at this
      omega
    rw [List.getElem?_take_of_lt hjm] at hj
    rw [hW.cell (by rw [hadd]; exact hlt0)]
    exact hsrc j v hj
  have hne : ((L : Int) == 0) = false := by simp; omega
  have h0' : 0 < qs.length := by omega
  have F0 : Filled (w.alloc (.cells (madeCells #[.int .i64 0, .slice none 0 0, .slice none 0 0, .slice none 0 0] (n * 4)) 26)) w.heap.size 26 qs (.int .i64 0) (n * 4) 0 := ⟨((madeCells #[.int .i64 0, .slice none 0 0, .slice none 0 0, .slice none 0 0] (n * 4))).toList, by rw [heap_alloc_new, cyc_nil, List.nil_append], by simp [size_madeCells]⟩
  have b0 := below_new w (.cells (madeCells #[.int .i64 0, .slice none 0 0, .slice none 0 0, .slice none 0 0] (n * 4)) 26)
  clear hsrc
  go_enter Tryd.func63, Tryd.ntmps63
  go_wp2_with fail
  go_loopw [6] (fun at' wr => ∃ j : Nat, at' = .int .i64 j ∧ Hid (j % L = 0) ∧ j < n + L ∧ Filled wr w.heap.size 26 qs (.int .i64 0) (n * 4) (min j n * 4) ∧ Below w.heap.size w wr) (fun at' _ => n - (intOf at').toNat)
  case atStart => exact ⟨0, rfl, Nat.zero_mod _, by omega, by simpa using F0, b0⟩
  case round =>
    obtain ⟨j, rfl, hj, hjn, hF, hb⟩ := hrel
    by_cases hlt : j < n
    · rw [Nat.min_eq_left (by omega)] at hF
      obtain ⟨rest, hg, hl⟩ := id hF
      obtain ⟨m, hme⟩ : ∃ m, Nat.min L (n - j) = m := ⟨_, rfl⟩
      have hm1 : m ≤ L := by rw [← hme]; exact Nat.min_le_left _ _
      have hm2 : m ≤ n - j := by rw [← hme]; exact Nat.min_le_right _ _
      have hm3 : Hid (min (j + L) n = j + m) := by unfold Hid; rw [← hme, min_part]; split <;> omega
      have hlt2 : (qs.take (m * 4)).length = m * 4 := by rw [List.length_take, hq, Nat.min_eq_left (Nat.mul_le_mul_right _ hm1)]
      have hcl := cyc_len qs (.int .i64 0) (j * 4)
      obtain ⟨W2, hcp, hF2, hb2⟩ : ∃ W2, (∀ ty, (Builtin.copy_ #[24, 24] ty #[.slice (some ⟨w.heap.size, j * 4, none⟩) (n - j) (n - j), .slice (some ad) L cap]).run Tryd.prog wr = .ok (goInt m) W2) ∧ Hid (Filled W2 w.heap.size 26 qs (.int .i64 0) (n * 4) (min (j + L) n * 4)) ∧ Below w.heap.size w W2 := by
        have hc := fun ty => run_copy_wide (P := Tryd.prog) wr 24 24 ty 26 w.heap.size (j * 4) (n - j) (n - j) ad L cap 4 _ 26 (qs.take (m * 4)) Tryd.underlying24 sizeArr4 hg (by rw [hlt2, hme]) (hsrc2 _ hb _) (by rw [List.size_toArray, List.length_append, hcl, hlt2]; omega) (fun u hu => h1 u (List.mem_of_mem_take hu))
        rw [hme] at hc
        refine ⟨_, hc, ?_, below_setRow hb (Nat.le_refl _) _⟩
        have hst := filled_step hF h0' (by rw [hq, Nat.mul_mod_mul_right, hj.out, Nat.zero_mul]) (show m * 4 ≤ qs.length by rw [hq]; exact Nat.mul_le_mul_right _ hm1) (by rw [← Nat.add_mul]; exact Nat.mul_le_mul_right _ (by omega)) _ hg
        unfold Hid
        rw [hm3.out, Nat.add_mul]
        exact hst
      have hjL : Hid ((j + L) % L = 0) := by unfold Hid; rw [Nat.add_mod_right]; exact hj.out
      clear hF hg hl hcl hlt2 hme
      go_wp2_with fail
      go_roundw
      case rel => exact ⟨j + L, by go_num, hjL, by omega, hF2.out, hb2⟩
      case measure => simp [intOf]; omega
    · rw [Nat.min_eq_right (by omega)] at hF
      obtain ⟨rest, hg, hl⟩ := hF
      obtain rfl : rest = [] := List.eq_nil_of_length_eq_zero (by omega)
      rw [List.append_nil] at hg
      go_wp2_with fail
      go_ret
      exact ⟨rfl, hg, hb⟩

end Go.Proofs.YtphcpolgeceljaaDoor.Shape
