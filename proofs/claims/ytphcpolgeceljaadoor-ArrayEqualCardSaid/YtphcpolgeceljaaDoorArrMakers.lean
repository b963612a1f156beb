/-
  Layer 3: the reference's Scalar, Vector, Box and Boxes. (Written by wip/gen/array-makers.py.)
-/
import Derived.Test.YtphcpolgeceljaaDoorArrValid
namespace Go.Proofs.YtphcpolgeceljaaDoor.Shape
open Go.RowKit

theorem reach_plain {k : Int} {sh nu : List Int} (h1 : sh.length * 8 ≤ 140737488351232) (h2 : nu.length * 8 ≤ 140737488351232) : Reach (.mk k sh nu []) := by
  rw [Reach]; exact ⟨h1, h2, by simp, by rw [ReachL]; trivial⟩
theorem nat_bd {n : Nat} (h : n ≤ 9223372036854775807) : -9223372036854775808 ≤ (n : Int) ∧ (n : Int) ≤ 9223372036854775807 := by omega

set_option maxRecDepth 100000 in
set_option maxHeartbeats 2000000 in
theorem scalarR (n : Int) (w : World) (hn : -9223372036854775808 ≤ n ∧ n ≤ 9223372036854775807) : Calls Tryd.prog 26 #[.int .i64 n] w (GiveNew (validA (.mk 1 [] [n] [])) w) := by
  have bw := below_two w (.cells #[.int .i64 0, .slice none 0 0, .slice none 0 0, .slice none 0 0] 26) (.cells #[.int .i64 n] 3)
  have hr : Reach (.mk 1 [] [n] []) := reach_plain (by simp) (by simp)
  have hA1 : ArrAt ((w.alloc (.cells #[.int .i64 0, .slice none 0 0, .slice none 0 0, .slice none 0 0] 26)).alloc (.cells #[.int .i64 n] 3)) (.agg #[.int .i64 1, .slice none 0 0, .slice (some ⟨w.heap.size + 1, 0, none⟩) 1 1, .slice none 0 0]) (.mk 1 [] [n] []) :=
    arr_plain (by decide) rfl rfl (ints_nil _) (ints_one _ _ _ _ hn (by rw [World.cell?_alloc_at _ _ _ _ (by simp)]; rfl) (by decide) (by decide))
  have q2 := (Quad.new w (.int .i64 0) (.slice none 0 0) (.slice none 0 0) (.slice none 0 0)).below (below_new _ (.cells #[.int .i64 n] 3))
  have HB : Hid (((w.alloc (.cells #[.int .i64 0, .slice none 0 0, .slice none 0 0, .slice none 0 0] 26)).alloc (.cells #[.int .i64 n] 3)).heap.size = w.heap.size + 2) := by unfold Hid; simp
  go_enter Tryd.func26, Tryd.ntmps26
  go_wp2_with (go_at_call 57; refine (validR _ _ _ hA1 hr).mono ?_; intro e w2 hN; (obtain ⟨k', sa', ls', sc', na', ln', nc', ia', li', ic', rfl, hO, hb2⟩ := hN.form); (obtain ⟨s0, s1, s2, s3, s4, s5, s6, s7⟩ := (q2.below hb2).cells))
  have q3 := q2.below hb2
  have hb := HB.out
  have G := give_set4 (w := w) (R := w.heap.size) (by omega) q3 (hO.mono fun g hg => by omega) (Below.then bw hb2)
  obtain ⟨QW, -⟩ := set4 q3 (.int .i64 k') (.slice sa' ls' sc') (.slice na' ln' nc') (.slice ia' li' ic')
  generalize ((((w2.setCell ⟨w.heap.size, 0, none⟩ (.int .i64 k')).setCell ⟨w.heap.size, 1, none⟩ (.slice sa' ls' sc')).setCell ⟨w.heap.size, 2, none⟩ (.slice na' ln' nc')).setCell ⟨w.heap.size, 3, none⟩ (.slice ia' li' ic')) = WW at QW G ⊢
  obtain ⟨z0, z1, z2, z3, -⟩ := QW.cells
  exact bodyPost_ret (v := .agg #[.int .i64 k', .slice sa' ls' sc', .slice na' ln' nc', .slice ia' li' ic']) (by simp [results, Tryd.results26, go_sem, z0, z1, z2, z3]) rfl G


set_option maxRecDepth 100000 in
set_option maxHeartbeats 2000000 in
theorem vectorR (a : Option Addr) (c : Nat) (xs : List Int) (w : World) (h : IntsAt w a c xs) (hx : xs.length * 8 ≤ 140737488351232) :
    Calls Tryd.prog 30 #[.slice a xs.length c] w (GiveNew (validA (.mk 1 [(xs.length : Int)] xs [])) w) := by
  have hnb := nat_bd h.len
  have bw := below_two w (.cells #[.int .i64 0, .slice none 0 0, .slice none 0 0, .slice none 0 0] 26) (.cells #[.int .i64 (xs.length : Int)] 3)
  have hr : Reach (.mk 1 [(xs.length : Int)] xs []) := reach_plain (by simp) hx
  have hA1 : ArrAt ((w.alloc (.cells #[.int .i64 0, .slice none 0 0, .slice none 0 0, .slice none 0 0] 26)).alloc (.cells #[.int .i64 (xs.length : Int)] 3)) (.agg #[.int .i64 1, .slice (some ⟨w.heap.size + 1, 0, none⟩) 1 1, .slice a xs.length c, .slice none 0 0]) (.mk 1 [(xs.length : Int)] xs []) :=
    arr_plain (by decide) rfl rfl (ints_one _ _ _ _ hnb (by rw [World.cell?_alloc_at _ _ _ _ (by simp)]; rfl) (by decide) (by decide)) (h.below bw)
  have q2 := (Quad.new w (.int .i64 0) (.slice none 0 0) (.slice none 0 0) (.slice none 0 0)).below (below_new _ (.cells #[.int .i64 (xs.length : Int)] 3))
  have HB : Hid (((w.alloc (.cells #[.int .i64 0, .slice none 0 0, .slice none 0 0, .slice none 0 0] 26)).alloc (.cells #[.int .i64 (xs.length : Int)] 3)).heap.size = w.heap.size + 2) := by unfold Hid; simp
  go_enter Tryd.func30, Tryd.ntmps30
  go_wp2_with (go_at_call 57; refine (validR _ _ _ hA1 hr).mono ?_; intro e w2 hN; (obtain ⟨k', sa', ls', sc', na', ln', nc', ia', li', ic', rfl, hO, hb2⟩ := hN.form); (obtain ⟨s0, s1, s2, s3, s4, s5, s6, s7⟩ := (q2.below hb2).cells))
  have q3 := q2.below hb2
  have hb := HB.out
  have G := give_set4 (w := w) (R := w.heap.size) (by omega) q3 (hO.mono fun g hg => by omega) (Below.then bw hb2)
  obtain ⟨QW, -⟩ := set4 q3 (.int .i64 k') (.slice sa' ls' sc') (.slice na' ln' nc') (.slice ia' li' ic')
  generalize ((((w2.setCell ⟨w.heap.size, 0, none⟩ (.int .i64 k')).setCell ⟨w.heap.size, 1, none⟩ (.slice sa' ls' sc')).setCell ⟨w.heap.size, 2, none⟩ (.slice na' ln' nc')).setCell ⟨w.heap.size, 3, none⟩ (.slice ia' li' ic')) = WW at QW G ⊢
  obtain ⟨z0, z1, z2, z3, -⟩ := QW.cells
  exact bodyPost_ret (v := .agg #[.int .i64 k', .slice sa' ls' sc', .slice na' ln' nc', .slice ia' li' ic']) (by simp [results, Tryd.results30, go_sem, z0, z1, z2, z3]) rfl G


theorem below_three (w : World) (o o' o'' : Obj) : Below w.heap.size w (((w.alloc o).alloc o').alloc o'') := (below_two w o o').alloc (by simp; omega) _
set_option maxRecDepth 100000 in
set_option maxHeartbeats 2000000 in
theorem boxR (v : Value) (A : Arr) (w : World) (h : ArrAt w v A) (hA : Reach A) : Calls Tryd.prog 28 #[v] w (GiveNew (validA (.mk 3 [] [] [A])) w) := by
  have h0 := h
  obtain ⟨c0, c1, c2, c3, rfl, hc0, hc1, hc2, hc3⟩ : ∃ c0 c1 c2 c3 : Value, v = .agg #[c0, c1, c2, c3] ∧ (∃ k, c0 = .int .i64 k) ∧ (∃ a n c, c1 = .slice a n c) ∧ (∃ a n c, c2 = .slice a n c) ∧ (∃ a n c, c3 = .slice a n c) := by
    obtain ⟨k, sh, nu, it⟩ := A
    rw [ArrAt] at h
    obtain ⟨sa, sc, na, nc, ia, ic, rfl, -⟩ := h
    exact ⟨_, _, _, _, rfl, ⟨_, rfl⟩, ⟨_, _, _, rfl⟩, ⟨_, _, _, rfl⟩, ⟨_, _, _, rfl⟩⟩
  clear h
  have bw := below_three w (.cells #[c0, c1, c2, c3] 26) (.cells #[.int .i64 0, .slice none 0 0, .slice none 0 0, .slice none 0 0] 26) (.cells #[c0, c1, c2, c3] 26)
  have hr : Reach (.mk 3 [] [] [A]) := by rw [Reach]; exact ⟨by simp, by simp, by simp, by rw [ReachL, ReachL]; exact ⟨hA, trivial⟩⟩
  have q9 : Quad (((w.alloc (.cells #[c0, c1, c2, c3] 26)).alloc (.cells #[.int .i64 0, .slice none 0 0, .slice none 0 0, .slice none 0 0] 26)).alloc (.cells #[c0, c1, c2, c3] 26)) (w.heap.size + 2) c0 c1 c2 c3 := by simpa using Quad.new ((w.alloc (.cells #[c0, c1, c2, c3] 26)).alloc (.cells #[.int .i64 0, .slice none 0 0, .slice none 0 0, .slice none 0 0] 26)) c0 c1 c2 c3
  obtain ⟨m0, m1, m2, m3, -⟩ := q9.cells
  have hA1 : ArrAt (((w.alloc (.cells #[c0, c1, c2, c3] 26)).alloc (.cells #[.int .i64 0, .slice none 0 0, .slice none 0 0, .slice none 0 0] 26)).alloc (.cells #[c0, c1, c2, c3] 26)) (.agg #[.int .i64 3, .slice none 0 0, .slice none 0 0, .slice (some ⟨w.heap.size + 1 + 1, 0, none⟩) 1 1]) (.mk 3 [] [] [A]) :=
    arr_boxed (c0 := c0) (c1 := c1) (c2 := c2) (c3 := c3) ⟨m0, m1, m2, m3⟩ (h0.below bw) (by decide) (by decide)
  clear q9 m0 m1 m2 m3
  have q2 : Quad (((w.alloc (.cells #[c0, c1, c2, c3] 26)).alloc (.cells #[.int .i64 0, .slice none 0 0, .slice none 0 0, .slice none 0 0] 26)).alloc (.cells #[c0, c1, c2, c3] 26)) (w.heap.size + 1) (.int .i64 0) (.slice none 0 0) (.slice none 0 0) (.slice none 0 0) := by simpa using (Quad.new (w.alloc (.cells #[c0, c1, c2, c3] 26)) (.int .i64 0) (.slice none 0 0) (.slice none 0 0) (.slice none 0 0)).below (below_new _ (.cells #[c0, c1, c2, c3] 26))
  have HB : Hid ((((w.alloc (.cells #[c0, c1, c2, c3] 26)).alloc (.cells #[.int .i64 0, .slice none 0 0, .slice none 0 0, .slice none 0 0] 26)).alloc (.cells #[c0, c1, c2, c3] 26)).heap.size = w.heap.size + 3) := by unfold Hid; simp
  obtain ⟨k, rfl⟩ := hc0
  obtain ⟨sa, ls, sc, rfl⟩ := hc1
  obtain ⟨na, ln, nc, rfl⟩ := hc2
  obtain ⟨ia, li, ic, rfl⟩ := hc3
  go_enter Tryd.func28, Tryd.ntmps28
  go_wp2_with (go_at_call 57; refine (validR _ _ _ hA1 hr).mono ?_; intro e w2 hN; (obtain ⟨k', sa', ls', sc', na', ln', nc', ia', li', ic', rfl, hO, hb2⟩ := hN.form); (obtain ⟨s0, s1, s2, s3, s4, s5, s6, s7⟩ := (q2.below hb2).cells))
  have q3 := q2.below hb2
  have hb := HB.out
  have G := give_set4 (w := w) (R := w.heap.size + 1) (by omega) q3 (hO.mono fun g hg => by omega) (Below.then bw hb2)
  obtain ⟨QW, -⟩ := set4 q3 (.int .i64 k') (.slice sa' ls' sc') (.slice na' ln' nc') (.slice ia' li' ic')
  generalize ((((w2.setCell ⟨w.heap.size + 1, 0, none⟩ (.int .i64 k')).setCell ⟨w.heap.size + 1, 1, none⟩ (.slice sa' ls' sc')).setCell ⟨w.heap.size + 1, 2, none⟩ (.slice na' ln' nc')).setCell ⟨w.heap.size + 1, 3, none⟩ (.slice ia' li' ic')) = WW at QW G ⊢
  obtain ⟨z0, z1, z2, z3, -⟩ := QW.cells
  exact bodyPost_ret (v := .agg #[.int .i64 k', .slice sa' ls' sc', .slice na' ln' nc', .slice ia' li' ic']) (by simp [results, Tryd.results28, go_sem, z0, z1, z2, z3]) rfl G


set_option maxRecDepth 100000 in
set_option maxHeartbeats 2000000 in
theorem boxesR (a : Option Addr) (c : Nat) (l : List Arr) (w : World) (b off : Nat) (hlc : l.length ≤ c) (hc : c ≤ 9223372036854775807) (ha : l ≠ [] → a = some ⟨b, off, none⟩) (h : ArrsAt w b off l) (hl : l.length * 80 ≤ 140737488351232) (hR : ReachL l) :
    Calls Tryd.prog 34 #[.slice a l.length c] w (GiveNew (validA (.mk 3 [(l.length : Int)] [] l)) w) := by
  have hnb := nat_bd (Nat.le_trans hlc hc)
  have bw := below_two w (.cells #[.int .i64 0, .slice none 0 0, .slice none 0 0, .slice none 0 0] 26) (.cells #[.int .i64 (l.length : Int)] 3)
  have hr : Reach (.mk 3 [(l.length : Int)] [] l) := by rw [Reach]; exact ⟨by simp, by simp, hl, hR⟩
  have hA1 : ArrAt ((w.alloc (.cells #[.int .i64 0, .slice none 0 0, .slice none 0 0, .slice none 0 0] 26)).alloc (.cells #[.int .i64 (l.length : Int)] 3)) (.agg #[.int .i64 3, .slice (some ⟨w.heap.size + 1, 0, none⟩) 1 1, .slice none 0 0, .slice a l.length c]) (.mk 3 [(l.length : Int)] [] l) := by
    rw [ArrAt]
    exact ⟨some ⟨w.heap.size + 1, 0, none⟩, 1, none, 0, a, c, rfl, by decide, ints_one _ _ _ _ hnb (by rw [World.cell?_alloc_at _ _ _ _ (by simp)]; rfl) (by decide) (by decide), ints_nil _, hlc, hc, b, off, ha, ArrsAt.below bw h⟩
  have q2 := (Quad.new w (.int .i64 0) (.slice none 0 0) (.slice none 0 0) (.slice none 0 0)).below (below_new _ (.cells #[.int .i64 (l.length : Int)] 3))
  have HB : Hid (((w.alloc (.cells #[.int .i64 0, .slice none 0 0, .slice none 0 0, .slice none 0 0] 26)).alloc (.cells #[.int .i64 (l.length : Int)] 3)).heap.size = w.heap.size + 2) := by unfold Hid; simp
  go_enter Tryd.func34, Tryd.ntmps34
  go_wp2_with (go_at_call 57; refine (validR _ _ _ hA1 hr).mono ?_; intro e w2 hN; (obtain ⟨k', sa', ls', sc', na', ln', nc', ia', li', ic', rfl, hO, hb2⟩ := hN.form); (obtain ⟨s0, s1, s2, s3, s4, s5, s6, s7⟩ := (q2.below hb2).cells))
  have q3 := q2.below hb2
  have hb := HB.out
  have G := give_set4 (w := w) (R := w.heap.size) (by omega) q3 (hO.mono fun g hg => by omega) (Below.then bw hb2)
  obtain ⟨QW, -⟩ := set4 q3 (.int .i64 k') (.slice sa' ls' sc') (.slice na' ln' nc') (.slice ia' li' ic')
  generalize ((((w2.setCell ⟨w.heap.size, 0, none⟩ (.int .i64 k')).setCell ⟨w.heap.size, 1, none⟩ (.slice sa' ls' sc')).setCell ⟨w.heap.size, 2, none⟩ (.slice na' ln' nc')).setCell ⟨w.heap.size, 3, none⟩ (.slice ia' li' ic')) = WW at QW G ⊢
  obtain ⟨z0, z1, z2, z3, -⟩ := QW.cells
  exact bodyPost_ret (v := .agg #[.int .i64 k', .slice sa' ls' sc', .slice na' ln' nc', .slice ia' li' ic']) (by simp [results, Tryd.results34, go_sem, z0, z1, z2, z3]) rfl G

end Go.Proofs.YtphcpolgeceljaaDoor.Shape
