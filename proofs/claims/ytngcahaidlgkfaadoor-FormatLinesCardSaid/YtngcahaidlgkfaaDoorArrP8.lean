/-
  Layer 3: the program's validCopy, Scalar, Vector, Box and Boxes. (Written by wip/gen/array-p8.py.)
-/
import Derived.Test.YtngcahaidlgkfaaDoorArrP7b
import Derived.Test.YtngcahaidlgkfaaDoorArrMakers
namespace Go.Proofs.YtngcahaidlgkfaaDoor.Shape
open Go.RowKit

theorem GiveOwn.new {A : Arr} {w w' : World} {e : Ending} (h : GiveOwn A w e w') : GiveNew A w e w' := by
  obtain ⟨k, a1, n1, m1, a2, n2, m2, a3, n3, m3, rfl, hO, hb⟩ := h
  exact GiveNew.mk (hO.mono fun g hg => hg.1) hb
theorem cloneN (v : Value) (A : Arr) (w : World) (h : ArrAt w v A) (hr : Reach A) : Calls Tryd.prog 87 #[v] w (GiveNew A w) := (cloneO v A w h hr).mono fun _ _ h => h.new
set_option maxRecDepth 100000 in
set_option maxHeartbeats 2000000 in
theorem validN (v : Value) (A : Arr) (w : World) (h : ArrAt w v A) (hr : Reach A) : Calls Tryd.prog 84 #[v] w (GiveNew (validA A) w) := by
  have hA := h
  obtain ⟨k, sa, ls, sc, na, ln, nc, ia, li, ic, rfl⟩ : ∃ k sa ls sc na ln nc ia li ic, v = .agg #[.int .i64 k, .slice sa ls sc, .slice na ln nc, .slice ia li ic] := by
    obtain ⟨k, sh, nu, it⟩ := A
    rw [ArrAt] at h
    obtain ⟨sa, sc, na, nc, ia, ic, rfl, -⟩ := h
    exact ⟨_, _, _, _, _, _, _, _, _, _, rfl⟩
  have bw := below_two w (.cells #[.int .i64 k, .slice sa ls sc, .slice na ln nc, .slice ia li ic] 26) (.cells #[.int .i64 0, .slice none 0 0, .slice none 0 0, .slice none 0 0] 26)
  have hA1 := hA.below bw
  have q1 := (Quad.new w (.int .i64 k) (.slice sa ls sc) (.slice na ln nc) (.slice ia li ic)).below (below_new _ (.cells #[.int .i64 0, .slice none 0 0, .slice none 0 0, .slice none 0 0] 26))
  have q2 : Quad ((w.alloc (.cells #[.int .i64 k, .slice sa ls sc, .slice na ln nc, .slice ia li ic] 26)).alloc (.cells #[.int .i64 0, .slice none 0 0, .slice none 0 0, .slice none 0 0] 26)) (w.heap.size + 1) (.int .i64 0) (.slice none 0 0) (.slice none 0 0) (.slice none 0 0) := by
    simpa using Quad.new (w.alloc (.cells #[.int .i64 k, .slice sa ls sc, .slice na ln nc, .slice ia li ic] 26)) (.int .i64 0) (.slice none 0 0) (.slice none 0 0) (.slice none 0 0)
  have bz : ((w.alloc (.cells #[.int .i64 k, .slice sa ls sc, .slice na ln nc, .slice ia li ic] 26)).alloc (.cells #[.int .i64 0, .slice none 0 0, .slice none 0 0, .slice none 0 0] 26)).heap.size = w.heap.size + 2 := by simp
  obtain ⟨x, hx⟩ : ∃ x, rightE A = x := ⟨_, rfl⟩
  have R := fun v' w' (g : ArrAt w' v' A) => rightQ v' A w' g
  rw [hx] at R
  have B := bz
  clear bz
  by_cases hz : x = 0
  · subst hz
    have HV : Hid (validA A = A) := by unfold Hid; rw [validA, if_pos hx]
    clear hx
    have HB : Hid _ := B
    clear B
    go_enter Tryd.func84, Tryd.ntmps84
    go_wp2_with (first
      | (go_at_call 18; refine (R _ _ hA1).mono ?_; rintro e w1 ⟨rfl, hb1⟩; (obtain ⟨p0, p1, p2, p3, -⟩ := (q1.below hb1).cells))
      | (go_at_call 87; refine (cloneN _ _ _ (hA1.below hb1) hr).mono ?_; intro e w2 hN; (obtain ⟨k', sa', ls', sc', na', ln', nc', ia', li', ic', rfl, hO, hb2⟩ := hN.form); (obtain ⟨s0, s1, s2, s3, s4, s5, s6, s7⟩ := ((q2.below hb1).below hb2).cells)))
    have q3 := (q2.below hb1).below hb2
    have hb := HB.out
    have hs1 := hb1.size
    have G := give_set4 (Nat.le_succ w.heap.size) q3 (hO.mono fun g hg => by omega) (Below.then (Below.then bw hb1) hb2)
    obtain ⟨QW, -⟩ := set4 q3 (.int .i64 k') (.slice sa' ls' sc') (.slice na' ln' nc') (.slice ia' li' ic')
    generalize ((((w2.setCell ⟨w.heap.size + 1, 0, none⟩ (.int .i64 k')).setCell ⟨w.heap.size + 1, 1, none⟩ (.slice sa' ls' sc')).setCell ⟨w.heap.size + 1, 2, none⟩ (.slice na' ln' nc')).setCell ⟨w.heap.size + 1, 3, none⟩ (.slice ia' li' ic')) = WW at QW G ⊢
    obtain ⟨z0, z1, z2, z3, -⟩ := QW.cells
    rw [HV.out]
    exact bodyPost_ret (v := .agg #[.int .i64 k', .slice sa' ls' sc', .slice na' ln' nc', .slice ia' li' ic']) (by simp [results, Tryd.results84, go_sem, z0, z1, z2, z3]) rfl G
  · have e1 : (x == 0) = false := by simpa using hz
    have e2 : (x != 0) = true := by simpa using hz
    have HV : Hid (validA A = zeroA) := by unfold Hid; rw [validA, hx, if_neg hz]
    clear hx hz B
    go_enter Tryd.func84, Tryd.ntmps84
    go_wp2_with (first
      | (go_at_call 18; refine (R _ _ hA1).mono ?_; rintro e w1 ⟨rfl, hb1⟩; (obtain ⟨s0, s1, s2, s3, s4, s5, s6, s7⟩ := (q2.below hb1).cells)))
    have q3 := q2.below hb1
    have G := give_set4 (Nat.le_succ w.heap.size) q3 (zero_on _ _) (Below.then bw hb1)
    obtain ⟨QW, -⟩ := set4 q3 (.int .i64 0) (.slice none 0 0) (.slice none 0 0) (.slice none 0 0)
    generalize ((((w1.setCell ⟨w.heap.size + 1, 0, none⟩ (.int .i64 0)).setCell ⟨w.heap.size + 1, 1, none⟩ (.slice none 0 0)).setCell ⟨w.heap.size + 1, 2, none⟩ (.slice none 0 0)).setCell ⟨w.heap.size + 1, 3, none⟩ (.slice none 0 0)) = WW at QW G ⊢
    obtain ⟨z0, z1, z2, z3, -⟩ := QW.cells
    rw [HV.out]
    exact bodyPost_ret (v := .agg #[.int .i64 0, .slice none 0 0, .slice none 0 0, .slice none 0 0]) (by simp [results, Tryd.results84, go_sem, z0, z1, z2, z3]) rfl G

set_option maxRecDepth 100000 in
set_option maxHeartbeats 2000000 in
theorem scalarN (n : Int) (w : World) (hn : -9223372036854775808 ≤ n ∧ n ≤ 9223372036854775807) : Calls Tryd.prog 72 #[.int .i64 n] w (GiveNew (validA (.mk 1 [] [n] [])) w) := by
  have bw := below_two w (.cells #[.int .i64 0, .slice none 0 0, .slice none 0 0, .slice none 0 0] 26) (.cells #[.int .i64 n] 3)
  have hr : Reach (.mk 1 [] [n] []) := reach_plain (by simp) (by simp)
  have hA1 : ArrAt ((w.alloc (.cells #[.int .i64 0, .slice none 0 0, .slice none 0 0, .slice none 0 0] 26)).alloc (.cells #[.int .i64 n] 3)) (.agg #[.int .i64 1, .slice none 0 0, .slice (some ⟨w.heap.size + 1, 0, none⟩) 1 1, .slice none 0 0]) (.mk 1 [] [n] []) :=
    arr_plain (by decide) rfl rfl (ints_nil _) (ints_one _ _ _ _ hn (by rw [World.cell?_alloc_at _ _ _ _ (by simp)]; rfl) (by decide) (by decide))
  have q2 := (Quad.new w (.int .i64 0) (.slice none 0 0) (.slice none 0 0) (.slice none 0 0)).below (below_new _ (.cells #[.int .i64 n] 3))
  have HB : Hid (((w.alloc (.cells #[.int .i64 0, .slice none 0 0, .slice none 0 0, .slice none 0 0] 26)).alloc (.cells #[.int .i64 n] 3)).heap.size = w.heap.size + 2) := by unfold Hid; simp
  go_enter Tryd.func72, Tryd.ntmps72
  go_wp2_with (go_at_call 84; refine (validN _ _ _ hA1 hr).mono ?_; intro e w2 hN; (obtain ⟨k', sa', ls', sc', na', ln', nc', ia', li', ic', rfl, hO, hb2⟩ := hN.form); (obtain ⟨s0, s1, s2, s3, s4, s5, s6, s7⟩ := (q2.below hb2).cells))
  have q3 := q2.below hb2
  have hb := HB.out
  have G := give_set4 (w := w) (R := w.heap.size) (by omega) q3 (hO.mono fun g hg => by omega) (Below.then bw hb2)
  obtain ⟨QW, -⟩ := set4 q3 (.int .i64 k') (.slice sa' ls' sc') (.slice na' ln' nc') (.slice ia' li' ic')
  generalize ((((w2.setCell ⟨w.heap.size, 0, none⟩ (.int .i64 k')).setCell ⟨w.heap.size, 1, none⟩ (.slice sa' ls' sc')).setCell ⟨w.heap.size, 2, none⟩ (.slice na' ln' nc')).setCell ⟨w.heap.size, 3, none⟩ (.slice ia' li' ic')) = WW at QW G ⊢
  obtain ⟨z0, z1, z2, z3, -⟩ := QW.cells
  exact bodyPost_ret (v := .agg #[.int .i64 k', .slice sa' ls' sc', .slice na' ln' nc', .slice ia' li' ic']) (by simp [results, Tryd.results72, go_sem, z0, z1, z2, z3]) rfl G



set_option maxRecDepth 100000 in
set_option maxHeartbeats 2000000 in
theorem vectorN (a : Option Addr) (c : Nat) (xs : List Int) (w : World) (h : IntsAt w a c xs) (hx : xs.length * 8 ≤ 140737488351232) :
    Calls Tryd.prog 74 #[.slice a xs.length c] w (GiveNew (validA (.mk 1 [(xs.length : Int)] xs [])) w) := by
  have hnb := nat_bd h.len
  have bw := below_two w (.cells #[.int .i64 0, .slice none 0 0, .slice none 0 0, .slice none 0 0] 26) (.cells #[.int .i64 (xs.length : Int)] 3)
  have hr : Reach (.mk 1 [(xs.length : Int)] xs []) := reach_plain (by simp) hx
  have hA1 : ArrAt ((w.alloc (.cells #[.int .i64 0, .slice none 0 0, .slice none 0 0, .slice none 0 0] 26)).alloc (.cells #[.int .i64 (xs.length : Int)] 3)) (.agg #[.int .i64 1, .slice (some ⟨w.heap.size + 1, 0, none⟩) 1 1, .slice a xs.length c, .slice none 0 0]) (.mk 1 [(xs.length : Int)] xs []) :=
    arr_plain (by decide) rfl rfl (ints_one _ _ _ _ hnb (by rw [World.cell?_alloc_at _ _ _ _ (by simp)]; rfl) (by decide) (by decide)) (h.below bw)
  have q2 := (Quad.new w (.int .i64 0) (.slice none 0 0) (.slice none 0 0) (.slice none 0 0)).below (below_new _ (.cells #[.int .i64 (xs.length : Int)] 3))
  have HB : Hid (((w.alloc (.cells #[.int .i64 0, .slice none 0 0, .slice none 0 0, .slice none 0 0] 26)).alloc (.cells #[.int .i64 (xs.length : Int)] 3)).heap.size = w.heap.size + 2) := by unfold Hid; simp
  go_enter Tryd.func74, Tryd.ntmps74
  go_wp2_with (go_at_call 84; refine (validN _ _ _ hA1 hr).mono ?_; intro e w2 hN; (obtain ⟨k', sa', ls', sc', na', ln', nc', ia', li', ic', rfl, hO, hb2⟩ := hN.form); (obtain ⟨s0, s1, s2, s3, s4, s5, s6, s7⟩ := (q2.below hb2).cells))
  have q3 := q2.below hb2
  have hb := HB.out
  have G := give_set4 (w := w) (R := w.heap.size) (by omega) q3 (hO.mono fun g hg => by omega) (Below.then bw hb2)
  obtain ⟨QW, -⟩ := set4 q3 (.int .i64 k') (.slice sa' ls' sc') (.slice na' ln' nc') (.slice ia' li' ic')
  generalize ((((w2.setCell ⟨w.heap.size, 0, none⟩ (.int .i64 k')).setCell ⟨w.heap.size, 1, none⟩ (.slice sa' ls' sc')).setCell ⟨w.heap.size, 2, none⟩ (.slice na' ln' nc')).setCell ⟨w.heap.size, 3, none⟩ (.slice ia' li' ic')) = WW at QW G ⊢
  obtain ⟨z0, z1, z2, z3, -⟩ := QW.cells
  exact bodyPost_ret (v := .agg #[.int .i64 k', .slice sa' ls' sc', .slice na' ln' nc', .slice ia' li' ic']) (by simp [results, Tryd.results74, go_sem, z0, z1, z2, z3]) rfl G



set_option maxRecDepth 100000 in
set_option maxHeartbeats 2000000 in
theorem boxN (v : Value) (A : Arr) (w : World) (h : ArrAt w v A) (hA : Reach A) : Calls Tryd.prog 73 #[v] w (GiveNew (validA (.mk 3 [] [] [A])) w) := by
  have h0 := h
  obtain ⟨c0, c1, c2, c3, rfl, hc0, hc1, hc2, hc3⟩ : ∃ c0 c1 c2 c3 : Value, v = .agg #[c0, c1, c2, c3] ∧ (∃ k, c0 = .int .i64 k) ∧ (∃ a n c, c1 = .slice a n c) ∧ (∃ a n c, c2 = .slice a n c) ∧ (∃ a n c, c3 = .slice a n c) := by
    obtain ⟨k, sh, nu, it⟩ := A
    rw [ArrAt] at h
    obtain ⟨sa, sc, na, nc, ia, ic, rfl, -⟩ := h
    exact ⟨_, _, _, _, rfl, ⟨_, rfl⟩, ⟨_, _, _, rfl⟩, ⟨_, _, _, rfl⟩, ⟨_, _, _, rfl⟩⟩
  clear h
  have bw := below_three w (.cells #[c0, c1, c2, c3] 26) (.cells #[.int .i64 0, .slice none 0 0, .slice none 0 0, .slice none 0 0] 26) (.cells #[c0, c1, c2, c3] 26)
  have hr : Reach (.mk 3 [] [] [A]) := by rw [Reach]; exact ⟨by simp, by simp, by simp, by rw [ReachL, ReachL]; exact ⟨hA, trivial⟩⟩
  have q9 : Quad (((w.alloc (.cells #[c0, c1, c2, c3] 26)).alloc (.cells #[.int .i64 0, .slice none 0 0, .slice none 0 0, .slice none 0 0] 26)).alloc (.cells #[c0, c1, c2, c3] 26)) (w.heap.size + 2) c0 c1 c2 c3 := by simpa using Quad.new ((w.alloc (.cells #[c0, c1, c2, c3] 26)).alloc (.cells #[.int .i64 0, .slice none 0 0, .slice none 0 0, .slice none 0 0] 26)) c0 c1 c2 c3
  obtain ⟨m0, m1, m2, m3, -⟩ := q9.cells
  have hA1 : ArrAt (((w.alloc (.cells #[c0, c1, c2, c3] 26)).alloc (.cells #[.int .i64 0, .slice none 0 0, .slice none 0 0, .slice none 0 0] 26)).alloc (.cells #[c0, c1, c2, c3] 26)) (.agg #[.int .i64 3, .slice none 0 0, .slice none 0 0, .slice (some ⟨w.heap.size + 1 + 1, 0, none⟩) 1 1]) (.mk 3 [] [] [A]) :=
    arr_boxed (c0 := c0) (c1 := c1) (c2 := c2) (c3 := c3) ⟨m0, m1, m2, m3⟩ (h0.below bw) (by decide) (by decide)
  clear q9 m0 m1 m2 m3
  have q2 : Quad (((w.alloc (.cells #[c0, c1, c2, c3] 26)).alloc (.cells #[.int .i64 0, .slice none 0 0, .slice none 0 0, .slice none 0 0] 26)).alloc (.cells #[c0, c1, c2, c3] 26)) (w.heap.size + 1) (.int .i64 0) (.slice none 0 0) (.slice none 0 0) (.slice none 0 0) := by simpa using (Quad.new (w.alloc (.cells #[c0, c1, c2, c3] 26)) (.int .i64 0) (.slice none 0 0) (.slice none 0 0) (.slice none 0 0)).below (below_new _ (.cells #[c0, c1, c2, c3] 26))
  have HB : Hid ((((w.alloc (.cells #[c0, c1, c2, c3] 26)).alloc (.cells #[.int .i64 0, .slice none 0 0, .slice none 0 0, .slice none 0 0] 26)).alloc (.cells #[c0, c1, c2, c3] 26)).heap.size = w.heap.size + 3) := by unfold Hid; simp
  obtain ⟨k, rfl⟩ := hc0
  obtain ⟨sa, ls, sc, rfl⟩ := hc1
  obtain ⟨na, ln, nc, rfl⟩ := hc2
  obtain ⟨ia, li, ic, rfl⟩ := hc3
  go_enter Tryd.func73, Tryd.ntmps73
  go_wp2_with (go_at_call 84; refine (validN _ _ _ hA1 hr).mono ?_; intro e w2 hN; (obtain ⟨k', sa', ls', sc', na', ln', nc', ia', li', ic', rfl, hO, hb2⟩ := hN.form); (obtain ⟨s0, s1, s2, s3, s4, s5, s6, s7⟩ := (q2.below hb2).cells))
  have q3 := q2.below hb2
  have hb := HB.out
  have G := give_set4 (w := w) (R := w.heap.size + 1) (by omega) q3 (hO.mono fun g hg => by omega) (Below.then bw hb2)
  obtain ⟨QW, -⟩ := set4 q3 (.int .i64 k') (.slice sa' ls' sc') (.slice na' ln' nc') (.slice ia' li' ic')
  generalize ((((w2.setCell ⟨w.heap.size + 1, 0, none⟩ (.int .i64 k')).setCell ⟨w.heap.size + 1, 1, none⟩ (.slice sa' ls' sc')).setCell ⟨w.heap.size + 1, 2, none⟩ (.slice na' ln' nc')).setCell ⟨w.heap.size + 1, 3, none⟩ (.slice ia' li' ic')) = WW at QW G ⊢
  obtain ⟨z0, z1, z2, z3, -⟩ := QW.cells
  exact bodyPost_ret (v := .agg #[.int .i64 k', .slice sa' ls' sc', .slice na' ln' nc', .slice ia' li' ic']) (by simp [results, Tryd.results73, go_sem, z0, z1, z2, z3]) rfl G



end Go.Proofs.YtngcahaidlgkfaaDoor.Shape
