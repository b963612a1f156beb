/-
  Layer 16: Apply of the program. (Written by wip/gen/binary-p8.py.)
-/
import Derived.Test.YtekbdiniibmhgaaBinP7g
import Derived.Test.YtekbdiniibmhgaaBinLv0g
namespace Go.Proofs.Ytekbdiniibmhgaa.Shape
open Go.RowKit
open Go.Proofs.Ytekbdiniibmhgaa.Shp (agB agL)
set_option linter.unusedVariables false
set_option linter.unusedSimpArgs false

set_option maxRecDepth 100000 in
set_option maxHeartbeats 1000000 in
theorem applyNoP (p : Int) (v v2 : Value) (A B : Arr) (w : World) (h : ArrAt w v A) (g : ArrAt w v2 B) (hp : binB p = false) : Calls Try.prog 14 #[.int .i64 p, v, v2] w (GiveNewE zeroA 1 w) := by
  have hA := h
  have hB := g
  obtain ⟨k1, sh1, nu1, it1⟩ := A
  obtain ⟨k2, sh2, nu2, it2⟩ := B
  rw [ArrAt] at h g
  obtain ⟨s1, sc1, n1, nc1, i1, ic1, rfl, hkb1, hs1, hn1, -⟩ := h
  obtain ⟨s2, sc2, n2, nc2, i2, ic2, rfl, hkb2, hs2, hn2, -⟩ := g
  have b3 := below_three w (.cells #[.int .i64 k1, .slice s1 sh1.length sc1, .slice n1 nu1.length nc1, .slice i1 it1.length ic1] 33) (.cells #[.int .i64 k2, .slice s2 sh2.length sc2, .slice n2 nu2.length nc2, .slice i2 it2.length ic2] 33) (.cells #[.int .i64 0, .slice none 0 0, .slice none 0 0, .slice none 0 0] 33)
  have hA3 := hA.below b3
  have hB3 := hB.below b3
  have qz : Quad (((w.alloc (.cells #[.int .i64 k1, .slice s1 sh1.length sc1, .slice n1 nu1.length nc1, .slice i1 it1.length ic1] 33)).alloc (.cells #[.int .i64 k2, .slice s2 sh2.length sc2, .slice n2 nu2.length nc2, .slice i2 it2.length ic2] 33)).alloc (.cells #[.int .i64 0, .slice none 0 0, .slice none 0 0, .slice none 0 0] 33)) (w.heap.size + 1 + 1) (.int .i64 0) (.slice none 0 0) (.slice none 0 0) (.slice none 0 0) := by
    have e : ((w.alloc (.cells #[.int .i64 k1, .slice s1 sh1.length sc1, .slice n1 nu1.length nc1, .slice i1 it1.length ic1] 33)).alloc (.cells #[.int .i64 k2, .slice s2 sh2.length sc2, .slice n2 nu2.length nc2, .slice i2 it2.length ic2] 33)).heap.size = w.heap.size + 1 + 1 := by simp
    rw [← e]
    exact Quad.new _ _ _ _ _
  have qx : Quad (((w.alloc (.cells #[.int .i64 k1, .slice s1 sh1.length sc1, .slice n1 nu1.length nc1, .slice i1 it1.length ic1] 33)).alloc (.cells #[.int .i64 k2, .slice s2 sh2.length sc2, .slice n2 nu2.length nc2, .slice i2 it2.length ic2] 33)).alloc (.cells #[.int .i64 0, .slice none 0 0, .slice none 0 0, .slice none 0 0] 33)) w.heap.size (.int .i64 k1) (.slice s1 sh1.length sc1) (.slice n1 nu1.length nc1) (.slice i1 it1.length ic1) :=
    (Quad.new w _ _ _ _).below (Below.then (below_new _ _) (below_new _ _))
  have qy : Quad (((w.alloc (.cells #[.int .i64 k1, .slice s1 sh1.length sc1, .slice n1 nu1.length nc1, .slice i1 it1.length ic1] 33)).alloc (.cells #[.int .i64 k2, .slice s2 sh2.length sc2, .slice n2 nu2.length nc2, .slice i2 it2.length ic2] 33)).alloc (.cells #[.int .i64 0, .slice none 0 0, .slice none 0 0, .slice none 0 0] 33)) (w.heap.size + 1) (.int .i64 k2) (.slice s2 sh2.length sc2) (.slice n2 nu2.length nc2) (.slice i2 it2.length ic2) := by
    have := (Quad.new (w.alloc (.cells #[.int .i64 k1, .slice s1 sh1.length sc1, .slice n1 nu1.length nc1, .slice i1 it1.length ic1] 33)) (.int .i64 k2) (.slice s2 sh2.length sc2) (.slice n2 nu2.length nc2) (.slice i2 it2.length ic2)).below (below_new _ (.cells #[.int .i64 0, .slice none 0 0, .slice none 0 0, .slice none 0 0] 33))
    simpa using this
  obtain ⟨x0, x1, x2, x3, -⟩ := qx.cells
  obtain ⟨y0, y1, y2, y3, -⟩ := qy.cells
  obtain ⟨z0, z1, z2, z3, z4, z5, z6, z7⟩ := qz.cells
  have EF := eql_f16
  have EN := eql_n16
  clear hA hB hA3 hB3 hs1 hs2 hn1 hn2 hkb1 hkb2
  go_enter Try.func14, Try.ntmps14
  go_wp2_with (go_at_call 18; (with_reducible refine Calls.mono (chooseN _ _ hp) ?_); rintro e w0 ⟨rfl, hb0⟩; (have c0 := (qx.below hb0).cells); (have c1 := (qy.below hb0).cells); (have c2 := (qz.below hb0).cells); (obtain ⟨xa0, xa1, xa2, xa3, -⟩ := c0); (obtain ⟨ya0, ya1, ya2, ya3, -⟩ := c1); (obtain ⟨za0, za1, za2, za3, za4, za5, za6, za7⟩ := c2))
  have hbb := Below.then b3 hb0
  have q3 := qz.below hb0
  have G := give_set4 (w := w) (R := w.heap.size + 1 + 1) (by omega) q3 (zero_on _ _) hbb
  obtain ⟨QW, -⟩ := set4 q3 (.int .i64 0) (.slice none 0 0) (.slice none 0 0) (.slice none 0 0)
  generalize ((((w0.setCell ⟨w.heap.size + 1 + 1, 0, none⟩ (.int .i64 0)).setCell ⟨w.heap.size + 1 + 1, 1, none⟩ (.slice none 0 0)).setCell ⟨w.heap.size + 1 + 1, 2, none⟩ (.slice none 0 0)).setCell ⟨w.heap.size + 1 + 1, 3, none⟩ (.slice none 0 0)) = WW at QW G ⊢
  obtain ⟨o0, o1, o2, o3, -⟩ := QW.cells
  exact bodyPost_ret (v := .tuple #[.agg #[.int .i64 0, .slice none 0 0, .slice none 0 0, .slice none 0 0], .int .i64 1]) (by simp [results, Try.results14, go_sem, o0, o1, o2, o3]) rfl (GiveNewE.mk G)

set_option maxRecDepth 100000 in
set_option maxHeartbeats 1000000 in
theorem applyXP (p : Int) (v v2 : Value) (A B : Arr) (w : World) (h : ArrAt w v A) (g : ArrAt w v2 B) (hp : binB p = true) (hE : rightE A ≠ 0) : Calls Try.prog 14 #[.int .i64 p, v, v2] w (GiveNewE zeroA 1 w) := by
  have hA := h
  have hB := g
  obtain ⟨k1, sh1, nu1, it1⟩ := A
  obtain ⟨k2, sh2, nu2, it2⟩ := B
  rw [ArrAt] at h g
  obtain ⟨s1, sc1, n1, nc1, i1, ic1, rfl, hkb1, hs1, hn1, -⟩ := h
  obtain ⟨s2, sc2, n2, nc2, i2, ic2, rfl, hkb2, hs2, hn2, -⟩ := g
  have b3 := below_three w (.cells #[.int .i64 k1, .slice s1 sh1.length sc1, .slice n1 nu1.length nc1, .slice i1 it1.length ic1] 33) (.cells #[.int .i64 k2, .slice s2 sh2.length sc2, .slice n2 nu2.length nc2, .slice i2 it2.length ic2] 33) (.cells #[.int .i64 0, .slice none 0 0, .slice none 0 0, .slice none 0 0] 33)
  have hA3 := hA.below b3
  have hB3 := hB.below b3
  have qz : Quad (((w.alloc (.cells #[.int .i64 k1, .slice s1 sh1.length sc1, .slice n1 nu1.length nc1, .slice i1 it1.length ic1] 33)).alloc (.cells #[.int .i64 k2, .slice s2 sh2.length sc2, .slice n2 nu2.length nc2, .slice i2 it2.length ic2] 33)).alloc (.cells #[.int .i64 0, .slice none 0 0, .slice none 0 0, .slice none 0 0] 33)) (w.heap.size + 1 + 1) (.int .i64 0) (.slice none 0 0) (.slice none 0 0) (.slice none 0 0) := by
    have e : ((w.alloc (.cells #[.int .i64 k1, .slice s1 sh1.length sc1, .slice n1 nu1.length nc1, .slice i1 it1.length ic1] 33)).alloc (.cells #[.int .i64 k2, .slice s2 sh2.length sc2, .slice n2 nu2.length nc2, .slice i2 it2.length ic2] 33)).heap.size = w.heap.size + 1 + 1 := by simp
    rw [← e]
    exact Quad.new _ _ _ _ _
  have qx : Quad (((w.alloc (.cells #[.int .i64 k1, .slice s1 sh1.length sc1, .slice n1 nu1.length nc1, .slice i1 it1.length ic1] 33)).alloc (.cells #[.int .i64 k2, .slice s2 sh2.length sc2, .slice n2 nu2.length nc2, .slice i2 it2.length ic2] 33)).alloc (.cells #[.int .i64 0, .slice none 0 0, .slice none 0 0, .slice none 0 0] 33)) w.heap.size (.int .i64 k1) (.slice s1 sh1.length sc1) (.slice n1 nu1.length nc1) (.slice i1 it1.length ic1) :=
    (Quad.new w _ _ _ _).below (Below.then (below_new _ _) (below_new _ _))
  have qy : Quad (((w.alloc (.cells #[.int .i64 k1, .slice s1 sh1.length sc1, .slice n1 nu1.length nc1, .slice i1 it1.length ic1] 33)).alloc (.cells #[.int .i64 k2, .slice s2 sh2.length sc2, .slice n2 nu2.length nc2, .slice i2 it2.length ic2] 33)).alloc (.cells #[.int .i64 0, .slice none 0 0, .slice none 0 0, .slice none 0 0] 33)) (w.heap.size + 1) (.int .i64 k2) (.slice s2 sh2.length sc2) (.slice n2 nu2.length nc2) (.slice i2 it2.length ic2) := by
    have := (Quad.new (w.alloc (.cells #[.int .i64 k1, .slice s1 sh1.length sc1, .slice n1 nu1.length nc1, .slice i1 it1.length ic1] 33)) (.int .i64 k2) (.slice s2 sh2.length sc2) (.slice n2 nu2.length nc2) (.slice i2 it2.length ic2)).below (below_new _ (.cells #[.int .i64 0, .slice none 0 0, .slice none 0 0, .slice none 0 0] 33))
    simpa using this
  obtain ⟨x0, x1, x2, x3, -⟩ := qx.cells
  obtain ⟨y0, y1, y2, y3, -⟩ := qy.cells
  obtain ⟨z0, z1, z2, z3, z4, z5, z6, z7⟩ := qz.cells
  have EF := eql_f16
  have EN := eql_n16
  have R1 := fun w' (g : ArrAt w' _ (.mk k1 sh1 nu1 it1)) => rightQ (.agg #[.int .i64 k1, .slice s1 sh1.length sc1, .slice n1 nu1.length nc1, .slice i1 it1.length ic1]) _ w' g
  obtain ⟨x, hx⟩ : ∃ x, rightE (.mk k1 sh1 nu1 it1) = x := ⟨_, rfl⟩
  rw [hx] at R1 hE
  have e2 : (x != 0) = true := by simpa using hE
  clear hx hE hA hB hB3 hs1 hs2 hn1 hn2 hkb1 hkb2
  go_enter Try.func14, Try.ntmps14
  go_wp2_with (first | (go_at_call 18; (with_reducible refine Calls.mono (chooseY _ _ hp) ?_); rintro e w0 ⟨t, cap, rfl, hb0, HE, hc⟩; (have FV : Hid (Fun16 w0 (.func (.func t) #[] cap) (binV p)) := ⟨t, cap, rfl, HE, hc⟩); (clear HE hc); (have c0 := (qx.below hb0).cells); (have c1 := (qy.below hb0).cells); (have c2 := (qz.below hb0).cells); (obtain ⟨xa0, xa1, xa2, xa3, -⟩ := c0); (obtain ⟨ya0, ya1, ya2, ya3, -⟩ := c1); (obtain ⟨za0, za1, za2, za3, za4, za5, za6, za7⟩ := c2)) | (go_at_call 30; (with_reducible refine Calls.mono (R1 _ (hA3.below hb0)) ?_); rintro e w1 ⟨rfl, hb1⟩; (have hb01 := Below.then hb0 hb1); (have c0 := (qx.below hb01).cells); (have c1 := (qy.below hb01).cells); (have c2 := (qz.below hb01).cells); (obtain ⟨xb0, xb1, xb2, xb3, -⟩ := c0); (obtain ⟨yb0, yb1, yb2, yb3, -⟩ := c1); (obtain ⟨zb0, zb1, zb2, zb3, zb4, zb5, zb6, zb7⟩ := c2)))
  have hbb := Below.then b3 hb01
  have q3 := qz.below hb01
  have G := give_set4 (w := w) (R := w.heap.size + 1 + 1) (by omega) q3 (zero_on _ _) hbb
  obtain ⟨QW, -⟩ := set4 q3 (.int .i64 0) (.slice none 0 0) (.slice none 0 0) (.slice none 0 0)
  generalize ((((w1.setCell ⟨w.heap.size + 1 + 1, 0, none⟩ (.int .i64 0)).setCell ⟨w.heap.size + 1 + 1, 1, none⟩ (.slice none 0 0)).setCell ⟨w.heap.size + 1 + 1, 2, none⟩ (.slice none 0 0)).setCell ⟨w.heap.size + 1 + 1, 3, none⟩ (.slice none 0 0)) = WW at QW G ⊢
  obtain ⟨o0, o1, o2, o3, -⟩ := QW.cells
  exact bodyPost_ret (v := .tuple #[.agg #[.int .i64 0, .slice none 0 0, .slice none 0 0, .slice none 0 0], .int .i64 1]) (by simp [results, Try.results14, go_sem, o0, o1, o2, o3]) rfl (GiveNewE.mk G)

set_option maxRecDepth 100000 in
set_option maxHeartbeats 1000000 in
theorem applyYP (p : Int) (v v2 : Value) (A B : Arr) (w : World) (h : ArrAt w v A) (g : ArrAt w v2 B) (hp : binB p = true) (hE1 : rightE A = 0) (hE : rightE B ≠ 0) : Calls Try.prog 14 #[.int .i64 p, v, v2] w (GiveNewE zeroA 1 w) := by
  have hA := h
  have hB := g
  obtain ⟨k1, sh1, nu1, it1⟩ := A
  obtain ⟨k2, sh2, nu2, it2⟩ := B
  rw [ArrAt] at h g
  obtain ⟨s1, sc1, n1, nc1, i1, ic1, rfl, hkb1, hs1, hn1, -⟩ := h
  obtain ⟨s2, sc2, n2, nc2, i2, ic2, rfl, hkb2, hs2, hn2, -⟩ := g
  have b3 := below_three w (.cells #[.int .i64 k1, .slice s1 sh1.length sc1, .slice n1 nu1.length nc1, .slice i1 it1.length ic1] 33) (.cells #[.int .i64 k2, .slice s2 sh2.length sc2, .slice n2 nu2.length nc2, .slice i2 it2.length ic2] 33) (.cells #[.int .i64 0, .slice none 0 0, .slice none 0 0, .slice none 0 0] 33)
  have hA3 := hA.below b3
  have hB3 := hB.below b3
  have qz : Quad (((w.alloc (.cells #[.int .i64 k1, .slice s1 sh1.length sc1, .slice n1 nu1.length nc1, .slice i1 it1.length ic1] 33)).alloc (.cells #[.int .i64 k2, .slice s2 sh2.length sc2, .slice n2 nu2.length nc2, .slice i2 it2.length ic2] 33)).alloc (.cells #[.int .i64 0, .slice none 0 0, .slice none 0 0, .slice none 0 0] 33)) (w.heap.size + 1 + 1) (.int .i64 0) (.slice none 0 0) (.slice none 0 0) (.slice none 0 0) := by
    have e : ((w.alloc (.cells #[.int .i64 k1, .slice s1 sh1.length sc1, .slice n1 nu1.length nc1, .slice i1 it1.length ic1] 33)).alloc (.cells #[.int .i64 k2, .slice s2 sh2.length sc2, .slice n2 nu2.length nc2, .slice i2 it2.length ic2] 33)).heap.size = w.heap.size + 1 + 1 := by simp
    rw [← e]
    exact Quad.new _ _ _ _ _
  have qx : Quad (((w.alloc (.cells #[.int .i64 k1, .slice s1 sh1.length sc1, .slice n1 nu1.length nc1, .slice i1 it1.length ic1] 33)).alloc (.cells #[.int .i64 k2, .slice s2 sh2.length sc2, .slice n2 nu2.length nc2, .slice i2 it2.length ic2] 33)).alloc (.cells #[.int .i64 0, .slice none 0 0, .slice none 0 0, .slice none 0 0] 33)) w.heap.size (.int .i64 k1) (.slice s1 sh1.length sc1) (.slice n1 nu1.length nc1) (.slice i1 it1.length ic1) :=
    (Quad.new w _ _ _ _).below (Below.then (below_new _ _) (below_new _ _))
  have qy : Quad (((w.alloc (.cells #[.int .i64 k1, .slice s1 sh1.length sc1, .slice n1 nu1.length nc1, .slice i1 it1.length ic1] 33)).alloc (.cells #[.int .i64 k2, .slice s2 sh2.length sc2, .slice n2 nu2.length nc2, .slice i2 it2.length ic2] 33)).alloc (.cells #[.int .i64 0, .slice none 0 0, .slice none 0 0, .slice none 0 0] 33)) (w.heap.size + 1) (.int .i64 k2) (.slice s2 sh2.length sc2) (.slice n2 nu2.length nc2) (.slice i2 it2.length ic2) := by
    have := (Quad.new (w.alloc (.cells #[.int .i64 k1, .slice s1 sh1.length sc1, .slice n1 nu1.length nc1, .slice i1 it1.length ic1] 33)) (.int .i64 k2) (.slice s2 sh2.length sc2) (.slice n2 nu2.length nc2) (.slice i2 it2.length ic2)).below (below_new _ (.cells #[.int .i64 0, .slice none 0 0, .slice none 0 0, .slice none 0 0] 33))
    simpa using this
  obtain ⟨x0, x1, x2, x3, -⟩ := qx.cells
  obtain ⟨y0, y1, y2, y3, -⟩ := qy.cells
  obtain ⟨z0, z1, z2, z3, z4, z5, z6, z7⟩ := qz.cells
  have EF := eql_f16
  have EN := eql_n16
  have R1 := fun w' (g : ArrAt w' _ (.mk k1 sh1 nu1 it1)) => rightQ (.agg #[.int .i64 k1, .slice s1 sh1.length sc1, .slice n1 nu1.length nc1, .slice i1 it1.length ic1]) _ w' g
  have R2 := fun w' (g : ArrAt w' _ (.mk k2 sh2 nu2 it2)) => rightQ (.agg #[.int .i64 k2, .slice s2 sh2.length sc2, .slice n2 nu2.length nc2, .slice i2 it2.length ic2]) _ w' g
  obtain ⟨x, hx⟩ : ∃ x, rightE (.mk k2 sh2 nu2 it2) = x := ⟨_, rfl⟩
  rw [hx] at R2 hE
  rw [hE1] at R1
  have e2 : (x != 0) = true := by simpa using hE
  clear hx hE hE1 hA hB hs1 hs2 hn1 hn2 hkb1 hkb2
  go_enter Try.func14, Try.ntmps14
  go_wp2_with (first | (go_at_call 18; (with_reducible refine Calls.mono (chooseY _ _ hp) ?_); rintro e w0 ⟨t, cap, rfl, hb0, HE, hc⟩; (have FV : Hid (Fun16 w0 (.func (.func t) #[] cap) (binV p)) := ⟨t, cap, rfl, HE, hc⟩); (clear HE hc); (have c0 := (qx.below hb0).cells); (have c1 := (qy.below hb0).cells); (have c2 := (qz.below hb0).cells); (obtain ⟨xa0, xa1, xa2, xa3, -⟩ := c0); (obtain ⟨ya0, ya1, ya2, ya3, -⟩ := c1); (obtain ⟨za0, za1, za2, za3, za4, za5, za6, za7⟩ := c2)) | (go_at_call 30; (with_reducible refine Calls.mono (R1 _ (hA3.below hb0)) ?_); rintro e w1 ⟨rfl, hb1⟩; (have hb01 := Below.then hb0 hb1); (have c0 := (qx.below hb01).cells); (have c1 := (qy.below hb01).cells); (have c2 := (qz.below hb01).cells); (obtain ⟨xb0, xb1, xb2, xb3, -⟩ := c0); (obtain ⟨yb0, yb1, yb2, yb3, -⟩ := c1); (obtain ⟨zb0, zb1, zb2, zb3, zb4, zb5, zb6, zb7⟩ := c2)) | (go_at_call 30; (with_reducible refine Calls.mono (R2 _ (hB3.below hb01)) ?_); rintro e w2 ⟨rfl, hb2⟩; (have hb02 := Below.then hb01 hb2); (have c0 := (qx.below hb02).cells); (have c1 := (qy.below hb02).cells); (have c2 := (qz.below hb02).cells); (obtain ⟨xc0, xc1, xc2, xc3, -⟩ := c0); (obtain ⟨yc0, yc1, yc2, yc3, -⟩ := c1); (obtain ⟨zc0, zc1, zc2, zc3, zc4, zc5, zc6, zc7⟩ := c2)))
  have hbb := Below.then b3 hb02
  have q3 := qz.below hb02
  have G := give_set4 (w := w) (R := w.heap.size + 1 + 1) (by omega) q3 (zero_on _ _) hbb
  obtain ⟨QW, -⟩ := set4 q3 (.int .i64 0) (.slice none 0 0) (.slice none 0 0) (.slice none 0 0)
  generalize ((((w2.setCell ⟨w.heap.size + 1 + 1, 0, none⟩ (.int .i64 0)).setCell ⟨w.heap.size + 1 + 1, 1, none⟩ (.slice none 0 0)).setCell ⟨w.heap.size + 1 + 1, 2, none⟩ (.slice none 0 0)).setCell ⟨w.heap.size + 1 + 1, 3, none⟩ (.slice none 0 0)) = WW at QW G ⊢
  obtain ⟨o0, o1, o2, o3, -⟩ := QW.cells
  exact bodyPost_ret (v := .tuple #[.agg #[.int .i64 0, .slice none 0 0, .slice none 0 0, .slice none 0 0], .int .i64 1]) (by simp [results, Try.results14, go_sem, o0, o1, o2, o3]) rfl (GiveNewE.mk G)

set_option maxRecDepth 100000 in
set_option maxHeartbeats 1000000 in
theorem applyKP (p : Int) (v v2 : Value) (A B : Arr) (w : World) (h : ArrAt w v A) (g : ArrAt w v2 B) (hp : binB p = true) (hE1 : rightE A = 0) (hE2 : rightE B = 0) (hAc : accB p A.kind B.kind = false) : Calls Try.prog 14 #[.int .i64 p, v, v2] w (GiveNewE zeroA 14 w) := by
  have hA := h
  have hB := g
  obtain ⟨k1, sh1, nu1, it1⟩ := A
  obtain ⟨k2, sh2, nu2, it2⟩ := B
  rw [ArrAt] at h g
  obtain ⟨s1, sc1, n1, nc1, i1, ic1, rfl, hkb1, hs1, hn1, -⟩ := h
  obtain ⟨s2, sc2, n2, nc2, i2, ic2, rfl, hkb2, hs2, hn2, -⟩ := g
  have b3 := below_three w (.cells #[.int .i64 k1, .slice s1 sh1.length sc1, .slice n1 nu1.length nc1, .slice i1 it1.length ic1] 33) (.cells #[.int .i64 k2, .slice s2 sh2.length sc2, .slice n2 nu2.length nc2, .slice i2 it2.length ic2] 33) (.cells #[.int .i64 0, .slice none 0 0, .slice none 0 0, .slice none 0 0] 33)
  have hA3 := hA.below b3
  have hB3 := hB.below b3
  have qz : Quad (((w.alloc (.cells #[.int .i64 k1, .slice s1 sh1.length sc1, .slice n1 nu1.length nc1, .slice i1 it1.length ic1] 33)).alloc (.cells #[.int .i64 k2, .slice s2 sh2.length sc2, .slice n2 nu2.length nc2, .slice i2 it2.length ic2] 33)).alloc (.cells #[.int .i64 0, .slice none 0 0, .slice none 0 0, .slice none 0 0] 33)) (w.heap.size + 1 + 1) (.int .i64 0) (.slice none 0 0) (.slice none 0 0) (.slice none 0 0) := by
    have e : ((w.alloc (.cells #[.int .i64 k1, .slice s1 sh1.length sc1, .slice n1 nu1.length nc1, .slice i1 it1.length ic1] 33)).alloc (.cells #[.int .i64 k2, .slice s2 sh2.length sc2, .slice n2 nu2.length nc2, .slice i2 it2.length ic2] 33)).heap.size = w.heap.size + 1 + 1 := by simp
    rw [← e]
    exact Quad.new _ _ _ _ _
  have qx : Quad (((w.alloc (.cells #[.int .i64 k1, .slice s1 sh1.length sc1, .slice n1 nu1.length nc1, .slice i1 it1.length ic1] 33)).alloc (.cells #[.int .i64 k2, .slice s2 sh2.length sc2, .slice n2 nu2.length nc2, .slice i2 it2.length ic2] 33)).alloc (.cells #[.int .i64 0, .slice none 0 0, .slice none 0 0, .slice none 0 0] 33)) w.heap.size (.int .i64 k1) (.slice s1 sh1.length sc1) (.slice n1 nu1.length nc1) (.slice i1 it1.length ic1) :=
    (Quad.new w _ _ _ _).below (Below.then (below_new _ _) (below_new _ _))
  have qy : Quad (((w.alloc (.cells #[.int .i64 k1, .slice s1 sh1.length sc1, .slice n1 nu1.length nc1, .slice i1 it1.length ic1] 33)).alloc (.cells #[.int .i64 k2, .slice s2 sh2.length sc2, .slice n2 nu2.length nc2, .slice i2 it2.length ic2] 33)).alloc (.cells #[.int .i64 0, .slice none 0 0, .slice none 0 0, .slice none 0 0] 33)) (w.heap.size + 1) (.int .i64 k2) (.slice s2 sh2.length sc2) (.slice n2 nu2.length nc2) (.slice i2 it2.length ic2) := by
    have := (Quad.new (w.alloc (.cells #[.int .i64 k1, .slice s1 sh1.length sc1, .slice n1 nu1.length nc1, .slice i1 it1.length ic1] 33)) (.int .i64 k2) (.slice s2 sh2.length sc2) (.slice n2 nu2.length nc2) (.slice i2 it2.length ic2)).below (below_new _ (.cells #[.int .i64 0, .slice none 0 0, .slice none 0 0, .slice none 0 0] 33))
    simpa using this
  obtain ⟨x0, x1, x2, x3, -⟩ := qx.cells
  obtain ⟨y0, y1, y2, y3, -⟩ := qy.cells
  obtain ⟨z0, z1, z2, z3, z4, z5, z6, z7⟩ := qz.cells
  have EF := eql_f16
  have EN := eql_n16
  have R1 := fun w' (g : ArrAt w' _ (.mk k1 sh1 nu1 it1)) => rightQ (.agg #[.int .i64 k1, .slice s1 sh1.length sc1, .slice n1 nu1.length nc1, .slice i1 it1.length ic1]) _ w' g
  have R2 := fun w' (g : ArrAt w' _ (.mk k2 sh2 nu2 it2)) => rightQ (.agg #[.int .i64 k2, .slice s2 sh2.length sc2, .slice n2 nu2.length nc2, .slice i2 it2.length ic2]) _ w' g
  rw [hE1] at R1
  rw [hE2] at R2
  have AC := fun w => acceptsP p k1 k2 w hp (kind_bd hE1) (kind_bd hE2)
  rw [show accB p k1 k2 = false from hAc] at AC
  clear hE1 hE2 hA hB hs1 hs2 hn1 hn2 hkb1 hkb2 hAc
  go_enter Try.func14, Try.ntmps14
  go_wp2_with (first | (go_at_call 18; (with_reducible refine Calls.mono (chooseY _ _ hp) ?_); rintro e w0 ⟨t, cap, rfl, hb0, HE, hc⟩; (have FV : Hid (Fun16 w0 (.func (.func t) #[] cap) (binV p)) := ⟨t, cap, rfl, HE, hc⟩); (clear HE hc); (have c0 := (qx.below hb0).cells); (have c1 := (qy.below hb0).cells); (have c2 := (qz.below hb0).cells); (obtain ⟨xa0, xa1, xa2, xa3, -⟩ := c0); (obtain ⟨ya0, ya1, ya2, ya3, -⟩ := c1); (obtain ⟨za0, za1, za2, za3, za4, za5, za6, za7⟩ := c2)) | (go_at_call 30; (with_reducible refine Calls.mono (R1 _ (hA3.below hb0)) ?_); rintro e w1 ⟨rfl, hb1⟩; (have hb01 := Below.then hb0 hb1); (have c0 := (qx.below hb01).cells); (have c1 := (qy.below hb01).cells); (have c2 := (qz.below hb01).cells); (obtain ⟨xb0, xb1, xb2, xb3, -⟩ := c0); (obtain ⟨yb0, yb1, yb2, yb3, -⟩ := c1); (obtain ⟨zb0, zb1, zb2, zb3, zb4, zb5, zb6, zb7⟩ := c2)) | (go_at_call 30; (with_reducible refine Calls.mono (R2 _ (hB3.below hb01)) ?_); rintro e w2 ⟨rfl, hb2⟩; (have hb02 := Below.then hb01 hb2); (have c0 := (qx.below hb02).cells); (have c1 := (qy.below hb02).cells); (have c2 := (qz.below hb02).cells); (obtain ⟨xc0, xc1, xc2, xc3, -⟩ := c0); (obtain ⟨yc0, yc1, yc2, yc3, -⟩ := c1); (obtain ⟨zc0, zc1, zc2, zc3, zc4, zc5, zc6, zc7⟩ := c2)) | (go_at_call 31; (with_reducible refine Calls.mono (AC _) ?_); rintro e w4 ⟨rfl, rfl⟩))
  have hbb := Below.then b3 hb02
  have q3 := qz.below hb02
  have G := give_set4 (w := w) (R := w.heap.size + 1 + 1) (by omega) q3 (zero_on _ _) hbb
  obtain ⟨QW, -⟩ := set4 q3 (.int .i64 0) (.slice none 0 0) (.slice none 0 0) (.slice none 0 0)
  generalize ((((w2.setCell ⟨w.heap.size + 1 + 1, 0, none⟩ (.int .i64 0)).setCell ⟨w.heap.size + 1 + 1, 1, none⟩ (.slice none 0 0)).setCell ⟨w.heap.size + 1 + 1, 2, none⟩ (.slice none 0 0)).setCell ⟨w.heap.size + 1 + 1, 3, none⟩ (.slice none 0 0)) = WW at QW G ⊢
  obtain ⟨o0, o1, o2, o3, -⟩ := QW.cells
  exact bodyPost_ret (v := .tuple #[.agg #[.int .i64 0, .slice none 0 0, .slice none 0 0, .slice none 0 0], .int .i64 14]) (by simp [results, Try.results14, go_sem, o0, o1, o2, o3]) rfl (GiveNewE.mk G)

set_option maxRecDepth 100000 in
set_option maxHeartbeats 1000000 in
theorem applyLP (p : Int) (v v2 : Value) (A B : Arr) (w : World) (h : ArrAt w v A) (g : ArrAt w v2 B) (hp : binB p = true) (hE1 : rightE A = 0) (hE2 : rightE B = 0) (hAc : accB p A.kind B.kind = true) (hAg : agB A.shape B.shape = false) : Calls Try.prog 14 #[.int .i64 p, v, v2] w (GiveNewE zeroA 16 w) := by
  have hA := h
  have hB := g
  obtain ⟨k1, sh1, nu1, it1⟩ := A
  obtain ⟨k2, sh2, nu2, it2⟩ := B
  rw [ArrAt] at h g
  obtain ⟨s1, sc1, n1, nc1, i1, ic1, rfl, hkb1, hs1, hn1, -⟩ := h
  obtain ⟨s2, sc2, n2, nc2, i2, ic2, rfl, hkb2, hs2, hn2, -⟩ := g
  have b3 := below_three w (.cells #[.int .i64 k1, .slice s1 sh1.length sc1, .slice n1 nu1.length nc1, .slice i1 it1.length ic1] 33) (.cells #[.int .i64 k2, .slice s2 sh2.length sc2, .slice n2 nu2.length nc2, .slice i2 it2.length ic2] 33) (.cells #[.int .i64 0, .slice none 0 0, .slice none 0 0, .slice none 0 0] 33)
  have hA3 := hA.below b3
  have hB3 := hB.below b3
  have qz : Quad (((w.alloc (.cells #[.int .i64 k1, .slice s1 sh1.length sc1, .slice n1 nu1.length nc1, .slice i1 it1.length ic1] 33)).alloc (.cells #[.int .i64 k2, .slice s2 sh2.length sc2, .slice n2 nu2.length nc2, .slice i2 it2.length ic2] 33)).alloc (.cells #[.int .i64 0, .slice none 0 0, .slice none 0 0, .slice none 0 0] 33)) (w.heap.size + 1 + 1) (.int .i64 0) (.slice none 0 0) (.slice none 0 0) (.slice none 0 0) := by
    have e : ((w.alloc (.cells #[.int .i64 k1, .slice s1 sh1.length sc1, .slice n1 nu1.length nc1, .slice i1 it1.length ic1] 33)).alloc (.cells #[.int .i64 k2, .slice s2 sh2.length sc2, .slice n2 nu2.length nc2, .slice i2 it2.length ic2] 33)).heap.size = w.heap.size + 1 + 1 := by simp
    rw [← e]
    exact Quad.new _ _ _ _ _
  have qx : Quad (((w.alloc (.cells #[.int .i64 k1, .slice s1 sh1.length sc1, .slice n1 nu1.length nc1, .slice i1 it1.length ic1] 33)).alloc (.cells #[.int .i64 k2, .slice s2 sh2.length sc2, .slice n2 nu2.length nc2, .slice i2 it2.length ic2] 33)).alloc (.cells #[.int .i64 0, .slice none 0 0, .slice none 0 0, .slice none 0 0] 33)) w.heap.size (.int .i64 k1) (.slice s1 sh1.length sc1) (.slice n1 nu1.length nc1) (.slice i1 it1.length ic1) :=
    (Quad.new w _ _ _ _).below (Below.then (below_new _ _) (below_new _ _))
  have qy : Quad (((w.alloc (.cells #[.int .i64 k1, .slice s1 sh1.length sc1, .slice n1 nu1.length nc1, .slice i1 it1.length ic1] 33)).alloc (.cells #[.int .i64 k2, .slice s2 sh2.length sc2, .slice n2 nu2.length nc2, .slice i2 it2.length ic2] 33)).alloc (.cells #[.int .i64 0, .slice none 0 0, .slice none 0 0, .slice none 0 0] 33)) (w.heap.size + 1) (.int .i64 k2) (.slice s2 sh2.length sc2) (.slice n2 nu2.length nc2) (.slice i2 it2.length ic2) := by
    have := (Quad.new (w.alloc (.cells #[.int .i64 k1, .slice s1 sh1.length sc1, .slice n1 nu1.length nc1, .slice i1 it1.length ic1] 33)) (.int .i64 k2) (.slice s2 sh2.length sc2) (.slice n2 nu2.length nc2) (.slice i2 it2.length ic2)).below (below_new _ (.cells #[.int .i64 0, .slice none 0 0, .slice none 0 0, .slice none 0 0] 33))
    simpa using this
  obtain ⟨x0, x1, x2, x3, -⟩ := qx.cells
  obtain ⟨y0, y1, y2, y3, -⟩ := qy.cells
  obtain ⟨z0, z1, z2, z3, z4, z5, z6, z7⟩ := qz.cells
  have EF := eql_f16
  have EN := eql_n16
  have R1 := fun w' (g : ArrAt w' _ (.mk k1 sh1 nu1 it1)) => rightQ (.agg #[.int .i64 k1, .slice s1 sh1.length sc1, .slice n1 nu1.length nc1, .slice i1 it1.length ic1]) _ w' g
  have R2 := fun w' (g : ArrAt w' _ (.mk k2 sh2 nu2 it2)) => rightQ (.agg #[.int .i64 k2, .slice s2 sh2.length sc2, .slice n2 nu2.length nc2, .slice i2 it2.length ic2]) _ w' g
  rw [hE1] at R1
  rw [hE2] at R2
  have AC := fun w => acceptsP p k1 k2 w hp (kind_bd hE1) (kind_bd hE2)
  have AG := fun w1 h1 h2 => Shp.agreeP s1 sc1 sh1 s2 sc2 sh2 w1 h1 h2
  have hs5 := fun w' (hb : Below _ _ w') => (hs1.below b3).below (w' := w') hb
  have hs6 := fun w' (hb : Below _ _ w') => (hs2.below b3).below (w' := w') hb
  rw [show accB p k1 k2 = true from hAc] at AC
  replace hAg : agB sh1 sh2 = false := hAg
  obtain ⟨SL, hSL⟩ : ∃ S, agL sh1 sh2 = S := ⟨_, rfl⟩
  rw [hAg, hSL] at AG
  clear hE1 hE2 hA hB hn1 hn2 hkb1 hkb2 hAc hAg hSL
  go_enter Try.func14, Try.ntmps14
  go_wp2_with (first | (go_at_call 18; (with_reducible refine Calls.mono (chooseY _ _ hp) ?_); rintro e w0 ⟨t, cap, rfl, hb0, HE, hc⟩; (have FV : Hid (Fun16 w0 (.func (.func t) #[] cap) (binV p)) := ⟨t, cap, rfl, HE, hc⟩); (clear HE hc); (have c0 := (qx.below hb0).cells); (have c1 := (qy.below hb0).cells); (have c2 := (qz.below hb0).cells); (obtain ⟨xa0, xa1, xa2, xa3, -⟩ := c0); (obtain ⟨ya0, ya1, ya2, ya3, -⟩ := c1); (obtain ⟨za0, za1, za2, za3, za4, za5, za6, za7⟩ := c2)) | (go_at_call 30; (with_reducible refine Calls.mono (R1 _ (hA3.below hb0)) ?_); rintro e w1 ⟨rfl, hb1⟩; (have hb01 := Below.then hb0 hb1); (have c0 := (qx.below hb01).cells); (have c1 := (qy.below hb01).cells); (have c2 := (qz.below hb01).cells); (obtain ⟨xb0, xb1, xb2, xb3, -⟩ := c0); (obtain ⟨yb0, yb1, yb2, yb3, -⟩ := c1); (obtain ⟨zb0, zb1, zb2, zb3, zb4, zb5, zb6, zb7⟩ := c2)) | (go_at_call 30; (with_reducible refine Calls.mono (R2 _ (hB3.below hb01)) ?_); rintro e w2 ⟨rfl, hb2⟩; (have hb02 := Below.then hb01 hb2); (have c0 := (qx.below hb02).cells); (have c1 := (qy.below hb02).cells); (have c2 := (qz.below hb02).cells); (obtain ⟨xc0, xc1, xc2, xc3, -⟩ := c0); (obtain ⟨yc0, yc1, yc2, yc3, -⟩ := c1); (obtain ⟨zc0, zc1, zc2, zc3, zc4, zc5, zc6, zc7⟩ := c2)) | (go_at_call 31; (with_reducible refine Calls.mono (AC _) ?_); rintro e w4 ⟨rfl, rfl⟩) | (go_at_call 32; (with_reducible refine Calls.mono (AG _ (hs5 _ hb02) (hs6 _ hb02)) ?_); intro e w5 hh5; unfold Shp.SBOn at hh5; (obtain ⟨sg, cg, rfl, hsg, hb5⟩ := hh5); (have hb05 := Below.then hb02 hb5); (have hi5 := hsg.1); (have FV5 := FV.out.below (Below.then (Below.then hb1 hb2) hb5)); (have c0 := (qx.below hb05).cells); (have c1 := (qy.below hb05).cells); (have c2 := (qz.below hb05).cells); (obtain ⟨xd0, xd1, xd2, xd3, -⟩ := c0); (obtain ⟨yd0, yd1, yd2, yd3, -⟩ := c1); (obtain ⟨zd0, zd1, zd2, zd3, zd4, zd5, zd6, zd7⟩ := c2)))
  have hbb := Below.then b3 hb05
  have q3 := qz.below hb05
  have G := give_set4 (w := w) (R := w.heap.size + 1 + 1) (by omega) q3 (zero_on _ _) hbb
  obtain ⟨QW, -⟩ := set4 q3 (.int .i64 0) (.slice none 0 0) (.slice none 0 0) (.slice none 0 0)
  generalize ((((w5.setCell ⟨w.heap.size + 1 + 1, 0, none⟩ (.int .i64 0)).setCell ⟨w.heap.size + 1 + 1, 1, none⟩ (.slice none 0 0)).setCell ⟨w.heap.size + 1 + 1, 2, none⟩ (.slice none 0 0)).setCell ⟨w.heap.size + 1 + 1, 3, none⟩ (.slice none 0 0)) = WW at QW G ⊢
  obtain ⟨o0, o1, o2, o3, -⟩ := QW.cells
  exact bodyPost_ret (v := .tuple #[.agg #[.int .i64 0, .slice none 0 0, .slice none 0 0, .slice none 0 0], .int .i64 16]) (by simp [results, Try.results14, go_sem, o0, o1, o2, o3]) rfl (GiveNewE.mk G)

set_option maxRecDepth 100000 in
set_option maxHeartbeats 1000000 in
theorem applyEP (p : Int) (v v2 : Value) (A B : Arr) (w : World) (h : ArrAt w v A) (g : ArrAt w v2 B) (hp : binB p = true) (hE1 : rightE A = 0) (hE2 : rightE B = 0) (hAc : accB p A.kind B.kind = true) (hAg : agB A.shape B.shape = true) (hk : A.kind = B.kind) (LL : List Int × Int) (hL : resG (binV p) A B (agL A.shape B.shape) = LL) (sz1 : (A.nums.length : Int) = pr A.shape) (sz2 : (B.nums.length : Int) = pr B.shape) (f1 : ∀ x ∈ A.nums, Num.fitsB x = true) (f2 : ∀ x ∈ B.nums, Num.fitsB x = true) (hbd : ∀ x y, Num.fitsB x = true → Num.fitsB y = true → -9223372036854775808 ≤ ((binV p) x y).1 ∧ ((binV p) x y).1 ≤ 9223372036854775807) : Calls Try.prog 14 #[.int .i64 p, v, v2] w (GiveNewE (if LL.2 = 0 then (.mk 1 (agL A.shape B.shape) LL.1 []) else zeroA) LL.2 w) := by
  have hA := h
  have hB := g
  obtain ⟨k1, sh1, nu1, it1⟩ := A
  obtain ⟨k2, sh2, nu2, it2⟩ := B
  rw [ArrAt] at h g
  obtain ⟨s1, sc1, n1, nc1, i1, ic1, rfl, hkb1, hs1, hn1, -⟩ := h
  obtain ⟨s2, sc2, n2, nc2, i2, ic2, rfl, hkb2, hs2, hn2, -⟩ := g
  have b3 := below_three w (.cells #[.int .i64 k1, .slice s1 sh1.length sc1, .slice n1 nu1.length nc1, .slice i1 it1.length ic1] 33) (.cells #[.int .i64 k2, .slice s2 sh2.length sc2, .slice n2 nu2.length nc2, .slice i2 it2.length ic2] 33) (.cells #[.int .i64 0, .slice none 0 0, .slice none 0 0, .slice none 0 0] 33)
  have hA3 := hA.below b3
  have hB3 := hB.below b3
  have qz : Quad (((w.alloc (.cells #[.int .i64 k1, .slice s1 sh1.length sc1, .slice n1 nu1.length nc1, .slice i1 it1.length ic1] 33)).alloc (.cells #[.int .i64 k2, .slice s2 sh2.length sc2, .slice n2 nu2.length nc2, .slice i2 it2.length ic2] 33)).alloc (.cells #[.int .i64 0, .slice none 0 0, .slice none 0 0, .slice none 0 0] 33)) (w.heap.size + 1 + 1) (.int .i64 0) (.slice none 0 0) (.slice none 0 0) (.slice none 0 0) := by
    have e : ((w.alloc (.cells #[.int .i64 k1, .slice s1 sh1.length sc1, .slice n1 nu1.length nc1, .slice i1 it1.length ic1] 33)).alloc (.cells #[.int .i64 k2, .slice s2 sh2.length sc2, .slice n2 nu2.length nc2, .slice i2 it2.length ic2] 33)).heap.size = w.heap.size + 1 + 1 := by simp
    rw [← e]
    exact Quad.new _ _ _ _ _
  have qx : Quad (((w.alloc (.cells #[.int .i64 k1, .slice s1 sh1.length sc1, .slice n1 nu1.length nc1, .slice i1 it1.length ic1] 33)).alloc (.cells #[.int .i64 k2, .slice s2 sh2.length sc2, .slice n2 nu2.length nc2, .slice i2 it2.length ic2] 33)).alloc (.cells #[.int .i64 0, .slice none 0 0, .slice none 0 0, .slice none 0 0] 33)) w.heap.size (.int .i64 k1) (.slice s1 sh1.length sc1) (.slice n1 nu1.length nc1) (.slice i1 it1.length ic1) :=
    (Quad.new w _ _ _ _).below (Below.then (below_new _ _) (below_new _ _))
  have qy : Quad (((w.alloc (.cells #[.int .i64 k1, .slice s1 sh1.length sc1, .slice n1 nu1.length nc1, .slice i1 it1.length ic1] 33)).alloc (.cells #[.int .i64 k2, .slice s2 sh2.length sc2, .slice n2 nu2.length nc2, .slice i2 it2.length ic2] 33)).alloc (.cells #[.int .i64 0, .slice none 0 0, .slice none 0 0, .slice none 0 0] 33)) (w.heap.size + 1) (.int .i64 k2) (.slice s2 sh2.length sc2) (.slice n2 nu2.length nc2) (.slice i2 it2.length ic2) := by
    have := (Quad.new (w.alloc (.cells #[.int .i64 k1, .slice s1 sh1.length sc1, .slice n1 nu1.length nc1, .slice i1 it1.length ic1] 33)) (.int .i64 k2) (.slice s2 sh2.length sc2) (.slice n2 nu2.length nc2) (.slice i2 it2.length ic2)).below (below_new _ (.cells #[.int .i64 0, .slice none 0 0, .slice none 0 0, .slice none 0 0] 33))
    simpa using this
  obtain ⟨x0, x1, x2, x3, -⟩ := qx.cells
  obtain ⟨y0, y1, y2, y3, -⟩ := qy.cells
  obtain ⟨z0, z1, z2, z3, z4, z5, z6, z7⟩ := qz.cells
  have EF := eql_f16
  have EN := eql_n16
  have R1 := fun w' (g : ArrAt w' _ (.mk k1 sh1 nu1 it1)) => rightQ (.agg #[.int .i64 k1, .slice s1 sh1.length sc1, .slice n1 nu1.length nc1, .slice i1 it1.length ic1]) _ w' g
  have R2 := fun w' (g : ArrAt w' _ (.mk k2 sh2 nu2 it2)) => rightQ (.agg #[.int .i64 k2, .slice s2 sh2.length sc2, .slice n2 nu2.length nc2, .slice i2 it2.length ic2]) _ w' g
  rw [hE1] at R1
  rw [hE2] at R2
  have AC := fun w => acceptsP p k1 k2 w hp (kind_bd hE1) (kind_bd hE2)
  have AG := fun w1 h1 h2 => Shp.agreeP s1 sc1 sh1 s2 sc2 sh2 w1 h1 h2
  have hs5 := fun w' (hb : Below _ _ w') => (hs1.below b3).below (w' := w') hb
  have hs6 := fun w' (hb : Below _ _ w') => (hs2.below b3).below (w' := w') hb
  rw [show accB p k1 k2 = true from hAc] at AC
  replace hAg : agB sh1 sh2 = true := hAg
  replace hL : resG (binV p) (.mk k1 sh1 nu1 it1) (.mk k2 sh2 nu2 it2) (agL sh1 sh2) = LL := hL
  obtain ⟨pr1, pr2, le1, le2, hr⟩ := ag_pre hAg
  show Calls Try.prog 14 #[.int .i64 p, .agg #[.int .i64 k1, .slice s1 sh1.length sc1, .slice n1 nu1.length nc1, .slice i1 it1.length ic1], .agg #[.int .i64 k2, .slice s2 sh2.length sc2, .slice n2 nu2.length nc2, .slice i2 it2.length ic2]] w (GiveNewE (if LL.2 = 0 then (.mk 1 (agL sh1 sh2) LL.1 []) else zeroA) LL.2 w)
  rw [hAg] at AG
  generalize agL sh1 sh2 = SL at AG pr1 pr2 le1 le2 hr hL ⊢
  have hk : k1 = k2 := hk
  subst hk
  have qk : (k1 != k1) = false := by simp
  have CB : ∀ (fv : Value) (sg : Option Addr) (cg : Nat) (w' : World), Fun16 w' fv (binV p) → Below (((w.alloc (.cells #[.int .i64 k1, .slice s1 sh1.length sc1, .slice n1 nu1.length nc1, .slice i1 it1.length ic1] 33)).alloc (.cells #[.int .i64 k1, .slice s2 sh2.length sc2, .slice n2 nu2.length nc2, .slice i2 it2.length ic2] 33)).alloc (.cells #[.int .i64 0, .slice none 0 0, .slice none 0 0, .slice none 0 0] 33)).heap.size (((w.alloc (.cells #[.int .i64 k1, .slice s1 sh1.length sc1, .slice n1 nu1.length nc1, .slice i1 it1.length ic1] 33)).alloc (.cells #[.int .i64 k1, .slice s2 sh2.length sc2, .slice n2 nu2.length nc2, .slice i2 it2.length ic2] 33)).alloc (.cells #[.int .i64 0, .slice none 0 0, .slice none 0 0, .slice none 0 0] 33)) w' → IntsAt w' sg cg SL → Calls Try.prog 34 #[fv, .agg #[.int .i64 k1, .slice s1 sh1.length sc1, .slice n1 nu1.length nc1, .slice i1 it1.length ic1], .agg #[.int .i64 k1, .slice s2 sh2.length sc2, .slice n2 nu2.length nc2, .slice i2 it2.length ic2], .slice sg SL.length cg] w' (Comb LL w') := fun fv sg cg w' hv hb hi => by
    have := combineP (binV p) fv _ _ _ _ SL sg cg w' hv (hA3.below hb) (hB3.below hb) hi hr pr1 pr2 le1 le2 sz1 sz2 f1 f2 hbd
    rw [hL] at this
    exact this
  clear hE1 hE2 hA hB hn1 hn2 hkb1 hkb2 hAc hAg hL sz1 sz2 f1 f2 hbd pr1 pr2 le1 le2 hr
  obtain ⟨L, er⟩ := LL
  simp only at CB ⊢
  by_cases he : er = 0
  · subst he
    rw [if_pos rfl]
    go_enter Try.func14, Try.ntmps14
    go_wp2_with (first | (go_at_call 18; (with_reducible refine Calls.mono (chooseY _ _ hp) ?_); rintro e w0 ⟨t, cap, rfl, hb0, HE, hc⟩; (have FV : Hid (Fun16 w0 (.func (.func t) #[] cap) (binV p)) := ⟨t, cap, rfl, HE, hc⟩); (clear HE hc); (have c0 := (qx.below hb0).cells); (have c1 := (qy.below hb0).cells); (have c2 := (qz.below hb0).cells); (obtain ⟨xa0, xa1, xa2, xa3, -⟩ := c0); (obtain ⟨ya0, ya1, ya2, ya3, -⟩ := c1); (obtain ⟨za0, za1, za2, za3, za4, za5, za6, za7⟩ := c2)) | (go_at_call 30; (with_reducible refine Calls.mono (R1 _ (hA3.below hb0)) ?_); rintro e w1 ⟨rfl, hb1⟩; (have hb01 := Below.then hb0 hb1); (have c0 := (qx.below hb01).cells); (have c1 := (qy.below hb01).cells); (have c2 := (qz.below hb01).cells); (obtain ⟨xb0, xb1, xb2, xb3, -⟩ := c0); (obtain ⟨yb0, yb1, yb2, yb3, -⟩ := c1); (obtain ⟨zb0, zb1, zb2, zb3, zb4, zb5, zb6, zb7⟩ := c2)) | (go_at_call 30; (with_reducible refine Calls.mono (R2 _ (hB3.below hb01)) ?_); rintro e w2 ⟨rfl, hb2⟩; (have hb02 := Below.then hb01 hb2); (have c0 := (qx.below hb02).cells); (have c1 := (qy.below hb02).cells); (have c2 := (qz.below hb02).cells); (obtain ⟨xc0, xc1, xc2, xc3, -⟩ := c0); (obtain ⟨yc0, yc1, yc2, yc3, -⟩ := c1); (obtain ⟨zc0, zc1, zc2, zc3, zc4, zc5, zc6, zc7⟩ := c2)) | (go_at_call 31; (with_reducible refine Calls.mono (AC _) ?_); rintro e w4 ⟨rfl, rfl⟩) | (go_at_call 32; (with_reducible refine Calls.mono (AG _ (hs5 _ hb02) (hs6 _ hb02)) ?_); intro e w5 hh5; unfold Shp.SBOn at hh5; (obtain ⟨sg, cg, rfl, hsg, hb5⟩ := hh5); (have hb05 := Below.then hb02 hb5); (have hi5 := hsg.1); (have FV5 := FV.out.below (Below.then (Below.then hb1 hb2) hb5)); (have c0 := (qx.below hb05).cells); (have c1 := (qy.below hb05).cells); (have c2 := (qz.below hb05).cells); (obtain ⟨xd0, xd1, xd2, xd3, -⟩ := c0); (obtain ⟨yd0, yd1, yd2, yd3, -⟩ := c1); (obtain ⟨zd0, zd1, zd2, zd3, zd4, zd5, zd6, zd7⟩ := c2)) | (go_at_call 34; (with_reducible refine Calls.mono (CB _ _ _ _ FV5 hb05 hi5) ?_); intro e w7 hh7; unfold Comb at hh7; (obtain ⟨sn, cn, rfl, hsn, hb7⟩ := hh7); (have hb07 := Below.then hb05 hb7); (have c0 := (qx.below hb07).cells); (have c1 := (qy.below hb07).cells); (have c2 := (qz.below hb07).cells); (obtain ⟨xf0, xf1, xf2, xf3, -⟩ := c0); (obtain ⟨yf0, yf1, yf2, yf3, -⟩ := c1); (obtain ⟨zf0, zf1, zf2, zf3, zf4, zf5, zf6, zf7⟩ := c2)))
    have hbb := Below.then b3 hb07
    have q3 := qz.below hb07
    have hlt := (qz.below hb02).lt
    have s25 := hb5.size
    have hRn : ∀ g, w2.heap.size ≤ g → w.heap.size + 1 + 1 < g := fun g hg => by omega
    have hRs : ∀ g, w5.heap.size ≤ g → w.heap.size + 1 + 1 < g := fun g hg => by omega
    have G := give_set4 (w := w) (R := w.heap.size + 1 + 1) (by omega) q3 (arr_plainOn (P := fun g => w.heap.size + 1 + 1 < g) (k := 1) (by decide) rfl rfl ((hsg.below hb7).mono fun g hg => hRn g hg.1) (hsn.mono hRs)) hbb
    obtain ⟨QW, -⟩ := set4 q3 (.int .i64 1) (.slice sg SL.length cg) (.slice sn L.length cn) (.slice none 0 0)
    generalize ((((w7.setCell ⟨w.heap.size + 1 + 1, 0, none⟩ (.int .i64 1)).setCell ⟨w.heap.size + 1 + 1, 1, none⟩ (.slice sg SL.length cg)).setCell ⟨w.heap.size + 1 + 1, 2, none⟩ (.slice sn L.length cn)).setCell ⟨w.heap.size + 1 + 1, 3, none⟩ (.slice none 0 0)) = WW at QW G ⊢
    obtain ⟨o0, o1, o2, o3, -⟩ := QW.cells
    exact bodyPost_ret (v := .tuple #[.agg #[.int .i64 1, .slice sg SL.length cg, .slice sn L.length cn, .slice none 0 0], .int .i64 0]) (by simp [results, Try.results14, go_sem, o0, o1, o2, o3]) rfl (GiveNewE.mk G)
  · have qe : (er != 0) = true := by simpa using he
    rw [if_neg he]
    go_enter Try.func14, Try.ntmps14
    go_wp2_with (first | (go_at_call 18; (with_reducible refine Calls.mono (chooseY _ _ hp) ?_); rintro e w0 ⟨t, cap, rfl, hb0, HE, hc⟩; (have FV : Hid (Fun16 w0 (.func (.func t) #[] cap) (binV p)) := ⟨t, cap, rfl, HE, hc⟩); (clear HE hc); (have c0 := (qx.below hb0).cells); (have c1 := (qy.below hb0).cells); (have c2 := (qz.below hb0).cells); (obtain ⟨xa0, xa1, xa2, xa3, -⟩ := c0); (obtain ⟨ya0, ya1, ya2, ya3, -⟩ := c1); (obtain ⟨za0, za1, za2, za3, za4, za5, za6, za7⟩ := c2)) | (go_at_call 30; (with_reducible refine Calls.mono (R1 _ (hA3.below hb0)) ?_); rintro e w1 ⟨rfl, hb1⟩; (have hb01 := Below.then hb0 hb1); (have c0 := (qx.below hb01).cells); (have c1 := (qy.below hb01).cells); (have c2 := (qz.below hb01).cells); (obtain ⟨xb0, xb1, xb2, xb3, -⟩ := c0); (obtain ⟨yb0, yb1, yb2, yb3, -⟩ := c1); (obtain ⟨zb0, zb1, zb2, zb3, zb4, zb5, zb6, zb7⟩ := c2)) | (go_at_call 30; (with_reducible refine Calls.mono (R2 _ (hB3.below hb01)) ?_); rintro e w2 ⟨rfl, hb2⟩; (have hb02 := Below.then hb01 hb2); (have c0 := (qx.below hb02).cells); (have c1 := (qy.below hb02).cells); (have c2 := (qz.below hb02).cells); (obtain ⟨xc0, xc1, xc2, xc3, -⟩ := c0); (obtain ⟨yc0, yc1, yc2, yc3, -⟩ := c1); (obtain ⟨zc0, zc1, zc2, zc3, zc4, zc5, zc6, zc7⟩ := c2)) | (go_at_call 31; (with_reducible refine Calls.mono (AC _) ?_); rintro e w4 ⟨rfl, rfl⟩) | (go_at_call 32; (with_reducible refine Calls.mono (AG _ (hs5 _ hb02) (hs6 _ hb02)) ?_); intro e w5 hh5; unfold Shp.SBOn at hh5; (obtain ⟨sg, cg, rfl, hsg, hb5⟩ := hh5); (have hb05 := Below.then hb02 hb5); (have hi5 := hsg.1); (have FV5 := FV.out.below (Below.then (Below.then hb1 hb2) hb5)); (have c0 := (qx.below hb05).cells); (have c1 := (qy.below hb05).cells); (have c2 := (qz.below hb05).cells); (obtain ⟨xd0, xd1, xd2, xd3, -⟩ := c0); (obtain ⟨yd0, yd1, yd2, yd3, -⟩ := c1); (obtain ⟨zd0, zd1, zd2, zd3, zd4, zd5, zd6, zd7⟩ := c2)) | (go_at_call 34; (with_reducible refine Calls.mono (CB _ _ _ _ FV5 hb05 hi5) ?_); intro e w7 hh7; unfold Comb at hh7; (obtain ⟨sn, cn, rfl, hsn, hb7⟩ := hh7); (have hb07 := Below.then hb05 hb7); (have c0 := (qx.below hb07).cells); (have c1 := (qy.below hb07).cells); (have c2 := (qz.below hb07).cells); (obtain ⟨xf0, xf1, xf2, xf3, -⟩ := c0); (obtain ⟨yf0, yf1, yf2, yf3, -⟩ := c1); (obtain ⟨zf0, zf1, zf2, zf3, zf4, zf5, zf6, zf7⟩ := c2)))
    have hbb := Below.then b3 hb07
    have q3 := qz.below hb07
    have G := give_set4 (w := w) (R := w.heap.size + 1 + 1) (by omega) q3 (zero_on _ _) hbb
    obtain ⟨QW, -⟩ := set4 q3 (.int .i64 0) (.slice none 0 0) (.slice none 0 0) (.slice none 0 0)
    generalize ((((w7.setCell ⟨w.heap.size + 1 + 1, 0, none⟩ (.int .i64 0)).setCell ⟨w.heap.size + 1 + 1, 1, none⟩ (.slice none 0 0)).setCell ⟨w.heap.size + 1 + 1, 2, none⟩ (.slice none 0 0)).setCell ⟨w.heap.size + 1 + 1, 3, none⟩ (.slice none 0 0)) = WW at QW G ⊢
    obtain ⟨o0, o1, o2, o3, -⟩ := QW.cells
    exact bodyPost_ret (v := .tuple #[.agg #[.int .i64 0, .slice none 0 0, .slice none 0 0, .slice none 0 0], .int .i64 er]) (by simp [results, Try.results14, go_sem, o0, o1, o2, o3]) rfl (GiveNewE.mk G)

set_option maxRecDepth 100000 in
set_option maxHeartbeats 1000000 in
theorem applyUP (p : Int) (v v2 : Value) (A B : Arr) (w : World) (h : ArrAt w v A) (g : ArrAt w v2 B) (hp : binB p = true) (hE1 : rightE A = 0) (hE2 : rightE B = 0) (hAc : accB p A.kind B.kind = true) (hAg : agB A.shape B.shape = true) (hk : ¬ A.kind = B.kind) (LL : List Int × Int) (hL : resG (fun _ _ => binV p 0 1) A B (agL A.shape B.shape) = LL) (sz1 : (A.nums.length : Int) = pr A.shape) (sz2 : (B.nums.length : Int) = pr B.shape) (f1 : ∀ x ∈ A.nums, Num.fitsB x = true) (f2 : ∀ x ∈ B.nums, Num.fitsB x = true) (hbd : ∀ x y, Num.fitsB x = true → Num.fitsB y = true → -9223372036854775808 ≤ ((fun _ _ => binV p 0 1) x y).1 ∧ ((fun _ _ => binV p 0 1) x y).1 ≤ 9223372036854775807) : Calls Try.prog 14 #[.int .i64 p, v, v2] w (GiveNewE (if LL.2 = 0 then (.mk 1 (agL A.shape B.shape) LL.1 []) else zeroA) LL.2 w) := by
  have hA := h
  have hB := g
  obtain ⟨k1, sh1, nu1, it1⟩ := A
  obtain ⟨k2, sh2, nu2, it2⟩ := B
  rw [ArrAt] at h g
  obtain ⟨s1, sc1, n1, nc1, i1, ic1, rfl, hkb1, hs1, hn1, -⟩ := h
  obtain ⟨s2, sc2, n2, nc2, i2, ic2, rfl, hkb2, hs2, hn2, -⟩ := g
  have b3 := below_three w (.cells #[.int .i64 k1, .slice s1 sh1.length sc1, .slice n1 nu1.length nc1, .slice i1 it1.length ic1] 33) (.cells #[.int .i64 k2, .slice s2 sh2.length sc2, .slice n2 nu2.length nc2, .slice i2 it2.length ic2] 33) (.cells #[.int .i64 0, .slice none 0 0, .slice none 0 0, .slice none 0 0] 33)
  have hA3 := hA.below b3
  have hB3 := hB.below b3
  have qz : Quad (((w.alloc (.cells #[.int .i64 k1, .slice s1 sh1.length sc1, .slice n1 nu1.length nc1, .slice i1 it1.length ic1] 33)).alloc (.cells #[.int .i64 k2, .slice s2 sh2.length sc2, .slice n2 nu2.length nc2, .slice i2 it2.length ic2] 33)).alloc (.cells #[.int .i64 0, .slice none 0 0, .slice none 0 0, .slice none 0 0] 33)) (w.heap.size + 1 + 1) (.int .i64 0) (.slice none 0 0) (.slice none 0 0) (.slice none 0 0) := by
    have e : ((w.alloc (.cells #[.int .i64 k1, .slice s1 sh1.length sc1, .slice n1 nu1.length nc1, .slice i1 it1.length ic1] 33)).alloc (.cells #[.int .i64 k2, .slice s2 sh2.length sc2, .slice n2 nu2.length nc2, .slice i2 it2.length ic2] 33)).heap.size = w.heap.size + 1 + 1 := by simp
    rw [← e]
    exact Quad.new _ _ _ _ _
  have qx : Quad (((w.alloc (.cells #[.int .i64 k1, .slice s1 sh1.length sc1, .slice n1 nu1.length nc1, .slice i1 it1.length ic1] 33)).alloc (.cells #[.int .i64 k2, .slice s2 sh2.length sc2, .slice n2 nu2.length nc2, .slice i2 it2.length ic2] 33)).alloc (.cells #[.int .i64 0, .slice none 0 0, .slice none 0 0, .slice none 0 0] 33)) w.heap.size (.int .i64 k1) (.slice s1 sh1.length sc1) (.slice n1 nu1.length nc1) (.slice i1 it1.length ic1) :=
    (Quad.new w _ _ _ _).below (Below.then (below_new _ _) (below_new _ _))
  have qy : Quad (((w.alloc (.cells #[.int .i64 k1, .slice s1 sh1.length sc1, .slice n1 nu1.length nc1, .slice i1 it1.length ic1] 33)).alloc (.cells #[.int .i64 k2, .slice s2 sh2.length sc2, .slice n2 nu2.length nc2, .slice i2 it2.length ic2] 33)).alloc (.cells #[.int .i64 0, .slice none 0 0, .slice none 0 0, .slice none 0 0] 33)) (w.heap.size + 1) (.int .i64 k2) (.slice s2 sh2.length sc2) (.slice n2 nu2.length nc2) (.slice i2 it2.length ic2) := by
    have := (Quad.new (w.alloc (.cells #[.int .i64 k1, .slice s1 sh1.length sc1, .slice n1 nu1.length nc1, .slice i1 it1.length ic1] 33)) (.int .i64 k2) (.slice s2 sh2.length sc2) (.slice n2 nu2.length nc2) (.slice i2 it2.length ic2)).below (below_new _ (.cells #[.int .i64 0, .slice none 0 0, .slice none 0 0, .slice none 0 0] 33))
    simpa using this
  obtain ⟨x0, x1, x2, x3, -⟩ := qx.cells
  obtain ⟨y0, y1, y2, y3, -⟩ := qy.cells
  obtain ⟨z0, z1, z2, z3, z4, z5, z6, z7⟩ := qz.cells
  have EF := eql_f16
  have EN := eql_n16
  have R1 := fun w' (g : ArrAt w' _ (.mk k1 sh1 nu1 it1)) => rightQ (.agg #[.int .i64 k1, .slice s1 sh1.length sc1, .slice n1 nu1.length nc1, .slice i1 it1.length ic1]) _ w' g
  have R2 := fun w' (g : ArrAt w' _ (.mk k2 sh2 nu2 it2)) => rightQ (.agg #[.int .i64 k2, .slice s2 sh2.length sc2, .slice n2 nu2.length nc2, .slice i2 it2.length ic2]) _ w' g
  rw [hE1] at R1
  rw [hE2] at R2
  have AC := fun w => acceptsP p k1 k2 w hp (kind_bd hE1) (kind_bd hE2)
  have AG := fun w1 h1 h2 => Shp.agreeP s1 sc1 sh1 s2 sc2 sh2 w1 h1 h2
  have hs5 := fun w' (hb : Below _ _ w') => (hs1.below b3).below (w' := w') hb
  have hs6 := fun w' (hb : Below _ _ w') => (hs2.below b3).below (w' := w') hb
  rw [show accB p k1 k2 = true from hAc] at AC
  replace hAg : agB sh1 sh2 = true := hAg
  replace hL : resG (fun _ _ => binV p 0 1) (.mk k1 sh1 nu1 it1) (.mk k2 sh2 nu2 it2) (agL sh1 sh2) = LL := hL
  obtain ⟨pr1, pr2, le1, le2, hr⟩ := ag_pre hAg
  show Calls Try.prog 14 #[.int .i64 p, .agg #[.int .i64 k1, .slice s1 sh1.length sc1, .slice n1 nu1.length nc1, .slice i1 it1.length ic1], .agg #[.int .i64 k2, .slice s2 sh2.length sc2, .slice n2 nu2.length nc2, .slice i2 it2.length ic2]] w (GiveNewE (if LL.2 = 0 then (.mk 1 (agL sh1 sh2) LL.1 []) else zeroA) LL.2 w)
  rw [hAg] at AG
  generalize agL sh1 sh2 = SL at AG pr1 pr2 le1 le2 hr hL ⊢
  have hk : ¬ k1 = k2 := hk
  have qk : (k1 != k2) = true := by simpa using hk
  have CB : ∀ (fv : Value) (sg : Option Addr) (cg : Nat) (w' : World), Fun16 w' fv (fun _ _ => binV p 0 1) → Below (((w.alloc (.cells #[.int .i64 k1, .slice s1 sh1.length sc1, .slice n1 nu1.length nc1, .slice i1 it1.length ic1] 33)).alloc (.cells #[.int .i64 k2, .slice s2 sh2.length sc2, .slice n2 nu2.length nc2, .slice i2 it2.length ic2] 33)).alloc (.cells #[.int .i64 0, .slice none 0 0, .slice none 0 0, .slice none 0 0] 33)).heap.size (((w.alloc (.cells #[.int .i64 k1, .slice s1 sh1.length sc1, .slice n1 nu1.length nc1, .slice i1 it1.length ic1] 33)).alloc (.cells #[.int .i64 k2, .slice s2 sh2.length sc2, .slice n2 nu2.length nc2, .slice i2 it2.length ic2] 33)).alloc (.cells #[.int .i64 0, .slice none 0 0, .slice none 0 0, .slice none 0 0] 33)) w' → IntsAt w' sg cg SL → Calls Try.prog 34 #[fv, .agg #[.int .i64 k1, .slice s1 sh1.length sc1, .slice n1 nu1.length nc1, .slice i1 it1.length ic1], .agg #[.int .i64 k2, .slice s2 sh2.length sc2, .slice n2 nu2.length nc2, .slice i2 it2.length ic2], .slice sg SL.length cg] w' (Comb LL w') := fun fv sg cg w' hv hb hi => by
    have := combineP (fun _ _ => binV p 0 1) fv _ _ _ _ SL sg cg w' hv (hA3.below hb) (hB3.below hb) hi hr pr1 pr2 le1 le2 sz1 sz2 f1 f2 hbd
    rw [hL] at this
    exact this
  clear hE1 hE2 hA hB hn1 hn2 hkb1 hkb2 hAc hAg hL sz1 sz2 f1 f2 hbd pr1 pr2 le1 le2 hr
  obtain ⟨L, er⟩ := LL
  simp only at CB ⊢
  by_cases he : er = 0
  · subst he
    rw [if_pos rfl]
    go_enter Try.func14, Try.ntmps14
    go_wp2_with (first | (go_at_call 18; (with_reducible refine Calls.mono (chooseY _ _ hp) ?_); rintro e w0 ⟨t, cap, rfl, hb0, HE, hc⟩; (have FV : Hid (Fun16 w0 (.func (.func t) #[] cap) (binV p)) := ⟨t, cap, rfl, HE, hc⟩); (clear HE hc); (have c0 := (qx.below hb0).cells); (have c1 := (qy.below hb0).cells); (have c2 := (qz.below hb0).cells); (obtain ⟨xa0, xa1, xa2, xa3, -⟩ := c0); (obtain ⟨ya0, ya1, ya2, ya3, -⟩ := c1); (obtain ⟨za0, za1, za2, za3, za4, za5, za6, za7⟩ := c2)) | (go_at_call 30; (with_reducible refine Calls.mono (R1 _ (hA3.below hb0)) ?_); rintro e w1 ⟨rfl, hb1⟩; (have hb01 := Below.then hb0 hb1); (have c0 := (qx.below hb01).cells); (have c1 := (qy.below hb01).cells); (have c2 := (qz.below hb01).cells); (obtain ⟨xb0, xb1, xb2, xb3, -⟩ := c0); (obtain ⟨yb0, yb1, yb2, yb3, -⟩ := c1); (obtain ⟨zb0, zb1, zb2, zb3, zb4, zb5, zb6, zb7⟩ := c2)) | (go_at_call 30; (with_reducible refine Calls.mono (R2 _ (hB3.below hb01)) ?_); rintro e w2 ⟨rfl, hb2⟩; (have hb02 := Below.then hb01 hb2); (have c0 := (qx.below hb02).cells); (have c1 := (qy.below hb02).cells); (have c2 := (qz.below hb02).cells); (obtain ⟨xc0, xc1, xc2, xc3, -⟩ := c0); (obtain ⟨yc0, yc1, yc2, yc3, -⟩ := c1); (obtain ⟨zc0, zc1, zc2, zc3, zc4, zc5, zc6, zc7⟩ := c2)) | (go_at_call 31; (with_reducible refine Calls.mono (AC _) ?_); rintro e w4 ⟨rfl, rfl⟩) | (go_at_call 32; (with_reducible refine Calls.mono (AG _ (hs5 _ hb02) (hs6 _ hb02)) ?_); intro e w5 hh5; unfold Shp.SBOn at hh5; (obtain ⟨sg, cg, rfl, hsg, hb5⟩ := hh5); (have hb05 := Below.then hb02 hb5); (have hi5 := hsg.1); (have FV5 := FV.out.below (Below.then (Below.then hb1 hb2) hb5)); (have c0 := (qx.below hb05).cells); (have c1 := (qy.below hb05).cells); (have c2 := (qz.below hb05).cells); (obtain ⟨xd0, xd1, xd2, xd3, -⟩ := c0); (obtain ⟨yd0, yd1, yd2, yd3, -⟩ := c1); (obtain ⟨zd0, zd1, zd2, zd3, zd4, zd5, zd6, zd7⟩ := c2)) | (go_at_call 33; (with_reducible refine Calls.mono (unequalF _ _ _ FV5) ?_); rintro e w6 ⟨v6, rfl, FV6, hb6⟩; (have hb06 := Below.then hb05 hb6); (have hi6 := hi5.below hb6); (have c0 := (qx.below hb06).cells); (have c1 := (qy.below hb06).cells); (have c2 := (qz.below hb06).cells); (obtain ⟨xe0, xe1, xe2, xe3, -⟩ := c0); (obtain ⟨ye0, ye1, ye2, ye3, -⟩ := c1); (obtain ⟨ze0, ze1, ze2, ze3, ze4, ze5, ze6, ze7⟩ := c2)) | (go_at_call 34; (with_reducible refine Calls.mono (CB _ _ _ _ FV6 hb06 hi6) ?_); intro e w7 hh7; unfold Comb at hh7; (obtain ⟨sn, cn, rfl, hsn, hb7⟩ := hh7); (have hb07 := Below.then hb06 hb7); (have c0 := (qx.below hb07).cells); (have c1 := (qy.below hb07).cells); (have c2 := (qz.below hb07).cells); (obtain ⟨xf0, xf1, xf2, xf3, -⟩ := c0); (obtain ⟨yf0, yf1, yf2, yf3, -⟩ := c1); (obtain ⟨zf0, zf1, zf2, zf3, zf4, zf5, zf6, zf7⟩ := c2)))
    have hbb := Below.then b3 hb07
    have q3 := qz.below hb07
    have hlt := (qz.below hb02).lt
    have s25 := hb5.size
    have hRn : ∀ g, w2.heap.size ≤ g → w.heap.size + 1 + 1 < g := fun g hg => by omega
    have hRs : ∀ g, w6.heap.size ≤ g → w.heap.size + 1 + 1 < g := fun g hg => by have s56 := hb6.size; omega
    have G := give_set4 (w := w) (R := w.heap.size + 1 + 1) (by omega) q3 (arr_plainOn (P := fun g => w.heap.size + 1 + 1 < g) (k := 1) (by decide) rfl rfl ((hsg.below (Below.then hb6 hb7)).mono fun g hg => hRn g hg.1) (hsn.mono hRs)) hbb
    obtain ⟨QW, -⟩ := set4 q3 (.int .i64 1) (.slice sg SL.length cg) (.slice sn L.length cn) (.slice none 0 0)
    generalize ((((w7.setCell ⟨w.heap.size + 1 + 1, 0, none⟩ (.int .i64 1)).setCell ⟨w.heap.size + 1 + 1, 1, none⟩ (.slice sg SL.length cg)).setCell ⟨w.heap.size + 1 + 1, 2, none⟩ (.slice sn L.length cn)).setCell ⟨w.heap.size + 1 + 1, 3, none⟩ (.slice none 0 0)) = WW at QW G ⊢
    obtain ⟨o0, o1, o2, o3, -⟩ := QW.cells
    exact bodyPost_ret (v := .tuple #[.agg #[.int .i64 1, .slice sg SL.length cg, .slice sn L.length cn, .slice none 0 0], .int .i64 0]) (by simp [results, Try.results14, go_sem, o0, o1, o2, o3]) rfl (GiveNewE.mk G)
  · have qe : (er != 0) = true := by simpa using he
    rw [if_neg he]
    go_enter Try.func14, Try.ntmps14
    go_wp2_with (first | (go_at_call 18; (with_reducible refine Calls.mono (chooseY _ _ hp) ?_); rintro e w0 ⟨t, cap, rfl, hb0, HE, hc⟩; (have FV : Hid (Fun16 w0 (.func (.func t) #[] cap) (binV p)) := ⟨t, cap, rfl, HE, hc⟩); (clear HE hc); (have c0 := (qx.below hb0).cells); (have c1 := (qy.below hb0).cells); (have c2 := (qz.below hb0).cells); (obtain ⟨xa0, xa1, xa2, xa3, -⟩ := c0); (obtain ⟨ya0, ya1, ya2, ya3, -⟩ := c1); (obtain ⟨za0, za1, za2, za3, za4, za5, za6, za7⟩ := c2)) | (go_at_call 30; (with_reducible refine Calls.mono (R1 _ (hA3.below hb0)) ?_); rintro e w1 ⟨rfl, hb1⟩; (have hb01 := Below.then hb0 hb1); (have c0 := (qx.below hb01).cells); (have c1 := (qy.below hb01).cells); (have c2 := (qz.below hb01).cells); (obtain ⟨xb0, xb1, xb2, xb3, -⟩ := c0); (obtain ⟨yb0, yb1, yb2, yb3, -⟩ := c1); (obtain ⟨zb0, zb1, zb2, zb3, zb4, zb5, zb6, zb7⟩ := c2)) | (go_at_call 30; (with_reducible refine Calls.mono (R2 _ (hB3.below hb01)) ?_); rintro e w2 ⟨rfl, hb2⟩; (have hb02 := Below.then hb01 hb2); (have c0 := (qx.below hb02).cells); (have c1 := (qy.below hb02).cells); (have c2 := (qz.below hb02).cells); (obtain ⟨xc0, xc1, xc2, xc3, -⟩ := c0); (obtain ⟨yc0, yc1, yc2, yc3, -⟩ := c1); (obtain ⟨zc0, zc1, zc2, zc3, zc4, zc5, zc6, zc7⟩ := c2)) | (go_at_call 31; (with_reducible refine Calls.mono (AC _) ?_); rintro e w4 ⟨rfl, rfl⟩) | (go_at_call 32; (with_reducible refine Calls.mono (AG _ (hs5 _ hb02) (hs6 _ hb02)) ?_); intro e w5 hh5; unfold Shp.SBOn at hh5; (obtain ⟨sg, cg, rfl, hsg, hb5⟩ := hh5); (have hb05 := Below.then hb02 hb5); (have hi5 := hsg.1); (have FV5 := FV.out.below (Below.then (Below.then hb1 hb2) hb5)); (have c0 := (qx.below hb05).cells); (have c1 := (qy.below hb05).cells); (have c2 := (qz.below hb05).cells); (obtain ⟨xd0, xd1, xd2, xd3, -⟩ := c0); (obtain ⟨yd0, yd1, yd2, yd3, -⟩ := c1); (obtain ⟨zd0, zd1, zd2, zd3, zd4, zd5, zd6, zd7⟩ := c2)) | (go_at_call 33; (with_reducible refine Calls.mono (unequalF _ _ _ FV5) ?_); rintro e w6 ⟨v6, rfl, FV6, hb6⟩; (have hb06 := Below.then hb05 hb6); (have hi6 := hi5.below hb6); (have c0 := (qx.below hb06).cells); (have c1 := (qy.below hb06).cells); (have c2 := (qz.below hb06).cells); (obtain ⟨xe0, xe1, xe2, xe3, -⟩ := c0); (obtain ⟨ye0, ye1, ye2, ye3, -⟩ := c1); (obtain ⟨ze0, ze1, ze2, ze3, ze4, ze5, ze6, ze7⟩ := c2)) | (go_at_call 34; (with_reducible refine Calls.mono (CB _ _ _ _ FV6 hb06 hi6) ?_); intro e w7 hh7; unfold Comb at hh7; (obtain ⟨sn, cn, rfl, hsn, hb7⟩ := hh7); (have hb07 := Below.then hb06 hb7); (have c0 := (qx.below hb07).cells); (have c1 := (qy.below hb07).cells); (have c2 := (qz.below hb07).cells); (obtain ⟨xf0, xf1, xf2, xf3, -⟩ := c0); (obtain ⟨yf0, yf1, yf2, yf3, -⟩ := c1); (obtain ⟨zf0, zf1, zf2, zf3, zf4, zf5, zf6, zf7⟩ := c2)))
    have hbb := Below.then b3 hb07
    have q3 := qz.below hb07
    have G := give_set4 (w := w) (R := w.heap.size + 1 + 1) (by omega) q3 (zero_on _ _) hbb
    obtain ⟨QW, -⟩ := set4 q3 (.int .i64 0) (.slice none 0 0) (.slice none 0 0) (.slice none 0 0)
    generalize ((((w7.setCell ⟨w.heap.size + 1 + 1, 0, none⟩ (.int .i64 0)).setCell ⟨w.heap.size + 1 + 1, 1, none⟩ (.slice none 0 0)).setCell ⟨w.heap.size + 1 + 1, 2, none⟩ (.slice none 0 0)).setCell ⟨w.heap.size + 1 + 1, 3, none⟩ (.slice none 0 0)) = WW at QW G ⊢
    obtain ⟨o0, o1, o2, o3, -⟩ := QW.cells
    exact bodyPost_ret (v := .tuple #[.agg #[.int .i64 0, .slice none 0 0, .slice none 0 0, .slice none 0 0], .int .i64 er]) (by simp [results, Try.results14, go_sem, o0, o1, o2, o3]) rfl (GiveNewE.mk G)

end Go.Proofs.Ytekbdiniibmhgaa.Shape
