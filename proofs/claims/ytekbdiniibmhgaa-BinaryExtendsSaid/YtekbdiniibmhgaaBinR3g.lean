/-
  Layer 16: Apply of the reference. (Written by wip/gen/binary-r3.py.)
-/
import Derived.Test.YtekbdiniibmhgaaBinR2g
import Derived.Test.YtekbdiniibmhgaaBinAppg
import Derived.Test.YtekbdiniibmhgaaBinValg
import Derived.Test.YtekbdiniibmhgaaBinGS
import Derived.Test.YtekbdiniibmhgaaBinGW
import Derived.BigQuiet
namespace Go.Proofs.Ytekbdiniibmhgaa.Shape
open Go.RowKit
open Go.Proofs.Ytekbdiniibmhgaa.Shp (agB agL)
set_option linter.unusedVariables false
set_option linter.unusedSimpArgs false

theorem kind_form {w : World} {k : Int} {c1 c2 c3 : Value} {A : Arr} (h : ArrAt w (.agg #[.int .i64 k, c1, c2, c3]) A) : A.kind = k := by
  obtain ⟨k', sh, nu, it⟩ := A
  rw [ArrAt] at h
  obtain ⟨sa, sc, na, nc, ia, ic, hv, -⟩ := h
  simp only [Value.agg.injEq, Array.mk.injEq, List.cons.injEq, Value.int.injEq] at hv
  exact hv.1.2.symm
theorem kind_bd {A : Arr} (h : rightE A = 0) : 1 ≤ A.kind ∧ A.kind ≤ 3 := by
  obtain ⟨k, sh, nu, it⟩ := A
  exact (val_of h).kind

set_option maxRecDepth 100000 in
set_option maxHeartbeats 600000 in
theorem applyNoR (p : Int) (v v2 : Value) (A B : Arr) (w : World) (h : ArrAt w v A) (g : ArrAt w v2 B) (hp : binB p = false) :
    Calls Try.prog 15 #[.int .i64 p, v, v2] w (GiveNewE zeroA 1 w) := by
  have hA := h
  have hB := g
  obtain ⟨k1, s1, ls1, sc1, n1, ln1, nc1, i1, li1, ic1, rfl⟩ : ∃ k sa ls sc na ln nc ia li ic, v = .agg #[.int .i64 k, .slice sa ls sc, .slice na ln nc, .slice ia li ic] := by
    obtain ⟨k, sh, nu, it⟩ := A
    rw [ArrAt] at h
    obtain ⟨sa, sc, na, nc, ia, ic, rfl, -⟩ := h
    exact ⟨_, _, _, _, _, _, _, _, _, _, rfl⟩
  obtain ⟨k2, s2, ls2, sc2, n2, ln2, nc2, i2, li2, ic2, rfl⟩ : ∃ k sa ls sc na ln nc ia li ic, v2 = .agg #[.int .i64 k, .slice sa ls sc, .slice na ln nc, .slice ia li ic] := by
    obtain ⟨k, sh, nu, it⟩ := B
    rw [ArrAt] at g
    obtain ⟨sa, sc, na, nc, ia, ic, rfl, -⟩ := g
    exact ⟨_, _, _, _, _, _, _, _, _, _, rfl⟩
  clear h g
  have b3 := below_three w (.cells #[.int .i64 k1, .slice s1 ls1 sc1, .slice n1 ln1 nc1, .slice i1 li1 ic1] 33) (.cells #[.int .i64 k2, .slice s2 ls2 sc2, .slice n2 ln2 nc2, .slice i2 li2 ic2] 33) (.cells #[.int .i64 0, .slice none 0 0, .slice none 0 0, .slice none 0 0] 33)
  have hA3 := hA.below b3
  have hB3 := hB.below b3
  have qz : Quad (((w.alloc (.cells #[.int .i64 k1, .slice s1 ls1 sc1, .slice n1 ln1 nc1, .slice i1 li1 ic1] 33)).alloc (.cells #[.int .i64 k2, .slice s2 ls2 sc2, .slice n2 ln2 nc2, .slice i2 li2 ic2] 33)).alloc (.cells #[.int .i64 0, .slice none 0 0, .slice none 0 0, .slice none 0 0] 33)) (w.heap.size + 1 + 1) (.int .i64 0) (.slice none 0 0) (.slice none 0 0) (.slice none 0 0) := by
    have e : ((w.alloc (.cells #[.int .i64 k1, .slice s1 ls1 sc1, .slice n1 ln1 nc1, .slice i1 li1 ic1] 33)).alloc (.cells #[.int .i64 k2, .slice s2 ls2 sc2, .slice n2 ln2 nc2, .slice i2 li2 ic2] 33)).heap.size = w.heap.size + 1 + 1 := by simp
    rw [← e]
    exact Quad.new _ _ _ _ _
  have qx : Quad (((w.alloc (.cells #[.int .i64 k1, .slice s1 ls1 sc1, .slice n1 ln1 nc1, .slice i1 li1 ic1] 33)).alloc (.cells #[.int .i64 k2, .slice s2 ls2 sc2, .slice n2 ln2 nc2, .slice i2 li2 ic2] 33)).alloc (.cells #[.int .i64 0, .slice none 0 0, .slice none 0 0, .slice none 0 0] 33)) w.heap.size (.int .i64 k1) (.slice s1 ls1 sc1) (.slice n1 ln1 nc1) (.slice i1 li1 ic1) :=
    (Quad.new w _ _ _ _).below (Below.then (below_new _ _) (below_new _ _))
  have qy : Quad (((w.alloc (.cells #[.int .i64 k1, .slice s1 ls1 sc1, .slice n1 ln1 nc1, .slice i1 li1 ic1] 33)).alloc (.cells #[.int .i64 k2, .slice s2 ls2 sc2, .slice n2 ln2 nc2, .slice i2 li2 ic2] 33)).alloc (.cells #[.int .i64 0, .slice none 0 0, .slice none 0 0, .slice none 0 0] 33)) (w.heap.size + 1) (.int .i64 k2) (.slice s2 ls2 sc2) (.slice n2 ln2 nc2) (.slice i2 li2 ic2) := by
    have := (Quad.new (w.alloc (.cells #[.int .i64 k1, .slice s1 ls1 sc1, .slice n1 ln1 nc1, .slice i1 li1 ic1] 33)) (.int .i64 k2) (.slice s2 ls2 sc2) (.slice n2 ln2 nc2) (.slice i2 li2 ic2)).below (below_new _ (.cells #[.int .i64 0, .slice none 0 0, .slice none 0 0, .slice none 0 0] 33))
    simpa using this
  obtain ⟨x0, x1, x2, x3, -⟩ := qx.cells
  obtain ⟨y0, y1, y2, y3, -⟩ := qy.cells
  obtain ⟨z0, z1, z2, z3, z4, z5, z6, z7⟩ := qz.cells
  clear hA hB hA3 hB3
  go_enter Try.func15, Try.ntmps15
  go_wp2_with (go_at_call 11; with_reducible refine Calls.mono (is16R _ _) ?_; rintro e w0 ⟨rfl, rfl⟩)
  exact bodyPost_ret (v := .tuple #[.agg #[.int .i64 0, .slice none 0 0, .slice none 0 0, .slice none 0 0], .int .i64 1]) (by simp [results, Try.results15, go_sem, z0, z1, z2, z3]) rfl (GiveNewE.mk (GiveNew.mk (zero_on _ _) b3))

set_option maxRecDepth 100000 in
set_option maxHeartbeats 600000 in
theorem applyXR (p : Int) (v v2 : Value) (A B : Arr) (w : World) (h : ArrAt w v A) (g : ArrAt w v2 B) (hp : binB p = true) (hE : rightE A ≠ 0) :
    Calls Try.prog 15 #[.int .i64 p, v, v2] w (GiveNewE zeroA 1 w) := by
  have hA := h
  have hB := g
  obtain ⟨k1, s1, ls1, sc1, n1, ln1, nc1, i1, li1, ic1, rfl⟩ : ∃ k sa ls sc na ln nc ia li ic, v = .agg #[.int .i64 k, .slice sa ls sc, .slice na ln nc, .slice ia li ic] := by
    obtain ⟨k, sh, nu, it⟩ := A
    rw [ArrAt] at h
    obtain ⟨sa, sc, na, nc, ia, ic, rfl, -⟩ := h
    exact ⟨_, _, _, _, _, _, _, _, _, _, rfl⟩
  obtain ⟨k2, s2, ls2, sc2, n2, ln2, nc2, i2, li2, ic2, rfl⟩ : ∃ k sa ls sc na ln nc ia li ic, v2 = .agg #[.int .i64 k, .slice sa ls sc, .slice na ln nc, .slice ia li ic] := by
    obtain ⟨k, sh, nu, it⟩ := B
    rw [ArrAt] at g
    obtain ⟨sa, sc, na, nc, ia, ic, rfl, -⟩ := g
    exact ⟨_, _, _, _, _, _, _, _, _, _, rfl⟩
  clear h g
  have b3 := below_three w (.cells #[.int .i64 k1, .slice s1 ls1 sc1, .slice n1 ln1 nc1, .slice i1 li1 ic1] 33) (.cells #[.int .i64 k2, .slice s2 ls2 sc2, .slice n2 ln2 nc2, .slice i2 li2 ic2] 33) (.cells #[.int .i64 0, .slice none 0 0, .slice none 0 0, .slice none 0 0] 33)
  have hA3 := hA.below b3
  have hB3 := hB.below b3
  have qz : Quad (((w.alloc (.cells #[.int .i64 k1, .slice s1 ls1 sc1, .slice n1 ln1 nc1, .slice i1 li1 ic1] 33)).alloc (.cells #[.int .i64 k2, .slice s2 ls2 sc2, .slice n2 ln2 nc2, .slice i2 li2 ic2] 33)).alloc (.cells #[.int .i64 0, .slice none 0 0, .slice none 0 0, .slice none 0 0] 33)) (w.heap.size + 1 + 1) (.int .i64 0) (.slice none 0 0) (.slice none 0 0) (.slice none 0 0) := by
    have e : ((w.alloc (.cells #[.int .i64 k1, .slice s1 ls1 sc1, .slice n1 ln1 nc1, .slice i1 li1 ic1] 33)).alloc (.cells #[.int .i64 k2, .slice s2 ls2 sc2, .slice n2 ln2 nc2, .slice i2 li2 ic2] 33)).heap.size = w.heap.size + 1 + 1 := by simp
    rw [← e]
    exact Quad.new _ _ _ _ _
  have qx : Quad (((w.alloc (.cells #[.int .i64 k1, .slice s1 ls1 sc1, .slice n1 ln1 nc1, .slice i1 li1 ic1] 33)).alloc (.cells #[.int .i64 k2, .slice s2 ls2 sc2, .slice n2 ln2 nc2, .slice i2 li2 ic2] 33)).alloc (.cells #[.int .i64 0, .slice none 0 0, .slice none 0 0, .slice none 0 0] 33)) w.heap.size (.int .i64 k1) (.slice s1 ls1 sc1) (.slice n1 ln1 nc1) (.slice i1 li1 ic1) :=
    (Quad.new w _ _ _ _).below (Below.then (below_new _ _) (below_new _ _))
  have qy : Quad (((w.alloc (.cells #[.int .i64 k1, .slice s1 ls1 sc1, .slice n1 ln1 nc1, .slice i1 li1 ic1] 33)).alloc (.cells #[.int .i64 k2, .slice s2 ls2 sc2, .slice n2 ln2 nc2, .slice i2 li2 ic2] 33)).alloc (.cells #[.int .i64 0, .slice none 0 0, .slice none 0 0, .slice none 0 0] 33)) (w.heap.size + 1) (.int .i64 k2) (.slice s2 ls2 sc2) (.slice n2 ln2 nc2) (.slice i2 li2 ic2) := by
    have := (Quad.new (w.alloc (.cells #[.int .i64 k1, .slice s1 ls1 sc1, .slice n1 ln1 nc1, .slice i1 li1 ic1] 33)) (.int .i64 k2) (.slice s2 ls2 sc2) (.slice n2 ln2 nc2) (.slice i2 li2 ic2)).below (below_new _ (.cells #[.int .i64 0, .slice none 0 0, .slice none 0 0, .slice none 0 0] 33))
    simpa using this
  obtain ⟨x0, x1, x2, x3, -⟩ := qx.cells
  obtain ⟨y0, y1, y2, y3, -⟩ := qy.cells
  obtain ⟨z0, z1, z2, z3, z4, z5, z6, z7⟩ := qz.cells
  obtain ⟨x, hx⟩ : ∃ x, rightE A = x := ⟨_, rfl⟩
  have R1 := fun w' (g : ArrAt w' _ A) => rightR3 (.agg #[.int .i64 k1, .slice s1 ls1 sc1, .slice n1 ln1 nc1, .slice i1 li1 ic1]) A w' g
  rw [hx] at R1 hE
  have e2 : (x != 0) = true := by simpa using hE
  clear hx hE hA hB hB3
  go_enter Try.func15, Try.ntmps15
  go_wp2_with (first | (go_at_call 11; with_reducible refine Calls.mono (is16R _ _) ?_; rintro e w0 ⟨rfl, rfl⟩) | (go_at_call 17; with_reducible refine Calls.mono (R1 _ hA3) ?_; rintro e w1 ⟨rfl, hb1⟩; (have c0 := (qx.below hb1).cells); (have c1 := (qy.below hb1).cells); (have c2 := (qz.below hb1).cells); (obtain ⟨x10, x11, x12, x13, -⟩ := c0); (obtain ⟨y10, y11, y12, y13, -⟩ := c1); (obtain ⟨z10, z11, z12, z13, z14, z15, z16, z17⟩ := c2)))
  have hbb := Below.then b3 hb1
  have q3 := qz.below hb1
  have G := give_set4 (w := w) (R := w.heap.size + 1 + 1) (by omega) q3 (zero_on _ _) hbb
  obtain ⟨QW, -⟩ := set4 q3 (.int .i64 0) (.slice none 0 0) (.slice none 0 0) (.slice none 0 0)
  generalize ((((w1.setCell ⟨w.heap.size + 1 + 1, 0, none⟩ (.int .i64 0)).setCell ⟨w.heap.size + 1 + 1, 1, none⟩ (.slice none 0 0)).setCell ⟨w.heap.size + 1 + 1, 2, none⟩ (.slice none 0 0)).setCell ⟨w.heap.size + 1 + 1, 3, none⟩ (.slice none 0 0)) = WW at QW G ⊢
  obtain ⟨o0, o1, o2, o3, -⟩ := QW.cells
  exact bodyPost_ret (v := .tuple #[.agg #[.int .i64 0, .slice none 0 0, .slice none 0 0, .slice none 0 0], .int .i64 1]) (by simp [results, Try.results15, go_sem, o0, o1, o2, o3]) rfl (GiveNewE.mk G)

set_option maxRecDepth 100000 in
set_option maxHeartbeats 600000 in
theorem applyYR (p : Int) (v v2 : Value) (A B : Arr) (w : World) (h : ArrAt w v A) (g : ArrAt w v2 B) (hp : binB p = true) (hE1 : rightE A = 0) (hE : rightE B ≠ 0) :
    Calls Try.prog 15 #[.int .i64 p, v, v2] w (GiveNewE zeroA 1 w) := by
  have hA := h
  have hB := g
  obtain ⟨k1, s1, ls1, sc1, n1, ln1, nc1, i1, li1, ic1, rfl⟩ : ∃ k sa ls sc na ln nc ia li ic, v = .agg #[.int .i64 k, .slice sa ls sc, .slice na ln nc, .slice ia li ic] := by
    obtain ⟨k, sh, nu, it⟩ := A
    rw [ArrAt] at h
    obtain ⟨sa, sc, na, nc, ia, ic, rfl, -⟩ := h
    exact ⟨_, _, _, _, _, _, _, _, _, _, rfl⟩
  obtain ⟨k2, s2, ls2, sc2, n2, ln2, nc2, i2, li2, ic2, rfl⟩ : ∃ k sa ls sc na ln nc ia li ic, v2 = .agg #[.int .i64 k, .slice sa ls sc, .slice na ln nc, .slice ia li ic] := by
    obtain ⟨k, sh, nu, it⟩ := B
    rw [ArrAt] at g
    obtain ⟨sa, sc, na, nc, ia, ic, rfl, -⟩ := g
    exact ⟨_, _, _, _, _, _, _, _, _, _, rfl⟩
  clear h g
  have b3 := below_three w (.cells #[.int .i64 k1, .slice s1 ls1 sc1, .slice n1 ln1 nc1, .slice i1 li1 ic1] 33) (.cells #[.int .i64 k2, .slice s2 ls2 sc2, .slice n2 ln2 nc2, .slice i2 li2 ic2] 33) (.cells #[.int .i64 0, .slice none 0 0, .slice none 0 0, .slice none 0 0] 33)
  have hA3 := hA.below b3
  have hB3 := hB.below b3
  have qz : Quad (((w.alloc (.cells #[.int .i64 k1, .slice s1 ls1 sc1, .slice n1 ln1 nc1, .slice i1 li1 ic1] 33)).alloc (.cells #[.int .i64 k2, .slice s2 ls2 sc2, .slice n2 ln2 nc2, .slice i2 li2 ic2] 33)).alloc (.cells #[.int .i64 0, .slice none 0 0, .slice none 0 0, .slice none 0 0] 33)) (w.heap.size + 1 + 1) (.int .i64 0) (.slice none 0 0) (.slice none 0 0) (.slice none 0 0) := by
    have e : ((w.alloc (.cells #[.int .i64 k1, .slice s1 ls1 sc1, .slice n1 ln1 nc1, .slice i1 li1 ic1] 33)).alloc (.cells #[.int .i64 k2, .slice s2 ls2 sc2, .slice n2 ln2 nc2, .slice i2 li2 ic2] 33)).heap.size = w.heap.size + 1 + 1 := by simp
    rw [← e]
    exact Quad.new _ _ _ _ _
  have qx : Quad (((w.alloc (.cells #[.int .i64 k1, .slice s1 ls1 sc1, .slice n1 ln1 nc1, .slice i1 li1 ic1] 33)).alloc (.cells #[.int .i64 k2, .slice s2 ls2 sc2, .slice n2 ln2 nc2, .slice i2 li2 ic2] 33)).alloc (.cells #[.int .i64 0, .slice none 0 0, .slice none 0 0, .slice none 0 0] 33)) w.heap.size (.int .i64 k1) (.slice s1 ls1 sc1) (.slice n1 ln1 nc1) (.slice i1 li1 ic1) :=
    (Quad.new w _ _ _ _).below (Below.then (below_new _ _) (below_new _ _))
  have qy : Quad (((w.alloc (.cells #[.int .i64 k1, .slice s1 ls1 sc1, .slice n1 ln1 nc1, .slice i1 li1 ic1] 33)).alloc (.cells #[.int .i64 k2, .slice s2 ls2 sc2, .slice n2 ln2 nc2, .slice i2 li2 ic2] 33)).alloc (.cells #[.int .i64 0, .slice none 0 0, .slice none 0 0, .slice none 0 0] 33)) (w.heap.size + 1) (.int .i64 k2) (.slice s2 ls2 sc2) (.slice n2 ln2 nc2) (.slice i2 li2 ic2) := by
    have := (Quad.new (w.alloc (.cells #[.int .i64 k1, .slice s1 ls1 sc1, .slice n1 ln1 nc1, .slice i1 li1 ic1] 33)) (.int .i64 k2) (.slice s2 ls2 sc2) (.slice n2 ln2 nc2) (.slice i2 li2 ic2)).below (below_new _ (.cells #[.int .i64 0, .slice none 0 0, .slice none 0 0, .slice none 0 0] 33))
    simpa using this
  obtain ⟨x0, x1, x2, x3, -⟩ := qx.cells
  obtain ⟨y0, y1, y2, y3, -⟩ := qy.cells
  obtain ⟨z0, z1, z2, z3, z4, z5, z6, z7⟩ := qz.cells
  obtain ⟨x, hx⟩ : ∃ x, rightE B = x := ⟨_, rfl⟩
  have R1 := fun w' (g : ArrAt w' _ A) => rightR3 (.agg #[.int .i64 k1, .slice s1 ls1 sc1, .slice n1 ln1 nc1, .slice i1 li1 ic1]) A w' g
  have R2 := fun w' (g : ArrAt w' _ B) => rightR3 (.agg #[.int .i64 k2, .slice s2 ls2 sc2, .slice n2 ln2 nc2, .slice i2 li2 ic2]) B w' g
  rw [hx] at R2 hE
  rw [hE1] at R1
  have e2 : (x != 0) = true := by simpa using hE
  clear hx hE hE1 hA hB
  go_enter Try.func15, Try.ntmps15
  go_wp2_with (first | (go_at_call 11; with_reducible refine Calls.mono (is16R _ _) ?_; rintro e w0 ⟨rfl, rfl⟩) | (go_at_call 17; with_reducible refine Calls.mono (R1 _ hA3) ?_; rintro e w1 ⟨rfl, hb1⟩; (have c0 := (qx.below hb1).cells); (have c1 := (qy.below hb1).cells); (have c2 := (qz.below hb1).cells); (obtain ⟨x10, x11, x12, x13, -⟩ := c0); (obtain ⟨y10, y11, y12, y13, -⟩ := c1); (obtain ⟨z10, z11, z12, z13, z14, z15, z16, z17⟩ := c2)) | (go_at_call 17; with_reducible refine Calls.mono (R2 _ (hB3.below hb1)) ?_; rintro e w2 ⟨rfl, hb2⟩; (have hb12 := Below.then hb1 hb2); (have c0 := (qx.below hb12).cells); (have c1 := (qy.below hb12).cells); (have c2 := (qz.below hb12).cells); (obtain ⟨x20, x21, x22, x23, -⟩ := c0); (obtain ⟨y20, y21, y22, y23, -⟩ := c1); (obtain ⟨z20, z21, z22, z23, z24, z25, z26, z27⟩ := c2)))
  have hbb := Below.then (Below.then b3 hb1) hb2
  have q3 := (qz.below hb1).below hb2
  have G := give_set4 (w := w) (R := w.heap.size + 1 + 1) (by omega) q3 (zero_on _ _) hbb
  obtain ⟨QW, -⟩ := set4 q3 (.int .i64 0) (.slice none 0 0) (.slice none 0 0) (.slice none 0 0)
  generalize ((((w2.setCell ⟨w.heap.size + 1 + 1, 0, none⟩ (.int .i64 0)).setCell ⟨w.heap.size + 1 + 1, 1, none⟩ (.slice none 0 0)).setCell ⟨w.heap.size + 1 + 1, 2, none⟩ (.slice none 0 0)).setCell ⟨w.heap.size + 1 + 1, 3, none⟩ (.slice none 0 0)) = WW at QW G ⊢
  obtain ⟨o0, o1, o2, o3, -⟩ := QW.cells
  exact bodyPost_ret (v := .tuple #[.agg #[.int .i64 0, .slice none 0 0, .slice none 0 0, .slice none 0 0], .int .i64 1]) (by simp [results, Try.results15, go_sem, o0, o1, o2, o3]) rfl (GiveNewE.mk G)

set_option maxRecDepth 100000 in
set_option maxHeartbeats 600000 in
theorem applyKR (p : Int) (v v2 : Value) (A B : Arr) (w : World) (h : ArrAt w v A) (g : ArrAt w v2 B) (hp : binB p = true) (hE1 : rightE A = 0) (hE2 : rightE B = 0) (hAc : accB p A.kind B.kind = false) :
    Calls Try.prog 15 #[.int .i64 p, v, v2] w (GiveNewE zeroA 14 w) := by
  have hA := h
  have hB := g
  obtain ⟨k1, s1, ls1, sc1, n1, ln1, nc1, i1, li1, ic1, rfl⟩ : ∃ k sa ls sc na ln nc ia li ic, v = .agg #[.int .i64 k, .slice sa ls sc, .slice na ln nc, .slice ia li ic] := by
    obtain ⟨k, sh, nu, it⟩ := A
    rw [ArrAt] at h
    obtain ⟨sa, sc, na, nc, ia, ic, rfl, -⟩ := h
    exact ⟨_, _, _, _, _, _, _, _, _, _, rfl⟩
  obtain ⟨k2, s2, ls2, sc2, n2, ln2, nc2, i2, li2, ic2, rfl⟩ : ∃ k sa ls sc na ln nc ia li ic, v2 = .agg #[.int .i64 k, .slice sa ls sc, .slice na ln nc, .slice ia li ic] := by
    obtain ⟨k, sh, nu, it⟩ := B
    rw [ArrAt] at g
    obtain ⟨sa, sc, na, nc, ia, ic, rfl, -⟩ := g
    exact ⟨_, _, _, _, _, _, _, _, _, _, rfl⟩
  clear h g
  have b3 := below_three w (.cells #[.int .i64 k1, .slice s1 ls1 sc1, .slice n1 ln1 nc1, .slice i1 li1 ic1] 33) (.cells #[.int .i64 k2, .slice s2 ls2 sc2, .slice n2 ln2 nc2, .slice i2 li2 ic2] 33) (.cells #[.int .i64 0, .slice none 0 0, .slice none 0 0, .slice none 0 0] 33)
  have hA3 := hA.below b3
  have hB3 := hB.below b3
  have qz : Quad (((w.alloc (.cells #[.int .i64 k1, .slice s1 ls1 sc1, .slice n1 ln1 nc1, .slice i1 li1 ic1] 33)).alloc (.cells #[.int .i64 k2, .slice s2 ls2 sc2, .slice n2 ln2 nc2, .slice i2 li2 ic2] 33)).alloc (.cells #[.int .i64 0, .slice none 0 0, .slice none 0 0, .slice none 0 0] 33)) (w.heap.size + 1 + 1) (.int .i64 0) (.slice none 0 0) (.slice none 0 0) (.slice none 0 0) := by
    have e : ((w.alloc (.cells #[.int .i64 k1, .slice s1 ls1 sc1, .slice n1 ln1 nc1, .slice i1 li1 ic1] 33)).alloc (.cells #[.int .i64 k2, .slice s2 ls2 sc2, .slice n2 ln2 nc2, .slice i2 li2 ic2] 33)).heap.size = w.heap.size + 1 + 1 := by simp
    rw [← e]
    exact Quad.new _ _ _ _ _
  have qx : Quad (((w.alloc (.cells #[.int .i64 k1, .slice s1 ls1 sc1, .slice n1 ln1 nc1, .slice i1 li1 ic1] 33)).alloc (.cells #[.int .i64 k2, .slice s2 ls2 sc2, .slice n2 ln2 nc2, .slice i2 li2 ic2] 33)).alloc (.cells #[.int .i64 0, .slice none 0 0, .slice none 0 0, .slice none 0 0] 33)) w.heap.size (.int .i64 k1) (.slice s1 ls1 sc1) (.slice n1 ln1 nc1) (.slice i1 li1 ic1) :=
    (Quad.new w _ _ _ _).below (Below.then (below_new _ _) (below_new _ _))
  have qy : Quad (((w.alloc (.cells #[.int .i64 k1, .slice s1 ls1 sc1, .slice n1 ln1 nc1, .slice i1 li1 ic1] 33)).alloc (.cells #[.int .i64 k2, .slice s2 ls2 sc2, .slice n2 ln2 nc2, .slice i2 li2 ic2] 33)).alloc (.cells #[.int .i64 0, .slice none 0 0, .slice none 0 0, .slice none 0 0] 33)) (w.heap.size + 1) (.int .i64 k2) (.slice s2 ls2 sc2) (.slice n2 ln2 nc2) (.slice i2 li2 ic2) := by
    have := (Quad.new (w.alloc (.cells #[.int .i64 k1, .slice s1 ls1 sc1, .slice n1 ln1 nc1, .slice i1 li1 ic1] 33)) (.int .i64 k2) (.slice s2 ls2 sc2) (.slice n2 ln2 nc2) (.slice i2 li2 ic2)).below (below_new _ (.cells #[.int .i64 0, .slice none 0 0, .slice none 0 0, .slice none 0 0] 33))
    simpa using this
  obtain ⟨x0, x1, x2, x3, -⟩ := qx.cells
  obtain ⟨y0, y1, y2, y3, -⟩ := qy.cells
  obtain ⟨z0, z1, z2, z3, z4, z5, z6, z7⟩ := qz.cells
  have R1 := fun w' (g : ArrAt w' _ A) => rightR3 (.agg #[.int .i64 k1, .slice s1 ls1 sc1, .slice n1 ln1 nc1, .slice i1 li1 ic1]) A w' g
  have R2 := fun w' (g : ArrAt w' _ B) => rightR3 (.agg #[.int .i64 k2, .slice s2 ls2 sc2, .slice n2 ln2 nc2, .slice i2 li2 ic2]) B w' g
  rw [hE1] at R1
  rw [hE2] at R2
  have ek1 : A.kind = k1 := kind_form hA
  have ek2 : B.kind = k2 := kind_form hB
  have AC := fun w => acceptsR p A.kind B.kind w (kind_bd hE1) (kind_bd hE2)
  rw [hAc, ek1, ek2] at AC
  clear hE1 hE2 hA hB hAc ek1 ek2
  go_enter Try.func15, Try.ntmps15
  go_wp2_with (first | (go_at_call 11; with_reducible refine Calls.mono (is16R _ _) ?_; rintro e w0 ⟨rfl, rfl⟩) | (go_at_call 17; with_reducible refine Calls.mono (R1 _ hA3) ?_; rintro e w1 ⟨rfl, hb1⟩; (have c0 := (qx.below hb1).cells); (have c1 := (qy.below hb1).cells); (have c2 := (qz.below hb1).cells); (obtain ⟨x10, x11, x12, x13, -⟩ := c0); (obtain ⟨y10, y11, y12, y13, -⟩ := c1); (obtain ⟨z10, z11, z12, z13, z14, z15, z16, z17⟩ := c2)) | (go_at_call 17; with_reducible refine Calls.mono (R2 _ (hB3.below hb1)) ?_; rintro e w2 ⟨rfl, hb2⟩; (have hb12 := Below.then hb1 hb2); (have c0 := (qx.below hb12).cells); (have c1 := (qy.below hb12).cells); (have c2 := (qz.below hb12).cells); (obtain ⟨x20, x21, x22, x23, -⟩ := c0); (obtain ⟨y20, y21, y22, y23, -⟩ := c1); (obtain ⟨z20, z21, z22, z23, z24, z25, z26, z27⟩ := c2)) | (go_at_call 35; with_reducible refine Calls.mono (AC _) ?_; rintro e w4 ⟨rfl, rfl⟩))
  have hbb := Below.then (Below.then b3 hb1) hb2
  have q3 := (qz.below hb1).below hb2
  have G := give_set4 (w := w) (R := w.heap.size + 1 + 1) (by omega) q3 (zero_on _ _) hbb
  obtain ⟨QW, -⟩ := set4 q3 (.int .i64 0) (.slice none 0 0) (.slice none 0 0) (.slice none 0 0)
  generalize ((((w2.setCell ⟨w.heap.size + 1 + 1, 0, none⟩ (.int .i64 0)).setCell ⟨w.heap.size + 1 + 1, 1, none⟩ (.slice none 0 0)).setCell ⟨w.heap.size + 1 + 1, 2, none⟩ (.slice none 0 0)).setCell ⟨w.heap.size + 1 + 1, 3, none⟩ (.slice none 0 0)) = WW at QW G ⊢
  obtain ⟨o0, o1, o2, o3, -⟩ := QW.cells
  exact bodyPost_ret (v := .tuple #[.agg #[.int .i64 0, .slice none 0 0, .slice none 0 0, .slice none 0 0], .int .i64 14]) (by simp [results, Try.results15, go_sem, o0, o1, o2, o3]) rfl (GiveNewE.mk G)

end Go.Proofs.Ytekbdiniibmhgaa.Shape
