/-
  Layer 16: Apply of the reference: its main way. (Written by wip/gen/binary-r4.py.)
-/
import Derived.Test.YtekbdiniibmhgaaBinR3g
import Derived.Test.YtekbdiniibmhgaaBinOwng
import Derived.Test.YtekbdiniibmhgaaBinBdg
namespace Go.Proofs.Ytekbdiniibmhgaa.Shape
open Go.RowKit
open Go.Proofs.Ytekbdiniibmhgaa.Shp (agB agL)
set_option linter.unusedVariables false
set_option linter.unusedSimpArgs false

set_option maxRecDepth 100000 in
set_option maxHeartbeats 800000 in
theorem applyLR (p : Int) (v v2 : Value) (A B : Arr) (w : World) (h : ArrAt w v A) (g : ArrAt w v2 B) (hp : binB p = true) (hE1 : rightE A = 0) (hE2 : rightE B = 0) (hAc : accB p A.kind B.kind = true) (hAg : agB A.shape B.shape = false) : Calls Try.prog 15 #[.int .i64 p, v, v2] w (GiveNewE zeroA 16 w) := by
  have hA := h
  have hB := g
  obtain ⟨k1, sh1, nu1, it1⟩ := A
  obtain ⟨k2, sh2, nu2, it2⟩ := B
  rw [ArrAt] at h g
  obtain ⟨s1, sc1, n1, nc1, i1, ic1, rfl, hkb1, hs1, hn1, -⟩ := h
  obtain ⟨s2, sc2, n2, nc2, i2, ic2, rfl, hkb2, hs2, hn2, -⟩ := g
  have b3 := below_three w (.cells #[.int .i64 k1, .slice s1 sh1.length sc1, .slice n1 nu1.length nc1, .slice i1 it1.length ic1] 33) (.cells #[.int .i64 k2, .slice s2 sh2.length sc2, .slice n2 nu2.length nc2, .slice i2 it2.length ic2] 33) (.cells #[.int .i64 0, .slice none 0 0, .slice none 0 0, .slice none 0 0] 33)
  have hA3 := hA.below b3
  have hB3 := hB.below b3
  have qz : Quad (((w.alloc (.cells #[.int .i64 k1, .slice s1 sh1.length sc1, .slice n1 nu1.length nc1, .slice i1 it1.length ic1] 33)).alloc (.cells #[.int .i64 k2, .slice s2 sh2.length sc2, .slice n2 nu2.length nc2, .slice i2 it2.length ic2] 33)).alloc (.cells #[.int .i64 0, .slice none 0 0, .slice none 0 0, .slice none 0 0] 33)) (w.heap.size + 1 + 1) (.int .i64 0) (.slice none 0 0) (.slice none 0 0) (.slice none 0 0) := by
    have e : ((w.alloc (.cells #[.int .i64 k1, .slice s1 sh1.length sc1, .slice n1 nu1.length nc1, .slice i1 it1.length ic1] 33)).alloc (.cells #[.int .i64 k2, .slice s2 sh2.length sc2, .slice n2 nu2.length nc2, .slice i2 it2.length ic2] 33)).heap.size = w.heap.size + 1 + 1 := by simp
    rw [← e]
    exact Quad.new _ _ _ _ _
  have qx : Quad (((w.alloc (.cells #[.int .i64 k1, .slice s1 sh1.length sc1, .slice n1 nu1.length nc1, .slice i1 it1.length ic1] 33)).alloc (.cells #[.int .i64 k2, .slice s2 sh2.length sc2, .slice n2 nu2.length nc2, .slice i2 it2.length ic2] 33)).alloc (.cells #[.int .i64 0, .slice none 0 0, .slice none 0 0, .slice none 0 0] 33)) (w.heap.size) (.int .i64 k1) (.slice s1 sh1.length sc1) (.slice n1 nu1.length nc1) (.slice i1 it1.length ic1) :=
    (Quad.new w _ _ _ _).below (Below.then (below_new _ _) (below_new _ _))
  have qy : Quad (((w.alloc (.cells #[.int .i64 k1, .slice s1 sh1.length sc1, .slice n1 nu1.length nc1, .slice i1 it1.length ic1] 33)).alloc (.cells #[.int .i64 k2, .slice s2 sh2.length sc2, .slice n2 nu2.length nc2, .slice i2 it2.length ic2] 33)).alloc (.cells #[.int .i64 0, .slice none 0 0, .slice none 0 0, .slice none 0 0] 33)) (w.heap.size + 1) (.int .i64 k2) (.slice s2 sh2.length sc2) (.slice n2 nu2.length nc2) (.slice i2 it2.length ic2) := by
    have := (Quad.new (w.alloc (.cells #[.int .i64 k1, .slice s1 sh1.length sc1, .slice n1 nu1.length nc1, .slice i1 it1.length ic1] 33)) (.int .i64 k2) (.slice s2 sh2.length sc2) (.slice n2 nu2.length nc2) (.slice i2 it2.length ic2)).below (below_new _ (.cells #[.int .i64 0, .slice none 0 0, .slice none 0 0, .slice none 0 0] 33))
    simpa using this
  obtain ⟨x0, x1, x2, x3, -⟩ := qx.cells
  obtain ⟨y0, y1, y2, y3, -⟩ := qy.cells
  obtain ⟨z0, z1, z2, z3, z4, z5, z6, z7⟩ := qz.cells
  have R1 := fun w' (g : ArrAt w' _ (.mk k1 sh1 nu1 it1)) => rightR3 (.agg #[.int .i64 k1, .slice s1 sh1.length sc1, .slice n1 nu1.length nc1, .slice i1 it1.length ic1]) _ w' g
  have R2 := fun w' (g : ArrAt w' _ (.mk k2 sh2 nu2 it2)) => rightR3 (.agg #[.int .i64 k2, .slice s2 sh2.length sc2, .slice n2 nu2.length nc2, .slice i2 it2.length ic2]) _ w' g
  rw [hE1] at R1
  rw [hE2] at R2
  have AC := fun w => acceptsR p k1 k2 w (kind_bd hE1) (kind_bd hE2)
  rw [show accB p k1 k2 = true from hAc] at AC
  replace hAg : agB sh1 sh2 = false := hAg
  obtain ⟨SL, hSL⟩ : ∃ S, agL sh1 sh2 = S := ⟨_, rfl⟩
  have AG := fun w1 h1 h2 => Shp.agreeR s1 sc1 sh1 s2 sc2 sh2 w1 h1 h2
  rw [hAg, hSL] at AG
  have hs5 := fun w' (hb : Below _ _ w') => (hs1.below b3).below (w' := w') hb
  have hs6 := fun w' (hb : Below _ _ w') => (hs2.below b3).below (w' := w') hb
  clear hE1 hE2 hA hB hAc hAg hSL hn1 hn2
  go_enter Try.func15, Try.ntmps15
  go_wp2_with (first | (go_at_call 11; with_reducible refine Calls.mono (is16R _ _) ?_; rintro e w0 ⟨rfl, rfl⟩) | (go_at_call 17; with_reducible refine Calls.mono (R1 _ hA3) ?_; rintro e w1 ⟨rfl, hb1⟩; (have c0 := (qx.below hb1).cells); (have c1 := (qy.below hb1).cells); (have c2 := (qz.below hb1).cells); (obtain ⟨x10, x11, x12, x13, -⟩ := c0); (obtain ⟨y10, y11, y12, y13, -⟩ := c1); (obtain ⟨z10, z11, z12, z13, z14, z15, z16, z17⟩ := c2)) | (go_at_call 17; with_reducible refine Calls.mono (R2 _ (hB3.below hb1)) ?_; rintro e w2 ⟨rfl, hb2⟩; (have hb12 := Below.then hb1 hb2); (have c0 := (qx.below hb12).cells); (have c1 := (qy.below hb12).cells); (have c2 := (qz.below hb12).cells); (obtain ⟨x20, x21, x22, x23, -⟩ := c0); (obtain ⟨y20, y21, y22, y23, -⟩ := c1); (obtain ⟨z20, z21, z22, z23, z24, z25, z26, z27⟩ := c2)) | (go_at_call 35; with_reducible refine Calls.mono (AC _) ?_; rintro e w4 ⟨rfl, rfl⟩) | (go_at_call 36; with_reducible refine Calls.mono (AG _ (hs5 _ hb12) (hs6 _ hb12)) ?_; intro e w5 hh5; unfold Shp.SliceBool at hh5; (obtain ⟨sg, cg, rfl, hsg, hb5⟩ := hh5); (have hb15 := Below.then hb12 hb5); (have c0 := (qx.below hb15).cells); (have c1 := (qy.below hb15).cells); (have c2 := (qz.below hb15).cells); (obtain ⟨x50, x51, x52, x53, -⟩ := c0); (obtain ⟨y50, y51, y52, y53, -⟩ := c1); (obtain ⟨z50, z51, z52, z53, z54, z55, z56, z57⟩ := c2)))
  have hbb := Below.then b3 hb15
  have q3 := qz.below hb15
  have G := give_set4 (w := w) (R := w.heap.size + 1 + 1) (by omega) q3 (zero_on _ _) hbb
  obtain ⟨QW, -⟩ := set4 q3 (.int .i64 0) (.slice none 0 0) (.slice none 0 0) (.slice none 0 0)
  generalize ((((w5.setCell ⟨w.heap.size + 1 + 1, 0, none⟩ (.int .i64 0)).setCell ⟨w.heap.size + 1 + 1, 1, none⟩ (.slice none 0 0)).setCell ⟨w.heap.size + 1 + 1, 2, none⟩ (.slice none 0 0)).setCell ⟨w.heap.size + 1 + 1, 3, none⟩ (.slice none 0 0)) = WW at QW G ⊢
  obtain ⟨o0, o1, o2, o3, -⟩ := QW.cells
  exact bodyPost_ret (v := .tuple #[.agg #[.int .i64 0, .slice none 0 0, .slice none 0 0, .slice none 0 0], .int .i64 16]) (by simp [results, Try.results15, go_sem, o0, o1, o2, o3]) rfl (GiveNewE.mk G)

theorem tdiv_nat {j : Nat} {D : Int} (h : 0 < D) : Int.tdiv (j : Int) D = ((j / D.toNat : Nat) : Int) := by
  obtain ⟨d, rfl⟩ : ∃ d : Nat, D = d := ⟨D.toNat, by omega⟩
  rw [Int.toNat_natCast, Int.tdiv_eq_ediv_of_nonneg (by omega)]
  rfl
theorem one_news (w : World) (V : Int) : ∀ j u, [Value.int .i64 V][j]? = some u → (w.alloc (.cells #[.int .i64 V] 3)).cell? ((⟨w.heap.size, 0, none⟩ : Addr).add j) = some u := by
  intro j u hj
  match j, hj with
  | 0, hj =>
    simp at hj
    subst hj
    rw [add_plain]
    unfold World.cell?
    rw [heap_alloc_new]
    rfl
theorem one_cell (V : Int) : ∀ u ∈ [Value.int .i64 V], u.oneCell' = true := by intro u hu; simp at hu; subst hu; rfl

set_option maxRecDepth 100000 in
set_option maxHeartbeats 3000000 in
theorem applyMR (p : Int) (v v2 : Value) (A B : Arr) (w : World) (h : ArrAt w v A) (g : ArrAt w v2 B) (hp : binB p = true) (hE1 : rightE A = 0) (hE2 : rightE B = 0) (hAc : accB p A.kind B.kind = true) (hAg : agB A.shape B.shape = true) (hk1 : A.kind ≠ 3) (hk2 : B.kind ≠ 3) : Calls Try.prog 15 #[.int .i64 p, v, v2] w (GiveNewE (applyA p A B).1 (applyA p A B).2 w) := by
  have hA := h
  have hB := g
  obtain ⟨k1, sh1, nu1, it1⟩ := A
  obtain ⟨k2, sh2, nu2, it2⟩ := B
  rw [ArrAt] at h g
  obtain ⟨s1, sc1, n1, nc1, i1, ic1, rfl, hkb1, hs1, hn1, -⟩ := h
  obtain ⟨s2, sc2, n2, nc2, i2, ic2, rfl, hkb2, hs2, hn2, -⟩ := g
  have b3 := below_three w (.cells #[.int .i64 k1, .slice s1 sh1.length sc1, .slice n1 nu1.length nc1, .slice i1 it1.length ic1] 33) (.cells #[.int .i64 k2, .slice s2 sh2.length sc2, .slice n2 nu2.length nc2, .slice i2 it2.length ic2] 33) (.cells #[.int .i64 0, .slice none 0 0, .slice none 0 0, .slice none 0 0] 33)
  have hA3 := hA.below b3
  have hB3 := hB.below b3
  have qz : Quad (((w.alloc (.cells #[.int .i64 k1, .slice s1 sh1.length sc1, .slice n1 nu1.length nc1, .slice i1 it1.length ic1] 33)).alloc (.cells #[.int .i64 k2, .slice s2 sh2.length sc2, .slice n2 nu2.length nc2, .slice i2 it2.length ic2] 33)).alloc (.cells #[.int .i64 0, .slice none 0 0, .slice none 0 0, .slice none 0 0] 33)) (w.heap.size + 1 + 1) (.int .i64 0) (.slice none 0 0) (.slice none 0 0) (.slice none 0 0) := by
    have e : ((w.alloc (.cells #[.int .i64 k1, .slice s1 sh1.length sc1, .slice n1 nu1.length nc1, .slice i1 it1.length ic1] 33)).alloc (.cells #[.int .i64 k2, .slice s2 sh2.length sc2, .slice n2 nu2.length nc2, .slice i2 it2.length ic2] 33)).heap.size = w.heap.size + 1 + 1 := by simp
    rw [← e]
    exact Quad.new _ _ _ _ _
  have qx : Quad (((w.alloc (.cells #[.int .i64 k1, .slice s1 sh1.length sc1, .slice n1 nu1.length nc1, .slice i1 it1.length ic1] 33)).alloc (.cells #[.int .i64 k2, .slice s2 sh2.length sc2, .slice n2 nu2.length nc2, .slice i2 it2.length ic2] 33)).alloc (.cells #[.int .i64 0, .slice none 0 0, .slice none 0 0, .slice none 0 0] 33)) (w.heap.size) (.int .i64 k1) (.slice s1 sh1.length sc1) (.slice n1 nu1.length nc1) (.slice i1 it1.length ic1) :=
    (Quad.new w _ _ _ _).below (Below.then (below_new _ _) (below_new _ _))
  have qy : Quad (((w.alloc (.cells #[.int .i64 k1, .slice s1 sh1.length sc1, .slice n1 nu1.length nc1, .slice i1 it1.length ic1] 33)).alloc (.cells #[.int .i64 k2, .slice s2 sh2.length sc2, .slice n2 nu2.length nc2, .slice i2 it2.length ic2] 33)).alloc (.cells #[.int .i64 0, .slice none 0 0, .slice none 0 0, .slice none 0 0] 33)) (w.heap.size + 1) (.int .i64 k2) (.slice s2 sh2.length sc2) (.slice n2 nu2.length nc2) (.slice i2 it2.length ic2) := by
    have := (Quad.new (w.alloc (.cells #[.int .i64 k1, .slice s1 sh1.length sc1, .slice n1 nu1.length nc1, .slice i1 it1.length ic1] 33)) (.int .i64 k2) (.slice s2 sh2.length sc2) (.slice n2 nu2.length nc2) (.slice i2 it2.length ic2)).below (below_new _ (.cells #[.int .i64 0, .slice none 0 0, .slice none 0 0, .slice none 0 0] 33))
    simpa using this
  obtain ⟨x0, x1, x2, x3, -⟩ := qx.cells
  obtain ⟨y0, y1, y2, y3, -⟩ := qy.cells
  obtain ⟨z0, z1, z2, z3, z4, z5, z6, z7⟩ := qz.cells
  have R1 := fun w' (g : ArrAt w' _ (.mk k1 sh1 nu1 it1)) => rightR3 (.agg #[.int .i64 k1, .slice s1 sh1.length sc1, .slice n1 nu1.length nc1, .slice i1 it1.length ic1]) _ w' g
  have R2 := fun w' (g : ArrAt w' _ (.mk k2 sh2 nu2 it2)) => rightR3 (.agg #[.int .i64 k2, .slice s2 sh2.length sc2, .slice n2 nu2.length nc2, .slice i2 it2.length ic2]) _ w' g
  rw [hE1] at R1
  rw [hE2] at R2
  have AC := fun w => acceptsR p k1 k2 w (kind_bd hE1) (kind_bd hE2)
  rw [show accB p k1 k2 = true from hAc] at AC
  replace hAg : agB sh1 sh2 = true := hAg
  have Vx := val_of hE1
  have Vy := val_of hE2
  have sz1 : (nu1.length : Int) = pr sh1 := by
    have hk' : ¬ k1 = 3 := hk1
    have ka := Vx.kind
    have := Vx.size
    have kb : k1 = 1 ∨ k1 = 2 := by omega
    simpa [aSize, Arr.kind, Arr.nums, kb] using this
  have sz2 : (nu2.length : Int) = pr sh2 := by
    have hk' : ¬ k2 = 3 := hk2
    have ka := Vy.kind
    have := Vy.size
    have kb : k2 = 1 ∨ k2 = 2 := by omega
    simpa [aSize, Arr.kind, Arr.nums, kb] using this
  obtain ⟨pr1, pr2, le1, le2, hr⟩ := ag_pre hAg
  have AG := fun w1 h1 h2 => Shp.agreeR s1 sc1 sh1 s2 sc2 sh2 w1 h1 h2
  obtain ⟨RA, RE, hR⟩ : ∃ a b, applyA p (.mk k1 sh1 nu1 it1) (.mk k2 sh2 nu2 it2) = (a, b) := ⟨_, _, rfl⟩
  have HOk : Hid ((resF p (.mk k1 sh1 nu1 it1) (.mk k2 sh2 nu2 it2)).2 = 0 → (RA, RE) = (Arr.mk 1 (agL sh1 sh2) (resF p (.mk k1 sh1 nu1 it1) (.mk k2 sh2 nu2 it2)).1 [], (0 : Int))) := fun e => hR.symm.trans (applyA_ok hp hE1 hE2 hAc hAg e)
  have HErr : Hid (¬ (resF p (.mk k1 sh1 nu1 it1) (.mk k2 sh2 nu2 it2)).2 = 0 → (RA, RE) = (Arr.mk 0 [] [] [], (resF p (.mk k1 sh1 nu1 it1) (.mk k2 sh2 nu2 it2)).2)) := fun e => hR.symm.trans (applyA_err hp hE1 hE2 hAc hAg e)
  rw [hR]
  show Calls Try.prog 15 #[.int .i64 p, .agg #[.int .i64 k1, .slice s1 sh1.length sc1, .slice n1 nu1.length nc1, .slice i1 it1.length ic1], .agg #[.int .i64 k2, .slice s2 sh2.length sc2, .slice n2 nu2.length nc2, .slice i2 it2.length ic2]] w (GiveNewE RA RE w)
  obtain ⟨F, hF⟩ : ∃ F : Nat → Int × Int, F = fun i => binE p k1 k2 (elF (.mk k1 sh1 nu1 it1) (agL sh1 sh2) i) (elF (.mk k2 sh2 nu2 it2) (agL sh1 sh2) i) := ⟨_, rfl⟩
  have hres : resF p (.mk k1 sh1 nu1 it1) (.mk k2 sh2 nu2 it2) = goF F (pr (agL sh1 sh2)).toNat 0 [] := by rw [hF]; rfl
  rw [hres] at HOk HErr
  have HF : Hid (∀ i, F i = binE p k1 k2 (nu1.getD (i / (pr ((agL sh1 sh2).drop sh1.length)).toNat) 0) (nu2.getD (i / (pr ((agL sh1 sh2).drop sh2.length)).toNat) 0)) := fun i => by rw [hF]; rfl
  clear hres hF hR
  rw [hAg] at AG
  have HS : Hid (∀ x ∈ agL sh1 sh2, -9223372036854775808 ≤ x ∧ x ≤ 9223372036854775807) := by
    by_cases hl : sh2.length ≤ sh1.length
    · rw [Shp.agL_left hAg hl]; exact hs1.2.2.1
    · rw [Shp.agL_right hAg hl]; exact hs2.2.2.1
  generalize agL sh1 sh2 = SL at AG HS HOk HErr HF pr1 pr2 le1 le2 hr
  have hs5 := fun w' (hb : Below _ _ w') => (hs1.below b3).below (w' := w') hb
  have hs6 := fun w' (hb : Below _ _ w') => (hs2.below b3).below (w' := w') hb
  have L1 := hs1.len
  have L2 := hs2.len
  have HN1 : Hid (∀ w', Below w.heap.size w w' → IntsAt w' n1 nc1 nu1) := fun w' hb => hn1.below hb
  have HN2 : Hid (∀ w', Below w.heap.size w w' → IntsAt w' n2 nc2 nu2) := fun w' hb => hn2.below hb
  have HP1 : Hid (∀ j : Nat, (j : Int) < pr SL → 0 < pr (SL.drop sh1.length) ∧ pr (SL.drop sh1.length) ≤ 65536 ∧ j / (pr (SL.drop sh1.length)).toNat < nu1.length) := fun j hj => by
    have := part_at hr pr1 hj; rw [← sz1] at this; exact ⟨this.1, this.2.1, by omega⟩
  have HP2 : Hid (∀ j : Nat, (j : Int) < pr SL → 0 < pr (SL.drop sh2.length) ∧ pr (SL.drop sh2.length) ≤ 65536 ∧ j / (pr (SL.drop sh2.length)).toNat < nu2.length) := fun j hj => by
    have := part_at hr pr2 hj; rw [← sz2] at this; exact ⟨this.1, this.2.1, by omega⟩
  have hpr := part_bd (a := SL) (b := []) (by rw [List.append_nil]; exact hr)
  have hp0 : 0 ≤ pr SL := hpr.1
  have hp1 : pr SL ≤ 65536 := hpr.2.1
  have r1 : (0 + SL.length) * 8 ≤ 140737488351232 := by have := (right_def.1 hr).1; omega
  have HE12 : Hid (rightB SL = true) := hr
  clear hE1 hE2 hA hB hAc hAg hn1 hn2 hs1 hs2 Vx Vy sz1 sz2 pr1 pr2 hk1 hk2 hkb1 hkb2 hpr hr
  go_enter Try.func15, Try.ntmps15
  go_wp2_with (first | (go_at_call 11; with_reducible refine Calls.mono (is16R _ _) ?_; rintro e w0 ⟨rfl, rfl⟩) | (go_at_call 17; with_reducible refine Calls.mono (R1 _ hA3) ?_; rintro e w1 ⟨rfl, hb1⟩; (have c0 := (qx.below hb1).cells); (have c1 := (qy.below hb1).cells); (have c2 := (qz.below hb1).cells); (obtain ⟨x10, x11, x12, x13, -⟩ := c0); (obtain ⟨y10, y11, y12, y13, -⟩ := c1); (obtain ⟨z10, z11, z12, z13, z14, z15, z16, z17⟩ := c2)) | (go_at_call 17; with_reducible refine Calls.mono (R2 _ (hB3.below hb1)) ?_; rintro e w2 ⟨rfl, hb2⟩; (have hb12 := Below.then hb1 hb2); (have c0 := (qx.below hb12).cells); (have c1 := (qy.below hb12).cells); (have c2 := (qz.below hb12).cells); (obtain ⟨x20, x21, x22, x23, -⟩ := c0); (obtain ⟨y20, y21, y22, y23, -⟩ := c1); (obtain ⟨z20, z21, z22, z23, z24, z25, z26, z27⟩ := c2)) | (go_at_call 35; with_reducible refine Calls.mono (AC _) ?_; rintro e w4 ⟨rfl, rfl⟩) | (go_at_call 36; with_reducible refine Calls.mono (AG _ (hs5 _ hb12) (hs6 _ hb12)) ?_; intro e w5 hh5; unfold Shp.SliceBool at hh5; (obtain ⟨sg, cg, rfl, hsg, hb5⟩ := hh5); (have hb15 := Below.then hb12 hb5); (have c0 := (qx.below hb15).cells); (have c1 := (qy.below hb15).cells); (have c2 := (qz.below hb15).cells); (obtain ⟨x50, x51, x52, x53, -⟩ := c0); (obtain ⟨y50, y51, y52, y53, -⟩ := c1); (obtain ⟨z50, z51, z52, z53, z54, z55, z56, z57⟩ := c2)) | (at_builtin; refine wpList_ints_own rfl _ _ rfl w5.heap.size 0 _ [] rfl (row_lit w5) (below_new _ _).size _ _ _ SL rfl rfl (hsg.below (below_new _ _)) r1 ?_; intro v6 w6 hown6 hg6; (rw [Nat.zero_add, List.nil_append] at hown6); (obtain ⟨a6, c6, rfl, on6⟩ := ints_of_own rfl hown6 HS.out)))
  have e6 : Below w5.heap.size w5 w6 := (below_new w5 _).grown hg6 (by simp) (fun k hk => Nat.le_of_eq (Option.some.inj hk))
  have I0 := of_start1 (W0 := w5) (k := 1) (sh := SL) (e := 3) (size := 1) on6 e6
  have qx5 := qx.below hb15
  have qy5 := qy.below hb15
  have qz5 := qz.below hb15
  have HB5 : Hid (Below w.heap.size w w5) := Below.then b3 hb15
  have hw5 : w.heap.size + 1 + 1 < w5.heap.size := qz5.lt
  clear x0 x1 x2 x3 y0 y1 y2 y3 z0 z1 z2 z3 z4 z5 z6 z7 hg6 hown6 on6 e6 hb15 hb12 hb1 hb2 hb5 qx qy qz R1 R2 AC AG hs5 hs6 hA3 hB3 b3 HS
  generalize (w6.alloc (.cells #[.int .i64 1, .slice a6 SL.length c6, .slice none 0 0, .slice none 0 0] 33)) = W at I0 ⊢
  generalize w6.heap.size = bx at I0 ⊢
  obtain ⟨N, hN⟩ : ∃ N : Nat, pr SL = N := ⟨(pr SL).toNat, by omega⟩
  rw [hN] at hp1
  have SZ := fun w' (hi : IntsAt w' sg cg SL) => Shp.sizeR sg cg SL w' hi
  rw [show Shp.sizeS SL = N by unfold Shp.sizeS; rw [if_pos HE12.out, hN]] at SZ
  rw [hN] at HP1 HP2 HOk HErr
  rw [Int.toNat_natCast] at HOk HErr
  clear hp0 r1
  go_loopw [11] (fun ix wr => ∃ (j : Nat) (va : Option Addr) (vl vc : Nat) (nu : List Int), j ≤ N ∧ ix = .int .i64 j ∧ (∀ x ∈ nu, -9223372036854775808 ≤ x ∧ x ≤ 9223372036854775807) ∧ OInv w5 wr bx 1 SL (.slice va vl vc) (.slice none 0 0) (.slice va vl vc) 3 1 j (nu.map (Value.int .i64)) ∧ Hid (goF F (N - j) j nu = goF F N 0 [])) (fun ix _ => ((N : Int) - intOf ix).toNat)
  case atStart => exact ⟨0, none, 0, 0, [], by omega, rfl, by intro x hx; exact absurd hx (by simp), I0, rfl⟩
  case round =>
    obtain ⟨j, va, vl, vc, nu, hj, rfl, hbd, hI, hG⟩ := hrel
    obtain ⟨bel, bxl, own, a1, c1, blk, i1⟩ := id hI
    obtain ⟨p0, p1, p2, p3, -⟩ := (qx5.below bel).cells
    obtain ⟨g0, g1, g2, g3, -⟩ := (qy5.below bel).cells
    obtain ⟨f0, f1, f2, f3, f4, f5, f6, f7⟩ := blk.cells
    have hsg5 := hsg.below bel
    by_cases hlt : j < N
    · have hFj := HF.out j
      obtain ⟨hd1, hdb1, hm1⟩ := HP1.out j (by omega)
      obtain ⟨eb1, eo1, ix1, ce1⟩ := (HN1.out wr (HB5.out.trans (bel.mono HB5.out.size))).at hm1
      have PA1 : ∀ n, _ := fun n => (partR s1 sc1 sh1 sg cg SL (wr.drewN n) L1 (hsg5.drewN n) HE12.out le1).mono (fun e w' ⟨h1, h2⟩ => (⟨h1, 0, h2.symm⟩ : e = _ ∧ ∃ m, w' = (wr.drewN n).drewN m))
      have tq1 := tdiv_nat (j := j) hd1
      have md1 := Nat.div_le_self j (pr (SL.drop sh1.length)).toNat
      rw [show nu1.getD (j / (pr (SL.drop sh1.length)).toNat) 0 = nu1[j / (pr (SL.drop sh1.length)).toNat]'hm1 by rw [List.getD_eq_getElem?_getD, List.getElem?_eq_getElem hm1]; rfl] at hFj
      generalize nu1[j / (pr (SL.drop sh1.length)).toNat]'hm1 = X1 at ce1 hFj
      generalize j / (pr (SL.drop sh1.length)).toNat = m1 at ce1 ix1 tq1 md1 hm1
      generalize pr (SL.drop sh1.length) = D1 at PA1 tq1 hd1 hdb1
      have hne1 : D1 ≠ 0 := by omega
      have hwm1 : IntKind.i64.wrap (m1 : Int) = (m1 : Int) := IntWalk.i64_in _ (by omega)
      obtain ⟨hd2, hdb2, hm2⟩ := HP2.out j (by omega)
      obtain ⟨eb2, eo2, ix2, ce2⟩ := (HN2.out wr (HB5.out.trans (bel.mono HB5.out.size))).at hm2
      have PA2 : ∀ n, _ := fun n => (partR s2 sc2 sh2 sg cg SL (wr.drewN n) L2 (hsg5.drewN n) HE12.out le2).mono (fun e w' ⟨h1, h2⟩ => (⟨h1, 0, h2.symm⟩ : e = _ ∧ ∃ m, w' = (wr.drewN n).drewN m))
      have tq2 := tdiv_nat (j := j) hd2
      have md2 := Nat.div_le_self j (pr (SL.drop sh2.length)).toNat
      rw [show nu2.getD (j / (pr (SL.drop sh2.length)).toNat) 0 = nu2[j / (pr (SL.drop sh2.length)).toNat]'hm2 by rw [List.getD_eq_getElem?_getD, List.getElem?_eq_getElem hm2]; rfl] at hFj
      generalize nu2[j / (pr (SL.drop sh2.length)).toNat]'hm2 = X2 at ce2 hFj
      generalize j / (pr (SL.drop sh2.length)).toNat = m2 at ce2 ix2 tq2 md2 hm2
      generalize pr (SL.drop sh2.length) = D2 at PA2 tq2 hd2 hdb2
      have hne2 : D2 ≠ 0 := by omega
      have hwm2 : IntKind.i64.wrap (m2 : Int) = (m2 : Int) := IntWalk.i64_in _ (by omega)
      go_wp2_with (go_at_call 37; refine (SZ _ hsg5).mono ?_; rintro e w8 ⟨rfl, rfl⟩)
      go_quiet (first
        | (go_at_call 38; with_reducible exact Calls.quiet_of (PA1 _))
        | (go_at_call 38; with_reducible exact Calls.quiet_of (PA2 _)))
      have b7 := Shp.below_drewN (w := wr) nq
      generalize wr.drewN nq = w7 at b7 ⊢
      have hBd : Hid (-4611686018427387903 ≤ (F j).1 ∧ (F j).1 ≤ 4611686018427387903) := by unfold Hid; rw [hFj]; exact binE_bd _ _ _ _ _
      obtain ⟨r, er, hbs⟩ : ∃ r er, binS p X1 X2 = (r, er) := ⟨_, _, rfl⟩
      have SC := fun w => scalar16R p X1 X2 w
      simp only [hbs] at SC
      have TR := fun w => truthR (p == 12) w
      replace hFj : F j = ((if k1 = k2 then r else tru (p == 12)), er) := by rw [hFj]; unfold binE; rw [hbs]; rfl
      generalize tru (p == 12) = T at TR hFj
      obtain ⟨x70, x71, x72, x73, -⟩ := ((qx5.below bel).below b7).cells
      obtain ⟨y70, y71, y72, y73, -⟩ := ((qy5.below bel).below b7).cells
      clear hbs PA1 PA2 tq1 tq2 ix1 ix2 ce1 ce2 hm1 hm2 md1 md2 hwm1 hwm2 hne1 hne2 hd1 hd2 hdb1 hdb2 HN1 HN2 HP1 HP2 HF
      by_cases hk : k1 = k2
      · subst hk
        rw [if_pos rfl] at hFj
        have qk : (k1 != k1) = false := by simp
        have qk2 : (k1 == k1) = true := by simp
        by_cases he : er = 0
        · subst he
          have hbe : -9223372036854775808 ≤ r ∧ r ≤ 9223372036854775807 := by
            have := hBd.out
            rw [hFj] at this
            replace this : -4611686018427387903 ≤ r ∧ r ≤ 4611686018427387903 := this
            omega
          have HG1 : Hid (goF F (N - (j + 1)) (j + 1) (nu ++ [r]) = goF F N 0 []) := by
            unfold Hid
            rw [← hG.out, show N - j = (N - (j + 1)) + 1 by omega, goF, hFj, if_pos rfl]
          have own7 : w7.ownsRow (bx + 1) 3 1 (.slice va vl vc) j (nu.map (Value.int .i64)) := own_below own b7
          have own8 := own7.alloc (.cells #[.int .i64 (r)] 3)
          have hnews := one_news w7 (r)
          have hone := one_cell (r)
          have s8 : (w7.alloc (.cells #[.int .i64 (r)] 3)).heap.size = w7.heap.size + 1 := by simp
          have hbx := blk.lt
          have hs7 := b7.size
          have blk8 := (blk.below b7).below (below_new w7 (.cells #[.int .i64 (r)] 3))
          have hvn : (Value.slice va vl vc).ownBlock ≠ some bx := fun e => by have := (own.lt _ e).1; omega
          have HX : ∀ (w9 : World) (g cap : Nat), w9.ownsRow (bx + 1) 3 1 (.slice (some ⟨g, 0, none⟩) (j + 1) cap) (j + 1) (nu.map (Value.int .i64) ++ [Value.int .i64 (r)]) → (w7.alloc (.cells #[.int .i64 (r)] 3)).grownBy w9 (Value.slice va vl vc).ownBlock → ((Value.slice va vl vc).ownBlock = some g ∨ g = w7.heap.size + 1) →
              Put1 w7 w9 (bx + 1) 3 1 j (.slice va vl vc) (nu.map (Value.int .i64)) [.int .i64 (r)] g cap ∧ Quad w9 bx (.int .i64 1) (.slice a1 SL.length c1) (.slice va vl vc) (.slice none 0 0) :=
            fun w9 g cap h1 h2 h3 => ⟨Put1.of own7 (below_new w7 _) (by omega) h1 h2 (by rw [s8]; exact h3), put_mid blk8 h2 hvn⟩
          obtain ⟨u0, u1, u2, u3, -⟩ := blk8.cells
          obtain ⟨r0, r1, r2, r3, -⟩ := (blk.below b7).cells
          have H8 : bx + 1 ≤ (w7.alloc (.cells #[.int .i64 (r)] 3)).heap.size := by omega
          obtain ⟨i0, hi0, hz0, hz1, hz2⟩ := info_parts infoInt
          clear own7 blk8 hBd
          go_wp2_with (first | (go_at_call 9; with_reducible refine Calls.mono (SC _) ?_; rintro e w8 ⟨rfl, rfl⟩) | (go_at_call 27; with_reducible refine Calls.mono (TR _) ?_; rintro e w8 ⟨rfl, rfl⟩) | (at_builtin; refine wpList_append_lies _ rfl _ _ 30 rfl (bx + 1) 3 i0 _ 1 8 Try.underlying30 hi0 hz0 hz1 hz2 rfl (by omega) (.slice va vl vc) j (nu.map (Value.int .i64)) rfl own8 ⟨w7.heap.size, 0, none⟩ 1 1 [.int .i64 (r)] rfl rfl hnews hone (by omega) (by unfold maxLen; omega) (by omega) H8 (w7.heap.size + 1) s8 ?_; intro gg cap9 w9 hown9 hg9 hat9 hl9; (obtain ⟨P9, Q9⟩ := HX w9 gg cap9 hown9 hg9 hat9); (obtain ⟨v0, v1, v2', v3, v4, v5, v6', v7⟩ := Q9.cells)))
          go_roundw
          all_goals first
            | exact ⟨j + 1, _, _, _, nu ++ [r], by omega, by go_num, by intro x hx; rcases List.mem_append.1 hx with hx | hx; exact hbd x hx; rw [List.mem_singleton] at hx; subst hx; exact hbe, by rw [List.map_append]; exact of_one hI b7 P9, HG1⟩
            | (simp [intOf]; omega)
        · have qe : (er != 0) = true := by simpa using he
          have qe2 : (er == 0) = false := by simpa using he
          have q7 := (qz5.below bel).below b7
          have hb7 := HB5.out.trans ((bel.trans (b7.mono bel.size)).mono HB5.out.size)
          obtain ⟨t0, t1, t2, t3, t4, t5, t6, t7⟩ := q7.cells
          go_wp2_with (first | (go_at_call 9; with_reducible refine Calls.mono (SC _) ?_; rintro e w8 ⟨rfl, rfl⟩) | (go_at_call 27; with_reducible refine Calls.mono (TR _) ?_; rintro e w8 ⟨rfl, rfl⟩))
          have G := give_set4 (w := w) (R := w.heap.size + 1 + 1) (by omega) q7 (zero_on _ _) hb7
          obtain ⟨QW, -⟩ := set4 q7 (.int .i64 0) (.slice none 0 0) (.slice none 0 0) (.slice none 0 0)
          generalize ((((w7.setCell ⟨w.heap.size + 1 + 1, 0, none⟩ (.int .i64 0)).setCell ⟨w.heap.size + 1 + 1, 1, none⟩ (.slice none 0 0)).setCell ⟨w.heap.size + 1 + 1, 2, none⟩ (.slice none 0 0)).setCell ⟨w.heap.size + 1 + 1, 3, none⟩ (.slice none 0 0)) = WW at QW G ⊢
          obtain ⟨o0, o1, o2, o3, -⟩ := QW.cells
          have HQ : goF F N 0 [] = ([], er) := by
            rw [← hG.out, show N - j = (N - (j + 1)) + 1 by omega, goF, hFj, if_neg he]
          have HH := HErr.out (by rw [HQ]; exact he)
          rw [HQ] at HH
          obtain ⟨rfl, rfl⟩ := Prod.mk.inj HH
          exact bodyPost_ret (v := .tuple #[.agg #[.int .i64 0, .slice none 0 0, .slice none 0 0, .slice none 0 0], .int .i64 RE]) (by simp [results, Try.results15, go_sem, o0, o1, o2, o3]) rfl (GiveNewE.mk G)
      · rw [if_neg hk] at hFj
        have qk : (k1 != k2) = true := by simpa using hk
        have qk2 : (k1 == k2) = false := by simpa using hk
        by_cases he : er = 0
        · subst he
          have hbe : -9223372036854775808 ≤ T ∧ T ≤ 9223372036854775807 := by
            have := hBd.out
            rw [hFj] at this
            replace this : -4611686018427387903 ≤ T ∧ T ≤ 4611686018427387903 := this
            omega
          have HG1 : Hid (goF F (N - (j + 1)) (j + 1) (nu ++ [T]) = goF F N 0 []) := by
            unfold Hid
            rw [← hG.out, show N - j = (N - (j + 1)) + 1 by omega, goF, hFj, if_pos rfl]
          have own7 : w7.ownsRow (bx + 1) 3 1 (.slice va vl vc) j (nu.map (Value.int .i64)) := own_below own b7
          have own8 := own7.alloc (.cells #[.int .i64 (T)] 3)
          have hnews := one_news w7 (T)
          have hone := one_cell (T)
          have s8 : (w7.alloc (.cells #[.int .i64 (T)] 3)).heap.size = w7.heap.size + 1 := by simp
          have hbx := blk.lt
          have hs7 := b7.size
          have blk8 := (blk.below b7).below (below_new w7 (.cells #[.int .i64 (T)] 3))
          have hvn : (Value.slice va vl vc).ownBlock ≠ some bx := fun e => by have := (own.lt _ e).1; omega
          have HX : ∀ (w9 : World) (g cap : Nat), w9.ownsRow (bx + 1) 3 1 (.slice (some ⟨g, 0, none⟩) (j + 1) cap) (j + 1) (nu.map (Value.int .i64) ++ [Value.int .i64 (T)]) → (w7.alloc (.cells #[.int .i64 (T)] 3)).grownBy w9 (Value.slice va vl vc).ownBlock → ((Value.slice va vl vc).ownBlock = some g ∨ g = w7.heap.size + 1) →
              Put1 w7 w9 (bx + 1) 3 1 j (.slice va vl vc) (nu.map (Value.int .i64)) [.int .i64 (T)] g cap ∧ Quad w9 bx (.int .i64 1) (.slice a1 SL.length c1) (.slice va vl vc) (.slice none 0 0) :=
            fun w9 g cap h1 h2 h3 => ⟨Put1.of own7 (below_new w7 _) (by omega) h1 h2 (by rw [s8]; exact h3), put_mid blk8 h2 hvn⟩
          obtain ⟨u0, u1, u2, u3, -⟩ := blk8.cells
          obtain ⟨r0, r1, r2, r3, -⟩ := (blk.below b7).cells
          have H8 : bx + 1 ≤ (w7.alloc (.cells #[.int .i64 (T)] 3)).heap.size := by omega
          obtain ⟨i0, hi0, hz0, hz1, hz2⟩ := info_parts infoInt
          clear own7 blk8 hBd
          go_wp2_with (first | (go_at_call 9; with_reducible refine Calls.mono (SC _) ?_; rintro e w8 ⟨rfl, rfl⟩) | (go_at_call 27; with_reducible refine Calls.mono (TR _) ?_; rintro e w8 ⟨rfl, rfl⟩) | (at_builtin; refine wpList_append_lies _ rfl _ _ 30 rfl (bx + 1) 3 i0 _ 1 8 Try.underlying30 hi0 hz0 hz1 hz2 rfl (by omega) (.slice va vl vc) j (nu.map (Value.int .i64)) rfl own8 ⟨w7.heap.size, 0, none⟩ 1 1 [.int .i64 (T)] rfl rfl hnews hone (by omega) (by unfold maxLen; omega) (by omega) H8 (w7.heap.size + 1) s8 ?_; intro gg cap9 w9 hown9 hg9 hat9 hl9; (obtain ⟨P9, Q9⟩ := HX w9 gg cap9 hown9 hg9 hat9); (obtain ⟨v0, v1, v2', v3, v4, v5, v6', v7⟩ := Q9.cells)))
          go_roundw
          all_goals first
            | exact ⟨j + 1, _, _, _, nu ++ [T], by omega, by go_num, by intro x hx; rcases List.mem_append.1 hx with hx | hx; exact hbd x hx; rw [List.mem_singleton] at hx; subst hx; exact hbe, by rw [List.map_append]; exact of_one hI b7 P9, HG1⟩
            | (simp [intOf]; omega)
        · have qe : (er != 0) = true := by simpa using he
          have qe2 : (er == 0) = false := by simpa using he
          have q7 := (qz5.below bel).below b7
          have hb7 := HB5.out.trans ((bel.trans (b7.mono bel.size)).mono HB5.out.size)
          obtain ⟨t0, t1, t2, t3, t4, t5, t6, t7⟩ := q7.cells
          go_wp2_with (first | (go_at_call 9; with_reducible refine Calls.mono (SC _) ?_; rintro e w8 ⟨rfl, rfl⟩) | (go_at_call 27; with_reducible refine Calls.mono (TR _) ?_; rintro e w8 ⟨rfl, rfl⟩))
          have G := give_set4 (w := w) (R := w.heap.size + 1 + 1) (by omega) q7 (zero_on _ _) hb7
          obtain ⟨QW, -⟩ := set4 q7 (.int .i64 0) (.slice none 0 0) (.slice none 0 0) (.slice none 0 0)
          generalize ((((w7.setCell ⟨w.heap.size + 1 + 1, 0, none⟩ (.int .i64 0)).setCell ⟨w.heap.size + 1 + 1, 1, none⟩ (.slice none 0 0)).setCell ⟨w.heap.size + 1 + 1, 2, none⟩ (.slice none 0 0)).setCell ⟨w.heap.size + 1 + 1, 3, none⟩ (.slice none 0 0)) = WW at QW G ⊢
          obtain ⟨o0, o1, o2, o3, -⟩ := QW.cells
          have HQ : goF F N 0 [] = ([], er) := by
            rw [← hG.out, show N - j = (N - (j + 1)) + 1 by omega, goF, hFj, if_neg he]
          have HH := HErr.out (by rw [HQ]; exact he)
          rw [HQ] at HH
          obtain ⟨rfl, rfl⟩ := Prod.mk.inj HH
          exact bodyPost_ret (v := .tuple #[.agg #[.int .i64 0, .slice none 0 0, .slice none 0 0, .slice none 0 0], .int .i64 RE]) (by simp [results, Try.results15, go_sem, o0, o1, o2, o3]) rfl (GiveNewE.mk G)
    · obtain rfl : j = N := by omega
      rw [Nat.sub_self] at hG
      have HQ : Hid (goF F j 0 [] = (nu, 0)) := hG.out.symm
      have q5 := qz5.below bel
      obtain ⟨t0, t1, t2, t3, t4, t5, t6, t7⟩ := q5.cells
      have hlt5 := q5.lt
      have hOut : ArrOn (fun g => w.heap.size + 1 + 1 < g) wr (.agg #[.int .i64 1, .slice a1 SL.length c1, .slice va vl vc, .slice none 0 0]) (.mk 1 SL nu []) := of_num_out hI (by decide) hbd hw5 blk i1
      go_wp2_with (go_at_call 37; refine (SZ _ hsg5).mono ?_; rintro e w8 ⟨rfl, rfl⟩)
      have G := give_set4 (w := w) (R := w.heap.size + 1 + 1) (by omega) q5 hOut (HB5.out.trans (bel.mono HB5.out.size))
      obtain ⟨QW, -⟩ := set4 q5 (.int .i64 1) (.slice a1 SL.length c1) (.slice va vl vc) (.slice none 0 0)
      generalize ((((wr.setCell ⟨w.heap.size + 1 + 1, 0, none⟩ (.int .i64 1)).setCell ⟨w.heap.size + 1 + 1, 1, none⟩ (.slice a1 SL.length c1)).setCell ⟨w.heap.size + 1 + 1, 2, none⟩ (.slice va vl vc)).setCell ⟨w.heap.size + 1 + 1, 3, none⟩ (.slice none 0 0)) = WW at QW G ⊢
      obtain ⟨o0, o1, o2, o3, -⟩ := QW.cells
      have HH := HOk.out (by rw [HQ.out])
      rw [HQ.out] at HH
      obtain ⟨rfl, rfl⟩ := Prod.mk.inj HH
      exact bodyPost_ret (v := .tuple #[.agg #[.int .i64 1, .slice a1 SL.length c1, .slice va vl vc, .slice none 0 0], .int .i64 0]) (by simp [results, Try.results15, go_sem, o0, o1, o2, o3]) rfl (GiveNewE.mk G)

end Go.Proofs.Ytekbdiniibmhgaa.Shape
