/-
  Layer 3: the program's Fill and At. (Written by wip/gen/array-p9.py.)
-/
import Derived.Test.YtphcpolgeceljaaDoorArrP8
import Derived.Test.YtphcpolgeceljaaDoorArrFillNew
import Derived.Test.YtphcpolgeceljaaDoorArrAt
namespace Go.Proofs.YtphcpolgeceljaaDoor.Shape
open Go.RowKit
set_option linter.unusedVariables false

theorem valid_0 : validA (.mk 1 [] [0] []) = .mk 1 [] [0] [] := by kernel_rfl
theorem valid_v0 : validA (.mk 1 [0] [] []) = .mk 1 [0] [] [] := by kernel_rfl
theorem valid_b0 : validA (.mk 3 [] [] [.mk 1 [0] [] []]) = .mk 3 [] [] [.mk 1 [0] [] []] := by kernel_rfl
theorem scalar_0 (w : World) : Calls Tryd.prog 25 #[.int .i64 0] w (GiveNew (.mk 1 [] [0] []) w) := by
  have h := scalarN 0 w (by decide)
  rw [valid_0] at h
  exact h
theorem vector_0 (w : World) : Calls Tryd.prog 29 #[.slice none 0 0] w (GiveNew (.mk 1 [0] [] []) w) := by
  have h := vectorN none 0 [] w (ints_nil w) (by decide)
  rw [show (Arr.mk 1 [((([] : List Int).length : Nat) : Int)] [] []) = .mk 1 [0] [] [] from rfl, valid_v0] at h
  exact h
theorem box_0 {v : Value} {w : World} (h : ArrAt w v (.mk 1 [0] [] [])) : Calls Tryd.prog 27 #[v] w (GiveNew (.mk 3 [] [] [.mk 1 [0] [] []]) w) := by
  have h := boxN v _ w h (reach_plain (by decide) (by decide))
  rw [valid_b0] at h
  exact h

set_option maxRecDepth 100000 in
set_option maxHeartbeats 2000000 in
theorem fillN (v : Value) (A : Arr) (w : World) (h : ArrAt w v A) : Calls Tryd.prog 35 #[v] w (GiveNew (fillA A.kind) w) := by
  obtain ⟨k, sh, nu, it⟩ := A
  rw [ArrAt] at h
  obtain ⟨sa, sc, na, nc, ia, ic, rfl, hk, -⟩ := h
  have bw := below_two w (.cells #[.int .i64 k, .slice sa sh.length sc, .slice na nu.length nc, .slice ia it.length ic] 26) (.cells #[.int .i64 0, .slice none 0 0, .slice none 0 0, .slice none 0 0] 26)
  have q2 : Quad ((w.alloc (.cells #[.int .i64 k, .slice sa sh.length sc, .slice na nu.length nc, .slice ia it.length ic] 26)).alloc (.cells #[.int .i64 0, .slice none 0 0, .slice none 0 0, .slice none 0 0] 26)) (w.heap.size + 1) (.int .i64 0) (.slice none 0 0) (.slice none 0 0) (.slice none 0 0) := by simpa using Quad.new (w.alloc (.cells #[.int .i64 k, .slice sa sh.length sc, .slice na nu.length nc, .slice ia it.length ic] 26)) (.int .i64 0) (.slice none 0 0) (.slice none 0 0) (.slice none 0 0)
  have bz : Hid (((w.alloc (.cells #[.int .i64 k, .slice sa sh.length sc, .slice na nu.length nc, .slice ia it.length ic] 26)).alloc (.cells #[.int .i64 0, .slice none 0 0, .slice none 0 0, .slice none 0 0] 26)).heap.size = w.heap.size + 2) := by unfold Hid; simp
  by_cases k1 : k = 1
  · subst k1
    go_enter Tryd.func35, Tryd.ntmps35
    go_wp2_with (go_at_call 25; refine (scalar_0 _).mono ?_; intro e w2 hN; (obtain ⟨k', sa', ls', sc', na', ln', nc', ia', li', ic', rfl, hO, hb2⟩ := hN.form); (obtain ⟨s0, s1, s2, s3, s4, s5, s6, s7⟩ := (q2.below hb2).cells))
    have q3 := q2.below hb2
    have hb := bz.out
    have G := give_set4 (w := w) (R := w.heap.size + 1) (by omega) q3 (hO.mono fun g hg => by omega) (Below.then bw hb2)
    obtain ⟨QW, -⟩ := set4 q3 (.int .i64 k') (.slice sa' ls' sc') (.slice na' ln' nc') (.slice ia' li' ic')
    generalize ((((w2.setCell ⟨w.heap.size + 1, 0, none⟩ (.int .i64 k')).setCell ⟨w.heap.size + 1, 1, none⟩ (.slice sa' ls' sc')).setCell ⟨w.heap.size + 1, 2, none⟩ (.slice na' ln' nc')).setCell ⟨w.heap.size + 1, 3, none⟩ (.slice ia' li' ic')) = WW at QW G ⊢
    obtain ⟨z0, z1, z2, z3, -⟩ := QW.cells
    exact bodyPost_ret (v := .agg #[.int .i64 k', .slice sa' ls' sc', .slice na' ln' nc', .slice ia' li' ic']) (by simp [results, Tryd.results35, go_sem, z0, z1, z2, z3]) rfl G
  · by_cases k2 : k = 2
    · subst k2
      clear bw q2 bz
      go_enter Tryd.func35, Tryd.ntmps35
      go_wp2
      refine bodyPost_ret (v := .agg #[.int .i64 2, .slice none 0 0, .slice (some ⟨w.heap.size + 1 + 1, 0, none⟩) 1 1, .slice none 0 0]) (by simp [results, Tryd.results35, go_sem]) rfl (GiveNew.mk (A := .mk 2 [] [32] []) (one_on (by decide) (by decide) ?_ (by omega)) ?_)
      · rw [World.cell?_alloc_at _ _ _ _ (by simp)]; rfl
      · exact Below.then (below_new _ _) (Below.then (below_new _ _) (below_new _ _))
    · by_cases k3 : k = 3
      · subst k3
        go_enter Tryd.func35, Tryd.ntmps35
        go_wp2_with (first
          | (go_at_call 29; refine (vector_0 _).mono ?_; intro e w1 hV; (obtain ⟨vk, va, vl, vc, vna, vnl, vnc, via, vil, vic, rfl, hVO, hb1⟩ := hV.form))
          | (go_at_call 27; refine (box_0 hVO.at).mono ?_; intro e w2 hN; (obtain ⟨k', sa', ls', sc', na', ln', nc', ia', li', ic', rfl, hO, hb2⟩ := hN.form); (obtain ⟨s0, s1, s2, s3, s4, s5, s6, s7⟩ := ((q2.below hb1).below hb2).cells)))
        have q3 := (q2.below hb1).below hb2
        have hb := bz.out
        have hs1 := hb1.size
        have G := give_set4 (w := w) (R := w.heap.size + 1) (by omega) q3 (hO.mono fun g hg => by omega) (Below.then (Below.then bw hb1) hb2)
        obtain ⟨QW, -⟩ := set4 q3 (.int .i64 k') (.slice sa' ls' sc') (.slice na' ln' nc') (.slice ia' li' ic')
        generalize ((((w2.setCell ⟨w.heap.size + 1, 0, none⟩ (.int .i64 k')).setCell ⟨w.heap.size + 1, 1, none⟩ (.slice sa' ls' sc')).setCell ⟨w.heap.size + 1, 2, none⟩ (.slice na' ln' nc')).setCell ⟨w.heap.size + 1, 3, none⟩ (.slice ia' li' ic')) = WW at QW G ⊢
        obtain ⟨z0, z1, z2, z3, -⟩ := QW.cells
        exact bodyPost_ret (v := .agg #[.int .i64 k', .slice sa' ls' sc', .slice na' ln' nc', .slice ia' li' ic']) (by simp [results, Tryd.results35, go_sem, z0, z1, z2, z3]) rfl G
      · have e1 : (k == 1) = false := by simpa using k1
        have e2 : (k == 2) = false := by simpa using k2
        have e3 : (k == 3) = false := by simpa using k3
        have HE : Hid (fillA k = zeroA) := by unfold Hid; rw [fillA, if_neg k1, if_neg k2, if_neg k3]
        clear k1 k2 k3 bw q2 bz
        go_enter Tryd.func35, Tryd.ntmps35
        go_wp2
        refine bodyPost_ret (v := .agg #[.int .i64 0, .slice none 0 0, .slice none 0 0, .slice none 0 0]) (by simp [results, Tryd.results35, go_sem]) rfl ?_
        rw [show (Arr.mk k sh nu it).kind = k from rfl, HE.out]
        exact GiveNew.mk (zero_on _ _) (Below.then (below_new _ _) (below_new _ _))

theorem atN_out (v : Value) (A : Arr) (i : Int) (w : World) (h : ArrAt w v A) (hi : -9223372036854775808 ≤ i ∧ i ≤ 9223372036854775807) (ho : i < 0 ∨ (aSize A : Int) ≤ i) :
    Calls Tryd.prog 37 #[v, .int .i64 i] w (GiveNew zeroA w) := by
  have hA := h
  obtain ⟨k, sa, ls, sc, na, ln, nc, ia, li, ic, rfl⟩ : ∃ k sa ls sc na ln nc ia li ic, v = .agg #[.int .i64 k, .slice sa ls sc, .slice na ln nc, .slice ia li ic] := by
    obtain ⟨k, sh, nu, it⟩ := A
    rw [ArrAt] at h
    obtain ⟨sa, sc, na, nc, ia, ic, rfl, -⟩ := h
    exact ⟨_, _, _, _, _, _, _, _, _, _, rfl⟩
  clear h
  by_cases neg : i < 0
  · go_enter Tryd.func37, Tryd.ntmps37
    go_wp2_with fail
    exact bodyPost_ret (v := .agg #[.int .i64 0, .slice none 0 0, .slice none 0 0, .slice none 0 0]) (by simp [results, Tryd.results37, go_sem]) rfl (GiveNew.mk (zero_on _ _) (below_two _ _ _))
  · have big : (aSize A : Int) ≤ i := by omega
    have bw := below_two w (.cells #[.int .i64 k, .slice sa ls sc, .slice na ln nc, .slice ia li ic] 26) (.cells #[.int .i64 0, .slice none 0 0, .slice none 0 0, .slice none 0 0] 26)
    have hA1 := hA.below bw
    have q2 : Quad ((w.alloc (.cells #[.int .i64 k, .slice sa ls sc, .slice na ln nc, .slice ia li ic] 26)).alloc (.cells #[.int .i64 0, .slice none 0 0, .slice none 0 0, .slice none 0 0] 26)) (w.heap.size + 1) (.int .i64 0) (.slice none 0 0) (.slice none 0 0) (.slice none 0 0) := by
      simpa using Quad.new (w.alloc (.cells #[.int .i64 k, .slice sa ls sc, .slice na ln nc, .slice ia li ic] 26)) (.int .i64 0) (.slice none 0 0) (.slice none 0 0) (.slice none 0 0)
    obtain ⟨x, hx⟩ : ∃ x : Nat, aSize A = x := ⟨_, rfl⟩
    have S := fun v' w' (g : ArrAt w' v' A) => sizeQ v' A w' g
    rw [hx] at S big
    clear ho hx hA
    go_enter Tryd.func37, Tryd.ntmps37
    go_wp2_with (go_at_call 15; refine (S _ _ hA1).mono ?_; rintro e w1 ⟨rfl, hb1⟩; (obtain ⟨s0, s1, s2, s3, s4, s5, s6, s7⟩ := (q2.below hb1).cells))
    have q3 := q2.below hb1
    have G := give_set4 (Nat.le_succ w.heap.size) q3 (zero_on _ _) (Below.then bw hb1)
    obtain ⟨QW, -⟩ := set4 q3 (.int .i64 0) (.slice none 0 0) (.slice none 0 0) (.slice none 0 0)
    generalize ((((w1.setCell ⟨w.heap.size + 1, 0, none⟩ (.int .i64 0)).setCell ⟨w.heap.size + 1, 1, none⟩ (.slice none 0 0)).setCell ⟨w.heap.size + 1, 2, none⟩ (.slice none 0 0)).setCell ⟨w.heap.size + 1, 3, none⟩ (.slice none 0 0)) = WW at QW G ⊢
    obtain ⟨z0, z1, z2, z3, -⟩ := QW.cells
    exact bodyPost_ret (v := .agg #[.int .i64 0, .slice none 0 0, .slice none 0 0, .slice none 0 0]) (by simp [results, Tryd.results37, go_sem, z0, z1, z2, z3]) rfl G


theorem atN_box (v : Value) (sh nu : List Int) (it : List Arr) (j : Nat) (w : World) (h : ArrAt w v (.mk 3 sh nu it)) (hr : ReachL it) (hj : j < it.length) :
    Calls Tryd.prog 37 #[v, .int .i64 j] w (GiveNew (.mk 3 [] [] [it[j]]) w) := by
  have hA := h
  rw [ArrAt] at h
  obtain ⟨sa, sc, na, nc, ia, ic, rfl, hk, hs, hn, h1, h2, b, off, ha, hc⟩ := h
  have bw := below_two w (.cells #[.int .i64 3, .slice sa sh.length sc, .slice na nu.length nc, .slice ia it.length ic] 26) (.cells #[.int .i64 0, .slice none 0 0, .slice none 0 0, .slice none 0 0] 26)
  have hA1 := hA.below bw
  have q1 := (Quad.new w (.int .i64 3) (.slice sa sh.length sc) (.slice na nu.length nc) (.slice ia it.length ic)).below (below_new _ (.cells #[.int .i64 0, .slice none 0 0, .slice none 0 0, .slice none 0 0] 26))
  have q2 : Quad ((w.alloc (.cells #[.int .i64 3, .slice sa sh.length sc, .slice na nu.length nc, .slice ia it.length ic] 26)).alloc (.cells #[.int .i64 0, .slice none 0 0, .slice none 0 0, .slice none 0 0] 26)) (w.heap.size + 1) (.int .i64 0) (.slice none 0 0) (.slice none 0 0) (.slice none 0 0) := by
    simpa using Quad.new (w.alloc (.cells #[.int .i64 3, .slice sa sh.length sc, .slice na nu.length nc, .slice ia it.length ic] 26)) (.int .i64 0) (.slice none 0 0) (.slice none 0 0) (.slice none 0 0)
  have HB : Hid (((w.alloc (.cells #[.int .i64 3, .slice sa sh.length sc, .slice na nu.length nc, .slice ia it.length ic] 26)).alloc (.cells #[.int .i64 0, .slice none 0 0, .slice none 0 0, .slice none 0 0] 26)).heap.size = w.heap.size + 2) := by unfold Hid; simp
  have S := fun v' w' (g : ArrAt w' v' (.mk 3 sh nu it)) => sizeQ v' _ w' g
  rw [show aSize (.mk 3 sh nu it) = it.length by simp [aSize, Arr.kind, Arr.items]] at S
  have hix := items_at (ic := ic) rfl ha hj
  go_enter Tryd.func37, Tryd.ntmps37
  go_wp2_with (first
    | (go_at_call 15; refine (S _ _ hA1).mono ?_; rintro e w1 ⟨rfl, hb1⟩; (obtain ⟨p0, p1, p2, p3, -⟩ := (q1.below hb1).cells); (obtain ⟨c0, c1, c2, c3, ⟨g0, g1, g2, g3⟩, hB⟩ := (ArrsAt.below (Below.then bw hb1) hc).at hj))
    | (go_at_call 20; refine (cloneN _ _ _ hB (hr.at hj)).mono ?_; intro e w2 hN; (obtain ⟨k', sa', ls', sc', na', ln', nc', ia', li', ic', rfl, hO, hb2⟩ := hN.form); (have q4 := ((q2.below hb1).below hb2).below (below_new w2 (.cells #[.int .i64 k', .slice sa' ls' sc', .slice na' ln' nc', .slice ia' li' ic'] 26))); (obtain ⟨s0, s1, s2, s3, s4, s5, s6, s7⟩ := q4.cells)))
  have hb := HB.out
  have l1 := hb1.size
  have l2 := hb2.size
  have bn := below_new w2 (.cells #[.int .i64 k', .slice sa' ls' sc', .slice na' ln' nc', .slice ia' li' ic'] 26)
  have hO2 := (hO.below bn).mono (R := fun g => w.heap.size + 1 < g) fun g hg => by omega
  have hX := boxed_on (ic := 1) (Quad.new w2 (.int .i64 k') (.slice sa' ls' sc') (.slice na' ln' nc') (.slice ia' li' ic')) (by omega) hO2 (by decide) (by decide)
  have G := give_set4 (Nat.le_succ w.heap.size) q4 hX (Below.then (Below.then (Below.then bw hb1) hb2) bn)
  obtain ⟨QW, -⟩ := set4 q4 (.int .i64 3) (.slice none 0 0) (.slice none 0 0) (.slice (some ⟨w2.heap.size, 0, none⟩) 1 1)
  generalize (((((w2.alloc (.cells #[.int .i64 k', .slice sa' ls' sc', .slice na' ln' nc', .slice ia' li' ic'] 26)).setCell ⟨w.heap.size + 1, 0, none⟩ (.int .i64 3)).setCell ⟨w.heap.size + 1, 1, none⟩ (.slice none 0 0)).setCell ⟨w.heap.size + 1, 2, none⟩ (.slice none 0 0)).setCell ⟨w.heap.size + 1, 3, none⟩ (.slice (some ⟨w2.heap.size, 0, none⟩) 1 1)) = WW at QW G ⊢
  obtain ⟨z0, z1, z2, z3, -⟩ := QW.cells
  exact bodyPost_ret (v := .agg #[.int .i64 3, .slice none 0 0, .slice none 0 0, .slice (some ⟨w2.heap.size, 0, none⟩) 1 1]) (by simp [results, Tryd.results37, go_sem, z0, z1, z2, z3]) rfl G

theorem atN_num (v : Value) (k : Int) (sh nu : List Int) (it : List Arr) (j : Nat) (w : World) (h : ArrAt w v (.mk k sh nu it)) (hk : k = 1 ∨ k = 2) (hj : j < nu.length) :
    Calls Tryd.prog 37 #[v, .int .i64 j] w (GiveNew (.mk k [] [nu[j]] []) w) := by
  have hA := h
  rw [ArrAt] at h
  obtain ⟨sa, sc, na, nc, ia, ic, rfl, hkb, hs, hn, h1, h2, b, off, ha, hc⟩ := h
  have bw := below_two w (.cells #[.int .i64 k, .slice sa sh.length sc, .slice na nu.length nc, .slice ia it.length ic] 26) (.cells #[.int .i64 0, .slice none 0 0, .slice none 0 0, .slice none 0 0] 26)
  have hA1 := hA.below bw
  have q1 := (Quad.new w (.int .i64 k) (.slice sa sh.length sc) (.slice na nu.length nc) (.slice ia it.length ic)).below (below_new _ (.cells #[.int .i64 0, .slice none 0 0, .slice none 0 0, .slice none 0 0] 26))
  have q2 : Quad ((w.alloc (.cells #[.int .i64 k, .slice sa sh.length sc, .slice na nu.length nc, .slice ia it.length ic] 26)).alloc (.cells #[.int .i64 0, .slice none 0 0, .slice none 0 0, .slice none 0 0] 26)) (w.heap.size + 1) (.int .i64 0) (.slice none 0 0) (.slice none 0 0) (.slice none 0 0) := by
    simpa using Quad.new (w.alloc (.cells #[.int .i64 k, .slice sa sh.length sc, .slice na nu.length nc, .slice ia it.length ic] 26)) (.int .i64 0) (.slice none 0 0) (.slice none 0 0) (.slice none 0 0)
  have HB : Hid (((w.alloc (.cells #[.int .i64 k, .slice sa sh.length sc, .slice na nu.length nc, .slice ia it.length ic] 26)).alloc (.cells #[.int .i64 0, .slice none 0 0, .slice none 0 0, .slice none 0 0] 26)).heap.size = w.heap.size + 2) := by unfold Hid; simp
  have S := fun v' w' (g : ArrAt w' v' (.mk k sh nu it)) => sizeQ v' _ w' g
  rw [show aSize (.mk k sh nu it) = nu.length by rcases hk with rfl | rfl <;> simp [aSize, Arr.kind, Arr.nums]] at S
  have hnl := hn.len
  have hxb := hn.bd hj
  have e3 : (k == 3) = false := by rcases hk with rfl | rfl <;> rfl
  clear hk
  obtain ⟨y, hy⟩ : ∃ y, nu[j] = y := ⟨_, rfl⟩
  obtain ⟨nb, no, hix, hcell⟩ := hn.at hj
  rw [hy] at hcell hxb
  have HY : Hid (nu[j] = y) := hy
  clear hy
  go_enter Tryd.func37, Tryd.ntmps37
  go_wp2_with (first
    | (go_at_call 15; refine (S _ _ hA1).mono ?_; rintro e w1 ⟨rfl, hb1⟩; (obtain ⟨p0, p1, p2, p3, -⟩ := (q1.below hb1).cells); (have hcell1 : w1.cell? ⟨nb, no + j, none⟩ = some (.int .i64 y) := ((Below.then bw hb1).cell (cell_lt hcell)).trans hcell); (obtain ⟨s0, s1, s2, s3, s4, s5, s6, s7⟩ := (q2.below hb1).cells)))
  have bn := below_new w1 (.cells #[.int .i64 y] 3)
  have q4 := (q2.below hb1).below bn
  obtain ⟨s10, s11, s12, s13, s14, s15, s16, s17⟩ := q4.cells
  obtain ⟨p10, p11, p12, p13, -⟩ := ((q1.below hb1).below bn).cells
  go_region
  all_goals go_wp2_with fail
  have hb := HB.out
  have l1 := hb1.size
  have hX : ArrOn (fun g => w.heap.size + 1 < g) (w1.alloc (.cells #[.int .i64 y] 3)) (.agg #[.int .i64 k, .slice none 0 0, .slice (some ⟨w1.heap.size, 0, none⟩) 1 1, .slice none 0 0]) (.mk k [] [y] []) :=
    one_on hkb hxb (by rw [World.cell?_alloc_at _ _ _ _ rfl]; rfl) (by omega)
  have G := give_set4 (Nat.le_succ w.heap.size) q4 hX (Below.then (Below.then bw hb1) bn)
  obtain ⟨QW, -⟩ := set4 q4 (.int .i64 k) (.slice none 0 0) (.slice (some ⟨w1.heap.size, 0, none⟩) 1 1) (.slice none 0 0)
  generalize (((((w1.alloc (.cells #[.int .i64 y] 3)).setCell ⟨w.heap.size + 1, 0, none⟩ (.int .i64 k)).setCell ⟨w.heap.size + 1, 1, none⟩ (.slice none 0 0)).setCell ⟨w.heap.size + 1, 2, none⟩ (.slice (some ⟨w1.heap.size, 0, none⟩) 1 1)).setCell ⟨w.heap.size + 1, 3, none⟩ (.slice none 0 0)) = WW at QW G ⊢
  obtain ⟨z0, z1, z2, z3, -⟩ := QW.cells
  rw [HY.out]
  exact bodyPost_ret (v := .agg #[.int .i64 k, .slice none 0 0, .slice (some ⟨w1.heap.size, 0, none⟩) 1 1, .slice none 0 0]) (by simp [results, Tryd.results37, go_sem, z0, z1, z2, z3]) rfl G.drew


theorem atN (v : Value) (A : Arr) (i : Int) (w : World) (h : ArrAt w v A) (hr : Reach A) (hi : -9223372036854775808 ≤ i ∧ i ≤ 9223372036854775807) : Calls Tryd.prog 37 #[v, .int .i64 i] w (GiveNew (atA A i) w) := by
  by_cases ho : i < 0 ∨ (aSize A : Int) ≤ i
  · rw [atA, if_pos ho]
    exact atN_out v A i w h hi ho
  · rw [atA, if_neg ho]
    obtain ⟨j, rfl⟩ : ∃ j : Nat, i = j := ⟨i.toNat, by omega⟩
    obtain ⟨k, sh, nu, it⟩ := A
    rw [Reach] at hr
    by_cases k3 : k = 3
    · subst k3
      have hj : j < it.length := by simp [aSize, Arr.kind, Arr.items] at ho; omega
      rw [if_pos (show (Arr.mk 3 sh nu it).kind = 3 from rfl)]
      have := atN_box v sh nu it j w h hr.2.2.2 hj
      simpa [Arr.items, hj] using this
    · by_cases k1 : k = 1 ∨ k = 2
      · have hj : j < nu.length := by rcases k1 with rfl | rfl <;> (simp [aSize, Arr.kind, Arr.nums] at ho; omega)
        rw [if_neg (show ¬ (Arr.mk k sh nu it).kind = 3 from k3)]
        have := atN_num v k sh nu it j w h k1 hj
        simpa [Arr.nums, Arr.kind, hj] using this
      · have hz : aSize (.mk k sh nu it) = 0 := by simp [aSize, Arr.kind, k1, k3]
        rw [hz] at ho
        omega

end Go.Proofs.YtphcpolgeceljaaDoor.Shape
