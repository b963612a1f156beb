/-
  Layer 3: the program's Fill and At. (Written by wip/gen/array-p9.py.)
-/
import Derived.Test.YtngcahaidlgkfaaDoorArrP8
import Derived.Test.YtngcahaidlgkfaaDoorArrFillNew
import Derived.Test.YtngcahaidlgkfaaDoorArrAt
namespace Go.Proofs.YtngcahaidlgkfaaDoor.Shape
open Go.RowKit
set_option linter.unusedVariables false

theorem valid_0 : validA (.mk 1 [] [0] []) = .mk 1 [] [0] [] := by kernel_rfl
theorem valid_v0 : validA (.mk 1 [0] [] []) = .mk 1 [0] [] [] := by kernel_rfl
theorem valid_b0 : validA (.mk 3 [] [] [.mk 1 [0] [] []]) = .mk 3 [] [] [.mk 1 [0] [] []] := by kernel_rfl
theorem scalar_0 (w : World) : Calls Tryd.prog 72 #[.int .i64 0] w (GiveNew (.mk 1 [] [0] []) w) := by
  have h := scalarN 0 w (by decide)
  rw [valid_0] at h
  exact h
theorem vector_0 (w : World) : Calls Tryd.prog 74 #[.slice none 0 0] w (GiveNew (.mk 1 [0] [] []) w) := by
  have h := vectorN none 0 [] w (ints_nil w) (by decide)
  rw [show (Arr.mk 1 [((([] : List Int).length : Nat) : Int)] [] []) = .mk 1 [0] [] [] from rfl, valid_v0] at h
  exact h
theorem box_0 {v : Value} {w : World} (h : ArrAt w v (.mk 1 [0] [] [])) : Calls Tryd.prog 73 #[v] w (GiveNew (.mk 3 [] [] [.mk 1 [0] [] []]) w) := by
  have h := boxN v _ w h (reach_plain (by decide) (by decide))
  rw [valid_b0] at h
  exact h

set_option maxRecDepth 100000 in
set_option maxHeartbeats 2000000 in
theorem fillN (v : Value) (A : Arr) (w : World) (h : ArrAt w v A) : Calls Tryd.prog 58 #[v] w (GiveNew (fillA A.kind) w) := by
  obtain ⟨k, sh, nu, it⟩ := A
  rw [ArrAt] at h
  obtain ⟨sa, sc, na, nc, ia, ic, rfl, hk, -⟩ := h
  have bw := below_two w (.cells #[.int .i64 k, .slice sa sh.length sc, .slice na nu.length nc, .slice ia it.length ic] 26) (.cells #[.int .i64 0, .slice none 0 0, .slice none 0 0, .slice none 0 0] 26)
  have q2 : Quad ((w.alloc (.cells #[.int .i64 k, .slice sa sh.length sc, .slice na nu.length nc, .slice ia it.length ic] 26)).alloc (.cells #[.int .i64 0, .slice none 0 0, .slice none 0 0, .slice none 0 0] 26)) (w.heap.size + 1) (.int .i64 0) (.slice none 0 0) (.slice none 0 0) (.slice none 0 0) := by simpa using Quad.new (w.alloc (.cells #[.int .i64 k, .slice sa sh.length sc, .slice na nu.length nc, .slice ia it.length ic] 26)) (.int .i64 0) (.slice none 0 0) (.slice none 0 0) (.slice none 0 0)
  have bz : Hid (((w.alloc (.cells #[.int .i64 k, .slice sa sh.length sc, .slice na nu.length nc, .slice ia it.length ic] 26)).alloc (.cells #[.int .i64 0, .slice none 0 0, .slice none 0 0, .slice none 0 0] 26)).heap.size = w.heap.size + 2) := by unfold Hid; simp
  by_cases k1 : k = 1
  · subst k1
    go_enter Tryd.func58, Tryd.ntmps58
    go_wp2_with (go_at_call 72; refine (scalar_0 _).mono ?_; intro e w2 hN; (obtain ⟨k', sa', ls', sc', na', ln', nc', ia', li', ic', rfl, hO, hb2⟩ := hN.form); (obtain ⟨s0, s1, s2, s3, s4, s5, s6, s7⟩ := (q2.below hb2).cells))
    have q3 := q2.below hb2
    have hb := bz.out
    have G := give_set4 (w := w) (R := w.heap.size + 1) (by omega) q3 (hO.mono fun g hg => by omega) (Below.then bw hb2)
    obtain ⟨QW, -⟩ := set4 q3 (.int .i64 k') (.slice sa' ls' sc') (.slice na' ln' nc') (.slice ia' li' ic')
    generalize ((((w2.setCell ⟨w.heap.size + 1, 0, none⟩ (.int .i64 k')).setCell ⟨w.heap.size + 1, 1, none⟩ (.slice sa' ls' sc')).setCell ⟨w.heap.size + 1, 2, none⟩ (.slice na' ln' nc')).setCell ⟨w.heap.size + 1, 3, none⟩ (.slice ia' li' ic')) = WW at QW G ⊢
    obtain ⟨z0, z1, z2, z3, -⟩ := QW.cells
    exact bodyPost_ret (v := .agg #[.int .i64 k', .slice sa' ls' sc', .slice na' ln' nc', .slice ia' li' ic']) (by simp [results, Tryd.results58, go_sem, z0, z1, z2, z3]) rfl G
  · by_cases k2 : k = 2
    · subst k2
      clear bw q2 bz
      go_enter Tryd.func58, Tryd.ntmps58
      go_wp2
      refine bodyPost_ret (v := .agg #[.int .i64 2, .slice none 0 0, .slice (some ⟨w.heap.size + 1 + 1, 0, none⟩) 1 1, .slice none 0 0]) (by simp [results, Tryd.results58, go_sem]) rfl (GiveNew.mk (A := .mk 2 [] [32] []) (one_on (by decide) (by decide) ?_ (by omega)) ?_)
      · rw [World.cell?_alloc_at _ _ _ _ (by simp)]; rfl
      · exact Below.then (below_new _ _) (Below.then (below_new _ _) (below_new _ _))
    · by_cases k3 : k = 3
      · subst k3
        go_enter Tryd.func58, Tryd.ntmps58
        go_wp2_with (first
          | (go_at_call 74; refine (vector_0 _).mono ?_; intro e w1 hV; (obtain ⟨vk, va, vl, vc, vna, vnl, vnc, via, vil, vic, rfl, hVO, hb1⟩ := hV.form))
          | (go_at_call 73; refine (box_0 hVO.at).mono ?_; intro e w2 hN; (obtain ⟨k', sa', ls', sc', na', ln', nc', ia', li', ic', rfl, hO, hb2⟩ := hN.form); (obtain ⟨s0, s1, s2, s3, s4, s5, s6, s7⟩ := ((q2.below hb1).below hb2).cells)))
        have q3 := (q2.below hb1).below hb2
        have hb := bz.out
        have hs1 := hb1.size
        have G := give_set4 (w := w) (R := w.heap.size + 1) (by omega) q3 (hO.mono fun g hg => by omega) (Below.then (Below.then bw hb1) hb2)
        obtain ⟨QW, -⟩ := set4 q3 (.int .i64 k') (.slice sa' ls' sc') (.slice na' ln' nc') (.slice ia' li' ic')
        generalize ((((w2.setCell ⟨w.heap.size + 1, 0, none⟩ (.int .i64 k')).setCell ⟨w.heap.size + 1, 1, none⟩ (.slice sa' ls' sc')).setCell ⟨w.heap.size + 1, 2, none⟩ (.slice na' ln' nc')).setCell ⟨w.heap.size + 1, 3, none⟩ (.slice ia' li' ic')) = WW at QW G ⊢
        obtain ⟨z0, z1, z2, z3, -⟩ := QW.cells
        exact bodyPost_ret (v := .agg #[.int .i64 k', .slice sa' ls' sc', .slice na' ln' nc', .slice ia' li' ic']) (by simp [results, Tryd.results58, go_sem, z0, z1, z2, z3]) rfl G
      · have e1 : (k == 1) = false := by simpa using k1
        have e2 : (k == 2) = false := by simpa using k2
        have e3 : (k == 3) = false := by simpa using k3
        have HE : Hid (fillA k = zeroA) := by unfold Hid; rw [fillA, if_neg k1, if_neg k2, if_neg k3]
        clear k1 k2 k3 bw q2 bz
        go_enter Tryd.func58, Tryd.ntmps58
        go_wp2
        refine bodyPost_ret (v := .agg #[.int .i64 0, .slice none 0 0, .slice none 0 0, .slice none 0 0]) (by simp [results, Tryd.results58, go_sem]) rfl ?_
        rw [show (Arr.mk k sh nu it).kind = k from rfl, HE.out]
        exact GiveNew.mk (zero_on _ _) (Below.then (below_new _ _) (below_new _ _))

end Go.Proofs.YtngcahaidlgkfaaDoor.Shape
