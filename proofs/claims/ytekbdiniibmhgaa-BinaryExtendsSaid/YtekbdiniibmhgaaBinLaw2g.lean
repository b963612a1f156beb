/-
  Layer 16: the walk of the law BinaryApply, over the contracts.
-/
import Derived.Test.YtekbdiniibmhgaaBinLaw1g
import Derived.Test.YtekbdiniibmhgaaBinGW
namespace Go.Proofs.Ytekbdiniibmhgaa.Shape
open Go.RowKit
set_option linter.unusedVariables false
set_option linter.unusedSimpArgs false

set_option maxRecDepth 100000 in
set_option maxHeartbeats 4000000 in
theorem applyW16 (AP : ApplyOK) (LV : LivesOK) (p : Int) (v v2 : Value) (A B : Arr) (w : World) (h : ArrAt w v A) (g : ArrAt w v2 B) (rA : Reach A) (rB : Reach B) : Calls Try.prog 4 #[.int .i64 p, v, v2] w fun e w' => e = .returned (.bool true) ∧ Below w.heap.size w w' := by
  have hA := h
  have hB := g
  obtain ⟨k1, s1, ls1, sc1, n1, ln1, nc1, i1, li1, ic1, rfl⟩ : ∃ k sa ls sc na ln nc ia li ic, v = .agg #[.int .i64 k, .slice sa ls sc, .slice na ln nc, .slice ia li ic] := by
    obtain ⟨k, sh, nu, it⟩ := A
    rw [ArrAt] at h
    obtain ⟨sa, sc, na, nc, ia, ic, rfl, -⟩ := h
    exact ⟨_, _, _, _, _, _, _, _, _, _, rfl⟩
  obtain ⟨k2, s2, ls2, sc2, n2, ln2, nc2, i2, li2, ic2, rfl⟩ : ∃ k sa ls sc na ln nc ia li ic, v2 = .agg #[.int .i64 k, .slice sa ls sc, .slice na ln nc, .slice ia li ic] := by
    obtain ⟨k, sh, nu, it⟩ := B
    rw [ArrAt] at g
    obtain ⟨sa, sc, na, nc, ia, ic, rfl, -⟩ := g
    exact ⟨_, _, _, _, _, _, _, _, _, _, rfl⟩
  clear h g
  have b2 := below_two w (.cells #[.int .i64 k1, .slice s1 ls1 sc1, .slice n1 ln1 nc1, .slice i1 li1 ic1] 33) (.cells #[.int .i64 k2, .slice s2 ls2 sc2, .slice n2 ln2 nc2, .slice i2 li2 ic2] 33)
  have hA2 := hA.below b2
  have hB2 := hB.below b2
  have qx : Quad ((w.alloc (.cells #[.int .i64 k1, .slice s1 ls1 sc1, .slice n1 ln1 nc1, .slice i1 li1 ic1] 33)).alloc (.cells #[.int .i64 k2, .slice s2 ls2 sc2, .slice n2 ln2 nc2, .slice i2 li2 ic2] 33)) w.heap.size (.int .i64 k1) (.slice s1 ls1 sc1) (.slice n1 ln1 nc1) (.slice i1 li1 ic1) := (Quad.new w _ _ _ _).below (below_new _ _)
  have qy : Quad ((w.alloc (.cells #[.int .i64 k1, .slice s1 ls1 sc1, .slice n1 ln1 nc1, .slice i1 li1 ic1] 33)).alloc (.cells #[.int .i64 k2, .slice s2 ls2 sc2, .slice n2 ln2 nc2, .slice i2 li2 ic2] 33)) (w.heap.size + 1) (.int .i64 k2) (.slice s2 ls2 sc2) (.slice n2 ln2 nc2) (.slice i2 li2 ic2) := by
    simpa using Quad.new (w.alloc (.cells #[.int .i64 k1, .slice s1 ls1 sc1, .slice n1 ln1 nc1, .slice i1 li1 ic1] 33)) (.int .i64 k2) (.slice s2 ls2 sc2) (.slice n2 ln2 nc2) (.slice i2 li2 ic2)
  obtain ⟨x0, x1, x2, x3, -⟩ := qx.cells
  obtain ⟨y0, y1, y2, y3, -⟩ := qy.cells
  have D := fun w' (a : ArrAt w' _ A) (b : ArrAt w' _ B) => AP (fun _ => True) p (.agg #[.int .i64 k1, .slice s1 ls1 sc1, .slice n1 ln1 nc1, .slice i1 li1 ic1]) (.agg #[.int .i64 k2, .slice s2 ls2 sc2, .slice n2 ln2 nc2, .slice i2 li2 ic2]) A B w' (fun _ _ => trivial) (at_onT a) (at_onT b) rA rB
  have M := fun w' (a : ArrAt w' _ A) (b : ArrAt w' _ B) => apply16R p (.agg #[.int .i64 k1, .slice s1 ls1 sc1, .slice n1 ln1 nc1, .slice i1 li1 ic1]) (.agg #[.int .i64 k2, .slice s2 ls2 sc2, .slice n2 ln2 nc2, .slice i2 li2 ic2]) A B w' a b
  generalize applyA p A B = R at D M
  obtain ⟨C, er⟩ := R
  simp only at D M
  have S1 := fun w' (a : ArrAt w' _ A) => smallL16 (.agg #[.int .i64 k1, .slice s1 ls1 sc1, .slice n1 ln1 nc1, .slice i1 li1 ic1]) A w' a
  have S2 := fun w' (b : ArrAt w' _ B) => smallL16 (.agg #[.int .i64 k2, .slice s2 ls2 sc2, .slice n2 ln2 nc2, .slice i2 li2 ic2]) B w' b
  clear AP hA hB
  unfold LivesOK at LV
  go_enter Try.func4, Try.ntmps4
  go_wp2_with (first
      | (go_at_call 13; (with_reducible refine Calls.mono (S1 _ hA2) ?_); intro e w3 hh; (obtain ⟨t1, rfl, hb3⟩ := hh); (have c0 := (qx.below hb3).cells); (have c1 := (qy.below hb3).cells); (obtain ⟨x30, x31, x32, x33, -⟩ := c0); (obtain ⟨y30, y31, y32, y33, -⟩ := c1))
      | (go_at_call 13; (with_reducible refine Calls.mono (S2 _ (hB2.below hb3)) ?_); intro e w4 hh; (obtain ⟨t2, rfl, hb4⟩ := hh); (have hb34 := Below.then hb3 hb4); (have c0 := (qx.below hb34).cells); (have c1 := (qy.below hb34).cells); (obtain ⟨x40, x41, x42, x43, -⟩ := c0); (obtain ⟨y40, y41, y42, y43, -⟩ := c1))
      | (go_at_call 14; (with_reducible refine Calls.mono (D _ (hA2.below hb34) (hB2.below hb34)) ?_); intro e w5 hh; (obtain ⟨k5, sa5, ls5, sc5, na5, ln5, nc5, ia5, li5, ic5, rfl, a5, hb5⟩ := hh); (have hb35 := Below.then (Below.then hb34 hb5) (below_new w5 (.cells #[.int .i64 k5, .slice sa5 ls5 sc5, .slice na5 ln5 nc5, .slice ia5 li5 ic5] 33))); (have qp := Quad.new w5 (.int .i64 k5) (.slice sa5 ls5 sc5) (.slice na5 ln5 nc5) (.slice ia5 li5 ic5)); (have ap := a5.at.below (below_new w5 (.cells #[.int .i64 k5, .slice sa5 ls5 sc5, .slice na5 ln5 nc5, .slice ia5 li5 ic5] 33))); (have c0 := (qx.below hb35).cells); (have c1 := (qy.below hb35).cells); (obtain ⟨x50, x51, x52, x53, -⟩ := c0); (obtain ⟨y50, y51, y52, y53, -⟩ := c1))
      | (go_at_call 15; (with_reducible refine Calls.mono (M _ (hA2.below hb35) (hB2.below hb35)) ?_); intro e w6 hh; (obtain ⟨k6, sa6, ls6, sc6, na6, ln6, nc6, ia6, li6, ic6, rfl, a6, hb6⟩ := hh.gives (P := fun _ => True) (fun _ _ => trivial)); (have qp6 := qp.below hb6); (have hb7 := below_new w6 (.cells #[.int .i64 k6, .slice sa6 ls6 sc6, .slice na6 ln6 nc6, .slice ia6 li6 ic6] 33)); (have qq := Quad.new w6 (.int .i64 k6) (.slice sa6 ls6 sc6) (.slice na6 ln6 nc6) (.slice ia6 li6 ic6)); (have qp7 := qp6.below hb7); (have ap7 := (ap.below hb6).below hb7); (have aq7 := a6.at.below hb7); (obtain ⟨p0, p1, p2, p3, -⟩ := qp7.cells); (obtain ⟨q0, q1, q2, q3, -⟩ := qq.cells))
      | (go_at_call 16; (with_reducible refine Calls.mono (sameRX ap7 aq7) ?_); rintro e w8 ⟨rfl, hb8⟩)
      | (go_at_call 12; (with_reducible refine Calls.mono (LV _) ?_); rintro e w9 ⟨rfl, hb9⟩))
  all_goals go_ret
  all_goals first
    | exact ⟨rfl, Below.then (Below.then b2 hb3) hb9⟩
    | exact ⟨rfl, Below.then (Below.then b2 hb34) hb9⟩
    | exact ⟨rfl, Below.then (Below.then (Below.then (Below.then (Below.then b2 hb35) hb6) hb7) hb8) hb9⟩
end Go.Proofs.Ytekbdiniibmhgaa.Shape
