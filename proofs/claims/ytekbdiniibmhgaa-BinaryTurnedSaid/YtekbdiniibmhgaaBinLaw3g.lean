/-
  Layer 16: the walk of the law BinaryTurned (written by wip/gen/binary-turned.py), over the contracts.
-/
import Derived.Test.YtekbdiniibmhgaaBinLaw2g
namespace Go.Proofs.Ytekbdiniibmhgaa.Shape
open Go.RowKit
set_option linter.unusedVariables false
set_option linter.unusedSimpArgs false

set_option maxRecDepth 100000 in
set_option maxHeartbeats 4000000 in
theorem turnedN (AP : ApplyOK) (IS : IsOK) (LV : LivesOK) (p : Int) (hp : binB p = false) (v v2 : Value) (A B : Arr) (w : World) (h : ArrAt w v A) (g : ArrAt w v2 B) (rA : Reach A) (rB : Reach B) : Calls Try.prog 5 #[.int .i64 p, v, v2] w fun e w' => e = .returned (.bool true) ∧ Below w.heap.size w w' := by
  have hA := h
  have hB := g
  obtain ⟨k1, s1, ls1, sc1, n1, ln1, nc1, i1, li1, ic1, rfl⟩ : ∃ k sa ls sc na ln nc ia li ic, v = .agg #[.int .i64 k, .slice sa ls sc, .slice na ln nc, .slice ia li ic] := by
    obtain ⟨k, sh, nu, it⟩ := A
    rw [ArrAt] at h
    obtain ⟨sa, sc, na, nc, ia, ic, rfl, -⟩ := h
    exact ⟨_, _, _, _, _, _, _, _, _, _, rfl⟩
  obtain ⟨k2, s2, ls2, sc2, n2, ln2, nc2, i2, li2, ic2, rfl⟩ : ∃ k sa ls sc na ln nc ia li ic, v2 = .agg #[.int .i64 k, .slice sa ls sc, .slice na ln nc, .slice ia li ic] := by
    obtain ⟨k, sh, nu, it⟩ := B
    rw [ArrAt] at g
    obtain ⟨sa, sc, na, nc, ia, ic, rfl, -⟩ := g
    exact ⟨_, _, _, _, _, _, _, _, _, _, rfl⟩
  clear h g
  have b2 := below_two w (.cells #[.int .i64 k1, .slice s1 ls1 sc1, .slice n1 ln1 nc1, .slice i1 li1 ic1] 33) (.cells #[.int .i64 k2, .slice s2 ls2 sc2, .slice n2 ln2 nc2, .slice i2 li2 ic2] 33)
  have hA2 := hA.below b2
  have hB2 := hB.below b2
  have qx : Quad ((w.alloc (.cells #[.int .i64 k1, .slice s1 ls1 sc1, .slice n1 ln1 nc1, .slice i1 li1 ic1] 33)).alloc (.cells #[.int .i64 k2, .slice s2 ls2 sc2, .slice n2 ln2 nc2, .slice i2 li2 ic2] 33)) w.heap.size (.int .i64 k1) (.slice s1 ls1 sc1) (.slice n1 ln1 nc1) (.slice i1 li1 ic1) := (Quad.new w _ _ _ _).below (below_new _ _)
  have qy : Quad ((w.alloc (.cells #[.int .i64 k1, .slice s1 ls1 sc1, .slice n1 ln1 nc1, .slice i1 li1 ic1] 33)).alloc (.cells #[.int .i64 k2, .slice s2 ls2 sc2, .slice n2 ln2 nc2, .slice i2 li2 ic2] 33)) (w.heap.size + 1) (.int .i64 k2) (.slice s2 ls2 sc2) (.slice n2 ln2 nc2) (.slice i2 li2 ic2) := by
    simpa using Quad.new (w.alloc (.cells #[.int .i64 k1, .slice s1 ls1 sc1, .slice n1 ln1 nc1, .slice i1 li1 ic1] 33)) (.int .i64 k2) (.slice s2 ls2 sc2) (.slice n2 ln2 nc2) (.slice i2 li2 ic2)
  obtain ⟨x0, x1, x2, x3, -⟩ := qx.cells
  obtain ⟨y0, y1, y2, y3, -⟩ := qy.cells
  have I1 := fun w => IS p w
  rw [hp] at I1
  have S1 := fun w' (a : ArrAt w' _ A) => smallL16 (.agg #[.int .i64 k1, .slice s1 ls1 sc1, .slice n1 ln1 nc1, .slice i1 li1 ic1]) A w' a
  have S2 := fun w' (b : ArrAt w' _ B) => smallL16 (.agg #[.int .i64 k2, .slice s2 ls2 sc2, .slice n2 ln2 nc2, .slice i2 li2 ic2]) B w' b
  clear AP IS hA hB
  unfold LivesOK at LV
  go_enter Try.func5, Try.ntmps5
  go_wp2_with (first
      | (go_at_call 13; (with_reducible refine Calls.mono (S1 _ hA2) ?_); intro e w3 hh; (obtain ⟨t1, rfl, hb3⟩ := hh); (have c0 := (qx.below hb3).cells); (have c1 := (qy.below hb3).cells); (obtain ⟨x30, x31, x32, x33, -⟩ := c0); (obtain ⟨y30, y31, y32, y33, -⟩ := c1))
      | (go_at_call 13; (with_reducible refine Calls.mono (S2 _ (hB2.below hb3)) ?_); intro e w4 hh; (obtain ⟨t2, rfl, hb4⟩ := hh); (have hb4' := Below.then hb3 hb4); (have c0 := (qx.below hb4').cells); (have c1 := (qy.below hb4').cells); (obtain ⟨x40, x41, x42, x43, -⟩ := c0); (obtain ⟨y40, y41, y42, y43, -⟩ := c1))
      | (go_at_call 10; (with_reducible refine Calls.mono (I1 _) ?_); rintro e w10 ⟨rfl, hb10⟩; (have hb34 := Below.then (Below.then hb3 hb4) hb10); (have c0 := (qx.below hb34).cells); (have c1 := (qy.below hb34).cells); (obtain ⟨x90, x91, x92, x93, -⟩ := c0); (obtain ⟨y90, y91, y92, y93, -⟩ := c1))
      | (go_at_call 12; (with_reducible refine Calls.mono (LV _) ?_); rintro e w9 ⟨rfl, hb9⟩))
  all_goals go_ret
  all_goals first
    | exact ⟨rfl, Below.then (Below.then b2 hb3) hb9⟩
    | exact ⟨rfl, Below.then (Below.then (Below.then b2 hb3) hb4) hb9⟩
    | exact ⟨rfl, Below.then (Below.then b2 hb34) hb9⟩
    | exact ⟨rfl, Below.then (Below.then (Below.then (Below.then (Below.then b2 hb35) hb6) hb7) hb8) hb9⟩

set_option maxRecDepth 100000 in
set_option maxHeartbeats 4000000 in
theorem turned1 (AP : ApplyOK) (IS : IsOK) (LV : LivesOK) (v v2 : Value) (A B : Arr) (w : World) (h : ArrAt w v A) (g : ArrAt w v2 B) (rA : Reach A) (rB : Reach B) : Calls Try.prog 5 #[.int .i64 1, v, v2] w fun e w' => e = .returned (.bool true) ∧ Below w.heap.size w w' := by
  have hA := h
  have hB := g
  obtain ⟨k1, s1, ls1, sc1, n1, ln1, nc1, i1, li1, ic1, rfl⟩ : ∃ k sa ls sc na ln nc ia li ic, v = .agg #[.int .i64 k, .slice sa ls sc, .slice na ln nc, .slice ia li ic] := by
    obtain ⟨k, sh, nu, it⟩ := A
    rw [ArrAt] at h
    obtain ⟨sa, sc, na, nc, ia, ic, rfl, -⟩ := h
    exact ⟨_, _, _, _, _, _, _, _, _, _, rfl⟩
  obtain ⟨k2, s2, ls2, sc2, n2, ln2, nc2, i2, li2, ic2, rfl⟩ : ∃ k sa ls sc na ln nc ia li ic, v2 = .agg #[.int .i64 k, .slice sa ls sc, .slice na ln nc, .slice ia li ic] := by
    obtain ⟨k, sh, nu, it⟩ := B
    rw [ArrAt] at g
    obtain ⟨sa, sc, na, nc, ia, ic, rfl, -⟩ := g
    exact ⟨_, _, _, _, _, _, _, _, _, _, rfl⟩
  clear h g
  have b2 := below_two w (.cells #[.int .i64 k1, .slice s1 ls1 sc1, .slice n1 ln1 nc1, .slice i1 li1 ic1] 33) (.cells #[.int .i64 k2, .slice s2 ls2 sc2, .slice n2 ln2 nc2, .slice i2 li2 ic2] 33)
  have hA2 := hA.below b2
  have hB2 := hB.below b2
  have qx : Quad ((w.alloc (.cells #[.int .i64 k1, .slice s1 ls1 sc1, .slice n1 ln1 nc1, .slice i1 li1 ic1] 33)).alloc (.cells #[.int .i64 k2, .slice s2 ls2 sc2, .slice n2 ln2 nc2, .slice i2 li2 ic2] 33)) w.heap.size (.int .i64 k1) (.slice s1 ls1 sc1) (.slice n1 ln1 nc1) (.slice i1 li1 ic1) := (Quad.new w _ _ _ _).below (below_new _ _)
  have qy : Quad ((w.alloc (.cells #[.int .i64 k1, .slice s1 ls1 sc1, .slice n1 ln1 nc1, .slice i1 li1 ic1] 33)).alloc (.cells #[.int .i64 k2, .slice s2 ls2 sc2, .slice n2 ln2 nc2, .slice i2 li2 ic2] 33)) (w.heap.size + 1) (.int .i64 k2) (.slice s2 ls2 sc2) (.slice n2 ln2 nc2) (.slice i2 li2 ic2) := by
    simpa using Quad.new (w.alloc (.cells #[.int .i64 k1, .slice s1 ls1 sc1, .slice n1 ln1 nc1, .slice i1 li1 ic1] 33)) (.int .i64 k2) (.slice s2 ls2 sc2) (.slice n2 ln2 nc2) (.slice i2 li2 ic2)
  obtain ⟨x0, x1, x2, x3, -⟩ := qx.cells
  obtain ⟨y0, y1, y2, y3, -⟩ := qy.cells
  have I1 := fun w => IS 1 w
  rw [show binB 1 = true from rfl] at I1
  have D := fun w' (a : ArrAt w' _ A) (b : ArrAt w' _ B) => AP (fun _ => True) 1 (.agg #[.int .i64 k1, .slice s1 ls1 sc1, .slice n1 ln1 nc1, .slice i1 li1 ic1]) (.agg #[.int .i64 k2, .slice s2 ls2 sc2, .slice n2 ln2 nc2, .slice i2 li2 ic2]) A B w' (fun _ _ => trivial) (at_onT a) (at_onT b) rA rB
  have M := fun w' (a : ArrAt w' _ A) (b : ArrAt w' _ B) => AP (fun _ => True) 1 (.agg #[.int .i64 k2, .slice s2 ls2 sc2, .slice n2 ln2 nc2, .slice i2 li2 ic2]) (.agg #[.int .i64 k1, .slice s1 ls1 sc1, .slice n1 ln1 nc1, .slice i1 li1 ic1]) B A w' (fun _ _ => trivial) (at_onT b) (at_onT a) rB rA
  rw [show applyA 1 B A = applyA 1 A B from (apply_turn (p := 1) rfl (by decide) A B).symm] at M
  generalize applyA 1 A B = R at D M
  obtain ⟨C, er⟩ := R
  simp only at D M
  have S1 := fun w' (a : ArrAt w' _ A) => smallL16 (.agg #[.int .i64 k1, .slice s1 ls1 sc1, .slice n1 ln1 nc1, .slice i1 li1 ic1]) A w' a
  have S2 := fun w' (b : ArrAt w' _ B) => smallL16 (.agg #[.int .i64 k2, .slice s2 ls2 sc2, .slice n2 ln2 nc2, .slice i2 li2 ic2]) B w' b
  clear AP IS hA hB
  unfold LivesOK at LV
  go_enter Try.func5, Try.ntmps5
  go_wp2_with (first
      | (go_at_call 13; (with_reducible refine Calls.mono (S1 _ hA2) ?_); intro e w3 hh; (obtain ⟨t1, rfl, hb3⟩ := hh); (have c0 := (qx.below hb3).cells); (have c1 := (qy.below hb3).cells); (obtain ⟨x30, x31, x32, x33, -⟩ := c0); (obtain ⟨y30, y31, y32, y33, -⟩ := c1))
      | (go_at_call 13; (with_reducible refine Calls.mono (S2 _ (hB2.below hb3)) ?_); intro e w4 hh; (obtain ⟨t2, rfl, hb4⟩ := hh); (have hb4' := Below.then hb3 hb4); (have c0 := (qx.below hb4').cells); (have c1 := (qy.below hb4').cells); (obtain ⟨x40, x41, x42, x43, -⟩ := c0); (obtain ⟨y40, y41, y42, y43, -⟩ := c1))
      | (go_at_call 10; (with_reducible refine Calls.mono (I1 _) ?_); rintro e w10 ⟨rfl, hb10⟩; (have hb34 := Below.then (Below.then hb3 hb4) hb10); (have c0 := (qx.below hb34).cells); (have c1 := (qy.below hb34).cells); (obtain ⟨x90, x91, x92, x93, -⟩ := c0); (obtain ⟨y90, y91, y92, y93, -⟩ := c1))
      | (go_at_call 14; (with_reducible refine Calls.mono (D _ (hA2.below hb34) (hB2.below hb34)) ?_); intro e w5 hh; (obtain ⟨k5, sa5, ls5, sc5, na5, ln5, nc5, ia5, li5, ic5, rfl, a5, hb5⟩ := hh); (have hb35 := Below.then (Below.then hb34 hb5) (below_new w5 (.cells #[.int .i64 k5, .slice sa5 ls5 sc5, .slice na5 ln5 nc5, .slice ia5 li5 ic5] 33))); (have qp := Quad.new w5 (.int .i64 k5) (.slice sa5 ls5 sc5) (.slice na5 ln5 nc5) (.slice ia5 li5 ic5)); (have ap := a5.at.below (below_new w5 (.cells #[.int .i64 k5, .slice sa5 ls5 sc5, .slice na5 ln5 nc5, .slice ia5 li5 ic5] 33))); (have c0 := (qx.below hb35).cells); (have c1 := (qy.below hb35).cells); (obtain ⟨x50, x51, x52, x53, -⟩ := c0); (obtain ⟨y50, y51, y52, y53, -⟩ := c1))
      | (go_at_call 14; (with_reducible refine Calls.mono (M _ (hA2.below hb35) (hB2.below hb35)) ?_); intro e w6 hh; (obtain ⟨k6, sa6, ls6, sc6, na6, ln6, nc6, ia6, li6, ic6, rfl, a6, hb6⟩ := hh); (have qp6 := qp.below hb6); (have hb7 := below_new w6 (.cells #[.int .i64 k6, .slice sa6 ls6 sc6, .slice na6 ln6 nc6, .slice ia6 li6 ic6] 33)); (have qq := Quad.new w6 (.int .i64 k6) (.slice sa6 ls6 sc6) (.slice na6 ln6 nc6) (.slice ia6 li6 ic6)); (have qp7 := qp6.below hb7); (have ap7 := (ap.below hb6).below hb7); (have aq7 := a6.at.below hb7); (obtain ⟨p0, p1, p2, p3, -⟩ := qp7.cells); (obtain ⟨q0, q1, q2, q3, -⟩ := qq.cells))
      | (go_at_call 16; (with_reducible refine Calls.mono (sameRX ap7 aq7) ?_); rintro e w8 ⟨rfl, hb8⟩)
      | (go_at_call 12; (with_reducible refine Calls.mono (LV _) ?_); rintro e w9 ⟨rfl, hb9⟩))
  all_goals go_ret
  all_goals first
    | exact ⟨rfl, Below.then (Below.then b2 hb3) hb9⟩
    | exact ⟨rfl, Below.then (Below.then (Below.then b2 hb3) hb4) hb9⟩
    | exact ⟨rfl, Below.then (Below.then b2 hb34) hb9⟩
    | exact ⟨rfl, Below.then (Below.then (Below.then (Below.then (Below.then b2 hb35) hb6) hb7) hb8) hb9⟩

set_option maxRecDepth 100000 in
set_option maxHeartbeats 4000000 in
theorem turned2 (AP : ApplyOK) (IS : IsOK) (LV : LivesOK) (v v2 : Value) (A B : Arr) (w : World) (h : ArrAt w v A) (g : ArrAt w v2 B) (rA : Reach A) (rB : Reach B) : Calls Try.prog 5 #[.int .i64 2, v, v2] w fun e w' => e = .returned (.bool true) ∧ Below w.heap.size w w' := by
  have hA := h
  have hB := g
  obtain ⟨k1, s1, ls1, sc1, n1, ln1, nc1, i1, li1, ic1, rfl⟩ : ∃ k sa ls sc na ln nc ia li ic, v = .agg #[.int .i64 k, .slice sa ls sc, .slice na ln nc, .slice ia li ic] := by
    obtain ⟨k, sh, nu, it⟩ := A
    rw [ArrAt] at h
    obtain ⟨sa, sc, na, nc, ia, ic, rfl, -⟩ := h
    exact ⟨_, _, _, _, _, _, _, _, _, _, rfl⟩
  obtain ⟨k2, s2, ls2, sc2, n2, ln2, nc2, i2, li2, ic2, rfl⟩ : ∃ k sa ls sc na ln nc ia li ic, v2 = .agg #[.int .i64 k, .slice sa ls sc, .slice na ln nc, .slice ia li ic] := by
    obtain ⟨k, sh, nu, it⟩ := B
    rw [ArrAt] at g
    obtain ⟨sa, sc, na, nc, ia, ic, rfl, -⟩ := g
    exact ⟨_, _, _, _, _, _, _, _, _, _, rfl⟩
  clear h g
  have b2 := below_two w (.cells #[.int .i64 k1, .slice s1 ls1 sc1, .slice n1 ln1 nc1, .slice i1 li1 ic1] 33) (.cells #[.int .i64 k2, .slice s2 ls2 sc2, .slice n2 ln2 nc2, .slice i2 li2 ic2] 33)
  have hA2 := hA.below b2
  have hB2 := hB.below b2
  have qx : Quad ((w.alloc (.cells #[.int .i64 k1, .slice s1 ls1 sc1, .slice n1 ln1 nc1, .slice i1 li1 ic1] 33)).alloc (.cells #[.int .i64 k2, .slice s2 ls2 sc2, .slice n2 ln2 nc2, .slice i2 li2 ic2] 33)) w.heap.size (.int .i64 k1) (.slice s1 ls1 sc1) (.slice n1 ln1 nc1) (.slice i1 li1 ic1) := (Quad.new w _ _ _ _).below (below_new _ _)
  have qy : Quad ((w.alloc (.cells #[.int .i64 k1, .slice s1 ls1 sc1, .slice n1 ln1 nc1, .slice i1 li1 ic1] 33)).alloc (.cells #[.int .i64 k2, .slice s2 ls2 sc2, .slice n2 ln2 nc2, .slice i2 li2 ic2] 33)) (w.heap.size + 1) (.int .i64 k2) (.slice s2 ls2 sc2) (.slice n2 ln2 nc2) (.slice i2 li2 ic2) := by
    simpa using Quad.new (w.alloc (.cells #[.int .i64 k1, .slice s1 ls1 sc1, .slice n1 ln1 nc1, .slice i1 li1 ic1] 33)) (.int .i64 k2) (.slice s2 ls2 sc2) (.slice n2 ln2 nc2) (.slice i2 li2 ic2)
  obtain ⟨x0, x1, x2, x3, -⟩ := qx.cells
  obtain ⟨y0, y1, y2, y3, -⟩ := qy.cells
  have I1 := fun w => IS 2 w
  rw [show binB 2 = true from rfl] at I1
  have S1 := fun w' (a : ArrAt w' _ A) => smallL16 (.agg #[.int .i64 k1, .slice s1 ls1 sc1, .slice n1 ln1 nc1, .slice i1 li1 ic1]) A w' a
  have S2 := fun w' (b : ArrAt w' _ B) => smallL16 (.agg #[.int .i64 k2, .slice s2 ls2 sc2, .slice n2 ln2 nc2, .slice i2 li2 ic2]) B w' b
  clear AP IS hA hB
  unfold LivesOK at LV
  go_enter Try.func5, Try.ntmps5
  go_wp2_with (first
      | (go_at_call 13; (with_reducible refine Calls.mono (S1 _ hA2) ?_); intro e w3 hh; (obtain ⟨t1, rfl, hb3⟩ := hh); (have c0 := (qx.below hb3).cells); (have c1 := (qy.below hb3).cells); (obtain ⟨x30, x31, x32, x33, -⟩ := c0); (obtain ⟨y30, y31, y32, y33, -⟩ := c1))
      | (go_at_call 13; (with_reducible refine Calls.mono (S2 _ (hB2.below hb3)) ?_); intro e w4 hh; (obtain ⟨t2, rfl, hb4⟩ := hh); (have hb4' := Below.then hb3 hb4); (have c0 := (qx.below hb4').cells); (have c1 := (qy.below hb4').cells); (obtain ⟨x40, x41, x42, x43, -⟩ := c0); (obtain ⟨y40, y41, y42, y43, -⟩ := c1))
      | (go_at_call 10; (with_reducible refine Calls.mono (I1 _) ?_); rintro e w10 ⟨rfl, hb10⟩; (have hb34 := Below.then (Below.then hb3 hb4) hb10); (have c0 := (qx.below hb34).cells); (have c1 := (qy.below hb34).cells); (obtain ⟨x90, x91, x92, x93, -⟩ := c0); (obtain ⟨y90, y91, y92, y93, -⟩ := c1))
      | (go_at_call 12; (with_reducible refine Calls.mono (LV _) ?_); rintro e w9 ⟨rfl, hb9⟩))
  all_goals go_ret
  all_goals first
    | exact ⟨rfl, Below.then (Below.then b2 hb3) hb9⟩
    | exact ⟨rfl, Below.then (Below.then (Below.then b2 hb3) hb4) hb9⟩
    | exact ⟨rfl, Below.then (Below.then b2 hb34) hb9⟩
    | exact ⟨rfl, Below.then (Below.then (Below.then (Below.then (Below.then b2 hb35) hb6) hb7) hb8) hb9⟩

set_option maxRecDepth 100000 in
set_option maxHeartbeats 4000000 in
theorem turned3 (AP : ApplyOK) (IS : IsOK) (LV : LivesOK) (v v2 : Value) (A B : Arr) (w : World) (h : ArrAt w v A) (g : ArrAt w v2 B) (rA : Reach A) (rB : Reach B) : Calls Try.prog 5 #[.int .i64 3, v, v2] w fun e w' => e = .returned (.bool true) ∧ Below w.heap.size w w' := by
  have hA := h
  have hB := g
  obtain ⟨k1, s1, ls1, sc1, n1, ln1, nc1, i1, li1, ic1, rfl⟩ : ∃ k sa ls sc na ln nc ia li ic, v = .agg #[.int .i64 k, .slice sa ls sc, .slice na ln nc, .slice ia li ic] := by
    obtain ⟨k, sh, nu, it⟩ := A
    rw [ArrAt] at h
    obtain ⟨sa, sc, na, nc, ia, ic, rfl, -⟩ := h
    exact ⟨_, _, _, _, _, _, _, _, _, _, rfl⟩
  obtain ⟨k2, s2, ls2, sc2, n2, ln2, nc2, i2, li2, ic2, rfl⟩ : ∃ k sa ls sc na ln nc ia li ic, v2 = .agg #[.int .i64 k, .slice sa ls sc, .slice na ln nc, .slice ia li ic] := by
    obtain ⟨k, sh, nu, it⟩ := B
    rw [ArrAt] at g
    obtain ⟨sa, sc, na, nc, ia, ic, rfl, -⟩ := g
    exact ⟨_, _, _, _, _, _, _, _, _, _, rfl⟩
  clear h g
  have b2 := below_two w (.cells #[.int .i64 k1, .slice s1 ls1 sc1, .slice n1 ln1 nc1, .slice i1 li1 ic1] 33) (.cells #[.int .i64 k2, .slice s2 ls2 sc2, .slice n2 ln2 nc2, .slice i2 li2 ic2] 33)
  have hA2 := hA.below b2
  have hB2 := hB.below b2
  have qx : Quad ((w.alloc (.cells #[.int .i64 k1, .slice s1 ls1 sc1, .slice n1 ln1 nc1, .slice i1 li1 ic1] 33)).alloc (.cells #[.int .i64 k2, .slice s2 ls2 sc2, .slice n2 ln2 nc2, .slice i2 li2 ic2] 33)) w.heap.size (.int .i64 k1) (.slice s1 ls1 sc1) (.slice n1 ln1 nc1) (.slice i1 li1 ic1) := (Quad.new w _ _ _ _).below (below_new _ _)
  have qy : Quad ((w.alloc (.cells #[.int .i64 k1, .slice s1 ls1 sc1, .slice n1 ln1 nc1, .slice i1 li1 ic1] 33)).alloc (.cells #[.int .i64 k2, .slice s2 ls2 sc2, .slice n2 ln2 nc2, .slice i2 li2 ic2] 33)) (w.heap.size + 1) (.int .i64 k2) (.slice s2 ls2 sc2) (.slice n2 ln2 nc2) (.slice i2 li2 ic2) := by
    simpa using Quad.new (w.alloc (.cells #[.int .i64 k1, .slice s1 ls1 sc1, .slice n1 ln1 nc1, .slice i1 li1 ic1] 33)) (.int .i64 k2) (.slice s2 ls2 sc2) (.slice n2 ln2 nc2) (.slice i2 li2 ic2)
  obtain ⟨x0, x1, x2, x3, -⟩ := qx.cells
  obtain ⟨y0, y1, y2, y3, -⟩ := qy.cells
  have I1 := fun w => IS 3 w
  rw [show binB 3 = true from rfl] at I1
  have D := fun w' (a : ArrAt w' _ A) (b : ArrAt w' _ B) => AP (fun _ => True) 3 (.agg #[.int .i64 k1, .slice s1 ls1 sc1, .slice n1 ln1 nc1, .slice i1 li1 ic1]) (.agg #[.int .i64 k2, .slice s2 ls2 sc2, .slice n2 ln2 nc2, .slice i2 li2 ic2]) A B w' (fun _ _ => trivial) (at_onT a) (at_onT b) rA rB
  have M := fun w' (a : ArrAt w' _ A) (b : ArrAt w' _ B) => AP (fun _ => True) 3 (.agg #[.int .i64 k2, .slice s2 ls2 sc2, .slice n2 ln2 nc2, .slice i2 li2 ic2]) (.agg #[.int .i64 k1, .slice s1 ls1 sc1, .slice n1 ln1 nc1, .slice i1 li1 ic1]) B A w' (fun _ _ => trivial) (at_onT b) (at_onT a) rB rA
  rw [show applyA 3 B A = applyA 3 A B from (apply_turn (p := 3) rfl (by decide) A B).symm] at M
  generalize applyA 3 A B = R at D M
  obtain ⟨C, er⟩ := R
  simp only at D M
  have S1 := fun w' (a : ArrAt w' _ A) => smallL16 (.agg #[.int .i64 k1, .slice s1 ls1 sc1, .slice n1 ln1 nc1, .slice i1 li1 ic1]) A w' a
  have S2 := fun w' (b : ArrAt w' _ B) => smallL16 (.agg #[.int .i64 k2, .slice s2 ls2 sc2, .slice n2 ln2 nc2, .slice i2 li2 ic2]) B w' b
  clear AP IS hA hB
  unfold LivesOK at LV
  go_enter Try.func5, Try.ntmps5
  go_wp2_with (first
      | (go_at_call 13; (with_reducible refine Calls.mono (S1 _ hA2) ?_); intro e w3 hh; (obtain ⟨t1, rfl, hb3⟩ := hh); (have c0 := (qx.below hb3).cells); (have c1 := (qy.below hb3).cells); (obtain ⟨x30, x31, x32, x33, -⟩ := c0); (obtain ⟨y30, y31, y32, y33, -⟩ := c1))
      | (go_at_call 13; (with_reducible refine Calls.mono (S2 _ (hB2.below hb3)) ?_); intro e w4 hh; (obtain ⟨t2, rfl, hb4⟩ := hh); (have hb4' := Below.then hb3 hb4); (have c0 := (qx.below hb4').cells); (have c1 := (qy.below hb4').cells); (obtain ⟨x40, x41, x42, x43, -⟩ := c0); (obtain ⟨y40, y41, y42, y43, -⟩ := c1))
      | (go_at_call 10; (with_reducible refine Calls.mono (I1 _) ?_); rintro e w10 ⟨rfl, hb10⟩; (have hb34 := Below.then (Below.then hb3 hb4) hb10); (have c0 := (qx.below hb34).cells); (have c1 := (qy.below hb34).cells); (obtain ⟨x90, x91, x92, x93, -⟩ := c0); (obtain ⟨y90, y91, y92, y93, -⟩ := c1))
      | (go_at_call 14; (with_reducible refine Calls.mono (D _ (hA2.below hb34) (hB2.below hb34)) ?_); intro e w5 hh; (obtain ⟨k5, sa5, ls5, sc5, na5, ln5, nc5, ia5, li5, ic5, rfl, a5, hb5⟩ := hh); (have hb35 := Below.then (Below.then hb34 hb5) (below_new w5 (.cells #[.int .i64 k5, .slice sa5 ls5 sc5, .slice na5 ln5 nc5, .slice ia5 li5 ic5] 33))); (have qp := Quad.new w5 (.int .i64 k5) (.slice sa5 ls5 sc5) (.slice na5 ln5 nc5) (.slice ia5 li5 ic5)); (have ap := a5.at.below (below_new w5 (.cells #[.int .i64 k5, .slice sa5 ls5 sc5, .slice na5 ln5 nc5, .slice ia5 li5 ic5] 33))); (have c0 := (qx.below hb35).cells); (have c1 := (qy.below hb35).cells); (obtain ⟨x50, x51, x52, x53, -⟩ := c0); (obtain ⟨y50, y51, y52, y53, -⟩ := c1))
      | (go_at_call 14; (with_reducible refine Calls.mono (M _ (hA2.below hb35) (hB2.below hb35)) ?_); intro e w6 hh; (obtain ⟨k6, sa6, ls6, sc6, na6, ln6, nc6, ia6, li6, ic6, rfl, a6, hb6⟩ := hh); (have qp6 := qp.below hb6); (have hb7 := below_new w6 (.cells #[.int .i64 k6, .slice sa6 ls6 sc6, .slice na6 ln6 nc6, .slice ia6 li6 ic6] 33)); (have qq := Quad.new w6 (.int .i64 k6) (.slice sa6 ls6 sc6) (.slice na6 ln6 nc6) (.slice ia6 li6 ic6)); (have qp7 := qp6.below hb7); (have ap7 := (ap.below hb6).below hb7); (have aq7 := a6.at.below hb7); (obtain ⟨p0, p1, p2, p3, -⟩ := qp7.cells); (obtain ⟨q0, q1, q2, q3, -⟩ := qq.cells))
      | (go_at_call 16; (with_reducible refine Calls.mono (sameRX ap7 aq7) ?_); rintro e w8 ⟨rfl, hb8⟩)
      | (go_at_call 12; (with_reducible refine Calls.mono (LV _) ?_); rintro e w9 ⟨rfl, hb9⟩))
  all_goals go_ret
  all_goals first
    | exact ⟨rfl, Below.then (Below.then b2 hb3) hb9⟩
    | exact ⟨rfl, Below.then (Below.then (Below.then b2 hb3) hb4) hb9⟩
    | exact ⟨rfl, Below.then (Below.then b2 hb34) hb9⟩
    | exact ⟨rfl, Below.then (Below.then (Below.then (Below.then (Below.then b2 hb35) hb6) hb7) hb8) hb9⟩

set_option maxRecDepth 100000 in
set_option maxHeartbeats 4000000 in
theorem turned4 (AP : ApplyOK) (IS : IsOK) (LV : LivesOK) (v v2 : Value) (A B : Arr) (w : World) (h : ArrAt w v A) (g : ArrAt w v2 B) (rA : Reach A) (rB : Reach B) : Calls Try.prog 5 #[.int .i64 4, v, v2] w fun e w' => e = .returned (.bool true) ∧ Below w.heap.size w w' := by
  have hA := h
  have hB := g
  obtain ⟨k1, s1, ls1, sc1, n1, ln1, nc1, i1, li1, ic1, rfl⟩ : ∃ k sa ls sc na ln nc ia li ic, v = .agg #[.int .i64 k, .slice sa ls sc, .slice na ln nc, .slice ia li ic] := by
    obtain ⟨k, sh, nu, it⟩ := A
    rw [ArrAt] at h
    obtain ⟨sa, sc, na, nc, ia, ic, rfl, -⟩ := h
    exact ⟨_, _, _, _, _, _, _, _, _, _, rfl⟩
  obtain ⟨k2, s2, ls2, sc2, n2, ln2, nc2, i2, li2, ic2, rfl⟩ : ∃ k sa ls sc na ln nc ia li ic, v2 = .agg #[.int .i64 k, .slice sa ls sc, .slice na ln nc, .slice ia li ic] := by
    obtain ⟨k, sh, nu, it⟩ := B
    rw [ArrAt] at g
    obtain ⟨sa, sc, na, nc, ia, ic, rfl, -⟩ := g
    exact ⟨_, _, _, _, _, _, _, _, _, _, rfl⟩
  clear h g
  have b2 := below_two w (.cells #[.int .i64 k1, .slice s1 ls1 sc1, .slice n1 ln1 nc1, .slice i1 li1 ic1] 33) (.cells #[.int .i64 k2, .slice s2 ls2 sc2, .slice n2 ln2 nc2, .slice i2 li2 ic2] 33)
  have hA2 := hA.below b2
  have hB2 := hB.below b2
  have qx : Quad ((w.alloc (.cells #[.int .i64 k1, .slice s1 ls1 sc1, .slice n1 ln1 nc1, .slice i1 li1 ic1] 33)).alloc (.cells #[.int .i64 k2, .slice s2 ls2 sc2, .slice n2 ln2 nc2, .slice i2 li2 ic2] 33)) w.heap.size (.int .i64 k1) (.slice s1 ls1 sc1) (.slice n1 ln1 nc1) (.slice i1 li1 ic1) := (Quad.new w _ _ _ _).below (below_new _ _)
  have qy : Quad ((w.alloc (.cells #[.int .i64 k1, .slice s1 ls1 sc1, .slice n1 ln1 nc1, .slice i1 li1 ic1] 33)).alloc (.cells #[.int .i64 k2, .slice s2 ls2 sc2, .slice n2 ln2 nc2, .slice i2 li2 ic2] 33)) (w.heap.size + 1) (.int .i64 k2) (.slice s2 ls2 sc2) (.slice n2 ln2 nc2) (.slice i2 li2 ic2) := by
    simpa using Quad.new (w.alloc (.cells #[.int .i64 k1, .slice s1 ls1 sc1, .slice n1 ln1 nc1, .slice i1 li1 ic1] 33)) (.int .i64 k2) (.slice s2 ls2 sc2) (.slice n2 ln2 nc2) (.slice i2 li2 ic2)
  obtain ⟨x0, x1, x2, x3, -⟩ := qx.cells
  obtain ⟨y0, y1, y2, y3, -⟩ := qy.cells
  have I1 := fun w => IS 4 w
  rw [show binB 4 = true from rfl] at I1
  have S1 := fun w' (a : ArrAt w' _ A) => smallL16 (.agg #[.int .i64 k1, .slice s1 ls1 sc1, .slice n1 ln1 nc1, .slice i1 li1 ic1]) A w' a
  have S2 := fun w' (b : ArrAt w' _ B) => smallL16 (.agg #[.int .i64 k2, .slice s2 ls2 sc2, .slice n2 ln2 nc2, .slice i2 li2 ic2]) B w' b
  clear AP IS hA hB
  unfold LivesOK at LV
  go_enter Try.func5, Try.ntmps5
  go_wp2_with (first
      | (go_at_call 13; (with_reducible refine Calls.mono (S1 _ hA2) ?_); intro e w3 hh; (obtain ⟨t1, rfl, hb3⟩ := hh); (have c0 := (qx.below hb3).cells); (have c1 := (qy.below hb3).cells); (obtain ⟨x30, x31, x32, x33, -⟩ := c0); (obtain ⟨y30, y31, y32, y33, -⟩ := c1))
      | (go_at_call 13; (with_reducible refine Calls.mono (S2 _ (hB2.below hb3)) ?_); intro e w4 hh; (obtain ⟨t2, rfl, hb4⟩ := hh); (have hb4' := Below.then hb3 hb4); (have c0 := (qx.below hb4').cells); (have c1 := (qy.below hb4').cells); (obtain ⟨x40, x41, x42, x43, -⟩ := c0); (obtain ⟨y40, y41, y42, y43, -⟩ := c1))
      | (go_at_call 10; (with_reducible refine Calls.mono (I1 _) ?_); rintro e w10 ⟨rfl, hb10⟩; (have hb34 := Below.then (Below.then hb3 hb4) hb10); (have c0 := (qx.below hb34).cells); (have c1 := (qy.below hb34).cells); (obtain ⟨x90, x91, x92, x93, -⟩ := c0); (obtain ⟨y90, y91, y92, y93, -⟩ := c1))
      | (go_at_call 12; (with_reducible refine Calls.mono (LV _) ?_); rintro e w9 ⟨rfl, hb9⟩))
  all_goals go_ret
  all_goals first
    | exact ⟨rfl, Below.then (Below.then b2 hb3) hb9⟩
    | exact ⟨rfl, Below.then (Below.then (Below.then b2 hb3) hb4) hb9⟩
    | exact ⟨rfl, Below.then (Below.then b2 hb34) hb9⟩
    | exact ⟨rfl, Below.then (Below.then (Below.then (Below.then (Below.then b2 hb35) hb6) hb7) hb8) hb9⟩

set_option maxRecDepth 100000 in
set_option maxHeartbeats 4000000 in
theorem turned5 (AP : ApplyOK) (IS : IsOK) (LV : LivesOK) (v v2 : Value) (A B : Arr) (w : World) (h : ArrAt w v A) (g : ArrAt w v2 B) (rA : Reach A) (rB : Reach B) : Calls Try.prog 5 #[.int .i64 5, v, v2] w fun e w' => e = .returned (.bool true) ∧ Below w.heap.size w w' := by
  have hA := h
  have hB := g
  obtain ⟨k1, s1, ls1, sc1, n1, ln1, nc1, i1, li1, ic1, rfl⟩ : ∃ k sa ls sc na ln nc ia li ic, v = .agg #[.int .i64 k, .slice sa ls sc, .slice na ln nc, .slice ia li ic] := by
    obtain ⟨k, sh, nu, it⟩ := A
    rw [ArrAt] at h
    obtain ⟨sa, sc, na, nc, ia, ic, rfl, -⟩ := h
    exact ⟨_, _, _, _, _, _, _, _, _, _, rfl⟩
  obtain ⟨k2, s2, ls2, sc2, n2, ln2, nc2, i2, li2, ic2, rfl⟩ : ∃ k sa ls sc na ln nc ia li ic, v2 = .agg #[.int .i64 k, .slice sa ls sc, .slice na ln nc, .slice ia li ic] := by
    obtain ⟨k, sh, nu, it⟩ := B
    rw [ArrAt] at g
    obtain ⟨sa, sc, na, nc, ia, ic, rfl, -⟩ := g
    exact ⟨_, _, _, _, _, _, _, _, _, _, rfl⟩
  clear h g
  have b2 := below_two w (.cells #[.int .i64 k1, .slice s1 ls1 sc1, .slice n1 ln1 nc1, .slice i1 li1 ic1] 33) (.cells #[.int .i64 k2, .slice s2 ls2 sc2, .slice n2 ln2 nc2, .slice i2 li2 ic2] 33)
  have hA2 := hA.below b2
  have hB2 := hB.below b2
  have qx : Quad ((w.alloc (.cells #[.int .i64 k1, .slice s1 ls1 sc1, .slice n1 ln1 nc1, .slice i1 li1 ic1] 33)).alloc (.cells #[.int .i64 k2, .slice s2 ls2 sc2, .slice n2 ln2 nc2, .slice i2 li2 ic2] 33)) w.heap.size (.int .i64 k1) (.slice s1 ls1 sc1) (.slice n1 ln1 nc1) (.slice i1 li1 ic1) := (Quad.new w _ _ _ _).below (below_new _ _)
  have qy : Quad ((w.alloc (.cells #[.int .i64 k1, .slice s1 ls1 sc1, .slice n1 ln1 nc1, .slice i1 li1 ic1] 33)).alloc (.cells #[.int .i64 k2, .slice s2 ls2 sc2, .slice n2 ln2 nc2, .slice i2 li2 ic2] 33)) (w.heap.size + 1) (.int .i64 k2) (.slice s2 ls2 sc2) (.slice n2 ln2 nc2) (.slice i2 li2 ic2) := by
    simpa using Quad.new (w.alloc (.cells #[.int .i64 k1, .slice s1 ls1 sc1, .slice n1 ln1 nc1, .slice i1 li1 ic1] 33)) (.int .i64 k2) (.slice s2 ls2 sc2) (.slice n2 ln2 nc2) (.slice i2 li2 ic2)
  obtain ⟨x0, x1, x2, x3, -⟩ := qx.cells
  obtain ⟨y0, y1, y2, y3, -⟩ := qy.cells
  have I1 := fun w => IS 5 w
  rw [show binB 5 = true from rfl] at I1
  have S1 := fun w' (a : ArrAt w' _ A) => smallL16 (.agg #[.int .i64 k1, .slice s1 ls1 sc1, .slice n1 ln1 nc1, .slice i1 li1 ic1]) A w' a
  have S2 := fun w' (b : ArrAt w' _ B) => smallL16 (.agg #[.int .i64 k2, .slice s2 ls2 sc2, .slice n2 ln2 nc2, .slice i2 li2 ic2]) B w' b
  clear AP IS hA hB
  unfold LivesOK at LV
  go_enter Try.func5, Try.ntmps5
  go_wp2_with (first
      | (go_at_call 13; (with_reducible refine Calls.mono (S1 _ hA2) ?_); intro e w3 hh; (obtain ⟨t1, rfl, hb3⟩ := hh); (have c0 := (qx.below hb3).cells); (have c1 := (qy.below hb3).cells); (obtain ⟨x30, x31, x32, x33, -⟩ := c0); (obtain ⟨y30, y31, y32, y33, -⟩ := c1))
      | (go_at_call 13; (with_reducible refine Calls.mono (S2 _ (hB2.below hb3)) ?_); intro e w4 hh; (obtain ⟨t2, rfl, hb4⟩ := hh); (have hb4' := Below.then hb3 hb4); (have c0 := (qx.below hb4').cells); (have c1 := (qy.below hb4').cells); (obtain ⟨x40, x41, x42, x43, -⟩ := c0); (obtain ⟨y40, y41, y42, y43, -⟩ := c1))
      | (go_at_call 10; (with_reducible refine Calls.mono (I1 _) ?_); rintro e w10 ⟨rfl, hb10⟩; (have hb34 := Below.then (Below.then hb3 hb4) hb10); (have c0 := (qx.below hb34).cells); (have c1 := (qy.below hb34).cells); (obtain ⟨x90, x91, x92, x93, -⟩ := c0); (obtain ⟨y90, y91, y92, y93, -⟩ := c1))
      | (go_at_call 12; (with_reducible refine Calls.mono (LV _) ?_); rintro e w9 ⟨rfl, hb9⟩))
  all_goals go_ret
  all_goals first
    | exact ⟨rfl, Below.then (Below.then b2 hb3) hb9⟩
    | exact ⟨rfl, Below.then (Below.then (Below.then b2 hb3) hb4) hb9⟩
    | exact ⟨rfl, Below.then (Below.then b2 hb34) hb9⟩
    | exact ⟨rfl, Below.then (Below.then (Below.then (Below.then (Below.then b2 hb35) hb6) hb7) hb8) hb9⟩

set_option maxRecDepth 100000 in
set_option maxHeartbeats 4000000 in
theorem turned6 (AP : ApplyOK) (IS : IsOK) (LV : LivesOK) (v v2 : Value) (A B : Arr) (w : World) (h : ArrAt w v A) (g : ArrAt w v2 B) (rA : Reach A) (rB : Reach B) : Calls Try.prog 5 #[.int .i64 6, v, v2] w fun e w' => e = .returned (.bool true) ∧ Below w.heap.size w w' := by
  have hA := h
  have hB := g
  obtain ⟨k1, s1, ls1, sc1, n1, ln1, nc1, i1, li1, ic1, rfl⟩ : ∃ k sa ls sc na ln nc ia li ic, v = .agg #[.int .i64 k, .slice sa ls sc, .slice na ln nc, .slice ia li ic] := by
    obtain ⟨k, sh, nu, it⟩ := A
    rw [ArrAt] at h
    obtain ⟨sa, sc, na, nc, ia, ic, rfl, -⟩ := h
    exact ⟨_, _, _, _, _, _, _, _, _, _, rfl⟩
  obtain ⟨k2, s2, ls2, sc2, n2, ln2, nc2, i2, li2, ic2, rfl⟩ : ∃ k sa ls sc na ln nc ia li ic, v2 = .agg #[.int .i64 k, .slice sa ls sc, .slice na ln nc, .slice ia li ic] := by
    obtain ⟨k, sh, nu, it⟩ := B
    rw [ArrAt] at g
    obtain ⟨sa, sc, na, nc, ia, ic, rfl, -⟩ := g
    exact ⟨_, _, _, _, _, _, _, _, _, _, rfl⟩
  clear h g
  have b2 := below_two w (.cells #[.int .i64 k1, .slice s1 ls1 sc1, .slice n1 ln1 nc1, .slice i1 li1 ic1] 33) (.cells #[.int .i64 k2, .slice s2 ls2 sc2, .slice n2 ln2 nc2, .slice i2 li2 ic2] 33)
  have hA2 := hA.below b2
  have hB2 := hB.below b2
  have qx : Quad ((w.alloc (.cells #[.int .i64 k1, .slice s1 ls1 sc1, .slice n1 ln1 nc1, .slice i1 li1 ic1] 33)).alloc (.cells #[.int .i64 k2, .slice s2 ls2 sc2, .slice n2 ln2 nc2, .slice i2 li2 ic2] 33)) w.heap.size (.int .i64 k1) (.slice s1 ls1 sc1) (.slice n1 ln1 nc1) (.slice i1 li1 ic1) := (Quad.new w _ _ _ _).below (below_new _ _)
  have qy : Quad ((w.alloc (.cells #[.int .i64 k1, .slice s1 ls1 sc1, .slice n1 ln1 nc1, .slice i1 li1 ic1] 33)).alloc (.cells #[.int .i64 k2, .slice s2 ls2 sc2, .slice n2 ln2 nc2, .slice i2 li2 ic2] 33)) (w.heap.size + 1) (.int .i64 k2) (.slice s2 ls2 sc2) (.slice n2 ln2 nc2) (.slice i2 li2 ic2) := by
    simpa using Quad.new (w.alloc (.cells #[.int .i64 k1, .slice s1 ls1 sc1, .slice n1 ln1 nc1, .slice i1 li1 ic1] 33)) (.int .i64 k2) (.slice s2 ls2 sc2) (.slice n2 ln2 nc2) (.slice i2 li2 ic2)
  obtain ⟨x0, x1, x2, x3, -⟩ := qx.cells
  obtain ⟨y0, y1, y2, y3, -⟩ := qy.cells
  have I1 := fun w => IS 6 w
  rw [show binB 6 = true from rfl] at I1
  have S1 := fun w' (a : ArrAt w' _ A) => smallL16 (.agg #[.int .i64 k1, .slice s1 ls1 sc1, .slice n1 ln1 nc1, .slice i1 li1 ic1]) A w' a
  have S2 := fun w' (b : ArrAt w' _ B) => smallL16 (.agg #[.int .i64 k2, .slice s2 ls2 sc2, .slice n2 ln2 nc2, .slice i2 li2 ic2]) B w' b
  clear AP IS hA hB
  unfold LivesOK at LV
  go_enter Try.func5, Try.ntmps5
  go_wp2_with (first
      | (go_at_call 13; (with_reducible refine Calls.mono (S1 _ hA2) ?_); intro e w3 hh; (obtain ⟨t1, rfl, hb3⟩ := hh); (have c0 := (qx.below hb3).cells); (have c1 := (qy.below hb3).cells); (obtain ⟨x30, x31, x32, x33, -⟩ := c0); (obtain ⟨y30, y31, y32, y33, -⟩ := c1))
      | (go_at_call 13; (with_reducible refine Calls.mono (S2 _ (hB2.below hb3)) ?_); intro e w4 hh; (obtain ⟨t2, rfl, hb4⟩ := hh); (have hb4' := Below.then hb3 hb4); (have c0 := (qx.below hb4').cells); (have c1 := (qy.below hb4').cells); (obtain ⟨x40, x41, x42, x43, -⟩ := c0); (obtain ⟨y40, y41, y42, y43, -⟩ := c1))
      | (go_at_call 10; (with_reducible refine Calls.mono (I1 _) ?_); rintro e w10 ⟨rfl, hb10⟩; (have hb34 := Below.then (Below.then hb3 hb4) hb10); (have c0 := (qx.below hb34).cells); (have c1 := (qy.below hb34).cells); (obtain ⟨x90, x91, x92, x93, -⟩ := c0); (obtain ⟨y90, y91, y92, y93, -⟩ := c1))
      | (go_at_call 12; (with_reducible refine Calls.mono (LV _) ?_); rintro e w9 ⟨rfl, hb9⟩))
  all_goals go_ret
  all_goals first
    | exact ⟨rfl, Below.then (Below.then b2 hb3) hb9⟩
    | exact ⟨rfl, Below.then (Below.then (Below.then b2 hb3) hb4) hb9⟩
    | exact ⟨rfl, Below.then (Below.then b2 hb34) hb9⟩
    | exact ⟨rfl, Below.then (Below.then (Below.then (Below.then (Below.then b2 hb35) hb6) hb7) hb8) hb9⟩

set_option maxRecDepth 100000 in
set_option maxHeartbeats 4000000 in
theorem turned7 (AP : ApplyOK) (IS : IsOK) (LV : LivesOK) (v v2 : Value) (A B : Arr) (w : World) (h : ArrAt w v A) (g : ArrAt w v2 B) (rA : Reach A) (rB : Reach B) : Calls Try.prog 5 #[.int .i64 7, v, v2] w fun e w' => e = .returned (.bool true) ∧ Below w.heap.size w w' := by
  have hA := h
  have hB := g
  obtain ⟨k1, s1, ls1, sc1, n1, ln1, nc1, i1, li1, ic1, rfl⟩ : ∃ k sa ls sc na ln nc ia li ic, v = .agg #[.int .i64 k, .slice sa ls sc, .slice na ln nc, .slice ia li ic] := by
    obtain ⟨k, sh, nu, it⟩ := A
    rw [ArrAt] at h
    obtain ⟨sa, sc, na, nc, ia, ic, rfl, -⟩ := h
    exact ⟨_, _, _, _, _, _, _, _, _, _, rfl⟩
  obtain ⟨k2, s2, ls2, sc2, n2, ln2, nc2, i2, li2, ic2, rfl⟩ : ∃ k sa ls sc na ln nc ia li ic, v2 = .agg #[.int .i64 k, .slice sa ls sc, .slice na ln nc, .slice ia li ic] := by
    obtain ⟨k, sh, nu, it⟩ := B
    rw [ArrAt] at g
    obtain ⟨sa, sc, na, nc, ia, ic, rfl, -⟩ := g
    exact ⟨_, _, _, _, _, _, _, _, _, _, rfl⟩
  clear h g
  have b2 := below_two w (.cells #[.int .i64 k1, .slice s1 ls1 sc1, .slice n1 ln1 nc1, .slice i1 li1 ic1] 33) (.cells #[.int .i64 k2, .slice s2 ls2 sc2, .slice n2 ln2 nc2, .slice i2 li2 ic2] 33)
  have hA2 := hA.below b2
  have hB2 := hB.below b2
  have qx : Quad ((w.alloc (.cells #[.int .i64 k1, .slice s1 ls1 sc1, .slice n1 ln1 nc1, .slice i1 li1 ic1] 33)).alloc (.cells #[.int .i64 k2, .slice s2 ls2 sc2, .slice n2 ln2 nc2, .slice i2 li2 ic2] 33)) w.heap.size (.int .i64 k1) (.slice s1 ls1 sc1) (.slice n1 ln1 nc1) (.slice i1 li1 ic1) := (Quad.new w _ _ _ _).below (below_new _ _)
  have qy : Quad ((w.alloc (.cells #[.int .i64 k1, .slice s1 ls1 sc1, .slice n1 ln1 nc1, .slice i1 li1 ic1] 33)).alloc (.cells #[.int .i64 k2, .slice s2 ls2 sc2, .slice n2 ln2 nc2, .slice i2 li2 ic2] 33)) (w.heap.size + 1) (.int .i64 k2) (.slice s2 ls2 sc2) (.slice n2 ln2 nc2) (.slice i2 li2 ic2) := by
    simpa using Quad.new (w.alloc (.cells #[.int .i64 k1, .slice s1 ls1 sc1, .slice n1 ln1 nc1, .slice i1 li1 ic1] 33)) (.int .i64 k2) (.slice s2 ls2 sc2) (.slice n2 ln2 nc2) (.slice i2 li2 ic2)
  obtain ⟨x0, x1, x2, x3, -⟩ := qx.cells
  obtain ⟨y0, y1, y2, y3, -⟩ := qy.cells
  have I1 := fun w => IS 7 w
  rw [show binB 7 = true from rfl] at I1
  have D := fun w' (a : ArrAt w' _ A) (b : ArrAt w' _ B) => AP (fun _ => True) 7 (.agg #[.int .i64 k1, .slice s1 ls1 sc1, .slice n1 ln1 nc1, .slice i1 li1 ic1]) (.agg #[.int .i64 k2, .slice s2 ls2 sc2, .slice n2 ln2 nc2, .slice i2 li2 ic2]) A B w' (fun _ _ => trivial) (at_onT a) (at_onT b) rA rB
  have M := fun w' (a : ArrAt w' _ A) (b : ArrAt w' _ B) => AP (fun _ => True) 7 (.agg #[.int .i64 k2, .slice s2 ls2 sc2, .slice n2 ln2 nc2, .slice i2 li2 ic2]) (.agg #[.int .i64 k1, .slice s1 ls1 sc1, .slice n1 ln1 nc1, .slice i1 li1 ic1]) B A w' (fun _ _ => trivial) (at_onT b) (at_onT a) rB rA
  rw [show applyA 7 B A = applyA 7 A B from (apply_turn (p := 7) rfl (by decide) A B).symm] at M
  generalize applyA 7 A B = R at D M
  obtain ⟨C, er⟩ := R
  simp only at D M
  have S1 := fun w' (a : ArrAt w' _ A) => smallL16 (.agg #[.int .i64 k1, .slice s1 ls1 sc1, .slice n1 ln1 nc1, .slice i1 li1 ic1]) A w' a
  have S2 := fun w' (b : ArrAt w' _ B) => smallL16 (.agg #[.int .i64 k2, .slice s2 ls2 sc2, .slice n2 ln2 nc2, .slice i2 li2 ic2]) B w' b
  clear AP IS hA hB
  unfold LivesOK at LV
  go_enter Try.func5, Try.ntmps5
  go_wp2_with (first
      | (go_at_call 13; (with_reducible refine Calls.mono (S1 _ hA2) ?_); intro e w3 hh; (obtain ⟨t1, rfl, hb3⟩ := hh); (have c0 := (qx.below hb3).cells); (have c1 := (qy.below hb3).cells); (obtain ⟨x30, x31, x32, x33, -⟩ := c0); (obtain ⟨y30, y31, y32, y33, -⟩ := c1))
      | (go_at_call 13; (with_reducible refine Calls.mono (S2 _ (hB2.below hb3)) ?_); intro e w4 hh; (obtain ⟨t2, rfl, hb4⟩ := hh); (have hb4' := Below.then hb3 hb4); (have c0 := (qx.below hb4').cells); (have c1 := (qy.below hb4').cells); (obtain ⟨x40, x41, x42, x43, -⟩ := c0); (obtain ⟨y40, y41, y42, y43, -⟩ := c1))
      | (go_at_call 10; (with_reducible refine Calls.mono (I1 _) ?_); rintro e w10 ⟨rfl, hb10⟩; (have hb34 := Below.then (Below.then hb3 hb4) hb10); (have c0 := (qx.below hb34).cells); (have c1 := (qy.below hb34).cells); (obtain ⟨x90, x91, x92, x93, -⟩ := c0); (obtain ⟨y90, y91, y92, y93, -⟩ := c1))
      | (go_at_call 14; (with_reducible refine Calls.mono (D _ (hA2.below hb34) (hB2.below hb34)) ?_); intro e w5 hh; (obtain ⟨k5, sa5, ls5, sc5, na5, ln5, nc5, ia5, li5, ic5, rfl, a5, hb5⟩ := hh); (have hb35 := Below.then (Below.then hb34 hb5) (below_new w5 (.cells #[.int .i64 k5, .slice sa5 ls5 sc5, .slice na5 ln5 nc5, .slice ia5 li5 ic5] 33))); (have qp := Quad.new w5 (.int .i64 k5) (.slice sa5 ls5 sc5) (.slice na5 ln5 nc5) (.slice ia5 li5 ic5)); (have ap := a5.at.below (below_new w5 (.cells #[.int .i64 k5, .slice sa5 ls5 sc5, .slice na5 ln5 nc5, .slice ia5 li5 ic5] 33))); (have c0 := (qx.below hb35).cells); (have c1 := (qy.below hb35).cells); (obtain ⟨x50, x51, x52, x53, -⟩ := c0); (obtain ⟨y50, y51, y52, y53, -⟩ := c1))
      | (go_at_call 14; (with_reducible refine Calls.mono (M _ (hA2.below hb35) (hB2.below hb35)) ?_); intro e w6 hh; (obtain ⟨k6, sa6, ls6, sc6, na6, ln6, nc6, ia6, li6, ic6, rfl, a6, hb6⟩ := hh); (have qp6 := qp.below hb6); (have hb7 := below_new w6 (.cells #[.int .i64 k6, .slice sa6 ls6 sc6, .slice na6 ln6 nc6, .slice ia6 li6 ic6] 33)); (have qq := Quad.new w6 (.int .i64 k6) (.slice sa6 ls6 sc6) (.slice na6 ln6 nc6) (.slice ia6 li6 ic6)); (have qp7 := qp6.below hb7); (have ap7 := (ap.below hb6).below hb7); (have aq7 := a6.at.below hb7); (obtain ⟨p0, p1, p2, p3, -⟩ := qp7.cells); (obtain ⟨q0, q1, q2, q3, -⟩ := qq.cells))
      | (go_at_call 16; (with_reducible refine Calls.mono (sameRX ap7 aq7) ?_); rintro e w8 ⟨rfl, hb8⟩)
      | (go_at_call 12; (with_reducible refine Calls.mono (LV _) ?_); rintro e w9 ⟨rfl, hb9⟩))
  all_goals go_ret
  all_goals first
    | exact ⟨rfl, Below.then (Below.then b2 hb3) hb9⟩
    | exact ⟨rfl, Below.then (Below.then (Below.then b2 hb3) hb4) hb9⟩
    | exact ⟨rfl, Below.then (Below.then b2 hb34) hb9⟩
    | exact ⟨rfl, Below.then (Below.then (Below.then (Below.then (Below.then b2 hb35) hb6) hb7) hb8) hb9⟩

set_option maxRecDepth 100000 in
set_option maxHeartbeats 4000000 in
theorem turned8 (AP : ApplyOK) (IS : IsOK) (LV : LivesOK) (v v2 : Value) (A B : Arr) (w : World) (h : ArrAt w v A) (g : ArrAt w v2 B) (rA : Reach A) (rB : Reach B) : Calls Try.prog 5 #[.int .i64 8, v, v2] w fun e w' => e = .returned (.bool true) ∧ Below w.heap.size w w' := by
  have hA := h
  have hB := g
  obtain ⟨k1, s1, ls1, sc1, n1, ln1, nc1, i1, li1, ic1, rfl⟩ : ∃ k sa ls sc na ln nc ia li ic, v = .agg #[.int .i64 k, .slice sa ls sc, .slice na ln nc, .slice ia li ic] := by
    obtain ⟨k, sh, nu, it⟩ := A
    rw [ArrAt] at h
    obtain ⟨sa, sc, na, nc, ia, ic, rfl, -⟩ := h
    exact ⟨_, _, _, _, _, _, _, _, _, _, rfl⟩
  obtain ⟨k2, s2, ls2, sc2, n2, ln2, nc2, i2, li2, ic2, rfl⟩ : ∃ k sa ls sc na ln nc ia li ic, v2 = .agg #[.int .i64 k, .slice sa ls sc, .slice na ln nc, .slice ia li ic] := by
    obtain ⟨k, sh, nu, it⟩ := B
    rw [ArrAt] at g
    obtain ⟨sa, sc, na, nc, ia, ic, rfl, -⟩ := g
    exact ⟨_, _, _, _, _, _, _, _, _, _, rfl⟩
  clear h g
  have b2 := below_two w (.cells #[.int .i64 k1, .slice s1 ls1 sc1, .slice n1 ln1 nc1, .slice i1 li1 ic1] 33) (.cells #[.int .i64 k2, .slice s2 ls2 sc2, .slice n2 ln2 nc2, .slice i2 li2 ic2] 33)
  have hA2 := hA.below b2
  have hB2 := hB.below b2
  have qx : Quad ((w.alloc (.cells #[.int .i64 k1, .slice s1 ls1 sc1, .slice n1 ln1 nc1, .slice i1 li1 ic1] 33)).alloc (.cells #[.int .i64 k2, .slice s2 ls2 sc2, .slice n2 ln2 nc2, .slice i2 li2 ic2] 33)) w.heap.size (.int .i64 k1) (.slice s1 ls1 sc1) (.slice n1 ln1 nc1) (.slice i1 li1 ic1) := (Quad.new w _ _ _ _).below (below_new _ _)
  have qy : Quad ((w.alloc (.cells #[.int .i64 k1, .slice s1 ls1 sc1, .slice n1 ln1 nc1, .slice i1 li1 ic1] 33)).alloc (.cells #[.int .i64 k2, .slice s2 ls2 sc2, .slice n2 ln2 nc2, .slice i2 li2 ic2] 33)) (w.heap.size + 1) (.int .i64 k2) (.slice s2 ls2 sc2) (.slice n2 ln2 nc2) (.slice i2 li2 ic2) := by
    simpa using Quad.new (w.alloc (.cells #[.int .i64 k1, .slice s1 ls1 sc1, .slice n1 ln1 nc1, .slice i1 li1 ic1] 33)) (.int .i64 k2) (.slice s2 ls2 sc2) (.slice n2 ln2 nc2) (.slice i2 li2 ic2)
  obtain ⟨x0, x1, x2, x3, -⟩ := qx.cells
  obtain ⟨y0, y1, y2, y3, -⟩ := qy.cells
  have I1 := fun w => IS 8 w
  rw [show binB 8 = true from rfl] at I1
  have D := fun w' (a : ArrAt w' _ A) (b : ArrAt w' _ B) => AP (fun _ => True) 8 (.agg #[.int .i64 k1, .slice s1 ls1 sc1, .slice n1 ln1 nc1, .slice i1 li1 ic1]) (.agg #[.int .i64 k2, .slice s2 ls2 sc2, .slice n2 ln2 nc2, .slice i2 li2 ic2]) A B w' (fun _ _ => trivial) (at_onT a) (at_onT b) rA rB
  have M := fun w' (a : ArrAt w' _ A) (b : ArrAt w' _ B) => AP (fun _ => True) 8 (.agg #[.int .i64 k2, .slice s2 ls2 sc2, .slice n2 ln2 nc2, .slice i2 li2 ic2]) (.agg #[.int .i64 k1, .slice s1 ls1 sc1, .slice n1 ln1 nc1, .slice i1 li1 ic1]) B A w' (fun _ _ => trivial) (at_onT b) (at_onT a) rB rA
  rw [show applyA 8 B A = applyA 8 A B from (apply_turn (p := 8) rfl (by decide) A B).symm] at M
  generalize applyA 8 A B = R at D M
  obtain ⟨C, er⟩ := R
  simp only at D M
  have S1 := fun w' (a : ArrAt w' _ A) => smallL16 (.agg #[.int .i64 k1, .slice s1 ls1 sc1, .slice n1 ln1 nc1, .slice i1 li1 ic1]) A w' a
  have S2 := fun w' (b : ArrAt w' _ B) => smallL16 (.agg #[.int .i64 k2, .slice s2 ls2 sc2, .slice n2 ln2 nc2, .slice i2 li2 ic2]) B w' b
  clear AP IS hA hB
  unfold LivesOK at LV
  go_enter Try.func5, Try.ntmps5
  go_wp2_with (first
      | (go_at_call 13; (with_reducible refine Calls.mono (S1 _ hA2) ?_); intro e w3 hh; (obtain ⟨t1, rfl, hb3⟩ := hh); (have c0 := (qx.below hb3).cells); (have c1 := (qy.below hb3).cells); (obtain ⟨x30, x31, x32, x33, -⟩ := c0); (obtain ⟨y30, y31, y32, y33, -⟩ := c1))
      | (go_at_call 13; (with_reducible refine Calls.mono (S2 _ (hB2.below hb3)) ?_); intro e w4 hh; (obtain ⟨t2, rfl, hb4⟩ := hh); (have hb4' := Below.then hb3 hb4); (have c0 := (qx.below hb4').cells); (have c1 := (qy.below hb4').cells); (obtain ⟨x40, x41, x42, x43, -⟩ := c0); (obtain ⟨y40, y41, y42, y43, -⟩ := c1))
      | (go_at_call 10; (with_reducible refine Calls.mono (I1 _) ?_); rintro e w10 ⟨rfl, hb10⟩; (have hb34 := Below.then (Below.then hb3 hb4) hb10); (have c0 := (qx.below hb34).cells); (have c1 := (qy.below hb34).cells); (obtain ⟨x90, x91, x92, x93, -⟩ := c0); (obtain ⟨y90, y91, y92, y93, -⟩ := c1))
      | (go_at_call 14; (with_reducible refine Calls.mono (D _ (hA2.below hb34) (hB2.below hb34)) ?_); intro e w5 hh; (obtain ⟨k5, sa5, ls5, sc5, na5, ln5, nc5, ia5, li5, ic5, rfl, a5, hb5⟩ := hh); (have hb35 := Below.then (Below.then hb34 hb5) (below_new w5 (.cells #[.int .i64 k5, .slice sa5 ls5 sc5, .slice na5 ln5 nc5, .slice ia5 li5 ic5] 33))); (have qp := Quad.new w5 (.int .i64 k5) (.slice sa5 ls5 sc5) (.slice na5 ln5 nc5) (.slice ia5 li5 ic5)); (have ap := a5.at.below (below_new w5 (.cells #[.int .i64 k5, .slice sa5 ls5 sc5, .slice na5 ln5 nc5, .slice ia5 li5 ic5] 33))); (have c0 := (qx.below hb35).cells); (have c1 := (qy.below hb35).cells); (obtain ⟨x50, x51, x52, x53, -⟩ := c0); (obtain ⟨y50, y51, y52, y53, -⟩ := c1))
      | (go_at_call 14; (with_reducible refine Calls.mono (M _ (hA2.below hb35) (hB2.below hb35)) ?_); intro e w6 hh; (obtain ⟨k6, sa6, ls6, sc6, na6, ln6, nc6, ia6, li6, ic6, rfl, a6, hb6⟩ := hh); (have qp6 := qp.below hb6); (have hb7 := below_new w6 (.cells #[.int .i64 k6, .slice sa6 ls6 sc6, .slice na6 ln6 nc6, .slice ia6 li6 ic6] 33)); (have qq := Quad.new w6 (.int .i64 k6) (.slice sa6 ls6 sc6) (.slice na6 ln6 nc6) (.slice ia6 li6 ic6)); (have qp7 := qp6.below hb7); (have ap7 := (ap.below hb6).below hb7); (have aq7 := a6.at.below hb7); (obtain ⟨p0, p1, p2, p3, -⟩ := qp7.cells); (obtain ⟨q0, q1, q2, q3, -⟩ := qq.cells))
      | (go_at_call 16; (with_reducible refine Calls.mono (sameRX ap7 aq7) ?_); rintro e w8 ⟨rfl, hb8⟩)
      | (go_at_call 12; (with_reducible refine Calls.mono (LV _) ?_); rintro e w9 ⟨rfl, hb9⟩))
  all_goals go_ret
  all_goals first
    | exact ⟨rfl, Below.then (Below.then b2 hb3) hb9⟩
    | exact ⟨rfl, Below.then (Below.then (Below.then b2 hb3) hb4) hb9⟩
    | exact ⟨rfl, Below.then (Below.then b2 hb34) hb9⟩
    | exact ⟨rfl, Below.then (Below.then (Below.then (Below.then (Below.then b2 hb35) hb6) hb7) hb8) hb9⟩

set_option maxRecDepth 100000 in
set_option maxHeartbeats 4000000 in
theorem turned9 (AP : ApplyOK) (IS : IsOK) (LV : LivesOK) (v v2 : Value) (A B : Arr) (w : World) (h : ArrAt w v A) (g : ArrAt w v2 B) (rA : Reach A) (rB : Reach B) : Calls Try.prog 5 #[.int .i64 9, v, v2] w fun e w' => e = .returned (.bool true) ∧ Below w.heap.size w w' := by
  have hA := h
  have hB := g
  obtain ⟨k1, s1, ls1, sc1, n1, ln1, nc1, i1, li1, ic1, rfl⟩ : ∃ k sa ls sc na ln nc ia li ic, v = .agg #[.int .i64 k, .slice sa ls sc, .slice na ln nc, .slice ia li ic] := by
    obtain ⟨k, sh, nu, it⟩ := A
    rw [ArrAt] at h
    obtain ⟨sa, sc, na, nc, ia, ic, rfl, -⟩ := h
    exact ⟨_, _, _, _, _, _, _, _, _, _, rfl⟩
  obtain ⟨k2, s2, ls2, sc2, n2, ln2, nc2, i2, li2, ic2, rfl⟩ : ∃ k sa ls sc na ln nc ia li ic, v2 = .agg #[.int .i64 k, .slice sa ls sc, .slice na ln nc, .slice ia li ic] := by
    obtain ⟨k, sh, nu, it⟩ := B
    rw [ArrAt] at g
    obtain ⟨sa, sc, na, nc, ia, ic, rfl, -⟩ := g
    exact ⟨_, _, _, _, _, _, _, _, _, _, rfl⟩
  clear h g
  have b2 := below_two w (.cells #[.int .i64 k1, .slice s1 ls1 sc1, .slice n1 ln1 nc1, .slice i1 li1 ic1] 33) (.cells #[.int .i64 k2, .slice s2 ls2 sc2, .slice n2 ln2 nc2, .slice i2 li2 ic2] 33)
  have hA2 := hA.below b2
  have hB2 := hB.below b2
  have qx : Quad ((w.alloc (.cells #[.int .i64 k1, .slice s1 ls1 sc1, .slice n1 ln1 nc1, .slice i1 li1 ic1] 33)).alloc (.cells #[.int .i64 k2, .slice s2 ls2 sc2, .slice n2 ln2 nc2, .slice i2 li2 ic2] 33)) w.heap.size (.int .i64 k1) (.slice s1 ls1 sc1) (.slice n1 ln1 nc1) (.slice i1 li1 ic1) := (Quad.new w _ _ _ _).below (below_new _ _)
  have qy : Quad ((w.alloc (.cells #[.int .i64 k1, .slice s1 ls1 sc1, .slice n1 ln1 nc1, .slice i1 li1 ic1] 33)).alloc (.cells #[.int .i64 k2, .slice s2 ls2 sc2, .slice n2 ln2 nc2, .slice i2 li2 ic2] 33)) (w.heap.size + 1) (.int .i64 k2) (.slice s2 ls2 sc2) (.slice n2 ln2 nc2) (.slice i2 li2 ic2) := by
    simpa using Quad.new (w.alloc (.cells #[.int .i64 k1, .slice s1 ls1 sc1, .slice n1 ln1 nc1, .slice i1 li1 ic1] 33)) (.int .i64 k2) (.slice s2 ls2 sc2) (.slice n2 ln2 nc2) (.slice i2 li2 ic2)
  obtain ⟨x0, x1, x2, x3, -⟩ := qx.cells
  obtain ⟨y0, y1, y2, y3, -⟩ := qy.cells
  have I1 := fun w => IS 9 w
  rw [show binB 9 = true from rfl] at I1
  have D := fun w' (a : ArrAt w' _ A) (b : ArrAt w' _ B) => AP (fun _ => True) 9 (.agg #[.int .i64 k1, .slice s1 ls1 sc1, .slice n1 ln1 nc1, .slice i1 li1 ic1]) (.agg #[.int .i64 k2, .slice s2 ls2 sc2, .slice n2 ln2 nc2, .slice i2 li2 ic2]) A B w' (fun _ _ => trivial) (at_onT a) (at_onT b) rA rB
  have M := fun w' (a : ArrAt w' _ A) (b : ArrAt w' _ B) => AP (fun _ => True) 14 (.agg #[.int .i64 k2, .slice s2 ls2 sc2, .slice n2 ln2 nc2, .slice i2 li2 ic2]) (.agg #[.int .i64 k1, .slice s1 ls1 sc1, .slice n1 ln1 nc1, .slice i1 li1 ic1]) B A w' (fun _ _ => trivial) (at_onT b) (at_onT a) rB rA
  rw [show applyA 14 B A = applyA 9 A B from (apply_turn (p := 9) rfl (by decide) A B).symm] at M
  generalize applyA 9 A B = R at D M
  obtain ⟨C, er⟩ := R
  simp only at D M
  have S1 := fun w' (a : ArrAt w' _ A) => smallL16 (.agg #[.int .i64 k1, .slice s1 ls1 sc1, .slice n1 ln1 nc1, .slice i1 li1 ic1]) A w' a
  have S2 := fun w' (b : ArrAt w' _ B) => smallL16 (.agg #[.int .i64 k2, .slice s2 ls2 sc2, .slice n2 ln2 nc2, .slice i2 li2 ic2]) B w' b
  clear AP IS hA hB
  unfold LivesOK at LV
  go_enter Try.func5, Try.ntmps5
  go_wp2_with (first
      | (go_at_call 13; (with_reducible refine Calls.mono (S1 _ hA2) ?_); intro e w3 hh; (obtain ⟨t1, rfl, hb3⟩ := hh); (have c0 := (qx.below hb3).cells); (have c1 := (qy.below hb3).cells); (obtain ⟨x30, x31, x32, x33, -⟩ := c0); (obtain ⟨y30, y31, y32, y33, -⟩ := c1))
      | (go_at_call 13; (with_reducible refine Calls.mono (S2 _ (hB2.below hb3)) ?_); intro e w4 hh; (obtain ⟨t2, rfl, hb4⟩ := hh); (have hb4' := Below.then hb3 hb4); (have c0 := (qx.below hb4').cells); (have c1 := (qy.below hb4').cells); (obtain ⟨x40, x41, x42, x43, -⟩ := c0); (obtain ⟨y40, y41, y42, y43, -⟩ := c1))
      | (go_at_call 10; (with_reducible refine Calls.mono (I1 _) ?_); rintro e w10 ⟨rfl, hb10⟩; (have hb34 := Below.then (Below.then hb3 hb4) hb10); (have c0 := (qx.below hb34).cells); (have c1 := (qy.below hb34).cells); (obtain ⟨x90, x91, x92, x93, -⟩ := c0); (obtain ⟨y90, y91, y92, y93, -⟩ := c1))
      | (go_at_call 14; (with_reducible refine Calls.mono (D _ (hA2.below hb34) (hB2.below hb34)) ?_); intro e w5 hh; (obtain ⟨k5, sa5, ls5, sc5, na5, ln5, nc5, ia5, li5, ic5, rfl, a5, hb5⟩ := hh); (have hb35 := Below.then (Below.then hb34 hb5) (below_new w5 (.cells #[.int .i64 k5, .slice sa5 ls5 sc5, .slice na5 ln5 nc5, .slice ia5 li5 ic5] 33))); (have qp := Quad.new w5 (.int .i64 k5) (.slice sa5 ls5 sc5) (.slice na5 ln5 nc5) (.slice ia5 li5 ic5)); (have ap := a5.at.below (below_new w5 (.cells #[.int .i64 k5, .slice sa5 ls5 sc5, .slice na5 ln5 nc5, .slice ia5 li5 ic5] 33))); (have c0 := (qx.below hb35).cells); (have c1 := (qy.below hb35).cells); (obtain ⟨x50, x51, x52, x53, -⟩ := c0); (obtain ⟨y50, y51, y52, y53, -⟩ := c1))
      | (go_at_call 14; (with_reducible refine Calls.mono (M _ (hA2.below hb35) (hB2.below hb35)) ?_); intro e w6 hh; (obtain ⟨k6, sa6, ls6, sc6, na6, ln6, nc6, ia6, li6, ic6, rfl, a6, hb6⟩ := hh); (have qp6 := qp.below hb6); (have hb7 := below_new w6 (.cells #[.int .i64 k6, .slice sa6 ls6 sc6, .slice na6 ln6 nc6, .slice ia6 li6 ic6] 33)); (have qq := Quad.new w6 (.int .i64 k6) (.slice sa6 ls6 sc6) (.slice na6 ln6 nc6) (.slice ia6 li6 ic6)); (have qp7 := qp6.below hb7); (have ap7 := (ap.below hb6).below hb7); (have aq7 := a6.at.below hb7); (obtain ⟨p0, p1, p2, p3, -⟩ := qp7.cells); (obtain ⟨q0, q1, q2, q3, -⟩ := qq.cells))
      | (go_at_call 16; (with_reducible refine Calls.mono (sameRX ap7 aq7) ?_); rintro e w8 ⟨rfl, hb8⟩)
      | (go_at_call 12; (with_reducible refine Calls.mono (LV _) ?_); rintro e w9 ⟨rfl, hb9⟩))
  all_goals go_ret
  all_goals first
    | exact ⟨rfl, Below.then (Below.then b2 hb3) hb9⟩
    | exact ⟨rfl, Below.then (Below.then (Below.then b2 hb3) hb4) hb9⟩
    | exact ⟨rfl, Below.then (Below.then b2 hb34) hb9⟩
    | exact ⟨rfl, Below.then (Below.then (Below.then (Below.then (Below.then b2 hb35) hb6) hb7) hb8) hb9⟩

set_option maxRecDepth 100000 in
set_option maxHeartbeats 4000000 in
theorem turned10 (AP : ApplyOK) (IS : IsOK) (LV : LivesOK) (v v2 : Value) (A B : Arr) (w : World) (h : ArrAt w v A) (g : ArrAt w v2 B) (rA : Reach A) (rB : Reach B) : Calls Try.prog 5 #[.int .i64 10, v, v2] w fun e w' => e = .returned (.bool true) ∧ Below w.heap.size w w' := by
  have hA := h
  have hB := g
  obtain ⟨k1, s1, ls1, sc1, n1, ln1, nc1, i1, li1, ic1, rfl⟩ : ∃ k sa ls sc na ln nc ia li ic, v = .agg #[.int .i64 k, .slice sa ls sc, .slice na ln nc, .slice ia li ic] := by
    obtain ⟨k, sh, nu, it⟩ := A
    rw [ArrAt] at h
    obtain ⟨sa, sc, na, nc, ia, ic, rfl, -⟩ := h
    exact ⟨_, _, _, _, _, _, _, _, _, _, rfl⟩
  obtain ⟨k2, s2, ls2, sc2, n2, ln2, nc2, i2, li2, ic2, rfl⟩ : ∃ k sa ls sc na ln nc ia li ic, v2 = .agg #[.int .i64 k, .slice sa ls sc, .slice na ln nc, .slice ia li ic] := by
    obtain ⟨k, sh, nu, it⟩ := B
    rw [ArrAt] at g
    obtain ⟨sa, sc, na, nc, ia, ic, rfl, -⟩ := g
    exact ⟨_, _, _, _, _, _, _, _, _, _, rfl⟩
  clear h g
  have b2 := below_two w (.cells #[.int .i64 k1, .slice s1 ls1 sc1, .slice n1 ln1 nc1, .slice i1 li1 ic1] 33) (.cells #[.int .i64 k2, .slice s2 ls2 sc2, .slice n2 ln2 nc2, .slice i2 li2 ic2] 33)
  have hA2 := hA.below b2
  have hB2 := hB.below b2
  have qx : Quad ((w.alloc (.cells #[.int .i64 k1, .slice s1 ls1 sc1, .slice n1 ln1 nc1, .slice i1 li1 ic1] 33)).alloc (.cells #[.int .i64 k2, .slice s2 ls2 sc2, .slice n2 ln2 nc2, .slice i2 li2 ic2] 33)) w.heap.size (.int .i64 k1) (.slice s1 ls1 sc1) (.slice n1 ln1 nc1) (.slice i1 li1 ic1) := (Quad.new w _ _ _ _).below (below_new _ _)
  have qy : Quad ((w.alloc (.cells #[.int .i64 k1, .slice s1 ls1 sc1, .slice n1 ln1 nc1, .slice i1 li1 ic1] 33)).alloc (.cells #[.int .i64 k2, .slice s2 ls2 sc2, .slice n2 ln2 nc2, .slice i2 li2 ic2] 33)) (w.heap.size + 1) (.int .i64 k2) (.slice s2 ls2 sc2) (.slice n2 ln2 nc2) (.slice i2 li2 ic2) := by
    simpa using Quad.new (w.alloc (.cells #[.int .i64 k1, .slice s1 ls1 sc1, .slice n1 ln1 nc1, .slice i1 li1 ic1] 33)) (.int .i64 k2) (.slice s2 ls2 sc2) (.slice n2 ln2 nc2) (.slice i2 li2 ic2)
  obtain ⟨x0, x1, x2, x3, -⟩ := qx.cells
  obtain ⟨y0, y1, y2, y3, -⟩ := qy.cells
  have I1 := fun w => IS 10 w
  rw [show binB 10 = true from rfl] at I1
  have D := fun w' (a : ArrAt w' _ A) (b : ArrAt w' _ B) => AP (fun _ => True) 10 (.agg #[.int .i64 k1, .slice s1 ls1 sc1, .slice n1 ln1 nc1, .slice i1 li1 ic1]) (.agg #[.int .i64 k2, .slice s2 ls2 sc2, .slice n2 ln2 nc2, .slice i2 li2 ic2]) A B w' (fun _ _ => trivial) (at_onT a) (at_onT b) rA rB
  have M := fun w' (a : ArrAt w' _ A) (b : ArrAt w' _ B) => AP (fun _ => True) 13 (.agg #[.int .i64 k2, .slice s2 ls2 sc2, .slice n2 ln2 nc2, .slice i2 li2 ic2]) (.agg #[.int .i64 k1, .slice s1 ls1 sc1, .slice n1 ln1 nc1, .slice i1 li1 ic1]) B A w' (fun _ _ => trivial) (at_onT b) (at_onT a) rB rA
  rw [show applyA 13 B A = applyA 10 A B from (apply_turn (p := 10) rfl (by decide) A B).symm] at M
  generalize applyA 10 A B = R at D M
  obtain ⟨C, er⟩ := R
  simp only at D M
  have S1 := fun w' (a : ArrAt w' _ A) => smallL16 (.agg #[.int .i64 k1, .slice s1 ls1 sc1, .slice n1 ln1 nc1, .slice i1 li1 ic1]) A w' a
  have S2 := fun w' (b : ArrAt w' _ B) => smallL16 (.agg #[.int .i64 k2, .slice s2 ls2 sc2, .slice n2 ln2 nc2, .slice i2 li2 ic2]) B w' b
  clear AP IS hA hB
  unfold LivesOK at LV
  go_enter Try.func5, Try.ntmps5
  go_wp2_with (first
      | (go_at_call 13; (with_reducible refine Calls.mono (S1 _ hA2) ?_); intro e w3 hh; (obtain ⟨t1, rfl, hb3⟩ := hh); (have c0 := (qx.below hb3).cells); (have c1 := (qy.below hb3).cells); (obtain ⟨x30, x31, x32, x33, -⟩ := c0); (obtain ⟨y30, y31, y32, y33, -⟩ := c1))
      | (go_at_call 13; (with_reducible refine Calls.mono (S2 _ (hB2.below hb3)) ?_); intro e w4 hh; (obtain ⟨t2, rfl, hb4⟩ := hh); (have hb4' := Below.then hb3 hb4); (have c0 := (qx.below hb4').cells); (have c1 := (qy.below hb4').cells); (obtain ⟨x40, x41, x42, x43, -⟩ := c0); (obtain ⟨y40, y41, y42, y43, -⟩ := c1))
      | (go_at_call 10; (with_reducible refine Calls.mono (I1 _) ?_); rintro e w10 ⟨rfl, hb10⟩; (have hb34 := Below.then (Below.then hb3 hb4) hb10); (have c0 := (qx.below hb34).cells); (have c1 := (qy.below hb34).cells); (obtain ⟨x90, x91, x92, x93, -⟩ := c0); (obtain ⟨y90, y91, y92, y93, -⟩ := c1))
      | (go_at_call 14; (with_reducible refine Calls.mono (D _ (hA2.below hb34) (hB2.below hb34)) ?_); intro e w5 hh; (obtain ⟨k5, sa5, ls5, sc5, na5, ln5, nc5, ia5, li5, ic5, rfl, a5, hb5⟩ := hh); (have hb35 := Below.then (Below.then hb34 hb5) (below_new w5 (.cells #[.int .i64 k5, .slice sa5 ls5 sc5, .slice na5 ln5 nc5, .slice ia5 li5 ic5] 33))); (have qp := Quad.new w5 (.int .i64 k5) (.slice sa5 ls5 sc5) (.slice na5 ln5 nc5) (.slice ia5 li5 ic5)); (have ap := a5.at.below (below_new w5 (.cells #[.int .i64 k5, .slice sa5 ls5 sc5, .slice na5 ln5 nc5, .slice ia5 li5 ic5] 33))); (have c0 := (qx.below hb35).cells); (have c1 := (qy.below hb35).cells); (obtain ⟨x50, x51, x52, x53, -⟩ := c0); (obtain ⟨y50, y51, y52, y53, -⟩ := c1))
      | (go_at_call 14; (with_reducible refine Calls.mono (M _ (hA2.below hb35) (hB2.below hb35)) ?_); intro e w6 hh; (obtain ⟨k6, sa6, ls6, sc6, na6, ln6, nc6, ia6, li6, ic6, rfl, a6, hb6⟩ := hh); (have qp6 := qp.below hb6); (have hb7 := below_new w6 (.cells #[.int .i64 k6, .slice sa6 ls6 sc6, .slice na6 ln6 nc6, .slice ia6 li6 ic6] 33)); (have qq := Quad.new w6 (.int .i64 k6) (.slice sa6 ls6 sc6) (.slice na6 ln6 nc6) (.slice ia6 li6 ic6)); (have qp7 := qp6.below hb7); (have ap7 := (ap.below hb6).below hb7); (have aq7 := a6.at.below hb7); (obtain ⟨p0, p1, p2, p3, -⟩ := qp7.cells); (obtain ⟨q0, q1, q2, q3, -⟩ := qq.cells))
      | (go_at_call 16; (with_reducible refine Calls.mono (sameRX ap7 aq7) ?_); rintro e w8 ⟨rfl, hb8⟩)
      | (go_at_call 12; (with_reducible refine Calls.mono (LV _) ?_); rintro e w9 ⟨rfl, hb9⟩))
  all_goals go_ret
  all_goals first
    | exact ⟨rfl, Below.then (Below.then b2 hb3) hb9⟩
    | exact ⟨rfl, Below.then (Below.then (Below.then b2 hb3) hb4) hb9⟩
    | exact ⟨rfl, Below.then (Below.then b2 hb34) hb9⟩
    | exact ⟨rfl, Below.then (Below.then (Below.then (Below.then (Below.then b2 hb35) hb6) hb7) hb8) hb9⟩

set_option maxRecDepth 100000 in
set_option maxHeartbeats 4000000 in
theorem turned11 (AP : ApplyOK) (IS : IsOK) (LV : LivesOK) (v v2 : Value) (A B : Arr) (w : World) (h : ArrAt w v A) (g : ArrAt w v2 B) (rA : Reach A) (rB : Reach B) : Calls Try.prog 5 #[.int .i64 11, v, v2] w fun e w' => e = .returned (.bool true) ∧ Below w.heap.size w w' := by
  have hA := h
  have hB := g
  obtain ⟨k1, s1, ls1, sc1, n1, ln1, nc1, i1, li1, ic1, rfl⟩ : ∃ k sa ls sc na ln nc ia li ic, v = .agg #[.int .i64 k, .slice sa ls sc, .slice na ln nc, .slice ia li ic] := by
    obtain ⟨k, sh, nu, it⟩ := A
    rw [ArrAt] at h
    obtain ⟨sa, sc, na, nc, ia, ic, rfl, -⟩ := h
    exact ⟨_, _, _, _, _, _, _, _, _, _, rfl⟩
  obtain ⟨k2, s2, ls2, sc2, n2, ln2, nc2, i2, li2, ic2, rfl⟩ : ∃ k sa ls sc na ln nc ia li ic, v2 = .agg #[.int .i64 k, .slice sa ls sc, .slice na ln nc, .slice ia li ic] := by
    obtain ⟨k, sh, nu, it⟩ := B
    rw [ArrAt] at g
    obtain ⟨sa, sc, na, nc, ia, ic, rfl, -⟩ := g
    exact ⟨_, _, _, _, _, _, _, _, _, _, rfl⟩
  clear h g
  have b2 := below_two w (.cells #[.int .i64 k1, .slice s1 ls1 sc1, .slice n1 ln1 nc1, .slice i1 li1 ic1] 33) (.cells #[.int .i64 k2, .slice s2 ls2 sc2, .slice n2 ln2 nc2, .slice i2 li2 ic2] 33)
  have hA2 := hA.below b2
  have hB2 := hB.below b2
  have qx : Quad ((w.alloc (.cells #[.int .i64 k1, .slice s1 ls1 sc1, .slice n1 ln1 nc1, .slice i1 li1 ic1] 33)).alloc (.cells #[.int .i64 k2, .slice s2 ls2 sc2, .slice n2 ln2 nc2, .slice i2 li2 ic2] 33)) w.heap.size (.int .i64 k1) (.slice s1 ls1 sc1) (.slice n1 ln1 nc1) (.slice i1 li1 ic1) := (Quad.new w _ _ _ _).below (below_new _ _)
  have qy : Quad ((w.alloc (.cells #[.int .i64 k1, .slice s1 ls1 sc1, .slice n1 ln1 nc1, .slice i1 li1 ic1] 33)).alloc (.cells #[.int .i64 k2, .slice s2 ls2 sc2, .slice n2 ln2 nc2, .slice i2 li2 ic2] 33)) (w.heap.size + 1) (.int .i64 k2) (.slice s2 ls2 sc2) (.slice n2 ln2 nc2) (.slice i2 li2 ic2) := by
    simpa using Quad.new (w.alloc (.cells #[.int .i64 k1, .slice s1 ls1 sc1, .slice n1 ln1 nc1, .slice i1 li1 ic1] 33)) (.int .i64 k2) (.slice s2 ls2 sc2) (.slice n2 ln2 nc2) (.slice i2 li2 ic2)
  obtain ⟨x0, x1, x2, x3, -⟩ := qx.cells
  obtain ⟨y0, y1, y2, y3, -⟩ := qy.cells
  have I1 := fun w => IS 11 w
  rw [show binB 11 = true from rfl] at I1
  have D := fun w' (a : ArrAt w' _ A) (b : ArrAt w' _ B) => AP (fun _ => True) 11 (.agg #[.int .i64 k1, .slice s1 ls1 sc1, .slice n1 ln1 nc1, .slice i1 li1 ic1]) (.agg #[.int .i64 k2, .slice s2 ls2 sc2, .slice n2 ln2 nc2, .slice i2 li2 ic2]) A B w' (fun _ _ => trivial) (at_onT a) (at_onT b) rA rB
  have M := fun w' (a : ArrAt w' _ A) (b : ArrAt w' _ B) => AP (fun _ => True) 11 (.agg #[.int .i64 k2, .slice s2 ls2 sc2, .slice n2 ln2 nc2, .slice i2 li2 ic2]) (.agg #[.int .i64 k1, .slice s1 ls1 sc1, .slice n1 ln1 nc1, .slice i1 li1 ic1]) B A w' (fun _ _ => trivial) (at_onT b) (at_onT a) rB rA
  rw [show applyA 11 B A = applyA 11 A B from (apply_turn (p := 11) rfl (by decide) A B).symm] at M
  generalize applyA 11 A B = R at D M
  obtain ⟨C, er⟩ := R
  simp only at D M
  have S1 := fun w' (a : ArrAt w' _ A) => smallL16 (.agg #[.int .i64 k1, .slice s1 ls1 sc1, .slice n1 ln1 nc1, .slice i1 li1 ic1]) A w' a
  have S2 := fun w' (b : ArrAt w' _ B) => smallL16 (.agg #[.int .i64 k2, .slice s2 ls2 sc2, .slice n2 ln2 nc2, .slice i2 li2 ic2]) B w' b
  clear AP IS hA hB
  unfold LivesOK at LV
  go_enter Try.func5, Try.ntmps5
  go_wp2_with (first
      | (go_at_call 13; (with_reducible refine Calls.mono (S1 _ hA2) ?_); intro e w3 hh; (obtain ⟨t1, rfl, hb3⟩ := hh); (have c0 := (qx.below hb3).cells); (have c1 := (qy.below hb3).cells); (obtain ⟨x30, x31, x32, x33, -⟩ := c0); (obtain ⟨y30, y31, y32, y33, -⟩ := c1))
      | (go_at_call 13; (with_reducible refine Calls.mono (S2 _ (hB2.below hb3)) ?_); intro e w4 hh; (obtain ⟨t2, rfl, hb4⟩ := hh); (have hb4' := Below.then hb3 hb4); (have c0 := (qx.below hb4').cells); (have c1 := (qy.below hb4').cells); (obtain ⟨x40, x41, x42, x43, -⟩ := c0); (obtain ⟨y40, y41, y42, y43, -⟩ := c1))
      | (go_at_call 10; (with_reducible refine Calls.mono (I1 _) ?_); rintro e w10 ⟨rfl, hb10⟩; (have hb34 := Below.then (Below.then hb3 hb4) hb10); (have c0 := (qx.below hb34).cells); (have c1 := (qy.below hb34).cells); (obtain ⟨x90, x91, x92, x93, -⟩ := c0); (obtain ⟨y90, y91, y92, y93, -⟩ := c1))
      | (go_at_call 14; (with_reducible refine Calls.mono (D _ (hA2.below hb34) (hB2.below hb34)) ?_); intro e w5 hh; (obtain ⟨k5, sa5, ls5, sc5, na5, ln5, nc5, ia5, li5, ic5, rfl, a5, hb5⟩ := hh); (have hb35 := Below.then (Below.then hb34 hb5) (below_new w5 (.cells #[.int .i64 k5, .slice sa5 ls5 sc5, .slice na5 ln5 nc5, .slice ia5 li5 ic5] 33))); (have qp := Quad.new w5 (.int .i64 k5) (.slice sa5 ls5 sc5) (.slice na5 ln5 nc5) (.slice ia5 li5 ic5)); (have ap := a5.at.below (below_new w5 (.cells #[.int .i64 k5, .slice sa5 ls5 sc5, .slice na5 ln5 nc5, .slice ia5 li5 ic5] 33))); (have c0 := (qx.below hb35).cells); (have c1 := (qy.below hb35).cells); (obtain ⟨x50, x51, x52, x53, -⟩ := c0); (obtain ⟨y50, y51, y52, y53, -⟩ := c1))
      | (go_at_call 14; (with_reducible refine Calls.mono (M _ (hA2.below hb35) (hB2.below hb35)) ?_); intro e w6 hh; (obtain ⟨k6, sa6, ls6, sc6, na6, ln6, nc6, ia6, li6, ic6, rfl, a6, hb6⟩ := hh); (have qp6 := qp.below hb6); (have hb7 := below_new w6 (.cells #[.int .i64 k6, .slice sa6 ls6 sc6, .slice na6 ln6 nc6, .slice ia6 li6 ic6] 33)); (have qq := Quad.new w6 (.int .i64 k6) (.slice sa6 ls6 sc6) (.slice na6 ln6 nc6) (.slice ia6 li6 ic6)); (have qp7 := qp6.below hb7); (have ap7 := (ap.below hb6).below hb7); (have aq7 := a6.at.below hb7); (obtain ⟨p0, p1, p2, p3, -⟩ := qp7.cells); (obtain ⟨q0, q1, q2, q3, -⟩ := qq.cells))
      | (go_at_call 16; (with_reducible refine Calls.mono (sameRX ap7 aq7) ?_); rintro e w8 ⟨rfl, hb8⟩)
      | (go_at_call 12; (with_reducible refine Calls.mono (LV _) ?_); rintro e w9 ⟨rfl, hb9⟩))
  all_goals go_ret
  all_goals first
    | exact ⟨rfl, Below.then (Below.then b2 hb3) hb9⟩
    | exact ⟨rfl, Below.then (Below.then (Below.then b2 hb3) hb4) hb9⟩
    | exact ⟨rfl, Below.then (Below.then b2 hb34) hb9⟩
    | exact ⟨rfl, Below.then (Below.then (Below.then (Below.then (Below.then b2 hb35) hb6) hb7) hb8) hb9⟩

set_option maxRecDepth 100000 in
set_option maxHeartbeats 4000000 in
theorem turned12 (AP : ApplyOK) (IS : IsOK) (LV : LivesOK) (v v2 : Value) (A B : Arr) (w : World) (h : ArrAt w v A) (g : ArrAt w v2 B) (rA : Reach A) (rB : Reach B) : Calls Try.prog 5 #[.int .i64 12, v, v2] w fun e w' => e = .returned (.bool true) ∧ Below w.heap.size w w' := by
  have hA := h
  have hB := g
  obtain ⟨k1, s1, ls1, sc1, n1, ln1, nc1, i1, li1, ic1, rfl⟩ : ∃ k sa ls sc na ln nc ia li ic, v = .agg #[.int .i64 k, .slice sa ls sc, .slice na ln nc, .slice ia li ic] := by
    obtain ⟨k, sh, nu, it⟩ := A
    rw [ArrAt] at h
    obtain ⟨sa, sc, na, nc, ia, ic, rfl, -⟩ := h
    exact ⟨_, _, _, _, _, _, _, _, _, _, rfl⟩
  obtain ⟨k2, s2, ls2, sc2, n2, ln2, nc2, i2, li2, ic2, rfl⟩ : ∃ k sa ls sc na ln nc ia li ic, v2 = .agg #[.int .i64 k, .slice sa ls sc, .slice na ln nc, .slice ia li ic] := by
    obtain ⟨k, sh, nu, it⟩ := B
    rw [ArrAt] at g
    obtain ⟨sa, sc, na, nc, ia, ic, rfl, -⟩ := g
    exact ⟨_, _, _, _, _, _, _, _, _, _, rfl⟩
  clear h g
  have b2 := below_two w (.cells #[.int .i64 k1, .slice s1 ls1 sc1, .slice n1 ln1 nc1, .slice i1 li1 ic1] 33) (.cells #[.int .i64 k2, .slice s2 ls2 sc2, .slice n2 ln2 nc2, .slice i2 li2 ic2] 33)
  have hA2 := hA.below b2
  have hB2 := hB.below b2
  have qx : Quad ((w.alloc (.cells #[.int .i64 k1, .slice s1 ls1 sc1, .slice n1 ln1 nc1, .slice i1 li1 ic1] 33)).alloc (.cells #[.int .i64 k2, .slice s2 ls2 sc2, .slice n2 ln2 nc2, .slice i2 li2 ic2] 33)) w.heap.size (.int .i64 k1) (.slice s1 ls1 sc1) (.slice n1 ln1 nc1) (.slice i1 li1 ic1) := (Quad.new w _ _ _ _).below (below_new _ _)
  have qy : Quad ((w.alloc (.cells #[.int .i64 k1, .slice s1 ls1 sc1, .slice n1 ln1 nc1, .slice i1 li1 ic1] 33)).alloc (.cells #[.int .i64 k2, .slice s2 ls2 sc2, .slice n2 ln2 nc2, .slice i2 li2 ic2] 33)) (w.heap.size + 1) (.int .i64 k2) (.slice s2 ls2 sc2) (.slice n2 ln2 nc2) (.slice i2 li2 ic2) := by
    simpa using Quad.new (w.alloc (.cells #[.int .i64 k1, .slice s1 ls1 sc1, .slice n1 ln1 nc1, .slice i1 li1 ic1] 33)) (.int .i64 k2) (.slice s2 ls2 sc2) (.slice n2 ln2 nc2) (.slice i2 li2 ic2)
  obtain ⟨x0, x1, x2, x3, -⟩ := qx.cells
  obtain ⟨y0, y1, y2, y3, -⟩ := qy.cells
  have I1 := fun w => IS 12 w
  rw [show binB 12 = true from rfl] at I1
  have D := fun w' (a : ArrAt w' _ A) (b : ArrAt w' _ B) => AP (fun _ => True) 12 (.agg #[.int .i64 k1, .slice s1 ls1 sc1, .slice n1 ln1 nc1, .slice i1 li1 ic1]) (.agg #[.int .i64 k2, .slice s2 ls2 sc2, .slice n2 ln2 nc2, .slice i2 li2 ic2]) A B w' (fun _ _ => trivial) (at_onT a) (at_onT b) rA rB
  have M := fun w' (a : ArrAt w' _ A) (b : ArrAt w' _ B) => AP (fun _ => True) 12 (.agg #[.int .i64 k2, .slice s2 ls2 sc2, .slice n2 ln2 nc2, .slice i2 li2 ic2]) (.agg #[.int .i64 k1, .slice s1 ls1 sc1, .slice n1 ln1 nc1, .slice i1 li1 ic1]) B A w' (fun _ _ => trivial) (at_onT b) (at_onT a) rB rA
  rw [show applyA 12 B A = applyA 12 A B from (apply_turn (p := 12) rfl (by decide) A B).symm] at M
  generalize applyA 12 A B = R at D M
  obtain ⟨C, er⟩ := R
  simp only at D M
  have S1 := fun w' (a : ArrAt w' _ A) => smallL16 (.agg #[.int .i64 k1, .slice s1 ls1 sc1, .slice n1 ln1 nc1, .slice i1 li1 ic1]) A w' a
  have S2 := fun w' (b : ArrAt w' _ B) => smallL16 (.agg #[.int .i64 k2, .slice s2 ls2 sc2, .slice n2 ln2 nc2, .slice i2 li2 ic2]) B w' b
  clear AP IS hA hB
  unfold LivesOK at LV
  go_enter Try.func5, Try.ntmps5
  go_wp2_with (first
      | (go_at_call 13; (with_reducible refine Calls.mono (S1 _ hA2) ?_); intro e w3 hh; (obtain ⟨t1, rfl, hb3⟩ := hh); (have c0 := (qx.below hb3).cells); (have c1 := (qy.below hb3).cells); (obtain ⟨x30, x31, x32, x33, -⟩ := c0); (obtain ⟨y30, y31, y32, y33, -⟩ := c1))
      | (go_at_call 13; (with_reducible refine Calls.mono (S2 _ (hB2.below hb3)) ?_); intro e w4 hh; (obtain ⟨t2, rfl, hb4⟩ := hh); (have hb4' := Below.then hb3 hb4); (have c0 := (qx.below hb4').cells); (have c1 := (qy.below hb4').cells); (obtain ⟨x40, x41, x42, x43, -⟩ := c0); (obtain ⟨y40, y41, y42, y43, -⟩ := c1))
      | (go_at_call 10; (with_reducible refine Calls.mono (I1 _) ?_); rintro e w10 ⟨rfl, hb10⟩; (have hb34 := Below.then (Below.then hb3 hb4) hb10); (have c0 := (qx.below hb34).cells); (have c1 := (qy.below hb34).cells); (obtain ⟨x90, x91, x92, x93, -⟩ := c0); (obtain ⟨y90, y91, y92, y93, -⟩ := c1))
      | (go_at_call 14; (with_reducible refine Calls.mono (D _ (hA2.below hb34) (hB2.below hb34)) ?_); intro e w5 hh; (obtain ⟨k5, sa5, ls5, sc5, na5, ln5, nc5, ia5, li5, ic5, rfl, a5, hb5⟩ := hh); (have hb35 := Below.then (Below.then hb34 hb5) (below_new w5 (.cells #[.int .i64 k5, .slice sa5 ls5 sc5, .slice na5 ln5 nc5, .slice ia5 li5 ic5] 33))); (have qp := Quad.new w5 (.int .i64 k5) (.slice sa5 ls5 sc5) (.slice na5 ln5 nc5) (.slice ia5 li5 ic5)); (have ap := a5.at.below (below_new w5 (.cells #[.int .i64 k5, .slice sa5 ls5 sc5, .slice na5 ln5 nc5, .slice ia5 li5 ic5] 33))); (have c0 := (qx.below hb35).cells); (have c1 := (qy.below hb35).cells); (obtain ⟨x50, x51, x52, x53, -⟩ := c0); (obtain ⟨y50, y51, y52, y53, -⟩ := c1))
      | (go_at_call 14; (with_reducible refine Calls.mono (M _ (hA2.below hb35) (hB2.below hb35)) ?_); intro e w6 hh; (obtain ⟨k6, sa6, ls6, sc6, na6, ln6, nc6, ia6, li6, ic6, rfl, a6, hb6⟩ := hh); (have qp6 := qp.below hb6); (have hb7 := below_new w6 (.cells #[.int .i64 k6, .slice sa6 ls6 sc6, .slice na6 ln6 nc6, .slice ia6 li6 ic6] 33)); (have qq := Quad.new w6 (.int .i64 k6) (.slice sa6 ls6 sc6) (.slice na6 ln6 nc6) (.slice ia6 li6 ic6)); (have qp7 := qp6.below hb7); (have ap7 := (ap.below hb6).below hb7); (have aq7 := a6.at.below hb7); (obtain ⟨p0, p1, p2, p3, -⟩ := qp7.cells); (obtain ⟨q0, q1, q2, q3, -⟩ := qq.cells))
      | (go_at_call 16; (with_reducible refine Calls.mono (sameRX ap7 aq7) ?_); rintro e w8 ⟨rfl, hb8⟩)
      | (go_at_call 12; (with_reducible refine Calls.mono (LV _) ?_); rintro e w9 ⟨rfl, hb9⟩))
  all_goals go_ret
  all_goals first
    | exact ⟨rfl, Below.then (Below.then b2 hb3) hb9⟩
    | exact ⟨rfl, Below.then (Below.then (Below.then b2 hb3) hb4) hb9⟩
    | exact ⟨rfl, Below.then (Below.then b2 hb34) hb9⟩
    | exact ⟨rfl, Below.then (Below.then (Below.then (Below.then (Below.then b2 hb35) hb6) hb7) hb8) hb9⟩

set_option maxRecDepth 100000 in
set_option maxHeartbeats 4000000 in
theorem turned13 (AP : ApplyOK) (IS : IsOK) (LV : LivesOK) (v v2 : Value) (A B : Arr) (w : World) (h : ArrAt w v A) (g : ArrAt w v2 B) (rA : Reach A) (rB : Reach B) : Calls Try.prog 5 #[.int .i64 13, v, v2] w fun e w' => e = .returned (.bool true) ∧ Below w.heap.size w w' := by
  have hA := h
  have hB := g
  obtain ⟨k1, s1, ls1, sc1, n1, ln1, nc1, i1, li1, ic1, rfl⟩ : ∃ k sa ls sc na ln nc ia li ic, v = .agg #[.int .i64 k, .slice sa ls sc, .slice na ln nc, .slice ia li ic] := by
    obtain ⟨k, sh, nu, it⟩ := A
    rw [ArrAt] at h
    obtain ⟨sa, sc, na, nc, ia, ic, rfl, -⟩ := h
    exact ⟨_, _, _, _, _, _, _, _, _, _, rfl⟩
  obtain ⟨k2, s2, ls2, sc2, n2, ln2, nc2, i2, li2, ic2, rfl⟩ : ∃ k sa ls sc na ln nc ia li ic, v2 = .agg #[.int .i64 k, .slice sa ls sc, .slice na ln nc, .slice ia li ic] := by
    obtain ⟨k, sh, nu, it⟩ := B
    rw [ArrAt] at g
    obtain ⟨sa, sc, na, nc, ia, ic, rfl, -⟩ := g
    exact ⟨_, _, _, _, _, _, _, _, _, _, rfl⟩
  clear h g
  have b2 := below_two w (.cells #[.int .i64 k1, .slice s1 ls1 sc1, .slice n1 ln1 nc1, .slice i1 li1 ic1] 33) (.cells #[.int .i64 k2, .slice s2 ls2 sc2, .slice n2 ln2 nc2, .slice i2 li2 ic2] 33)
  have hA2 := hA.below b2
  have hB2 := hB.below b2
  have qx : Quad ((w.alloc (.cells #[.int .i64 k1, .slice s1 ls1 sc1, .slice n1 ln1 nc1, .slice i1 li1 ic1] 33)).alloc (.cells #[.int .i64 k2, .slice s2 ls2 sc2, .slice n2 ln2 nc2, .slice i2 li2 ic2] 33)) w.heap.size (.int .i64 k1) (.slice s1 ls1 sc1) (.slice n1 ln1 nc1) (.slice i1 li1 ic1) := (Quad.new w _ _ _ _).below (below_new _ _)
  have qy : Quad ((w.alloc (.cells #[.int .i64 k1, .slice s1 ls1 sc1, .slice n1 ln1 nc1, .slice i1 li1 ic1] 33)).alloc (.cells #[.int .i64 k2, .slice s2 ls2 sc2, .slice n2 ln2 nc2, .slice i2 li2 ic2] 33)) (w.heap.size + 1) (.int .i64 k2) (.slice s2 ls2 sc2) (.slice n2 ln2 nc2) (.slice i2 li2 ic2) := by
    simpa using Quad.new (w.alloc (.cells #[.int .i64 k1, .slice s1 ls1 sc1, .slice n1 ln1 nc1, .slice i1 li1 ic1] 33)) (.int .i64 k2) (.slice s2 ls2 sc2) (.slice n2 ln2 nc2) (.slice i2 li2 ic2)
  obtain ⟨x0, x1, x2, x3, -⟩ := qx.cells
  obtain ⟨y0, y1, y2, y3, -⟩ := qy.cells
  have I1 := fun w => IS 13 w
  rw [show binB 13 = true from rfl] at I1
  have D := fun w' (a : ArrAt w' _ A) (b : ArrAt w' _ B) => AP (fun _ => True) 13 (.agg #[.int .i64 k1, .slice s1 ls1 sc1, .slice n1 ln1 nc1, .slice i1 li1 ic1]) (.agg #[.int .i64 k2, .slice s2 ls2 sc2, .slice n2 ln2 nc2, .slice i2 li2 ic2]) A B w' (fun _ _ => trivial) (at_onT a) (at_onT b) rA rB
  have M := fun w' (a : ArrAt w' _ A) (b : ArrAt w' _ B) => AP (fun _ => True) 10 (.agg #[.int .i64 k2, .slice s2 ls2 sc2, .slice n2 ln2 nc2, .slice i2 li2 ic2]) (.agg #[.int .i64 k1, .slice s1 ls1 sc1, .slice n1 ln1 nc1, .slice i1 li1 ic1]) B A w' (fun _ _ => trivial) (at_onT b) (at_onT a) rB rA
  rw [show applyA 10 B A = applyA 13 A B from (apply_turn (p := 13) rfl (by decide) A B).symm] at M
  generalize applyA 13 A B = R at D M
  obtain ⟨C, er⟩ := R
  simp only at D M
  have S1 := fun w' (a : ArrAt w' _ A) => smallL16 (.agg #[.int .i64 k1, .slice s1 ls1 sc1, .slice n1 ln1 nc1, .slice i1 li1 ic1]) A w' a
  have S2 := fun w' (b : ArrAt w' _ B) => smallL16 (.agg #[.int .i64 k2, .slice s2 ls2 sc2, .slice n2 ln2 nc2, .slice i2 li2 ic2]) B w' b
  clear AP IS hA hB
  unfold LivesOK at LV
  go_enter Try.func5, Try.ntmps5
  go_wp2_with (first
      | (go_at_call 13; (with_reducible refine Calls.mono (S1 _ hA2) ?_); intro e w3 hh; (obtain ⟨t1, rfl, hb3⟩ := hh); (have c0 := (qx.below hb3).cells); (have c1 := (qy.below hb3).cells); (obtain ⟨x30, x31, x32, x33, -⟩ := c0); (obtain ⟨y30, y31, y32, y33, -⟩ := c1))
      | (go_at_call 13; (with_reducible refine Calls.mono (S2 _ (hB2.below hb3)) ?_); intro e w4 hh; (obtain ⟨t2, rfl, hb4⟩ := hh); (have hb4' := Below.then hb3 hb4); (have c0 := (qx.below hb4').cells); (have c1 := (qy.below hb4').cells); (obtain ⟨x40, x41, x42, x43, -⟩ := c0); (obtain ⟨y40, y41, y42, y43, -⟩ := c1))
      | (go_at_call 10; (with_reducible refine Calls.mono (I1 _) ?_); rintro e w10 ⟨rfl, hb10⟩; (have hb34 := Below.then (Below.then hb3 hb4) hb10); (have c0 := (qx.below hb34).cells); (have c1 := (qy.below hb34).cells); (obtain ⟨x90, x91, x92, x93, -⟩ := c0); (obtain ⟨y90, y91, y92, y93, -⟩ := c1))
      | (go_at_call 14; (with_reducible refine Calls.mono (D _ (hA2.below hb34) (hB2.below hb34)) ?_); intro e w5 hh; (obtain ⟨k5, sa5, ls5, sc5, na5, ln5, nc5, ia5, li5, ic5, rfl, a5, hb5⟩ := hh); (have hb35 := Below.then (Below.then hb34 hb5) (below_new w5 (.cells #[.int .i64 k5, .slice sa5 ls5 sc5, .slice na5 ln5 nc5, .slice ia5 li5 ic5] 33))); (have qp := Quad.new w5 (.int .i64 k5) (.slice sa5 ls5 sc5) (.slice na5 ln5 nc5) (.slice ia5 li5 ic5)); (have ap := a5.at.below (below_new w5 (.cells #[.int .i64 k5, .slice sa5 ls5 sc5, .slice na5 ln5 nc5, .slice ia5 li5 ic5] 33))); (have c0 := (qx.below hb35).cells); (have c1 := (qy.below hb35).cells); (obtain ⟨x50, x51, x52, x53, -⟩ := c0); (obtain ⟨y50, y51, y52, y53, -⟩ := c1))
      | (go_at_call 14; (with_reducible refine Calls.mono (M _ (hA2.below hb35) (hB2.below hb35)) ?_); intro e w6 hh; (obtain ⟨k6, sa6, ls6, sc6, na6, ln6, nc6, ia6, li6, ic6, rfl, a6, hb6⟩ := hh); (have qp6 := qp.below hb6); (have hb7 := below_new w6 (.cells #[.int .i64 k6, .slice sa6 ls6 sc6, .slice na6 ln6 nc6, .slice ia6 li6 ic6] 33)); (have qq := Quad.new w6 (.int .i64 k6) (.slice sa6 ls6 sc6) (.slice na6 ln6 nc6) (.slice ia6 li6 ic6)); (have qp7 := qp6.below hb7); (have ap7 := (ap.below hb6).below hb7); (have aq7 := a6.at.below hb7); (obtain ⟨p0, p1, p2, p3, -⟩ := qp7.cells); (obtain ⟨q0, q1, q2, q3, -⟩ := qq.cells))
      | (go_at_call 16; (with_reducible refine Calls.mono (sameRX ap7 aq7) ?_); rintro e w8 ⟨rfl, hb8⟩)
      | (go_at_call 12; (with_reducible refine Calls.mono (LV _) ?_); rintro e w9 ⟨rfl, hb9⟩))
  all_goals go_ret
  all_goals first
    | exact ⟨rfl, Below.then (Below.then b2 hb3) hb9⟩
    | exact ⟨rfl, Below.then (Below.then (Below.then b2 hb3) hb4) hb9⟩
    | exact ⟨rfl, Below.then (Below.then b2 hb34) hb9⟩
    | exact ⟨rfl, Below.then (Below.then (Below.then (Below.then (Below.then b2 hb35) hb6) hb7) hb8) hb9⟩

set_option maxRecDepth 100000 in
set_option maxHeartbeats 4000000 in
theorem turned14 (AP : ApplyOK) (IS : IsOK) (LV : LivesOK) (v v2 : Value) (A B : Arr) (w : World) (h : ArrAt w v A) (g : ArrAt w v2 B) (rA : Reach A) (rB : Reach B) : Calls Try.prog 5 #[.int .i64 14, v, v2] w fun e w' => e = .returned (.bool true) ∧ Below w.heap.size w w' := by
  have hA := h
  have hB := g
  obtain ⟨k1, s1, ls1, sc1, n1, ln1, nc1, i1, li1, ic1, rfl⟩ : ∃ k sa ls sc na ln nc ia li ic, v = .agg #[.int .i64 k, .slice sa ls sc, .slice na ln nc, .slice ia li ic] := by
    obtain ⟨k, sh, nu, it⟩ := A
    rw [ArrAt] at h
    obtain ⟨sa, sc, na, nc, ia, ic, rfl, -⟩ := h
    exact ⟨_, _, _, _, _, _, _, _, _, _, rfl⟩
  obtain ⟨k2, s2, ls2, sc2, n2, ln2, nc2, i2, li2, ic2, rfl⟩ : ∃ k sa ls sc na ln nc ia li ic, v2 = .agg #[.int .i64 k, .slice sa ls sc, .slice na ln nc, .slice ia li ic] := by
    obtain ⟨k, sh, nu, it⟩ := B
    rw [ArrAt] at g
    obtain ⟨sa, sc, na, nc, ia, ic, rfl, -⟩ := g
    exact ⟨_, _, _, _, _, _, _, _, _, _, rfl⟩
  clear h g
  have b2 := below_two w (.cells #[.int .i64 k1, .slice s1 ls1 sc1, .slice n1 ln1 nc1, .slice i1 li1 ic1] 33) (.cells #[.int .i64 k2, .slice s2 ls2 sc2, .slice n2 ln2 nc2, .slice i2 li2 ic2] 33)
  have hA2 := hA.below b2
  have hB2 := hB.below b2
  have qx : Quad ((w.alloc (.cells #[.int .i64 k1, .slice s1 ls1 sc1, .slice n1 ln1 nc1, .slice i1 li1 ic1] 33)).alloc (.cells #[.int .i64 k2, .slice s2 ls2 sc2, .slice n2 ln2 nc2, .slice i2 li2 ic2] 33)) w.heap.size (.int .i64 k1) (.slice s1 ls1 sc1) (.slice n1 ln1 nc1) (.slice i1 li1 ic1) := (Quad.new w _ _ _ _).below (below_new _ _)
  have qy : Quad ((w.alloc (.cells #[.int .i64 k1, .slice s1 ls1 sc1, .slice n1 ln1 nc1, .slice i1 li1 ic1] 33)).alloc (.cells #[.int .i64 k2, .slice s2 ls2 sc2, .slice n2 ln2 nc2, .slice i2 li2 ic2] 33)) (w.heap.size + 1) (.int .i64 k2) (.slice s2 ls2 sc2) (.slice n2 ln2 nc2) (.slice i2 li2 ic2) := by
    simpa using Quad.new (w.alloc (.cells #[.int .i64 k1, .slice s1 ls1 sc1, .slice n1 ln1 nc1, .slice i1 li1 ic1] 33)) (.int .i64 k2) (.slice s2 ls2 sc2) (.slice n2 ln2 nc2) (.slice i2 li2 ic2)
  obtain ⟨x0, x1, x2, x3, -⟩ := qx.cells
  obtain ⟨y0, y1, y2, y3, -⟩ := qy.cells
  have I1 := fun w => IS 14 w
  rw [show binB 14 = true from rfl] at I1
  have D := fun w' (a : ArrAt w' _ A) (b : ArrAt w' _ B) => AP (fun _ => True) 14 (.agg #[.int .i64 k1, .slice s1 ls1 sc1, .slice n1 ln1 nc1, .slice i1 li1 ic1]) (.agg #[.int .i64 k2, .slice s2 ls2 sc2, .slice n2 ln2 nc2, .slice i2 li2 ic2]) A B w' (fun _ _ => trivial) (at_onT a) (at_onT b) rA rB
  have M := fun w' (a : ArrAt w' _ A) (b : ArrAt w' _ B) => AP (fun _ => True) 9 (.agg #[.int .i64 k2, .slice s2 ls2 sc2, .slice n2 ln2 nc2, .slice i2 li2 ic2]) (.agg #[.int .i64 k1, .slice s1 ls1 sc1, .slice n1 ln1 nc1, .slice i1 li1 ic1]) B A w' (fun _ _ => trivial) (at_onT b) (at_onT a) rB rA
  rw [show applyA 9 B A = applyA 14 A B from (apply_turn (p := 14) rfl (by decide) A B).symm] at M
  generalize applyA 14 A B = R at D M
  obtain ⟨C, er⟩ := R
  simp only at D M
  have S1 := fun w' (a : ArrAt w' _ A) => smallL16 (.agg #[.int .i64 k1, .slice s1 ls1 sc1, .slice n1 ln1 nc1, .slice i1 li1 ic1]) A w' a
  have S2 := fun w' (b : ArrAt w' _ B) => smallL16 (.agg #[.int .i64 k2, .slice s2 ls2 sc2, .slice n2 ln2 nc2, .slice i2 li2 ic2]) B w' b
  clear AP IS hA hB
  unfold LivesOK at LV
  go_enter Try.func5, Try.ntmps5
  go_wp2_with (first
      | (go_at_call 13; (with_reducible refine Calls.mono (S1 _ hA2) ?_); intro e w3 hh; (obtain ⟨t1, rfl, hb3⟩ := hh); (have c0 := (qx.below hb3).cells); (have c1 := (qy.below hb3).cells); (obtain ⟨x30, x31, x32, x33, -⟩ := c0); (obtain ⟨y30, y31, y32, y33, -⟩ := c1))
      | (go_at_call 13; (with_reducible refine Calls.mono (S2 _ (hB2.below hb3)) ?_); intro e w4 hh; (obtain ⟨t2, rfl, hb4⟩ := hh); (have hb4' := Below.then hb3 hb4); (have c0 := (qx.below hb4').cells); (have c1 := (qy.below hb4').cells); (obtain ⟨x40, x41, x42, x43, -⟩ := c0); (obtain ⟨y40, y41, y42, y43, -⟩ := c1))
      | (go_at_call 10; (with_reducible refine Calls.mono (I1 _) ?_); rintro e w10 ⟨rfl, hb10⟩; (have hb34 := Below.then (Below.then hb3 hb4) hb10); (have c0 := (qx.below hb34).cells); (have c1 := (qy.below hb34).cells); (obtain ⟨x90, x91, x92, x93, -⟩ := c0); (obtain ⟨y90, y91, y92, y93, -⟩ := c1))
      | (go_at_call 14; (with_reducible refine Calls.mono (D _ (hA2.below hb34) (hB2.below hb34)) ?_); intro e w5 hh; (obtain ⟨k5, sa5, ls5, sc5, na5, ln5, nc5, ia5, li5, ic5, rfl, a5, hb5⟩ := hh); (have hb35 := Below.then (Below.then hb34 hb5) (below_new w5 (.cells #[.int .i64 k5, .slice sa5 ls5 sc5, .slice na5 ln5 nc5, .slice ia5 li5 ic5] 33))); (have qp := Quad.new w5 (.int .i64 k5) (.slice sa5 ls5 sc5) (.slice na5 ln5 nc5) (.slice ia5 li5 ic5)); (have ap := a5.at.below (below_new w5 (.cells #[.int .i64 k5, .slice sa5 ls5 sc5, .slice na5 ln5 nc5, .slice ia5 li5 ic5] 33))); (have c0 := (qx.below hb35).cells); (have c1 := (qy.below hb35).cells); (obtain ⟨x50, x51, x52, x53, -⟩ := c0); (obtain ⟨y50, y51, y52, y53, -⟩ := c1))
      | (go_at_call 14; (with_reducible refine Calls.mono (M _ (hA2.below hb35) (hB2.below hb35)) ?_); intro e w6 hh; (obtain ⟨k6, sa6, ls6, sc6, na6, ln6, nc6, ia6, li6, ic6, rfl, a6, hb6⟩ := hh); (have qp6 := qp.below hb6); (have hb7 := below_new w6 (.cells #[.int .i64 k6, .slice sa6 ls6 sc6, .slice na6 ln6 nc6, .slice ia6 li6 ic6] 33)); (have qq := Quad.new w6 (.int .i64 k6) (.slice sa6 ls6 sc6) (.slice na6 ln6 nc6) (.slice ia6 li6 ic6)); (have qp7 := qp6.below hb7); (have ap7 := (ap.below hb6).below hb7); (have aq7 := a6.at.below hb7); (obtain ⟨p0, p1, p2, p3, -⟩ := qp7.cells); (obtain ⟨q0, q1, q2, q3, -⟩ := qq.cells))
      | (go_at_call 16; (with_reducible refine Calls.mono (sameRX ap7 aq7) ?_); rintro e w8 ⟨rfl, hb8⟩)
      | (go_at_call 12; (with_reducible refine Calls.mono (LV _) ?_); rintro e w9 ⟨rfl, hb9⟩))
  all_goals go_ret
  all_goals first
    | exact ⟨rfl, Below.then (Below.then b2 hb3) hb9⟩
    | exact ⟨rfl, Below.then (Below.then (Below.then b2 hb3) hb4) hb9⟩
    | exact ⟨rfl, Below.then (Below.then b2 hb34) hb9⟩
    | exact ⟨rfl, Below.then (Below.then (Below.then (Below.then (Below.then b2 hb35) hb6) hb7) hb8) hb9⟩

set_option maxRecDepth 100000 in
set_option maxHeartbeats 4000000 in
theorem turned15 (AP : ApplyOK) (IS : IsOK) (LV : LivesOK) (v v2 : Value) (A B : Arr) (w : World) (h : ArrAt w v A) (g : ArrAt w v2 B) (rA : Reach A) (rB : Reach B) : Calls Try.prog 5 #[.int .i64 15, v, v2] w fun e w' => e = .returned (.bool true) ∧ Below w.heap.size w w' := by
  have hA := h
  have hB := g
  obtain ⟨k1, s1, ls1, sc1, n1, ln1, nc1, i1, li1, ic1, rfl⟩ : ∃ k sa ls sc na ln nc ia li ic, v = .agg #[.int .i64 k, .slice sa ls sc, .slice na ln nc, .slice ia li ic] := by
    obtain ⟨k, sh, nu, it⟩ := A
    rw [ArrAt] at h
    obtain ⟨sa, sc, na, nc, ia, ic, rfl, -⟩ := h
    exact ⟨_, _, _, _, _, _, _, _, _, _, rfl⟩
  obtain ⟨k2, s2, ls2, sc2, n2, ln2, nc2, i2, li2, ic2, rfl⟩ : ∃ k sa ls sc na ln nc ia li ic, v2 = .agg #[.int .i64 k, .slice sa ls sc, .slice na ln nc, .slice ia li ic] := by
    obtain ⟨k, sh, nu, it⟩ := B
    rw [ArrAt] at g
    obtain ⟨sa, sc, na, nc, ia, ic, rfl, -⟩ := g
    exact ⟨_, _, _, _, _, _, _, _, _, _, rfl⟩
  clear h g
  have b2 := below_two w (.cells #[.int .i64 k1, .slice s1 ls1 sc1, .slice n1 ln1 nc1, .slice i1 li1 ic1] 33) (.cells #[.int .i64 k2, .slice s2 ls2 sc2, .slice n2 ln2 nc2, .slice i2 li2 ic2] 33)
  have hA2 := hA.below b2
  have hB2 := hB.below b2
  have qx : Quad ((w.alloc (.cells #[.int .i64 k1, .slice s1 ls1 sc1, .slice n1 ln1 nc1, .slice i1 li1 ic1] 33)).alloc (.cells #[.int .i64 k2, .slice s2 ls2 sc2, .slice n2 ln2 nc2, .slice i2 li2 ic2] 33)) w.heap.size (.int .i64 k1) (.slice s1 ls1 sc1) (.slice n1 ln1 nc1) (.slice i1 li1 ic1) := (Quad.new w _ _ _ _).below (below_new _ _)
  have qy : Quad ((w.alloc (.cells #[.int .i64 k1, .slice s1 ls1 sc1, .slice n1 ln1 nc1, .slice i1 li1 ic1] 33)).alloc (.cells #[.int .i64 k2, .slice s2 ls2 sc2, .slice n2 ln2 nc2, .slice i2 li2 ic2] 33)) (w.heap.size + 1) (.int .i64 k2) (.slice s2 ls2 sc2) (.slice n2 ln2 nc2) (.slice i2 li2 ic2) := by
    simpa using Quad.new (w.alloc (.cells #[.int .i64 k1, .slice s1 ls1 sc1, .slice n1 ln1 nc1, .slice i1 li1 ic1] 33)) (.int .i64 k2) (.slice s2 ls2 sc2) (.slice n2 ln2 nc2) (.slice i2 li2 ic2)
  obtain ⟨x0, x1, x2, x3, -⟩ := qx.cells
  obtain ⟨y0, y1, y2, y3, -⟩ := qy.cells
  have I1 := fun w => IS 15 w
  rw [show binB 15 = true from rfl] at I1
  have D := fun w' (a : ArrAt w' _ A) (b : ArrAt w' _ B) => AP (fun _ => True) 15 (.agg #[.int .i64 k1, .slice s1 ls1 sc1, .slice n1 ln1 nc1, .slice i1 li1 ic1]) (.agg #[.int .i64 k2, .slice s2 ls2 sc2, .slice n2 ln2 nc2, .slice i2 li2 ic2]) A B w' (fun _ _ => trivial) (at_onT a) (at_onT b) rA rB
  have M := fun w' (a : ArrAt w' _ A) (b : ArrAt w' _ B) => AP (fun _ => True) 15 (.agg #[.int .i64 k2, .slice s2 ls2 sc2, .slice n2 ln2 nc2, .slice i2 li2 ic2]) (.agg #[.int .i64 k1, .slice s1 ls1 sc1, .slice n1 ln1 nc1, .slice i1 li1 ic1]) B A w' (fun _ _ => trivial) (at_onT b) (at_onT a) rB rA
  rw [show applyA 15 B A = applyA 15 A B from (apply_turn (p := 15) rfl (by decide) A B).symm] at M
  generalize applyA 15 A B = R at D M
  obtain ⟨C, er⟩ := R
  simp only at D M
  have S1 := fun w' (a : ArrAt w' _ A) => smallL16 (.agg #[.int .i64 k1, .slice s1 ls1 sc1, .slice n1 ln1 nc1, .slice i1 li1 ic1]) A w' a
  have S2 := fun w' (b : ArrAt w' _ B) => smallL16 (.agg #[.int .i64 k2, .slice s2 ls2 sc2, .slice n2 ln2 nc2, .slice i2 li2 ic2]) B w' b
  clear AP IS hA hB
  unfold LivesOK at LV
  go_enter Try.func5, Try.ntmps5
  go_wp2_with (first
      | (go_at_call 13; (with_reducible refine Calls.mono (S1 _ hA2) ?_); intro e w3 hh; (obtain ⟨t1, rfl, hb3⟩ := hh); (have c0 := (qx.below hb3).cells); (have c1 := (qy.below hb3).cells); (obtain ⟨x30, x31, x32, x33, -⟩ := c0); (obtain ⟨y30, y31, y32, y33, -⟩ := c1))
      | (go_at_call 13; (with_reducible refine Calls.mono (S2 _ (hB2.below hb3)) ?_); intro e w4 hh; (obtain ⟨t2, rfl, hb4⟩ := hh); (have hb4' := Below.then hb3 hb4); (have c0 := (qx.below hb4').cells); (have c1 := (qy.below hb4').cells); (obtain ⟨x40, x41, x42, x43, -⟩ := c0); (obtain ⟨y40, y41, y42, y43, -⟩ := c1))
      | (go_at_call 10; (with_reducible refine Calls.mono (I1 _) ?_); rintro e w10 ⟨rfl, hb10⟩; (have hb34 := Below.then (Below.then hb3 hb4) hb10); (have c0 := (qx.below hb34).cells); (have c1 := (qy.below hb34).cells); (obtain ⟨x90, x91, x92, x93, -⟩ := c0); (obtain ⟨y90, y91, y92, y93, -⟩ := c1))
      | (go_at_call 14; (with_reducible refine Calls.mono (D _ (hA2.below hb34) (hB2.below hb34)) ?_); intro e w5 hh; (obtain ⟨k5, sa5, ls5, sc5, na5, ln5, nc5, ia5, li5, ic5, rfl, a5, hb5⟩ := hh); (have hb35 := Below.then (Below.then hb34 hb5) (below_new w5 (.cells #[.int .i64 k5, .slice sa5 ls5 sc5, .slice na5 ln5 nc5, .slice ia5 li5 ic5] 33))); (have qp := Quad.new w5 (.int .i64 k5) (.slice sa5 ls5 sc5) (.slice na5 ln5 nc5) (.slice ia5 li5 ic5)); (have ap := a5.at.below (below_new w5 (.cells #[.int .i64 k5, .slice sa5 ls5 sc5, .slice na5 ln5 nc5, .slice ia5 li5 ic5] 33))); (have c0 := (qx.below hb35).cells); (have c1 := (qy.below hb35).cells); (obtain ⟨x50, x51, x52, x53, -⟩ := c0); (obtain ⟨y50, y51, y52, y53, -⟩ := c1))
      | (go_at_call 14; (with_reducible refine Calls.mono (M _ (hA2.below hb35) (hB2.below hb35)) ?_); intro e w6 hh; (obtain ⟨k6, sa6, ls6, sc6, na6, ln6, nc6, ia6, li6, ic6, rfl, a6, hb6⟩ := hh); (have qp6 := qp.below hb6); (have hb7 := below_new w6 (.cells #[.int .i64 k6, .slice sa6 ls6 sc6, .slice na6 ln6 nc6, .slice ia6 li6 ic6] 33)); (have qq := Quad.new w6 (.int .i64 k6) (.slice sa6 ls6 sc6) (.slice na6 ln6 nc6) (.slice ia6 li6 ic6)); (have qp7 := qp6.below hb7); (have ap7 := (ap.below hb6).below hb7); (have aq7 := a6.at.below hb7); (obtain ⟨p0, p1, p2, p3, -⟩ := qp7.cells); (obtain ⟨q0, q1, q2, q3, -⟩ := qq.cells))
      | (go_at_call 16; (with_reducible refine Calls.mono (sameRX ap7 aq7) ?_); rintro e w8 ⟨rfl, hb8⟩)
      | (go_at_call 12; (with_reducible refine Calls.mono (LV _) ?_); rintro e w9 ⟨rfl, hb9⟩))
  all_goals go_ret
  all_goals first
    | exact ⟨rfl, Below.then (Below.then b2 hb3) hb9⟩
    | exact ⟨rfl, Below.then (Below.then (Below.then b2 hb3) hb4) hb9⟩
    | exact ⟨rfl, Below.then (Below.then b2 hb34) hb9⟩
    | exact ⟨rfl, Below.then (Below.then (Below.then (Below.then (Below.then b2 hb35) hb6) hb7) hb8) hb9⟩

set_option maxRecDepth 100000 in
set_option maxHeartbeats 4000000 in
theorem turned16 (AP : ApplyOK) (IS : IsOK) (LV : LivesOK) (v v2 : Value) (A B : Arr) (w : World) (h : ArrAt w v A) (g : ArrAt w v2 B) (rA : Reach A) (rB : Reach B) : Calls Try.prog 5 #[.int .i64 16, v, v2] w fun e w' => e = .returned (.bool true) ∧ Below w.heap.size w w' := by
  have hA := h
  have hB := g
  obtain ⟨k1, s1, ls1, sc1, n1, ln1, nc1, i1, li1, ic1, rfl⟩ : ∃ k sa ls sc na ln nc ia li ic, v = .agg #[.int .i64 k, .slice sa ls sc, .slice na ln nc, .slice ia li ic] := by
    obtain ⟨k, sh, nu, it⟩ := A
    rw [ArrAt] at h
    obtain ⟨sa, sc, na, nc, ia, ic, rfl, -⟩ := h
    exact ⟨_, _, _, _, _, _, _, _, _, _, rfl⟩
  obtain ⟨k2, s2, ls2, sc2, n2, ln2, nc2, i2, li2, ic2, rfl⟩ : ∃ k sa ls sc na ln nc ia li ic, v2 = .agg #[.int .i64 k, .slice sa ls sc, .slice na ln nc, .slice ia li ic] := by
    obtain ⟨k, sh, nu, it⟩ := B
    rw [ArrAt] at g
    obtain ⟨sa, sc, na, nc, ia, ic, rfl, -⟩ := g
    exact ⟨_, _, _, _, _, _, _, _, _, _, rfl⟩
  clear h g
  have b2 := below_two w (.cells #[.int .i64 k1, .slice s1 ls1 sc1, .slice n1 ln1 nc1, .slice i1 li1 ic1] 33) (.cells #[.int .i64 k2, .slice s2 ls2 sc2, .slice n2 ln2 nc2, .slice i2 li2 ic2] 33)
  have hA2 := hA.below b2
  have hB2 := hB.below b2
  have qx : Quad ((w.alloc (.cells #[.int .i64 k1, .slice s1 ls1 sc1, .slice n1 ln1 nc1, .slice i1 li1 ic1] 33)).alloc (.cells #[.int .i64 k2, .slice s2 ls2 sc2, .slice n2 ln2 nc2, .slice i2 li2 ic2] 33)) w.heap.size (.int .i64 k1) (.slice s1 ls1 sc1) (.slice n1 ln1 nc1) (.slice i1 li1 ic1) := (Quad.new w _ _ _ _).below (below_new _ _)
  have qy : Quad ((w.alloc (.cells #[.int .i64 k1, .slice s1 ls1 sc1, .slice n1 ln1 nc1, .slice i1 li1 ic1] 33)).alloc (.cells #[.int .i64 k2, .slice s2 ls2 sc2, .slice n2 ln2 nc2, .slice i2 li2 ic2] 33)) (w.heap.size + 1) (.int .i64 k2) (.slice s2 ls2 sc2) (.slice n2 ln2 nc2) (.slice i2 li2 ic2) := by
    simpa using Quad.new (w.alloc (.cells #[.int .i64 k1, .slice s1 ls1 sc1, .slice n1 ln1 nc1, .slice i1 li1 ic1] 33)) (.int .i64 k2) (.slice s2 ls2 sc2) (.slice n2 ln2 nc2) (.slice i2 li2 ic2)
  obtain ⟨x0, x1, x2, x3, -⟩ := qx.cells
  obtain ⟨y0, y1, y2, y3, -⟩ := qy.cells
  have I1 := fun w => IS 16 w
  rw [show binB 16 = true from rfl] at I1
  have D := fun w' (a : ArrAt w' _ A) (b : ArrAt w' _ B) => AP (fun _ => True) 16 (.agg #[.int .i64 k1, .slice s1 ls1 sc1, .slice n1 ln1 nc1, .slice i1 li1 ic1]) (.agg #[.int .i64 k2, .slice s2 ls2 sc2, .slice n2 ln2 nc2, .slice i2 li2 ic2]) A B w' (fun _ _ => trivial) (at_onT a) (at_onT b) rA rB
  have M := fun w' (a : ArrAt w' _ A) (b : ArrAt w' _ B) => AP (fun _ => True) 16 (.agg #[.int .i64 k2, .slice s2 ls2 sc2, .slice n2 ln2 nc2, .slice i2 li2 ic2]) (.agg #[.int .i64 k1, .slice s1 ls1 sc1, .slice n1 ln1 nc1, .slice i1 li1 ic1]) B A w' (fun _ _ => trivial) (at_onT b) (at_onT a) rB rA
  rw [show applyA 16 B A = applyA 16 A B from (apply_turn (p := 16) rfl (by decide) A B).symm] at M
  generalize applyA 16 A B = R at D M
  obtain ⟨C, er⟩ := R
  simp only at D M
  have S1 := fun w' (a : ArrAt w' _ A) => smallL16 (.agg #[.int .i64 k1, .slice s1 ls1 sc1, .slice n1 ln1 nc1, .slice i1 li1 ic1]) A w' a
  have S2 := fun w' (b : ArrAt w' _ B) => smallL16 (.agg #[.int .i64 k2, .slice s2 ls2 sc2, .slice n2 ln2 nc2, .slice i2 li2 ic2]) B w' b
  clear AP IS hA hB
  unfold LivesOK at LV
  go_enter Try.func5, Try.ntmps5
  go_wp2_with (first
      | (go_at_call 13; (with_reducible refine Calls.mono (S1 _ hA2) ?_); intro e w3 hh; (obtain ⟨t1, rfl, hb3⟩ := hh); (have c0 := (qx.below hb3).cells); (have c1 := (qy.below hb3).cells); (obtain ⟨x30, x31, x32, x33, -⟩ := c0); (obtain ⟨y30, y31, y32, y33, -⟩ := c1))
      | (go_at_call 13; (with_reducible refine Calls.mono (S2 _ (hB2.below hb3)) ?_); intro e w4 hh; (obtain ⟨t2, rfl, hb4⟩ := hh); (have hb4' := Below.then hb3 hb4); (have c0 := (qx.below hb4').cells); (have c1 := (qy.below hb4').cells); (obtain ⟨x40, x41, x42, x43, -⟩ := c0); (obtain ⟨y40, y41, y42, y43, -⟩ := c1))
      | (go_at_call 10; (with_reducible refine Calls.mono (I1 _) ?_); rintro e w10 ⟨rfl, hb10⟩; (have hb34 := Below.then (Below.then hb3 hb4) hb10); (have c0 := (qx.below hb34).cells); (have c1 := (qy.below hb34).cells); (obtain ⟨x90, x91, x92, x93, -⟩ := c0); (obtain ⟨y90, y91, y92, y93, -⟩ := c1))
      | (go_at_call 14; (with_reducible refine Calls.mono (D _ (hA2.below hb34) (hB2.below hb34)) ?_); intro e w5 hh; (obtain ⟨k5, sa5, ls5, sc5, na5, ln5, nc5, ia5, li5, ic5, rfl, a5, hb5⟩ := hh); (have hb35 := Below.then (Below.then hb34 hb5) (below_new w5 (.cells #[.int .i64 k5, .slice sa5 ls5 sc5, .slice na5 ln5 nc5, .slice ia5 li5 ic5] 33))); (have qp := Quad.new w5 (.int .i64 k5) (.slice sa5 ls5 sc5) (.slice na5 ln5 nc5) (.slice ia5 li5 ic5)); (have ap := a5.at.below (below_new w5 (.cells #[.int .i64 k5, .slice sa5 ls5 sc5, .slice na5 ln5 nc5, .slice ia5 li5 ic5] 33))); (have c0 := (qx.below hb35).cells); (have c1 := (qy.below hb35).cells); (obtain ⟨x50, x51, x52, x53, -⟩ := c0); (obtain ⟨y50, y51, y52, y53, -⟩ := c1))
      | (go_at_call 14; (with_reducible refine Calls.mono (M _ (hA2.below hb35) (hB2.below hb35)) ?_); intro e w6 hh; (obtain ⟨k6, sa6, ls6, sc6, na6, ln6, nc6, ia6, li6, ic6, rfl, a6, hb6⟩ := hh); (have qp6 := qp.below hb6); (have hb7 := below_new w6 (.cells #[.int .i64 k6, .slice sa6 ls6 sc6, .slice na6 ln6 nc6, .slice ia6 li6 ic6] 33)); (have qq := Quad.new w6 (.int .i64 k6) (.slice sa6 ls6 sc6) (.slice na6 ln6 nc6) (.slice ia6 li6 ic6)); (have qp7 := qp6.below hb7); (have ap7 := (ap.below hb6).below hb7); (have aq7 := a6.at.below hb7); (obtain ⟨p0, p1, p2, p3, -⟩ := qp7.cells); (obtain ⟨q0, q1, q2, q3, -⟩ := qq.cells))
      | (go_at_call 16; (with_reducible refine Calls.mono (sameRX ap7 aq7) ?_); rintro e w8 ⟨rfl, hb8⟩)
      | (go_at_call 12; (with_reducible refine Calls.mono (LV _) ?_); rintro e w9 ⟨rfl, hb9⟩))
  all_goals go_ret
  all_goals first
    | exact ⟨rfl, Below.then (Below.then b2 hb3) hb9⟩
    | exact ⟨rfl, Below.then (Below.then (Below.then b2 hb3) hb4) hb9⟩
    | exact ⟨rfl, Below.then (Below.then b2 hb34) hb9⟩
    | exact ⟨rfl, Below.then (Below.then (Below.then (Below.then (Below.then b2 hb35) hb6) hb7) hb8) hb9⟩

theorem turnedW16 (AP : ApplyOK) (IS : IsOK) (LV : LivesOK) (p : Int) (v v2 : Value) (A B : Arr) (w : World) (h : ArrAt w v A) (g : ArrAt w v2 B) (rA : Reach A) (rB : Reach B) : Calls Try.prog 5 #[.int .i64 p, v, v2] w fun e w' => e = .returned (.bool true) ∧ Below w.heap.size w w' := by
  by_cases hp : binB p = true
  · rcases bin_cases hp with rfl | rfl | rfl | rfl | rfl | rfl | rfl | rfl | rfl | rfl | rfl | rfl | rfl | rfl | rfl | rfl
    · exact turned1 AP IS LV v v2 A B w h g rA rB
    · exact turned2 AP IS LV v v2 A B w h g rA rB
    · exact turned3 AP IS LV v v2 A B w h g rA rB
    · exact turned4 AP IS LV v v2 A B w h g rA rB
    · exact turned5 AP IS LV v v2 A B w h g rA rB
    · exact turned6 AP IS LV v v2 A B w h g rA rB
    · exact turned7 AP IS LV v v2 A B w h g rA rB
    · exact turned8 AP IS LV v v2 A B w h g rA rB
    · exact turned9 AP IS LV v v2 A B w h g rA rB
    · exact turned10 AP IS LV v v2 A B w h g rA rB
    · exact turned11 AP IS LV v v2 A B w h g rA rB
    · exact turned12 AP IS LV v v2 A B w h g rA rB
    · exact turned13 AP IS LV v v2 A B w h g rA rB
    · exact turned14 AP IS LV v v2 A B w h g rA rB
    · exact turned15 AP IS LV v v2 A B w h g rA rB
    · exact turned16 AP IS LV v v2 A B w h g rA rB
  · exact turnedN AP IS LV p (by simpa using hp) v v2 A B w h g rA rB
end Go.Proofs.Ytekbdiniibmhgaa.Shape
