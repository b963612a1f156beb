/-
  Layer 16: the ways of the law BinaryExtends that ask nothing. (Written by wip/gen/binary-exw.py.)
-/
import Derived.Test.YtekbdiniibmhgaaBinExW0g
namespace Go.Proofs.Ytekbdiniibmhgaa.Shape
open Go.RowKit
set_option linter.unusedVariables false
set_option linter.unusedSimpArgs false


set_option maxRecDepth 100000 in
set_option maxHeartbeats 2000000 in
theorem exA (LV : LivesOK) (p : Int) (v v2 : Value) (A B : Arr) (w : World) (h : ArrAt w v A) (g : ArrAt w v2 B) (hE : rightE A ≠ 0) : Calls Try.prog 7 #[.int .i64 p, v, v2] w fun e w' => e = .returned (.bool true) ∧ Below w.heap.size w w' := by
  have hA := h
  have hB := g
  obtain ⟨k1, s1, ls1, sc1, n1, ln1, nc1, i1, li1, ic1, rfl⟩ : ∃ k sa ls sc na ln nc ia li ic, v = .agg #[.int .i64 k, .slice sa ls sc, .slice na ln nc, .slice ia li ic] := by
    obtain ⟨k, sh, nu, it⟩ := A
    rw [ArrAt] at h
    obtain ⟨sa, sc, na, nc, ia, ic, rfl, -⟩ := h
    exact ⟨_, _, _, _, _, _, _, _, _, _, rfl⟩
  obtain ⟨k2, s2, ls2, sc2, n2, ln2, nc2, i2, li2, ic2, rfl⟩ : ∃ k sa ls sc na ln nc ia li ic, v2 = .agg #[.int .i64 k, .slice sa ls sc, .slice na ln nc, .slice ia li ic] := by
    obtain ⟨k, sh, nu, it⟩ := B
    rw [ArrAt] at g
    obtain ⟨sa, sc, na, nc, ia, ic, rfl, -⟩ := g
    exact ⟨_, _, _, _, _, _, _, _, _, _, rfl⟩
  clear h g
  have b2 := below_two w (.cells #[.int .i64 k1, .slice s1 ls1 sc1, .slice n1 ln1 nc1, .slice i1 li1 ic1] 33) (.cells #[.int .i64 k2, .slice s2 ls2 sc2, .slice n2 ln2 nc2, .slice i2 li2 ic2] 33)
  have hA2 := hA.below b2
  have hB2 := hB.below b2
  have qx : Quad ((w.alloc (.cells #[.int .i64 k1, .slice s1 ls1 sc1, .slice n1 ln1 nc1, .slice i1 li1 ic1] 33)).alloc (.cells #[.int .i64 k2, .slice s2 ls2 sc2, .slice n2 ln2 nc2, .slice i2 li2 ic2] 33)) w.heap.size (.int .i64 k1) (.slice s1 ls1 sc1) (.slice n1 ln1 nc1) (.slice i1 li1 ic1) := (Quad.new w _ _ _ _).below (below_new _ _)
  have qy : Quad ((w.alloc (.cells #[.int .i64 k1, .slice s1 ls1 sc1, .slice n1 ln1 nc1, .slice i1 li1 ic1] 33)).alloc (.cells #[.int .i64 k2, .slice s2 ls2 sc2, .slice n2 ln2 nc2, .slice i2 li2 ic2] 33)) (w.heap.size + 1) (.int .i64 k2) (.slice s2 ls2 sc2) (.slice n2 ln2 nc2) (.slice i2 li2 ic2) := by
    simpa using Quad.new (w.alloc (.cells #[.int .i64 k1, .slice s1 ls1 sc1, .slice n1 ln1 nc1, .slice i1 li1 ic1] 33)) (.int .i64 k2) (.slice s2 ls2 sc2) (.slice n2 ln2 nc2) (.slice i2 li2 ic2)
  obtain ⟨x0, x1, x2, x3, -⟩ := qx.cells
  obtain ⟨y0, y1, y2, y3, -⟩ := qy.cells
  have S1 := fun w' (a : ArrAt w' _ A) => smallL16 (.agg #[.int .i64 k1, .slice s1 ls1 sc1, .slice n1 ln1 nc1, .slice i1 li1 ic1]) A w' a
  have S2 := fun w' (b : ArrAt w' _ B) => smallL16 (.agg #[.int .i64 k2, .slice s2 ls2 sc2, .slice n2 ln2 nc2, .slice i2 li2 ic2]) B w' b
  have R1 := fun w' (a : ArrAt w' _ A) => rightR3 (.agg #[.int .i64 k1, .slice s1 ls1 sc1, .slice n1 ln1 nc1, .slice i1 li1 ic1]) A w' a
  have R2 := fun w' (b : ArrAt w' _ B) => rightR3 (.agg #[.int .i64 k2, .slice s2 ls2 sc2, .slice n2 ln2 nc2, .slice i2 li2 ic2]) B w' b
  obtain ⟨x, hx⟩ : ∃ x, rightE A = x := ⟨_, rfl⟩
  rw [hx] at R1 hE
  have e2 : (x != 0) = true := by simpa using hE
  clear hx hE hA hB R2
  unfold LivesOK at LV
  go_enter Try.func7, Try.ntmps7
  go_wp2_with (first | (go_at_call 13; (with_reducible refine Calls.mono (S1 _ hA2) ?_); intro e w3 hh; (obtain ⟨t1, rfl, hb3⟩ := hh); (have c0 := (qx.below hb3).cells); (have c1 := (qy.below hb3).cells); (obtain ⟨x30, x31, x32, x33, -⟩ := c0); (obtain ⟨y30, y31, y32, y33, -⟩ := c1)) | (go_at_call 13; (with_reducible refine Calls.mono (S2 _ (hB2.below hb3)) ?_); intro e w4 hh; (obtain ⟨t2, rfl, hb4⟩ := hh); (have hb34 := Below.then hb3 hb4); (have c0 := (qx.below hb34).cells); (have c1 := (qy.below hb34).cells); (obtain ⟨x40, x41, x42, x43, -⟩ := c0); (obtain ⟨y40, y41, y42, y43, -⟩ := c1)) | (go_at_call 17; (with_reducible refine Calls.mono (R1 _ (hA2.below hb34)) ?_); rintro e w5 ⟨rfl, hb5⟩; (have hb35 := Below.then hb34 hb5); (have c0 := (qx.below hb35).cells); (have c1 := (qy.below hb35).cells); (obtain ⟨x50, x51, x52, x53, -⟩ := c0); (obtain ⟨y50, y51, y52, y53, -⟩ := c1)) | (go_at_call 12; (with_reducible refine Calls.mono (LV _) ?_); rintro e w9 ⟨rfl, hb9⟩))
  all_goals go_ret
  all_goals first
    | exact ⟨rfl, Below.then (Below.then b2 hb36) hb9⟩
    | exact ⟨rfl, Below.then (Below.then b2 hb35) hb9⟩
    | exact ⟨rfl, Below.then (Below.then b2 hb34) hb9⟩
    | exact ⟨rfl, Below.then (Below.then b2 hb3) hb9⟩

set_option maxRecDepth 100000 in
set_option maxHeartbeats 2000000 in
theorem exB (LV : LivesOK) (p : Int) (v v2 : Value) (A B : Arr) (w : World) (h : ArrAt w v A) (g : ArrAt w v2 B) (hE1 : rightE A = 0) (hE : rightE B ≠ 0) : Calls Try.prog 7 #[.int .i64 p, v, v2] w fun e w' => e = .returned (.bool true) ∧ Below w.heap.size w w' := by
  have hA := h
  have hB := g
  obtain ⟨k1, s1, ls1, sc1, n1, ln1, nc1, i1, li1, ic1, rfl⟩ : ∃ k sa ls sc na ln nc ia li ic, v = .agg #[.int .i64 k, .slice sa ls sc, .slice na ln nc, .slice ia li ic] := by
    obtain ⟨k, sh, nu, it⟩ := A
    rw [ArrAt] at h
    obtain ⟨sa, sc, na, nc, ia, ic, rfl, -⟩ := h
    exact ⟨_, _, _, _, _, _, _, _, _, _, rfl⟩
  obtain ⟨k2, s2, ls2, sc2, n2, ln2, nc2, i2, li2, ic2, rfl⟩ : ∃ k sa ls sc na ln nc ia li ic, v2 = .agg #[.int .i64 k, .slice sa ls sc, .slice na ln nc, .slice ia li ic] := by
    obtain ⟨k, sh, nu, it⟩ := B
    rw [ArrAt] at g
    obtain ⟨sa, sc, na, nc, ia, ic, rfl, -⟩ := g
    exact ⟨_, _, _, _, _, _, _, _, _, _, rfl⟩
  clear h g
  have b2 := below_two w (.cells #[.int .i64 k1, .slice s1 ls1 sc1, .slice n1 ln1 nc1, .slice i1 li1 ic1] 33) (.cells #[.int .i64 k2, .slice s2 ls2 sc2, .slice n2 ln2 nc2, .slice i2 li2 ic2] 33)
  have hA2 := hA.below b2
  have hB2 := hB.below b2
  have qx : Quad ((w.alloc (.cells #[.int .i64 k1, .slice s1 ls1 sc1, .slice n1 ln1 nc1, .slice i1 li1 ic1] 33)).alloc (.cells #[.int .i64 k2, .slice s2 ls2 sc2, .slice n2 ln2 nc2, .slice i2 li2 ic2] 33)) w.heap.size (.int .i64 k1) (.slice s1 ls1 sc1) (.slice n1 ln1 nc1) (.slice i1 li1 ic1) := (Quad.new w _ _ _ _).below (below_new _ _)
  have qy : Quad ((w.alloc (.cells #[.int .i64 k1, .slice s1 ls1 sc1, .slice n1 ln1 nc1, .slice i1 li1 ic1] 33)).alloc (.cells #[.int .i64 k2, .slice s2 ls2 sc2, .slice n2 ln2 nc2, .slice i2 li2 ic2] 33)) (w.heap.size + 1) (.int .i64 k2) (.slice s2 ls2 sc2) (.slice n2 ln2 nc2) (.slice i2 li2 ic2) := by
    simpa using Quad.new (w.alloc (.cells #[.int .i64 k1, .slice s1 ls1 sc1, .slice n1 ln1 nc1, .slice i1 li1 ic1] 33)) (.int .i64 k2) (.slice s2 ls2 sc2) (.slice n2 ln2 nc2) (.slice i2 li2 ic2)
  obtain ⟨x0, x1, x2, x3, -⟩ := qx.cells
  obtain ⟨y0, y1, y2, y3, -⟩ := qy.cells
  have S1 := fun w' (a : ArrAt w' _ A) => smallL16 (.agg #[.int .i64 k1, .slice s1 ls1 sc1, .slice n1 ln1 nc1, .slice i1 li1 ic1]) A w' a
  have S2 := fun w' (b : ArrAt w' _ B) => smallL16 (.agg #[.int .i64 k2, .slice s2 ls2 sc2, .slice n2 ln2 nc2, .slice i2 li2 ic2]) B w' b
  have R1 := fun w' (a : ArrAt w' _ A) => rightR3 (.agg #[.int .i64 k1, .slice s1 ls1 sc1, .slice n1 ln1 nc1, .slice i1 li1 ic1]) A w' a
  have R2 := fun w' (b : ArrAt w' _ B) => rightR3 (.agg #[.int .i64 k2, .slice s2 ls2 sc2, .slice n2 ln2 nc2, .slice i2 li2 ic2]) B w' b
  obtain ⟨x, hx⟩ : ∃ x, rightE B = x := ⟨_, rfl⟩
  rw [hx] at R2 hE
  rw [hE1] at R1
  have e2 : (x != 0) = true := by simpa using hE
  clear hx hE hE1 hA hB
  unfold LivesOK at LV
  go_enter Try.func7, Try.ntmps7
  go_wp2_with (first | (go_at_call 13; (with_reducible refine Calls.mono (S1 _ hA2) ?_); intro e w3 hh; (obtain ⟨t1, rfl, hb3⟩ := hh); (have c0 := (qx.below hb3).cells); (have c1 := (qy.below hb3).cells); (obtain ⟨x30, x31, x32, x33, -⟩ := c0); (obtain ⟨y30, y31, y32, y33, -⟩ := c1)) | (go_at_call 13; (with_reducible refine Calls.mono (S2 _ (hB2.below hb3)) ?_); intro e w4 hh; (obtain ⟨t2, rfl, hb4⟩ := hh); (have hb34 := Below.then hb3 hb4); (have c0 := (qx.below hb34).cells); (have c1 := (qy.below hb34).cells); (obtain ⟨x40, x41, x42, x43, -⟩ := c0); (obtain ⟨y40, y41, y42, y43, -⟩ := c1)) | (go_at_call 17; (with_reducible refine Calls.mono (R1 _ (hA2.below hb34)) ?_); rintro e w5 ⟨rfl, hb5⟩; (have hb35 := Below.then hb34 hb5); (have c0 := (qx.below hb35).cells); (have c1 := (qy.below hb35).cells); (obtain ⟨x50, x51, x52, x53, -⟩ := c0); (obtain ⟨y50, y51, y52, y53, -⟩ := c1)) | (go_at_call 17; (with_reducible refine Calls.mono (R2 _ (hB2.below hb35)) ?_); rintro e w6 ⟨rfl, hb6⟩; (have hb36 := Below.then hb35 hb6); (have c0 := (qx.below hb36).cells); (have c1 := (qy.below hb36).cells); (obtain ⟨x60, x61, x62, x63, -⟩ := c0); (obtain ⟨y60, y61, y62, y63, -⟩ := c1)) | (go_at_call 12; (with_reducible refine Calls.mono (LV _) ?_); rintro e w9 ⟨rfl, hb9⟩))
  all_goals go_ret
  all_goals first
    | exact ⟨rfl, Below.then (Below.then b2 hb36) hb9⟩
    | exact ⟨rfl, Below.then (Below.then b2 hb35) hb9⟩
    | exact ⟨rfl, Below.then (Below.then b2 hb34) hb9⟩
    | exact ⟨rfl, Below.then (Below.then b2 hb3) hb9⟩

set_option maxRecDepth 100000 in
set_option maxHeartbeats 2000000 in
theorem exC (LV : LivesOK) (p : Int) (v v2 : Value) (A B : Arr) (w : World) (h : ArrAt w v A) (g : ArrAt w v2 B) (hE1 : rightE A = 0) (hE2 : rightE B = 0) (hs : A.shape ≠ []) : Calls Try.prog 7 #[.int .i64 p, v, v2] w fun e w' => e = .returned (.bool true) ∧ Below w.heap.size w w' := by
  have hA := h
  have hB := g
  obtain ⟨k1, s1, ls1, sc1, n1, ln1, nc1, i1, li1, ic1, rfl⟩ : ∃ k sa ls sc na ln nc ia li ic, v = .agg #[.int .i64 k, .slice sa ls sc, .slice na ln nc, .slice ia li ic] := by
    obtain ⟨k, sh, nu, it⟩ := A
    rw [ArrAt] at h
    obtain ⟨sa, sc, na, nc, ia, ic, rfl, -⟩ := h
    exact ⟨_, _, _, _, _, _, _, _, _, _, rfl⟩
  obtain ⟨k2, s2, ls2, sc2, n2, ln2, nc2, i2, li2, ic2, rfl⟩ : ∃ k sa ls sc na ln nc ia li ic, v2 = .agg #[.int .i64 k, .slice sa ls sc, .slice na ln nc, .slice ia li ic] := by
    obtain ⟨k, sh, nu, it⟩ := B
    rw [ArrAt] at g
    obtain ⟨sa, sc, na, nc, ia, ic, rfl, -⟩ := g
    exact ⟨_, _, _, _, _, _, _, _, _, _, rfl⟩
  clear h g
  have b2 := below_two w (.cells #[.int .i64 k1, .slice s1 ls1 sc1, .slice n1 ln1 nc1, .slice i1 li1 ic1] 33) (.cells #[.int .i64 k2, .slice s2 ls2 sc2, .slice n2 ln2 nc2, .slice i2 li2 ic2] 33)
  have hA2 := hA.below b2
  have hB2 := hB.below b2
  have qx : Quad ((w.alloc (.cells #[.int .i64 k1, .slice s1 ls1 sc1, .slice n1 ln1 nc1, .slice i1 li1 ic1] 33)).alloc (.cells #[.int .i64 k2, .slice s2 ls2 sc2, .slice n2 ln2 nc2, .slice i2 li2 ic2] 33)) w.heap.size (.int .i64 k1) (.slice s1 ls1 sc1) (.slice n1 ln1 nc1) (.slice i1 li1 ic1) := (Quad.new w _ _ _ _).below (below_new _ _)
  have qy : Quad ((w.alloc (.cells #[.int .i64 k1, .slice s1 ls1 sc1, .slice n1 ln1 nc1, .slice i1 li1 ic1] 33)).alloc (.cells #[.int .i64 k2, .slice s2 ls2 sc2, .slice n2 ln2 nc2, .slice i2 li2 ic2] 33)) (w.heap.size + 1) (.int .i64 k2) (.slice s2 ls2 sc2) (.slice n2 ln2 nc2) (.slice i2 li2 ic2) := by
    simpa using Quad.new (w.alloc (.cells #[.int .i64 k1, .slice s1 ls1 sc1, .slice n1 ln1 nc1, .slice i1 li1 ic1] 33)) (.int .i64 k2) (.slice s2 ls2 sc2) (.slice n2 ln2 nc2) (.slice i2 li2 ic2)
  obtain ⟨x0, x1, x2, x3, -⟩ := qx.cells
  obtain ⟨y0, y1, y2, y3, -⟩ := qy.cells
  have S1 := fun w' (a : ArrAt w' _ A) => smallL16 (.agg #[.int .i64 k1, .slice s1 ls1 sc1, .slice n1 ln1 nc1, .slice i1 li1 ic1]) A w' a
  have S2 := fun w' (b : ArrAt w' _ B) => smallL16 (.agg #[.int .i64 k2, .slice s2 ls2 sc2, .slice n2 ln2 nc2, .slice i2 li2 ic2]) B w' b
  have R1 := fun w' (a : ArrAt w' _ A) => rightR3 (.agg #[.int .i64 k1, .slice s1 ls1 sc1, .slice n1 ln1 nc1, .slice i1 li1 ic1]) A w' a
  have R2 := fun w' (b : ArrAt w' _ B) => rightR3 (.agg #[.int .i64 k2, .slice s2 ls2 sc2, .slice n2 ln2 nc2, .slice i2 li2 ic2]) B w' b
  obtain ⟨ek, el⟩ : k1 = A.kind ∧ ls1 = A.shape.length := by
    obtain ⟨k, sh, nu, it⟩ := A
    have hh := hA
    rw [ArrAt] at hh
    obtain ⟨sa, sc, na, nc, ia, ic, hv, -⟩ := hh
    simp only [Value.agg.injEq, Array.mk.injEq, List.cons.injEq, Value.int.injEq, Value.slice.injEq] at hv
    exact ⟨hv.1.2, hv.2.1.2.1⟩
  have hl : 0 < ls1 := by rw [el]; exact List.length_pos_iff.2 hs
  have hl2 : (0 : Int) < (ls1 : Int) := by omega
  rw [hE1] at R1
  rw [hE2] at R2
  clear hE1 hE2 hA hB ek el hs
  unfold LivesOK at LV
  go_enter Try.func7, Try.ntmps7
  go_wp2_with (first | (go_at_call 13; (with_reducible refine Calls.mono (S1 _ hA2) ?_); intro e w3 hh; (obtain ⟨t1, rfl, hb3⟩ := hh); (have c0 := (qx.below hb3).cells); (have c1 := (qy.below hb3).cells); (obtain ⟨x30, x31, x32, x33, -⟩ := c0); (obtain ⟨y30, y31, y32, y33, -⟩ := c1)) | (go_at_call 13; (with_reducible refine Calls.mono (S2 _ (hB2.below hb3)) ?_); intro e w4 hh; (obtain ⟨t2, rfl, hb4⟩ := hh); (have hb34 := Below.then hb3 hb4); (have c0 := (qx.below hb34).cells); (have c1 := (qy.below hb34).cells); (obtain ⟨x40, x41, x42, x43, -⟩ := c0); (obtain ⟨y40, y41, y42, y43, -⟩ := c1)) | (go_at_call 17; (with_reducible refine Calls.mono (R1 _ (hA2.below hb34)) ?_); rintro e w5 ⟨rfl, hb5⟩; (have hb35 := Below.then hb34 hb5); (have c0 := (qx.below hb35).cells); (have c1 := (qy.below hb35).cells); (obtain ⟨x50, x51, x52, x53, -⟩ := c0); (obtain ⟨y50, y51, y52, y53, -⟩ := c1)) | (go_at_call 17; (with_reducible refine Calls.mono (R2 _ (hB2.below hb35)) ?_); rintro e w6 ⟨rfl, hb6⟩; (have hb36 := Below.then hb35 hb6); (have c0 := (qx.below hb36).cells); (have c1 := (qy.below hb36).cells); (obtain ⟨x60, x61, x62, x63, -⟩ := c0); (obtain ⟨y60, y61, y62, y63, -⟩ := c1)) | (go_at_call 12; (with_reducible refine Calls.mono (LV _) ?_); rintro e w9 ⟨rfl, hb9⟩))
  all_goals go_ret
  all_goals first
    | exact ⟨rfl, Below.then (Below.then b2 hb36) hb9⟩
    | exact ⟨rfl, Below.then (Below.then b2 hb35) hb9⟩
    | exact ⟨rfl, Below.then (Below.then b2 hb34) hb9⟩
    | exact ⟨rfl, Below.then (Below.then b2 hb3) hb9⟩

set_option maxRecDepth 100000 in
set_option maxHeartbeats 2000000 in
theorem exD (LV : LivesOK) (p : Int) (v v2 : Value) (A B : Arr) (w : World) (h : ArrAt w v A) (g : ArrAt w v2 B) (hE1 : rightE A = 0) (hE2 : rightE B = 0) (hs : A.shape = []) (hk : A.kind = 3) : Calls Try.prog 7 #[.int .i64 p, v, v2] w fun e w' => e = .returned (.bool true) ∧ Below w.heap.size w w' := by
  have hA := h
  have hB := g
  obtain ⟨k1, s1, ls1, sc1, n1, ln1, nc1, i1, li1, ic1, rfl⟩ : ∃ k sa ls sc na ln nc ia li ic, v = .agg #[.int .i64 k, .slice sa ls sc, .slice na ln nc, .slice ia li ic] := by
    obtain ⟨k, sh, nu, it⟩ := A
    rw [ArrAt] at h
    obtain ⟨sa, sc, na, nc, ia, ic, rfl, -⟩ := h
    exact ⟨_, _, _, _, _, _, _, _, _, _, rfl⟩
  obtain ⟨k2, s2, ls2, sc2, n2, ln2, nc2, i2, li2, ic2, rfl⟩ : ∃ k sa ls sc na ln nc ia li ic, v2 = .agg #[.int .i64 k, .slice sa ls sc, .slice na ln nc, .slice ia li ic] := by
    obtain ⟨k, sh, nu, it⟩ := B
    rw [ArrAt] at g
    obtain ⟨sa, sc, na, nc, ia, ic, rfl, -⟩ := g
    exact ⟨_, _, _, _, _, _, _, _, _, _, rfl⟩
  clear h g
  have b2 := below_two w (.cells #[.int .i64 k1, .slice s1 ls1 sc1, .slice n1 ln1 nc1, .slice i1 li1 ic1] 33) (.cells #[.int .i64 k2, .slice s2 ls2 sc2, .slice n2 ln2 nc2, .slice i2 li2 ic2] 33)
  have hA2 := hA.below b2
  have hB2 := hB.below b2
  have qx : Quad ((w.alloc (.cells #[.int .i64 k1, .slice s1 ls1 sc1, .slice n1 ln1 nc1, .slice i1 li1 ic1] 33)).alloc (.cells #[.int .i64 k2, .slice s2 ls2 sc2, .slice n2 ln2 nc2, .slice i2 li2 ic2] 33)) w.heap.size (.int .i64 k1) (.slice s1 ls1 sc1) (.slice n1 ln1 nc1) (.slice i1 li1 ic1) := (Quad.new w _ _ _ _).below (below_new _ _)
  have qy : Quad ((w.alloc (.cells #[.int .i64 k1, .slice s1 ls1 sc1, .slice n1 ln1 nc1, .slice i1 li1 ic1] 33)).alloc (.cells #[.int .i64 k2, .slice s2 ls2 sc2, .slice n2 ln2 nc2, .slice i2 li2 ic2] 33)) (w.heap.size + 1) (.int .i64 k2) (.slice s2 ls2 sc2) (.slice n2 ln2 nc2) (.slice i2 li2 ic2) := by
    simpa using Quad.new (w.alloc (.cells #[.int .i64 k1, .slice s1 ls1 sc1, .slice n1 ln1 nc1, .slice i1 li1 ic1] 33)) (.int .i64 k2) (.slice s2 ls2 sc2) (.slice n2 ln2 nc2) (.slice i2 li2 ic2)
  obtain ⟨x0, x1, x2, x3, -⟩ := qx.cells
  obtain ⟨y0, y1, y2, y3, -⟩ := qy.cells
  have S1 := fun w' (a : ArrAt w' _ A) => smallL16 (.agg #[.int .i64 k1, .slice s1 ls1 sc1, .slice n1 ln1 nc1, .slice i1 li1 ic1]) A w' a
  have S2 := fun w' (b : ArrAt w' _ B) => smallL16 (.agg #[.int .i64 k2, .slice s2 ls2 sc2, .slice n2 ln2 nc2, .slice i2 li2 ic2]) B w' b
  have R1 := fun w' (a : ArrAt w' _ A) => rightR3 (.agg #[.int .i64 k1, .slice s1 ls1 sc1, .slice n1 ln1 nc1, .slice i1 li1 ic1]) A w' a
  have R2 := fun w' (b : ArrAt w' _ B) => rightR3 (.agg #[.int .i64 k2, .slice s2 ls2 sc2, .slice n2 ln2 nc2, .slice i2 li2 ic2]) B w' b
  obtain ⟨ek, el⟩ : k1 = A.kind ∧ ls1 = A.shape.length := by
    obtain ⟨k, sh, nu, it⟩ := A
    have hh := hA
    rw [ArrAt] at hh
    obtain ⟨sa, sc, na, nc, ia, ic, hv, -⟩ := hh
    simp only [Value.agg.injEq, Array.mk.injEq, List.cons.injEq, Value.int.injEq, Value.slice.injEq] at hv
    exact ⟨hv.1.2, hv.2.1.2.1⟩
  rw [hs] at el
  rw [hk] at ek
  subst ek
  replace el : ls1 = 0 := el
  subst el
  rw [hE1] at R1
  rw [hE2] at R2
  clear hE1 hE2 hA hB hs hk
  unfold LivesOK at LV
  go_enter Try.func7, Try.ntmps7
  go_wp2_with (first | (go_at_call 13; (with_reducible refine Calls.mono (S1 _ hA2) ?_); intro e w3 hh; (obtain ⟨t1, rfl, hb3⟩ := hh); (have c0 := (qx.below hb3).cells); (have c1 := (qy.below hb3).cells); (obtain ⟨x30, x31, x32, x33, -⟩ := c0); (obtain ⟨y30, y31, y32, y33, -⟩ := c1)) | (go_at_call 13; (with_reducible refine Calls.mono (S2 _ (hB2.below hb3)) ?_); intro e w4 hh; (obtain ⟨t2, rfl, hb4⟩ := hh); (have hb34 := Below.then hb3 hb4); (have c0 := (qx.below hb34).cells); (have c1 := (qy.below hb34).cells); (obtain ⟨x40, x41, x42, x43, -⟩ := c0); (obtain ⟨y40, y41, y42, y43, -⟩ := c1)) | (go_at_call 17; (with_reducible refine Calls.mono (R1 _ (hA2.below hb34)) ?_); rintro e w5 ⟨rfl, hb5⟩; (have hb35 := Below.then hb34 hb5); (have c0 := (qx.below hb35).cells); (have c1 := (qy.below hb35).cells); (obtain ⟨x50, x51, x52, x53, -⟩ := c0); (obtain ⟨y50, y51, y52, y53, -⟩ := c1)) | (go_at_call 17; (with_reducible refine Calls.mono (R2 _ (hB2.below hb35)) ?_); rintro e w6 ⟨rfl, hb6⟩; (have hb36 := Below.then hb35 hb6); (have c0 := (qx.below hb36).cells); (have c1 := (qy.below hb36).cells); (obtain ⟨x60, x61, x62, x63, -⟩ := c0); (obtain ⟨y60, y61, y62, y63, -⟩ := c1)) | (go_at_call 12; (with_reducible refine Calls.mono (LV _) ?_); rintro e w9 ⟨rfl, hb9⟩))
  all_goals go_ret
  all_goals first
    | exact ⟨rfl, Below.then (Below.then b2 hb36) hb9⟩
    | exact ⟨rfl, Below.then (Below.then b2 hb35) hb9⟩
    | exact ⟨rfl, Below.then (Below.then b2 hb34) hb9⟩
    | exact ⟨rfl, Below.then (Below.then b2 hb3) hb9⟩

end Go.Proofs.Ytekbdiniibmhgaa.Shape
