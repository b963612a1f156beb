/-
  Layer 6: the program's comparison of two elements.
  Layer 6: the program's recursive closure over the offsets of both arrays.
  Layer 6: the program's Compare and Less, over what compare answers.
  Layer 6: the reference's sign and shapes.
  Layer 6: the reference's contents, where no axis is left.
-/
import Derived.Test.YtkjbccodahleoaaBd18
import Derived.Test.YtkjbccodahleoaaBd22
import Derived.Test.YtkjbccodahleoaaBd23
import Derived.Deep.RegionHeld3
import Derived.StillTailTactics
import Derived.OwnWalk
import Derived.Test.YtkjbccodahleoaaBd7
namespace Go.Proofs.Ytkjbccodahleoaa.Shape
open Go.RowKit
set_option linter.unusedVariables false

/-- What compare is to answer of arrays of a rank of nesting up to n. -/
def CmpSpec (n : Nat) : Prop := ∀ (v v2 : Value) (A B : Arr) (w : World), rk A ≤ n → rightE A = 0 → rightE B = 0 → ArrAt w v A → ArrAt w v2 B →
  Calls Try.prog 77 #[v, v2] w fun e w' => e = .returned (.int .i64 (cmpF n A B)) ∧ Below w.heap.size w w'
/-- The cells of an array's value. -/
theorem arr_cellsO {w : World} {v : Value} {A : Arr} (h : ArrAt w v A) : ∃ sa sc na nc ia ic, v = .agg #[.int .i64 A.kind, .slice sa A.shape.length sc, .slice na A.nums.length nc, .slice ia A.items.length ic] ∧ IntsAt w sa sc A.shape ∧ IntsAt w na nc A.nums := by
  obtain ⟨k, sh, nu, it⟩ := A
  rw [ArrAt] at h
  obtain ⟨sa, sc, na, nc, ia, ic, hv, -, hs, hn, -⟩ := h
  exact ⟨sa, sc, na, nc, ia, ic, hv, hs, hn⟩

set_option maxHeartbeats 1000000 in
theorem elemsN (n : Nat) (v v2 : Value) (A B : Arr) (w : World) (i k : Nat) (hk : A.kind ≠ 3) (hA : ArrAt w v A) (hB : ArrAt w v2 B) (hi : i < A.nums.length) (hj : k < B.nums.length) :
    Calls Try.prog 100 #[v, v2, .int .i64 i, .int .i64 k] w fun e w' => e = .returned (.int .i64 (elS n A B i k)) ∧ Below w.heap.size w w' := by
  have e : elS n A B i k = sgn A.nums[i] B.nums[k] := by
    unfold elS
    rw [if_neg hk, List.getD_eq_getElem?_getD, List.getD_eq_getElem?_getD]
    simp [hi, hj]
  rw [e]
  clear e
  obtain ⟨sa, sc, na, nc, ia, ic, rfl, -, hn⟩ := arr_cellsO hA
  obtain ⟨sa2, sc2, na2, nc2, ia2, ic2, rfl, -, hn2⟩ := arr_cellsO hB
  obtain ⟨fb, fo, hx, hc⟩ := hn.at hi
  obtain ⟨gb, gp, hy, hd⟩ := hn2.at hj
  obtain ⟨x, ex⟩ : ∃ x, A.nums[i] = x := ⟨_, rfl⟩
  obtain ⟨y, ey⟩ : ∃ y, B.nums[k] = y := ⟨_, rfl⟩
  rw [ex] at hc ⊢
  rw [ey] at hd ⊢
  have kb : (A.kind == 3) = false := by simpa using hk
  have hl1 := hn.len
  have hl2 := hn2.len
  have hil : Hid (i < A.nums.length) := hi
  have hjl : Hid (k < B.nums.length) := hj
  clear ex ey hA hB hi hj hk hn hn2
  generalize A.kind = ka at *
  generalize B.kind = kk at *
  generalize A.nums.length = la at *
  generalize B.nums.length = lb at *
  generalize A.shape.length = la1 at *
  generalize B.shape.length = lb1 at *
  generalize A.items.length = la2 at *
  generalize B.items.length = lb2 at *
  have bw := below_two w (.cells #[.int .i64 ka, .slice sa la1 sc, .slice na la nc, .slice ia la2 ic] 26) (.cells #[.int .i64 kk, .slice sa2 lb1 sc2, .slice na2 lb nc2, .slice ia2 lb2 ic2] 26)
  have q0 := (Quad.new w (.int .i64 ka) (.slice sa la1 sc) (.slice na la nc) (.slice ia la2 ic)).below (below_new _ (.cells #[.int .i64 kk, .slice sa2 lb1 sc2, .slice na2 lb nc2, .slice ia2 lb2 ic2] 26))
  have q1 : Quad ((w.alloc (.cells #[.int .i64 ka, .slice sa la1 sc, .slice na la nc, .slice ia la2 ic] 26)).alloc (.cells #[.int .i64 kk, .slice sa2 lb1 sc2, .slice na2 lb nc2, .slice ia2 lb2 ic2] 26)) (w.heap.size + 1) (.int .i64 kk) (.slice sa2 lb1 sc2) (.slice na2 lb nc2) (.slice ia2 lb2 ic2) := by simpa using Quad.new (w.alloc (.cells #[.int .i64 ka, .slice sa la1 sc, .slice na la nc, .slice ia la2 ic] 26)) (.int .i64 kk) (.slice sa2 lb1 sc2) (.slice na2 lb nc2) (.slice ia2 lb2 ic2)
  have hc' := (bw.cell (cell_lt hc)).trans hc
  have hd' := (bw.cell (cell_lt hd)).trans hd
  obtain ⟨p0, p1, p2, p3, -⟩ := q0.cells
  obtain ⟨r0, r1, r2, r3, -⟩ := q1.cells
  clear hc hd q0 q1
  go_enter Try.func100, Try.ntmps100
  go_wp2_with fail
  generalize ((w.alloc (.cells #[.int .i64 ka, .slice sa la1 sc, .slice na la nc, .slice ia la2 ic] 26)).alloc (.cells #[.int .i64 kk, .slice sa2 lb1 sc2, .slice na2 lb nc2, .slice ia2 lb2 ic2] 26)) = W at *
  go_region_held3 (fun w' => w'.cell? ⟨w.heap.size, 2, none⟩ = some (.slice na la nc) ∧ w'.cell? ⟨w.heap.size + 1, 2, none⟩ = some (.slice na2 lb nc2) ∧ w'.cell? ⟨fb, fo + i, none⟩ = some (.int .i64 x) ∧ w'.cell? ⟨gb, gp + k, none⟩ = some (.int .i64 y))
    (go_keep)
    (first | (go_at_call 89; (with_reducible refine (cmpI x y _).mono ?_); rintro e w1 ⟨rfl, rfl⟩))
  go_wp2_with fail
  go_ret
  exact ⟨rfl, Below.then bw (below_drew _)⟩
set_option maxRecDepth 100000 in
set_option maxHeartbeats 1000000 in
theorem elemsB (n : Nat) (ih : CmpSpec n) (v v2 : Value) (A B : Arr) (w : World) (i k : Nat) (hk : A.kind = 3) (hA : ArrAt w v A) (hB : ArrAt w v2 B) (hi : i < A.items.length) (hj : k < B.items.length) (hr : rk A ≤ n + 1) (hxA : rightE A = 0) (hxB : rightE B = 0) :
    Calls Try.prog 100 #[v, v2, .int .i64 i, .int .i64 k] w fun e w' => e = .returned (.int .i64 (elS n A B i k)) ∧ Below w.heap.size w w' := by
  have e : elS n A B i k = cmpF n A.items[i] B.items[k] := by
    unfold elS
    rw [if_pos hk, List.getD_eq_getElem?_getD, List.getD_eq_getElem?_getD]
    simp [hi, hj]
  rw [e]
  clear e
  have hrk : rk A.items[i] ≤ n := by
    obtain ⟨ka, sh, nu, it⟩ := A
    exact Nat.le_of_lt_succ (Nat.lt_of_lt_of_le (rk_item hi) hr)
  have hR1 : rightE A.items[i] = 0 := ((right_more hxA).2 _ (List.getElem_mem hi)).1
  have hR2 : rightE B.items[k] = 0 := ((right_more hxB).2 _ (List.getElem_mem hj)).1
  obtain ⟨sa, sc, na, nc, ia, ic, rfl, -, -⟩ := arr_cellsO hA
  obtain ⟨sa2, sc2, na2, nc2, ia2, ic2, rfl, -, -⟩ := arr_cellsO hB
  obtain ⟨fb, fo, d0, d1, d2, d3, hx, ⟨g0, g1, g2, g3⟩, hI⟩ := items_ix hA hi
  obtain ⟨gb, gp, e0, e1, e2, e3, hy, ⟨h0, h1, h2, h3⟩, hJ⟩ := items_ix hB hj
  have kb : (A.kind == 3) = true := by rw [hk]; rfl
  have HC := fun w' (g : ArrAt w' (.agg #[d0, d1, d2, d3]) A.items[i]) (g' : ArrAt w' (.agg #[e0, e1, e2, e3]) B.items[k]) => ih _ _ _ _ w' hrk hR1 hR2 g g'
  generalize A.items[i] = X at *
  generalize B.items[k] = Y at *
  clear hA hB hk hr hxA hxB hi hj hrk hR1 hR2
  generalize A.kind = ka at *
  generalize B.kind = kk at *
  generalize A.nums.length = la at *
  generalize B.nums.length = lb at *
  generalize A.shape.length = la1 at *
  generalize B.shape.length = lb1 at *
  generalize A.items.length = la2 at *
  generalize B.items.length = lb2 at *
  have bw := below_two w (.cells #[.int .i64 ka, .slice sa la1 sc, .slice na la nc, .slice ia la2 ic] 26) (.cells #[.int .i64 kk, .slice sa2 lb1 sc2, .slice na2 lb nc2, .slice ia2 lb2 ic2] 26)
  have q0 := (Quad.new w (.int .i64 ka) (.slice sa la1 sc) (.slice na la nc) (.slice ia la2 ic)).below (below_new _ (.cells #[.int .i64 kk, .slice sa2 lb1 sc2, .slice na2 lb nc2, .slice ia2 lb2 ic2] 26))
  have q1 : Quad ((w.alloc (.cells #[.int .i64 ka, .slice sa la1 sc, .slice na la nc, .slice ia la2 ic] 26)).alloc (.cells #[.int .i64 kk, .slice sa2 lb1 sc2, .slice na2 lb nc2, .slice ia2 lb2 ic2] 26)) (w.heap.size + 1) (.int .i64 kk) (.slice sa2 lb1 sc2) (.slice na2 lb nc2) (.slice ia2 lb2 ic2) := by simpa using Quad.new (w.alloc (.cells #[.int .i64 ka, .slice sa la1 sc, .slice na la nc, .slice ia la2 ic] 26)) (.int .i64 kk) (.slice sa2 lb1 sc2) (.slice na2 lb nc2) (.slice ia2 lb2 ic2)
  have g0' := (bw.cell (cell_lt g0)).trans g0
  have g1' := (bw.cell (cell_lt g1)).trans g1
  have g2' := (bw.cell (cell_lt g2)).trans g2
  have g3' := (bw.cell (cell_lt g3)).trans g3
  have h0' := (bw.cell (cell_lt h0)).trans h0
  have h1' := (bw.cell (cell_lt h1)).trans h1
  have h2' := (bw.cell (cell_lt h2)).trans h2
  have h3' := (bw.cell (cell_lt h3)).trans h3
  have hI' := hI.below bw
  have hJ' := hJ.below bw
  obtain ⟨p0, p1, p2, p3, -⟩ := q0.cells
  obtain ⟨r0, r1, r2, r3, -⟩ := q1.cells
  clear g0 g1 g2 g3 h0 h1 h2 h3 hI hJ q0 q1
  go_enter Try.func100, Try.ntmps100
  go_wp2_with fail
  generalize ((w.alloc (.cells #[.int .i64 ka, .slice sa la1 sc, .slice na la nc, .slice ia la2 ic] 26)).alloc (.cells #[.int .i64 kk, .slice sa2 lb1 sc2, .slice na2 lb nc2, .slice ia2 lb2 ic2] 26)) = W at *
  have HC1 := HC W.drew (hI'.below (below_drew W)) (hJ'.below (below_drew W))
  go_still_tail 10, (by kernel_rfl)
  go_wp2_with (go_at_call 77; (with_reducible refine HC1.mono ?_); rintro e w1 ⟨rfl, b1⟩)
  go_ret
  exact ⟨rfl, Below.then bw (Below.then (below_drew _) b1)⟩
end Go.Proofs.Ytkjbccodahleoaa.Shape

namespace Go.Proofs.Ytkjbccodahleoaa.Shape
open Go.RowKit
set_option linter.unusedVariables false

theorem firstN_at {f : Nat → Int} {j N : Nat} (h0 : firstN f 0 j = 0) (hj : j < N) (hf : f j ≠ 0) : firstN f 0 N = f j := by
  have h1 : firstN f 0 (j + 1) = f j := by rw [firstN_snoc, if_neg (fun g => g h0), Nat.zero_add]
  have key : ∀ m, firstN f 0 (j + 1 + m) = f j := by
    intro m
    induction m with
    | zero => exact h1
    | succ m ih => rw [← Nat.add_assoc, firstN_snoc, ih, if_pos hf]
  have := key (N - (j + 1))
  rwa [show j + 1 + (N - (j + 1)) = N by omega] at this
theorem firstN_next {f : Nat → Int} {j : Nat} (h0 : firstN f 0 j = 0) (hf : f j = 0) : firstN f 0 (j + 1) = 0 := by
  rw [firstN_snoc, if_neg (fun g => g h0), Nat.zero_add, hf]
def isCC (w : World) (br ba bb bc : Nat) : Prop := w.cell? ⟨bc, 0, none⟩ = some (.func (.func 99) #[] #[.pointer (some ⟨br, 0, none⟩), .pointer (some ⟨ba, 0, none⟩), .pointer (some ⟨bb, 0, none⟩), .pointer (some ⟨bc, 0, none⟩)])
theorem isCC.below {w w' : World} {br ba bb bc : Nat} (h : isCC w br ba bb bc) (hb : Below w.heap.size w w') : isCC w' br ba bb bc := by
  unfold isCC at h ⊢
  exact (hb.cell (cell_lt h)).trans h
/-- What the closure captures. -/
structure CCAt (w : World) (br ba bb bc R : Nat) (ka kb : Int) (sa na ia sa2 na2 ia2 : Option Addr) (sc la nc li ic sc2 lb nc2 li2 ic2 : Nat) : Prop where
  rank : w.cell? ⟨br, 0, none⟩ = some (.int .i64 (R : Int))
  a : Quad w ba (.int .i64 ka) (.slice sa R sc) (.slice na la nc) (.slice ia li ic)
  b : Quad w bb (.int .i64 kb) (.slice sa2 R sc2) (.slice na2 lb nc2) (.slice ia2 li2 ic2)
  self : isCC w br ba bb bc
theorem CCAt.below {w w' : World} {br ba bb bc R : Nat} {ka kb : Int} {sa na ia sa2 na2 ia2 : Option Addr} {sc la nc li ic sc2 lb nc2 li2 ic2 : Nat} (h : CCAt w br ba bb bc R ka kb sa na ia sa2 na2 ia2 sc la nc li ic sc2 lb nc2 li2 ic2) (hb : Below w.heap.size w w') : CCAt w' br ba bb bc R ka kb sa na ia sa2 na2 ia2 sc la nc li ic sc2 lb nc2 li2 ic2 :=
  ⟨(hb.cell (cell_lt h.rank)).trans h.rank, h.a.below hb, h.b.below hb, h.self.below hb⟩

set_option maxRecDepth 100000 in
set_option maxHeartbeats 2000000 in
theorem cc_last (W0 : World) (el : Nat → Nat → Int) (sA sB br ba bb bc R : Nat) (ka kb : Int) (sa na ia sa2 na2 ia2 : Option Addr) (sc la nc li ic sc2 lb nc2 li2 ic2 : Nat)
    (HE : ∀ (w : World) (i k : Nat), Below W0.heap.size W0 w → i < sA → k < sB → Calls Try.prog 100 #[.agg #[.int .i64 ka, .slice sa R sc, .slice na la nc, .slice ia li ic], .agg #[.int .i64 kb, .slice sa2 R sc2, .slice na2 lb nc2, .slice ia2 li2 ic2], .int .i64 i, .int .i64 k] w fun e w' => e = .returned (.int .i64 (el i k)) ∧ Below w.heap.size w w')
    (h0 : CCAt W0 br ba bb bc R ka kb sa na ia sa2 na2 ia2 sc la nc li ic sc2 lb nc2 li2 ic2) (i k : Nat) (w : World) (hw : Below W0.heap.size W0 w) (hi : i < sA) (hk : k < sB) :
    Calls Try.prog 99 #[.int .i64 (R : Int), .int .i64 i, .int .i64 k, .pointer (some ⟨br, 0, none⟩), .pointer (some ⟨ba, 0, none⟩), .pointer (some ⟨bb, 0, none⟩), .pointer (some ⟨bc, 0, none⟩)] w fun e w' => e = .returned (.int .i64 (el i k)) ∧ Below w.heap.size w w' := by
  have h1 := h0.below hw
  obtain ⟨p0, p1, p2, p3, -⟩ := h1.a.cells
  obtain ⟨r0, r1, r2, r3, -⟩ := h1.b.cells
  have hr := h1.rank
  have HE1 := HE w i k hw hi hk
  clear h0 h1 HE hi hk
  go_enter Try.func99, Try.ntmps99
  go_wp2_with (go_at_call 100; (with_reducible refine HE1.mono ?_); rintro e w1 ⟨rfl, b1⟩)
  go_ret
  exact ⟨rfl, b1⟩
/-- The step at an axis: the sums stay small. -/
theorem cc_sums {i m c s N : Nat} (hc : c < s) (h : i + s * m ≤ N) : i + c * m + m ≤ N := by
  have h1 : (c + 1) * m ≤ s * m := Nat.mul_le_mul_right _ hc
  rw [Nat.succ_mul] at h1
  omega

end Go.Proofs.Ytkjbccodahleoaa.Shape

namespace Go.Proofs.Ytkjbccodahleoaa.Shape
open Go.RowKit
set_option linter.unusedVariables false

/-- What Compare answers. -/
def cmpS (n : Nat) (A B : Arr) : Int := if rightE A = 0 ∧ rightE B = 0 then cmpF n A B else 0
theorem cmpS_bd (n : Nat) (A B : Arr) : -1 ≤ cmpS n A B ∧ cmpS n A B ≤ 1 := by
  unfold cmpS; split
  · exact cmpF_bd n A B
  · decide

set_option maxRecDepth 100000 in
set_option maxHeartbeats 1000000 in
theorem compareTop (n : Nat) (H : CmpSpec n) (v v2 : Value) (A B : Arr) (w : World) (hn : rk A ≤ n) (hA : ArrAt w v A) (hB : ArrAt w v2 B) :
    Calls Try.prog 54 #[v, v2] w fun e w' => e = .returned (.int .i64 (cmpS n A B)) ∧ Below w.heap.size w w' := by
  obtain ⟨sa, sc, na, nc, ia, ic, rfl, -, -⟩ := arr_cellsO hA
  obtain ⟨sa2, sc2, na2, nc2, ia2, ic2, rfl, -, -⟩ := arr_cellsO hB
  have R1 := fun v' w' (g : ArrAt w' v' A) => rightQ v' A w' g
  have R2 := fun v' w' (g : ArrAt w' v' B) => rightQ v' B w' g
  have HC := fun v' v2' w' (x1 : rightE A = 0) (x2 : rightE B = 0) (g : ArrAt w' v' A) (g2 : ArrAt w' v2' B) => H v' v2' A B w' hn x1 x2 g g2
  obtain ⟨x, hx⟩ : ∃ x, rightE A = x := ⟨_, rfl⟩
  obtain ⟨y, hy⟩ : ∃ y, rightE B = y := ⟨_, rfl⟩
  have hS : cmpS n A B = if x = 0 ∧ y = 0 then cmpF n A B else 0 := by rw [cmpS, hx, hy]
  obtain ⟨Z, hZ⟩ : ∃ Z, cmpS n A B = Z := ⟨_, rfl⟩
  rw [hZ]
  have HZ : Hid (Z = if x = 0 ∧ y = 0 then cmpF n A B else 0) := hZ ▸ hS
  have HX : Hid (rightE A = x) := hx
  have HY : Hid (rightE B = y) := hy
  rw [hx] at R1
  rw [hy] at R2
  clear hx hy hS hn hZ
  generalize A.kind = ka at *
  generalize B.kind = kk at *
  generalize A.nums.length = la at *
  generalize B.nums.length = lb at *
  generalize A.shape.length = la1 at *
  generalize B.shape.length = lb1 at *
  generalize A.items.length = la2 at *
  generalize B.items.length = lb2 at *
  have bw := below_two w (.cells #[.int .i64 ka, .slice sa la1 sc, .slice na la nc, .slice ia la2 ic] 26) (.cells #[.int .i64 kk, .slice sa2 lb1 sc2, .slice na2 lb nc2, .slice ia2 lb2 ic2] 26)
  have q0 := (Quad.new w (.int .i64 ka) (.slice sa la1 sc) (.slice na la nc) (.slice ia la2 ic)).below (below_new _ (.cells #[.int .i64 kk, .slice sa2 lb1 sc2, .slice na2 lb nc2, .slice ia2 lb2 ic2] 26))
  have q1 : Quad ((w.alloc (.cells #[.int .i64 ka, .slice sa la1 sc, .slice na la nc, .slice ia la2 ic] 26)).alloc (.cells #[.int .i64 kk, .slice sa2 lb1 sc2, .slice na2 lb nc2, .slice ia2 lb2 ic2] 26)) (w.heap.size + 1) (.int .i64 kk) (.slice sa2 lb1 sc2) (.slice na2 lb nc2) (.slice ia2 lb2 ic2) := by simpa using Quad.new (w.alloc (.cells #[.int .i64 ka, .slice sa la1 sc, .slice na la nc, .slice ia la2 ic] 26)) (.int .i64 kk) (.slice sa2 lb1 sc2) (.slice na2 lb nc2) (.slice ia2 lb2 ic2)
  have hA1 := hA.below bw
  have hB1 := hB.below bw
  clear hA hB
  go_enter Try.func54, Try.ntmps54
  go_wp2_with fail
  generalize ((w.alloc (.cells #[.int .i64 ka, .slice sa la1 sc, .slice na la nc, .slice ia la2 ic] 26)).alloc (.cells #[.int .i64 kk, .slice sa2 lb1 sc2, .slice na2 lb nc2, .slice ia2 lb2 ic2] 26)) = W at *
  go_at_call 34
  refine (R1 _ _ hA1).mono ?_
  rintro e w1 ⟨rfl, c1⟩
  have B1 := Below.then bw c1
  by_cases hx : x = 0
  · subst hx
    obtain ⟨p0, p1, p2, p3, -⟩ := (q1.below c1).cells
    go_wp2_with fail
    go_at_call 34
    refine (R2 _ _ (hB1.below c1)).mono ?_
    rintro e w2 ⟨rfl, c2⟩
    have B2 := Below.then B1 c2
    clear p0 p1 p2 p3
    by_cases hy : y = 0
    · subst hy
      obtain ⟨p0, p1, p2, p3, -⟩ := ((q0.below c1).below c2).cells
      obtain ⟨r0, r1, r2, r3, -⟩ := ((q1.below c1).below c2).cells
      have HC1 := HC _ _ w2 HX.out HY.out ((hA1.below c1).below c2) ((hB1.below c1).below c2)
      have e1 : cmpF n A B = Z := by have := HZ.out; simpa using this.symm
      rw [e1] at HC1
      clear HC R1 R2 e1
      go_wp2_with (go_at_call 77; (with_reducible refine HC1.mono ?_); rintro e w3 ⟨rfl, c3⟩)
      go_ret
      exact ⟨rfl, Below.then B2 c3⟩
    · have e2 : (y != 0) = true := by simpa using hy
      obtain rfl : Z = 0 := by have := HZ.out; simpa [hy] using this
      clear HC R1 R2 hy HZ
      go_wp2_with fail
      go_ret
      exact ⟨rfl, B2⟩
  · have e2 : (x != 0) = true := by simpa using hx
    obtain rfl : Z = 0 := by have := HZ.out; simpa [hx] using this
    clear HC R1 R2 hx HZ
    go_wp2_with fail
    go_ret
    exact ⟨rfl, B1⟩
set_option maxRecDepth 100000 in
set_option maxHeartbeats 1000000 in
theorem lessTop (n : Nat) (H : CmpSpec n) (v v2 : Value) (A B : Arr) (w : World) (hn : rk A ≤ n) (hA : ArrAt w v A) (hB : ArrAt w v2 B) :
    Calls Try.prog 55 #[v, v2] w fun e w' => e = .returned (.bool (decide (cmpS n A B < 0))) ∧ Below w.heap.size w w' := by
  have HC := fun v' v2' w' (g : ArrAt w' v' A) (g2 : ArrAt w' v2' B) => compareTop n H v' v2' A B w' hn g g2
  obtain ⟨sa, sc, na, nc, ia, ic, rfl, -, -⟩ := arr_cellsO hA
  obtain ⟨sa2, sc2, na2, nc2, ia2, ic2, rfl, -, -⟩ := arr_cellsO hB
  generalize cmpS n A B = Z at *
  generalize A.kind = ka at *
  generalize B.kind = kk at *
  generalize A.nums.length = la at *
  generalize B.nums.length = lb at *
  generalize A.shape.length = la1 at *
  generalize B.shape.length = lb1 at *
  generalize A.items.length = la2 at *
  generalize B.items.length = lb2 at *
  have bw := below_two w (.cells #[.int .i64 ka, .slice sa la1 sc, .slice na la nc, .slice ia la2 ic] 26) (.cells #[.int .i64 kk, .slice sa2 lb1 sc2, .slice na2 lb nc2, .slice ia2 lb2 ic2] 26)
  have HC1 := HC _ _ _ (hA.below bw) (hB.below bw)
  clear HC hA hB H hn
  go_enter Try.func55, Try.ntmps55
  go_wp2_with (go_at_call 54; (with_reducible refine HC1.mono ?_); rintro e w3 ⟨rfl, c3⟩)
  go_ret
  exact ⟨rfl, Below.then bw c3⟩
end Go.Proofs.Ytkjbccodahleoaa.Shape

namespace Go.Proofs.Ytkjbccodahleoaa.Shape
open Go.RowKit
set_option linter.unusedVariables false

theorem hid6' {p : Prop} (h : p) : Hid p := h
theorem signR (a b : Int) (w : World) : Calls Try.prog 79 #[.int .i64 a, .int .i64 b] w fun e w' => e = .returned (.int .i64 (sgn a b)) ∧ w = w' := by
  by_cases h : a < b
  · have e : sgn a b = -1 := by unfold sgn; rw [if_pos h]
    rw [e]
    go_enter Try.func79, Try.ntmps79
    go_wp2_with fail
    go_ret
    exact ⟨rfl, rfl⟩
  · by_cases h2 : b < a
    · have e : sgn a b = 1 := by unfold sgn; rw [if_neg h, if_pos h2]
      rw [e]
      go_enter Try.func79, Try.ntmps79
      go_wp2_with fail
      go_ret
      exact ⟨rfl, rfl⟩
    · have e : sgn a b = 0 := by unfold sgn; rw [if_neg h, if_neg h2]
      rw [e]
      go_enter Try.func79, Try.ntmps79
      go_wp2_with fail
      go_ret
      exact ⟨rfl, rfl⟩

theorem IntsAt.atL {w : World} {a : Option Addr} {cap : Nat} {xs : List Int} {L : Nat} (h : IntsAt w a cap xs) (hl : xs.length = L) {k : Nat} (hk : k < L) :
    ∃ b off : Nat, (∀ w' : World, (Instr.indexAt 23 (.slice a L cap) (.int .i64 k)).run Try.prog w' = .ok (.pointer (some ⟨b, off + k, none⟩)) w') ∧ w.cell? ⟨b, off + k, none⟩ = some (.int .i64 (xs.getD k 0)) := by
  subst hl
  have e : xs.getD k 0 = xs[k] := by rw [List.getD_eq_getElem?_getD]; simp [hk]
  rw [e]
  exact h.at hk
set_option maxHeartbeats 1000000 in
theorem ordShapesR (a : Option Addr) (c : Nat) (s : List Int) (a2 : Option Addr) (c2 : Nat) (t : List Int) (L : Nat) (w : World) (hs : IntsAt w a c s) (ht : IntsAt w a2 c2 t) (hl : s.length = L) (hl2 : t.length = L) :
    Calls Try.prog 81 #[.slice a L c, .slice a2 L c2] w fun e w' => e = .returned (.int .i64 (shpS s t)) ∧ Below w.heap.size w w' := by
  have hlen : L ≤ 9223372036854775807 := by rw [← hl]; exact hs.len
  have HL : Hid (s.length = L) := hl
  have HL2 : Hid (t.length = L) := hl2
  have A1 := fun j (hj : j < L) w' (g : Below w.heap.size w w') => (hs.below g).atL hl hj
  have A2 := fun j (hj : j < L) w' (g : Below w.heap.size w w') => (ht.below g).atL hl2 hj
  clear hl hl2 hs ht
  obtain ⟨X, hX⟩ : ∃ X, Hid (shpS s t = X) := ⟨_, rfl⟩
  rw [hX.out]
  have H0 : Hid (shpS (s.drop 0) (t.drop 0) = X) := hX
  go_enter Try.func81, Try.ntmps81
  go_wp2_with fail
  go_loopw [5] (fun v wr => ∃ j : Nat, j ≤ L ∧ v = .int .i64 j ∧ Hid (shpS (s.drop j) (t.drop j) = X) ∧ Below w.heap.size w wr) (fun v _ => L - (intOf v).toNat)
  case atStart => exact ⟨0, Nat.zero_le _, rfl, H0, Below.refl _ _⟩
  case round =>
    obtain ⟨j, hj, rfl, hD, hb⟩ := hrel
    by_cases hlt : j < L
    · have h1 : j < s.length := by rw [HL.out]; exact hlt
      have h2 : j < t.length := by rw [HL2.out]; exact hlt
      obtain ⟨b1, o1, f1, g1⟩ := A1 j hlt wr hb
      obtain ⟨b2, o2, f2, g2⟩ := A2 j hlt wr hb
      have hd := shpS_drop (j := j) (s := s) (t := t) (by rw [HL.out, HL2.out]) h1
      rw [hD.out] at hd
      have HD := hid6' hd
      have gx : s.getD j 0 = s[j] := by rw [List.getD_eq_getElem?_getD]; simp [h1]
      have gy : t.getD j 0 = t[j] := by rw [List.getD_eq_getElem?_getD]; simp [h2]
      rw [gx] at g1
      rw [gy] at g2
      obtain ⟨x, hx⟩ : ∃ x, s[j] = x := ⟨_, rfl⟩
      obtain ⟨y, hy⟩ : ∃ y, t[j] = y := ⟨_, rfl⟩
      rw [hx] at g1 HD
      rw [hy] at g2 HD
      have C := fun w' => signR x y w'
      clear hD hd hx hy gx gy h1 h2 A1 A2 H0 hX
      by_cases he : x = y
      · have e1 : (x != y) = false := by simp [he]
        have R : Hid (shpS (s.drop (j + 1)) (t.drop (j + 1)) = X) := by
          have := HD.out
          rw [if_neg (fun g => g (sgn_zero.2 he))] at this
          exact this.symm
        clear HD C he
        go_wp2_with fail
        go_region_held3 (fun w' => w'.cell? ⟨b1, o1 + j, none⟩ = some (.int .i64 x) ∧ w'.cell? ⟨b2, o2 + j, none⟩ = some (.int .i64 y)) (go_keep) (fail)
        go_wp2_with fail
        go_roundw
        case rel => exact ⟨j + 1, by omega, by go_num, R, hb.drew⟩
        case measure => simp [intOf]; omega
      · have e1 : (x != y) = true := by simpa using he
        have R : sgn x y = X := by
          have := HD.out
          rw [if_pos (fun g => he (sgn_zero.1 g))] at this
          exact this.symm
        rw [R] at C
        clear HD he R
        go_wp2_with fail
        go_region_held3 (fun w' => w'.cell? ⟨b1, o1 + j, none⟩ = some (.int .i64 x) ∧ w'.cell? ⟨b2, o2 + j, none⟩ = some (.int .i64 y)) (go_keep) (fail)
        go_wp2_with fail
        go_region_held3 (fun w' => w'.cell? ⟨b1, o1 + j, none⟩ = some (.int .i64 x) ∧ w'.cell? ⟨b2, o2 + j, none⟩ = some (.int .i64 y)) (go_keep)
          ((go_at_call 79; (with_reducible refine (C _).mono ?_); rintro e w1 ⟨rfl, rfl⟩))
        go_wp2_with fail
        go_ret
        exact ⟨rfl, hb.drew.drew⟩
    · obtain rfl : j = L := by omega
      have R : X = 0 := by
        rw [← hD.out, List.drop_eq_nil_of_le (by rw [HL.out]; exact Nat.le_refl _), List.drop_eq_nil_of_le (by rw [HL2.out]; exact Nat.le_refl _)]
        simp [shpS]
      subst R
      clear hD hX H0 A1 A2
      go_wp2_with fail
      go_ret
      exact ⟨rfl, hb⟩
end Go.Proofs.Ytkjbccodahleoaa.Shape

namespace Go.Proofs.Ytkjbccodahleoaa.Shape
open Go.RowKit
set_option linter.unusedVariables false

/-- What the reference's compare is to answer of arrays of a rank of nesting up to n. -/
def CmpSpecR (n : Nat) : Prop := ∀ (v v2 : Value) (A B : Arr) (w : World), rk A ≤ n → rightE A = 0 → rightE B = 0 → ArrAt w v A → ArrAt w v2 B →
  Calls Try.prog 58 #[v, v2] w fun e w' => e = .returned (.int .i64 (cmpF n A B)) ∧ Below w.heap.size w w'

set_option maxHeartbeats 1000000 in
theorem contN (n : Nat) (a a2 : Option Addr) (c c2 : Nat) (v v2 : Value) (A B : Arr) (w : World) (i k : Nat) (hk : A.kind ≠ 3) (hA : ArrAt w v A) (hB : ArrAt w v2 B) (hi : i < A.nums.length) (hj : k < B.nums.length) :
    Calls Try.prog 80 #[v, .int .i64 i, .slice a 0 c, v2, .int .i64 k, .slice a2 0 c2] w fun e w' => e = .returned (.int .i64 (elS n A B i k)) ∧ Below w.heap.size w w' := by
  have e : elS n A B i k = sgn A.nums[i] B.nums[k] := by
    unfold elS
    rw [if_neg hk, List.getD_eq_getElem?_getD, List.getD_eq_getElem?_getD]
    simp [hi, hj]
  rw [e]
  clear e
  obtain ⟨sa, sc, na, nc, ia, ic, rfl, -, hn⟩ := arr_cellsO hA
  obtain ⟨sa2, sc2, na2, nc2, ia2, ic2, rfl, -, hn2⟩ := arr_cellsO hB
  obtain ⟨fb, fo, hx, hc⟩ := hn.at hi
  obtain ⟨gb, gp, hy, hd⟩ := hn2.at hj
  obtain ⟨x, ex⟩ : ∃ x, A.nums[i] = x := ⟨_, rfl⟩
  obtain ⟨y, ey⟩ : ∃ y, B.nums[k] = y := ⟨_, rfl⟩
  rw [ex] at hc ⊢
  rw [ey] at hd ⊢
  have kb : (A.kind == 3) = false := by simpa using hk
  have hl1 := hn.len
  have hl2 := hn2.len
  have hil : Hid (i < A.nums.length) := hi
  have hjl : Hid (k < B.nums.length) := hj
  clear ex ey hA hB hi hj hk hn hn2
  generalize A.kind = ka at *
  generalize B.kind = kk at *
  generalize A.nums.length = la at *
  generalize B.nums.length = lb at *
  generalize A.shape.length = la1 at *
  generalize B.shape.length = lb1 at *
  generalize A.items.length = la2 at *
  generalize B.items.length = lb2 at *
  have bw := below_two w (.cells #[.int .i64 ka, .slice sa la1 sc, .slice na la nc, .slice ia la2 ic] 26) (.cells #[.int .i64 kk, .slice sa2 lb1 sc2, .slice na2 lb nc2, .slice ia2 lb2 ic2] 26)
  have q0 := (Quad.new w (.int .i64 ka) (.slice sa la1 sc) (.slice na la nc) (.slice ia la2 ic)).below (below_new _ (.cells #[.int .i64 kk, .slice sa2 lb1 sc2, .slice na2 lb nc2, .slice ia2 lb2 ic2] 26))
  have q1 : Quad ((w.alloc (.cells #[.int .i64 ka, .slice sa la1 sc, .slice na la nc, .slice ia la2 ic] 26)).alloc (.cells #[.int .i64 kk, .slice sa2 lb1 sc2, .slice na2 lb nc2, .slice ia2 lb2 ic2] 26)) (w.heap.size + 1) (.int .i64 kk) (.slice sa2 lb1 sc2) (.slice na2 lb nc2) (.slice ia2 lb2 ic2) := by simpa using Quad.new (w.alloc (.cells #[.int .i64 ka, .slice sa la1 sc, .slice na la nc, .slice ia la2 ic] 26)) (.int .i64 kk) (.slice sa2 lb1 sc2) (.slice na2 lb nc2) (.slice ia2 lb2 ic2)
  have hc' := (bw.cell (cell_lt hc)).trans hc
  have hd' := (bw.cell (cell_lt hd)).trans hd
  obtain ⟨p0, p1, p2, p3, -⟩ := q0.cells
  obtain ⟨r0, r1, r2, r3, -⟩ := q1.cells
  clear hc hd q0 q1
  go_enter Try.func80, Try.ntmps80
  go_wp2_with fail
  generalize ((w.alloc (.cells #[.int .i64 ka, .slice sa la1 sc, .slice na la nc, .slice ia la2 ic] 26)).alloc (.cells #[.int .i64 kk, .slice sa2 lb1 sc2, .slice na2 lb nc2, .slice ia2 lb2 ic2] 26)) = W at *
  go_region_held3 (fun w' => w'.cell? ⟨w.heap.size, 2, none⟩ = some (.slice na la nc) ∧ w'.cell? ⟨w.heap.size + 1, 2, none⟩ = some (.slice na2 lb nc2) ∧ w'.cell? ⟨fb, fo + i, none⟩ = some (.int .i64 x) ∧ w'.cell? ⟨gb, gp + k, none⟩ = some (.int .i64 y))
    (go_keep)
    (first | (go_at_call 79; (with_reducible refine (signR x y _).mono ?_); rintro e w1 ⟨rfl, rfl⟩))
  go_wp2_with fail
  go_ret
  exact ⟨rfl, Below.then bw (below_drew _)⟩
set_option maxRecDepth 100000 in
set_option maxHeartbeats 1000000 in
theorem contB (n : Nat) (ih : CmpSpecR n) (a a2 : Option Addr) (c c2 : Nat) (v v2 : Value) (A B : Arr) (w : World) (i k : Nat) (hk : A.kind = 3) (hA : ArrAt w v A) (hB : ArrAt w v2 B) (hi : i < A.items.length) (hj : k < B.items.length) (hr : rk A ≤ n + 1) (hxA : rightE A = 0) (hxB : rightE B = 0) :
    Calls Try.prog 80 #[v, .int .i64 i, .slice a 0 c, v2, .int .i64 k, .slice a2 0 c2] w fun e w' => e = .returned (.int .i64 (elS n A B i k)) ∧ Below w.heap.size w w' := by
  have e : elS n A B i k = cmpF n A.items[i] B.items[k] := by
    unfold elS
    rw [if_pos hk, List.getD_eq_getElem?_getD, List.getD_eq_getElem?_getD]
    simp [hi, hj]
  rw [e]
  clear e
  have hrk : rk A.items[i] ≤ n := by
    obtain ⟨ka, sh, nu, it⟩ := A
    exact Nat.le_of_lt_succ (Nat.lt_of_lt_of_le (rk_item hi) hr)
  have hR1 : rightE A.items[i] = 0 := ((right_more hxA).2 _ (List.getElem_mem hi)).1
  have hR2 : rightE B.items[k] = 0 := ((right_more hxB).2 _ (List.getElem_mem hj)).1
  obtain ⟨sa, sc, na, nc, ia, ic, rfl, -, -⟩ := arr_cellsO hA
  obtain ⟨sa2, sc2, na2, nc2, ia2, ic2, rfl, -, -⟩ := arr_cellsO hB
  obtain ⟨fb, fo, d0, d1, d2, d3, hx, ⟨g0, g1, g2, g3⟩, hI⟩ := items_ix hA hi
  obtain ⟨gb, gp, e0, e1, e2, e3, hy, ⟨h0, h1, h2, h3⟩, hJ⟩ := items_ix hB hj
  have kb : (A.kind == 3) = true := by rw [hk]; rfl
  have HC := fun w' (g : ArrAt w' (.agg #[d0, d1, d2, d3]) A.items[i]) (g' : ArrAt w' (.agg #[e0, e1, e2, e3]) B.items[k]) => ih _ _ _ _ w' hrk hR1 hR2 g g'
  generalize A.items[i] = X at *
  generalize B.items[k] = Y at *
  clear hA hB hk hr hxA hxB hi hj hrk hR1 hR2
  generalize A.kind = ka at *
  generalize B.kind = kk at *
  generalize A.nums.length = la at *
  generalize B.nums.length = lb at *
  generalize A.shape.length = la1 at *
  generalize B.shape.length = lb1 at *
  generalize A.items.length = la2 at *
  generalize B.items.length = lb2 at *
  have bw := below_two w (.cells #[.int .i64 ka, .slice sa la1 sc, .slice na la nc, .slice ia la2 ic] 26) (.cells #[.int .i64 kk, .slice sa2 lb1 sc2, .slice na2 lb nc2, .slice ia2 lb2 ic2] 26)
  have q0 := (Quad.new w (.int .i64 ka) (.slice sa la1 sc) (.slice na la nc) (.slice ia la2 ic)).below (below_new _ (.cells #[.int .i64 kk, .slice sa2 lb1 sc2, .slice na2 lb nc2, .slice ia2 lb2 ic2] 26))
  have q1 : Quad ((w.alloc (.cells #[.int .i64 ka, .slice sa la1 sc, .slice na la nc, .slice ia la2 ic] 26)).alloc (.cells #[.int .i64 kk, .slice sa2 lb1 sc2, .slice na2 lb nc2, .slice ia2 lb2 ic2] 26)) (w.heap.size + 1) (.int .i64 kk) (.slice sa2 lb1 sc2) (.slice na2 lb nc2) (.slice ia2 lb2 ic2) := by simpa using Quad.new (w.alloc (.cells #[.int .i64 ka, .slice sa la1 sc, .slice na la nc, .slice ia la2 ic] 26)) (.int .i64 kk) (.slice sa2 lb1 sc2) (.slice na2 lb nc2) (.slice ia2 lb2 ic2)
  have g0' := (bw.cell (cell_lt g0)).trans g0
  have g1' := (bw.cell (cell_lt g1)).trans g1
  have g2' := (bw.cell (cell_lt g2)).trans g2
  have g3' := (bw.cell (cell_lt g3)).trans g3
  have h0' := (bw.cell (cell_lt h0)).trans h0
  have h1' := (bw.cell (cell_lt h1)).trans h1
  have h2' := (bw.cell (cell_lt h2)).trans h2
  have h3' := (bw.cell (cell_lt h3)).trans h3
  have hI' := hI.below bw
  have hJ' := hJ.below bw
  obtain ⟨p0, p1, p2, p3, -⟩ := q0.cells
  obtain ⟨r0, r1, r2, r3, -⟩ := q1.cells
  clear g0 g1 g2 g3 h0 h1 h2 h3 hI hJ q0 q1
  go_enter Try.func80, Try.ntmps80
  go_wp2_with fail
  generalize ((w.alloc (.cells #[.int .i64 ka, .slice sa la1 sc, .slice na la nc, .slice ia la2 ic] 26)).alloc (.cells #[.int .i64 kk, .slice sa2 lb1 sc2, .slice na2 lb nc2, .slice ia2 lb2 ic2] 26)) = W at *
  have HC1 := HC W.drew (hI'.below (below_drew W)) (hJ'.below (below_drew W))
  go_still_tail 10, (by kernel_rfl)
  go_wp2_with (go_at_call 58; (with_reducible refine HC1.mono ?_); rintro e w1 ⟨rfl, b1⟩)
  go_ret
  exact ⟨rfl, Below.then bw (Below.then (below_drew _) b1)⟩
end Go.Proofs.Ytkjbccodahleoaa.Shape
