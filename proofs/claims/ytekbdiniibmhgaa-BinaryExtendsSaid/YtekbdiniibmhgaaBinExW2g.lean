/-
  Layer 16: the main way of the law BinaryExtends. (Written by wip/gen/binary-exw.py.)
-/
import Derived.Test.YtekbdiniibmhgaaBinExW1g
import Derived.Test.YtekbdiniibmhgaaBinBdg
import Derived.StillTailTactics
import Derived.Deep.RegionHeldLaw
namespace Go.Proofs.Ytekbdiniibmhgaa.Shape
open Go.RowKit
set_option linter.unusedVariables false
set_option linter.unusedSimpArgs false


theorem reach_flatN {k : Int} {sh nu : List Int} (h1 : sh.length ≤ 1000) (h2 : nu.length ≤ 1000000) : Reach (.mk k sh nu []) := by
  rw [Reach, ReachL]
  refine ⟨?_, ?_, by decide, trivial⟩ <;> omega

set_option maxRecDepth 100000 in
set_option maxHeartbeats 4000000 in
theorem exM (AP : ApplyOK) (LV : LivesOK) (p : Int) (v v2 : Value) (A B : Arr) (w : World) (h : ArrAt w v A) (g : ArrAt w v2 B) (rA : Reach A) (rB : Reach B) (hE1 : rightE A = 0) (hE2 : rightE B = 0) (hs : A.shape = []) (hk3 : A.kind ≠ 3) : Calls Try.prog 7 #[.int .i64 p, v, v2] w fun e w' => e = .returned (.bool true) ∧ Below w.heap.size w w' := by
  obtain ⟨X, hX, hk⟩ := scalar_form hE1 hs hk3
  obtain ⟨k1, sh1, nu1, it1⟩ := A
  simp only [Arr.mk.injEq] at hX
  obtain ⟨-, rfl, rfl, rfl⟩ := hX
  replace hk : k1 = 1 ∨ k1 = 2 := hk
  clear hs hk3
  have hA := h
  have hB := g
  obtain ⟨k2, sh2, nu2, it2⟩ := B
  rw [ArrAt] at h g
  obtain ⟨s1, sc1, n1, nc1, i1, ic1, rfl, hkb1, hs1, hn1, -⟩ := h
  obtain ⟨s2, sc2, n2, nc2, i2, ic2, rfl, hkb2, hs2, hn2, hi2, hi3, -⟩ := g
  replace hA : ArrAt w (.agg #[.int .i64 k1, .slice s1 0 sc1, .slice n1 1 nc1, .slice i1 0 ic1]) (.mk k1 [] [X] []) := hA
  show Calls Try.prog 7 #[.int .i64 p, .agg #[.int .i64 k1, .slice s1 0 sc1, .slice n1 1 nc1, .slice i1 0 ic1], .agg #[.int .i64 k2, .slice s2 sh2.length sc2, .slice n2 nu2.length nc2, .slice i2 it2.length ic2]] w _
  have hN := (full_size hE2).1
  replace hN : (((nu2.length + it2.length : Nat)) : Int) = pr sh2 := hN
  have hdim := (full_size hE2).2
  replace hdim : dimsE sh2 = 0 := hdim
  have hr := (dimsE_right _).1 hdim
  have hpb := (part_bd (a := sh2) (b := []) (by rw [List.append_nil]; exact hr)).2.1
  have XL := ext_left (p := p) hE1 hk hE2
  have XR := ext_right (p := p) hE1 hk hE2
  have hxb : -9223372036854775808 ≤ X ∧ X ≤ 9223372036854775807 := hn1.2.2.1 X (by simp)
  obtain ⟨N, hNN⟩ : ∃ N, nu2.length + it2.length = N := ⟨_, rfl⟩
  have hFull : fullA k1 X (.mk k2 sh2 nu2 it2) = .mk k1 sh2 (List.replicate N X) [] := by rw [← hNN]; rfl
  rw [hFull] at XL XR
  have rZ : Reach (.mk k1 sh2 (List.replicate N X) []) := reach_flatN (by have := (right_def.1 hr).1; omega) (by rw [List.length_replicate]; omega)
  have D1 := fun w' (a : ArrAt w' _ _) (b : ArrAt w' _ _) => AP (fun _ => True) p (.agg #[.int .i64 k1, .slice s1 0 sc1, .slice n1 1 nc1, .slice i1 0 ic1]) (.agg #[.int .i64 k2, .slice s2 sh2.length sc2, .slice n2 nu2.length nc2, .slice i2 it2.length ic2]) (.mk k1 [] [X] []) (.mk k2 sh2 nu2 it2) w' (fun _ _ => trivial) (at_onT a) (at_onT b) rA rB
  have D3 := fun w' (a : ArrAt w' _ _) (b : ArrAt w' _ _) => AP (fun _ => True) p (.agg #[.int .i64 k2, .slice s2 sh2.length sc2, .slice n2 nu2.length nc2, .slice i2 it2.length ic2]) (.agg #[.int .i64 k1, .slice s1 0 sc1, .slice n1 1 nc1, .slice i1 0 ic1]) (.mk k2 sh2 nu2 it2) (.mk k1 [] [X] []) w' (fun _ _ => trivial) (at_onT b) (at_onT a) rB rA
  have D2 := fun va vc w' (a : ArrAt w' _ _) (b : ArrAt w' _ _) => AP (fun _ => True) p (.agg #[.int .i64 k1, .slice s2 sh2.length sc2, .slice va N vc, .slice none 0 0]) (.agg #[.int .i64 k2, .slice s2 sh2.length sc2, .slice n2 nu2.length nc2, .slice i2 it2.length ic2]) (.mk k1 sh2 (List.replicate N X) []) (.mk k2 sh2 nu2 it2) w' (fun _ _ => trivial) (at_onT a) (at_onT b) rZ rB
  have D4 := fun va vc w' (a : ArrAt w' _ _) (b : ArrAt w' _ _) => AP (fun _ => True) p (.agg #[.int .i64 k2, .slice s2 sh2.length sc2, .slice n2 nu2.length nc2, .slice i2 it2.length ic2]) (.agg #[.int .i64 k1, .slice s2 sh2.length sc2, .slice va N vc, .slice none 0 0]) (.mk k2 sh2 nu2 it2) (.mk k1 sh2 (List.replicate N X) []) w' (fun _ _ => trivial) (at_onT b) (at_onT a) rB rZ
  rw [← XL] at D2
  rw [← XR] at D4
  generalize applyA p (.mk k1 [] [X] []) (.mk k2 sh2 nu2 it2) = RL at D1 D2
  generalize applyA p (.mk k2 sh2 nu2 it2) (.mk k1 [] [X] []) = RR at D3 D4
  obtain ⟨C1, c1⟩ := RL
  obtain ⟨C2, c2⟩ := RR
  simp only at D1 D2 D3 D4
  clear AP XL XR hFull rZ rA rB hdim
  have b2 := below_two w (.cells #[.int .i64 k1, .slice s1 0 sc1, .slice n1 1 nc1, .slice i1 0 ic1] 33) (.cells #[.int .i64 k2, .slice s2 sh2.length sc2, .slice n2 nu2.length nc2, .slice i2 it2.length ic2] 33)
  have hA2 := hA.below b2
  have hB2 := hB.below b2
  have qx : Quad ((w.alloc (.cells #[.int .i64 k1, .slice s1 0 sc1, .slice n1 1 nc1, .slice i1 0 ic1] 33)).alloc (.cells #[.int .i64 k2, .slice s2 sh2.length sc2, .slice n2 nu2.length nc2, .slice i2 it2.length ic2] 33)) w.heap.size (.int .i64 k1) (.slice s1 0 sc1) (.slice n1 1 nc1) (.slice i1 0 ic1) := (Quad.new w _ _ _ _).below (below_new _ _)
  have qy : Quad ((w.alloc (.cells #[.int .i64 k1, .slice s1 0 sc1, .slice n1 1 nc1, .slice i1 0 ic1] 33)).alloc (.cells #[.int .i64 k2, .slice s2 sh2.length sc2, .slice n2 nu2.length nc2, .slice i2 it2.length ic2] 33)) (w.heap.size + 1) (.int .i64 k2) (.slice s2 sh2.length sc2) (.slice n2 nu2.length nc2) (.slice i2 it2.length ic2) := by
    simpa using Quad.new (w.alloc (.cells #[.int .i64 k1, .slice s1 0 sc1, .slice n1 1 nc1, .slice i1 0 ic1] 33)) (.int .i64 k2) (.slice s2 sh2.length sc2) (.slice n2 nu2.length nc2) (.slice i2 it2.length ic2)
  obtain ⟨x0, x1, x2, x3, -⟩ := qx.cells
  obtain ⟨y0, y1, y2, y3, -⟩ := qy.cells
  have S1 := fun w' (a : ArrAt w' _ (.mk k1 [] [X] [])) => smallL16 (.agg #[.int .i64 k1, .slice s1 0 sc1, .slice n1 1 nc1, .slice i1 0 ic1]) (.mk k1 [] [X] []) w' a
  have S2 := fun w' (b : ArrAt w' _ (.mk k2 sh2 nu2 it2)) => smallL16 (.agg #[.int .i64 k2, .slice s2 sh2.length sc2, .slice n2 nu2.length nc2, .slice i2 it2.length ic2]) (.mk k2 sh2 nu2 it2) w' b
  have R1 := fun w' (a : ArrAt w' _ (.mk k1 [] [X] [])) => rightR3 (.agg #[.int .i64 k1, .slice s1 0 sc1, .slice n1 1 nc1, .slice i1 0 ic1]) (.mk k1 [] [X] []) w' a
  have R2 := fun w' (b : ArrAt w' _ (.mk k2 sh2 nu2 it2)) => rightR3 (.agg #[.int .i64 k2, .slice s2 sh2.length sc2, .slice n2 nu2.length nc2, .slice i2 it2.length ic2]) (.mk k2 sh2 nu2 it2) w' b
  rw [hE1] at R1
  rw [hE2] at R2
  have k3 : (k1 == 3) = false := by rcases hk with rfl | rfl <;> rfl
  obtain ⟨eb, eo, ix, ce⟩ := hn1.at (k := 0) (by simp)
  replace ix : ∀ w', (Instr.indexAt 30 (.slice n1 1 nc1) (.int .i64 0)).run Try.prog w' = .ok (.pointer (some ⟨eb, eo, none⟩)) w' := ix
  replace ce : w.cell? ⟨eb, eo, none⟩ = some (.int .i64 X) := ce
  have HS2 : Hid (∀ w', Below w.heap.size w w' → IntsAt w' s2 sc2 sh2) := fun w' hb => hs2.below hb
  have l1 := hn2.len
  have l2 : it2.length ≤ 9223372036854775807 := by omega
  clear hE1 hE2 hA hB hs1 hn1 hs2 hn2 hr hk hkb2
  unfold LivesOK at LV
  go_enter Try.func7, Try.ntmps7
  go_wp2_with (first | (go_at_call 13; (with_reducible refine Calls.mono (S1 _ hA2) ?_); intro e w3 hh; (obtain ⟨t1, rfl, hb3⟩ := hh); (have c0 := (qx.below hb3).cells); (have c1 := (qy.below hb3).cells); (obtain ⟨x30, x31, x32, x33, -⟩ := c0); (obtain ⟨y30, y31, y32, y33, -⟩ := c1)) | (go_at_call 13; (with_reducible refine Calls.mono (S2 _ (hB2.below hb3)) ?_); intro e w4 hh; (obtain ⟨t2, rfl, hb4⟩ := hh); (have hb34 := Below.then hb3 hb4); (have c0 := (qx.below hb34).cells); (have c1 := (qy.below hb34).cells); (obtain ⟨x40, x41, x42, x43, -⟩ := c0); (obtain ⟨y40, y41, y42, y43, -⟩ := c1)) | (go_at_call 17; (with_reducible refine Calls.mono (R1 _ (hA2.below hb34)) ?_); rintro e w5 ⟨rfl, hb5⟩; (have hb35 := Below.then hb34 hb5); (have c0 := (qx.below hb35).cells); (have c1 := (qy.below hb35).cells); (obtain ⟨x50, x51, x52, x53, -⟩ := c0); (obtain ⟨y50, y51, y52, y53, -⟩ := c1)) | (go_at_call 17; (with_reducible refine Calls.mono (R2 _ (hB2.below hb35)) ?_); rintro e w6 ⟨rfl, hb6⟩; (have hb36 := Below.then hb35 hb6); (have c0 := (qx.below hb36).cells); (have c1 := (qy.below hb36).cells); (obtain ⟨x60, x61, x62, x63, -⟩ := c0); (obtain ⟨y60, y61, y62, y63, -⟩ := c1)) | (go_at_call 12; (with_reducible refine Calls.mono (LV _) ?_); rintro e w9 ⟨rfl, hb9⟩))
  all_goals first
    | (go_ret; first
      | exact ⟨rfl, Below.then (Below.then b2 hb34) hb9⟩
      | exact ⟨rfl, Below.then (Below.then b2 hb3) hb9⟩)
    | skip
  have HW6 : Hid (Below w.heap.size w w6) := Below.then b2 hb36
  have qx6 := qx.below hb36
  have qy6 := qy.below hb36
  have hA6 := hA2.below hb36
  have hB6 := hB2.below hb36
  have ce6 := (HW6.out.cell (cell_lt ce)).trans ce
  have I0 := ZI.start w6 k1 s2 sh2.length sc2 X
  clear x0 x1 x2 x3 y0 y1 y2 y3 x30 x31 x32 x33 y30 y31 y32 y33 x40 x41 x42 x43 y40 y41 y42 y43 x50 x51 x52 x53 y50 y51 y52 y53 x60 x61 x62 x63 y60 y61 y62 y63 hb3 hb34 hb35 hb36 hb4 hb5 hb6 qx qy hA2 hB2 b2 S1 S2 R1 R2 ce
  generalize (w6.alloc (.cells #[.int .i64 k1, .slice s2 sh2.length sc2, .slice none 0 0, .slice none 0 0] 33)) = W at I0 ⊢
  generalize w6.heap.size = Zb at I0 ⊢
  have hwn : IntKind.i64.wrap ((nu2.length : Int) + (it2.length : Int)) = (N : Int) := by rw [IntWalk.i64_in _ (by omega)]; omega
  have hN5 : N ≤ 65536 := by omega
  clear hN hpb hNN
  obtain ⟨i0, hi0, hz0, hz1, hz2⟩ := info_parts infoInt
  go_loopw [8] (fun v8 wr => ∃ (j : Nat) (v : Value), j ≤ N ∧ v8 = .int .i64 j ∧ ZI w6 wr Zb k1 s2 sh2.length sc2 v j X) (fun v8 _ => ((N : Int) - intOf v8).toNat)
  case atStart => exact ⟨0, _, Nat.zero_le _, rfl, I0⟩
  case round =>
    obtain ⟨j, v, hj, rfl, hI⟩ := hrel
    obtain ⟨p0, p1, p2, p3, -⟩ := (qx6.below hI.bel).cells
    obtain ⟨g0, g1, g2, g3, -⟩ := (qy6.below hI.bel).cells
    obtain ⟨f0, f1, f2, f3, f4, f5, f6, f7⟩ := hI.blk.cells
    by_cases hlt : j < N
    · have hcell := (hI.bel.cell (cell_lt ce6)).trans ce6
      have bd : Below wr.heap.size wr wr.drew := (Below.refl _ _).drew
      have f2' : (wr.alloc (.cells #[.int .i64 X] 3)).cell? ⟨Zb, 2, none⟩ = some v := by rw [World.cell?_alloc_past _ _ _ (cell_lt f2)]; exact f2
      have own := hI.own
      have hbx := hI.blk.lt
      clear D1 D2 D3 D4 hA6 hB6 LV
      go_wp2_with fail
      go_region_law ((refine step_append_lies _ (by rfl) _ _ _ (by rfl) (Zb + 1) 3 i0 _ 1 8 Try.underlying30 hi0 hz0 hz1 hz2 rfl (by omega) v j _ (by rfl) (own_alloc own (Below.refl _ _) _) ⟨wr.heap.size, 0, none⟩ 1 1 [.int .i64 X] (by rfl) (by rfl) (World.news_of_block (cs := #[.int .i64 X]) (t := 3) (fr := (0, 0)) (heap_alloc_new wr _)) (by intro u hu; simp at hu; subst hu; rfl) (by omega) (by unfold maxLen; omega) (by omega) (by simp; omega) (wr.heap.size + 1) (by simp) ?_; intro gg cap2 w2 hown hgrow hat hl2; (obtain ⟨t0, t1, t2, t3, -, -, t6, -⟩ := (ZI.mid hI hI.blk (Nat.le_refl _) bd (hgrow : (wr.drew.alloc _).grownBy w2 _)).cells)))
      all_goals go_wp2_with fail
      all_goals go_roundw
      all_goals first
        | exact ⟨j + 1, _, by omega, by go_num, hI.step bd rfl hown (hgrow : (wr.drew.alloc _).grownBy w2 _)⟩
        | (simp [intOf]; omega)
    · obtain rfl : j = N := by omega
      obtain ⟨va, vc, rfl, hZ⟩ := hI.arr rfl (HS2.out wr (HW6.out.trans (hI.bel.mono HW6.out.size))) hkb1 hxb
      have qx0 := qx6.below hI.bel
      have qy0 := qy6.below hI.bel
      have qz0 := hI.blk
      have hA0 := hA6.below hI.bel
      have hB0 := hB6.below hI.bel
      have HB0 : Hid (Below w.heap.size w wr) := HW6.out.trans (hI.bel.mono HW6.out.size)
      clear I0 ce6 qx6 qy6 hA6 hB6 HW6 hI p0 p1 p2 p3 ix HS2 hi0 hz0 hz1 hz2 hkb1 hxb k3
      have hZ0 := hZ
      clear hZ
      obtain ⟨x00, x01, x02, x03, -⟩ := qx0.cells
      go_upto_region 9 with (go_at_call 14; (with_reducible refine Calls.mono (D1 _ hA0 hB0) ?_); intro e u1 hh; (obtain ⟨ka1, sa1, la1, ca1, na1, ma1, da1, ia1, ja1, fa1, rfl, a1, hb1⟩ := hh))
      obtain ⟨q1, r1, bn1⟩ := kept_new a1.at
      have bu1 := Below.then hb1 bn1
      have qx1 := qx0.below bu1
      have qy1 := qy0.below bu1
      have qz1 := qz0.below bu1
      have hA1 := hA0.below bu1
      have hB1 := hB0.below bu1
      have hZ1 := hZ0.below bu1
      have HB1 : Hid (Below w.heap.size w (u1.alloc (.cells #[.int .i64 ka1, .slice sa1 la1 ca1, .slice na1 ma1 da1, .slice ia1 ja1 fa1] 33))) := Below.then HB0.out bu1
      have q1_1 := q1
      have r1_1 := r1
      clear qx0 qy0 qz0 hA0 hB0 hZ0 HB0 q1 r1 bn1 bu1 hb1 a1 x00 x01 x02 x03 g0 g1 g2 g3 f0 f1 f2 f3 f4 f5 f6 f7
      generalize (u1.alloc (.cells #[.int .i64 ka1, .slice sa1 la1 ca1, .slice na1 ma1 da1, .slice ia1 ja1 fa1] 33)) = U1 at qx1 qy1 qz1 hA1 hB1 hZ1 HB1 q1_1 r1_1 ⊢
      generalize u1.heap.size = N1 at q1_1 ⊢
      obtain ⟨z10, z11, z12, z13, -⟩ := qz1.cells
      obtain ⟨y10, y11, y12, y13, -⟩ := qy1.cells
      go_upto_region 10 with (go_at_call 14; (with_reducible refine Calls.mono (D2 va vc _ hZ1 hB1) ?_); intro e u2 hh; (obtain ⟨ka2, sa2, la2, ca2, na2, ma2, da2, ia2, ja2, fa2, rfl, a2, hb2⟩ := hh))
      obtain ⟨q2, r2, bn2⟩ := kept_new a2.at
      have bu2 := Below.then hb2 bn2
      have qx2 := qx1.below bu2
      have qy2 := qy1.below bu2
      have qz2 := qz1.below bu2
      have hA2 := hA1.below bu2
      have hB2 := hB1.below bu2
      have hZ2 := hZ1.below bu2
      have HB2 : Hid (Below w.heap.size w (u2.alloc (.cells #[.int .i64 ka2, .slice sa2 la2 ca2, .slice na2 ma2 da2, .slice ia2 ja2 fa2] 33))) := Below.then HB1.out bu2
      have q1_2 := q1_1.below bu2
      have r1_2 := r1_1.below bu2
      have q2_2 := q2
      have r2_2 := r2
      clear qx1 qy1 qz1 hA1 hB1 hZ1 HB1 q2 r2 bn2 bu2 hb2 a2 q1_1 r1_1 z10 z11 z12 z13 y10 y11 y12 y13
      generalize (u2.alloc (.cells #[.int .i64 ka2, .slice sa2 la2 ca2, .slice na2 ma2 da2, .slice ia2 ja2 fa2] 33)) = U2 at qx2 qy2 qz2 hA2 hB2 hZ2 HB2 q1_2 q2_2 r1_2 r2_2 ⊢
      generalize u2.heap.size = N2 at q2_2 ⊢
      obtain ⟨y20, y21, y22, y23, -⟩ := qy2.cells
      obtain ⟨x20, x21, x22, x23, -⟩ := qx2.cells
      go_upto_region 11 with (go_at_call 14; (with_reducible refine Calls.mono (D3 _ hA2 hB2) ?_); intro e u3 hh; (obtain ⟨ka3, sa3, la3, ca3, na3, ma3, da3, ia3, ja3, fa3, rfl, a3, hb3⟩ := hh))
      obtain ⟨q3, r3, bn3⟩ := kept_new a3.at
      have bu3 := Below.then hb3 bn3
      have qx3 := qx2.below bu3
      have qy3 := qy2.below bu3
      have qz3 := qz2.below bu3
      have hA3 := hA2.below bu3
      have hB3 := hB2.below bu3
      have hZ3 := hZ2.below bu3
      have HB3 : Hid (Below w.heap.size w (u3.alloc (.cells #[.int .i64 ka3, .slice sa3 la3 ca3, .slice na3 ma3 da3, .slice ia3 ja3 fa3] 33))) := Below.then HB2.out bu3
      have q1_3 := q1_2.below bu3
      have r1_3 := r1_2.below bu3
      have q2_3 := q2_2.below bu3
      have r2_3 := r2_2.below bu3
      have q3_3 := q3
      have r3_3 := r3
      clear qx2 qy2 qz2 hA2 hB2 hZ2 HB2 q3 r3 bn3 bu3 hb3 a3 q1_2 q2_2 r1_2 r2_2 y20 y21 y22 y23 x20 x21 x22 x23
      generalize (u3.alloc (.cells #[.int .i64 ka3, .slice sa3 la3 ca3, .slice na3 ma3 da3, .slice ia3 ja3 fa3] 33)) = U3 at qx3 qy3 qz3 hA3 hB3 hZ3 HB3 q1_3 q2_3 q3_3 r1_3 r2_3 r3_3 ⊢
      generalize u3.heap.size = N3 at q3_3 ⊢
      obtain ⟨y30, y31, y32, y33, -⟩ := qy3.cells
      obtain ⟨z30, z31, z32, z33, -⟩ := qz3.cells
      go_upto_region 12 with (go_at_call 14; (with_reducible refine Calls.mono (D4 va vc _ hZ3 hB3) ?_); intro e u4 hh; (obtain ⟨ka4, sa4, la4, ca4, na4, ma4, da4, ia4, ja4, fa4, rfl, a4, hb4⟩ := hh))
      obtain ⟨q4, r4, bn4⟩ := kept_new a4.at
      have bu4 := Below.then hb4 bn4
      have qx4 := qx3.below bu4
      have qy4 := qy3.below bu4
      have qz4 := qz3.below bu4
      have hA4 := hA3.below bu4
      have hB4 := hB3.below bu4
      have hZ4 := hZ3.below bu4
      have HB4 : Hid (Below w.heap.size w (u4.alloc (.cells #[.int .i64 ka4, .slice sa4 la4 ca4, .slice na4 ma4 da4, .slice ia4 ja4 fa4] 33))) := Below.then HB3.out bu4
      have q1_4 := q1_3.below bu4
      have r1_4 := r1_3.below bu4
      have q2_4 := q2_3.below bu4
      have r2_4 := r2_3.below bu4
      have q3_4 := q3_3.below bu4
      have r3_4 := r3_3.below bu4
      have q4_4 := q4
      have r4_4 := r4
      clear qx3 qy3 qz3 hA3 hB3 hZ3 HB3 q4 r4 bn4 bu4 hb4 a4 q1_3 q2_3 q3_3 r1_3 r2_3 r3_3 y30 y31 y32 y33 z30 z31 z32 z33
      generalize (u4.alloc (.cells #[.int .i64 ka4, .slice sa4 la4 ca4, .slice na4 ma4 da4, .slice ia4 ja4 fa4] 33)) = U4 at qx4 qy4 qz4 hA4 hB4 hZ4 HB4 q1_4 q2_4 q3_4 q4_4 r1_4 r2_4 r3_4 r4_4 ⊢
      generalize u4.heap.size = N4 at q4_4 ⊢
      obtain ⟨a0, a1, a2, a3, -⟩ := q1_4.cells
      obtain ⟨b0, b1, b2, b3, -⟩ := q2_4.cells
      obtain ⟨d0, d1, d2, d3, -⟩ := q3_4.cells
      obtain ⟨e0, e1, e2, e3, -⟩ := q4_4.cells
      clear D1 D2 D3 D4 hA4 hB4 hZ4 qx4 qy4 qz4
      go_wp2_with (first
        | (go_at_call 16; (with_reducible refine Calls.mono (sameRX r1_4 r2_4) ?_); rintro e w7 ⟨rfl, hb7⟩; (have y3 := q3_4.below hb7); (have y4 := q4_4.below hb7); (have z3 := r3_4.below hb7); (have z4 := r4_4.below hb7); (obtain ⟨m0, m1, m2, m3, -⟩ := y3.cells); (obtain ⟨o0, o1, o2, o3, -⟩ := y4.cells))
        | (go_at_call 16; (with_reducible refine Calls.mono (sameRX z3 z4) ?_); rintro e w8 ⟨rfl, hb8⟩)
        | (go_at_call 12; (with_reducible refine Calls.mono (LV _) ?_); rintro e w9 ⟨rfl, hb9⟩))
      go_ret
      exact ⟨rfl, Below.then (Below.then (Below.then HB4.out hb7) hb8) hb9⟩
end Go.Proofs.Ytekbdiniibmhgaa.Shape

