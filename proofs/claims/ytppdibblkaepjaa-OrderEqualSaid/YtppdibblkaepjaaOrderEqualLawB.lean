/-
  The law arraylanglaw06.OrderEqual holds for every input: it returns true, and each argument reads afterwards as it read before. No condition.
-/
import Derived.Test.YtppdibblkaepjaaBd24
import Derived.Test.YtppdibblkaepjaaBd4
import Derived.Test.YtppdibblkaepjaaBd26
import Derived.Test.YtppdibblkaepjaaBd22
import Derived.Test.YtppdibblkaepjaaBd9
import Derived.ProofKit
import Derived.OpenShut
namespace Go.Proofs.Ytppdibblkaepjaa.orderEqualProof
open Go.ChangeShapes Go.WideShapes Go.ChangeAt Go.RowKit Go.Proofs.Ytppdibblkaepjaa.Shape
open Go.WideMaps Go.WideElems
open Go.ChangeMaps (open_string shut_string)
set_option linter.unusedVariables false

theorem own : ownKnob Try.prog.godebug = none := by kernel_rfl
theorem laidOut : laidOutB Try.prog = true := by kernel_rfl

set_option maxHeartbeats 1000000 in
theorem walk (v0 : Value) (x0 : Arr) (v1 : Value) (x1 : Arr) (w : World) (b0 : ArrAt w v0 x0) (s0 : Shape.Reach x0) (b1 : ArrAt w v1 x1) (s1 : Shape.Reach x1) :
    Calls Try.prog 5 #[v0, v1] w fun e w' => e = .returned (.bool true) ∧ Below w.heap.size w w' := by
  obtain ⟨k0, sa0, ls0, sc0, na0, ln0, nc0, ia0, li0, ic0, rfl⟩ : ∃ k sa ls sc na ln nc ia li ic, v0 = .agg #[.int .i64 k, .slice sa ls sc, .slice na ln nc, .slice ia li ic] := by
    obtain ⟨sa, sc, na, nc, ia, ic, h, -⟩ := arr_cellsO b0
    exact ⟨_, _, _, _, _, _, _, _, _, _, h⟩
  obtain ⟨k1, sa1, ls1, sc1, na1, ln1, nc1, ia1, li1, ic1, rfl⟩ : ∃ k sa ls sc na ln nc ia li ic, v1 = .agg #[.int .i64 k, .slice sa ls sc, .slice na ln nc, .slice ia li ic] := by
    obtain ⟨sa, sc, na, nc, ia, ic, h, -⟩ := arr_cellsO b1
    exact ⟨_, _, _, _, _, _, _, _, _, _, h⟩
  have bw : Below w.heap.size w ((w.alloc (.cells #[.int .i64 k0, .slice sa0 ls0 sc0, .slice na0 ln0 nc0, .slice ia0 li0 ic0] 26)).alloc (.cells #[.int .i64 k1, .slice sa1 ls1 sc1, .slice na1 ln1 nc1, .slice ia1 li1 ic1] 26)) := (Below.then (below_new _ _) (below_new _ _))
  have HQ : Quad ((w.alloc (.cells #[.int .i64 k0, .slice sa0 ls0 sc0, .slice na0 ln0 nc0, .slice ia0 li0 ic0] 26)).alloc (.cells #[.int .i64 k1, .slice sa1 ls1 sc1, .slice na1 ln1 nc1, .slice ia1 li1 ic1] 26)) (w.heap.size) (.int .i64 k0) (.slice sa0 ls0 sc0) (.slice na0 ln0 nc0) (.slice ia0 li0 ic0) ∧ Quad ((w.alloc (.cells #[.int .i64 k0, .slice sa0 ls0 sc0, .slice na0 ln0 nc0, .slice ia0 li0 ic0] 26)).alloc (.cells #[.int .i64 k1, .slice sa1 ls1 sc1, .slice na1 ln1 nc1, .slice ia1 li1 ic1] 26)) (w.heap.size + 1) (.int .i64 k1) (.slice sa1 ls1 sc1) (.slice na1 ln1 nc1) (.slice ia1 li1 ic1) := boxes2 _ _ _ _ _ _ _ _ _ 
  obtain ⟨q0, q1⟩ := HQ
  have h0 := b0.below bw
  have h1 := b1.below bw
  clear b0 s0 b1 s1
  go_enter Try.func5, Try.ntmps5
  go_wp2_with fail
  generalize ((w.alloc (.cells #[.int .i64 k0, .slice sa0 ls0 sc0, .slice na0 ln0 nc0, .slice ia0 li0 ic0] 26)).alloc (.cells #[.int .i64 k1, .slice sa1 ls1 sc1, .slice na1 ln1 nc1, .slice ia1 li1 ic1] 26)) = W at *
  go_at_call 14
  refine (smallL _ _ _ h0).mono ?_
  rintro e u1 ⟨t1, rfl, c1⟩
  have g1 := c1
  clear c1
  cases t1 with
  | false =>
    go_wp2_with (go_at_call 15; refine (ordLives _).mono ?_; rintro e wL ⟨rfl, bL⟩)
    go_ret
    exact ⟨rfl, Below.then (Below.then bw g1) bL⟩
  | true =>
    obtain ⟨x0_, x1_, x2_, x3_, -⟩ := (q1.below g1).cells
    go_wp2_with fail
    clear x0_ x1_ x2_ x3_
    go_at_call 14
    refine (smallL _ _ _ (h1.below g1)).mono ?_
    rintro e u2 ⟨t2, rfl, c2⟩
    have g2 := Below.then g1 c2
    clear c2
    cases t2 with
    | false =>
      go_wp2_with (go_at_call 15; refine (ordLives _).mono ?_; rintro e wL ⟨rfl, bL⟩)
      go_ret
      exact ⟨rfl, Below.then (Below.then bw g2) bL⟩
    | true =>
      obtain ⟨x0_, x1_, x2_, x3_, -⟩ := (q0.below g2).cells
      go_wp2_with fail
      clear x0_ x1_ x2_ x3_
      go_at_call 20
      refine (rightR3 _ _ _ (h0.below g2)).mono ?_
      rintro e u3 ⟨rfl, c3⟩
      have g3 := Below.then g2 c3
      clear c3
      by_cases r0 : rightE x0 = 0
      rotate_left
      · have e0 : (rightE x0 != 0) = true := by simpa using r0
        go_wp2_with (go_at_call 15; refine (ordLives _).mono ?_; rintro e wL ⟨rfl, bL⟩)
        go_ret
        exact ⟨rfl, Below.then (Below.then bw g3) bL⟩
      ·
        have e0 : (rightE x0 != 0) = false := by simpa using r0
        obtain ⟨x0_, x1_, x2_, x3_, -⟩ := (q1.below g3).cells
        go_wp2_with fail
        clear x0_ x1_ x2_ x3_
        go_at_call 20
        refine (rightR3 _ _ _ (h1.below g3)).mono ?_
        rintro e u4 ⟨rfl, c4⟩
        have g4 := Below.then g3 c4
        clear c4
        by_cases r1 : rightE x1 = 0
        rotate_left
        · have e1 : (rightE x1 != 0) = true := by simpa using r1
          go_wp2_with (go_at_call 15; refine (ordLives _).mono ?_; rintro e wL ⟨rfl, bL⟩)
          go_ret
          exact ⟨rfl, Below.then (Below.then bw g4) bL⟩
        ·
          have e1 : (rightE x1 != 0) = false := by simpa using r1
          have rr0 : rightE x0 = 0 := r0
          have rr1 : rightE x1 = 0 := r1
          obtain ⟨N, hN⟩ : ∃ N, rk x0 + rk x1 = N := ⟨_, rfl⟩
          have n0 : rk x0 ≤ N := by omega
          have n1 : rk x1 ≤ N := by omega
          have CP := fun w' (g' : Below W.heap.size W w') => compareTop N (compareP _) _ _ x0 x1 w' n0 (h0.below g') (h1.below g')
          have CQ := fun w' (g' : Below W.heap.size W w') => compareTop N (compareP _) _ _ x1 x0 w' n1 (h1.below g') (h0.below g')
          have CL := fun w' (g' : Below W.heap.size W w') => lessTop N (compareP _) _ _ x0 x1 w' n0 (h0.below g') (h1.below g')
          have CA := fun w' (g' : Below W.heap.size W w') => compareTop N (compareP _) _ _ x0 x0 w' n0 (h0.below g') (h0.below g')
          have CS := fun w' (g' : Below W.heap.size W w') => sameR3 _ _ x0 x1 w' (h0.below g') (h1.below g')
          have m1 : cmpS N x0 x1 = cmpF N x0 x1 := by unfold cmpS; rw [if_pos ⟨rr0, rr1⟩]
          have m2 : cmpS N x1 x0 = - cmpF N x0 x1 := by unfold cmpS; rw [if_pos ⟨rr1, rr0⟩, cmpF_neg]
          have m3 : cmpS N x0 x0 = 0 := by unfold cmpS; rw [if_pos ⟨rr0, rr0⟩]; exact (cmpF_zero N x0 x0 n0 rr0 rr0).2 (eqA_refl x0)
          have m4 := cmpF_beq N x0 x1 n0 rr0 rr1
          have m5 := cmpF_bd N x0 x1
          rw [m1] at CP CL
          rw [m2] at CQ
          rw [m3] at CA
          rw [← m4] at CS
          generalize cmpF N x0 x1 = Z at *
          clear m1 m2 m3 m4 h0 h1 hN n0 n1 rr0 rr1
          have hz : Z = -1 ∨ Z = 0 ∨ Z = 1 := by omega
          clear m5
          rcases hz with rfl | rfl | rfl
          · obtain ⟨y0_, y1_, y2_, y3_, -⟩ := (q0.below g4).cells
            obtain ⟨y4_, y5_, y6_, y7_, -⟩ := (q1.below g4).cells
            go_wp2_with fail
            clear y0_ y1_ y2_ y3_ y4_ y5_ y6_ y7_
            go_at_call 16
            with_reducible refine (CP _ g4).mono ?_
            rintro e u11 ⟨rfl, c11⟩
            have g11 := Below.then g4 c11
            clear c11
            obtain ⟨y0_, y1_, y2_, y3_, -⟩ := (q0.below g11).cells
            obtain ⟨y4_, y5_, y6_, y7_, -⟩ := (q1.below g11).cells
            go_wp2_with fail
            clear y0_ y1_ y2_ y3_ y4_ y5_ y6_ y7_
            go_at_call 13
            with_reducible refine (CS _ g11).mono ?_
            rintro e u12 ⟨rfl, c12⟩
            have g12 := Below.then g11 c12
            clear c12
            obtain ⟨y0_, y1_, y2_, y3_, -⟩ := (q0.below g12).cells
            obtain ⟨y4_, y5_, y6_, y7_, -⟩ := (q1.below g12).cells
            go_wp2_with fail
            clear y0_ y1_ y2_ y3_ y4_ y5_ y6_ y7_
            go_at_call 16
            with_reducible refine (CQ _ g12).mono ?_
            rintro e u13 ⟨rfl, c13⟩
            have g13 := Below.then g12 c13
            clear c13
            obtain ⟨y0_, y1_, y2_, y3_, -⟩ := (q0.below g13).cells
            obtain ⟨y4_, y5_, y6_, y7_, -⟩ := (q1.below g13).cells
            go_wp2_with fail
            clear y0_ y1_ y2_ y3_ y4_ y5_ y6_ y7_
            go_at_call 18
            with_reducible refine (CL _ g13).mono ?_
            rintro e u14 ⟨rfl, c14⟩
            have g14 := Below.then g13 c14
            clear c14
            obtain ⟨y0_, y1_, y2_, y3_, -⟩ := (q0.below g14).cells
            go_wp2_with fail
            clear y0_ y1_ y2_ y3_
            go_at_call 16
            with_reducible refine (CA _ g14).mono ?_
            rintro e u15 ⟨rfl, c15⟩
            have g15 := Below.then g14 c15
            clear c15
            go_wp2_with (go_at_call 15; refine (ordLives _).mono ?_; rintro e wL ⟨rfl, bL⟩)
            go_ret
            exact ⟨rfl, Below.then (Below.then bw g15) bL⟩
          · obtain ⟨y0_, y1_, y2_, y3_, -⟩ := (q0.below g4).cells
            obtain ⟨y4_, y5_, y6_, y7_, -⟩ := (q1.below g4).cells
            go_wp2_with fail
            clear y0_ y1_ y2_ y3_ y4_ y5_ y6_ y7_
            go_at_call 16
            with_reducible refine (CP _ g4).mono ?_
            rintro e u11 ⟨rfl, c11⟩
            have g11 := Below.then g4 c11
            clear c11
            obtain ⟨y0_, y1_, y2_, y3_, -⟩ := (q0.below g11).cells
            obtain ⟨y4_, y5_, y6_, y7_, -⟩ := (q1.below g11).cells
            go_wp2_with fail
            clear y0_ y1_ y2_ y3_ y4_ y5_ y6_ y7_
            go_at_call 13
            with_reducible refine (CS _ g11).mono ?_
            rintro e u12 ⟨rfl, c12⟩
            have g12 := Below.then g11 c12
            clear c12
            obtain ⟨y0_, y1_, y2_, y3_, -⟩ := (q0.below g12).cells
            obtain ⟨y4_, y5_, y6_, y7_, -⟩ := (q1.below g12).cells
            go_wp2_with fail
            clear y0_ y1_ y2_ y3_ y4_ y5_ y6_ y7_
            go_at_call 16
            with_reducible refine (CQ _ g12).mono ?_
            rintro e u13 ⟨rfl, c13⟩
            have g13 := Below.then g12 c13
            clear c13
            obtain ⟨y0_, y1_, y2_, y3_, -⟩ := (q0.below g13).cells
            obtain ⟨y4_, y5_, y6_, y7_, -⟩ := (q1.below g13).cells
            go_wp2_with fail
            clear y0_ y1_ y2_ y3_ y4_ y5_ y6_ y7_
            go_at_call 18
            with_reducible refine (CL _ g13).mono ?_
            rintro e u14 ⟨rfl, c14⟩
            have g14 := Below.then g13 c14
            clear c14
            obtain ⟨y0_, y1_, y2_, y3_, -⟩ := (q0.below g14).cells
            go_wp2_with fail
            clear y0_ y1_ y2_ y3_
            go_at_call 16
            with_reducible refine (CA _ g14).mono ?_
            rintro e u15 ⟨rfl, c15⟩
            have g15 := Below.then g14 c15
            clear c15
            go_wp2_with (go_at_call 15; refine (ordLives _).mono ?_; rintro e wL ⟨rfl, bL⟩)
            go_ret
            exact ⟨rfl, Below.then (Below.then bw g15) bL⟩
          · obtain ⟨y0_, y1_, y2_, y3_, -⟩ := (q0.below g4).cells
            obtain ⟨y4_, y5_, y6_, y7_, -⟩ := (q1.below g4).cells
            go_wp2_with fail
            clear y0_ y1_ y2_ y3_ y4_ y5_ y6_ y7_
            go_at_call 16
            with_reducible refine (CP _ g4).mono ?_
            rintro e u11 ⟨rfl, c11⟩
            have g11 := Below.then g4 c11
            clear c11
            obtain ⟨y0_, y1_, y2_, y3_, -⟩ := (q0.below g11).cells
            obtain ⟨y4_, y5_, y6_, y7_, -⟩ := (q1.below g11).cells
            go_wp2_with fail
            clear y0_ y1_ y2_ y3_ y4_ y5_ y6_ y7_
            go_at_call 13
            with_reducible refine (CS _ g11).mono ?_
            rintro e u12 ⟨rfl, c12⟩
            have g12 := Below.then g11 c12
            clear c12
            obtain ⟨y0_, y1_, y2_, y3_, -⟩ := (q0.below g12).cells
            obtain ⟨y4_, y5_, y6_, y7_, -⟩ := (q1.below g12).cells
            go_wp2_with fail
            clear y0_ y1_ y2_ y3_ y4_ y5_ y6_ y7_
            go_at_call 16
            with_reducible refine (CQ _ g12).mono ?_
            rintro e u13 ⟨rfl, c13⟩
            have g13 := Below.then g12 c13
            clear c13
            obtain ⟨y0_, y1_, y2_, y3_, -⟩ := (q0.below g13).cells
            obtain ⟨y4_, y5_, y6_, y7_, -⟩ := (q1.below g13).cells
            go_wp2_with fail
            clear y0_ y1_ y2_ y3_ y4_ y5_ y6_ y7_
            go_at_call 18
            with_reducible refine (CL _ g13).mono ?_
            rintro e u14 ⟨rfl, c14⟩
            have g14 := Below.then g13 c14
            clear c14
            obtain ⟨y0_, y1_, y2_, y3_, -⟩ := (q0.below g14).cells
            go_wp2_with fail
            clear y0_ y1_ y2_ y3_
            go_at_call 16
            with_reducible refine (CA _ g14).mono ?_
            rintro e u15 ⟨rfl, c15⟩
            have g15 := Below.then g14 c15
            clear c15
            go_wp2_with (go_at_call 15; refine (ordLives _).mono ?_; rintro e wL ⟨rfl, bL⟩)
            go_ret
            exact ⟨rfl, Below.then (Below.then bw g15) bL⟩

set_option maxRecDepth 100000 in
theorem lifted (os : Os) (started : os.Started) (H : Type) (enc : TypeId × Value → H) :
    ReturnsInHanded {} Try.checked os 5 .any (Rows.orderEqualSpec.pre6 enc Try.prog Try.f5 Rows.orderEqualRow.domain false) (Rows.orderEqualSpec.post enc Try.prog Try.f5 false true false false) := by
  refine returnsInHanded_of_change_sized (C := Try.checked) own started (by kernel_rfl) Try.func5
    (ChangeSpec.witness6 (enc := enc) (C := Try.checked) false ⟨#[], #[.agg #[.int .i64 0, .slice none 0 0, .slice none 0 0, .slice none 0 0], .agg #[.int .i64 0, .slice none 0 0, .slice none 0 0, .slice none 0 0]], []⟩ 8 (by kernel_rfl) (by kernel_rfl) (by kernel_rfl) (by kernel_rfl)) ?_
  intro W base args ds gs before hval0 hW hcnd hsz0 _
  have hsz : (DataW.weightsEach Try.prog (Try.f5.params.toList ++ Rows.orderEqualSpec.plain.varTypes Try.prog) (ds ++ gs)).all (· ≤ reachBytes) = true := hsz0
  have hval : ∀ (j : Nat) t v, Try.f5.params[j]? = some t → args[j]? = some v → Value.okWide Try.prog W .any base t v := hval0
  have hW' := hW
  obtain ⟨p, q, hA0, hV, rfl, hfz, hnd⟩ := hW
  have hA : DataW.TrodAll enc Try.prog W 0 (fun _ => true) true Try.f5.params.toList args.toList ds p := hA0
  rw [Try.params5] at hA hval hsz
  obtain ⟨v0, vs0, d0, ds0, p0, q0, hargs, rfl, rfl, h0, r0⟩ := trodAll_cons hA
  obtain ⟨v1, vs1, d1, ds1, p1, q1, rfl, rfl, rfl, h1, r1⟩ := trodAll_cons r0
  obtain ⟨rfl, rfl, rfl⟩ := trodAll_nil r1
  obtain rfl : args = #[v0, v1] := by cases args; simp_all
  obtain ⟨rfl, rfl⟩ := trodVars_none hV
  have k0 := h0
  have lt0 : ∀ x ∈ p0, x.block < W.heap.size := by obtain ⟨m, hm⟩ := k0; exact DataW.trod_lt m _ _ _ hm
  obtain ⟨x0, b0, z0⟩ := arr_open (hval 0 26 v0 rfl rfl) h0
  have s0 : Shape.Reach x0 := z0 (Sized.each hsz (j := 0) rfl rfl)
  have k1 := h1
  have lt1 : ∀ x ∈ p1, x.block < W.heap.size := by obtain ⟨m, hm⟩ := k1; exact DataW.trod_lt m _ _ _ hm
  obtain ⟨x1, b1, z1⟩ := arr_open (hval 1 26 v1 rfl rfl) h1
  have s1 : Shape.Reach x1 := z1 (Sized.each hsz (j := 1) rfl rfl)
  clear hA0 hval0
  refine (walk v0 x0 v1 x1 W b0 s0 b1 s1).mono fun e W' ⟨he, bel⟩ => ?_
  subst he
  exact ⟨_, rfl, _, _, _, [], _, [], hW', trodAll_mk1 (shut_bool Try.underlying4 _), (trodAll_cons_mk (Below.trod laidOut (by kernel_rfl) (of_decide_eq_true (by kernel_rfl)) k0 bel lt0) (trodAll_cons_mk (Below.trod laidOut (by kernel_rfl) (of_decide_eq_true (by kernel_rfl)) k1 bel lt1) trodAll_mk0)), rfl, bel.frame _, fun h => by cases h⟩

theorem over : Rows.orderEqualRow.holds Try.pinned (OpenSpec.ofChange Rows.orderEqualSpec) :=
  OpenClaim.holds_of_wide 5 Try.f5 rfl rfl rfl rfl rfl rfl rfl ⟨rfl, rfl, rfl, rfl, rfl⟩ rfl rfl rfl rfl rfl (by kernel_rfl) Try.func5 (by kernel_rfl)
    (of_decide_eq_true (by kernel_rfl)) (by unfold Func.isWrapper; first | (rw [if_pos (by decide +kernel)]; kernel_rfl) | (rw [if_neg (by decide +kernel)]; exact ⟨rfl, rfl⟩))
    (fun os started H enc _ => lifted os started H enc)

theorem proved : Rows.OrderEqualSaid := over
end Go.Proofs.Ytppdibblkaepjaa.orderEqualProof
