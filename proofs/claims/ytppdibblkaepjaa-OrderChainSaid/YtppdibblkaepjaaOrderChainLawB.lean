/-
  The law arraylanglaw06.OrderChain holds for every input: it returns true, and each argument reads afterwards as it read before. No condition.
-/
import Derived.Test.YtppdibblkaepjaaBd24
import Derived.Test.YtppdibblkaepjaaBd4
import Derived.Test.YtppdibblkaepjaaBd26
import Derived.Test.YtppdibblkaepjaaBd22
import Derived.Test.YtppdibblkaepjaaBd9
import Derived.ProofKit
import Derived.OpenShut
namespace Go.Proofs.Ytppdibblkaepjaa.orderChainProof
open Go.ChangeShapes Go.WideShapes Go.ChangeAt Go.RowKit Go.Proofs.Ytppdibblkaepjaa.Shape
open Go.WideMaps Go.WideElems
open Go.ChangeMaps (open_string shut_string)
set_option linter.unusedVariables false

theorem own : ownKnob Try.prog.godebug = none := by kernel_rfl
theorem laidOut : laidOutB Try.prog = true := by kernel_rfl

set_option maxHeartbeats 1000000 in
theorem walk (v0 : Value) (x0 : Arr) (v1 : Value) (x1 : Arr) (v2 : Value) (x2 : Arr) (w : World) (b0 : ArrAt w v0 x0) (s0 : Shape.Reach x0) (b1 : ArrAt w v1 x1) (s1 : Shape.Reach x1) (b2 : ArrAt w v2 x2) (s2 : Shape.Reach x2) :
    Calls Try.prog 6 #[v0, v1, v2] w fun e w' => e = .returned (.bool true) ∧ Below w.heap.size w w' := by
  obtain ⟨k0, sa0, ls0, sc0, na0, ln0, nc0, ia0, li0, ic0, rfl⟩ : ∃ k sa ls sc na ln nc ia li ic, v0 = .agg #[.int .i64 k, .slice sa ls sc, .slice na ln nc, .slice ia li ic] := by
    obtain ⟨sa, sc, na, nc, ia, ic, h, -⟩ := arr_cellsO b0
    exact ⟨_, _, _, _, _, _, _, _, _, _, h⟩
  obtain ⟨k1, sa1, ls1, sc1, na1, ln1, nc1, ia1, li1, ic1, rfl⟩ : ∃ k sa ls sc na ln nc ia li ic, v1 = .agg #[.int .i64 k, .slice sa ls sc, .slice na ln nc, .slice ia li ic] := by
    obtain ⟨sa, sc, na, nc, ia, ic, h, -⟩ := arr_cellsO b1
    exact ⟨_, _, _, _, _, _, _, _, _, _, h⟩
  obtain ⟨k2, sa2, ls2, sc2, na2, ln2, nc2, ia2, li2, ic2, rfl⟩ : ∃ k sa ls sc na ln nc ia li ic, v2 = .agg #[.int .i64 k, .slice sa ls sc, .slice na ln nc, .slice ia li ic] := by
    obtain ⟨sa, sc, na, nc, ia, ic, h, -⟩ := arr_cellsO b2
    exact ⟨_, _, _, _, _, _, _, _, _, _, h⟩
  have bw : Below w.heap.size w (((w.alloc (.cells #[.int .i64 k0, .slice sa0 ls0 sc0, .slice na0 ln0 nc0, .slice ia0 li0 ic0] 26)).alloc (.cells #[.int .i64 k1, .slice sa1 ls1 sc1, .slice na1 ln1 nc1, .slice ia1 li1 ic1] 26)).alloc (.cells #[.int .i64 k2, .slice sa2 ls2 sc2, .slice na2 ln2 nc2, .slice ia2 li2 ic2] 26)) := (Below.then (Below.then (below_new _ _) (below_new _ _)) (below_new _ _))
  have HQ : Quad (((w.alloc (.cells #[.int .i64 k0, .slice sa0 ls0 sc0, .slice na0 ln0 nc0, .slice ia0 li0 ic0] 26)).alloc (.cells #[.int .i64 k1, .slice sa1 ls1 sc1, .slice na1 ln1 nc1, .slice ia1 li1 ic1] 26)).alloc (.cells #[.int .i64 k2, .slice sa2 ls2 sc2, .slice na2 ln2 nc2, .slice ia2 li2 ic2] 26)) (w.heap.size) (.int .i64 k0) (.slice sa0 ls0 sc0) (.slice na0 ln0 nc0) (.slice ia0 li0 ic0) ∧ Quad (((w.alloc (.cells #[.int .i64 k0, .slice sa0 ls0 sc0, .slice na0 ln0 nc0, .slice ia0 li0 ic0] 26)).alloc (.cells #[.int .i64 k1, .slice sa1 ls1 sc1, .slice na1 ln1 nc1, .slice ia1 li1 ic1] 26)).alloc (.cells #[.int .i64 k2, .slice sa2 ls2 sc2, .slice na2 ln2 nc2, .slice ia2 li2 ic2] 26)) (w.heap.size + 1) (.int .i64 k1) (.slice sa1 ls1 sc1) (.slice na1 ln1 nc1) (.slice ia1 li1 ic1) ∧ Quad (((w.alloc (.cells #[.int .i64 k0, .slice sa0 ls0 sc0, .slice na0 ln0 nc0, .slice ia0 li0 ic0] 26)).alloc (.cells #[.int .i64 k1, .slice sa1 ls1 sc1, .slice na1 ln1 nc1, .slice ia1 li1 ic1] 26)).alloc (.cells #[.int .i64 k2, .slice sa2 ls2 sc2, .slice na2 ln2 nc2, .slice ia2 li2 ic2] 26)) (w.heap.size + 1 + 1) (.int .i64 k2) (.slice sa2 ls2 sc2) (.slice na2 ln2 nc2) (.slice ia2 li2 ic2) := boxes3 _ _ _ _ _ _ _ _ _ _ _ _ _ 
  obtain ⟨q0, q1, q2⟩ := HQ
  have h0 := b0.below bw
  have h1 := b1.below bw
  have h2 := b2.below bw
  clear b0 s0 b1 s1 b2 s2
  go_enter Try.func6, Try.ntmps6
  go_wp2_with fail
  generalize (((w.alloc (.cells #[.int .i64 k0, .slice sa0 ls0 sc0, .slice na0 ln0 nc0, .slice ia0 li0 ic0] 26)).alloc (.cells #[.int .i64 k1, .slice sa1 ls1 sc1, .slice na1 ln1 nc1, .slice ia1 li1 ic1] 26)).alloc (.cells #[.int .i64 k2, .slice sa2 ls2 sc2, .slice na2 ln2 nc2, .slice ia2 li2 ic2] 26)) = W at *
  go_at_call 14
  refine (smallL _ _ _ h0).mono ?_
  rintro e u1 ⟨t1, rfl, c1⟩
  have g1 := c1
  clear c1
  cases t1 with
  | false =>
    go_wp2_with (go_at_call 15; refine (ordLives _).mono ?_; rintro e wL ⟨rfl, bL⟩)
    go_ret
    exact ⟨rfl, Below.then (Below.then bw g1) bL⟩
  | true =>
    obtain ⟨x0_, x1_, x2_, x3_, -⟩ := (q1.below g1).cells
    go_wp2_with fail
    clear x0_ x1_ x2_ x3_
    go_at_call 14
    refine (smallL _ _ _ (h1.below g1)).mono ?_
    rintro e u2 ⟨t2, rfl, c2⟩
    have g2 := Below.then g1 c2
    clear c2
    cases t2 with
    | false =>
      go_wp2_with (go_at_call 15; refine (ordLives _).mono ?_; rintro e wL ⟨rfl, bL⟩)
      go_ret
      exact ⟨rfl, Below.then (Below.then bw g2) bL⟩
    | true =>
      obtain ⟨x0_, x1_, x2_, x3_, -⟩ := (q2.below g2).cells
      go_wp2_with fail
      clear x0_ x1_ x2_ x3_
      go_at_call 14
      refine (smallL _ _ _ (h2.below g2)).mono ?_
      rintro e u3 ⟨t3, rfl, c3⟩
      have g3 := Below.then g2 c3
      clear c3
      cases t3 with
      | false =>
        go_wp2_with (go_at_call 15; refine (ordLives _).mono ?_; rintro e wL ⟨rfl, bL⟩)
        go_ret
        exact ⟨rfl, Below.then (Below.then bw g3) bL⟩
      | true =>
        obtain ⟨x0_, x1_, x2_, x3_, -⟩ := (q0.below g3).cells
        go_wp2_with fail
        clear x0_ x1_ x2_ x3_
        go_at_call 20
        refine (rightR3 _ _ _ (h0.below g3)).mono ?_
        rintro e u4 ⟨rfl, c4⟩
        have g4 := Below.then g3 c4
        clear c4
        by_cases r0 : rightE x0 = 0
        rotate_left
        · have e0 : (rightE x0 != 0) = true := by simpa using r0
          go_wp2_with (go_at_call 15; refine (ordLives _).mono ?_; rintro e wL ⟨rfl, bL⟩)
          go_ret
          exact ⟨rfl, Below.then (Below.then bw g4) bL⟩
        ·
          have e0 : (rightE x0 != 0) = false := by simpa using r0
          obtain ⟨x0_, x1_, x2_, x3_, -⟩ := (q1.below g4).cells
          go_wp2_with fail
          clear x0_ x1_ x2_ x3_
          go_at_call 20
          refine (rightR3 _ _ _ (h1.below g4)).mono ?_
          rintro e u5 ⟨rfl, c5⟩
          have g5 := Below.then g4 c5
          clear c5
          by_cases r1 : rightE x1 = 0
          rotate_left
          · have e1 : (rightE x1 != 0) = true := by simpa using r1
            go_wp2_with (go_at_call 15; refine (ordLives _).mono ?_; rintro e wL ⟨rfl, bL⟩)
            go_ret
            exact ⟨rfl, Below.then (Below.then bw g5) bL⟩
          ·
            have e1 : (rightE x1 != 0) = false := by simpa using r1
            obtain ⟨x0_, x1_, x2_, x3_, -⟩ := (q2.below g5).cells
            go_wp2_with fail
            clear x0_ x1_ x2_ x3_
            go_at_call 20
            refine (rightR3 _ _ _ (h2.below g5)).mono ?_
            rintro e u6 ⟨rfl, c6⟩
            have g6 := Below.then g5 c6
            clear c6
            by_cases r2 : rightE x2 = 0
            rotate_left
            · have e2 : (rightE x2 != 0) = true := by simpa using r2
              go_wp2_with (go_at_call 15; refine (ordLives _).mono ?_; rintro e wL ⟨rfl, bL⟩)
              go_ret
              exact ⟨rfl, Below.then (Below.then bw g6) bL⟩
            ·
              have e2 : (rightE x2 != 0) = false := by simpa using r2
              have rr0 : rightE x0 = 0 := r0
              have rr1 : rightE x1 = 0 := r1
              have rr2 : rightE x2 = 0 := r2
              obtain ⟨N, hN⟩ : ∃ N, rk x0 + rk x1 + rk x2 = N := ⟨_, rfl⟩
              have n0 : rk x0 ≤ N := by omega
              have n1 : rk x1 ≤ N := by omega
              have CP := fun w' (g' : Below W.heap.size W w') => compareTop N (compareP _) _ _ x0 x1 w' n0 (h0.below g') (h1.below g')
              have CQ := fun w' (g' : Below W.heap.size W w') => compareTop N (compareP _) _ _ x1 x2 w' n1 (h1.below g') (h2.below g')
              have CA := fun w' (g' : Below W.heap.size W w') => compareTop N (compareP _) _ _ x0 x2 w' n0 (h0.below g') (h2.below g')
              have m1 : cmpS N x0 x1 = cmpF N x0 x1 := by unfold cmpS; rw [if_pos ⟨rr0, rr1⟩]
              have m2 : cmpS N x1 x2 = cmpF N x1 x2 := by unfold cmpS; rw [if_pos ⟨rr1, rr2⟩]
              have m3 : cmpS N x0 x2 = cmpF N x0 x2 := by unfold cmpS; rw [if_pos ⟨rr0, rr2⟩]
              have m4 : cmpF N x0 x1 ≤ 0 → cmpF N x1 x2 ≤ 0 → cmpF N x0 x2 ≤ 0 := fun a b => (cmpF_tr N x0 x1 x2 (nna_right N x0 rr0) (nna_right N x1 rr1) (nna_right N x2 rr2) a b).1
              rw [m1] at CP
              rw [m2] at CQ
              rw [m3] at CA
              generalize cmpF N x0 x1 = X at *
              generalize cmpF N x1 x2 = Y at *
              generalize cmpF N x0 x2 = Z at *
              clear m1 m2 m3 h0 h1 h2 hN n0 n1 rr0 rr1 rr2
              by_cases hX : 0 < X
              · have dX : decide (0 < X) = true := decide_eq_true hX
                obtain ⟨y0_, y1_, y2_, y3_, -⟩ := (q0.below g6).cells
                obtain ⟨y4_, y5_, y6_, y7_, -⟩ := (q1.below g6).cells
                go_wp2_with fail
                clear y0_ y1_ y2_ y3_ y4_ y5_ y6_ y7_
                go_at_call 16
                with_reducible refine (CP _ g6).mono ?_
                rintro e u11 ⟨rfl, c11⟩
                have g11 := Below.then g6 c11
                clear c11
                go_wp2_with (go_at_call 15; refine (ordLives _).mono ?_; rintro e wL ⟨rfl, bL⟩)
                go_ret
                exact ⟨rfl, Below.then (Below.then bw g11) bL⟩
              · have dX : decide (0 < X) = false := decide_eq_false hX
                by_cases hY : 0 < Y
                · have dY : decide (0 < Y) = true := decide_eq_true hY
                  obtain ⟨y0_, y1_, y2_, y3_, -⟩ := (q0.below g6).cells
                  obtain ⟨y4_, y5_, y6_, y7_, -⟩ := (q1.below g6).cells
                  go_wp2_with fail
                  clear y0_ y1_ y2_ y3_ y4_ y5_ y6_ y7_
                  go_at_call 16
                  with_reducible refine (CP _ g6).mono ?_
                  rintro e u11 ⟨rfl, c11⟩
                  have g11 := Below.then g6 c11
                  clear c11
                  obtain ⟨y0_, y1_, y2_, y3_, -⟩ := (q1.below g11).cells
                  obtain ⟨y4_, y5_, y6_, y7_, -⟩ := (q2.below g11).cells
                  go_wp2_with fail
                  clear y0_ y1_ y2_ y3_ y4_ y5_ y6_ y7_
                  go_at_call 16
                  with_reducible refine (CQ _ g11).mono ?_
                  rintro e u12 ⟨rfl, c12⟩
                  have g12 := Below.then g11 c12
                  clear c12
                  go_wp2_with (go_at_call 15; refine (ordLives _).mono ?_; rintro e wL ⟨rfl, bL⟩)
                  go_ret
                  exact ⟨rfl, Below.then (Below.then bw g12) bL⟩
                · have dY : decide (0 < Y) = false := decide_eq_false hY
                  have hZ : Z ≤ 0 := m4 (by omega) (by omega)
                  have dZ : decide (Z ≤ 0) = true := decide_eq_true hZ
                  obtain ⟨y0_, y1_, y2_, y3_, -⟩ := (q0.below g6).cells
                  obtain ⟨y4_, y5_, y6_, y7_, -⟩ := (q1.below g6).cells
                  go_wp2_with fail
                  clear y0_ y1_ y2_ y3_ y4_ y5_ y6_ y7_
                  go_at_call 16
                  with_reducible refine (CP _ g6).mono ?_
                  rintro e u11 ⟨rfl, c11⟩
                  have g11 := Below.then g6 c11
                  clear c11
                  obtain ⟨y0_, y1_, y2_, y3_, -⟩ := (q1.below g11).cells
                  obtain ⟨y4_, y5_, y6_, y7_, -⟩ := (q2.below g11).cells
                  go_wp2_with fail
                  clear y0_ y1_ y2_ y3_ y4_ y5_ y6_ y7_
                  go_at_call 16
                  with_reducible refine (CQ _ g11).mono ?_
                  rintro e u12 ⟨rfl, c12⟩
                  have g12 := Below.then g11 c12
                  clear c12
                  obtain ⟨y0_, y1_, y2_, y3_, -⟩ := (q0.below g12).cells
                  obtain ⟨y4_, y5_, y6_, y7_, -⟩ := (q2.below g12).cells
                  go_wp2_with fail
                  clear y0_ y1_ y2_ y3_ y4_ y5_ y6_ y7_
                  go_at_call 16
                  with_reducible refine (CA _ g12).mono ?_
                  rintro e u13 ⟨rfl, c13⟩
                  have g13 := Below.then g12 c13
                  clear c13
                  go_wp2_with (go_at_call 15; refine (ordLives _).mono ?_; rintro e wL ⟨rfl, bL⟩)
                  go_ret
                  exact ⟨rfl, Below.then (Below.then bw g13) bL⟩

set_option maxRecDepth 100000 in
theorem lifted (os : Os) (started : os.Started) (H : Type) (enc : TypeId × Value → H) :
    ReturnsInHanded {} Try.checked os 6 .any (Rows.orderChainSpec.pre6 enc Try.prog Try.f6 Rows.orderChainRow.domain false) (Rows.orderChainSpec.post enc Try.prog Try.f6 false true false false) := by
  refine returnsInHanded_of_change_sized (C := Try.checked) own started (by kernel_rfl) Try.func6
    (ChangeSpec.witness6 (enc := enc) (C := Try.checked) false ⟨#[], #[.agg #[.int .i64 0, .slice none 0 0, .slice none 0 0, .slice none 0 0], .agg #[.int .i64 0, .slice none 0 0, .slice none 0 0, .slice none 0 0], .agg #[.int .i64 0, .slice none 0 0, .slice none 0 0, .slice none 0 0]], []⟩ 8 (by kernel_rfl) (by kernel_rfl) (by kernel_rfl) (by kernel_rfl)) ?_
  intro W base args ds gs before hval0 hW hcnd hsz0 _
  have hsz : (DataW.weightsEach Try.prog (Try.f6.params.toList ++ Rows.orderChainSpec.plain.varTypes Try.prog) (ds ++ gs)).all (· ≤ reachBytes) = true := hsz0
  have hval : ∀ (j : Nat) t v, Try.f6.params[j]? = some t → args[j]? = some v → Value.okWide Try.prog W .any base t v := hval0
  have hW' := hW
  obtain ⟨p, q, hA0, hV, rfl, hfz, hnd⟩ := hW
  have hA : DataW.TrodAll enc Try.prog W 0 (fun _ => true) true Try.f6.params.toList args.toList ds p := hA0
  rw [Try.params6] at hA hval hsz
  obtain ⟨v0, vs0, d0, ds0, p0, q0, hargs, rfl, rfl, h0, r0⟩ := trodAll_cons hA
  obtain ⟨v1, vs1, d1, ds1, p1, q1, rfl, rfl, rfl, h1, r1⟩ := trodAll_cons r0
  obtain ⟨v2, vs2, d2, ds2, p2, q2, rfl, rfl, rfl, h2, r2⟩ := trodAll_cons r1
  obtain ⟨rfl, rfl, rfl⟩ := trodAll_nil r2
  obtain rfl : args = #[v0, v1, v2] := by cases args; simp_all
  obtain ⟨rfl, rfl⟩ := trodVars_none hV
  have k0 := h0
  have lt0 : ∀ x ∈ p0, x.block < W.heap.size := by obtain ⟨m, hm⟩ := k0; exact DataW.trod_lt m _ _ _ hm
  obtain ⟨x0, b0, z0⟩ := arr_open (hval 0 26 v0 rfl rfl) h0
  have s0 : Shape.Reach x0 := z0 (Sized.each hsz (j := 0) rfl rfl)
  have k1 := h1
  have lt1 : ∀ x ∈ p1, x.block < W.heap.size := by obtain ⟨m, hm⟩ := k1; exact DataW.trod_lt m _ _ _ hm
  obtain ⟨x1, b1, z1⟩ := arr_open (hval 1 26 v1 rfl rfl) h1
  have s1 : Shape.Reach x1 := z1 (Sized.each hsz (j := 1) rfl rfl)
  have k2 := h2
  have lt2 : ∀ x ∈ p2, x.block < W.heap.size := by obtain ⟨m, hm⟩ := k2; exact DataW.trod_lt m _ _ _ hm
  obtain ⟨x2, b2, z2⟩ := arr_open (hval 2 26 v2 rfl rfl) h2
  have s2 : Shape.Reach x2 := z2 (Sized.each hsz (j := 2) rfl rfl)
  clear hA0 hval0
  refine (walk v0 x0 v1 x1 v2 x2 W b0 s0 b1 s1 b2 s2).mono fun e W' ⟨he, bel⟩ => ?_
  subst he
  exact ⟨_, rfl, _, _, _, [], _, [], hW', trodAll_mk1 (shut_bool Try.underlying4 _), (trodAll_cons_mk (Below.trod laidOut (by kernel_rfl) (of_decide_eq_true (by kernel_rfl)) k0 bel lt0) (trodAll_cons_mk (Below.trod laidOut (by kernel_rfl) (of_decide_eq_true (by kernel_rfl)) k1 bel lt1) (trodAll_cons_mk (Below.trod laidOut (by kernel_rfl) (of_decide_eq_true (by kernel_rfl)) k2 bel lt2) trodAll_mk0))), rfl, bel.frame _, fun h => by cases h⟩

theorem over : Rows.orderChainRow.holds Try.pinned (OpenSpec.ofChange Rows.orderChainSpec) :=
  OpenClaim.holds_of_wide 6 Try.f6 rfl rfl rfl rfl rfl rfl rfl ⟨rfl, rfl, rfl, rfl, rfl⟩ rfl rfl rfl rfl rfl (by kernel_rfl) Try.func6 (by kernel_rfl)
    (of_decide_eq_true (by kernel_rfl)) (by unfold Func.isWrapper; first | (rw [if_pos (by decide +kernel)]; kernel_rfl) | (rw [if_neg (by decide +kernel)]; exact ⟨rfl, rfl⟩))
    (fun os started H enc _ => lifted os started H enc)

theorem proved : Rows.OrderChainSaid := over
end Go.Proofs.Ytppdibblkaepjaa.orderChainProof
