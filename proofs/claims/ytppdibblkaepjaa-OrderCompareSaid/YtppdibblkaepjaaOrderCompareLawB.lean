/-
  The law arraylanglaw06.OrderCompare holds for every input: it returns true, and each argument reads afterwards as it read before. No condition.
-/
import Derived.Test.YtppdibblkaepjaaBd24
import Derived.Test.YtppdibblkaepjaaBd4
import Derived.Test.YtppdibblkaepjaaBd23
import Derived.Test.YtppdibblkaepjaaBd22
import Derived.Test.YtppdibblkaepjaaBd9
import Derived.Handy
import Derived.Deep.RegionHeld3
import Derived.ProofKit
import Derived.OpenShut
namespace Go.Proofs.Ytppdibblkaepjaa.orderCompareProof
open Go.ChangeShapes Go.WideShapes Go.ChangeAt Go.RowKit Go.Proofs.Ytppdibblkaepjaa.Shape
open Go.WideMaps Go.WideElems
open Go.ChangeMaps (open_string shut_string)
set_option linter.unusedVariables false

theorem own : ownKnob Try.prog.godebug = none := by kernel_rfl
theorem laidOut : laidOutB Try.prog = true := by kernel_rfl

set_option maxHeartbeats 1000000 in
theorem walk (v0 : Value) (x0 : Arr) (v1 : Value) (x1 : Arr) (w : World) (b0 : ArrAt w v0 x0) (s0 : Shape.Reach x0) (b1 : ArrAt w v1 x1) (s1 : Shape.Reach x1) :
    Calls Try.prog 4 #[v0, v1] w fun e w' => e = .returned (.bool true) ∧ Below w.heap.size w w' := by
  obtain ⟨k0, sa0, ls0, sc0, na0, ln0, nc0, ia0, li0, ic0, rfl⟩ : ∃ k sa ls sc na ln nc ia li ic, v0 = .agg #[.int .i64 k, .slice sa ls sc, .slice na ln nc, .slice ia li ic] := by
    obtain ⟨sa, sc, na, nc, ia, ic, h, -⟩ := arr_cellsO b0
    exact ⟨_, _, _, _, _, _, _, _, _, _, h⟩
  obtain ⟨k1, sa1, ls1, sc1, na1, ln1, nc1, ia1, li1, ic1, rfl⟩ : ∃ k sa ls sc na ln nc ia li ic, v1 = .agg #[.int .i64 k, .slice sa ls sc, .slice na ln nc, .slice ia li ic] := by
    obtain ⟨sa, sc, na, nc, ia, ic, h, -⟩ := arr_cellsO b1
    exact ⟨_, _, _, _, _, _, _, _, _, _, h⟩
  have bw : Below w.heap.size w ((w.alloc (.cells #[.int .i64 k0, .slice sa0 ls0 sc0, .slice na0 ln0 nc0, .slice ia0 li0 ic0] 26)).alloc (.cells #[.int .i64 k1, .slice sa1 ls1 sc1, .slice na1 ln1 nc1, .slice ia1 li1 ic1] 26)) := (Below.then (below_new _ _) (below_new _ _))
  have HQ : Quad ((w.alloc (.cells #[.int .i64 k0, .slice sa0 ls0 sc0, .slice na0 ln0 nc0, .slice ia0 li0 ic0] 26)).alloc (.cells #[.int .i64 k1, .slice sa1 ls1 sc1, .slice na1 ln1 nc1, .slice ia1 li1 ic1] 26)) (w.heap.size) (.int .i64 k0) (.slice sa0 ls0 sc0) (.slice na0 ln0 nc0) (.slice ia0 li0 ic0) ∧ Quad ((w.alloc (.cells #[.int .i64 k0, .slice sa0 ls0 sc0, .slice na0 ln0 nc0, .slice ia0 li0 ic0] 26)).alloc (.cells #[.int .i64 k1, .slice sa1 ls1 sc1, .slice na1 ln1 nc1, .slice ia1 li1 ic1] 26)) (w.heap.size + 1) (.int .i64 k1) (.slice sa1 ls1 sc1) (.slice na1 ln1 nc1) (.slice ia1 li1 ic1) := boxes2 _ _ _ _ _ _ _ _ _ 
  obtain ⟨q0, q1⟩ := HQ
  have h0 := b0.below bw
  have h1 := b1.below bw
  clear b0 s0 b1 s1
  go_enter Try.func4, Try.ntmps4
  go_wp2_with fail
  generalize ((w.alloc (.cells #[.int .i64 k0, .slice sa0 ls0 sc0, .slice na0 ln0 nc0, .slice ia0 li0 ic0] 26)).alloc (.cells #[.int .i64 k1, .slice sa1 ls1 sc1, .slice na1 ln1 nc1, .slice ia1 li1 ic1] 26)) = W at *
  go_at_call 14
  refine (smallL _ _ _ h0).mono ?_
  rintro e u1 ⟨t1, rfl, c1⟩
  have g1 := c1
  clear c1
  cases t1 with
  | false =>
    go_wp2_with (go_at_call 15; refine (ordLives _).mono ?_; rintro e wL ⟨rfl, bL⟩)
    go_ret
    exact ⟨rfl, Below.then (Below.then bw g1) bL⟩
  | true =>
    obtain ⟨x0_, x1_, x2_, x3_, -⟩ := (q1.below g1).cells
    go_wp2_with fail
    clear x0_ x1_ x2_ x3_
    go_at_call 14
    refine (smallL _ _ _ (h1.below g1)).mono ?_
    rintro e u2 ⟨t2, rfl, c2⟩
    have g2 := Below.then g1 c2
    clear c2
    cases t2 with
    | false =>
      go_wp2_with (go_at_call 15; refine (ordLives _).mono ?_; rintro e wL ⟨rfl, bL⟩)
      go_ret
      exact ⟨rfl, Below.then (Below.then bw g2) bL⟩
    | true =>
      have HP := fun w' (g' : Below W.heap.size W w') => compareTop (rk x0) (compareP _) _ _ x0 x1 w' (Nat.le_refl _) (h0.below g') (h1.below g')
      have HR := fun w' (g' : Below W.heap.size W w') => compareTopR (rk x0) (compareR _) _ _ x0 x1 w' (Nat.le_refl _) (h0.below g') (h1.below g')
      have LP := fun w' (g' : Below W.heap.size W w') => lessTop (rk x0) (compareP _) _ _ x0 x1 w' (Nat.le_refl _) (h0.below g') (h1.below g')
      have LR := fun w' (g' : Below W.heap.size W w') => lessTopR (rk x0) (compareR _) _ _ x0 x1 w' (Nat.le_refl _) (h0.below g') (h1.below g')
      have H0 : ∀ w', Below W.heap.size W w' → w'.cell? ⟨w.heap.size, 0, none⟩ = some (.int .i64 k0) ∧ w'.cell? ⟨w.heap.size, 1, none⟩ = some (.slice sa0 ls0 sc0) ∧ w'.cell? ⟨w.heap.size, 2, none⟩ = some (.slice na0 ln0 nc0) ∧ w'.cell? ⟨w.heap.size, 3, none⟩ = some (.slice ia0 li0 ic0) ∧ w'.cell? ⟨w.heap.size + 1, 0, none⟩ = some (.int .i64 k1) ∧ w'.cell? ⟨w.heap.size + 1, 1, none⟩ = some (.slice sa1 ls1 sc1) ∧ w'.cell? ⟨w.heap.size + 1, 2, none⟩ = some (.slice na1 ln1 nc1) ∧ w'.cell? ⟨w.heap.size + 1, 3, none⟩ = some (.slice ia1 li1 ic1) ∧ Below W.heap.size W w' := fun w' g => ⟨(q0.below g).cells.1, (q0.below g).cells.2.1, (q0.below g).cells.2.2.1, (q0.below g).cells.2.2.2.1, (q1.below g).cells.1, (q1.below g).cells.2.1, (q1.below g).cells.2.2.1, (q1.below g).cells.2.2.2.1, g⟩
      generalize cmpS (rk x0) x0 x1 = Z at *
      have ez : (Z == Z) = true := by simp
      have ed : (decide (Z < 0) == decide (Z < 0)) = true := by simp
      generalize decide (Z < 0) = D at *
      clear h0 h1 q0 q1
      go_wp2_with fail
      go_region_held3 (fun w' => w'.cell? ⟨w.heap.size, 0, none⟩ = some (.int .i64 k0) ∧ w'.cell? ⟨w.heap.size, 1, none⟩ = some (.slice sa0 ls0 sc0) ∧ w'.cell? ⟨w.heap.size, 2, none⟩ = some (.slice na0 ln0 nc0) ∧ w'.cell? ⟨w.heap.size, 3, none⟩ = some (.slice ia0 li0 ic0) ∧ w'.cell? ⟨w.heap.size + 1, 0, none⟩ = some (.int .i64 k1) ∧ w'.cell? ⟨w.heap.size + 1, 1, none⟩ = some (.slice sa1 ls1 sc1) ∧ w'.cell? ⟨w.heap.size + 1, 2, none⟩ = some (.slice na1 ln1 nc1) ∧ w'.cell? ⟨w.heap.size + 1, 3, none⟩ = some (.slice ia1 li1 ic1) ∧ Below W.heap.size W w') (exact H0 _ (by go_grown))
        (first
          | (go_at_call 16; (with_reducible refine (HP _ (by go_grown)).mono ?_); rintro e w1 ⟨rfl, b1⟩; (have e1 : Below W.heap.size W w1 := Below.then (by go_grown) b1); (have S1 := e1.size))
          | (go_at_call 17; (with_reducible refine (HR _ (by go_grown)).mono ?_); rintro e w2 ⟨rfl, b2⟩; (have e2 : Below W.heap.size W w2 := Below.then (by go_grown) b2); (have S2 := e2.size))
          | (go_at_call 18; (with_reducible refine (LP _ (by go_grown)).mono ?_); rintro e w3 ⟨rfl, b3⟩; (have e3 : Below W.heap.size W w3 := Below.then (by go_grown) b3); (have S3 := e3.size))
          | (go_at_call 19; (with_reducible refine (LR _ (by go_grown)).mono ?_); rintro e w4 ⟨rfl, b4⟩; (have e4 : Below W.heap.size W w4 := Below.then (by go_grown) b4); (have S4 := e4.size))
          | (go_at_call 15; (with_reducible refine (ordLives _).mono ?_); rintro e w5 ⟨rfl, b5⟩; (have e5 : Below W.heap.size W w5 := Below.then (by go_grown) b5); (have S5 := e5.size)))
      all_goals (go_wp2_with fail; go_ret; exact ⟨rfl, Below.then bw (by go_grown)⟩)

set_option maxRecDepth 100000 in
theorem lifted (os : Os) (started : os.Started) (H : Type) (enc : TypeId × Value → H) :
    ReturnsInHanded {} Try.checked os 4 .any (Rows.orderCompareSpec.pre6 enc Try.prog Try.f4 Rows.orderCompareRow.domain false) (Rows.orderCompareSpec.post enc Try.prog Try.f4 false true false false) := by
  refine returnsInHanded_of_change_sized (C := Try.checked) own started (by kernel_rfl) Try.func4
    (ChangeSpec.witness6 (enc := enc) (C := Try.checked) false ⟨#[], #[.agg #[.int .i64 0, .slice none 0 0, .slice none 0 0, .slice none 0 0], .agg #[.int .i64 0, .slice none 0 0, .slice none 0 0, .slice none 0 0]], []⟩ 8 (by kernel_rfl) (by kernel_rfl) (by kernel_rfl) (by kernel_rfl)) ?_
  intro W base args ds gs before hval0 hW hcnd hsz0 _
  have hsz : (DataW.weightsEach Try.prog (Try.f4.params.toList ++ Rows.orderCompareSpec.plain.varTypes Try.prog) (ds ++ gs)).all (· ≤ reachBytes) = true := hsz0
  have hval : ∀ (j : Nat) t v, Try.f4.params[j]? = some t → args[j]? = some v → Value.okWide Try.prog W .any base t v := hval0
  have hW' := hW
  obtain ⟨p, q, hA0, hV, rfl, hfz, hnd⟩ := hW
  have hA : DataW.TrodAll enc Try.prog W 0 (fun _ => true) true Try.f4.params.toList args.toList ds p := hA0
  rw [Try.params4] at hA hval hsz
  obtain ⟨v0, vs0, d0, ds0, p0, q0, hargs, rfl, rfl, h0, r0⟩ := trodAll_cons hA
  obtain ⟨v1, vs1, d1, ds1, p1, q1, rfl, rfl, rfl, h1, r1⟩ := trodAll_cons r0
  obtain ⟨rfl, rfl, rfl⟩ := trodAll_nil r1
  obtain rfl : args = #[v0, v1] := by cases args; simp_all
  obtain ⟨rfl, rfl⟩ := trodVars_none hV
  have k0 := h0
  have lt0 : ∀ x ∈ p0, x.block < W.heap.size := by obtain ⟨m, hm⟩ := k0; exact DataW.trod_lt m _ _ _ hm
  obtain ⟨x0, b0, z0⟩ := arr_open (hval 0 26 v0 rfl rfl) h0
  have s0 : Shape.Reach x0 := z0 (Sized.each hsz (j := 0) rfl rfl)
  have k1 := h1
  have lt1 : ∀ x ∈ p1, x.block < W.heap.size := by obtain ⟨m, hm⟩ := k1; exact DataW.trod_lt m _ _ _ hm
  obtain ⟨x1, b1, z1⟩ := arr_open (hval 1 26 v1 rfl rfl) h1
  have s1 : Shape.Reach x1 := z1 (Sized.each hsz (j := 1) rfl rfl)
  clear hA0 hval0
  refine (walk v0 x0 v1 x1 W b0 s0 b1 s1).mono fun e W' ⟨he, bel⟩ => ?_
  subst he
  exact ⟨_, rfl, _, _, _, [], _, [], hW', trodAll_mk1 (shut_bool Try.underlying4 _), (trodAll_cons_mk (Below.trod laidOut (by kernel_rfl) (of_decide_eq_true (by kernel_rfl)) k0 bel lt0) (trodAll_cons_mk (Below.trod laidOut (by kernel_rfl) (of_decide_eq_true (by kernel_rfl)) k1 bel lt1) trodAll_mk0)), rfl, bel.frame _, fun h => by cases h⟩

theorem over : Rows.orderCompareRow.holds Try.pinned (OpenSpec.ofChange Rows.orderCompareSpec) :=
  OpenClaim.holds_of_wide 4 Try.f4 rfl rfl rfl rfl rfl rfl rfl ⟨rfl, rfl, rfl, rfl, rfl⟩ rfl rfl rfl rfl rfl (by kernel_rfl) Try.func4 (by kernel_rfl)
    (of_decide_eq_true (by kernel_rfl)) (by unfold Func.isWrapper; first | (rw [if_pos (by decide +kernel)]; kernel_rfl) | (rw [if_neg (by decide +kernel)]; exact ⟨rfl, rfl⟩))
    (fun os started H enc _ => lifted os started H enc)

theorem proved : Rows.OrderCompareSaid := over
end Go.Proofs.Ytppdibblkaepjaa.orderCompareProof
