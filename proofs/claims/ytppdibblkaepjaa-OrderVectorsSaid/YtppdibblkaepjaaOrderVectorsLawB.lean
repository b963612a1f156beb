/-
  The law arraylanglaw06.OrderVectors holds for every input: it returns true, and each argument reads afterwards as it read before. No condition.
-/
import Derived.Test.YtppdibblkaepjaaBd24
import Derived.Test.YtppdibblkaepjaaBd27
import Derived.Test.YtppdibblkaepjaaBd22
import Derived.Test.YtppdibblkaepjaaBd23
import Derived.Test.YtppdibblkaepjaaBd9
import Derived.Handy
import Derived.Deep.RegionHeld3
import Derived.ProofKit
import Derived.OpenShut
namespace Go.Proofs.Ytppdibblkaepjaa.orderVectorsProof
open Go.ChangeShapes Go.WideShapes Go.ChangeAt Go.RowKit Go.Proofs.Ytppdibblkaepjaa.Shape
open Go.WideMaps Go.WideElems
open Go.ChangeMaps (open_string shut_string)
set_option linter.unusedVariables false

theorem own : ownKnob Try.prog.godebug = none := by kernel_rfl
theorem laidOut : laidOutB Try.prog = true := by kernel_rfl

set_option maxHeartbeats 1000000 in
theorem walk (a0 : Option Addr) (c0 : Nat) (x0 : List Int) (a1 : Option Addr) (c1 : Nat) (x1 : List Int) (w : World) (b0 : IntsAt w a0 c0 x0) (s0 : x0.length * 8 ≤ 140737488351232) (b1 : IntsAt w a1 c1 x1) (s1 : x1.length * 8 ≤ 140737488351232) :
    Calls Try.prog 8 #[.slice a0 x0.length c0, .slice a1 x1.length c1] w fun e w' => e = .returned (.bool true) ∧ Below w.heap.size w w' := by
  have l0 := b0.len
  have l1 := b1.len
  by_cases hb0 : 1000 < x0.length
  · clear b0 b1
    go_enter Try.func8, Try.ntmps8
    go_wp2_with (go_at_call 15; refine (ordLives _).mono ?_; rintro e wL ⟨rfl, bL⟩)
    go_ret
    exact ⟨rfl, bL⟩
  by_cases hb1 : 1000 < x1.length
  · clear b0 b1
    go_enter Try.func8, Try.ntmps8
    go_wp2_with (go_at_call 15; refine (ordLives _).mono ?_; rintro e wL ⟨rfl, bL⟩)
    go_ret
    exact ⟨rfl, bL⟩
  have hs0 : x0.length ≤ 1000 := by omega
  have hs1 : x1.length ≤ 1000 := by omega
  clear hb0 hb1
  have I0 := fun w' (g : Below w.heap.size w w') => ordInts a0 c0 x0 w' (b0.below g)
  have I1 := fun w' (g : Below w.heap.size w w') => ordInts a1 c1 x1 w' (b1.below g)
  have T0 := fun w' (g : Below w.heap.size w w') j (hj : j < x0.length) => (b0.below g).atL rfl hj
  have T1 := fun w' (g : Below w.heap.size w w') j (hj : j < x1.length) => (b1.below g).atL rfl hj
  clear b0 b1
  go_enter Try.func8, Try.ntmps8
  go_wp2_with fail
  go_at_call 24
  with_reducible refine (I0 _ (Below.refl _ _)).mono ?_
  rintro e w1 ⟨s1, rfl, A1, g1⟩
  go_wp2_with fail
  go_at_call 20
  refine (rightR3 _ _ _ A1).mono ?_
  rintro e w2 ⟨rfl, c2⟩
  have g2 := Below.then g1 c2
  clear A1 c2 g1
  by_cases r0 : rightE (vecA x0) = 0
  rotate_left
  · have e0 : (rightE (vecA x0) != 0) = true := by simpa using r0
    go_wp2_with (go_at_call 15; refine (ordLives _).mono ?_; rintro e wL ⟨rfl, bL⟩)
    go_ret
    exact ⟨rfl, Below.then g2 bL⟩
  have e0 : (rightE (vecA x0) != 0) = false := by simpa using r0
  go_wp2_with fail
  go_at_call 24
  with_reducible refine (I1 _ g2).mono ?_
  rintro e w3 ⟨s3, rfl, A3, c3⟩
  have g3 := Below.then g2 c3
  clear c3 g2
  go_wp2_with fail
  go_at_call 20
  refine (rightR3 _ _ _ A3).mono ?_
  rintro e w4 ⟨rfl, c4⟩
  have g4 := Below.then g3 c4
  clear A3 c4 g3
  by_cases r1 : rightE (vecA x1) = 0
  rotate_left
  · have e1 : (rightE (vecA x1) != 0) = true := by simpa using r1
    go_wp2_with (go_at_call 15; refine (ordLives _).mono ?_; rintro e wL ⟨rfl, bL⟩)
    go_ret
    exact ⟨rfl, Below.then g4 bL⟩
  have e1 : (rightE (vecA x1) != 0) = false := by simpa using r1
  go_wp2_with fail
  go_at_call 24
  with_reducible refine (I0 _ g4).mono ?_
  rintro e w5 ⟨s5, rfl, A5, c5⟩
  have g5 := Below.then g4 c5
  clear c5 g4
  go_wp2_with fail
  go_at_call 24
  with_reducible refine (I1 _ g5).mono ?_
  rintro e w6 ⟨s6, rfl, A6, c6⟩
  have g6 := Below.then g5 c6
  have A5' := A5.below c6
  clear c6 g5 A5
  have CP := compareTop 1 (compareP 1) _ _ (vecA x0) (vecA x1) w6 (rk_flat _ _ _) A5' A6
  have m1 : cmpS 1 (vecA x0) (vecA x1) = cmpF 1 (vecA x0) (vecA x1) := by unfold cmpS; rw [if_pos ⟨r0, r1⟩]
  rw [m1] at CP
  have HV1 := hid6 (fun (j : Nat) (h1 : j < x0.length) (h2 : j < x1.length) => vec_at (xs := x0) (ys := x1) (j := j) h1 h2)
  have HV2 := hid6 (vec_end (xs := x0) (ys := x1))
  generalize cmpF 1 (vecA x0) (vecA x1) = Z at *
  clear m1 A5' A6 r0 r1 e0 e1 I0 I1
  go_wp2_with fail
  go_at_call 16
  with_reducible refine CP.mono ?_
  rintro e w7 ⟨rfl, c7⟩
  have g7 := Below.then g6 c7
  clear c7 g6 CP
  go_wp2_with fail
  go_loopw [6] (fun v wr => ∃ j : Nat, v = .int .i64 j ∧ j ≤ x0.length ∧ j ≤ x1.length ∧ Hid (∀ i, i < j → x0.getD i 0 = x1.getD i 0) ∧ Below w.heap.size w wr) (fun v _ => x0.length - (intOf v).toNat)
  case atStart => exact ⟨0, rfl, Nat.zero_le _, Nat.zero_le _, fun i hi => absurd hi (Nat.not_lt_zero i), g7⟩
  case round =>
    obtain ⟨j, rfl, hj0, hj1, hE, hb⟩ := hrel
    by_cases h0 : j < x0.length
    · by_cases h1 : j < x1.length
      · obtain ⟨p0, o0, f0, q0⟩ := T0 wr hb j h0
        obtain ⟨p1, o1, f1, q1⟩ := T1 wr hb j h1
        have HZ := hid6 (fun hne => HV1.out j h0 h1 hE.out hne)
        have HN : Hid (x0.getD j 0 = x1.getD j 0 → ∀ i, i < j + 1 → x0.getD i 0 = x1.getD i 0) := fun g i hi => by
          rcases Nat.lt_or_ge i j with h | h
          · exact hE.out i h
          · obtain rfl : i = j := by omega
            exact g
        generalize x0.getD j 0 = x at *
        generalize x1.getD j 0 = y at *
        clear T0 T1 HV1 HV2 hE
        have KK : ∀ w', Below wr.heap.size wr w' → w'.cell? ⟨p0, o0 + j, none⟩ = some (.int .i64 x) ∧ w'.cell? ⟨p1, o1 + j, none⟩ = some (.int .i64 y) ∧ Below wr.heap.size wr w' := fun w' g => ⟨(g.cell (cell_lt q0)).trans q0, (g.cell (cell_lt q1)).trans q1, g⟩
        by_cases he : x = y
        · have t1 : (x != y) = false := by simp [he]
          have R := hid6 (HN.out he)
          clear HN HZ he
          go_wp2_with fail
          go_region_held3 (fun w' => w'.cell? ⟨p0, o0 + j, none⟩ = some (.int .i64 x) ∧ w'.cell? ⟨p1, o1 + j, none⟩ = some (.int .i64 y)) (go_keep) (fail)
          go_wp2_with fail
          go_roundw
          case rel => exact ⟨j + 1, by go_num, by omega, by omega, R, hb.drew⟩
          case measure => simp [intOf]; omega
        · have t1 : (x != y) = true := by simpa using he
          have hZ := HZ.out he
          clear HN HZ
          by_cases hlt : x < y
          · have dl : decide (x < y) = true := decide_eq_true hlt
            obtain rfl : Z = -1 := by rw [hZ]; unfold sgn; rw [if_pos hlt]
            clear hZ he hlt
            go_wp2_with fail
            go_region_held3 (fun w' => w'.cell? ⟨p0, o0 + j, none⟩ = some (.int .i64 x) ∧ w'.cell? ⟨p1, o1 + j, none⟩ = some (.int .i64 y)) (go_keep) (fail)
            go_wp2_with fail
            go_region_held3 (fun w' => w'.cell? ⟨p0, o0 + j, none⟩ = some (.int .i64 x) ∧ w'.cell? ⟨p1, o1 + j, none⟩ = some (.int .i64 y) ∧ Below wr.heap.size wr w') (exact KK _ (by go_grown))
              ((go_at_call 15; (with_reducible refine (ordLives _).mono ?_); rintro e w8 ⟨rfl, b8⟩; (have e8 : Below wr.heap.size wr w8 := Below.then (by go_grown) b8); (have S8 := e8.size)))
            all_goals (go_wp2_with fail; go_ret; exact ⟨rfl, Below.then hb (by go_grown)⟩)
          · have dl : decide (x < y) = false := decide_eq_false hlt
            obtain rfl : Z = 1 := by rw [hZ]; unfold sgn; rw [if_neg hlt, if_pos (by omega)]
            clear hZ he hlt
            go_wp2_with fail
            go_region_held3 (fun w' => w'.cell? ⟨p0, o0 + j, none⟩ = some (.int .i64 x) ∧ w'.cell? ⟨p1, o1 + j, none⟩ = some (.int .i64 y)) (go_keep) (fail)
            go_wp2_with fail
            go_region_held3 (fun w' => w'.cell? ⟨p0, o0 + j, none⟩ = some (.int .i64 x) ∧ w'.cell? ⟨p1, o1 + j, none⟩ = some (.int .i64 y) ∧ Below wr.heap.size wr w') (exact KK _ (by go_grown))
              ((go_at_call 15; (with_reducible refine (ordLives _).mono ?_); rintro e w8 ⟨rfl, b8⟩; (have e8 : Below wr.heap.size wr w8 := Below.then (by go_grown) b8); (have S8 := e8.size)))
            all_goals (go_wp2_with fail; go_ret; exact ⟨rfl, Below.then hb (by go_grown)⟩)
      · obtain rfl : j = x1.length := by omega
        have hZ := HV2.out (fun i hi => hE.out i (by omega))
        obtain rfl : Z = 1 := by rw [hZ]; unfold sgn; rw [if_neg (by omega), if_pos (by omega)]
        have t1 : ((x0.length : Int) == (x1.length : Int)) = false := by rw [beq_eq_false_iff_ne]; omega
        have t2 : decide (x0.length < x1.length) = false := decide_eq_false (by omega)
        clear T0 T1 HV1 HV2 hE hZ
        go_wp2_with (go_at_call 15; refine (ordLives _).mono ?_; rintro e wL ⟨rfl, bL⟩)
        go_ret
        exact ⟨rfl, Below.then hb bL⟩
    · obtain rfl : j = x0.length := by omega
      have hZ := HV2.out (fun i hi => hE.out i (by omega))
      clear T0 T1 HV1 HV2 hE
      by_cases hq : x0.length = x1.length
      · obtain rfl : Z = 0 := by rw [hZ]; exact sgn_zero.2 (by omega)
        have t1 : ((x0.length : Int) == (x1.length : Int)) = true := by rw [beq_iff_eq]; omega
        clear hZ
        go_wp2_with (go_at_call 15; refine (ordLives _).mono ?_; rintro e wL ⟨rfl, bL⟩)
        go_ret
        exact ⟨rfl, Below.then hb bL⟩
      · obtain rfl : Z = -1 := by rw [hZ]; unfold sgn; rw [if_pos (by omega)]
        have t1 : ((x0.length : Int) == (x1.length : Int)) = false := by rw [beq_eq_false_iff_ne]; omega
        have t2 : decide (x0.length < x1.length) = true := decide_eq_true (by omega)
        clear hZ
        go_wp2_with (go_at_call 15; refine (ordLives _).mono ?_; rintro e wL ⟨rfl, bL⟩)
        go_ret
        exact ⟨rfl, Below.then hb bL⟩

set_option maxRecDepth 100000 in
theorem lifted (os : Os) (started : os.Started) (H : Type) (enc : TypeId × Value → H) :
    ReturnsInHanded {} Try.checked os 8 .any (Rows.orderVectorsSpec.pre6 enc Try.prog Try.f8 Rows.orderVectorsRow.domain false) (Rows.orderVectorsSpec.post enc Try.prog Try.f8 false true false false) := by
  refine returnsInHanded_of_change_sized (C := Try.checked) own started (by kernel_rfl) Try.func8
    (ChangeSpec.witness6 (enc := enc) (C := Try.checked) false ⟨#[], #[.slice none 0 0, .slice none 0 0], []⟩ 8 (by kernel_rfl) (by kernel_rfl) (by kernel_rfl) (by kernel_rfl)) ?_
  intro W base args ds gs before hval0 hW hcnd hsz0 _
  have hsz : (DataW.weightsEach Try.prog (Try.f8.params.toList ++ Rows.orderVectorsSpec.plain.varTypes Try.prog) (ds ++ gs)).all (· ≤ reachBytes) = true := hsz0
  have hval : ∀ (j : Nat) t v, Try.f8.params[j]? = some t → args[j]? = some v → Value.okWide Try.prog W .any base t v := hval0
  have hW' := hW
  obtain ⟨p, q, hA0, hV, rfl, hfz, hnd⟩ := hW
  have hA : DataW.TrodAll enc Try.prog W 0 (fun _ => true) true Try.f8.params.toList args.toList ds p := hA0
  rw [Try.params8] at hA hval hsz
  obtain ⟨v0, vs0, d0, ds0, p0, q0, hargs, rfl, rfl, h0, r0⟩ := trodAll_cons hA
  obtain ⟨v1, vs1, d1, ds1, p1, q1, rfl, rfl, rfl, h1, r1⟩ := trodAll_cons r0
  obtain ⟨rfl, rfl, rfl⟩ := trodAll_nil r1
  obtain rfl : args = #[v0, v1] := by cases args; simp_all
  obtain ⟨rfl, rfl⟩ := trodVars_none hV
  have k0 := h0
  have lt0 : ∀ x ∈ p0, x.block < W.heap.size := by obtain ⟨m, hm⟩ := k0; exact DataW.trod_lt m _ _ _ hm
  obtain ⟨a0, c0, x0, rfl, b0, z0⟩ := ints_open_sized (hval 0 22 v0 rfl rfl) h0
  have s0 := z0 (Sized.each hsz (j := 0) rfl rfl)
  have k1 := h1
  have lt1 : ∀ x ∈ p1, x.block < W.heap.size := by obtain ⟨m, hm⟩ := k1; exact DataW.trod_lt m _ _ _ hm
  obtain ⟨a1, c1, x1, rfl, b1, z1⟩ := ints_open_sized (hval 1 22 v1 rfl rfl) h1
  have s1 := z1 (Sized.each hsz (j := 1) rfl rfl)
  clear hA0 hval0
  refine (walk a0 c0 x0 a1 c1 x1 W b0 s0 b1 s1).mono fun e W' ⟨he, bel⟩ => ?_
  subst he
  exact ⟨_, rfl, _, _, _, [], _, [], hW', trodAll_mk1 (shut_bool Try.underlying4 _), (trodAll_cons_mk (Below.trod laidOut (by kernel_rfl) (of_decide_eq_true (by kernel_rfl)) k0 bel lt0) (trodAll_cons_mk (Below.trod laidOut (by kernel_rfl) (of_decide_eq_true (by kernel_rfl)) k1 bel lt1) trodAll_mk0)), rfl, bel.frame _, fun h => by cases h⟩

theorem over : Rows.orderVectorsRow.holds Try.pinned (OpenSpec.ofChange Rows.orderVectorsSpec) :=
  OpenClaim.holds_of_wide 8 Try.f8 rfl rfl rfl rfl rfl rfl rfl ⟨rfl, rfl, rfl, rfl, rfl⟩ rfl rfl rfl rfl rfl (by kernel_rfl) Try.func8 (by kernel_rfl)
    (of_decide_eq_true (by kernel_rfl)) (by unfold Func.isWrapper; first | (rw [if_pos (by decide +kernel)]; kernel_rfl) | (rw [if_neg (by decide +kernel)]; exact ⟨rfl, rfl⟩))
    (fun os started H enc _ => lifted os started H enc)

theorem proved : Rows.OrderVectorsSaid := over
end Go.Proofs.Ytppdibblkaepjaa.orderVectorsProof
