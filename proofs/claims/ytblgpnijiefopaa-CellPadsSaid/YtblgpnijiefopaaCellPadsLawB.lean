/-
  The law arraylanglaw04.CellPads holds for every input: it returns true, and each argument reads afterwards as it read before. No condition.
-/
import Derived.Test.YtblgpnijiefopaaBd24
import Derived.Test.YtblgpnijiefopaaBd27
import Derived.Test.YtblgpnijiefopaaBd5
import Derived.Test.YtblgpnijiefopaaBd8
import Derived.SizedLaws
import Derived.Handy
import Derived.Deep.RegionHeld3
import Derived.ProofKit
import Derived.OpenShut
namespace Go.Proofs.Ytblgpnijiefopaa.cellPadsProof
open Go.ChangeShapes Go.WideShapes Go.ChangeAt Go.RowKit Go.Proofs.Ytblgpnijiefopaa.Shape
open Go.WideMaps Go.WideElems
open Go.ChangeMaps (open_string shut_string)
set_option linter.unusedVariables false

theorem own : ownKnob Try.prog.godebug = none := by kernel_rfl
theorem laidOut : laidOutB Try.prog = true := by kernel_rfl

set_option maxHeartbeats 1000000 in
theorem walk (v0 : Value) (x0 : Arr) (a1 : Option Addr) (c1 : Nat) (x1 : List Int) (w : World) (b0 : ArrAt w v0 x0) (s0 : Shape.Reach x0) (b1 : IntsAt w a1 c1 x1) (s1 : x1.length * 8 ≤ 140737488351232) :
    Calls Try.prog 4 #[v0, .slice a1 x1.length c1] w fun e w' => e = .returned (.bool true) ∧ Below w.heap.size w w' := by
  obtain ⟨k, sa, sc, na, nc, ia, ic, rfl, b3⟩ : ∃ k sa sc na nc ia ic, v0 = .agg #[.int .i64 k, .slice sa x0.shape.length sc, .slice na x0.nums.length nc, .slice ia x0.items.length ic] ∧ (IntsAt w sa sc x0.shape ∧ IntsAt w na nc x0.nums ∧ k = x0.kind) := by
    have h := b0
    obtain ⟨k, sh, nu, it⟩ := x0
    rw [ArrAt] at h
    obtain ⟨sa, sc, na, nc, ia, ic, rfl, -, hs, hn, -⟩ := h
    exact ⟨_, _, _, _, _, _, _, rfl, hs, hn, rfl⟩
  have bw := below_new w (.cells #[.int .i64 k, .slice sa x0.shape.length sc, .slice na x0.nums.length nc, .slice ia x0.items.length ic] 26)
  have q0 := Quad.new w (.int .i64 k) (.slice sa x0.shape.length sc) (.slice na x0.nums.length nc) (.slice ia x0.items.length ic)
  have hA := b0.below bw
  have hI := b1.below bw
  have hl1 := b1.len
  obtain ⟨PA, er, hPA⟩ : ∃ PA er, padA x0 x1 = (PA, er) := ⟨_, _, rfl⟩
  have PQ := fun v' w' (g : ArrAt w' v' x0) (g2 : IntsAt w' a1 c1 x1) => padQ v' x0 a1 c1 x1 w' g g2 s0
  have PR := fun v' w' (g : ArrAt w' v' x0) (g2 : IntsAt w' a1 c1 x1) => padR v' x0 a1 c1 x1 w' g g2 s0
  rw [hPA] at PQ PR
  clear hPA b3
  go_enter Try.func4, Try.ntmps4
  go_wp2_with fail
  generalize w.alloc (.cells #[.int .i64 k, .slice sa x0.shape.length sc, .slice na x0.nums.length nc, .slice ia x0.items.length ic] 26) = W0 at *
  go_loopw [5, 6] (fun m i wr => ∃ (j N : Nat), j ≤ x1.length ∧ i = .int .i64 j ∧ m = .int .i64 (N : Int) ∧ N ≤ 2000 ∧ wr = W0) (fun _ i _ => x1.length - (intOf i).toNat)
  case atStart => exact ⟨0, 1, Nat.zero_le _, rfl, rfl, by decide, rfl⟩
  case round =>
    obtain ⟨j, N, hj, rfl, rfl, hN, rfl⟩ := hrel
    obtain ⟨p0, p1, p2, p3, -⟩ := q0.cells
    by_cases hlt0 : j < x1.length ∧ j < 20
    · obtain ⟨hlt, h20⟩ := hlt0
      obtain ⟨b, off, hi, hc⟩ := hI.at hlt
      obtain ⟨y, hy⟩ : ∃ y, x1[j] = y := ⟨_, rfl⟩
      rw [hy] at hc
      clear hy
      obtain ⟨M, P, hM, hP, hPw⟩ := pads_num N hN y
      by_cases hbig : 2000 < P
      · have hbig' : (2000 : Int) < (P : Int) := by omega
        go_wp2_with (go_at_call 16; refine (awakeL _).mono ?_; rintro e wA ⟨rfl, bA⟩)
        all_goals go_ret
        all_goals exact ⟨rfl, Below.then bw bA⟩
      · have hbig' : ¬ (2000 : Int) < (P : Int) := by omega
        have hP2 : Hid (P ≤ 2000) := by unfold Hid; omega
        go_wp2_with fail
        all_goals go_roundw
        all_goals first
          | exact ⟨j + 1, P, by omega, by go_num, rfl, hP2.out, by first | rfl | trivial⟩
          | (simp [intOf]; omega)
    · have hF := fewL _ _ 300 wr hA
      by_cases hlt : j < x1.length
      · have h20 : ¬ j < 20 := fun h => hlt0 ⟨hlt, h⟩
        go_wp2_with fail
        go_at_call 15
        refine hF.mono ?_
        rintro e w1 ⟨b, rfl, b1'⟩
        have B1 := Below.then bw b1'
        cases b with
        | false =>
          go_wp2_with (go_at_call 16; refine (awakeL _).mono ?_; rintro e wA ⟨rfl, bA⟩)
          go_ret
          exact ⟨rfl, Below.then B1 bA⟩
        | true =>
          have h21 : 20 < x1.length := by omega
          go_wp2_with (go_at_call 16; refine (awakeL _).mono ?_; rintro e wA ⟨rfl, bA⟩)
          go_ret
          exact ⟨rfl, Below.then B1 bA⟩
      · go_wp2_with fail
        go_at_call 15
        refine hF.mono ?_
        rintro e w1 ⟨b, rfl, b1'⟩
        have B1 := Below.then bw b1'
        cases b with
        | false =>
          go_wp2_with (go_at_call 16; refine (awakeL _).mono ?_; rintro e wA ⟨rfl, bA⟩)
          go_ret
          exact ⟨rfl, Below.then B1 bA⟩
        | true =>
          by_cases h21 : 20 < x1.length
          · go_wp2_with (go_at_call 16; refine (awakeL _).mono ?_; rintro e wA ⟨rfl, bA⟩)
            go_ret
            exact ⟨rfl, Below.then B1 bA⟩
          · obtain ⟨p0, p1, p2, p3, -⟩ := (q0.below b1').cells
            have hA1 := hA.below b1'
            have hI1 := hI.below b1'
            have q1 := q0.below b1'
            go_wp2_with (first
              | (go_at_call 23; refine (PQ _ _ hA1 hI1).mono ?_; intro e w2 hN2; (obtain ⟨k2, sa2, ls2, sc2, na2, ln2, nc2, ia2, li2, ic2, rfl, h2, b2⟩ := hN2.form); (have bn2 := below_new w2 (.cells #[.int .i64 k2, .slice sa2 ls2 sc2, .slice na2 ln2 nc2, .slice ia2 li2 ic2] 26)); (have q2 := Quad.new w2 (.int .i64 k2) (.slice sa2 ls2 sc2) (.slice na2 ln2 nc2) (.slice ia2 li2 ic2)); (obtain ⟨r0, r1, r2, r3, -⟩ := ((q1.below b2).below bn2).cells))
              | (go_at_call 24; refine (PR _ _ ((hA1.below b2).below bn2) ((hI1.below b2).below bn2)).mono ?_; intro e w3 hN3; (obtain ⟨k3, sa3, ls3, sc3, na3, ln3, nc3, ia3, li3, ic3, rfl, h3, b3⟩ := hN3.formL); (have bn3 := below_new w3 (.cells #[.int .i64 k3, .slice sa3 ls3 sc3, .slice na3 ln3 nc3, .slice ia3 li3 ic3] 26)); (obtain ⟨s0', s1', s2', s3', -⟩ := ((q2.below b3).below bn3).cells); (obtain ⟨t0, t1, t2, t3, -⟩ := (Quad.new w3 (.int .i64 k3) (.slice sa3 ls3 sc3) (.slice na3 ln3 nc3) (.slice ia3 li3 ic3)).cells))
              | (go_at_call 25; refine (sameRX (((h2.below bn2).below b3).below bn3) (h3.below bn3)).mono ?_; rintro e w4 ⟨rfl, b4⟩)
              | (go_at_call 16; refine (awakeL _).mono ?_; rintro e wA ⟨rfl, bA⟩))
            go_ret
            exact ⟨rfl, Below.then (Below.then (Below.then (Below.then (Below.then (Below.then B1 b2) bn2) b3) bn3) b4) bA⟩

set_option maxRecDepth 100000 in
theorem lifted (os : Os) (started : os.Started) (H : Type) (enc : TypeId × Value → H) :
    ReturnsInHanded {} Try.checked os 4 .any (Rows.cellPadsSpec.pre6 enc Try.prog Try.f4 Rows.cellPadsRow.domain false) (Rows.cellPadsSpec.post enc Try.prog Try.f4 false true false false) := by
  refine returnsInHanded_of_change_sized (C := Try.checked) own started (by kernel_rfl) Try.func4
    (ChangeSpec.witness6 (enc := enc) (C := Try.checked) false ⟨#[], #[.agg #[.int .i64 0, .slice none 0 0, .slice none 0 0, .slice none 0 0], .slice none 0 0], []⟩ 8 (by kernel_rfl) (by kernel_rfl) (by kernel_rfl) (by kernel_rfl)) ?_
  intro W base args ds gs before hval0 hW hcnd hsz0 _
  have hsz : (DataW.weightsEach Try.prog (Try.f4.params.toList ++ Rows.cellPadsSpec.plain.varTypes Try.prog) (ds ++ gs)).all (· ≤ reachBytes) = true := hsz0
  have hval : ∀ (j : Nat) t v, Try.f4.params[j]? = some t → args[j]? = some v → Value.okWide Try.prog W .any base t v := hval0
  have hW' := hW
  obtain ⟨p, q, hA0, hV, rfl, hfz, hnd⟩ := hW
  have hA : DataW.TrodAll enc Try.prog W 0 (fun _ => true) true Try.f4.params.toList args.toList ds p := hA0
  rw [Try.params4] at hA hval hsz
  obtain ⟨v0, vs0, d0, ds0, p0, q0, hargs, rfl, rfl, h0, r0⟩ := trodAll_cons hA
  obtain ⟨v1, vs1, d1, ds1, p1, q1, rfl, rfl, rfl, h1, r1⟩ := trodAll_cons r0
  obtain ⟨rfl, rfl, rfl⟩ := trodAll_nil r1
  obtain rfl : args = #[v0, v1] := by cases args; simp_all
  obtain ⟨rfl, rfl⟩ := trodVars_none hV
  have k0 := h0
  have lt0 : ∀ x ∈ p0, x.block < W.heap.size := by obtain ⟨m, hm⟩ := k0; exact DataW.trod_lt m _ _ _ hm
  obtain ⟨x0, b0, z0⟩ := arr_open (hval 0 26 v0 rfl rfl) h0
  have s0 : Shape.Reach x0 := z0 (Sized.each hsz (j := 0) rfl rfl)
  have k1 := h1
  have lt1 : ∀ x ∈ p1, x.block < W.heap.size := by obtain ⟨m, hm⟩ := k1; exact DataW.trod_lt m _ _ _ hm
  obtain ⟨a1, c1, x1, rfl, b1, z1⟩ := ints_open_sized (hval 1 23 v1 rfl rfl) h1
  have s1 := z1 (Sized.each hsz (j := 1) rfl rfl)
  clear hA0 hval0
  refine (walk v0 x0 a1 c1 x1 W b0 s0 b1 s1).mono fun e W' ⟨he, bel⟩ => ?_
  subst he
  exact ⟨_, rfl, _, _, _, [], _, [], hW', trodAll_mk1 (shut_bool Try.underlying4 _), (trodAll_cons_mk (Below.trod laidOut (by kernel_rfl) (of_decide_eq_true (by kernel_rfl)) k0 bel lt0) (trodAll_cons_mk (Below.trod laidOut (by kernel_rfl) (of_decide_eq_true (by kernel_rfl)) k1 bel lt1) trodAll_mk0)), rfl, bel.frame _, fun h => by cases h⟩

theorem over : Rows.cellPadsRow.holds Try.pinned (OpenSpec.ofChange Rows.cellPadsSpec) :=
  OpenClaim.holds_of_wide 4 Try.f4 rfl rfl rfl rfl rfl rfl rfl ⟨rfl, rfl, rfl, rfl, rfl⟩ rfl rfl rfl rfl rfl (by kernel_rfl) Try.func4 (by kernel_rfl)
    (of_decide_eq_true (by kernel_rfl)) (by unfold Func.isWrapper; first | (rw [if_pos (by decide +kernel)]; kernel_rfl) | (rw [if_neg (by decide +kernel)]; exact ⟨rfl, rfl⟩))
    (fun os started H enc _ => lifted os started H enc)

theorem proved : Rows.CellPadsSaid := over
end Go.Proofs.Ytblgpnijiefopaa.cellPadsProof
