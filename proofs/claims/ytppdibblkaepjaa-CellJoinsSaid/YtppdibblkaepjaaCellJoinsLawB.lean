/-
  The law arraylanglaw04.CellJoins holds for every input: it returns true, and each argument reads afterwards as it read before. No condition.
-/
import Derived.Test.YtppdibblkaepjaaBd31
import Derived.Test.YtppdibblkaepjaaBd28
import Derived.Test.YtppdibblkaepjaaBd34
import Derived.Test.YtppdibblkaepjaaBd4
import Derived.Test.YtppdibblkaepjaaBd33
import Derived.Test.YtppdibblkaepjaaBd9
import Derived.SizedLaws
import Derived.Handy
import Derived.Deep.RegionHeld3
import Derived.ProofKit
import Derived.OpenShut
namespace Go.Proofs.Ytppdibblkaepjaa.cellJoinsProof
open Go.ChangeShapes Go.WideShapes Go.ChangeAt Go.RowKit Go.Proofs.Ytppdibblkaepjaa.Shape
open Go.WideMaps Go.WideElems
open Go.ChangeMaps (open_string shut_string)
set_option linter.unusedVariables false

theorem own : ownKnob Try.prog.godebug = none := by kernel_rfl
theorem laidOut : laidOutB Try.prog = true := by kernel_rfl

set_option maxRecDepth 100000 in
set_option maxHeartbeats 4000000 in
theorem walk (a0 : Option Addr) (c0 : Nat) (x0 : List Int) (a1 : Option Addr) (c1 : Nat) (x1 : List Arr) (m1 o1 : Nat) (v2 : Value) (x2 : Arr) (w : World) (b0 : IntsAt w a0 c0 x0) (s0 : x0.length * 8 ≤ 140737488351232) (b1 : x1.length ≤ c1 ∧ c1 ≤ 9223372036854775807 ∧ (x1 ≠ [] → a1 = some ⟨m1, o1, none⟩) ∧ ArrsAt w m1 o1 x1) (s1 : x1.length * 80 ≤ 140737488351232 ∧ Shape.ReachL x1) (b2 : ArrAt w v2 x2) (s2 : Shape.Reach x2) :
    Calls Try.prog 3 #[.slice a0 x0.length c0, .slice a1 x1.length c1, v2] w fun e w' => e = .returned (.bool true) ∧ Below w.heap.size w w' := by
  obtain ⟨k', sa', ls', sc', na', ln', nc', ia', li', ic', rfl⟩ : ∃ k sa ls sc na ln nc ia li ic, v2 = .agg #[.int .i64 k, .slice sa ls sc, .slice na ln nc, .slice ia li ic] := by
    have h := b2
    obtain ⟨k, sh, nu, it⟩ := x2
    rw [ArrAt] at h
    obtain ⟨sa, sc, na, nc, ia, ic, rfl, -⟩ := h
    exact ⟨_, _, _, _, _, _, _, _, _, _, rfl⟩
  obtain ⟨hlc, hcc, ha, hX⟩ := b1
  have bw := below_new w (.cells #[.int .i64 k', .slice sa' ls' sc', .slice na' ln' nc', .slice ia' li' ic'] 26)
  have q0 := Quad.new w (.int .i64 k') (.slice sa' ls' sc') (.slice na' ln' nc') (.slice ia' li' ic')
  have hA := b2.below bw
  have hRl : ∀ A ∈ x1, Shape.Reach A := fun A hA => by
    obtain ⟨i, hi, rfl⟩ := List.getElem_of_mem hA
    exact s1.2.at hi
  obtain ⟨PA, er, hPA⟩ : ∃ PA er, joinA x0 x1 x2 = (PA, er) := ⟨_, _, rfl⟩
  have JQ := fun w' (g : Below w.heap.size w w') (g2 : ArrAt w' (.agg #[.int .i64 k', .slice sa' ls' sc', .slice na' ln' nc', .slice ia' li' ic']) x2) => joinQ a0 c0 x0 a1 c1 x1 _ x2 w' m1 o1 (b0.below g) hlc hcc ha (ArrsAt.below g hX) hRl g2
  have JR := fun w' (g : Below w.heap.size w w') (g2 : ArrAt w' (.agg #[.int .i64 k', .slice sa' ls' sc', .slice na' ln' nc', .slice ia' li' ic']) x2) => joinR a0 c0 x0 a1 c1 x1 _ x2 w' m1 o1 (b0.below g) hlc hcc ha (ArrsAt.below g hX) hRl g2
  rw [hPA] at JQ JR
  clear hPA hRl
  by_cases h20 : 20 < x1.length
  · go_enter Try.func3, Try.ntmps3
    go_wp2_with (go_at_call 10; refine (awakeL _).mono ?_; rintro e wA ⟨rfl, bA⟩)
    go_ret
    exact ⟨rfl, Below.then bw bA⟩
  by_cases h21 : 20 < x0.length
  · go_enter Try.func3, Try.ntmps3
    go_wp2_with (go_at_call 10; refine (awakeL _).mono ?_; rintro e wA ⟨rfl, bA⟩)
    go_ret
    exact ⟨rfl, Below.then bw bA⟩
  go_enter Try.func3, Try.ntmps3
  obtain ⟨p0, p1, p2, p3, -⟩ := q0.cells
  go_wp2_with fail
  generalize w.alloc (.cells #[.int .i64 k', .slice sa' ls' sc', .slice na' ln' nc', .slice ia' li' ic'] 26) = W0 at *
  go_at_call 9
  refine (fewL _ _ 100 W0 hA).mono ?_
  rintro e w1 ⟨t1, rfl, c1'⟩
  have B1 := Below.then bw c1'
  have hA1 := hA.below c1'
  have Q1 := q0.below c1'
  clear p0 p1 p2 p3
  cases t1 with
  | false =>
    go_wp2_with (go_at_call 10; refine (awakeL _).mono ?_; rintro e wA ⟨rfl, bA⟩)
    go_ret
    exact ⟨rfl, Below.then B1 bA⟩
  | true =>
    clear hA q0 c1' bw
    go_wp2_with fail
    go_loopw [7] (fun i wr => ∃ j : Nat, j ≤ x1.length ∧ i = .int .i64 j ∧ Below w1.heap.size w1 wr) (fun i _ => x1.length - (intOf i).toNat)
    case atStart => exact ⟨0, Nat.zero_le _, rfl, Below.refl _ _⟩
    case round =>
      obtain ⟨j, hj, rfl, hb⟩ := hrel
      have hbw := Below.then B1 hb
      by_cases hlt : j < x1.length
      · obtain ⟨kj, saj, scj, naj, lnj, ncj, iaj, lij, icj, ⟨t0, t1, t2, t3⟩, hsj, hAj, -⟩ := hX.shape hlt
        have y0 := (hbw.cell (cell_lt t0)).trans t0
        have y1 := (hbw.cell (cell_lt t1)).trans t1
        have y2 := (hbw.cell (cell_lt t2)).trans t2
        have y3 := (hbw.cell (cell_lt t3)).trans t3
        have hixj := items_at (ia := a1) (b := m1) (off := o1) (l := x1) (ic := c1) rfl ha hlt
        have hAw := hAj.below hbw
        clear t0 t2 t3 hAj
        go_wp2_with fail
        go_at_call 9
        refine (fewL _ _ 100 wr hAw).mono ?_
        rintro e w2 ⟨t2, rfl, c2⟩
        have hb2 := Below.then hb c2
        have hbw2 := Below.then hbw c2
        have u1 := (c2.cell (cell_lt y1)).trans y1
        clear y0 y1 y2 y3 hAw c2
        cases t2 with
        | false =>
          go_wp2_with (go_at_call 10; refine (awakeL _).mono ?_; rintro e wA ⟨rfl, bA⟩)
          go_ret
          exact ⟨rfl, Below.then hbw2 bA⟩
        | true =>
          generalize x1[j].shape = sh at *
          obtain ⟨N, hN⟩ : ∃ N, sh.length = N := ⟨_, rfl⟩
          rw [hN] at u1 t1
          by_cases h3 : 3 < N
          · go_wp2_with (go_at_call 10; refine (awakeL _).mono ?_; rintro e wA ⟨rfl, bA⟩)
            go_ret
            exact ⟨rfl, Below.then hbw2 bA⟩
          · go_wp2_with fail
            go_loopw [8] (fun i wr => ∃ j2 : Nat, j2 ≤ N ∧ i = .int .i64 j2 ∧ Below w1.heap.size w1 wr) (fun i _ => N - (intOf i).toNat)
            case atStart => exact ⟨0, Nat.zero_le _, rfl, hb2⟩
            case round =>
              clear hb hbw hb2 hbw2 u1
              obtain ⟨j2, hj2, rfl, hb⟩ := hrel
              have hbw := Below.then B1 hb
              have y1 := (hbw.cell (cell_lt t1)).trans t1
              by_cases hlt2 : j2 < N
              · obtain ⟨bs, os, his, hcs⟩ := (hsj.below hbw).at (k := j2) (by omega)
                rw [hN] at his
                obtain ⟨y, hy⟩ : ∃ y, sh[j2]'(by omega) = y := ⟨_, rfl⟩
                rw [hy] at hcs
                clear hy
                by_cases h12 : 12 < y
                · go_wp2_with (go_at_call 10; refine (awakeL _).mono ?_; rintro e wA ⟨rfl, bA⟩)
                  go_ret
                  exact ⟨rfl, Below.then hbw bA⟩
                · go_wp2_with fail
                  go_roundw
                  case rel => exact ⟨j2 + 1, by omega, by go_num, hb⟩
                  case measure => simp [intOf]; omega
              · go_wp2_with fail
                go_roundw
                case rel => exact ⟨j + 1, by omega, by go_num, hb⟩
                case measure => simp [intOf]; omega
      · obtain ⟨p0, p1, p2, p3, -⟩ := (Q1.below hb).cells
        have hA2 := hA1.below hb
        have q2' := Q1.below hb
        clear Q1 hA1 B1
        go_wp2_with (first
          | (go_at_call 11; (with_reducible refine (JQ _ hbw hA2).mono ?_); intro e w2 hN2; (obtain ⟨k2, sa2, ls2, sc2, na2, ln2, nc2, ia2, li2, ic2, rfl, h2, b2'⟩ := hN2.form); (have bn2 := below_new w2 (.cells #[.int .i64 k2, .slice sa2 ls2 sc2, .slice na2 ln2 nc2, .slice ia2 li2 ic2] 26)); (have q2 := Quad.new w2 (.int .i64 k2) (.slice sa2 ls2 sc2) (.slice na2 ln2 nc2) (.slice ia2 li2 ic2)); (obtain ⟨r0, r1, r2, r3, -⟩ := ((q2'.below b2').below bn2).cells))
          | (go_at_call 12; (with_reducible refine (JR _ (Below.then (Below.then hbw b2') bn2) ((hA2.below b2').below bn2)).mono ?_); intro e w3 hN3; (obtain ⟨k3, sa3, ls3, sc3, na3, ln3, nc3, ia3, li3, ic3, rfl, h3, b3⟩ := hN3.formL); (have bn3 := below_new w3 (.cells #[.int .i64 k3, .slice sa3 ls3 sc3, .slice na3 ln3 nc3, .slice ia3 li3 ic3] 26)); (obtain ⟨s0', s1', s2', s3', -⟩ := ((q2.below b3).below bn3).cells); (obtain ⟨u0, u1, u2, u3, -⟩ := (Quad.new w3 (.int .i64 k3) (.slice sa3 ls3 sc3) (.slice na3 ln3 nc3) (.slice ia3 li3 ic3)).cells))
          | (go_at_call 13; refine (sameRX (((h2.below bn2).below b3).below bn3) (h3.below bn3)).mono ?_; rintro e w4 ⟨rfl, b4⟩)
          | (go_at_call 10; refine (awakeL _).mono ?_; rintro e wA ⟨rfl, bA⟩))
        go_ret
        exact ⟨rfl, Below.then (Below.then (Below.then (Below.then (Below.then (Below.then hbw b2') bn2) b3) bn3) b4) bA⟩

set_option maxRecDepth 100000 in
theorem lifted (os : Os) (started : os.Started) (H : Type) (enc : TypeId × Value → H) :
    ReturnsInHanded {} Try.checked os 3 .any (Rows.cellJoinsSpec.pre6 enc Try.prog Try.f3 Rows.cellJoinsRow.domain false) (Rows.cellJoinsSpec.post enc Try.prog Try.f3 false true false false) := by
  refine returnsInHanded_of_change_sized (C := Try.checked) own started (by kernel_rfl) Try.func3
    (ChangeSpec.witness6 (enc := enc) (C := Try.checked) false ⟨#[], #[.slice none 0 0, .slice none 0 0, .agg #[.int .i64 0, .slice none 0 0, .slice none 0 0, .slice none 0 0]], []⟩ 8 (by kernel_rfl) (by kernel_rfl) (by kernel_rfl) (by kernel_rfl)) ?_
  intro W base args ds gs before hval0 hW hcnd hsz0 _
  have hsz : (DataW.weightsEach Try.prog (Try.f3.params.toList ++ Rows.cellJoinsSpec.plain.varTypes Try.prog) (ds ++ gs)).all (· ≤ reachBytes) = true := hsz0
  have hval : ∀ (j : Nat) t v, Try.f3.params[j]? = some t → args[j]? = some v → Value.okWide Try.prog W .any base t v := hval0
  have hW' := hW
  obtain ⟨p, q, hA0, hV, rfl, hfz, hnd⟩ := hW
  have hA : DataW.TrodAll enc Try.prog W 0 (fun _ => true) true Try.f3.params.toList args.toList ds p := hA0
  rw [Try.params3] at hA hval hsz
  obtain ⟨v0, vs0, d0, ds0, p0, q0, hargs, rfl, rfl, h0, r0⟩ := trodAll_cons hA
  obtain ⟨v1, vs1, d1, ds1, p1, q1, rfl, rfl, rfl, h1, r1⟩ := trodAll_cons r0
  obtain ⟨v2, vs2, d2, ds2, p2, q2, rfl, rfl, rfl, h2, r2⟩ := trodAll_cons r1
  obtain ⟨rfl, rfl, rfl⟩ := trodAll_nil r2
  obtain rfl : args = #[v0, v1, v2] := by cases args; simp_all
  obtain ⟨rfl, rfl⟩ := trodVars_none hV
  have k0 := h0
  have lt0 : ∀ x ∈ p0, x.block < W.heap.size := by obtain ⟨m, hm⟩ := k0; exact DataW.trod_lt m _ _ _ hm
  obtain ⟨a0, c0, x0, rfl, b0, z0⟩ := ints_open_sized (hval 0 22 v0 rfl rfl) h0
  have s0 := z0 (Sized.each hsz (j := 0) rfl rfl)
  have k1 := h1
  have lt1 : ∀ x ∈ p1, x.block < W.heap.size := by obtain ⟨m, hm⟩ := k1; exact DataW.trod_lt m _ _ _ hm
  obtain ⟨a1, c1, x1, m1, o1, rfl, t1, t2, t3, t4, z1⟩ := arrs_open (hval 1 23 v1 rfl rfl) h1
  have b1 := And.intro t1 (And.intro t2 (And.intro t3 t4))
  have s1 := z1 (Sized.each hsz (j := 1) rfl rfl)
  have k2 := h2
  have lt2 : ∀ x ∈ p2, x.block < W.heap.size := by obtain ⟨m, hm⟩ := k2; exact DataW.trod_lt m _ _ _ hm
  obtain ⟨x2, b2, z2⟩ := arr_open (hval 2 26 v2 rfl rfl) h2
  have s2 : Shape.Reach x2 := z2 (Sized.each hsz (j := 2) rfl rfl)
  clear hA0 hval0
  refine (walk a0 c0 x0 a1 c1 x1 m1 o1 v2 x2 W b0 s0 b1 s1 b2 s2).mono fun e W' ⟨he, bel⟩ => ?_
  subst he
  exact ⟨_, rfl, _, _, _, [], _, [], hW', trodAll_mk1 (shut_bool Try.underlying4 _), (trodAll_cons_mk (Below.trod laidOut (by kernel_rfl) (of_decide_eq_true (by kernel_rfl)) k0 bel lt0) (trodAll_cons_mk (Below.trod laidOut (by kernel_rfl) (of_decide_eq_true (by kernel_rfl)) k1 bel lt1) (trodAll_cons_mk (Below.trod laidOut (by kernel_rfl) (of_decide_eq_true (by kernel_rfl)) k2 bel lt2) trodAll_mk0))), rfl, bel.frame _, fun h => by cases h⟩

theorem over : Rows.cellJoinsRow.holds Try.pinned (OpenSpec.ofChange Rows.cellJoinsSpec) :=
  OpenClaim.holds_of_wide 3 Try.f3 rfl rfl rfl rfl rfl rfl rfl ⟨rfl, rfl, rfl, rfl, rfl⟩ rfl rfl rfl rfl rfl (by kernel_rfl) Try.func3 (by kernel_rfl)
    (of_decide_eq_true (by kernel_rfl)) (by unfold Func.isWrapper; first | (rw [if_pos (by decide +kernel)]; kernel_rfl) | (rw [if_neg (by decide +kernel)]; exact ⟨rfl, rfl⟩))
    (fun os started H enc _ => lifted os started H enc)

theorem proved : Rows.CellJoinsSaid := over
end Go.Proofs.Ytppdibblkaepjaa.cellJoinsProof
