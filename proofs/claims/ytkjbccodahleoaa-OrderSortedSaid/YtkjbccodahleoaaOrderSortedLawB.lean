/-
  The law arraylanglaw06.OrderSorted holds for every input: it returns true, and each argument reads afterwards as it read before. No condition.
-/
import Derived.Test.YtkjbccodahleoaaBd26
import Derived.Test.YtkjbccodahleoaaBd5
import Derived.Test.YtkjbccodahleoaaBd28
import Derived.Test.YtkjbccodahleoaaBd11
import Derived.SizedLaws
import Derived.Handy
import Derived.Deep.RegionHeld3
import Derived.ProofKit
import Derived.OpenShut
namespace Go.Proofs.Ytkjbccodahleoaa.orderSortedProof
open Go.ChangeShapes Go.WideShapes Go.ChangeAt Go.RowKit Go.Proofs.Ytkjbccodahleoaa.Shape
open Go.WideMaps Go.WideElems
open Go.ChangeMaps (open_string shut_string)
set_option linter.unusedVariables false

theorem own : ownKnob Try.prog.godebug = none := by kernel_rfl
theorem laidOut : laidOutB Try.prog = true := by kernel_rfl

set_option maxHeartbeats 1000000 in
theorem walk (a0 : Option Addr) (c0 : Nat) (x0 : List Arr) (m0 o0 : Nat) (w : World) (b0 : x0.length ≤ c0 ∧ c0 ≤ 9223372036854775807 ∧ (x0 ≠ [] → a0 = some ⟨m0, o0, none⟩) ∧ ArrsAt w m0 o0 x0) (s0 : x0.length * 80 ≤ 140737488351232 ∧ Shape.ReachL x0) :
    Calls Try.prog 8 #[.slice a0 x0.length c0] w fun e w' => e = .returned (.bool true) ∧ Below w.heap.size w w' := by
  obtain ⟨t1, t2, t3, t4⟩ := b0
  obtain ⟨L, hL⟩ : ∃ L, x0.length = L := ⟨_, rfl⟩
  have HL : Hid (x0.length = L) := hL
  have IX := fun j (hj : j < x0.length) w' => items_at (ia := a0) (n := L) (ic := c0) (l := x0) hL.symm t3 hj w'
  have SB := fun h100 => sorted_both m0 o0 L a0 c0 x0 w t4 t3 hL h100
  have HH : Hid (∀ w', Below w.heap.size w w' → ArrsAt w' m0 o0 x0) := fun w' g => t4.below g
  have hLm : L ≤ 9223372036854775807 := by omega
  rw [hL]
  clear t1 t2 t3 t4 hL s0
  by_cases hbig : 100 < L
  · have db : decide ((100 : Int) < (L : Int)) = true := decide_eq_true (by omega)
    clear SB IX
    go_enter Try.func8, Try.ntmps8
    go_wp2_with (go_at_call 26; refine (ordLives _).mono ?_; rintro e wL ⟨rfl, bL⟩)
    go_ret
    exact ⟨rfl, Below.then (Below.refl _ _) bL⟩
  · have db : decide ((100 : Int) < (L : Int)) = false := decide_eq_false (by omega)
    obtain ⟨R, hRb, HS⟩ := SB (by omega)
    clear SB
    have HRb : Hid (∀ x ∈ R, x < 1000) := hRb
    clear hRb
    go_enter Try.func8, Try.ntmps8
    go_wp2_with fail
    go_loopw [3] (fun v wr => ∃ j : Nat, j ≤ L ∧ v = .int .i64 j ∧ Below w.heap.size w wr) (fun v _ => L - (intOf v).toNat)
    case atStart => exact ⟨0, Nat.zero_le _, rfl, Below.refl _ _⟩
    case round =>
      obtain ⟨j, hj, rfl, hb⟩ := hrel
      by_cases hlt : j < L
      · have hjl : j < x0.length := by rw [HL.out]; exact hlt
        have ix := IX j hjl
        obtain ⟨d0, d1, d2, d3, ⟨g0, g1, g2, g3⟩, hA⟩ := (HH.out wr hb).at hjl
        have W := weighL_any _ _ _ 300 wr (Nat.le_refl _) hA
        clear HS IX hA
        go_wp2_with fail
        go_at_call 27
        refine W.mono ?_
        rintro e w1 ⟨m, rfl, b1⟩
        have B1 := Below.then hb b1
        clear W g0 g1 g2 g3 b1 hb
        by_cases hm : 300 ≤ m
        · have dm : decide (300 ≤ m) = true := decide_eq_true hm
          go_wp2_with (go_at_call 26; refine (ordLives _).mono ?_; rintro e wL ⟨rfl, bL⟩)
          go_ret
          exact ⟨rfl, Below.then B1 bL⟩
        · have dm : decide (300 ≤ m) = false := decide_eq_false hm
          go_wp2_with fail
          go_roundw
          case rel => exact ⟨j + 1, by omega, by go_num, B1⟩
          case measure => simp [intOf]; omega
      · obtain rfl : j = L := by omega
        clear IX HH
        have S1 := (HS wr hb).1
        obtain ⟨V, hV⟩ : ∃ V, (R.map fun x : Nat => (x : Int)) = V := ⟨_, rfl⟩
        rw [hV] at S1 HS
        have hVb : Hid (∀ x ∈ V, 0 ≤ x ∧ x < 1000) := by
          intro x hx
          rw [← hV] at hx
          obtain ⟨y, hy, rfl⟩ := List.mem_map.1 hx
          have := HRb.out y hy
          omega
        clear hV
        obtain ⟨M, hM⟩ : ∃ M, V.length = M := ⟨_, rfl⟩
        have HM : Hid (V.length = M) := hM
        clear hM
        go_wp2_with fail
        go_at_call 28
        refine S1.mono ?_
        rintro e w1 ⟨pa, pc, rfl, hp, b1⟩
        have B1 := Below.then hb b1
        have S2 := (HS w1 B1).2
        clear HS S1 b1
        rw [HM.out]
        go_wp2_with fail
        go_at_call 29
        refine S2.mono ?_
        rintro e w2 ⟨ra, rc, rfl, hr, b2⟩
        have B2 := Below.then B1 b2
        have hp2 := hp.below b2
        clear S2 hp b2 B1 hb
        rw [HM.out]
        have hMm : M ≤ 9223372036854775807 := by rw [← HM.out]; exact hr.len
        go_wp2_with fail
        go_loopw [6] (fun v wr => ∃ j : Nat, j ≤ M ∧ v = .int .i64 j ∧ Below w2.heap.size w2 wr) (fun v _ => M - (intOf v).toNat)
        case atStart => exact ⟨0, Nat.zero_le _, rfl, Below.refl _ _⟩
        case round =>
          obtain ⟨j, hj, rfl, hb⟩ := hrel
          by_cases hlt : j < M
          · obtain ⟨gp, gop, ip, kp⟩ := (hp2.below hb).atL HM.out hlt
            obtain ⟨gr, gor, ir, kr⟩ := (hr.below hb).atL HM.out hlt
            have ez : (V.getD j 0 != V.getD j 0) = false := by simp
            generalize V.getD j 0 = z at *
            clear hp2 hr
            go_wp2_with fail
            go_quiet (fail)
            go_wp2_with fail
            go_roundw
            case rel => exact ⟨j + 1, by omega, by go_num, Below.then hb (Shape.below_drewN _)⟩
            case measure => simp [intOf]; omega
          · clear hp2 hr
            go_wp2_with (go_at_call 26; refine (ordLives _).mono ?_; rintro e wL ⟨rfl, bL⟩)
            go_ret
            exact ⟨rfl, Below.then (Below.then B2 hb) bL⟩

set_option maxRecDepth 100000 in
theorem lifted (os : Os) (started : os.Started) (H : Type) (enc : TypeId × Value → H) :
    ReturnsInHanded {} Try.checked os 8 .any (Rows.orderSortedSpec.pre6 enc Try.prog Try.f8 Rows.orderSortedRow.domain false) (Rows.orderSortedSpec.post enc Try.prog Try.f8 false true false false) := by
  refine returnsInHanded_of_change_sized (C := Try.checked) own started (by kernel_rfl) Try.func8
    (ChangeSpec.witness6 (enc := enc) (C := Try.checked) false ⟨#[], #[.slice none 0 0], []⟩ 8 (by kernel_rfl) (by kernel_rfl) (by kernel_rfl) (by kernel_rfl)) ?_
  intro W base args ds gs before hval0 hW hcnd hsz0 _
  have hsz : (DataW.weightsEach Try.prog (Try.f8.params.toList ++ Rows.orderSortedSpec.plain.varTypes Try.prog) (ds ++ gs)).all (· ≤ reachBytes) = true := hsz0
  have hval : ∀ (j : Nat) t v, Try.f8.params[j]? = some t → args[j]? = some v → Value.okWide Try.prog W .any base t v := hval0
  have hW' := hW
  obtain ⟨p, q, hA0, hV, rfl, hfz, hnd⟩ := hW
  have hA : DataW.TrodAll enc Try.prog W 0 (fun _ => true) true Try.f8.params.toList args.toList ds p := hA0
  rw [Try.params8] at hA hval hsz
  obtain ⟨v0, vs0, d0, ds0, p0, q0, hargs, rfl, rfl, h0, r0⟩ := trodAll_cons hA
  obtain ⟨rfl, rfl, rfl⟩ := trodAll_nil r0
  obtain rfl : args = #[v0] := by cases args; simp_all
  obtain ⟨rfl, rfl⟩ := trodVars_none hV
  have k0 := h0
  have lt0 : ∀ x ∈ p0, x.block < W.heap.size := by obtain ⟨m, hm⟩ := k0; exact DataW.trod_lt m _ _ _ hm
  obtain ⟨a0, c0, x0, m0, o0, rfl, t1, t2, t3, t4, z0⟩ := arrs_open (hval 0 24 v0 rfl rfl) h0
  have b0 := And.intro t1 (And.intro t2 (And.intro t3 t4))
  have s0 := z0 (Sized.each hsz (j := 0) rfl rfl)
  clear hA0 hval0
  refine (walk a0 c0 x0 m0 o0 W b0 s0).mono fun e W' ⟨he, bel⟩ => ?_
  subst he
  exact ⟨_, rfl, _, _, _, [], _, [], hW', trodAll_mk1 (shut_bool Try.underlying4 _), (trodAll_cons_mk (Below.trod laidOut (by kernel_rfl) (of_decide_eq_true (by kernel_rfl)) k0 bel lt0) trodAll_mk0), rfl, bel.frame _, fun h => by cases h⟩

theorem over : Rows.orderSortedRow.holds Try.pinned (OpenSpec.ofChange Rows.orderSortedSpec) :=
  OpenClaim.holds_of_wide 8 Try.f8 rfl rfl rfl rfl rfl rfl rfl ⟨rfl, rfl, rfl, rfl, rfl⟩ rfl rfl rfl rfl rfl (by kernel_rfl) Try.func8 (by kernel_rfl)
    (of_decide_eq_true (by kernel_rfl)) (by unfold Func.isWrapper; first | (rw [if_pos (by decide +kernel)]; kernel_rfl) | (rw [if_neg (by decide +kernel)]; exact ⟨rfl, rfl⟩))
    (fun os started H enc _ => lifted os started H enc)

theorem proved : Rows.OrderSortedSaid := over
end Go.Proofs.Ytkjbccodahleoaa.orderSortedProof
