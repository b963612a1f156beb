/-
  The law arraylanglaw02.ShapeBack holds for every input: it returns true, and each argument reads afterwards as it read before. No condition.
-/
import Derived.Test.YtjoljkcmpkajpaaShapeLives
import Derived.Test.YtjoljkcmpkajpaaIntsOpen
import Derived.Test.YtjoljkcmpkajpaaShapeBackMath
import Derived.StillTailTactics
import Derived.Deep.RegionWith
import Derived.ProofKit
import Derived.OpenShut
namespace Go.Proofs.Ytjoljkcmpkajpaa.shapeBackProof
open Go.ChangeShapes Go.WideShapes Go.ChangeAt Go.RowKit Go.Proofs.Ytjoljkcmpkajpaa.Shape
open Go.WideMaps Go.WideElems
open Go.ChangeMaps (open_string shut_string)
set_option linter.unusedVariables false

theorem own : ownKnob Try.prog.godebug = none := by kernel_rfl
theorem laidOut : laidOutB Try.prog = true := by kernel_rfl

set_option maxHeartbeats 1000000 in
theorem walk (a0 : Option Addr) (c0 : Nat) (x0 : List Int) (a1 : Int) (w : World) (b0 : IntsAt w a0 c0 x0) (b1 : -9223372036854775808 ≤ a1 ∧ a1 ≤ 9223372036854775807) :
    Calls Try.prog 6 #[.slice a0 x0.length c0, .int .i64 a1] w fun e w' => e = .returned (.bool true) ∧ Below w.heap.size w w' := by
  have l0 := b0.len
  obtain ⟨y1, y2⟩ := b1
  by_cases hr : rightB x0 = true
  · have es : sizeS x0 = pr x0 := by rw [sizeS, if_pos hr]
    have hp := part_bd (a := x0) (b := []) (by rw [List.append_nil]; exact hr)
    obtain ⟨hp1, hp2, -, -⟩ := hp
    by_cases h0 : a1 < 0
    · go_enter Try.func6, Try.ntmps6
      go_wp2_with fail
      go_at_call 12
      refine (rightR _ _ _ _ (b0)).mono ?_
      rintro e w1 ⟨rfl, rfl⟩
      go_wp2_with fail
      go_at_call 10
      refine (livesL _).mono ?_
      rintro e w1 ⟨rfl, hb1⟩
      have B1 : Below w.heap.size w w1 := hb1
      have r1s := (b0).below hb1
      clear hb1
      go_wp2_with fail
      go_ret
      exact ⟨rfl, B1⟩
    · by_cases h1 : pr x0 ≤ a1
      · go_enter Try.func6, Try.ntmps6
        go_wp2_with fail
        go_at_call 12
        refine (rightR _ _ _ _ (b0)).mono ?_
        rintro e w1 ⟨rfl, rfl⟩
        go_wp2_with fail
        go_at_call 14
        refine (sizeR _ _ _ _ (b0)).mono ?_
        rintro e w1 ⟨rfl, rfl⟩
        go_wp2_with fail
        go_at_call 10
        refine (livesL _).mono ?_
        rintro e w1 ⟨rfl, hb1⟩
        have B1 : Below w.heap.size w w1 := hb1
        have r1s := (b0).below hb1
        clear hb1
        go_wp2_with fail
        go_ret
        exact ⟨rfl, B1⟩
      · have eo := off_idx (o := a1) hr (by omega) (by omega)
        have eb : idxB x0 a1 = true := by rw [idxB, hr]; simp; omega
        by_cases h2 : a1 + 1 = pr x0
        · have h2' : (a1 + 1 == pr x0) = true := by simpa using h2
          clear h2
          go_enter Try.func6, Try.ntmps6
          go_wp2_with fail
          go_at_call 12
          refine (rightR _ _ _ _ (b0)).mono ?_
          rintro e w1 ⟨rfl, rfl⟩
          go_wp2_with fail
          go_at_call 14
          refine (sizeR _ _ _ _ (b0)).mono ?_
          rintro e w1 ⟨rfl, rfl⟩
          go_wp2_with fail
          go_at_call 19
          refine (indexQ _ _ _ _ _ (b0)).mono ?_
          rintro e w1 ⟨p1, q1, rfl, hi1, hb1⟩
          have B1 : Below w.heap.size w w1 := hb1
          have r1s := (b0).below hb1
          clear hb1
          go_wp2_with fail
          go_at_call 17
          refine (offsetQ _ _ _ _ _ _ _ (r1s) (hi1)).mono ?_
          rintro e w2 ⟨rfl, hb2⟩
          have B2 : Below w.heap.size w w2 := Below.then B1 hb2
          have r2s := (r1s).below hb2
          have r2l := (hi1).below hb2
          clear hb2 B1 r1s
          go_wp2_with fail
          go_at_call 14
          refine (sizeR _ _ _ _ (r2s)).mono ?_
          rintro e w3 ⟨rfl, rfl⟩
          go_wp2_with fail
          go_at_call 10
          refine (livesL _).mono ?_
          rintro e w3 ⟨rfl, hb3⟩
          have B3 : Below w.heap.size w w3 := Below.then B2 hb3
          have r3s := (r2s).below hb3
          have r3l := (r2l).below hb3
          clear hb3 B2 r2s r2l
          go_wp2_with fail
          go_ret
          exact ⟨rfl, B3⟩
        · have h2' : (a1 + 1 == pr x0) = false := by simpa using h2
          obtain ⟨K, hK⟩ := idxL_lex (o := a1) hr (by omega) (by omega)
          have HK : Hid (Lex (idxL x0 a1) (idxL x0 (a1 + 1)) K) := hK
          clear h2 hK
          go_enter Try.func6, Try.ntmps6
          go_wp2_with fail
          go_at_call 12
          refine (rightR _ _ _ _ (b0)).mono ?_
          rintro e w1 ⟨rfl, rfl⟩
          go_wp2_with fail
          go_at_call 14
          refine (sizeR _ _ _ _ (b0)).mono ?_
          rintro e w1 ⟨rfl, rfl⟩
          go_wp2_with fail
          go_at_call 19
          refine (indexQ _ _ _ _ _ (b0)).mono ?_
          rintro e w1 ⟨p1, q1, rfl, hi1, hb1⟩
          have B1 : Below w.heap.size w w1 := hb1
          have r1s := (b0).below hb1
          clear hb1
          go_wp2_with fail
          go_at_call 17
          refine (offsetQ _ _ _ _ _ _ _ (r1s) (hi1)).mono ?_
          rintro e w2 ⟨rfl, hb2⟩
          have B2 : Below w.heap.size w w2 := Below.then B1 hb2
          have r2s := (r1s).below hb2
          have r2l := (hi1).below hb2
          clear hb2 B1 r1s
          go_wp2_with fail
          go_at_call 14
          refine (sizeR _ _ _ _ (r2s)).mono ?_
          rintro e w3 ⟨rfl, rfl⟩
          go_wp2_with fail
          go_at_call 19
          refine (indexQ _ _ _ _ _ (r2s)).mono ?_
          rintro e w3 ⟨p2, q2, rfl, hi2, hb3⟩
          have B3 : Below w.heap.size w w3 := Below.then B2 hb3
          have r3s := (r2s).below hb3
          have r3l := (r2l).below hb3
          clear hb3 B2 r2s r2l
          go_wp2_with fail
          have hl := (r3l).len
          have hm := (hi2).len
          clear r3s
          go_loopw [11] (fun i wr => ∃ k n : Nat, k ≤ K ∧ i = .int .i64 k ∧ wr = w3.drewN n) (fun i _ => K + 1 - (intOf i).toNat)
          case atStart => exact ⟨0, 0, Nat.zero_le _, rfl, rfl⟩
          case round =>
            obtain ⟨k, n, hk, rfl, rfl⟩ := hrel
            obtain ⟨g1, g2, g3, g4⟩ := HK.out
            have hk1 : k < (idxL x0 a1).length := by omega
            have hk2 : k < (idxL x0 (a1 + 1)).length := by omega
            obtain ⟨e1, o1, f1, v1⟩ := (r3l).at hk1
            obtain ⟨e2, o2, f2, v2⟩ := (hi2).at hk2
            by_cases hlt : k < K
            · have c1 : ((idxL x0 a1)[k] != (idxL x0 (a1 + 1))[k]) = false := by rw [g4 k hk1 hk2 hlt]; simp
              clear g4
              go_wp2_with fail
              go_quiet (fail)
              go_wp2_with fail
              go_roundw
              case rel => exact ⟨k + 1, _, by omega, by go_num, rfl⟩
              case measure => simp [intOf]; omega
            · obtain rfl : k = K := by omega
              have c1 : ((idxL x0 a1)[k] != (idxL x0 (a1 + 1))[k]) = true := by simp; omega
              have c2 : decide ((idxL x0 a1)[k] < (idxL x0 (a1 + 1))[k]) = true := by simp; omega
              clear g4
              go_wp2_with fail
              go_quiet (fail)
              go_wp2_with fail
              go_region_with (go_at_call 10; refine (livesL _).mono ?_; rintro e w4 ⟨rfl, hb4⟩)
              all_goals (go_wp2_with fail; go_ret)
              all_goals exact ⟨rfl, Below.then B3 (Below.then (below_any _ _) hb4)⟩
  · have hr' : rightB x0 = false := by simpa using hr
    clear hr
    go_enter Try.func6, Try.ntmps6
    go_wp2_with fail
    go_at_call 12
    refine (rightR _ _ _ _ (b0)).mono ?_
    rintro e w1 ⟨rfl, rfl⟩
    go_wp2_with fail
    go_at_call 10
    refine (livesL _).mono ?_
    rintro e w1 ⟨rfl, hb1⟩
    have B1 : Below w.heap.size w w1 := hb1
    have r1s := (b0).below hb1
    clear hb1
    go_wp2_with fail
    go_ret
    exact ⟨rfl, B1⟩

set_option maxRecDepth 100000 in
theorem lifted (os : Os) (started : os.Started) (H : Type) (enc : TypeId × Value → H) :
    ReturnsInHanded {} Try.checked os 6 .any (Rows.shapeBackSpec.pre6 enc Try.prog Try.f6 Rows.shapeBackRow.domain false) (Rows.shapeBackSpec.post enc Try.prog Try.f6 false true false false) := by
  refine returnsInHanded_of_change (C := Try.checked) own started (by kernel_rfl) Try.func6
    (ChangeSpec.witness6 (enc := enc) (C := Try.checked) false ⟨#[], #[.slice none 0 0, .int .i64 0], []⟩ 8 (by kernel_rfl) (by kernel_rfl) (by kernel_rfl) (by kernel_rfl)) ?_
  intro W base args ds gs before hval0 hW hcnd _
  have hval : ∀ (j : Nat) t v, Try.f6.params[j]? = some t → args[j]? = some v → Value.okWide Try.prog W .any base t v := hval0
  have hW' := hW
  obtain ⟨p, q, hA0, hV, rfl, hfz, hnd⟩ := hW
  have hA : DataW.TrodAll enc Try.prog W 0 (fun _ => true) true Try.f6.params.toList args.toList ds p := hA0
  rw [Try.params6] at hA hval
  obtain ⟨v0, vs0, d0, ds0, p0, q0, hargs, rfl, rfl, h0, r0⟩ := trodAll_cons hA
  obtain ⟨v1, vs1, d1, ds1, p1, q1, rfl, rfl, rfl, h1, r1⟩ := trodAll_cons r0
  obtain ⟨rfl, rfl, rfl⟩ := trodAll_nil r1
  obtain rfl : args = #[v0, v1] := by cases args; simp_all
  obtain ⟨rfl, rfl⟩ := trodVars_none hV
  have k0 := h0
  have lt0 : ∀ x ∈ p0, x.block < W.heap.size := by obtain ⟨m, hm⟩ := k0; exact DataW.trod_lt m _ _ _ hm
  obtain ⟨a0, c0, x0, rfl, b0⟩ := ints_open (hval 0 22 v0 rfl rfl) h0
  obtain ⟨a1, rfl, rfl, rfl, w1⟩ := open_int Try.underlying3 (hval 1 3 v1 rfl rfl) h1
  have b1 : -9223372036854775808 ≤ a1 ∧ a1 ≤ 9223372036854775807 := by simpa [Lit.wf, IntKind.min, IntKind.max, IntKind.signed, IntKind.bits] using w1
  clear hA0 hval0
  refine (walk a0 c0 x0 a1 W b0 b1).mono fun e W' ⟨he, bel⟩ => ?_
  subst he
  exact ⟨_, rfl, _, _, _, [], _, [], hW', trodAll_mk1 (shut_bool Try.underlying4 _), (trodAll_cons_mk (Below.trod laidOut (by kernel_rfl) (of_decide_eq_true (by kernel_rfl)) k0 bel lt0) (trodAll_cons_mk (shut_int Try.underlying3 w1) trodAll_mk0)), rfl, bel.frame _, fun h => by cases h⟩

theorem over : Rows.shapeBackRow.holds Try.pinned (OpenSpec.ofChange Rows.shapeBackSpec) :=
  OpenClaim.holds_of_wide 6 Try.f6 rfl rfl rfl rfl rfl rfl rfl ⟨rfl, rfl, rfl, rfl, rfl⟩ rfl rfl rfl rfl rfl (by kernel_rfl) Try.func6 (by kernel_rfl)
    (of_decide_eq_true (by kernel_rfl)) (by unfold Func.isWrapper; first | (rw [if_pos (by decide +kernel)]; kernel_rfl) | (rw [if_neg (by decide +kernel)]; exact ⟨rfl, rfl⟩))
    (fun os started H enc _ => lifted os started H enc)

theorem proved : Rows.ShapeBackSaid := over
end Go.Proofs.Ytjoljkcmpkajpaa.shapeBackProof
