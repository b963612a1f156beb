/-
  The law arraylanglaw02.ShapeIndex holds for every input: it returns true, and each argument reads afterwards as it read before. No condition.
-/
import Derived.Test.YtjoljkcmpkajpaaShapeLives
import Derived.Test.YtjoljkcmpkajpaaIntsOpen
import Derived.ProofKit
import Derived.OpenShut
namespace Go.Proofs.Ytjoljkcmpkajpaa.shapeIndexProof
open Go.ChangeShapes Go.WideShapes Go.ChangeAt Go.RowKit Go.Proofs.Ytjoljkcmpkajpaa.Shape
open Go.WideMaps Go.WideElems
open Go.ChangeMaps (open_string shut_string)
set_option linter.unusedVariables false

theorem own : ownKnob Try.prog.godebug = none := by kernel_rfl
theorem laidOut : laidOutB Try.prog = true := by kernel_rfl

set_option maxHeartbeats 1000000 in
theorem walk (a0 : Option Addr) (c0 : Nat) (x0 : List Int) (a1 : Int) (w : World) (b0 : IntsAt w a0 c0 x0) (b1 : -9223372036854775808 ≤ a1 ∧ a1 ≤ 9223372036854775807) :
    Calls Try.prog 5 #[.slice a0 x0.length c0, .int .i64 a1] w fun e w' => e = .returned (.bool true) ∧ Below w.heap.size w w' := by
  have l0 := b0.len
  obtain ⟨y1, y2⟩ := b1
  have ss := same_self (idxL x0 a1)
  by_cases h0 : 1000 < x0.length
  · go_enter Try.func5, Try.ntmps5
    go_wp2_with fail
    go_at_call 10
    refine (livesL _).mono ?_
    rintro e w1 ⟨rfl, hb1⟩
    have B1 : Below w.heap.size w w1 := hb1
    clear hb1
    go_wp2_with fail
    go_ret
    exact ⟨rfl, B1⟩
  · have h1 : x0.length ≤ 1000 := by omega
    clear h0
    go_enter Try.func5, Try.ntmps5
    go_wp2_with fail
    go_at_call 19
    refine (indexQ _ _ _ _ _ (b0)).mono ?_
    rintro e w1 ⟨p1, q1, rfl, hi1, hb1⟩
    have B1 : Below w.heap.size w w1 := hb1
    have r1s := (b0).below hb1
    clear hb1
    go_wp2_with fail
    go_at_call 20
    refine (indexR _ _ _ _ _ (r1s)).mono ?_
    rintro e w2 ⟨p2, q2, rfl, hi2, hb2⟩
    have B2 : Below w.heap.size w w2 := Below.then B1 hb2
    have r2s := (r1s).below hb2
    have r2l := (hi1).below hb2
    clear hb2 B1 r1s
    go_wp2_with fail
    go_at_call 16
    refine (sameR _ _ _ _ _ _ _ (r2l) (hi2)).mono ?_
    rintro e w3 ⟨rfl, m3, hw3⟩
    have hb3 := below_of_drew hw3
    clear hw3
    have B3 : Below w.heap.size w w3 := Below.then B2 hb3
    have r3s := (r2s).below hb3
    have r3l := (r2l).below hb3
    have r3m := (hi2).below hb3
    clear hb3 B2 r2s r2l
    go_wp2_with fail
    go_at_call 10
    refine (livesL _).mono ?_
    rintro e w4 ⟨rfl, hb4⟩
    have B4 : Below w.heap.size w w4 := Below.then B3 hb4
    have r4s := (r3s).below hb4
    have r4l := (r3l).below hb4
    have r4m := (r3m).below hb4
    clear hb4 B3 r3s r3l r3m
    go_wp2_with fail
    go_ret
    exact ⟨rfl, B4⟩

set_option maxRecDepth 100000 in
theorem lifted (os : Os) (started : os.Started) (H : Type) (enc : TypeId × Value → H) :
    ReturnsInHanded {} Try.checked os 5 .any (Rows.shapeIndexSpec.pre6 enc Try.prog Try.f5 Rows.shapeIndexRow.domain false) (Rows.shapeIndexSpec.post enc Try.prog Try.f5 false true false false) := by
  refine returnsInHanded_of_change (C := Try.checked) own started (by kernel_rfl) Try.func5
    (ChangeSpec.witness6 (enc := enc) (C := Try.checked) false ⟨#[], #[.slice none 0 0, .int .i64 0], []⟩ 8 (by kernel_rfl) (by kernel_rfl) (by kernel_rfl) (by kernel_rfl)) ?_
  intro W base args ds gs before hval0 hW hcnd _
  have hval : ∀ (j : Nat) t v, Try.f5.params[j]? = some t → args[j]? = some v → Value.okWide Try.prog W .any base t v := hval0
  have hW' := hW
  obtain ⟨p, q, hA0, hV, rfl, hfz, hnd⟩ := hW
  have hA : DataW.TrodAll enc Try.prog W 0 (fun _ => true) true Try.f5.params.toList args.toList ds p := hA0
  rw [Try.params5] at hA hval
  obtain ⟨v0, vs0, d0, ds0, p0, q0, hargs, rfl, rfl, h0, r0⟩ := trodAll_cons hA
  obtain ⟨v1, vs1, d1, ds1, p1, q1, rfl, rfl, rfl, h1, r1⟩ := trodAll_cons r0
  obtain ⟨rfl, rfl, rfl⟩ := trodAll_nil r1
  obtain rfl : args = #[v0, v1] := by cases args; simp_all
  obtain ⟨rfl, rfl⟩ := trodVars_none hV
  have k0 := h0
  have lt0 : ∀ x ∈ p0, x.block < W.heap.size := by obtain ⟨m, hm⟩ := k0; exact DataW.trod_lt m _ _ _ hm
  obtain ⟨a0, c0, x0, rfl, b0⟩ := ints_open (hval 0 22 v0 rfl rfl) h0
  obtain ⟨a1, rfl, rfl, rfl, w1⟩ := open_int Try.underlying3 (hval 1 3 v1 rfl rfl) h1
  have b1 : -9223372036854775808 ≤ a1 ∧ a1 ≤ 9223372036854775807 := by simpa [Lit.wf, IntKind.min, IntKind.max, IntKind.signed, IntKind.bits] using w1
  clear hA0 hval0
  refine (walk a0 c0 x0 a1 W b0 b1).mono fun e W' ⟨he, bel⟩ => ?_
  subst he
  exact ⟨_, rfl, _, _, _, [], _, [], hW', trodAll_mk1 (shut_bool Try.underlying4 _), (trodAll_cons_mk (Below.trod laidOut (by kernel_rfl) (of_decide_eq_true (by kernel_rfl)) k0 bel lt0) (trodAll_cons_mk (shut_int Try.underlying3 w1) trodAll_mk0)), rfl, bel.frame _, fun h => by cases h⟩

theorem over : Rows.shapeIndexRow.holds Try.pinned (OpenSpec.ofChange Rows.shapeIndexSpec) :=
  OpenClaim.holds_of_wide 5 Try.f5 rfl rfl rfl rfl rfl rfl rfl ⟨rfl, rfl, rfl, rfl, rfl⟩ rfl rfl rfl rfl rfl (by kernel_rfl) Try.func5 (by kernel_rfl)
    (of_decide_eq_true (by kernel_rfl)) (by unfold Func.isWrapper; first | (rw [if_pos (by decide +kernel)]; kernel_rfl) | (rw [if_neg (by decide +kernel)]; exact ⟨rfl, rfl⟩))
    (fun os started H enc _ => lifted os started H enc)

theorem proved : Rows.ShapeIndexSaid := over
end Go.Proofs.Ytjoljkcmpkajpaa.shapeIndexProof
