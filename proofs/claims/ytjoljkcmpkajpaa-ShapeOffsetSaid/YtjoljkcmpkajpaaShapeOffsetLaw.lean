/-
  The law arraylanglaw02.ShapeOffset holds for every input: it returns true, and each argument reads afterwards as it read before. No condition.
-/
import Derived.Test.YtjoljkcmpkajpaaShapeLives
import Derived.Test.YtjoljkcmpkajpaaIntsOpen
import Derived.ProofKit
import Derived.OpenShut
namespace Go.Proofs.Ytjoljkcmpkajpaa.shapeOffsetProof
open Go.ChangeShapes Go.WideShapes Go.ChangeAt Go.RowKit Go.Proofs.Ytjoljkcmpkajpaa.Shape
open Go.WideMaps Go.WideElems
open Go.ChangeMaps (open_string shut_string)
set_option linter.unusedVariables false

theorem own : ownKnob Try.prog.godebug = none := by kernel_rfl
theorem laidOut : laidOutB Try.prog = true := by kernel_rfl

set_option maxHeartbeats 1000000 in
theorem walk (a0 : Option Addr) (c0 : Nat) (x0 : List Int) (a1 : Option Addr) (c1 : Nat) (x1 : List Int) (w : World) (b0 : IntsAt w a0 c0 x0) (b1 : IntsAt w a1 c1 x1) :
    Calls Try.prog 4 #[.slice a0 x0.length c0, .slice a1 x1.length c1] w fun e w' => e = .returned (.bool true) ∧ Below w.heap.size w w' := by
  have l0 := b0.len
  have l1 := b1.len
  by_cases h0 : 1000 < x0.length ∨ 1000 < x1.length
  · by_cases h1 : 1000 < x0.length
    · go_enter Try.func4, Try.ntmps4
      go_wp2_with fail
      go_at_call 10
      refine (livesL _).mono ?_
      rintro e w1 ⟨rfl, hb1⟩
      have B1 : Below w.heap.size w w1 := hb1
      clear hb1
      go_wp2_with fail
      go_ret
      exact ⟨rfl, B1⟩
    · have h2 : 1000 < x1.length := by omega
      go_enter Try.func4, Try.ntmps4
      go_wp2_with fail
      go_at_call 10
      refine (livesL _).mono ?_
      rintro e w1 ⟨rfl, hb1⟩
      have B1 : Below w.heap.size w w1 := hb1
      clear hb1
      go_wp2_with fail
      go_ret
      exact ⟨rfl, B1⟩
  · have h1 : x0.length ≤ 1000 := by omega
    have h2 : x1.length ≤ 1000 := by omega
    clear h0
    go_enter Try.func4, Try.ntmps4
    go_wp2_with fail
    go_at_call 17
    refine (offsetQ _ _ _ _ _ _ _ (b0) (b1)).mono ?_
    rintro e w1 ⟨rfl, hb1⟩
    have B1 : Below w.heap.size w w1 := hb1
    have r1s := (b0).below hb1
    have r1t := (b1).below hb1
    clear hb1
    go_wp2_with fail
    go_at_call 18
    refine (offsetR _ _ _ _ _ _ _ (r1s) (r1t)).mono ?_
    rintro e w2 ⟨rfl, m2, hw2⟩
    have hb2 := below_of_drew hw2
    clear hw2
    have B2 : Below w.heap.size w w2 := Below.then B1 hb2
    have r2s := (r1s).below hb2
    have r2t := (r1t).below hb2
    clear hb2 B1 r1s r1t
    go_wp2_with fail
    go_at_call 10
    refine (livesL _).mono ?_
    rintro e w3 ⟨rfl, hb3⟩
    have B3 : Below w.heap.size w w3 := Below.then B2 hb3
    have r3s := (r2s).below hb3
    have r3t := (r2t).below hb3
    clear hb3 B2 r2s r2t
    go_wp2_with fail
    go_ret
    exact ⟨rfl, B3⟩

set_option maxRecDepth 100000 in
theorem lifted (os : Os) (started : os.Started) (H : Type) (enc : TypeId × Value → H) :
    ReturnsInHanded {} Try.checked os 4 .any (Rows.shapeOffsetSpec.pre6 enc Try.prog Try.f4 Rows.shapeOffsetRow.domain false) (Rows.shapeOffsetSpec.post enc Try.prog Try.f4 false true false false) := by
  refine returnsInHanded_of_change (C := Try.checked) own started (by kernel_rfl) Try.func4
    (ChangeSpec.witness6 (enc := enc) (C := Try.checked) false ⟨#[], #[.slice none 0 0, .slice none 0 0], []⟩ 8 (by kernel_rfl) (by kernel_rfl) (by kernel_rfl) (by kernel_rfl)) ?_
  intro W base args ds gs before hval0 hW hcnd _
  have hval : ∀ (j : Nat) t v, Try.f4.params[j]? = some t → args[j]? = some v → Value.okWide Try.prog W .any base t v := hval0
  have hW' := hW
  obtain ⟨p, q, hA0, hV, rfl, hfz, hnd⟩ := hW
  have hA : DataW.TrodAll enc Try.prog W 0 (fun _ => true) true Try.f4.params.toList args.toList ds p := hA0
  rw [Try.params4] at hA hval
  obtain ⟨v0, vs0, d0, ds0, p0, q0, hargs, rfl, rfl, h0, r0⟩ := trodAll_cons hA
  obtain ⟨v1, vs1, d1, ds1, p1, q1, rfl, rfl, rfl, h1, r1⟩ := trodAll_cons r0
  obtain ⟨rfl, rfl, rfl⟩ := trodAll_nil r1
  obtain rfl : args = #[v0, v1] := by cases args; simp_all
  obtain ⟨rfl, rfl⟩ := trodVars_none hV
  have k0 := h0
  have lt0 : ∀ x ∈ p0, x.block < W.heap.size := by obtain ⟨m, hm⟩ := k0; exact DataW.trod_lt m _ _ _ hm
  obtain ⟨a0, c0, x0, rfl, b0⟩ := ints_open (hval 0 22 v0 rfl rfl) h0
  have k1 := h1
  have lt1 : ∀ x ∈ p1, x.block < W.heap.size := by obtain ⟨m, hm⟩ := k1; exact DataW.trod_lt m _ _ _ hm
  obtain ⟨a1, c1, x1, rfl, b1⟩ := ints_open (hval 1 22 v1 rfl rfl) h1
  clear hA0 hval0
  refine (walk a0 c0 x0 a1 c1 x1 W b0 b1).mono fun e W' ⟨he, bel⟩ => ?_
  subst he
  exact ⟨_, rfl, _, _, _, [], _, [], hW', trodAll_mk1 (shut_bool Try.underlying4 _), (trodAll_cons_mk (Below.trod laidOut (by kernel_rfl) (of_decide_eq_true (by kernel_rfl)) k0 bel lt0) (trodAll_cons_mk (Below.trod laidOut (by kernel_rfl) (of_decide_eq_true (by kernel_rfl)) k1 bel lt1) trodAll_mk0)), rfl, bel.frame _, fun h => by cases h⟩

theorem over : Rows.shapeOffsetRow.holds Try.pinned (OpenSpec.ofChange Rows.shapeOffsetSpec) :=
  OpenClaim.holds_of_wide 4 Try.f4 rfl rfl rfl rfl rfl rfl rfl ⟨rfl, rfl, rfl, rfl, rfl⟩ rfl rfl rfl rfl rfl (by kernel_rfl) Try.func4 (by kernel_rfl)
    (of_decide_eq_true (by kernel_rfl)) (by unfold Func.isWrapper; first | (rw [if_pos (by decide +kernel)]; kernel_rfl) | (rw [if_neg (by decide +kernel)]; exact ⟨rfl, rfl⟩))
    (fun os started H enc _ => lifted os started H enc)

theorem proved : Rows.ShapeOffsetSaid := over
end Go.Proofs.Ytjoljkcmpkajpaa.shapeOffsetProof
