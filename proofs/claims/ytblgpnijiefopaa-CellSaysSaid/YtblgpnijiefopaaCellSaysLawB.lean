/-
  The law arraylanglaw04.CellSays holds for every input: it returns true, and each argument reads afterwards as it read before. No condition.
-/
import Derived.Test.YtblgpnijiefopaaBd24
import Derived.Test.YtblgpnijiefopaaBd28
import Derived.Test.YtblgpnijiefopaaBd18
import Derived.Test.YtblgpnijiefopaaBd5
import Derived.Test.YtblgpnijiefopaaBd8
import Derived.SizedLaws
import Derived.Handy
import Derived.Deep.RegionHeld3
import Derived.ProofKit
import Derived.OpenShut
namespace Go.Proofs.Ytblgpnijiefopaa.cellSaysProof
open Go.ChangeShapes Go.WideShapes Go.ChangeAt Go.RowKit Go.Proofs.Ytblgpnijiefopaa.Shape
open Go.WideMaps Go.WideElems
open Go.ChangeMaps (open_string shut_string)
set_option linter.unusedVariables false

theorem own : ownKnob Try.prog.godebug = none := by kernel_rfl
theorem laidOut : laidOutB Try.prog = true := by kernel_rfl

set_option maxHeartbeats 1000000 in
theorem walk (v0 : Value) (x0 : Arr) (a1 : Int) (a2 : Int) (w : World) (b0 : ArrAt w v0 x0) (s0 : Shape.Reach x0) (b1 : -9223372036854775808 ≤ a1 ∧ a1 ≤ 9223372036854775807) (b2 : -9223372036854775808 ≤ a2 ∧ a2 ≤ 9223372036854775807) :
    Calls Try.prog 3 #[v0, .int .i64 a1, .int .i64 a2] w fun e w' => e = .returned (.bool true) ∧ Below w.heap.size w w' := by
  obtain ⟨k, sa, sc, na, nc, ia, ic, rfl, b3⟩ : ∃ k sa sc na nc ia ic, v0 = .agg #[.int .i64 k, .slice sa x0.shape.length sc, .slice na x0.nums.length nc, .slice ia x0.items.length ic] ∧ (IntsAt w sa sc x0.shape ∧ IntsAt w na nc x0.nums ∧ k = x0.kind) := by
    have h := b0
    obtain ⟨k, sh, nu, it⟩ := x0
    rw [ArrAt] at h
    obtain ⟨sa, sc, na, nc, ia, ic, rfl, -, hs, hn, -⟩ := h
    exact ⟨_, _, _, _, _, _, _, rfl, hs, hn, rfl⟩
  have bw := below_new w (.cells #[.int .i64 k, .slice sa x0.shape.length sc, .slice na x0.nums.length nc, .slice ia x0.items.length ic] 26)
  have q0 := Quad.new w (.int .i64 k) (.slice sa x0.shape.length sc) (.slice na x0.nums.length nc) (.slice ia x0.items.length ic)
  have hA := b0.below bw
  have RP := fun w' => rankP a1 a2 w' b1 b2
  have RR := fun w' => rankR a1 a2 w' b1 b2
  have FQ := fun v' w' (g : ArrAt w' v' x0) => frameQ v' x0 a1 w' g b1
  have FR := fun v' w' (g : ArrAt w' v' x0) => frameR v' x0 a1 w' g b1
  have CQ := fun v' w' (g : ArrAt w' v' x0) => cellsQ v' x0 a1 w' g s0 b1
  have CR := fun v' w' (g : ArrAt w' v' x0) => cellsR v' x0 a1 w' g s0 b1
  generalize rankS a1 a2 = c at *
  generalize frameS x0 a1 = FL at *
  generalize cellsS x0 a1 = CL at *
  clear b3
  go_enter Try.func3, Try.ntmps3
  go_wp2_with (first
    | (go_at_call 13; (with_reducible refine (RP _).mono ?_); rintro e w1 ⟨rfl, rfl⟩)
    | (go_at_call 14; (with_reducible refine (RR _).mono ?_); rintro e w1 ⟨rfl, rfl⟩)
    | fail)
  generalize w.alloc (.cells #[.int .i64 k, .slice sa x0.shape.length sc, .slice na x0.nums.length nc, .slice ia x0.items.length ic] 26) = W0 at *
  go_at_call 15
  refine (fewL _ _ 500 W0 hA).mono ?_
  rintro e w1 ⟨t1, rfl, c1⟩
  have B1 := Below.then bw c1
  have hA1 := hA.below c1
  have Q1 := q0.below c1
  cases t1 with
  | false =>
    go_wp2_with (go_at_call 16; refine (awakeL _).mono ?_; rintro e wA ⟨rfl, bA⟩)
    go_ret
    exact ⟨rfl, Below.then B1 bA⟩
  | true =>
    have H0 : ∀ w', Below w1.heap.size w1 w' → (w'.cell? ⟨w.heap.size, 0, none⟩ = some (.int .i64 k) ∧ w'.cell? ⟨w.heap.size, 1, none⟩ = some (.slice sa x0.shape.length sc) ∧ w'.cell? ⟨w.heap.size, 2, none⟩ = some (.slice na x0.nums.length nc) ∧ w'.cell? ⟨w.heap.size, 3, none⟩ = some (.slice ia x0.items.length ic)) ∧ Below w1.heap.size w1 w' := by
      intro w' hb
      obtain ⟨y0, y1, y2, y3, -⟩ := (Q1.below hb).cells
      exact ⟨⟨y0, y1, y2, y3⟩, hb⟩
    clear q0 hA c1 RP RR
    go_wp2_with fail
    go_region_held3 (fun w' => (w'.cell? ⟨w.heap.size, 0, none⟩ = some (.int .i64 k) ∧ w'.cell? ⟨w.heap.size, 1, none⟩ = some (.slice sa x0.shape.length sc) ∧ w'.cell? ⟨w.heap.size, 2, none⟩ = some (.slice na x0.nums.length nc) ∧ w'.cell? ⟨w.heap.size, 3, none⟩ = some (.slice ia x0.items.length ic)) ∧ Below w1.heap.size w1 w')
      (first | exact H0 _ (by assumption) | exact H0 _ (Below.refl _ _).drew | exact H0 _ (Below.refl _ _))
      ((first
        | (go_at_call 18; (with_reducible refine (FQ _ _ (hA1.below (Below.refl _ _).drew)).mono ?_); rintro e w2 ⟨fa, fc, rfl, hF2, c2⟩; (have hG2 : IntsAt w2 fa fc FL := hF2.1); (have E2 : Below w1.heap.size w1 w2 := (Below.refl _ _).drew.trans c2))
        | (go_at_call 19; (with_reducible refine (FR _ _ (hA1.below E2)).mono ?_); rintro e w3 ⟨ga, gc, rfl, hF3, c3⟩; (have E3 : Below w1.heap.size w1 w3 := Below.then E2 c3))
        | (go_at_call 17; (with_reducible refine (intsLX fa fc FL ga gc _ (hG2.below c3) hF3).mono ?_); rintro e w4 ⟨rfl, n4, hw4⟩; (have E4 : Below w1.heap.size w1 w4 := hw4 ▸ Below.then E3 (Shape.below_drewN n4)); (clear hw4))
        | (go_at_call 21; (with_reducible refine (CQ _ _ (hA1.below E4)).mono ?_); rintro e w5 ⟨ca, cc, cb, rfl, hcl, hcc, hca, hC5, c5⟩; (have E5 : Below w1.heap.size w1 w5 := Below.then E4 c5))
        | (go_at_call 22; (with_reducible refine (CR _ _ (hA1.below E5)).mono ?_); rintro e w6 ⟨da, dc, db, rfl, hdl, hdc, hda, hD6, c6⟩; (have E6 : Below w1.heap.size w1 w6 := Below.then E5 c6))
        | (go_at_call 20; (with_reducible refine (arraysLX ca cc da dc CL _ cb 0 db 0 hcl hcc hdl hdc hca hda (ArrsAt.below c6 hC5) hD6).mono ?_); rintro e w7 ⟨rfl, c7⟩; (have E7 : Below w1.heap.size w1 w7 := Below.then E6 c7))
        | (go_at_call 16; (with_reducible refine (awakeL _).mono ?_); rintro e wA ⟨rfl, bA⟩; (have EA : Below w1.heap.size w1 wA := Below.then E7 bA))))
    go_wp2_with fail
    go_ret
    exact ⟨rfl, Below.then B1 EA⟩

set_option maxRecDepth 100000 in
theorem lifted (os : Os) (started : os.Started) (H : Type) (enc : TypeId × Value → H) :
    ReturnsInHanded {} Try.checked os 3 .any (Rows.cellSaysSpec.pre6 enc Try.prog Try.f3 Rows.cellSaysRow.domain false) (Rows.cellSaysSpec.post enc Try.prog Try.f3 false true false false) := by
  refine returnsInHanded_of_change_sized (C := Try.checked) own started (by kernel_rfl) Try.func3
    (ChangeSpec.witness6 (enc := enc) (C := Try.checked) false ⟨#[], #[.agg #[.int .i64 0, .slice none 0 0, .slice none 0 0, .slice none 0 0], .int .i64 0, .int .i64 0], []⟩ 8 (by kernel_rfl) (by kernel_rfl) (by kernel_rfl) (by kernel_rfl)) ?_
  intro W base args ds gs before hval0 hW hcnd hsz0 _
  have hsz : (DataW.weightsEach Try.prog (Try.f3.params.toList ++ Rows.cellSaysSpec.plain.varTypes Try.prog) (ds ++ gs)).all (· ≤ reachBytes) = true := hsz0
  have hval : ∀ (j : Nat) t v, Try.f3.params[j]? = some t → args[j]? = some v → Value.okWide Try.prog W .any base t v := hval0
  have hW' := hW
  obtain ⟨p, q, hA0, hV, rfl, hfz, hnd⟩ := hW
  have hA : DataW.TrodAll enc Try.prog W 0 (fun _ => true) true Try.f3.params.toList args.toList ds p := hA0
  rw [Try.params3] at hA hval hsz
  obtain ⟨v0, vs0, d0, ds0, p0, q0, hargs, rfl, rfl, h0, r0⟩ := trodAll_cons hA
  obtain ⟨v1, vs1, d1, ds1, p1, q1, rfl, rfl, rfl, h1, r1⟩ := trodAll_cons r0
  obtain ⟨v2, vs2, d2, ds2, p2, q2, rfl, rfl, rfl, h2, r2⟩ := trodAll_cons r1
  obtain ⟨rfl, rfl, rfl⟩ := trodAll_nil r2
  obtain rfl : args = #[v0, v1, v2] := by cases args; simp_all
  obtain ⟨rfl, rfl⟩ := trodVars_none hV
  have k0 := h0
  have lt0 : ∀ x ∈ p0, x.block < W.heap.size := by obtain ⟨m, hm⟩ := k0; exact DataW.trod_lt m _ _ _ hm
  obtain ⟨x0, b0, z0⟩ := arr_open (hval 0 26 v0 rfl rfl) h0
  have s0 : Shape.Reach x0 := z0 (Sized.each hsz (j := 0) rfl rfl)
  obtain ⟨a1, rfl, rfl, rfl, w1⟩ := open_int Try.underlying3 (hval 1 3 v1 rfl rfl) h1
  have b1 : -9223372036854775808 ≤ a1 ∧ a1 ≤ 9223372036854775807 := by simpa [Lit.wf, IntKind.min, IntKind.max, IntKind.signed, IntKind.bits] using w1
  obtain ⟨a2, rfl, rfl, rfl, w2⟩ := open_int Try.underlying3 (hval 2 3 v2 rfl rfl) h2
  have b2 : -9223372036854775808 ≤ a2 ∧ a2 ≤ 9223372036854775807 := by simpa [Lit.wf, IntKind.min, IntKind.max, IntKind.signed, IntKind.bits] using w2
  clear hA0 hval0
  refine (walk v0 x0 a1 a2 W b0 s0 b1 b2).mono fun e W' ⟨he, bel⟩ => ?_
  subst he
  exact ⟨_, rfl, _, _, _, [], _, [], hW', trodAll_mk1 (shut_bool Try.underlying4 _), (trodAll_cons_mk (Below.trod laidOut (by kernel_rfl) (of_decide_eq_true (by kernel_rfl)) k0 bel lt0) (trodAll_cons_mk (shut_int Try.underlying3 w1) (trodAll_cons_mk (shut_int Try.underlying3 w2) trodAll_mk0))), rfl, bel.frame _, fun h => by cases h⟩

theorem over : Rows.cellSaysRow.holds Try.pinned (OpenSpec.ofChange Rows.cellSaysSpec) :=
  OpenClaim.holds_of_wide 3 Try.f3 rfl rfl rfl rfl rfl rfl rfl ⟨rfl, rfl, rfl, rfl, rfl⟩ rfl rfl rfl rfl rfl (by kernel_rfl) Try.func3 (by kernel_rfl)
    (of_decide_eq_true (by kernel_rfl)) (by unfold Func.isWrapper; first | (rw [if_pos (by decide +kernel)]; kernel_rfl) | (rw [if_neg (by decide +kernel)]; exact ⟨rfl, rfl⟩))
    (fun os started H enc _ => lifted os started H enc)

theorem proved : Rows.CellSaysSaid := over
end Go.Proofs.Ytblgpnijiefopaa.cellSaysProof
