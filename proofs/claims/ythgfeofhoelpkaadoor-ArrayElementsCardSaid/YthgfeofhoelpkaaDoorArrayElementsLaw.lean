/-
  The law arraylanglaw03.ArrayElements holds for every input: it returns true, and each argument reads afterwards as it read before. No condition.
-/
import Derived.Test.YthgfeofhoelpkaaDoorArrExample
import Derived.Test.YthgfeofhoelpkaaDoorArrCard
import Derived.Test.YthgfeofhoelpkaaDoorArrSelf
import Derived.Test.YthgfeofhoelpkaaDoorArrOpen
import Derived.SizedLaws
import Derived.Handy
import Derived.Deep.RegionHeld3
import Derived.ProofKit
import Derived.OpenShut
namespace Go.Proofs.YthgfeofhoelpkaaDoor.arrayElementsProof
open Go.ChangeShapes Go.WideShapes Go.ChangeAt Go.RowKit Go.Proofs.YthgfeofhoelpkaaDoor.Shape
open Go.WideMaps Go.WideElems
open Go.ChangeMaps (open_string shut_string)
set_option linter.unusedVariables false

theorem own : ownKnob Tryd.prog.godebug = none := by kernel_rfl
theorem laidOut : laidOutB Tryd.prog = true := by kernel_rfl

set_option maxHeartbeats 1000000 in
theorem walk (v0 : Value) (x0 : Arr) (a1 : Int) (w : World) (hT : Tabs w) (b0 : ArrAt w v0 x0) (s0 : Shape.Reach x0) (b1 : -9223372036854775808 ≤ a1 ∧ a1 ≤ 9223372036854775807) :
    Calls Tryd.prog 7 #[v0, .int .i64 a1] w fun e w' => e = .returned (.bool true) ∧ Below w.heap.size w w' := by
  obtain ⟨k, sa, ls, sc, na, ln, nc, ia, li, ic, rfl⟩ : ∃ k sa ls sc na ln nc ia li ic, v0 = .agg #[.int .i64 k, .slice sa ls sc, .slice na ln nc, .slice ia li ic] := by
    have h := b0
    obtain ⟨k, sh, nu, it⟩ := x0
    rw [ArrAt] at h
    obtain ⟨sa, sc, na, nc, ia, ic, rfl, -⟩ := h
    exact ⟨_, _, _, _, _, _, _, _, _, _, rfl⟩
  have b1i := b1
  clear b1
  have bw := below_new w (.cells #[.int .i64 k, .slice sa ls sc, .slice na ln nc, .slice ia li ic] 26)
  have q0 := Quad.new w (.int .i64 k) (.slice sa ls sc) (.slice na ln nc) (.slice ia li ic)
  have hA := b0.below bw
  obtain ⟨W0, hW⟩ : ∃ W0, W0 = w.alloc (.cells #[.int .i64 k, .slice sa ls sc, .slice na ln nc, .slice ia li ic] 26) := ⟨_, rfl⟩
  go_enter Tryd.func7, Tryd.ntmps7
  go_wp2_with fail
  go_at_call 11
  refine (smallR _ _ _ hA).mono ?_
  rintro e w1 ⟨b, rfl, b1⟩
  rw [← hW] at bw q0 hA b1
  clear hW
  have B1 : Below w.heap.size w w1 := Below.then bw b1
  have TW := hT.below B1
  have hA1 := hA.below b1
  have q1 := q0.below b1
  cases b with
  | false =>
    go_wp2_with (go_at_call 12; refine (exampleL _ TW).mono ?_; rintro e w2 ⟨rfl, b2⟩)
    go_ret
    exact ⟨rfl, Below.then B1 b2⟩
  | true =>
    have H0 : ∀ w', Below w1.heap.size w1 w' → (w'.cell? ⟨w.heap.size, 0, none⟩ = some (.int .i64 k) ∧ w'.cell? ⟨w.heap.size, 1, none⟩ = some (.slice sa ls sc) ∧ w'.cell? ⟨w.heap.size, 2, none⟩ = some (.slice na ln nc) ∧ w'.cell? ⟨w.heap.size, 3, none⟩ = some (.slice ia li ic)) ∧ Below w1.heap.size w1 w' := by
      intro w' hb
      obtain ⟨x0', x1', x2', x3', -⟩ := (q1.below hb).cells
      exact ⟨⟨x0', x1', x2', x3'⟩, hb⟩
    go_wp2_with fail
    go_region_held3 (fun w' => (w'.cell? ⟨w.heap.size, 0, none⟩ = some (.int .i64 k) ∧ w'.cell? ⟨w.heap.size, 1, none⟩ = some (.slice sa ls sc) ∧ w'.cell? ⟨w.heap.size, 2, none⟩ = some (.slice na ln nc) ∧ w'.cell? ⟨w.heap.size, 3, none⟩ = some (.slice ia li ic)) ∧ Below w1.heap.size w1 w')
      (first | exact H0 _ (by go_grown) | go_keep)
      ((first
      | (go_at_call 35; (with_reducible refine (fillQ _ _ _ (hA1.below (by go_grown))).mono ?_); intro e w2 hN; (obtain ⟨k2, sa2, ls2, sc2, na2, ln2, nc2, ia2, li2, ic2, rfl, h2, b2⟩ := hN.form); (have E2 : Below w1.heap.size w1 w2 := Below.then (by go_grown) b2); (have S2 := E2.size))
      | (go_at_call 36; (with_reducible refine (fillR _ _ _ (hA1.below (by go_grown))).mono ?_); intro e w3 hN; (obtain ⟨k3, sa3, ls3, sc3, na3, ln3, nc3, ia3, li3, ic3, rfl, h3, b3⟩ := hN.form); (have E3 : Below w1.heap.size w1 w3 := Below.then (by go_grown) b3); (have S3 := E3.size); (have E2_3 : Below w2.heap.size w2 w3 := Below.then (by go_grown) b3); (have S2_3 := E2_3.size))
      | (go_at_call 22; (with_reducible refine (sameRX (h2.below (by go_grown)) (h3.below (by go_grown))).mono ?_); rintro e w4 ⟨rfl, b4⟩; (have E4 : Below w1.heap.size w1 w4 := Below.then (by go_grown) b4); (have S4 := E4.size))
      | (go_at_call 37; (with_reducible refine (atQ _ _ _ _ (hA1.below (by go_grown)) s0 b1i).mono ?_); intro e w5 hN; (obtain ⟨k5, sa5, ls5, sc5, na5, ln5, nc5, ia5, li5, ic5, rfl, h5, b5⟩ := hN.form); (have E5 : Below w1.heap.size w1 w5 := Below.then (by go_grown) b5); (have S5 := E5.size))
      | (go_at_call 38; (with_reducible refine (atR _ _ _ _ (hA1.below (by go_grown)) s0 b1i).mono ?_); intro e w6 hN; (obtain ⟨k6, sa6, ls6, sc6, na6, ln6, nc6, ia6, li6, ic6, rfl, h6, b6⟩ := hN.form); (have E6 : Below w1.heap.size w1 w6 := Below.then (by go_grown) b6); (have S6 := E6.size); (have E5_6 : Below w5.heap.size w5 w6 := Below.then (by go_grown) b6); (have S5_6 := E5_6.size))
      | (go_at_call 22; (with_reducible refine (sameRX (h5.below (by go_grown)) (h6.at.below (by go_grown))).mono ?_); rintro e w7 ⟨rfl, b7⟩; (have E7 : Below w1.heap.size w1 w7 := Below.then (by go_grown) b7); (have S7 := E7.size))
      | (go_at_call 12; (with_reducible refine (exampleL _ (TW.below (by go_grown))).mono ?_); rintro e w8 ⟨rfl, b8⟩; (have E8 : Below w1.heap.size w1 w8 := Below.then (by go_grown) b8); (have S8 := E8.size))))
    all_goals go_wp2_with fail
    all_goals go_ret
    all_goals exact ⟨rfl, B1.trans (E8.mono B1.size)⟩

theorem witness_row (os : Os) {H : Type} (enc : TypeId × Value → H) :
    (OpenSpec.ofChange Rows.arrayElementsSpec).preRow enc Tryd.prog Tryd.f7 Rows.arrayElementsRow.domain false Rows.arrayElementsRow.laid ((laidWorld os).forCall (fun _ _ => 0) ⟨#[], #[.agg #[.int .i64 0, .slice none 0 0, .slice none 0 0, .slice none 0 0], .int .i64 0], []⟩).memory #[.agg #[.int .i64 0, .slice none 0 0, .slice none 0 0, .slice none 0 0], .int .i64 0] := by
  have hw : (DataW.whole enc Tryd.prog ((laidWorld os).forCall (fun _ _ => 0) ⟨#[], #[.agg #[.int .i64 0, .slice none 0 0, .slice none 0 0, .slice none 0 0], .int .i64 0], []⟩).memory Tryd.f7.params.toList (OpenSpec.ofChange Rows.arrayElementsSpec).vars false (#[.agg #[.int .i64 0, .slice none 0 0, .slice none 0 0, .slice none 0 0], .int .i64 0] : Array Value).toList 8).map (fun x => (x.1, x.2.1)) = some ([.agg [.lit (.int .i64 0), .nil, .nil, .nil], .lit (.int .i64 0)], []) := by kernel_rfl
  obtain ⟨⟨x1, x2, x3⟩, hx, hx1⟩ := Option.map_eq_some_iff.1 hw
  simp only [Prod.mk.injEq] at hx1
  obtain ⟨rfl, rfl⟩ := hx1
  exact OpenSpec.preRow_of_cond 8 hx (by kernel_rfl) (fun k hk => by cases hk) (by kernel_rfl) (laid_met os _)

set_option maxRecDepth 100000 in
set_option maxHeartbeats 2000000 in
theorem lifted (os : Os) (started : os.Started) (H : Type) (enc : TypeId × Value → H) (F0 : Stop.Interp) :
    ReturnsInHanded {} Tryd.checked os 7 .any ((OpenSpec.ofChange Rows.arrayElementsSpec).preRow enc Tryd.prog Tryd.f7 Rows.arrayElementsRow.domain false Rows.arrayElementsRow.laid) (((OpenSpec.ofChange Rows.arrayElementsSpec).at F0).post enc Tryd.prog Tryd.f7 false true false false) := by
  refine returnsInHanded_of_row (C := Tryd.checked) (s := (OpenSpec.ofChange Rows.arrayElementsSpec)) own started (by kernel_rfl) Tryd.func7
    (witness_row_atRef (enc := enc) (C := Tryd.checked) false (laidWorld os) #[.agg #[.int .i64 0, .slice none 0 0, .slice none 0 0, .slice none 0 0], .int .i64 0] rfl (by kernel_rfl) (by kernel_rfl) (by kernel_rfl) (witness_row os enc)) ?_
  intro W base args ds gs before hval0 hW _ _ hsz0 hL _ _
  have hT : Tabs W := tabs_of hL
  have hsz : (DataW.weightsEach Tryd.prog (Tryd.f7.params.toList ++ (OpenSpec.ofChange Rows.arrayElementsSpec).bare.plain.varTypes Tryd.prog) (ds ++ gs)).all (· ≤ reachBytes) = true := hsz0
  have hval : ∀ (j : Nat) t v, Tryd.f7.params[j]? = some t → args[j]? = some v → Value.okWide Tryd.prog W .any base t v := hval0
  have hW' := hW
  obtain ⟨p, q, hA0, hV, rfl, hfz, hnd⟩ := hW
  have hA : DataW.TrodAll enc Tryd.prog W 0 (fun _ => true) true Tryd.f7.params.toList args.toList ds p := hA0
  rw [Tryd.params7] at hA hval hsz
  obtain ⟨v0, vs0, d0, ds0, p0, q0, hargs, rfl, rfl, h0, r0⟩ := trodAll_cons hA
  obtain ⟨v1, vs1, d1, ds1, p1, q1, rfl, rfl, rfl, h1, r1⟩ := trodAll_cons r0
  obtain ⟨rfl, rfl, rfl⟩ := trodAll_nil r1
  obtain rfl : args = #[v0, v1] := by cases args; simp_all
  obtain ⟨rfl, rfl⟩ := trodVars_none hV
  have k0 := h0
  have lt0 : ∀ x ∈ p0, x.block < W.heap.size := by obtain ⟨m, hm⟩ := k0; exact DataW.trod_lt m _ _ _ hm
  obtain ⟨x0, b0, z0⟩ := arr_open (hval 0 26 v0 rfl rfl) h0
  have s0 : Shape.Reach x0 := z0 (Sized.each hsz (j := 0) rfl rfl)
  obtain ⟨a1, rfl, rfl, rfl, w1⟩ := open_int Tryd.underlying3 (hval 1 3 v1 rfl rfl) h1
  have b1 : -9223372036854775808 ≤ a1 ∧ a1 ≤ 9223372036854775807 := by simpa [Lit.wf, IntKind.min, IntKind.max, IntKind.signed, IntKind.bits] using w1
  clear hA0 hval0
  refine (walk v0 x0 a1 W hT b0 s0 b1).mono fun e W' ⟨he, bel⟩ => ?_
  subst he
  exact ⟨_, rfl, _, _, _, [], _, [], hW', trodAll_mk1 (shut_bool Tryd.underlying4 _), (trodAll_cons_mk (Below.trod laidOut (by kernel_rfl) (of_decide_eq_true (by kernel_rfl)) k0 bel lt0) (trodAll_cons_mk (shut_int Tryd.underlying3 w1) trodAll_mk0)), rfl, bel.frame _, fun h => by cases h⟩

theorem over : Rows.arrayElementsRow.holds Tryd.pinned (OpenSpec.ofChange Rows.arrayElementsSpec) :=
  OpenClaim.holds_of_cond 7 Tryd.f7 rfl rfl rfl rfl rfl rfl rfl ⟨rfl, rfl, rfl, rfl, rfl⟩ rfl rfl rfl rfl rfl (by kernel_rfl) Tryd.func7 (by kernel_rfl)
    (of_decide_eq_true (by kernel_rfl)) (by unfold Func.isWrapper; first | (rw [if_pos (by decide +kernel)]; kernel_rfl) | (rw [if_neg (by decide +kernel)]; exact ⟨rfl, rfl⟩))
    (fun os started H enc _ F0 => by rw [OpenClaim.pre_eq_preRow]; exact lifted os started H enc F0)

set_option maxRecDepth 100000 in
theorem plainParams : ∀ (f : FuncId) (fn : Func), Tryd.prog.funcNamed Rows.arrayElementsRow.func = some f → Tryd.prog.funcs[f]? = some fn → false = Tryd.prog.looks [] ∧ ∀ (j : Nat) t, fn.params[j]? = some t → Tryd.prog.wantsStandIn t = false := by
  intro f fn hf hfn
  obtain rfl : f = 7 := Option.some.inj ((show Tryd.prog.funcNamed Rows.arrayElementsRow.func = some 7 by kernel_rfl).symm.trans hf) |>.symm
  obtain rfl : fn = Tryd.f7 := (Option.some.inj (Tryd.func7.symm.trans hfn)).symm
  refine ⟨by kernel_rfl, fun j t ht => ?_⟩
  have hall : (Tryd.f7.params.toList.all fun t => !Tryd.prog.wantsStandIn t) = true := by kernel_rfl
  have hm : t ∈ Tryd.f7.params.toList := by
    rw [← Array.getElem?_toList] at ht
    exact List.mem_of_getElem? ht
  simpa using List.all_eq_true.1 hall t hm

theorem proved : Rows.ArrayElementsCardSaid :=
  Claim7.holds_tied_plain_at .later [] [.data, .pinned] true _ false over (fun _ h => by cases h) (by kernel_rfl) (fun _ h => by cases h) arrayElements_row_tie rfl ⟨rfl, rfl⟩ (by kernel_rfl) rfl plainParams (by kernel_rfl)
end Go.Proofs.YthgfeofhoelpkaaDoor.arrayElementsProof
