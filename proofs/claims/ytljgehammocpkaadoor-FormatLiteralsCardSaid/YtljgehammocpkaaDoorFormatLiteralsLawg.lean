/-
  The law arraylanglaw05.FormatLiterals holds for every input: it returns true, and each argument reads afterwards as it read before. No condition.
-/
import Derived.Test.YtljgehammocpkaaDoorFmtCardg
import Derived.Test.YtljgehammocpkaaDoorArrOpen
import Derived.Test.YtljgehammocpkaaDoorFmGF
import Derived.Deep.RegionHeld3
import Derived.ProofKit
import Derived.OpenShut
namespace Go.Proofs.YtljgehammocpkaaDoor.formatLiteralsProof
open Go.ChangeShapes Go.WideShapes Go.ChangeAt Go.RowKit Go.Proofs.YtljgehammocpkaaDoor.Shape
open Go.WideMaps Go.WideElems
open Go.ChangeMaps (open_string shut_string)
set_option linter.unusedVariables false

theorem own : ownKnob Tryd.prog.godebug = none := by kernel_rfl
theorem laidOut : laidOutB Tryd.prog = true := by kernel_rfl

set_option maxHeartbeats 1000000 in
theorem walk (v0 : Value) (x0 : Arr) (w : World) (hT : Tabs5 w) (b0 : ArrAt w v0 x0) (s0 : Shape.Reach x0) :
    Calls Tryd.prog 3 #[v0] w fun e w' => e = .returned (.bool true) ∧ Below w.heap.size w w' := by
  obtain ⟨hT1, hT2⟩ := hT
  have hA := b0
  obtain ⟨c0, c1, c2, c3, rfl⟩ : ∃ c0 c1 c2 c3 : Value, v0 = .agg #[c0, c1, c2, c3] := by
    obtain ⟨k, sh, nu, it⟩ := x0
    rw [ArrAt] at hA
    obtain ⟨sa, sc, na, nc, ia, ic, rfl, -⟩ := hA
    exact ⟨_, _, _, _, rfl⟩
  have bw := below_new w (.cells #[c0, c1, c2, c3] 26)
  have q0 := Quad.new w c0 c1 c2 c3
  have tz : ∀ W, Below w.heap.size w W → Tok.TZ W := fun W h => Tok.TZ.below hT1 h
  have gz : ∀ W, Below w.heap.size w W → 3 < W.heap.size := fun W h => Nat.lt_of_lt_of_le hT2 h.size
  obtain ⟨p0, p1, p2, p3, -⟩ := q0.cells
  have cF := fewR5 (b0.below bw)
  by_cases hw : wt x0 ≤ 400
  · rw [decide_eq_true hw] at cF
    have cP := fun W (h : Below w.heap.size w W) => LiteralP _ _ W (b0.below h) hw (tz _ h) (gz _ h)
    have cR := fun W (h : Below w.heap.size w W) => LiteralR _ _ W (b0.below h) hw s0
    generalize litA x0 = L at cP cR
    clear hA b0 s0 hT1 hT2
    go_enter Tryd.func3, Tryd.ntmps3
    go_wp2_with (go_at_call 7; (with_reducible refine cF.mono ?_); rintro e1 w1 ⟨rfl, b1⟩; (have L1 := Below.then bw b1); (have H0 : ∀ w', Below w1.heap.size w1 w' → (w'.cell? ⟨w.heap.size, 0, none⟩ = some c0 ∧ w'.cell? ⟨w.heap.size, 1, none⟩ = some c1 ∧ w'.cell? ⟨w.heap.size, 2, none⟩ = some c2 ∧ w'.cell? ⟨w.heap.size, 3, none⟩ = some c3) ∧ Below w1.heap.size w1 w' := fun w' h => ⟨by obtain ⟨y0, y1, y2, y3, -⟩ := ((q0.below b1).below h).cells; exact ⟨y0, y1, y2, y3⟩, h⟩))
    go_region_held3 (fun w' => (w'.cell? ⟨w.heap.size, 0, none⟩ = some c0 ∧ w'.cell? ⟨w.heap.size, 1, none⟩ = some c1 ∧ w'.cell? ⟨w.heap.size, 2, none⟩ = some c2 ∧ w'.cell? ⟨w.heap.size, 3, none⟩ = some c3) ∧ Below w1.heap.size w1 w')
      (first | exact H0 _ B3 | exact H0 _ B2 | exact H0 _ (Below.refl _ _).drew | go_keep)
      ((first
        | (go_at_call 9; (with_reducible refine (cP _ (Below.then L1 (by go_grown))).mono ?_); rintro e2 w2 ⟨rfl, b2⟩; (have B2 : Below w1.heap.size w1 w2 := Below.then (by go_grown) b2))
        | (go_at_call 10; (with_reducible refine (cR _ (Below.then L1 B2)).mono ?_); rintro e3 w3 ⟨rfl, b3⟩; (have B3 : Below w1.heap.size w1 w3 := Below.then B2 b3))
        | (go_at_call 8; (with_reducible refine (knowsQ _ (tz _ (Below.then L1 B3)) (gz _ (Below.then L1 B3))).mono ?_); rintro e4 w4 ⟨rfl, b4⟩; (have B4 : Below w1.heap.size w1 w4 := Below.then B3 b4))))
    all_goals go_wp2_with fail
    all_goals go_ret
    all_goals exact ⟨rfl, Below.then L1 B4⟩
  · rw [decide_eq_false hw] at cF
    clear hA b0 s0 hT1 hT2
    go_enter Tryd.func3, Tryd.ntmps3
    go_wp2_with (first
      | (go_at_call 7; (with_reducible refine cF.mono ?_); rintro e1 w1 ⟨rfl, b1⟩; (have L1 := Below.then bw b1))
      | (go_at_call 8; (with_reducible refine (knowsQ _ (tz _ L1) (gz _ L1)).mono ?_); rintro e4 w4 ⟨rfl, b4⟩; (have L4 := Below.then L1 b4)))
    go_ret
    exact ⟨rfl, L4⟩

theorem witness_row (os : Os) {H : Type} (enc : TypeId × Value → H) :
    (OpenSpec.ofChange Rows.formatLiteralsSpec).preRow enc Tryd.prog Tryd.f3 Rows.formatLiteralsRow.domain false Rows.formatLiteralsRow.laid ((laidWorld os).forCall (fun _ _ => 0) ⟨#[], #[.agg #[.int .i64 0, .slice none 0 0, .slice none 0 0, .slice none 0 0]], []⟩).memory #[.agg #[.int .i64 0, .slice none 0 0, .slice none 0 0, .slice none 0 0]] := by
  have hw : (DataW.whole enc Tryd.prog ((laidWorld os).forCall (fun _ _ => 0) ⟨#[], #[.agg #[.int .i64 0, .slice none 0 0, .slice none 0 0, .slice none 0 0]], []⟩).memory Tryd.f3.params.toList (OpenSpec.ofChange Rows.formatLiteralsSpec).vars false (#[.agg #[.int .i64 0, .slice none 0 0, .slice none 0 0, .slice none 0 0]] : Array Value).toList 8).map (fun x => (x.1, x.2.1)) = some ([.agg [.lit (.int .i64 0), .nil, .nil, .nil]], []) := by kernel_rfl
  obtain ⟨⟨x1, x2, x3⟩, hx, hx1⟩ := Option.map_eq_some_iff.1 hw
  simp only [Prod.mk.injEq] at hx1
  obtain ⟨rfl, rfl⟩ := hx1
  exact OpenSpec.preRow_of_cond 8 hx (by kernel_rfl) (fun k hk => by cases hk) (by kernel_rfl) (laid_met os _)

set_option maxRecDepth 100000 in
set_option maxHeartbeats 2000000 in
theorem lifted (os : Os) (started : os.Started) (H : Type) (enc : TypeId × Value → H) (F0 : Stop.Interp) :
    ReturnsInHanded {} Tryd.checked os 3 .any ((OpenSpec.ofChange Rows.formatLiteralsSpec).preRow enc Tryd.prog Tryd.f3 Rows.formatLiteralsRow.domain false Rows.formatLiteralsRow.laid) (((OpenSpec.ofChange Rows.formatLiteralsSpec).at F0).post enc Tryd.prog Tryd.f3 false true false false) := by
  refine returnsInHanded_of_row (C := Tryd.checked) (s := (OpenSpec.ofChange Rows.formatLiteralsSpec)) own started (by kernel_rfl) Tryd.func3
    (witness_row_atRef (enc := enc) (C := Tryd.checked) false (laidWorld os) #[.agg #[.int .i64 0, .slice none 0 0, .slice none 0 0, .slice none 0 0]] rfl (by kernel_rfl) (by kernel_rfl) (by kernel_rfl) (witness_row os enc)) ?_
  intro W base args ds gs before hval0 hW _ _ hsz0 hL _ _
  have hT : Tabs5 W := tabs_of hL
  have hsz : (DataW.weightsEach Tryd.prog (Tryd.f3.params.toList ++ (OpenSpec.ofChange Rows.formatLiteralsSpec).bare.plain.varTypes Tryd.prog) (ds ++ gs)).all (· ≤ reachBytes) = true := hsz0
  have hval : ∀ (j : Nat) t v, Tryd.f3.params[j]? = some t → args[j]? = some v → Value.okWide Tryd.prog W .any base t v := hval0
  have hW' := hW
  obtain ⟨p, q, hA0, hV, rfl, hfz, hnd⟩ := hW
  have hA : DataW.TrodAll enc Tryd.prog W 0 (fun _ => true) true Tryd.f3.params.toList args.toList ds p := hA0
  rw [Tryd.params3] at hA hval hsz
  obtain ⟨v0, vs0, d0, ds0, p0, q0, hargs, rfl, rfl, h0, r0⟩ := trodAll_cons hA
  obtain ⟨rfl, rfl, rfl⟩ := trodAll_nil r0
  obtain rfl : args = #[v0] := by cases args; simp_all
  obtain ⟨rfl, rfl⟩ := trodVars_none hV
  have k0 := h0
  have lt0 : ∀ x ∈ p0, x.block < W.heap.size := by obtain ⟨m, hm⟩ := k0; exact DataW.trod_lt m _ _ _ hm
  obtain ⟨x0, b0, z0⟩ := arr_open (hval 0 26 v0 rfl rfl) h0
  have s0 : Shape.Reach x0 := z0 (Sized.each hsz (j := 0) rfl rfl)
  clear hA0 hval0
  refine (walk v0 x0 W hT b0 s0).mono fun e W' ⟨he, bel⟩ => ?_
  subst he
  exact ⟨_, rfl, _, _, _, [], _, [], hW', trodAll_mk1 (shut_bool Tryd.underlying4 _), (trodAll_cons_mk (Below.trod laidOut (by kernel_rfl) (of_decide_eq_true (by kernel_rfl)) k0 bel lt0) trodAll_mk0), rfl, bel.frame _, fun h => by cases h⟩

theorem over : Rows.formatLiteralsRow.holds Tryd.pinned (OpenSpec.ofChange Rows.formatLiteralsSpec) :=
  OpenClaim.holds_of_cond 3 Tryd.f3 rfl rfl rfl rfl rfl rfl rfl ⟨rfl, rfl, rfl, rfl, rfl⟩ rfl rfl rfl rfl rfl (by kernel_rfl) Tryd.func3 (by kernel_rfl)
    (of_decide_eq_true (by kernel_rfl)) (by unfold Func.isWrapper; first | (rw [if_pos (by decide +kernel)]; kernel_rfl) | (rw [if_neg (by decide +kernel)]; exact ⟨rfl, rfl⟩))
    (fun os started H enc _ F0 => by rw [OpenClaim.pre_eq_preRow]; exact lifted os started H enc F0)

set_option maxRecDepth 100000 in
theorem plainParams : ∀ (f : FuncId) (fn : Func), Tryd.prog.funcNamed Rows.formatLiteralsRow.func = some f → Tryd.prog.funcs[f]? = some fn → false = Tryd.prog.looks [] ∧ ∀ (j : Nat) t, fn.params[j]? = some t → Tryd.prog.wantsStandIn t = false := by
  intro f fn hf hfn
  obtain rfl : f = 3 := Option.some.inj ((show Tryd.prog.funcNamed Rows.formatLiteralsRow.func = some 3 by kernel_rfl).symm.trans hf) |>.symm
  obtain rfl : fn = Tryd.f3 := (Option.some.inj (Tryd.func3.symm.trans hfn)).symm
  refine ⟨by kernel_rfl, fun j t ht => ?_⟩
  have hall : (Tryd.f3.params.toList.all fun t => !Tryd.prog.wantsStandIn t) = true := by kernel_rfl
  have hm : t ∈ Tryd.f3.params.toList := by
    rw [← Array.getElem?_toList] at ht
    exact List.mem_of_getElem? ht
  simpa using List.all_eq_true.1 hall t hm

theorem proved : Rows.FormatLiteralsCardSaid :=
  Claim7.holds_tied_plain_at .later [] [.data, .data, .data] true _ false over (fun _ h => by cases h) (by kernel_rfl) (fun _ h => by cases h) formatLiterals_row_tie rfl ⟨rfl, rfl⟩ (by kernel_rfl) rfl plainParams (by kernel_rfl)
end Go.Proofs.YtljgehammocpkaaDoor.formatLiteralsProof
