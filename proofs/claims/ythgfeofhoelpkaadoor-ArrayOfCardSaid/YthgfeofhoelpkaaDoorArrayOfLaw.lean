/-
  The law arraylanglaw03.ArrayOf holds for every input: it returns true, and each argument reads afterwards as it read before. No condition.
-/
import Derived.Test.YthgfeofhoelpkaaDoorArrExample
import Derived.Test.YthgfeofhoelpkaaDoorArrCard
import Derived.Test.YthgfeofhoelpkaaDoorArrSelf
import Derived.Test.YthgfeofhoelpkaaDoorArrOpen
import Derived.SizedLaws
import Derived.Handy
import Derived.Deep.RegionHeld3
import Derived.ProofKit
import Derived.OpenShut
namespace Go.Proofs.YthgfeofhoelpkaaDoor.arrayOfProof
open Go.ChangeShapes Go.WideShapes Go.ChangeAt Go.RowKit Go.Proofs.YthgfeofhoelpkaaDoor.Shape
open Go.WideMaps Go.WideElems
open Go.ChangeMaps (open_string shut_string)
set_option linter.unusedVariables false

theorem own : ownKnob Tryd.prog.godebug = none := by kernel_rfl
theorem laidOut : laidOutB Tryd.prog = true := by kernel_rfl

set_option maxHeartbeats 1000000 in
theorem walk (a0 : Option Addr) (c0 : Nat) (x0 : List Int) (v1 : Value) (x1 : Arr) (w : World) (hT : Tabs w) (b0 : IntsAt w a0 c0 x0) (s0 : x0.length * 8 ≤ 140737488351232) (b1 : ArrAt w v1 x1) (s1 : Shape.Reach x1) :
    Calls Tryd.prog 8 #[.slice a0 x0.length c0, v1] w fun e w' => e = .returned (.bool true) ∧ Below w.heap.size w w' := by
  obtain ⟨k, sa, ls, sc, na, ln, nc, ia, li, ic, rfl⟩ : ∃ k sa ls sc na ln nc ia li ic, v1 = .agg #[.int .i64 k, .slice sa ls sc, .slice na ln nc, .slice ia li ic] := by
    have h := b1
    obtain ⟨k, sh, nu, it⟩ := x1
    rw [ArrAt] at h
    obtain ⟨sa, sc, na, nc, ia, ic, rfl, -⟩ := h
    exact ⟨_, _, _, _, _, _, _, _, _, _, rfl⟩
  have l0 := b0.len
  have bw := below_new w (.cells #[.int .i64 k, .slice sa ls sc, .slice na ln nc, .slice ia li ic] 26)
  have q0 := Quad.new w (.int .i64 k) (.slice sa ls sc) (.slice na ln nc) (.slice ia li ic)
  have hA := b1.below bw
  have hI := b0.below bw
  obtain ⟨AO, er, hAO⟩ : ∃ AO er, ofA x0 x1 = (AO, er) := ⟨_, _, rfl⟩
  have PO := fun a c (v : Value) w' g h => ofQ a c x0 v x1 w' g h s1
  have RO := fun a c (v : Value) w' g h => ofR a c x0 v x1 w' g h s1
  rw [hAO] at PO RO
  have DR := fun a c w' g => dimsR a c x0 w' g
  have HD : Hid (dimsE x0 = 0 → rightB x0 = true) := (dimsE_right x0).1
  generalize dimsE x0 = y at DR HD
  clear hAO
  obtain ⟨W0, hW⟩ : ∃ W0, W0 = w.alloc (.cells #[.int .i64 k, .slice sa ls sc, .slice na ln nc, .slice ia li ic] 26) := ⟨_, rfl⟩
  go_enter Tryd.func8, Tryd.ntmps8
  go_wp2_with fail
  go_at_call 11
  refine (smallR _ _ _ hA).mono ?_
  rintro e w1 ⟨b, rfl, b1'⟩
  rw [← hW] at bw q0 hA hI b1'
  clear hW
  have B1 : Below w.heap.size w w1 := Below.then bw b1'
  have TW := hT.below B1
  have hA1 := hA.below b1'
  have hI1 := hI.below b1'
  have q1 := q0.below b1'
  obtain ⟨p0, p1, p2, p3, -⟩ := q1.cells
  cases b with
  | false =>
    go_wp2_with (go_at_call 12; refine (exampleL _ TW).mono ?_; rintro e w2 ⟨rfl, b2⟩)
    go_ret
    exact ⟨rfl, Below.then B1 b2⟩
  | true =>
    by_cases h20 : 20 < x0.length
    · go_wp2_with (go_at_call 12; refine (exampleL _ TW).mono ?_; rintro e w2 ⟨rfl, b2⟩)
      go_ret
      exact ⟨rfl, Below.then B1 b2⟩
    · by_cases hy : y = 0
      · have hr := HD.out hy
        have hpr := part_bd (a := x0) (b := []) (by rw [List.append_nil]; exact hr)
        have hp0 : 0 ≤ pr x0 := hpr.1
        have CR := fun a c w' g => countR a c x0 w' g hr
        clear hpr
        subst hy
        by_cases hbig : 4000 < pr x0
        · go_wp2_with (first
            | (go_at_call 39; refine (DR _ _ _ hI1).mono ?_; rintro e w9 ⟨rfl, rfl⟩)
            | (go_at_call 40; refine (CR _ _ _ hI1).mono ?_; rintro e w9 ⟨rfl, rfl⟩)
            | (go_at_call 12; refine (exampleL _ TW).mono ?_; rintro e w2 ⟨rfl, b2⟩))
          go_ret
          exact ⟨rfl, Below.then B1 b2⟩
        · go_wp2_with (first
            | (go_at_call 39; refine (DR _ _ _ hI1).mono ?_; rintro e w9 ⟨rfl, rfl⟩)
            | (go_at_call 40; refine (CR _ _ _ hI1).mono ?_; rintro e w9 ⟨rfl, rfl⟩)
            | (go_at_call 41; refine (PO _ _ _ _ hI1 hA1).mono ?_; intro e w2 hN; (obtain ⟨k2, sa2, ls2, sc2, na2, ln2, nc2, ia2, li2, ic2, rfl, h2, b2⟩ := hN.form); (have b23 := Below.then b2 (below_new w2 (.cells #[.int .i64 k2, .slice sa2 ls2 sc2, .slice na2 ln2 nc2, .slice ia2 li2 ic2] 26))); (have q22 := Quad.new w2 (.int .i64 k2) (.slice sa2 ls2 sc2) (.slice na2 ln2 nc2) (.slice ia2 li2 ic2)); (have h22 := h2.below (below_new w2 (.cells #[.int .i64 k2, .slice sa2 ls2 sc2, .slice na2 ln2 nc2, .slice ia2 li2 ic2] 26))); (obtain ⟨r0, r1, r2, r3, -⟩ := (q1.below b23).cells))
            | (go_at_call 42; refine (RO _ _ _ _ (hI1.below b23) (hA1.below b23)).mono ?_; intro e w3 hN; (obtain ⟨k3, sa3, ls3, sc3, na3, ln3, nc3, ia3, li3, ic3, rfl, h3, b3⟩ := hN.form); (have b34 := Below.then b3 (below_new w3 (.cells #[.int .i64 k3, .slice sa3 ls3 sc3, .slice na3 ln3 nc3, .slice ia3 li3 ic3] 26))); (have h33 := h3.below (below_new w3 (.cells #[.int .i64 k3, .slice sa3 ls3 sc3, .slice na3 ln3 nc3, .slice ia3 li3 ic3] 26))); (obtain ⟨t0, t1, t2, t3, -⟩ := (q22.below b34).cells))
            | (go_at_call 22; refine (sameRX (h22.below b34) h33).mono ?_; rintro e w4 ⟨rfl, b4⟩)
            | (go_at_call 12; refine (exampleL _ (TW.below (Below.then (Below.then b23 b34) b4))).mono ?_; rintro e w5 ⟨rfl, b5⟩))
          go_ret
          exact ⟨rfl, Below.then (Below.then (Below.then (Below.then B1 b23) b34) b4) b5⟩
      · have e1 : (y == 0) = false := by simpa using hy
        clear hy
        go_wp2_with (first
          | (go_at_call 39; refine (DR _ _ _ hI1).mono ?_; rintro e w9 ⟨rfl, rfl⟩)
          | (go_at_call 41; refine (PO _ _ _ _ hI1 hA1).mono ?_; intro e w2 hN; (obtain ⟨k2, sa2, ls2, sc2, na2, ln2, nc2, ia2, li2, ic2, rfl, h2, b2⟩ := hN.form); (have b23 := Below.then b2 (below_new w2 (.cells #[.int .i64 k2, .slice sa2 ls2 sc2, .slice na2 ln2 nc2, .slice ia2 li2 ic2] 26))); (have q22 := Quad.new w2 (.int .i64 k2) (.slice sa2 ls2 sc2) (.slice na2 ln2 nc2) (.slice ia2 li2 ic2)); (have h22 := h2.below (below_new w2 (.cells #[.int .i64 k2, .slice sa2 ls2 sc2, .slice na2 ln2 nc2, .slice ia2 li2 ic2] 26))); (obtain ⟨r0, r1, r2, r3, -⟩ := (q1.below b23).cells))
          | (go_at_call 42; refine (RO _ _ _ _ (hI1.below b23) (hA1.below b23)).mono ?_; intro e w3 hN; (obtain ⟨k3, sa3, ls3, sc3, na3, ln3, nc3, ia3, li3, ic3, rfl, h3, b3⟩ := hN.form); (have b34 := Below.then b3 (below_new w3 (.cells #[.int .i64 k3, .slice sa3 ls3 sc3, .slice na3 ln3 nc3, .slice ia3 li3 ic3] 26))); (have h33 := h3.below (below_new w3 (.cells #[.int .i64 k3, .slice sa3 ls3 sc3, .slice na3 ln3 nc3, .slice ia3 li3 ic3] 26))); (obtain ⟨t0, t1, t2, t3, -⟩ := (q22.below b34).cells))
          | (go_at_call 22; refine (sameRX (h22.below b34) h33).mono ?_; rintro e w4 ⟨rfl, b4⟩)
          | (go_at_call 12; refine (exampleL _ (TW.below (Below.then (Below.then b23 b34) b4))).mono ?_; rintro e w5 ⟨rfl, b5⟩))
        go_ret
        exact ⟨rfl, Below.then (Below.then (Below.then (Below.then B1 b23) b34) b4) b5⟩

theorem witness_row (os : Os) {H : Type} (enc : TypeId × Value → H) :
    (OpenSpec.ofChange Rows.arrayOfSpec).preRow enc Tryd.prog Tryd.f8 Rows.arrayOfRow.domain false Rows.arrayOfRow.laid ((laidWorld os).forCall (fun _ _ => 0) ⟨#[], #[.slice none 0 0, .agg #[.int .i64 0, .slice none 0 0, .slice none 0 0, .slice none 0 0]], []⟩).memory #[.slice none 0 0, .agg #[.int .i64 0, .slice none 0 0, .slice none 0 0, .slice none 0 0]] := by
  have hw : (DataW.whole enc Tryd.prog ((laidWorld os).forCall (fun _ _ => 0) ⟨#[], #[.slice none 0 0, .agg #[.int .i64 0, .slice none 0 0, .slice none 0 0, .slice none 0 0]], []⟩).memory Tryd.f8.params.toList (OpenSpec.ofChange Rows.arrayOfSpec).vars false (#[.slice none 0 0, .agg #[.int .i64 0, .slice none 0 0, .slice none 0 0, .slice none 0 0]] : Array Value).toList 8).map (fun x => (x.1, x.2.1)) = some ([.nil, .agg [.lit (.int .i64 0), .nil, .nil, .nil]], []) := by kernel_rfl
  obtain ⟨⟨x1, x2, x3⟩, hx, hx1⟩ := Option.map_eq_some_iff.1 hw
  simp only [Prod.mk.injEq] at hx1
  obtain ⟨rfl, rfl⟩ := hx1
  exact OpenSpec.preRow_of_cond 8 hx (by kernel_rfl) (fun k hk => by cases hk) (by kernel_rfl) (laid_met os _)

set_option maxRecDepth 100000 in
set_option maxHeartbeats 2000000 in
theorem lifted (os : Os) (started : os.Started) (H : Type) (enc : TypeId × Value → H) (F0 : Stop.Interp) :
    ReturnsInHanded {} Tryd.checked os 8 .any ((OpenSpec.ofChange Rows.arrayOfSpec).preRow enc Tryd.prog Tryd.f8 Rows.arrayOfRow.domain false Rows.arrayOfRow.laid) (((OpenSpec.ofChange Rows.arrayOfSpec).at F0).post enc Tryd.prog Tryd.f8 false true false false) := by
  refine returnsInHanded_of_row (C := Tryd.checked) (s := (OpenSpec.ofChange Rows.arrayOfSpec)) own started (by kernel_rfl) Tryd.func8
    (witness_row_atRef (enc := enc) (C := Tryd.checked) false (laidWorld os) #[.slice none 0 0, .agg #[.int .i64 0, .slice none 0 0, .slice none 0 0, .slice none 0 0]] rfl (by kernel_rfl) (by kernel_rfl) (by kernel_rfl) (witness_row os enc)) ?_
  intro W base args ds gs before hval0 hW _ _ hsz0 hL _ _
  have hT : Tabs W := tabs_of hL
  have hsz : (DataW.weightsEach Tryd.prog (Tryd.f8.params.toList ++ (OpenSpec.ofChange Rows.arrayOfSpec).bare.plain.varTypes Tryd.prog) (ds ++ gs)).all (· ≤ reachBytes) = true := hsz0
  have hval : ∀ (j : Nat) t v, Tryd.f8.params[j]? = some t → args[j]? = some v → Value.okWide Tryd.prog W .any base t v := hval0
  have hW' := hW
  obtain ⟨p, q, hA0, hV, rfl, hfz, hnd⟩ := hW
  have hA : DataW.TrodAll enc Tryd.prog W 0 (fun _ => true) true Tryd.f8.params.toList args.toList ds p := hA0
  rw [Tryd.params8] at hA hval hsz
  obtain ⟨v0, vs0, d0, ds0, p0, q0, hargs, rfl, rfl, h0, r0⟩ := trodAll_cons hA
  obtain ⟨v1, vs1, d1, ds1, p1, q1, rfl, rfl, rfl, h1, r1⟩ := trodAll_cons r0
  obtain ⟨rfl, rfl, rfl⟩ := trodAll_nil r1
  obtain rfl : args = #[v0, v1] := by cases args; simp_all
  obtain ⟨rfl, rfl⟩ := trodVars_none hV
  have k0 := h0
  have lt0 : ∀ x ∈ p0, x.block < W.heap.size := by obtain ⟨m, hm⟩ := k0; exact DataW.trod_lt m _ _ _ hm
  obtain ⟨a0, c0, x0, rfl, b0, z0⟩ := ints_open_sized (hval 0 23 v0 rfl rfl) h0
  have s0 := z0 (Sized.each hsz (j := 0) rfl rfl)
  have k1 := h1
  have lt1 : ∀ x ∈ p1, x.block < W.heap.size := by obtain ⟨m, hm⟩ := k1; exact DataW.trod_lt m _ _ _ hm
  obtain ⟨x1, b1, z1⟩ := arr_open (hval 1 26 v1 rfl rfl) h1
  have s1 : Shape.Reach x1 := z1 (Sized.each hsz (j := 1) rfl rfl)
  clear hA0 hval0
  refine (walk a0 c0 x0 v1 x1 W hT b0 s0 b1 s1).mono fun e W' ⟨he, bel⟩ => ?_
  subst he
  exact ⟨_, rfl, _, _, _, [], _, [], hW', trodAll_mk1 (shut_bool Tryd.underlying4 _), (trodAll_cons_mk (Below.trod laidOut (by kernel_rfl) (of_decide_eq_true (by kernel_rfl)) k0 bel lt0) (trodAll_cons_mk (Below.trod laidOut (by kernel_rfl) (of_decide_eq_true (by kernel_rfl)) k1 bel lt1) trodAll_mk0)), rfl, bel.frame _, fun h => by cases h⟩

theorem over : Rows.arrayOfRow.holds Tryd.pinned (OpenSpec.ofChange Rows.arrayOfSpec) :=
  OpenClaim.holds_of_cond 8 Tryd.f8 rfl rfl rfl rfl rfl rfl rfl ⟨rfl, rfl, rfl, rfl, rfl⟩ rfl rfl rfl rfl rfl (by kernel_rfl) Tryd.func8 (by kernel_rfl)
    (of_decide_eq_true (by kernel_rfl)) (by unfold Func.isWrapper; first | (rw [if_pos (by decide +kernel)]; kernel_rfl) | (rw [if_neg (by decide +kernel)]; exact ⟨rfl, rfl⟩))
    (fun os started H enc _ F0 => by rw [OpenClaim.pre_eq_preRow]; exact lifted os started H enc F0)

set_option maxRecDepth 100000 in
theorem plainParams : ∀ (f : FuncId) (fn : Func), Tryd.prog.funcNamed Rows.arrayOfRow.func = some f → Tryd.prog.funcs[f]? = some fn → false = Tryd.prog.looks [] ∧ ∀ (j : Nat) t, fn.params[j]? = some t → Tryd.prog.wantsStandIn t = false := by
  intro f fn hf hfn
  obtain rfl : f = 8 := Option.some.inj ((show Tryd.prog.funcNamed Rows.arrayOfRow.func = some 8 by kernel_rfl).symm.trans hf) |>.symm
  obtain rfl : fn = Tryd.f8 := (Option.some.inj (Tryd.func8.symm.trans hfn)).symm
  refine ⟨by kernel_rfl, fun j t ht => ?_⟩
  have hall : (Tryd.f8.params.toList.all fun t => !Tryd.prog.wantsStandIn t) = true := by kernel_rfl
  have hm : t ∈ Tryd.f8.params.toList := by
    rw [← Array.getElem?_toList] at ht
    exact List.mem_of_getElem? ht
  simpa using List.all_eq_true.1 hall t hm

theorem proved : Rows.ArrayOfCardSaid :=
  Claim7.holds_tied_plain_at .later [] [.data, .pinned] true _ false over (fun _ h => by cases h) (by kernel_rfl) (fun _ h => by cases h) arrayOf_row_tie rfl ⟨rfl, rfl⟩ (by kernel_rfl) rfl plainParams (by kernel_rfl)
end Go.Proofs.YthgfeofhoelpkaaDoor.arrayOfProof
