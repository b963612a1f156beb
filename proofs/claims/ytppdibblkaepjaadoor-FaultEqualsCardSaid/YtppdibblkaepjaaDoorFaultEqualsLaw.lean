/-
  The law arraylanglaw07.FaultEquals holds for every input: it returns true, and each argument reads afterwards as it read before. No condition.
-/
import Derived.Test.YtppdibblkaepjaaDoorFltOpen
import Derived.ProofKit
import Derived.OpenShut
namespace Go.Proofs.YtppdibblkaepjaaDoor.faultEqualsProof
open Go.ChangeShapes Go.WideShapes Go.ChangeAt Go.RowKit Go.Proofs.YtppdibblkaepjaaDoor.Shape Go.Proofs.YtppdibblkaepjaaDoor.Flt
open Go.WideMaps Go.WideElems
open Go.ChangeMaps (open_string shut_string)
set_option linter.unusedVariables false

set_option maxHeartbeats 1000000 in
theorem walk (k0 n0 : Int) (la0 : Option Addr) (lc0 : Nat) (L0 : List Int) (ra0 : Option Addr) (rc0 : Nat) (R0 : List Int) (nm0 : ByteArray) (k1 n1 : Int) (la1 : Option Addr) (lc1 : Nat) (L1 : List Int) (ra1 : Option Addr) (rc1 : Nat) (R1 : List Int) (nm1 : ByteArray) (w : World) (hT : TabW w) (bL0 : IntsAt w la0 lc0 L0) (bR0 : IntsAt w ra0 rc0 R0) (bn0 : -9223372036854775808 ≤ n0 ∧ n0 ≤ 9223372036854775807) (bL1 : IntsAt w la1 lc1 L1) (bR1 : IntsAt w ra1 rc1 R1) (bn1 : -9223372036854775808 ≤ n1 ∧ n1 ≤ 9223372036854775807) :
    Calls Tryd.prog 6 #[fltV k0 n0 la0 L0.length lc0 ra0 R0.length rc0 nm0, fltV k1 n1 la1 L1.length lc1 ra1 R1.length rc1 nm1] w fun e w' => e = .returned (.bool true) ∧ Below w.heap.size w w' := by
  have bw := below_two w (.cells #[.int .i64 k0, .int .i64 n0, .slice la0 L0.length lc0, .slice ra0 R0.length rc0, .string nm0] 31) (.cells #[.int .i64 k1, .int .i64 n1, .slice la1 L1.length lc1, .slice ra1 R1.length rc1, .string nm1] 31)
  have f1 := (Five.new w (.int .i64 k0) (.int .i64 n0) (.slice la0 L0.length lc0) (.slice ra0 R0.length rc0) (.string nm0) 31).below (below_new _ (.cells #[.int .i64 k1, .int .i64 n1, .slice la1 L1.length lc1, .slice ra1 R1.length rc1, .string nm1] 31))
  have f2 := Five.new2 w (.cells #[.int .i64 k0, .int .i64 n0, .slice la0 L0.length lc0, .slice ra0 R0.length rc0, .string nm0] 31) (.int .i64 k1) (.int .i64 n1) (.slice la1 L1.length lc1) (.slice ra1 R1.length rc1) (.string nm1) 31
  have iL0 := bL0.below bw
  have iR0 := bR0.below bw
  have iL1 := bL1.below bw
  have iR1 := bR1.below bw
  have hTW := hT.below bw
  clear bL0 bR0 bL1 bR1 hT
  go_enter Tryd.func6, Tryd.ntmps6
  go_wp2_with fail
  generalize ((w.alloc (.cells #[.int .i64 k0, .int .i64 n0, .slice la0 L0.length lc0, .slice ra0 R0.length rc0, .string nm0] 31)).alloc (.cells #[.int .i64 k1, .int .i64 n1, .slice la1 L1.length lc1, .slice ra1 R1.length rc1, .string nm1] 31)) = W at *
  have C1 := fun w' (g : Below W.heap.size W w') => sameP k0 n0 k1 n1 L0 R0 L1 R1 nm0 nm1 la0 ra0 la1 ra1 lc0 rc0 lc1 rc1 w' (iL0.below g) (iR0.below g) (iL1.below g) (iR1.below g)
  have C2 := fun w' (g : Below W.heap.size W w') => sameRf k0 n0 k1 n1 L0 R0 L1 R1 nm0 nm1 la0 ra0 la1 ra1 lc0 rc0 lc1 rc1 w' (iL0.below g) (iR0.below g) (iL1.below g) (iR1.below g)
  have C3 := fun w' (g : Below W.heap.size W w') => sameP k0 n0 k0 n0 L0 R0 L0 R0 nm0 nm0 la0 ra0 la0 ra0 lc0 rc0 lc0 rc0 w' (iL0.below g) (iR0.below g) (iL0.below g) (iR0.below g)
  have C4 := fun w' (g : Below W.heap.size W w') => knowsL w' (hTW.below g)
  simp only [fsame_self] at C3
  have H0 : ∀ w', Below W.heap.size W w' → w'.cell? ⟨w.heap.size, 0, none⟩ = some (.int .i64 k0) ∧ w'.cell? ⟨w.heap.size, 1, none⟩ = some (.int .i64 n0) ∧ w'.cell? ⟨w.heap.size, 2, none⟩ = some (.slice la0 L0.length lc0) ∧ w'.cell? ⟨w.heap.size, 3, none⟩ = some (.slice ra0 R0.length rc0) ∧ w'.cell? ⟨w.heap.size, 4, none⟩ = some (.string nm0) ∧ w'.cell? ⟨w.heap.size + 1, 0, none⟩ = some (.int .i64 k1) ∧ w'.cell? ⟨w.heap.size + 1, 1, none⟩ = some (.int .i64 n1) ∧ w'.cell? ⟨w.heap.size + 1, 2, none⟩ = some (.slice la1 L1.length lc1) ∧ w'.cell? ⟨w.heap.size + 1, 3, none⟩ = some (.slice ra1 R1.length rc1) ∧ w'.cell? ⟨w.heap.size + 1, 4, none⟩ = some (.string nm1) ∧ Below W.heap.size W w' := fun w' g => ⟨(f1.below g).p0, (f1.below g).p1, (f1.below g).p2, (f1.below g).p3, (f1.below g).p4, (f2.below g).p0, (f2.below g).p1, (f2.below g).p2, (f2.below g).p3, (f2.below g).p4, g⟩
  generalize fsame k0 n0 L0 R0 nm0 k1 n1 L1 R1 nm1 = x at *
  clear iL0 iR0 iL1 iR1 hTW f1 f2
  have xx : (x == x) = true := by simp
  go_region_held3 (fun w' => w'.cell? ⟨w.heap.size, 0, none⟩ = some (.int .i64 k0) ∧ w'.cell? ⟨w.heap.size, 1, none⟩ = some (.int .i64 n0) ∧ w'.cell? ⟨w.heap.size, 2, none⟩ = some (.slice la0 L0.length lc0) ∧ w'.cell? ⟨w.heap.size, 3, none⟩ = some (.slice ra0 R0.length rc0) ∧ w'.cell? ⟨w.heap.size, 4, none⟩ = some (.string nm0) ∧ w'.cell? ⟨w.heap.size + 1, 0, none⟩ = some (.int .i64 k1) ∧ w'.cell? ⟨w.heap.size + 1, 1, none⟩ = some (.int .i64 n1) ∧ w'.cell? ⟨w.heap.size + 1, 2, none⟩ = some (.slice la1 L1.length lc1) ∧ w'.cell? ⟨w.heap.size + 1, 3, none⟩ = some (.slice ra1 R1.length rc1) ∧ w'.cell? ⟨w.heap.size + 1, 4, none⟩ = some (.string nm1) ∧ Below W.heap.size W w') (exact H0 _ (by go_grown))
    (first
      | (go_at_call 15; (with_reducible refine (C1 _ (by go_grown)).mono ?_); rintro e w1 ⟨rfl, b1⟩; (have e1 : Below W.heap.size W w1 := Below.then (by go_grown) b1); (have S1 := e1.size))
      | (go_at_call 16; (with_reducible refine (C2 _ (by go_grown)).mono ?_); rintro e w2 ⟨rfl, b2⟩; (have e2 : Below W.heap.size W w2 := Below.then (by go_grown) b2); (have S2 := e2.size))
      | (go_at_call 15; (with_reducible refine (C3 _ (by go_grown)).mono ?_); rintro e w3 ⟨rfl, b3⟩; (have e3 : Below W.heap.size W w3 := Below.then (by go_grown) b3); (have S3 := e3.size))
      | (go_at_call 10; (with_reducible refine (C4 _ (by go_grown)).mono ?_); rintro e w4 ⟨rfl, b4⟩; (have e4 : Below W.heap.size W w4 := Below.then (by go_grown) b4); (have S4 := e4.size)))
  all_goals (go_wp2_with fail; go_ret; exact ⟨rfl, Below.then bw (by go_grown)⟩)

theorem witness_row (os : Os) {H : Type} (enc : TypeId × Value → H) :
    (OpenSpec.ofChange Rows.faultEqualsSpec).preRow enc Tryd.prog Tryd.f6 Rows.faultEqualsRow.domain false Rows.faultEqualsRow.laid ((laidWorld os).forCall (fun _ _ => 0) ⟨#[], #[.agg #[.int .i64 0, .int .i64 0, .slice none 0 0, .slice none 0 0, .string ⟨#[]⟩], .agg #[.int .i64 0, .int .i64 0, .slice none 0 0, .slice none 0 0, .string ⟨#[]⟩]], []⟩).memory #[.agg #[.int .i64 0, .int .i64 0, .slice none 0 0, .slice none 0 0, .string ⟨#[]⟩], .agg #[.int .i64 0, .int .i64 0, .slice none 0 0, .slice none 0 0, .string ⟨#[]⟩]] := by
  have hw : (DataW.whole enc Tryd.prog ((laidWorld os).forCall (fun _ _ => 0) ⟨#[], #[.agg #[.int .i64 0, .int .i64 0, .slice none 0 0, .slice none 0 0, .string ⟨#[]⟩], .agg #[.int .i64 0, .int .i64 0, .slice none 0 0, .slice none 0 0, .string ⟨#[]⟩]], []⟩).memory Tryd.f6.params.toList (OpenSpec.ofChange Rows.faultEqualsSpec).vars false (#[.agg #[.int .i64 0, .int .i64 0, .slice none 0 0, .slice none 0 0, .string ⟨#[]⟩], .agg #[.int .i64 0, .int .i64 0, .slice none 0 0, .slice none 0 0, .string ⟨#[]⟩]] : Array Value).toList 8).map (fun x => (x.1, x.2.1)) = some ([.agg [.lit (.int .i64 0), .lit (.int .i64 0), .nil, .nil, .lit (.string [])], .agg [.lit (.int .i64 0), .lit (.int .i64 0), .nil, .nil, .lit (.string [])]], []) := by kernel_rfl
  obtain ⟨⟨x1, x2, x3⟩, hx, hx1⟩ := Option.map_eq_some_iff.1 hw
  simp only [Prod.mk.injEq] at hx1
  obtain ⟨rfl, rfl⟩ := hx1
  exact OpenSpec.preRow_of_cond 8 hx (by kernel_rfl) (fun k hk => by cases hk) (by kernel_rfl) (laid_met os _)

set_option maxRecDepth 100000 in
set_option maxHeartbeats 2000000 in
theorem lifted (os : Os) (started : os.Started) (H : Type) (enc : TypeId × Value → H) (F0 : Stop.Interp) :
    ReturnsInHanded {} Tryd.checked os 6 .any ((OpenSpec.ofChange Rows.faultEqualsSpec).preRow enc Tryd.prog Tryd.f6 Rows.faultEqualsRow.domain false Rows.faultEqualsRow.laid) (((OpenSpec.ofChange Rows.faultEqualsSpec).at F0).post enc Tryd.prog Tryd.f6 false true false false) := by
  refine returnsInHanded_of_row (C := Tryd.checked) (s := (OpenSpec.ofChange Rows.faultEqualsSpec)) cardOwn started (by kernel_rfl) Tryd.func6
    (witness_row_atRef (enc := enc) (C := Tryd.checked) false (laidWorld os) #[.agg #[.int .i64 0, .int .i64 0, .slice none 0 0, .slice none 0 0, .string ⟨#[]⟩], .agg #[.int .i64 0, .int .i64 0, .slice none 0 0, .slice none 0 0, .string ⟨#[]⟩]] rfl (by kernel_rfl) (by kernel_rfl) (by kernel_rfl) (witness_row os enc)) ?_
  intro W base args ds gs before hval0 hW _ hcond _ hL _ _
  have hT : TabW W := tabs_of hL
  have hval : ∀ (j : Nat) t v, Tryd.f6.params[j]? = some t → args[j]? = some v → Value.okWide Tryd.prog W .any base t v := hval0
  have hW' := hW
  obtain ⟨p, q, hA0, hV, rfl, hfz, hnd⟩ := hW
  have hA : DataW.TrodAll enc Tryd.prog W 0 (fun _ => true) true Tryd.f6.params.toList args.toList ds p := hA0
  rw [Tryd.params6] at hA hval
  obtain ⟨v0, vs0, d0, ds0, p0, q0, hargs, rfl, rfl, h0, r0⟩ := trodAll_cons hA
  obtain ⟨v1, vs1, d1, ds1, p1, q1, rfl, rfl, rfl, h1, r1⟩ := trodAll_cons r0
  obtain ⟨rfl, rfl, rfl⟩ := trodAll_nil r1
  obtain rfl : args = #[v0, v1] := by cases args; simp_all
  obtain ⟨rfl, rfl⟩ := trodVars_none hV
  have g0 := h0
  have lt0 : ∀ x ∈ p0, x.block < W.heap.size := by obtain ⟨m, hm⟩ := g0; exact DataW.trod_lt m _ _ _ hm
  obtain ⟨k0, n0, la0, lc0, L0, ra0, rc0, R0, nm0, rfl, bL0, bR0, bn0, -, x0, y0, z0⟩ := flt_open (hval 0 31 v0 rfl rfl) h0
  have g1 := h1
  have lt1 : ∀ x ∈ p1, x.block < W.heap.size := by obtain ⟨m, hm⟩ := g1; exact DataW.trod_lt m _ _ _ hm
  obtain ⟨k1, n1, la1, lc1, L1, ra1, rc1, R1, nm1, rfl, bL1, bR1, bn1, -, x1, y1, z1⟩ := flt_open (hval 1 31 v1 rfl rfl) h1
  clear hA0 hval0
  refine (walk k0 n0 la0 lc0 L0 ra0 rc0 R0 nm0 k1 n1 la1 lc1 L1 ra1 rc1 R1 nm1 W hT bL0 bR0 bn0 bL1 bR1 bn1).mono fun e W' ⟨he, bel⟩ => ?_
  subst he
  exact ⟨_, rfl, _, _, _, [], _, [], hW', trodAll_mk1 (shut_bool Tryd.underlying4 _), (trodAll_cons_mk (Below.trod laidOut (by kernel_rfl) (of_decide_eq_true (by kernel_rfl)) g0 bel lt0) (trodAll_cons_mk (Below.trod laidOut (by kernel_rfl) (of_decide_eq_true (by kernel_rfl)) g1 bel lt1) trodAll_mk0)), rfl, bel.frame _, fun h => by cases h⟩

theorem over : Rows.faultEqualsRow.holds Tryd.pinned (OpenSpec.ofChange Rows.faultEqualsSpec) :=
  OpenClaim.holds_of_cond 6 Tryd.f6 rfl rfl rfl rfl rfl rfl rfl ⟨rfl, rfl, rfl, rfl, rfl⟩ rfl rfl rfl rfl rfl (by kernel_rfl) Tryd.func6 (by kernel_rfl)
    (of_decide_eq_true (by kernel_rfl)) (by unfold Func.isWrapper; first | (rw [if_pos (by decide +kernel)]; kernel_rfl) | (rw [if_neg (by decide +kernel)]; exact ⟨rfl, rfl⟩))
    (fun os started H enc _ F0 => by rw [OpenClaim.pre_eq_preRow]; exact lifted os started H enc F0)

set_option maxRecDepth 100000 in
theorem plainParams : ∀ (f : FuncId) (fn : Func), Tryd.prog.funcNamed Rows.faultEqualsRow.func = some f → Tryd.prog.funcs[f]? = some fn → false = Tryd.prog.looks [] ∧ ∀ (j : Nat) t, fn.params[j]? = some t → Tryd.prog.wantsStandIn t = false := by
  intro f fn hf hfn
  obtain rfl : f = 6 := Option.some.inj ((show Tryd.prog.funcNamed Rows.faultEqualsRow.func = some 6 by kernel_rfl).symm.trans hf) |>.symm
  obtain rfl : fn = Tryd.f6 := (Option.some.inj (Tryd.func6.symm.trans hfn)).symm
  refine ⟨by kernel_rfl, fun j t ht => ?_⟩
  have hall : (Tryd.f6.params.toList.all fun t => !Tryd.prog.wantsStandIn t) = true := by kernel_rfl
  have hm : t ∈ Tryd.f6.params.toList := by
    rw [← Array.getElem?_toList] at ht
    exact List.mem_of_getElem? ht
  simpa using List.all_eq_true.1 hall t hm

theorem proved : Rows.FaultEqualsCardSaid :=
  Claim7.holds_tied_plain_at .later [] _ _ _ _ over (fun _ h => by cases h) (by kernel_rfl) (fun _ h => by cases h) faultEquals_row_tie rfl ⟨rfl, rfl⟩ (by kernel_rfl) rfl plainParams (by kernel_rfl)
end Go.Proofs.YtppdibblkaepjaaDoor.faultEqualsProof
