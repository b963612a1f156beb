/-
  The law arraylanglaw07.FaultShows holds for every input of bulk at most 1048576: it returns true, and each argument reads afterwards as it read before. The condition: the arguments hold together at most 1048576 values and letters ('uptoBulk').
-/
import Derived.Test.YtppdibblkaepjaaDoorFltOpen
import Derived.ProofKit
import Derived.OpenShut
namespace Go.Proofs.YtppdibblkaepjaaDoor.faultShowsProof
open Go.ChangeShapes Go.WideShapes Go.ChangeAt Go.RowKit Go.Proofs.YtppdibblkaepjaaDoor.Shape Go.Proofs.YtppdibblkaepjaaDoor.Flt
open Go.WideMaps Go.WideElems
open Go.ChangeMaps (open_string shut_string)
set_option linter.unusedVariables false

set_option maxHeartbeats 1000000 in
theorem walk (a0 : ByteArray) (k1 n1 : Int) (la1 : Option Addr) (lc1 : Nat) (L1 : List Int) (ra1 : Option Addr) (rc1 : Nat) (R1 : List Int) (nm1 : ByteArray) (w : World) (hT : TabW w) (b0 : a0.size ≤ 9223372036854775807) (bL1 : IntsAt w la1 lc1 L1) (bR1 : IntsAt w ra1 rc1 R1) (bn1 : -9223372036854775808 ≤ n1 ∧ n1 ≤ 9223372036854775807) (z1 : L1.length ≤ 2000000 ∧ R1.length ≤ 2000000 ∧ nm1.size ≤ 2000000) :
    Calls Tryd.prog 5 #[.string a0, fltV k1 n1 la1 L1.length lc1 ra1 R1.length rc1 nm1] w fun e w' => e = .returned (.bool true) ∧ Below w.heap.size w w' := by
  obtain ⟨z2, z3, z4⟩ := z1
  have bw := below_new w (.cells #[.int .i64 k1, .int .i64 n1, .slice la1 L1.length lc1, .slice ra1 R1.length rc1, .string nm1] 31)
  have hTW := hT.below bw
  by_cases h0 : 2000 < a0.size
  · clear b0
    go_enter Tryd.func5, Tryd.ntmps5
    go_wp2_with (go_at_call 10; (with_reducible refine (knowsL _ hTW).mono ?_); rintro e w1 ⟨rfl, b1⟩)
    go_ret
    exact ⟨rfl, Below.then bw b1⟩
  · have hs : a0.size ≤ 4611686018427387903 := by omega
    have h1 : a0.size ≤ 2000 := by omega
    clear h0
    have f1 := Five.new w (.int .i64 k1) (.int .i64 n1) (.slice la1 L1.length lc1) (.slice ra1 R1.length rc1) (.string nm1) 31
    have iL1 := bL1.below bw
    have iR1 := bR1.below bw
    clear bL1 bR1 hT
    go_enter Tryd.func5, Tryd.ntmps5
    go_wp2_with fail
    generalize (w.alloc (.cells #[.int .i64 k1, .int .i64 n1, .slice la1 L1.length lc1, .slice ra1 R1.length rc1, .string nm1] 31)) = W at *
    have C1 := fun w' (g : Below W.heap.size W w') => showP_any a0 nm1 k1 n1 L1 R1 la1 ra1 lc1 rc1 w' (hTW.below g) (iL1.below g) (iR1.below g) z2 z3 z4 bn1 hs
    have C2 := fun w' (g : Below W.heap.size W w') => showR_any a0 nm1 k1 n1 L1 R1 la1 ra1 lc1 rc1 w' (iL1.below g) (iR1.below g) z2 z3 z4 bn1 hs
    have C4 := fun w' (g : Below W.heap.size W w') => knowsL w' (hTW.below g)
    have H0 : ∀ w', Below W.heap.size W w' → w'.cell? ⟨w.heap.size, 0, none⟩ = some (.int .i64 k1) ∧ w'.cell? ⟨w.heap.size, 1, none⟩ = some (.int .i64 n1) ∧ w'.cell? ⟨w.heap.size, 2, none⟩ = some (.slice la1 L1.length lc1) ∧ w'.cell? ⟨w.heap.size, 3, none⟩ = some (.slice ra1 R1.length rc1) ∧ w'.cell? ⟨w.heap.size, 4, none⟩ = some (.string nm1) ∧ Below W.heap.size W w' := fun w' g => ⟨(f1.below g).p0, (f1.below g).p1, (f1.below g).p2, (f1.below g).p3, (f1.below g).p4, g⟩
    generalize showT a0 k1 n1 L1 R1 nm1 = X at *
    clear iL1 iR1 hTW f1
    go_region_held3 (fun w' => w'.cell? ⟨w.heap.size, 0, none⟩ = some (.int .i64 k1) ∧ w'.cell? ⟨w.heap.size, 1, none⟩ = some (.int .i64 n1) ∧ w'.cell? ⟨w.heap.size, 2, none⟩ = some (.slice la1 L1.length lc1) ∧ w'.cell? ⟨w.heap.size, 3, none⟩ = some (.slice ra1 R1.length rc1) ∧ w'.cell? ⟨w.heap.size, 4, none⟩ = some (.string nm1) ∧ Below W.heap.size W w') (exact H0 _ (by go_grown))
      (first
        | (go_at_call 13; (with_reducible refine (C1 _ (by go_grown)).mono ?_); rintro e w1 ⟨rfl, b1⟩; (have e1 : Below W.heap.size W w1 := Below.then (by go_grown) b1); (have S1 := e1.size))
        | (go_at_call 14; (with_reducible refine (C2 _ (by go_grown)).mono ?_); rintro e w2 ⟨rfl, b2⟩; (have e2 : Below W.heap.size W w2 := Below.then (by go_grown) b2); (have S2 := e2.size))
        | (go_at_call 10; (with_reducible refine (C4 _ (by go_grown)).mono ?_); rintro e w4 ⟨rfl, b4⟩; (have e4 : Below W.heap.size W w4 := Below.then (by go_grown) b4); (have S4 := e4.size)))
    all_goals (go_wp2_with fail; go_ret; exact ⟨rfl, Below.then bw (by go_grown)⟩)

theorem witness_row (os : Os) {H : Type} (enc : TypeId × Value → H) :
    (Rows.OpenSpec.upto Rows.faultShowsSpec).preRow enc Tryd.prog Tryd.f5 Rows.faultShowsUptoRow.domain false Rows.faultShowsUptoRow.laid ((laidWorld os).forCall (fun _ _ => 0) ⟨#[], #[.string ⟨#[]⟩, .agg #[.int .i64 0, .int .i64 0, .slice none 0 0, .slice none 0 0, .string ⟨#[]⟩]], []⟩).memory #[.string ⟨#[]⟩, .agg #[.int .i64 0, .int .i64 0, .slice none 0 0, .slice none 0 0, .string ⟨#[]⟩]] := by
  have hw : (DataW.whole enc Tryd.prog ((laidWorld os).forCall (fun _ _ => 0) ⟨#[], #[.string ⟨#[]⟩, .agg #[.int .i64 0, .int .i64 0, .slice none 0 0, .slice none 0 0, .string ⟨#[]⟩]], []⟩).memory Tryd.f5.params.toList (Rows.OpenSpec.upto Rows.faultShowsSpec).vars false (#[.string ⟨#[]⟩, .agg #[.int .i64 0, .int .i64 0, .slice none 0 0, .slice none 0 0, .string ⟨#[]⟩]] : Array Value).toList 8).map (fun x => (x.1, x.2.1)) = some ([.lit (.string []), .agg [.lit (.int .i64 0), .lit (.int .i64 0), .nil, .nil, .lit (.string [])]], []) := by kernel_rfl
  obtain ⟨⟨x1, x2, x3⟩, hx, hx1⟩ := Option.map_eq_some_iff.1 hw
  simp only [Prod.mk.injEq] at hx1
  obtain ⟨rfl, rfl⟩ := hx1
  exact OpenSpec.preRow_of_cond 8 hx (by kernel_rfl) (fun k hk => by cases hk; kernel_rfl) (by kernel_rfl) (laid_met os _)

set_option maxRecDepth 100000 in
set_option maxHeartbeats 2000000 in
theorem lifted (os : Os) (started : os.Started) (H : Type) (enc : TypeId × Value → H) (F0 : Stop.Interp) :
    ReturnsInHanded {} Tryd.checked os 5 .any ((Rows.OpenSpec.upto Rows.faultShowsSpec).preRow enc Tryd.prog Tryd.f5 Rows.faultShowsUptoRow.domain false Rows.faultShowsUptoRow.laid) (((Rows.OpenSpec.upto Rows.faultShowsSpec).at F0).post enc Tryd.prog Tryd.f5 false true false false) := by
  refine returnsInHanded_of_row (C := Tryd.checked) (s := (Rows.OpenSpec.upto Rows.faultShowsSpec)) cardOwn started (by kernel_rfl) Tryd.func5
    (witness_row_atRef (enc := enc) (C := Tryd.checked) false (laidWorld os) #[.string ⟨#[]⟩, .agg #[.int .i64 0, .int .i64 0, .slice none 0 0, .slice none 0 0, .string ⟨#[]⟩]] rfl (by kernel_rfl) (by kernel_rfl) (by kernel_rfl) (witness_row os enc)) ?_
  intro W base args ds gs before hval0 hW _ hcond _ hL _ _
  have hT : TabW W := tabs_of hL
  have hval : ∀ (j : Nat) t v, Tryd.f5.params[j]? = some t → args[j]? = some v → Value.okWide Tryd.prog W .any base t v := hval0
  have hW' := hW
  obtain ⟨p, q, hA0, hV, rfl, hfz, hnd⟩ := hW
  have hbulk := of_decide_eq_true (hcond _ rfl)
  have hA : DataW.TrodAll enc Tryd.prog W 0 (fun _ => true) true Tryd.f5.params.toList args.toList ds p := hA0
  rw [Tryd.params5] at hA hval
  obtain ⟨v0, vs0, d0, ds0, p0, q0, hargs, rfl, rfl, h0, r0⟩ := trodAll_cons hA
  obtain ⟨v1, vs1, d1, ds1, p1, q1, rfl, rfl, rfl, h1, r1⟩ := trodAll_cons r0
  obtain ⟨rfl, rfl, rfl⟩ := trodAll_nil r1
  obtain rfl : args = #[v0, v1] := by cases args; simp_all
  obtain ⟨rfl, rfl⟩ := trodVars_none hV
  obtain ⟨a0, rfl, rfl, rfl, w0⟩ := open_string Tryd.underlying9 (hval 0 9 v0 rfl rfl) h0
  have b0 : a0.size ≤ 9223372036854775807 := by have := w0; unfold maxLen at this; omega
  have q1 : Rows.uptoBulk d1 ≤ 1048576 := Nat.le_trans (bulk_part (by simp)) hbulk
  have g1 := h1
  have lt1 : ∀ x ∈ p1, x.block < W.heap.size := by obtain ⟨m, hm⟩ := g1; exact DataW.trod_lt m _ _ _ hm
  obtain ⟨k1, n1, la1, lc1, L1, ra1, rc1, R1, nm1, rfl, bL1, bR1, bn1, -, x1, y1, z1⟩ := flt_open (hval 1 31 v1 rfl rfl) h1
  clear hA0 hval0
  refine (walk a0 k1 n1 la1 lc1 L1 ra1 rc1 R1 nm1 W hT b0 bL1 bR1 bn1 ⟨by omega, by omega, by omega⟩).mono fun e W' ⟨he, bel⟩ => ?_
  subst he
  exact ⟨_, rfl, _, _, _, [], _, [], hW', trodAll_mk1 (shut_bool Tryd.underlying4 _), (trodAll_cons_mk (shut_string Tryd.underlying9 w0) (trodAll_cons_mk (Below.trod laidOut (by kernel_rfl) (of_decide_eq_true (by kernel_rfl)) g1 bel lt1) trodAll_mk0)), rfl, bel.frame _, fun h => by cases h⟩

theorem over : Rows.faultShowsUptoRow.holds Tryd.pinned (Rows.OpenSpec.upto Rows.faultShowsSpec) :=
  OpenClaim.holds_of_cond 5 Tryd.f5 rfl rfl rfl rfl rfl rfl rfl ⟨rfl, rfl, rfl, rfl, rfl⟩ rfl rfl rfl rfl rfl (by kernel_rfl) Tryd.func5 (by kernel_rfl)
    (of_decide_eq_true (by kernel_rfl)) (by unfold Func.isWrapper; first | (rw [if_pos (by decide +kernel)]; kernel_rfl) | (rw [if_neg (by decide +kernel)]; exact ⟨rfl, rfl⟩))
    (fun os started H enc _ F0 => by rw [OpenClaim.pre_eq_preRow]; exact lifted os started H enc F0)

set_option maxRecDepth 100000 in
theorem plainParams : ∀ (f : FuncId) (fn : Func), Tryd.prog.funcNamed Rows.faultShowsUptoRow.func = some f → Tryd.prog.funcs[f]? = some fn → false = Tryd.prog.looks [] ∧ ∀ (j : Nat) t, fn.params[j]? = some t → Tryd.prog.wantsStandIn t = false := by
  intro f fn hf hfn
  obtain rfl : f = 5 := Option.some.inj ((show Tryd.prog.funcNamed Rows.faultShowsUptoRow.func = some 5 by kernel_rfl).symm.trans hf) |>.symm
  obtain rfl : fn = Tryd.f5 := (Option.some.inj (Tryd.func5.symm.trans hfn)).symm
  refine ⟨by kernel_rfl, fun j t ht => ?_⟩
  have hall : (Tryd.f5.params.toList.all fun t => !Tryd.prog.wantsStandIn t) = true := by kernel_rfl
  have hm : t ∈ Tryd.f5.params.toList := by
    rw [← Array.getElem?_toList] at ht
    exact List.mem_of_getElem? ht
  simpa using List.all_eq_true.1 hall t hm

theorem proved : Rows.FaultShowsUptoCardSaid :=
  Claim7.holds_tied_plain_at .later [] _ _ _ _ over (fun _ h => by cases h) (by kernel_rfl) (fun _ h => by cases h) faultShowsUpto_row_tie rfl ⟨rfl, rfl⟩ (by kernel_rfl) rfl plainParams (by kernel_rfl)
end Go.Proofs.YtppdibblkaepjaaDoor.faultShowsProof
