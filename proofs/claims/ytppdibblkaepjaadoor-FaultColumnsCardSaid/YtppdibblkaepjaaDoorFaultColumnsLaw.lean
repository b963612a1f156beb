/-
  The law arraylanglaw07.FaultColumns holds for every input: it returns true, and each argument reads afterwards as it read before. No condition.
-/
import Derived.Test.YtppdibblkaepjaaDoorFltOpen
import Derived.ProofKit
import Derived.OpenShut
namespace Go.Proofs.YtppdibblkaepjaaDoor.faultColumnsProof
open Go.ChangeShapes Go.WideShapes Go.ChangeAt Go.RowKit Go.Proofs.YtppdibblkaepjaaDoor.Shape Go.Proofs.YtppdibblkaepjaaDoor.Flt
open Go.WideMaps Go.WideElems
open Go.ChangeMaps (open_string shut_string)
set_option linter.unusedVariables false

set_option maxHeartbeats 1000000 in
theorem walk (a0 : ByteArray) (a1 : Int) (w : World) (hT : TabW w) (b0 : a0.size ≤ 9223372036854775807) (b1 : -9223372036854775808 ≤ a1 ∧ a1 ≤ 9223372036854775807) :
    Calls Tryd.prog 7 #[.string a0, .int .i64 a1] w fun e w' => e = .returned (.bool true) ∧ Below w.heap.size w w' := by
  by_cases h0 : 2000 < a0.size
  · clear b0
    go_enter Tryd.func7, Tryd.ntmps7
    go_wp2_with (go_at_call 10; (with_reducible refine (knowsL _ hT).mono ?_); rintro e w1 ⟨rfl, b1⟩)
    go_ret
    exact ⟨rfl, b1⟩
  · have hs : a0.size ≤ 4611686018427387903 := by omega
    have h1 : a0.size ≤ 2000 := by omega
    clear h0
    obtain ⟨KK, hK, hK1⟩ : ∃ KK, Hid (kS a0 a1 = KK) ∧ KK ≤ a0.size := ⟨_, rfl, kS_le a0 a1⟩
    have C1 := fun w => placeP a0 a1 hs w
    rw [hK.out] at C1
    have y1 := lc_bd a0 KK
    have hM := hid' (show (min (max a1 0) ↑a0.size) = (KK : Int) by have := hK.out; unfold kS at this; omega)
    clear hK
    go_enter Tryd.func7, Tryd.ntmps7
    go_wp2_with (go_at_call 11; (with_reducible refine (C1 _).mono ?_); rintro e w1 ⟨rfl, rfl⟩)
    go_loop [5, 7] (fun l i => ∃ k m : Nat, k ≤ KK ∧ i = .int .i64 k ∧ l = .int .i64 m ∧ 1 ≤ m ∧ Hid (m + lin a0 k = lin a0 KK + 1) ∧ Hid (m = 1 → col a0 k = 1)) (fun _ i => KK - (intOf i).toNat)
    case atStart => exact ⟨0, lin a0 KK, Nat.zero_le _, rfl, rfl, y1.1, by rw [lin_zero]; rfl, fun _ => col_zero a0⟩
    case round =>
      obtain ⟨k, m, hk, rfl, rfl, hm, hE, hC⟩ := hrel
      have y2 := lc_bd a0 k
      by_cases h2 : m = 1
      · subst h2
        have hfin := lin_end hk (by have := hE.out; omega) (hC.out rfl)
        have tt : (((k : Int) + (col a0 KK : Int) - 1) == min (max a1 0) (a0.size : Int)) = true := by rw [hM.out, beq_iff_eq]; omega
        clear hE hC hfin
        go_wp2_with (go_at_call 10; (with_reducible refine (knowsL _ hT).mono ?_); rintro e w1 ⟨rfl, b1⟩)
        go_ret
        exact ⟨rfl, b1⟩
      · have hlt : k < KK := by
          rcases Nat.lt_or_ge k KK with h | h
          · exact h
          · have : k = KK := by omega
            subst this
            have := hE.out
            omega
        have hlt2 : k < a0.size := by omega
        have ha := at_get hlt2
        have hm2 : 1 < m := by omega
        have hm3 : m ≤ 3000 := by have := hE.out; omega
        by_cases h10 : a0.data[k]!.toNat = 10
        · have e1 := lin_nl h10
          have e2 := col_nl h10
          have t1 : ((a0[k].toNat : Int) == 10) = true := by rw [← ha, h10]; rfl
          have R : Hid ((m - 1) + lin a0 (k + 1) = lin a0 KK + 1) := by have := hE.out; unfold Hid; omega
          have R2 : Hid (m - 1 = 1 → col a0 (k + 1) = 1) := fun _ => e2
          have em : ((m - 1 : Nat) : Int) = (m : Int) - 1 := by omega
          clear ha h10 e1 e2 hE hC
          go_wp2_with fail
          go_round
          case rel => exact ⟨k + 1, m - 1, by omega, by go_num, by rw [em], by omega, R, R2⟩
          case measure => simp [intOf]; omega
        · have e1 := lin_no h10
          have t1 : ((a0[k].toNat : Int) == 10) = false := by rw [← ha]; simp; omega
          have R : Hid (m + lin a0 (k + 1) = lin a0 KK + 1) := by have := hE.out; unfold Hid; omega
          have R2 : Hid (m = 1 → col a0 (k + 1) = 1) := fun g => absurd g h2
          clear ha h10 e1 hE hC
          go_wp2_with fail
          go_round
          case rel => exact ⟨k + 1, m, by omega, by go_num, rfl, hm, R, R2⟩
          case measure => simp [intOf]; omega

theorem witness_row (os : Os) {H : Type} (enc : TypeId × Value → H) :
    (OpenSpec.ofChange Rows.faultColumnsSpec).preRow enc Tryd.prog Tryd.f7 Rows.faultColumnsRow.domain false Rows.faultColumnsRow.laid ((laidWorld os).forCall (fun _ _ => 0) ⟨#[], #[.string ⟨#[]⟩, .int .i64 0], []⟩).memory #[.string ⟨#[]⟩, .int .i64 0] := by
  have hw : (DataW.whole enc Tryd.prog ((laidWorld os).forCall (fun _ _ => 0) ⟨#[], #[.string ⟨#[]⟩, .int .i64 0], []⟩).memory Tryd.f7.params.toList (OpenSpec.ofChange Rows.faultColumnsSpec).vars false (#[.string ⟨#[]⟩, .int .i64 0] : Array Value).toList 8).map (fun x => (x.1, x.2.1)) = some ([.lit (.string []), .lit (.int .i64 0)], []) := by kernel_rfl
  obtain ⟨⟨x1, x2, x3⟩, hx, hx1⟩ := Option.map_eq_some_iff.1 hw
  simp only [Prod.mk.injEq] at hx1
  obtain ⟨rfl, rfl⟩ := hx1
  exact OpenSpec.preRow_of_cond 8 hx (by kernel_rfl) (fun k hk => by cases hk) (by kernel_rfl) (laid_met os _)

set_option maxRecDepth 100000 in
set_option maxHeartbeats 2000000 in
theorem lifted (os : Os) (started : os.Started) (H : Type) (enc : TypeId × Value → H) (F0 : Stop.Interp) :
    ReturnsInHanded {} Tryd.checked os 7 .any ((OpenSpec.ofChange Rows.faultColumnsSpec).preRow enc Tryd.prog Tryd.f7 Rows.faultColumnsRow.domain false Rows.faultColumnsRow.laid) (((OpenSpec.ofChange Rows.faultColumnsSpec).at F0).post enc Tryd.prog Tryd.f7 false true false false) := by
  refine returnsInHanded_of_row (C := Tryd.checked) (s := (OpenSpec.ofChange Rows.faultColumnsSpec)) cardOwn started (by kernel_rfl) Tryd.func7
    (witness_row_atRef (enc := enc) (C := Tryd.checked) false (laidWorld os) #[.string ⟨#[]⟩, .int .i64 0] rfl (by kernel_rfl) (by kernel_rfl) (by kernel_rfl) (witness_row os enc)) ?_
  intro W base args ds gs before hval0 hW _ hcond _ hL _ _
  have hT : TabW W := tabs_of hL
  have hval : ∀ (j : Nat) t v, Tryd.f7.params[j]? = some t → args[j]? = some v → Value.okWide Tryd.prog W .any base t v := hval0
  have hW' := hW
  obtain ⟨p, q, hA0, hV, rfl, hfz, hnd⟩ := hW
  have hA : DataW.TrodAll enc Tryd.prog W 0 (fun _ => true) true Tryd.f7.params.toList args.toList ds p := hA0
  rw [Tryd.params7] at hA hval
  obtain ⟨v0, vs0, d0, ds0, p0, q0, hargs, rfl, rfl, h0, r0⟩ := trodAll_cons hA
  obtain ⟨v1, vs1, d1, ds1, p1, q1, rfl, rfl, rfl, h1, r1⟩ := trodAll_cons r0
  obtain ⟨rfl, rfl, rfl⟩ := trodAll_nil r1
  obtain rfl : args = #[v0, v1] := by cases args; simp_all
  obtain ⟨rfl, rfl⟩ := trodVars_none hV
  obtain ⟨a0, rfl, rfl, rfl, w0⟩ := open_string Tryd.underlying9 (hval 0 9 v0 rfl rfl) h0
  have b0 : a0.size ≤ 9223372036854775807 := by have := w0; unfold maxLen at this; omega
  obtain ⟨a1, rfl, rfl, rfl, w1⟩ := open_int Tryd.underlying3 (hval 1 3 v1 rfl rfl) h1
  have b1 : -9223372036854775808 ≤ a1 ∧ a1 ≤ 9223372036854775807 := by simpa [Lit.wf, IntKind.min, IntKind.max, IntKind.signed, IntKind.bits] using w1
  clear hA0 hval0
  refine (walk a0 a1 W hT b0 b1).mono fun e W' ⟨he, bel⟩ => ?_
  subst he
  exact ⟨_, rfl, _, _, _, [], _, [], hW', trodAll_mk1 (shut_bool Tryd.underlying4 _), (trodAll_cons_mk (shut_string Tryd.underlying9 w0) (trodAll_cons_mk (shut_int Tryd.underlying3 w1) trodAll_mk0)), rfl, bel.frame _, fun h => by cases h⟩

theorem over : Rows.faultColumnsRow.holds Tryd.pinned (OpenSpec.ofChange Rows.faultColumnsSpec) :=
  OpenClaim.holds_of_cond 7 Tryd.f7 rfl rfl rfl rfl rfl rfl rfl ⟨rfl, rfl, rfl, rfl, rfl⟩ rfl rfl rfl rfl rfl (by kernel_rfl) Tryd.func7 (by kernel_rfl)
    (of_decide_eq_true (by kernel_rfl)) (by unfold Func.isWrapper; first | (rw [if_pos (by decide +kernel)]; kernel_rfl) | (rw [if_neg (by decide +kernel)]; exact ⟨rfl, rfl⟩))
    (fun os started H enc _ F0 => by rw [OpenClaim.pre_eq_preRow]; exact lifted os started H enc F0)

set_option maxRecDepth 100000 in
theorem plainParams : ∀ (f : FuncId) (fn : Func), Tryd.prog.funcNamed Rows.faultColumnsRow.func = some f → Tryd.prog.funcs[f]? = some fn → false = Tryd.prog.looks [] ∧ ∀ (j : Nat) t, fn.params[j]? = some t → Tryd.prog.wantsStandIn t = false := by
  intro f fn hf hfn
  obtain rfl : f = 7 := Option.some.inj ((show Tryd.prog.funcNamed Rows.faultColumnsRow.func = some 7 by kernel_rfl).symm.trans hf) |>.symm
  obtain rfl : fn = Tryd.f7 := (Option.some.inj (Tryd.func7.symm.trans hfn)).symm
  refine ⟨by kernel_rfl, fun j t ht => ?_⟩
  have hall : (Tryd.f7.params.toList.all fun t => !Tryd.prog.wantsStandIn t) = true := by kernel_rfl
  have hm : t ∈ Tryd.f7.params.toList := by
    rw [← Array.getElem?_toList] at ht
    exact List.mem_of_getElem? ht
  simpa using List.all_eq_true.1 hall t hm

theorem proved : Rows.FaultColumnsCardSaid :=
  Claim7.holds_tied_plain_at .later [] _ _ _ _ over (fun _ h => by cases h) (by kernel_rfl) (fun _ h => by cases h) faultColumns_row_tie rfl ⟨rfl, rfl⟩ (by kernel_rfl) rfl plainParams (by kernel_rfl)
end Go.Proofs.YtppdibblkaepjaaDoor.faultColumnsProof
