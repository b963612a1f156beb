/-
  The law arraylanglaw03.ArrayConstructors holds for every input: it returns true, and each argument reads afterwards as it read before. No condition.
-/
import Derived.Test.YthgfeofhoelpkaaDoorArrExample
import Derived.Test.YthgfeofhoelpkaaDoorArrCard
import Derived.Test.YthgfeofhoelpkaaDoorArrSelf
import Derived.Test.YthgfeofhoelpkaaDoorArrText
import Derived.Test.YthgfeofhoelpkaaDoorArrOpen
import Derived.SizedLaws
import Derived.Handy
import Derived.Deep.RegionHeld3
import Derived.ProofKit
import Derived.OpenShut
namespace Go.Proofs.YthgfeofhoelpkaaDoor.arrayConstructorsProof
open Go.ChangeShapes Go.WideShapes Go.ChangeAt Go.RowKit Go.Proofs.YthgfeofhoelpkaaDoor.Shape
open Go.WideMaps Go.WideElems
open Go.ChangeMaps (open_string shut_string)
set_option linter.unusedVariables false

theorem own : ownKnob Tryd.prog.godebug = none := by kernel_rfl
theorem laidOut : laidOutB Tryd.prog = true := by kernel_rfl

set_option maxHeartbeats 1000000 in
theorem walk (a0 : Option Addr) (c0 : Nat) (x0 : List Int) (a1 : ByteArray) (a2 : Option Addr) (c2 : Nat) (x2 : List Arr) (m2 o2 : Nat) (w : World) (hT : Tabs w) (b0 : IntsAt w a0 c0 x0) (s0 : x0.length * 8 ≤ 140737488351232) (b1 : a1.size ≤ 9223372036854775807) (b2 : x2.length ≤ c2 ∧ c2 ≤ 9223372036854775807 ∧ (x2 ≠ [] → a2 = some ⟨m2, o2, none⟩) ∧ ArrsAt w m2 o2 x2) (s2 : x2.length * 80 ≤ 140737488351232 ∧ Shape.ReachL x2) :
    Calls Tryd.prog 6 #[.slice a0 x0.length c0, .string a1, .slice a2 x2.length c2] w fun e w' => e = .returned (.bool true) ∧ Below w.heap.size w w' := by
  obtain ⟨q1, q2, q3, q4⟩ := b2
  obtain ⟨r1, r2⟩ := s2
  have l0 := b0.len
  by_cases h0 : 2000 < x0.length
  · go_enter Tryd.func6, Tryd.ntmps6
    go_wp2_with (go_at_call 12; refine (exampleL _ hT).mono ?_; rintro e wX ⟨rfl, bX⟩)
    go_ret
    exact ⟨rfl, bX⟩
  · by_cases h1 : 2000 < a1.size
    · go_enter Tryd.func6, Tryd.ntmps6
      go_wp2_with (go_at_call 12; refine (exampleL _ hT).mono ?_; rintro e wX ⟨rfl, bX⟩)
      go_ret
      exact ⟨rfl, bX⟩
    · have h1' : a1.size ≤ 1000000 := by omega
      go_enter Tryd.func6, Tryd.ntmps6
      go_wp2_with fail
      go_at_call 24
      refine (smallListR _ _ _ _ _ _ q1 q2 q3 q4).mono ?_
      rintro e w1 ⟨b, rfl, B1⟩
      have T1 := hT.below B1
      cases b with
      | false =>
        go_wp2_with (go_at_call 12; refine (exampleL _ T1).mono ?_; rintro e wX ⟨rfl, bX⟩)
        go_ret
        exact ⟨rfl, Below.then B1 bX⟩
      | true =>
        go_wp2_with fail
        go_loopw [7] (fun i wr => ∃ j : Nat, j ≤ x0.length ∧ i = .int .i64 j ∧ Below w1.heap.size w1 wr) (fun i _ => x0.length - (intOf i).toNat)
        case atStart => exact ⟨0, Nat.zero_le _, rfl, Below.refl _ _⟩
        case round =>
          obtain ⟨j, hj, rfl, hb⟩ := hrel
          have hBW := Below.then B1 hb
          by_cases hlt : j < x0.length
          · obtain ⟨bb, off, hi, hc⟩ := (b0.below hBW).at hlt
            have hbd := b0.bd hlt
            have HC : ∀ w', Below wr.heap.size wr w' → w'.cell? ⟨bb, off + j, none⟩ = some (.int .i64 x0[j]) ∧ Below wr.heap.size wr w' := fun w' h => ⟨(h.cell (cell_lt hc)).trans hc, h⟩
            generalize x0[j] = y at hc hbd HC
            go_wp2_with fail
            go_region_held3 (fun w' => w'.cell? ⟨bb, off + j, none⟩ = some (.int .i64 y) ∧ Below wr.heap.size wr w')
              (first | exact HC _ (by go_grown) | go_keep)
              ((first
              | (go_at_call 25; (with_reducible refine (scalarQ _ _ hbd).mono ?_); intro e w2 hN; (obtain ⟨k2, sa2, ls2, sc2, na2, ln2, nc2, ia2, li2, ic2, rfl, h2, b2⟩ := hN.form); (have E2 : Below wr.heap.size wr w2 := Below.then (by go_grown) b2); (have S2 := E2.size))
              | (go_at_call 26; (with_reducible refine (scalarR _ _ hbd).mono ?_); intro e w3 hN; (obtain ⟨k3, sa3, ls3, sc3, na3, ln3, nc3, ia3, li3, ic3, rfl, h3, b3⟩ := hN.form); (have E3 : Below wr.heap.size wr w3 := Below.then (by go_grown) b3); (have S3 := E3.size))
              | (go_at_call 22; (with_reducible refine (sameRX (h2.below (by go_grown)) (h3.at.below (by go_grown))).mono ?_); rintro e w4 ⟨rfl, b4⟩; (have E4 : Below wr.heap.size wr w4 := Below.then (by go_grown) b4); (have S4 := E4.size))))
            all_goals go_wp2_with fail
            all_goals first
              | (refine ⟨⟨j + 1, by omega, by go_num, Below.then hb E4⟩, ?_⟩; simp [intOf]; omega)
              | (go_roundw; first | exact ⟨j + 1, by omega, by go_num, Below.then hb E4⟩ | (simp [intOf]; omega))
          · go_wp2_with fail
            go_loopw [8] (fun i wq => ∃ j : Nat, j ≤ x2.length ∧ i = .int .i64 j ∧ Below wr.heap.size wr wq) (fun i _ => x2.length - (intOf i).toNat)
            case atStart => exact ⟨0, Nat.zero_le _, rfl, Below.refl _ _⟩
            case round =>
              obtain ⟨j2, hj2, rfl, hb2⟩ := hrel
              have hBQ := Below.then hBW hb2
              by_cases hlt2 : j2 < x2.length
              · have hix := items_at (n := x2.length) (ic := c2) rfl q3 hlt2
                obtain ⟨d0, d1, d2, d3, ⟨g0, g1, g2, g3⟩, hB⟩ := (ArrsAt.below hBQ q4).at hlt2
                have hRI := r2.at hlt2
                have HC : ∀ w', Below wr.heap.size wr w' → (w'.cell? ⟨m2, o2 + j2 * 4, none⟩ = some d0 ∧ w'.cell? ⟨m2, o2 + j2 * 4 + 1, none⟩ = some d1 ∧ w'.cell? ⟨m2, o2 + j2 * 4 + 2, none⟩ = some d2 ∧ w'.cell? ⟨m2, o2 + j2 * 4 + 3, none⟩ = some d3) ∧ Below wr.heap.size wr w' :=
                  fun w' h => ⟨⟨(h.cell (cell_lt g0)).trans g0, (h.cell (cell_lt g1)).trans g1, (h.cell (cell_lt g2)).trans g2, (h.cell (cell_lt g3)).trans g3⟩, h⟩
                generalize x2[j2] = Y at hB hRI
                go_wp2_with fail
                go_region_held3 (fun w' => (w'.cell? ⟨m2, o2 + j2 * 4, none⟩ = some d0 ∧ w'.cell? ⟨m2, o2 + j2 * 4 + 1, none⟩ = some d1 ∧ w'.cell? ⟨m2, o2 + j2 * 4 + 2, none⟩ = some d2 ∧ w'.cell? ⟨m2, o2 + j2 * 4 + 3, none⟩ = some d3) ∧ Below wr.heap.size wr w')
                  (first | exact HC _ (by go_grown) | go_keep)
                  ((first
                  | (go_at_call 27; (with_reducible refine (boxQ _ _ _ (hB.below (by go_grown)) hRI).mono ?_); intro e w5 hN; (obtain ⟨k5, sa5, ls5, sc5, na5, ln5, nc5, ia5, li5, ic5, rfl, h5, b5⟩ := hN.form); (have E5 : Below wr.heap.size wr w5 := Below.then (by go_grown) b5); (have S5 := E5.size))
                  | (go_at_call 28; (with_reducible refine (boxR _ _ _ (hB.below (by go_grown)) hRI).mono ?_); intro e w6 hN; (obtain ⟨k6, sa6, ls6, sc6, na6, ln6, nc6, ia6, li6, ic6, rfl, h6, b6⟩ := hN.form); (have E6 : Below wr.heap.size wr w6 := Below.then (by go_grown) b6); (have S6 := E6.size))
                  | (go_at_call 22; (with_reducible refine (sameRX (h5.below (by go_grown)) (h6.at.below (by go_grown))).mono ?_); rintro e w7 ⟨rfl, b7⟩; (have E7 : Below wr.heap.size wr w7 := Below.then (by go_grown) b7); (have S7 := E7.size))))
                all_goals go_wp2_with fail
                all_goals first
                  | (refine ⟨⟨j2 + 1, by omega, by go_num, Below.then hb2 E7⟩, ?_⟩; simp [intOf]; omega)
                  | (go_roundw; first | exact ⟨j2 + 1, by omega, by go_num, Below.then hb2 E7⟩ | (simp [intOf]; omega))
              · have TQ := hT.below hBQ
                have bI := b0.below hBQ
                have bA := ArrsAt.below hBQ q4
                go_wp2_with (first
                  | (go_at_call 29; refine (vectorQ _ _ _ _ bI s0).mono ?_; intro e w2 hN; (obtain ⟨k2, sa2, ls2, sc2, na2, ln2, nc2, ia2, li2, ic2, rfl, h2, b2'⟩ := hN.form))
                  | (go_at_call 30; refine (vectorR _ _ _ _ (bI.below b2') s0).mono ?_; intro e w3 hN; (obtain ⟨k3, sa3, ls3, sc3, na3, ln3, nc3, ia3, li3, ic3, rfl, h3, b3'⟩ := hN.form))
                  | (go_at_call 22; (with_reducible refine (sameRX (h2.below b3') h3.at).mono ?_); rintro e w4 ⟨rfl, b4'⟩; (have b24 := Below.then (Below.then b2' b3') b4'))
                  | (go_at_call 31; refine (textQ _ _ h1' (TQ.below b24)).mono ?_; intro e w5 hN; (obtain ⟨k5, sa5, ls5, sc5, na5, ln5, nc5, ia5, li5, ic5, rfl, h5, b5'⟩ := hN.form))
                  | (go_at_call 32; refine (textR _ _ h1').mono ?_; intro e w6 hN; (obtain ⟨k6, sa6, ls6, sc6, na6, ln6, nc6, ia6, li6, ic6, rfl, h6, b6'⟩ := hN.form))
                  | (go_at_call 22; (with_reducible refine (sameRX (h5.below b6') h6.at).mono ?_); rintro e w7 ⟨rfl, b7'⟩; (have b27 := Below.then (Below.then (Below.then b24 b5') b6') b7'))
                  | (go_at_call 33; refine (boxesQ _ _ _ _ m2 o2 q1 q2 q3 (ArrsAt.below b27 bA) r1 r2).mono ?_; intro e w8 hN; (obtain ⟨k8, sa8, ls8, sc8, na8, ln8, nc8, ia8, li8, ic8, rfl, h8, b8'⟩ := hN.form))
                  | (go_at_call 34; refine (boxesR _ _ _ _ m2 o2 q1 q2 q3 (ArrsAt.below (Below.then b27 b8') bA) r1 r2).mono ?_; intro e w9 hN; (obtain ⟨k9, sa9, ls9, sc9, na9, ln9, nc9, ia9, li9, ic9, rfl, h9, b9'⟩ := hN.form))
                  | (go_at_call 22; (with_reducible refine (sameRX (h8.below b9') h9.at).mono ?_); rintro e w10 ⟨rfl, b10'⟩; (have b210 := Below.then (Below.then (Below.then b27 b8') b9') b10'))
                  | (go_at_call 12; refine (exampleL _ (TQ.below b210)).mono ?_; rintro e w11 ⟨rfl, b11'⟩))
                go_ret
                exact ⟨rfl, Below.then (Below.then hBQ b210) b11'⟩

theorem witness_row (os : Os) {H : Type} (enc : TypeId × Value → H) :
    (OpenSpec.ofChange Rows.arrayConstructorsSpec).preRow enc Tryd.prog Tryd.f6 Rows.arrayConstructorsRow.domain false Rows.arrayConstructorsRow.laid ((laidWorld os).forCall (fun _ _ => 0) ⟨#[], #[.slice none 0 0, .string ⟨#[]⟩, .slice none 0 0], []⟩).memory #[.slice none 0 0, .string ⟨#[]⟩, .slice none 0 0] := by
  have hw : (DataW.whole enc Tryd.prog ((laidWorld os).forCall (fun _ _ => 0) ⟨#[], #[.slice none 0 0, .string ⟨#[]⟩, .slice none 0 0], []⟩).memory Tryd.f6.params.toList (OpenSpec.ofChange Rows.arrayConstructorsSpec).vars false (#[.slice none 0 0, .string ⟨#[]⟩, .slice none 0 0] : Array Value).toList 8).map (fun x => (x.1, x.2.1)) = some ([.nil, .lit (.string []), .nil], []) := by kernel_rfl
  obtain ⟨⟨x1, x2, x3⟩, hx, hx1⟩ := Option.map_eq_some_iff.1 hw
  simp only [Prod.mk.injEq] at hx1
  obtain ⟨rfl, rfl⟩ := hx1
  exact OpenSpec.preRow_of_cond 8 hx (by kernel_rfl) (fun k hk => by cases hk) (by kernel_rfl) (laid_met os _)

set_option maxRecDepth 100000 in
set_option maxHeartbeats 2000000 in
theorem lifted (os : Os) (started : os.Started) (H : Type) (enc : TypeId × Value → H) (F0 : Stop.Interp) :
    ReturnsInHanded {} Tryd.checked os 6 .any ((OpenSpec.ofChange Rows.arrayConstructorsSpec).preRow enc Tryd.prog Tryd.f6 Rows.arrayConstructorsRow.domain false Rows.arrayConstructorsRow.laid) (((OpenSpec.ofChange Rows.arrayConstructorsSpec).at F0).post enc Tryd.prog Tryd.f6 false true false false) := by
  refine returnsInHanded_of_row (C := Tryd.checked) (s := (OpenSpec.ofChange Rows.arrayConstructorsSpec)) own started (by kernel_rfl) Tryd.func6
    (witness_row_atRef (enc := enc) (C := Tryd.checked) false (laidWorld os) #[.slice none 0 0, .string ⟨#[]⟩, .slice none 0 0] rfl (by kernel_rfl) (by kernel_rfl) (by kernel_rfl) (witness_row os enc)) ?_
  intro W base args ds gs before hval0 hW _ _ hsz0 hL _ _
  have hT : Tabs W := tabs_of hL
  have hsz : (DataW.weightsEach Tryd.prog (Tryd.f6.params.toList ++ (OpenSpec.ofChange Rows.arrayConstructorsSpec).bare.plain.varTypes Tryd.prog) (ds ++ gs)).all (· ≤ reachBytes) = true := hsz0
  have hval : ∀ (j : Nat) t v, Tryd.f6.params[j]? = some t → args[j]? = some v → Value.okWide Tryd.prog W .any base t v := hval0
  have hW' := hW
  obtain ⟨p, q, hA0, hV, rfl, hfz, hnd⟩ := hW
  have hA : DataW.TrodAll enc Tryd.prog W 0 (fun _ => true) true Tryd.f6.params.toList args.toList ds p := hA0
  rw [Tryd.params6] at hA hval hsz
  obtain ⟨v0, vs0, d0, ds0, p0, q0, hargs, rfl, rfl, h0, r0⟩ := trodAll_cons hA
  obtain ⟨v1, vs1, d1, ds1, p1, q1, rfl, rfl, rfl, h1, r1⟩ := trodAll_cons r0
  obtain ⟨v2, vs2, d2, ds2, p2, q2, rfl, rfl, rfl, h2, r2⟩ := trodAll_cons r1
  obtain ⟨rfl, rfl, rfl⟩ := trodAll_nil r2
  obtain rfl : args = #[v0, v1, v2] := by cases args; simp_all
  obtain ⟨rfl, rfl⟩ := trodVars_none hV
  have k0 := h0
  have lt0 : ∀ x ∈ p0, x.block < W.heap.size := by obtain ⟨m, hm⟩ := k0; exact DataW.trod_lt m _ _ _ hm
  obtain ⟨a0, c0, x0, rfl, b0, z0⟩ := ints_open_sized (hval 0 23 v0 rfl rfl) h0
  have s0 := z0 (Sized.each hsz (j := 0) rfl rfl)
  obtain ⟨a1, rfl, rfl, rfl, w1⟩ := open_string Tryd.underlying9 (hval 1 9 v1 rfl rfl) h1
  have b1 : a1.size ≤ 9223372036854775807 := by have := w1; unfold maxLen at this; omega
  have k2 := h2
  have lt2 : ∀ x ∈ p2, x.block < W.heap.size := by obtain ⟨m, hm⟩ := k2; exact DataW.trod_lt m _ _ _ hm
  obtain ⟨a2, c2, x2, m2, o2, rfl, t1, t2, t3, t4, z2⟩ := arrs_open (hval 2 24 v2 rfl rfl) h2
  have b2 := And.intro t1 (And.intro t2 (And.intro t3 t4))
  have s2 := z2 (Sized.each hsz (j := 2) rfl rfl)
  clear hA0 hval0
  refine (walk a0 c0 x0 a1 a2 c2 x2 m2 o2 W hT b0 s0 b1 b2 s2).mono fun e W' ⟨he, bel⟩ => ?_
  subst he
  exact ⟨_, rfl, _, _, _, [], _, [], hW', trodAll_mk1 (shut_bool Tryd.underlying4 _), (trodAll_cons_mk (Below.trod laidOut (by kernel_rfl) (of_decide_eq_true (by kernel_rfl)) k0 bel lt0) (trodAll_cons_mk (shut_string Tryd.underlying9 w1) (trodAll_cons_mk (Below.trod laidOut (by kernel_rfl) (of_decide_eq_true (by kernel_rfl)) k2 bel lt2) trodAll_mk0))), rfl, bel.frame _, fun h => by cases h⟩

theorem over : Rows.arrayConstructorsRow.holds Tryd.pinned (OpenSpec.ofChange Rows.arrayConstructorsSpec) :=
  OpenClaim.holds_of_cond 6 Tryd.f6 rfl rfl rfl rfl rfl rfl rfl ⟨rfl, rfl, rfl, rfl, rfl⟩ rfl rfl rfl rfl rfl (by kernel_rfl) Tryd.func6 (by kernel_rfl)
    (of_decide_eq_true (by kernel_rfl)) (by unfold Func.isWrapper; first | (rw [if_pos (by decide +kernel)]; kernel_rfl) | (rw [if_neg (by decide +kernel)]; exact ⟨rfl, rfl⟩))
    (fun os started H enc _ F0 => by rw [OpenClaim.pre_eq_preRow]; exact lifted os started H enc F0)

set_option maxRecDepth 100000 in
theorem plainParams : ∀ (f : FuncId) (fn : Func), Tryd.prog.funcNamed Rows.arrayConstructorsRow.func = some f → Tryd.prog.funcs[f]? = some fn → false = Tryd.prog.looks [] ∧ ∀ (j : Nat) t, fn.params[j]? = some t → Tryd.prog.wantsStandIn t = false := by
  intro f fn hf hfn
  obtain rfl : f = 6 := Option.some.inj ((show Tryd.prog.funcNamed Rows.arrayConstructorsRow.func = some 6 by kernel_rfl).symm.trans hf) |>.symm
  obtain rfl : fn = Tryd.f6 := (Option.some.inj (Tryd.func6.symm.trans hfn)).symm
  refine ⟨by kernel_rfl, fun j t ht => ?_⟩
  have hall : (Tryd.f6.params.toList.all fun t => !Tryd.prog.wantsStandIn t) = true := by kernel_rfl
  have hm : t ∈ Tryd.f6.params.toList := by
    rw [← Array.getElem?_toList] at ht
    exact List.mem_of_getElem? ht
  simpa using List.all_eq_true.1 hall t hm

theorem proved : Rows.ArrayConstructorsCardSaid :=
  Claim7.holds_tied_plain_at .later [] [.data, .pinned] true _ false over (fun _ h => by cases h) (by kernel_rfl) (fun _ h => by cases h) arrayConstructors_row_tie rfl ⟨rfl, rfl⟩ (by kernel_rfl) rfl plainParams (by kernel_rfl)
end Go.Proofs.YthgfeofhoelpkaaDoor.arrayConstructorsProof
