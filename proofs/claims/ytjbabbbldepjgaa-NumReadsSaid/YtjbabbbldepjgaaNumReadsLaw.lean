/-
  The law arraylanglaw01.NumReads holds for every input: it returns true, and each argument reads afterwards as it read before. No condition.
-/
import Derived.Test.YtjbabbbldepjgaaNumAwake
import Derived.Test.YtjbabbbldepjgaaNumLead
import Derived.ProofKit
import Derived.OpenShut
namespace Go.Proofs.Ytjbabbbldepjgaa.numReadsProof
open Go.ChangeShapes Go.WideShapes Go.ChangeAt Go.RowKit Go.Proofs.Ytjbabbbldepjgaa.Num
open Go.WideMaps Go.WideElems
open Go.ChangeMaps (open_string shut_string)
set_option linter.unusedVariables false

theorem own : ownKnob Try.prog.godebug = none := by kernel_rfl

set_option maxHeartbeats 1000000 in
theorem walk (a0 : ByteArray) (w : World) (b0 : a0.size ≤ 9223372036854775807) :
    Calls Try.prog 8 #[.string a0] w fun e w' => e = .returned (.bool true) ∧ Below w.heap.size w w' := by
  by_cases hl : 2000 < a0.size
  · go_enter Try.func8, Try.ntmps8
    go_wp2_with (first
      | (go_at_call 26; refine (readP _ _ (by omega)).mono ?_; rintro e w2 ⟨rfl, hb2⟩)
      | (go_at_call 28; refine (readR _ _ (by omega)).mono ?_; rintro e w' ⟨rfl, rfl⟩)
      | (go_at_call 11; refine (is_same _ _ _).mono ?_; rintro e w' ⟨rfl, rfl⟩)
      | (go_at_call 22; refine (awakeL _).mono ?_; rintro e w1 ⟨rfl, hb1⟩))
    go_ret
    exact ⟨rfl, hb1⟩
  · by_cases h0 : 0 < a0.size
    · by_cases h95 : a0[0].toNat = 95
      · have hx : ((a0[0].toNat : Int) == 95) = true := by rw [h95]; rfl
        have hx' : ((a0[0].toNat : Int) != 95) = false := by rw [h95]; rfl
        clear h95
        go_enter Try.func8, Try.ntmps8
        go_wp2_with (first
          | (go_at_call 26; refine (readP _ _ (by omega)).mono ?_; rintro e w2 ⟨rfl, hb2⟩)
          | (go_at_call 28; refine (readR _ _ (by omega)).mono ?_; rintro e w' ⟨rfl, rfl⟩)
          | (go_at_call 11; refine (is_same _ _ _).mono ?_; rintro e w' ⟨rfl, rfl⟩)
          | (go_at_call 22; refine (awakeL _).mono ?_; rintro e w1 ⟨rfl, hb1⟩))
        go_ret
        exact ⟨rfl, Below.then hb2 hb1⟩
      · have hx' : ((a0[0].toNat : Int) != 95) = true := by simp; omega
        obtain ⟨t, ht, hz, hs⟩ := lead_t a0 h0 h95
        clear h95
        go_enter Try.func8, Try.ntmps8
        go_wp2_with (first
          | (go_at_call 26; ((with_reducible refine (readP a0 _ (by omega)).mono ?_); rintro e w2 ⟨rfl, hb2⟩))
          | (go_at_call 26; ((with_reducible refine (readP t _ (by omega)).mono ?_); rintro e w3 ⟨rfl, hb3⟩))
          | (go_at_call 28; refine (readR _ _ (by omega)).mono ?_; rintro e w' ⟨rfl, rfl⟩)
          | (go_at_call 11; refine (is_same _ _ _).mono ?_; rintro e w' ⟨rfl, rfl⟩)
          | (go_at_call 22; refine (awakeL _).mono ?_; rintro e w1 ⟨rfl, hb1⟩))
        go_ret
        exact ⟨rfl, Below.then (Below.then hb2 hb3) hb1⟩
    · go_enter Try.func8, Try.ntmps8
      go_wp2_with (first
        | (go_at_call 26; refine (readP _ _ (by omega)).mono ?_; rintro e w2 ⟨rfl, hb2⟩)
        | (go_at_call 28; refine (readR _ _ (by omega)).mono ?_; rintro e w' ⟨rfl, rfl⟩)
        | (go_at_call 11; refine (is_same _ _ _).mono ?_; rintro e w' ⟨rfl, rfl⟩)
        | (go_at_call 22; refine (awakeL _).mono ?_; rintro e w1 ⟨rfl, hb1⟩))
      go_ret
      exact ⟨rfl, Below.then hb2 hb1⟩

set_option maxRecDepth 100000 in
theorem lifted (os : Os) (started : os.Started) (H : Type) (enc : TypeId × Value → H) :
    ReturnsInHanded {} Try.checked os 8 .any (Rows.numReadsSpec.pre6 enc Try.prog Try.f8 Rows.numReadsRow.domain false) (Rows.numReadsSpec.post enc Try.prog Try.f8 false true false false) := by
  refine returnsInHanded_of_change (C := Try.checked) own started (by kernel_rfl) Try.func8
    (ChangeSpec.witness6 (enc := enc) (C := Try.checked) false ⟨#[], #[.string ⟨#[]⟩], []⟩ 8 (by kernel_rfl) (by kernel_rfl) (by kernel_rfl) (by kernel_rfl)) ?_
  intro W base args ds gs before hval0 hW hcnd _
  have hval : ∀ (j : Nat) t v, Try.f8.params[j]? = some t → args[j]? = some v → Value.okWide Try.prog W .any base t v := hval0
  have hW' := hW
  obtain ⟨p, q, hA0, hV, rfl, hfz, hnd⟩ := hW
  have hA : DataW.TrodAll enc Try.prog W 0 (fun _ => true) true Try.f8.params.toList args.toList ds p := hA0
  rw [Try.params8] at hA hval
  obtain ⟨v0, vs0, d0, ds0, p0, q0, hargs, rfl, rfl, h0, r0⟩ := trodAll_cons hA
  obtain ⟨rfl, rfl, rfl⟩ := trodAll_nil r0
  obtain rfl : args = #[v0] := by cases args; simp_all
  obtain ⟨rfl, rfl⟩ := trodVars_none hV
  obtain ⟨a0, rfl, rfl, rfl, w0⟩ := open_string Try.underlying9 (hval 0 9 v0 rfl rfl) h0
  have b0 : a0.size ≤ 9223372036854775807 := by have := w0; unfold maxLen at this; omega
  clear hA0 hval0
  refine (walk a0 W b0).mono fun e W' ⟨he, bel⟩ => ?_
  subst he
  exact ⟨_, rfl, _, _, _, [], _, [], hW', trodAll_mk1 (shut_bool Try.underlying4 _), (trodAll_cons_mk (shut_string Try.underlying9 w0) trodAll_mk0), rfl, bel.frame _, fun h => by cases h⟩

theorem over : Rows.numReadsRow.holds Try.pinned (OpenSpec.ofChange Rows.numReadsSpec) :=
  OpenClaim.holds_of_wide 8 Try.f8 rfl rfl rfl rfl rfl rfl rfl ⟨rfl, rfl, rfl, rfl, rfl⟩ rfl rfl rfl rfl rfl (by kernel_rfl) Try.func8 (by kernel_rfl)
    (of_decide_eq_true (by kernel_rfl)) (by unfold Func.isWrapper; first | (rw [if_pos (by decide +kernel)]; kernel_rfl) | (rw [if_neg (by decide +kernel)]; exact ⟨rfl, rfl⟩))
    (fun os started H enc _ => lifted os started H enc)

theorem proved : Rows.NumReadsSaid := over
end Go.Proofs.Ytjbabbbldepjgaa.numReadsProof
