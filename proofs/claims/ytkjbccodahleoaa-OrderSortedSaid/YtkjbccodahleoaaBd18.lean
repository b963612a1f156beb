/-
  Layer 3: the contracts of the program's thirteen calls, in the forms that the laws' walks go by.
  Layer 6: the program's comparisons of numbers and of shapes.
-/
import Derived.Test.YtkjbccodahleoaaBd8
import Derived.Test.YtkjbccodahleoaaBd13
import Derived.Test.YtkjbccodahleoaaBd1
import Derived.Laws.IdiomStrings
import Derived.Laws.Cover4
import Derived.Lib.MapLaws
import Derived.Lib.ValidLaws
import Derived.Lib.RuneCount
import Derived.Lib.RuneCountTail
import Derived.Test.YtkjbccodahleoaaBd16
import Derived.Lib.OthersKept
import Derived.Laws.MakeOwn
import Derived.OwnWalk
import Derived.Test.YtkjbccodahleoaaBd17
import Derived.Test.YtkjbccodahleoaaBd5
import Derived.Test.YtkjbccodahleoaaBd3
import Derived.Handy
namespace Go.Proofs.Ytkjbccodahleoaa.Shape
open Go.RowKit

theorem GiveNew.arr {A : Arr} {w w' : World} {e : Ending} (h : GiveNew A w e w') : GiveArr A w e w' := by
  obtain ⟨k, sa, ls, sc, na, ln, nc, ia, li, ic, rfl, hO, hb⟩ := h.form
  exact ⟨_, rfl, hO.at, hb⟩
/-- An array and an error as the results of a call. -/
def GiveArrE (A : Arr) (er : Int) (w : World) (e : Ending) (w' : World) : Prop := ∃ v, e = .returned (.tuple #[v, .int .i64 er]) ∧ ArrAt w' v A ∧ Below w.heap.size w w'
theorem GiveNewE.arr {A : Arr} {er : Int} {w w' : World} {e : Ending} (h : GiveNewE A er w e w') : GiveArrE A er w e w' := by
  obtain ⟨c0, c1, c2, c3, rfl, h⟩ := h
  obtain ⟨v, hv, hA, hb⟩ := h.arr
  cases hv
  exact ⟨_, rfl, hA, hb⟩
theorem wt_low {k : Int} {sh nu : List Int} {it : List Arr} (h : it.length = 0 ∨ k ≠ 3) (h2 : aSize (.mk k sh nu it) ≤ 65536) : ¬ 262144 < wt (.mk k sh nu it) := by
  rw [wt]
  split
  · rename_i hk
    have : it = [] := List.eq_nil_of_length_eq_zero (h.resolve_right (fun g => g hk))
    subst this
    rw [sumW]; omega
  · omega
theorem fields_right {k : Int} {sh nu : List Int} {it : List Arr} (h : rightE (.mk k sh nu it) = 0) : (k ≠ 3 → it = []) ∧ (k = 3 → nu = []) := by
  have hp : partsE (.mk k sh nu it) = 0 := Classical.byContradiction fun g => g ((chk_parts g).symm.trans h)
  rw [partsE] at hp
  split at hp
  · omega
  · split at hp
    · rename_i g; exact absurd hp g
    · split at hp
      · omega
      · rename_i g3
        have g4 : ¬ 0 < other k nu it := fun e => g3 (Or.inr e)
        refine ⟨fun hk => ?_, fun hk => ?_⟩
        · rw [other, if_neg hk] at g4; exact List.eq_nil_of_length_eq_zero (by omega)
        · rw [other, if_pos hk] at g4; exact List.eq_nil_of_length_eq_zero (by omega)
theorem size_nums {k : Int} {sh nu : List Int} {it : List Arr} (hk : k = 1 ∨ k = 2) (h : aSize (.mk k sh nu it) ≠ 0) : nu ≠ [] := by
  intro e; subst e; apply h; unfold aSize; rw [if_pos (show (Arr.mk k sh [] it).kind = 1 ∨ (Arr.mk k sh [] it).kind = 2 from hk)]; rfl
theorem size_items {sh nu : List Int} {it : List Arr} (h : aSize (.mk 3 sh nu it) ≠ 0) : it ≠ [] := by
  intro e; subst e; exact h rfl
/-- What Of's own words give, in the words of the specification. -/
theorem out_num {sh : List Int} {F : Arr} {k : Int} {gs gn : List Int} (hE : rightE F = 0) (hD : dimsE sh = 0) (hs : srcA F = .mk k gs gn []) (hk : k = 1 ∨ k = 2) (hne : gn ≠ []) : outA (repA (.mk k gs gn []) sh (pr sh).toNat) = ofA sh F := by
  have hd := dims_small hD
  rw [ofA_num hE hD hs (by omega)]
  have e : repA (.mk k gs gn []) sh (pr sh).toNat = .mk k sh (cyc gn 0 (pr sh).toNat) [] := by
    show Arr.mk k sh (cyc0 gn 0 _) (cyc0 [] zeroA _) = _
    rw [cyc0, if_neg hne, cyc0, if_pos rfl]
  rw [e, outA_ok]
  refine wt_low (Or.inl rfl) (aSize_le ?_ (Nat.zero_le _))
  rw [cyc_len]; omega
theorem out_box {sh : List Int} {F : Arr} {gs : List Int} {gi : List Arr} (hE : rightE F = 0) (hD : dimsE sh = 0) (hs : srcA F = .mk 3 gs [] gi) (hne : gi ≠ []) : outA (repA (.mk 3 gs [] gi) sh (pr sh).toNat) = ofA sh F := by
  have hd := dims_small hD
  have e : repA (.mk 3 gs [] gi) sh (pr sh).toNat = .mk 3 sh [] (cyc gi zeroA (pr sh).toNat) := by
    show Arr.mk 3 sh (cyc0 [] 0 _) (cyc0 gi zeroA _) = _
    rw [cyc0, if_pos rfl, cyc0, if_neg hne]
  have hw : wt (.mk 3 sh [] (cyc gi zeroA (pr sh).toNat)) = min (pr sh + sumW (cyc gi zeroA (pr sh).toNat)) 262145 := by
    rw [wt, if_pos rfl]
    have : ((aSize (.mk 3 sh [] (cyc gi zeroA (pr sh).toNat)) : Nat) : Int) = pr sh := by
      show (((cyc gi zeroA (pr sh).toNat).length : Nat) : Int) = _
      rw [cyc_len]; omega
    rw [this]
  rw [e, ofA, if_pos hE, if_pos hD, hs, if_pos (show (Arr.mk 3 gs [] gi).kind = 3 from rfl)]
  show _ = (if pr sh + sumW (cyc gi zeroA (pr sh).toNat) ≤ 262144 then _ else _ : Arr × Int)
  by_cases hb : pr sh + sumW (cyc gi zeroA (pr sh).toNat) ≤ 262144
  · rw [if_pos hb, outA_ok (by rw [hw]; omega)]; rfl
  · rw [if_neg hb, outA_big (by rw [hw]; omega)]
theorem ofN (a : Option Addr) (cap : Nat) (sh : List Int) (v : Value) (F : Arr) (w : World) (g : IntsAt w a cap sh) (h : ArrAt w v F) (hR : Reach F) :
    Calls Try.prog 84 #[.slice a sh.length cap, v] w (GiveNewE (ofA sh F).1 (ofA sh F).2 w) := by
  by_cases hE : rightE F = 0
  · by_cases hD : dimsE sh = 0
    · obtain ⟨k, fs, fn, fi⟩ := F
      by_cases hz : aSize (.mk k fs fn fi) = 0
      · have hs : srcA (.mk k fs fn fi) = fillA k := by rw [srcA, if_pos hz]; rfl
        rcases kind_right hE with rfl | rfl | rfl
        · have K := ofN_fill a cap sh v _ _ w g h hE hD hz (show (.mk 1 [] [0] [] : Arr) = _ from rfl) (reach_plain (by decide) (by decide))
          rw [out_num hE hD (hs.trans rfl) (Or.inl rfl) (by simp)] at K
          exact K
        · have K := ofN_fill a cap sh v _ _ w g h hE hD hz (show (.mk 2 [] [32] [] : Arr) = _ from rfl) (reach_plain (by decide) (by decide))
          rw [out_num hE hD (hs.trans rfl) (Or.inr rfl) (by simp)] at K
          exact K
        · have K := ofN_fill a cap sh v _ _ w g h hE hD hz (show (.mk 3 [] [] [.mk 1 [0] [] []] : Arr) = _ from rfl) (by rw [Reach, ReachL, ReachL]; exact ⟨by decide, by decide, by decide, reach_plain (by decide) (by decide), trivial⟩)
          rw [out_box hE hD (hs.trans rfl) (by simp)] at K
          exact K
      · have hs : srcA (.mk k fs fn fi) = .mk k fs fn fi := by rw [srcA, if_neg hz]
        have hf := fields_right hE
        have K := ofN_plain a cap sh v _ _ w g h hE hD hz rfl hR
        rcases kind_right hE with rfl | rfl | rfl
        · have e := hf.1 (by decide)
          subst e
          rw [out_num hE hD hs (Or.inl rfl) (size_nums (Or.inl rfl) hz)] at K
          exact K
        · have e := hf.1 (by decide)
          subst e
          rw [out_num hE hD hs (Or.inr rfl) (size_nums (Or.inr rfl) hz)] at K
          exact K
        · have e := hf.2 rfl
          subst e
          rw [out_box hE hD hs (size_items hz)] at K
          exact K
    · have e : ofA sh F = (zeroA, dimsE sh) := by rw [ofA, if_pos hE, if_neg hD]
      rw [e]
      exact ofN_dims a cap sh v F w g h hE hD
  · have e : ofA sh F = (zeroA, 1) := by rw [ofA, if_neg hE]
    rw [e]
    exact ofN_bad a cap sh v F w h hE

theorem cloneQ (v : Value) (A : Arr) (w : World) (h : ArrAt w v A) (hr : Reach A) : Calls Try.prog 39 #[v] w (GiveNew A w) := cloneN v A w h hr
theorem scalarQ (n : Int) (w : World) (hn : -9223372036854775808 ≤ n ∧ n ≤ 9223372036854775807) : Calls Try.prog 102 #[.int .i64 n] w (GiveArr (validA (.mk 1 [] [n] [])) w) := (scalarN n w hn).mono fun _ _ h => h.arr
theorem vectorQ (a : Option Addr) (c : Nat) (xs : List Int) (w : World) (h : IntsAt w a c xs) (hx : xs.length * 8 ≤ 140737488351232) : Calls Try.prog 104 #[.slice a xs.length c] w (GiveArr (validA (.mk 1 [(xs.length : Int)] xs [])) w) := (vectorN a c xs w h hx).mono fun _ _ h => h.arr
theorem boxQ (v : Value) (A : Arr) (w : World) (h : ArrAt w v A) (hA : Reach A) : Calls Try.prog 103 #[v] w (GiveArr (validA (.mk 3 [] [] [A])) w) := (boxN v A w h hA).mono fun _ _ h => h.arr
theorem fillQ (v : Value) (A : Arr) (w : World) (h : ArrAt w v A) : Calls Try.prog 94 #[v] w (GiveArr (fillA A.kind) w) := (fillN v A w h).mono fun _ _ h => h.arr
theorem ofQ (a : Option Addr) (cap : Nat) (sh : List Int) (v : Value) (F : Arr) (w : World) (g : IntsAt w a cap sh) (h : ArrAt w v F) (hR : Reach F) : Calls Try.prog 84 #[.slice a sh.length cap, v] w (GiveArrE (ofA sh F).1 (ofA sh F).2 w) := (ofN a cap sh v F w g h hR).mono fun _ _ h => h.arr
end Go.Proofs.Ytkjbccodahleoaa.Shape

namespace Go.Proofs.Ytkjbccodahleoaa.Shape
open Go.RowKit
set_option linter.unusedVariables false

theorem nanI (a : Int) (w : World) : Calls Try.prog 98 #[.int .i64 a] w fun e w' => e = .returned (.bool false) ∧ w = w' := by
  go_enter Try.func98, Try.ntmps98
  go_wp2_with fail
  go_ret
  exact ⟨by first | rfl | simp, rfl⟩
theorem nanK (a : Int) (w : World) : Calls Try.prog 97 #[.int .i64 a] w fun e w' => e = .returned (.bool false) ∧ w = w' := by
  go_enter Try.func97, Try.ntmps97
  go_wp2_with fail
  go_ret
  exact ⟨by first | rfl | simp, rfl⟩
theorem cmpI (a b : Int) (w : World) : Calls Try.prog 89 #[.int .i64 a, .int .i64 b] w fun e w' => e = .returned (.int .i64 (sgn a b)) ∧ w = w' := by
  rcases Int.lt_trichotomy a b with h | h | h
  · have e : sgn a b = -1 := by unfold sgn; rw [if_pos h]
    rw [e]
    go_enter Try.func89, Try.ntmps89
    go_wp2_with (go_at_call 98; refine (nanI _ _).mono ?_; rintro e w1 ⟨rfl, rfl⟩)
    go_ret
    exact ⟨rfl, rfl⟩
  · subst h
    have e : sgn a a = 0 := sgn_zero.2 rfl
    rw [e]
    have h1 : ¬ a < a := by omega
    go_enter Try.func89, Try.ntmps89
    go_wp2_with (go_at_call 98; refine (nanI _ _).mono ?_; rintro e w1 ⟨rfl, rfl⟩)
    go_ret
    exact ⟨rfl, rfl⟩
  · have e : sgn a b = 1 := by unfold sgn; rw [if_neg (by omega), if_pos h]
    rw [e]
    have h1 : ¬ a < b := by omega
    go_enter Try.func89, Try.ntmps89
    go_wp2_with (go_at_call 98; refine (nanI _ _).mono ?_; rintro e w1 ⟨rfl, rfl⟩)
    go_ret
    exact ⟨rfl, rfl⟩
theorem cmpK (a b : Int) (w : World) : Calls Try.prog 88 #[.int .i64 a, .int .i64 b] w fun e w' => e = .returned (.int .i64 (sgn a b)) ∧ w = w' := by
  rcases Int.lt_trichotomy a b with h | h | h
  · have e : sgn a b = -1 := by unfold sgn; rw [if_pos h]
    rw [e]
    go_enter Try.func88, Try.ntmps88
    go_wp2_with (go_at_call 97; refine (nanK _ _).mono ?_; rintro e w1 ⟨rfl, rfl⟩)
    go_ret
    exact ⟨rfl, rfl⟩
  · subst h
    have e : sgn a a = 0 := sgn_zero.2 rfl
    rw [e]
    have h1 : ¬ a < a := by omega
    go_enter Try.func88, Try.ntmps88
    go_wp2_with (go_at_call 97; refine (nanK _ _).mono ?_; rintro e w1 ⟨rfl, rfl⟩)
    go_ret
    exact ⟨rfl, rfl⟩
  · have e : sgn a b = 1 := by unfold sgn; rw [if_neg (by omega), if_pos h]
    rw [e]
    have h1 : ¬ a < b := by omega
    go_enter Try.func88, Try.ntmps88
    go_wp2_with (go_at_call 97; refine (nanK _ _).mono ?_; rintro e w1 ⟨rfl, rfl⟩)
    go_ret
    exact ⟨rfl, rfl⟩
/-- The shapes from place j on. -/
theorem shpS_drop {s t : List Int} {j : Nat} (hl : s.length = t.length) (h : j < s.length) : shpS (s.drop j) (t.drop j) = if sgn s[j] (t[j]'(by omega)) ≠ 0 then sgn s[j] (t[j]'(by omega)) else shpS (s.drop (j + 1)) (t.drop (j + 1)) := by
  rw [List.drop_eq_getElem_cons h, List.drop_eq_getElem_cons (l := t) (by omega), shpS]
  by_cases e : s[j] = t[j]'(by omega)
  · rw [if_neg (fun g => g e), if_neg (fun g => g (sgn_zero.2 e))]
  · rw [if_pos e, if_pos (fun g => e (sgn_zero.1 g))]
theorem cmpShapes (a : Option Addr) (c : Nat) (s : List Int) (a2 : Option Addr) (c2 : Nat) (t : List Int) (L : Nat) (w : World) (hs : IntsAt w a c s) (ht : IntsAt w a2 c2 t) (hl : s.length = L) (hl2 : t.length = L) :
    Calls Try.prog 91 #[.slice a L c, .slice a2 L c2] w fun e w' => e = .returned (.int .i64 (shpS s t)) ∧ w = w' := by
  have hlen : L ≤ 9223372036854775807 := by rw [← hl]; exact hs.len
  have HL : Hid (s.length = L) := hl
  have HL2 : Hid (t.length = L) := hl2
  clear hl hl2
  have H0 : Hid (shpS (s.drop 0) (t.drop 0) = shpS s t) := rfl
  obtain ⟨X, hX⟩ : ∃ X, shpS s t = X := ⟨_, rfl⟩
  rw [hX] at H0 ⊢
  clear hX
  go_enter Try.func91, Try.ntmps91
  go_wp2_with fail
  go_loopw [11] (fun i wr => ∃ j : Nat, j ≤ L ∧ i = .int .i64 j ∧ wr = w ∧ Hid (shpS (s.drop j) (t.drop j) = X)) (fun i _ => L - (intOf i).toNat)
  case atStart => exact ⟨0, Nat.zero_le _, rfl, rfl, H0⟩
  case round =>
    clear H0
    obtain ⟨j, hj, rfl, rfl, hX⟩ := hrel
    by_cases hlt : j < L
    · have h1 : j < s.length := by rw [HL.out]; exact hlt
      have h2 : j < t.length := by rw [HL2.out]; exact hlt
      obtain ⟨b, o, hi, hc⟩ := hs.at h1
      obtain ⟨b2, o2, hi2, hc2⟩ := ht.at h2
      rw [HL.out] at hi
      rw [HL2.out] at hi2
      have hd := shpS_drop (HL.out.trans HL2.out.symm) h1
      rw [hX.out] at hd
      obtain ⟨x, hx⟩ : ∃ x, s[j] = x := ⟨_, rfl⟩
      obtain ⟨y, hy⟩ : ∃ y, t[j] = y := ⟨_, rfl⟩
      rw [hx] at hc hd
      rw [hy] at hc2 hd
      have hge : ¬ L ≤ j := by omega
      obtain ⟨z, hz⟩ : ∃ z, sgn x y = z := ⟨_, rfl⟩
      have HC := fun w' => cmpI x y w'
      rw [hz] at HC hd
      have HD : Hid (X = if z ≠ 0 then z else shpS (s.drop (j + 1)) (t.drop (j + 1))) := hd
      clear hx hy hz h1 h2 hd hX
      by_cases hz0 : z = 0
      · subst hz0
        go_wp2_with (go_at_call 89; refine (HC _).mono ?_; rintro e w1 ⟨rfl, rfl⟩)
        go_roundw
        case rel => exact ⟨j + 1, by omega, by go_num, by first | rfl | trivial, by have := HD.out; simp only [ne_eq, not_true_eq_false, if_false] at this; exact this.symm⟩
        case measure => simp [intOf]; omega
      · have e1 : (z != 0) = true := by simpa using hz0
        have e2 : X = z := by rw [HD.out, if_pos hz0]
        subst e2
        go_wp2_with (go_at_call 89; refine (HC _).mono ?_; rintro e w1 ⟨rfl, rfl⟩)
        go_ret
        exact ⟨rfl, rfl⟩
    · obtain rfl : j = L := by omega
      have e0 : X = 0 := by
        rw [← hX.out, List.drop_eq_nil_of_le (by rw [HL.out]; exact Nat.le_refl _), List.drop_eq_nil_of_le (by rw [HL2.out]; exact Nat.le_refl _)]
        simp [shpS]
      subst e0
      clear hX
      go_wp2_with fail
      go_ret
      exact ⟨rfl, rfl⟩
end Go.Proofs.Ytkjbccodahleoaa.Shape
