/-
  Layer 8: the law TokenShows, walked. (Written by wip/gen/token-shows.py.)
-/
import Derived.Test.YthjappkcbdaifaaDoorTokEx
import Derived.Test.YthjappkcbdaifaaDoorTokOpen
namespace Go.Proofs.YthjappkcbdaifaaDoor.Tok
open Go.RowKit
set_option linter.unusedVariables false
set_option linter.unusedSimpArgs false

theorem show_len {l : List T5} (h : ∀ x ∈ l, x.t.size ≤ 4000) : ∀ j, j ≤ l.length → (showS (l.take j)).length ≤ 25000 * j
  | 0, _ => by rw [show_zero]; simp
  | j + 1, hj => by
    have ih := show_len h j (by omega)
    have hx := h _ (List.getElem_mem (show j < l.length by omega))
    have hw := oneW_len l[j].k l[j].n l[j].t
    by_cases h0 : j = 0
    · subst h0
      rw [show_one (by omega)]; omega
    · rw [show_step (by omega) (by omega)]
      simp only [List.length_append, List.length_cons, List.length_nil]
      omega
set_option maxRecDepth 100000 in
set_option maxHeartbeats 16000000 in
theorem showsQ (a : Option Addr) (c : Nat) (l : List T5) (w : World) (hw2 : 7 < w.heap.size) (hT1 : Tabs w) (hT2 : TZ w) (h : ToksAt w a c l ∧ c ≤ 9223372036854775807 ∧ ∀ x ∈ l, Bd x) :
    Calls Tryd.prog 3 #[.slice a l.length c] w fun e w' => e = .returned (.bool true) ∧ Below w.heap.size w w' := by
  obtain ⟨hA, hcm, hB⟩ := h
  have cH := fun w h => shortR l a c w h hcm hB
  cases hs : shortB l
  · rw [hs] at cH
    generalize l.length = N at *
    go_enter Tryd.func3, Tryd.ntmps3
    go_wp2_with (first
      | (go_at_call 8; with_reducible refine (cH _ hA).mono ?_; rintro e1 w1 ⟨rfl, rfl⟩)
      | (go_at_call 9; with_reducible refine (exampleL _ hw2 hT1 hT2).mono ?_; rintro e3 w3 ⟨rfl, b3⟩))
    go_ret
    exact ⟨rfl, b3⟩
  · rw [hs] at cH
    obtain ⟨hl, ht⟩ := short_ok hs
    have hL := show_len ht l.length (Nat.le_refl _)
    rw [List.take_of_length_le (Nat.le_refl _)] at hL
    have cP : ∀ w, Tabs w → TZ w → ToksAt w a c l → Calls Tryd.prog 10 #[.slice a l.length c] w fun e w' => e = .returned (.string ⟨(showS l).toArray⟩) ∧ Below w.heap.size w w' := fun w h1 h2 h3 => by
      obtain ⟨q1, m, o, q2, q3⟩ := h3
      exact ShowQ l a c m o w h1 h2 (by omega) q1 q2 q3 (fun x hx => ⟨(hB x hx).1, by have := ht x hx; omega⟩) (by omega)
    have cR : ∀ w, ToksAt w a c l → Calls Tryd.prog 11 #[.slice a l.length c] w fun e w' => e = .returned (.string ⟨(showS l).toArray⟩) ∧ Below w.heap.size w w' := fun w h3 => by
      obtain ⟨q1, m, o, q2, q3⟩ := h3
      exact showR l a c m o w hl q1 q2 q3 ht
    clear hL hB ht
    generalize (⟨(showS l).toArray⟩ : ByteArray) = T at cP cR
    go_enter Tryd.func3, Tryd.ntmps3
    go_wp2_with (first
      | (go_at_call 8; with_reducible refine (cH _ hA).mono ?_; rintro e1 w1 ⟨rfl, rfl⟩)
      | (go_at_call 10; with_reducible refine (cP _ hT1 hT2 hA).mono ?_; rintro e2 w2 ⟨rfl, b2⟩)
      | (go_at_call 11; with_reducible refine (cR _ (hA.below b2)).mono ?_; rintro e3 w3 ⟨rfl, b3⟩; have b4 := Below.then b2 b3)
      | (go_at_call 9; with_reducible refine (exampleL _ (Nat.lt_of_lt_of_le hw2 b4.size) (hT1.below b4) (TZ.below hT2 b4)).mono ?_; rintro e5 w5 ⟨rfl, b5⟩))
    go_ret
    exact ⟨rfl, Below.then b4 b5⟩
end Go.Proofs.YthjappkcbdaifaaDoor.Tok
