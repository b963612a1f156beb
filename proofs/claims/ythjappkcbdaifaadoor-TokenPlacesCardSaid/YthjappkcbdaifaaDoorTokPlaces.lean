/-
  Layer 8: the law TokenPlaces, walked. (Written by wip/gen/token-places.py.)
-/
import Derived.Test.YthjappkcbdaifaaDoorTokEx
import Derived.Test.YthjappkcbdaifaaDoorTokEsc
import Derived.Test.YthjappkcbdaifaaDoorTokName
namespace Go.Proofs.YthjappkcbdaifaaDoor.Tok
open Go.RowKit
set_option linter.unusedVariables false
set_option linter.unusedSimpArgs false

theorem new5 (w : World) (c0 c1 c2 c3 c4 : Value) (T : TypeId) : (w.alloc (.cells #[c0, c1, c2, c3, c4] T)).cell? ⟨w.heap.size, 0, none⟩ = some c0 ∧ (w.alloc (.cells #[c0, c1, c2, c3, c4] T)).cell? ⟨w.heap.size, 1, none⟩ = some c1 ∧ (w.alloc (.cells #[c0, c1, c2, c3, c4] T)).cell? ⟨w.heap.size, 2, none⟩ = some c2 ∧ (w.alloc (.cells #[c0, c1, c2, c3, c4] T)).cell? ⟨w.heap.size, 3, none⟩ = some c3 ∧ (w.alloc (.cells #[c0, c1, c2, c3, c4] T)).cell? ⟨w.heap.size, 4, none⟩ = some c4 := by
  refine ⟨?_, ?_, ?_, ?_, ?_⟩ <;> (rw [World.cell?_alloc_new]; rfl)

set_option maxRecDepth 100000 in
set_option maxHeartbeats 16000000 in
theorem placesQ (a0 : ByteArray) (w : World) (hw2 : 7 < w.heap.size) (hT1 : Tabs w) (hT2 : TZ w) :
    Calls Tryd.prog 6 #[.string a0] w fun e w' => e = .returned (.bool true) ∧ Below w.heap.size w w' := by
  by_cases hs : a0.size ≤ 2000
  · have hs' : ¬ (2000 : Int) < (a0.size : Int) := by omega
    have cS := fun w hw hT => scanQ a0 (by omega) (escOK a0 (by omega)) w hw hT
    cases hr : scanS a0 with
    | bad er a =>
      have ha := scanS_bad hr
      have cB : ∀ w, 7 < w.heap.size → Tabs w → Calls Tryd.prog 14 #[.string a0] w fun e w' => e = .returned (.tuple #[.slice none 0 0, .agg #[.int .i64 er, .int .i64 (a : Int), .slice none 0 0, .slice none 0 0, .string ⟨#[]⟩]]) ∧ Below w.heap.size w w' := fun w h1 h2 => (cS w h1 h2).mono fun e w' q => by
        rw [hr] at q
        exact ⟨q.2, q.1⟩
      clear cS hr
      have h0 : ¬ (a : Int) < 0 := by omega
      have h1 : ¬ (a0.size : Int) < (a : Int) := by omega
      go_enter Tryd.func6, Tryd.ntmps6
      go_wp2_with (go_at_call 14; with_reducible refine (cB _ hw2 hT1).mono ?_; rintro e1 w1 ⟨rfl, b1⟩)
      have E1 := Below.then b1 (below_new w1 (.cells #[.int .i64 er, .int .i64 (a : Int), .slice none 0 0, .slice none 0 0, .string ⟨#[]⟩] 30))
      generalize w1.alloc (.cells #[.int .i64 er, .int .i64 (a : Int), .slice none 0 0, .slice none 0 0, .string ⟨#[]⟩] 30) = W at *
      go_loopw [5, 6] (fun en i wr => en = .int .i64 0 ∧ i = .int .i64 0 ∧ W = wr) (fun _ _ _ => 0)
      case atStart => exact ⟨rfl, rfl, rfl⟩
      case round =>
        obtain ⟨rfl, rfl, rfl⟩ := hrel
        go_wp2_with (go_at_call 9; with_reducible refine (exampleL _ (Nat.lt_of_lt_of_le hw2 (Below.size E1)) (Tabs.below hT1 E1) (TZ.below hT2 E1)).mono ?_; rintro e3 w3 ⟨rfl, b3⟩)
        go_ret
        exact ⟨rfl, Below.then E1 b3⟩
    | ok l =>
      have hA := scanS_asc hr
      have cB : ∀ w, 7 < w.heap.size → Tabs w → Calls Tryd.prog 14 #[.string a0] w fun e w' => ∃ p c, e = .returned (.tuple #[.slice p l.length c, .agg #[.int .i64 0, .int .i64 0, .slice none 0 0, .slice none 0 0, .string ⟨#[]⟩]]) ∧ ToksAt w' p c l ∧ Below w.heap.size w w' := fun w h1 h2 => (cS w h1 h2).mono fun e w' q => by
        rw [hr] at q
        obtain ⟨q1, v, q2, q3⟩ := q
        obtain ⟨p, c, rfl⟩ := q3.form
        exact ⟨p, c, q2, q3.toks.2, q1⟩
      clear cS hr
      obtain ⟨n, hNl⟩ : ∃ n, Hid (l.length = n) := ⟨_, rfl⟩
      rw [hNl.out] at cB
      obtain ⟨hA1, hA2⟩ := hA
      rw [hNl.out] at hA2
      have hn1 : (n : Int) ≤ 16384 := by omega
      have h1 : ¬ (a0.size : Int) < (0 : Int) := by omega
      go_enter Tryd.func6, Tryd.ntmps6
      go_wp2_with (go_at_call 14; with_reducible refine (cB _ hw2 hT1).mono ?_; rintro e1 w1 ⟨p, c, rfl, t1, b1⟩)
      obtain ⟨hlc, m, o, hp, hc⟩ := t1
      rw [hNl.out] at hlc
      have E1 := Below.then b1 (below_new w1 (.cells #[.int .i64 0, .int .i64 0, .slice none 0 0, .slice none 0 0, .string ⟨#[]⟩] 30))
      have hc2 := hc.below (below_new w1 (.cells #[.int .i64 0, .int .i64 0, .slice none 0 0, .slice none 0 0, .string ⟨#[]⟩] 30))
      generalize w1.alloc (.cells #[.int .i64 0, .int .i64 0, .slice none 0 0, .slice none 0 0, .string ⟨#[]⟩] 30) = W at *
      go_loopw [5, 6] (fun en i wr => ∃ k e : Nat, k ≤ n ∧ en = .int .i64 (e : Int) ∧ i = .int .i64 (k : Int) ∧ e ≤ a0.size ∧ Asc a0 e (l.drop k) ∧ Below W.heap.size W wr) (fun _ i _ => n - (RowKit.intOf i).toNat)
      case atStart => exact ⟨0, 0, Nat.zero_le _, rfl, rfl, Nat.zero_le _, hA1, Below.refl _ _⟩
      case round =>
        clear cB
        obtain ⟨k, e, hk, rfl, rfl, he, hA, hb⟩ := hrel
        have hbW := Below.then E1 hb
        by_cases hlt : k < n
        · have hlt' : (k : Int) < (n : Int) := by omega
          have hkl : k < l.length := by rw [hNl.out]; exact hlt
          have hane := hp (fun e => by rw [e] at hkl; exact absurd hkl (by simp))
          obtain ⟨c0, c1, c2, c3, c4⟩ := hc2.below hb k hkl
          rw [List.drop_eq_getElem_cons hkl] at hA
          generalize l[k] = x at *
          obtain ⟨xk, xa, xz, xn, xt⟩ := x
          obtain ⟨a, j, ha, hz, h3, h4, h5, h6, h7, h8⟩ := hA
          simp only [] at c0 c1 c2 c3 c4 ha hz h6 h7
          subst ha
          have hz1 : ¬ xz < 1 := by omega
          have hz2 : ¬ (a0.size : Int) - (a : Int) < xz := by omega
          have hend : (a : Int) + xz = (j : Int) := by omega
          have hea : ¬ (a : Int) < (e : Int) := by omega
          have hx1 := fun w' => elem_tok w' m o n c k hlt
          have ha1 : (a : Int) ≤ 2000 := by omega
          have hj1 : (j : Int) ≤ 2000 := by omega
          have hxz : xz ≤ 2000 := by omega
          clear hz
          subst hane
          obtain ⟨d0, d1, d2, d3, d4⟩ := new5 wr (.int .i64 xk) (.int .i64 (a : Int)) (.int .i64 xz) (.int .i64 xn) (.string xt) 36
          by_cases k4 : xk = 4
          · subst k4
            have hN := h7 rfl
            have hxt := h6 (Or.inl rfl)
            have cR := fun w => reservedQ xt w
            rw [hN.free] at cR
            have cI := fun w => isNameR xt hN w
            clear h6 h7
            subst hxt
            go_wp2
            go_region
            go_wp2_with (first
              | (go_at_call 12; with_reducible refine (cR _).mono ?_; rintro e4 w4 ⟨rfl, rfl⟩)
              | (go_at_call 16; with_reducible refine (cI _).mono ?_; rintro e5 w5 ⟨rfl, rfl⟩))
            go_roundw
            case rel => exact ⟨k + 1, j, by omega, by go_num, by go_num, h5, h8, by first | exact Below.then hb (below_new wr _) | exact Below.drew (Below.then hb (below_new wr _))⟩
            case measure => simp [RowKit.intOf]; omega
          by_cases k5 : xk = 5
          · subst k5
            have hxt := h6 (Or.inr rfl)
            clear h6 h7
            subst hxt
            go_wp2
            go_region
            go_wp2
            go_roundw
            case rel => exact ⟨k + 1, j, by omega, by go_num, by go_num, h5, h8, by first | exact Below.then hb (below_new wr _) | exact Below.drew (Below.then hb (below_new wr _))⟩
            case measure => simp [RowKit.intOf]; omega
          · have e4 : (xk == 4) = false := by simp; exact k4
            have e5 : (xk == 5) = false := by simp; exact k5
            clear h6 h7
            go_wp2
            go_region
            go_wp2
            go_roundw
            case rel => exact ⟨k + 1, j, by omega, by go_num, by go_num, h5, h8, by first | exact Below.then hb (below_new wr _) | exact Below.drew (Below.then hb (below_new wr _))⟩
            case measure => simp [RowKit.intOf]; omega
        · obtain rfl : n = k := by omega
          have hn0 : ¬ (n : Int) < (n : Int) := by omega
          go_wp2_with (go_at_call 9; with_reducible refine (exampleL _ (Nat.lt_of_lt_of_le hw2 (Below.size hbW)) (Tabs.below hT1 hbW) (TZ.below hT2 hbW)).mono ?_; rintro e3 w3 ⟨rfl, b3⟩)
          go_ret
          exact ⟨rfl, Below.then hbW b3⟩
  · have hs' : (2000 : Int) < (a0.size : Int) := by omega
    go_enter Tryd.func6, Tryd.ntmps6
    go_wp2_with (go_at_call 9; with_reducible refine (exampleL _ hw2 hT1 hT2).mono ?_; rintro e3 w3 ⟨rfl, b3⟩)
    go_ret
    exact ⟨rfl, b3⟩
end Go.Proofs.YthjappkcbdaifaaDoor.Tok
