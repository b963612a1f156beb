/-
  Layer 8: the law TokenJoins where neither text has a fault. (Written by wip/gen/token-joinc.py.)
-/
import Derived.Test.YtafjdncajpjmlaaDoorTokApp
namespace Go.Proofs.YtafjdncajpjmlaaDoor.Tok
open Go.RowKit
set_option linter.unusedVariables false
set_option linter.unusedSimpArgs false

theorem hid {p : Prop} (h : p) : Hid p := h
set_option maxRecDepth 100000 in
set_option maxHeartbeats 16000000 in
theorem joinsC (s t : ByteArray) (hs : s.size ≤ 2000) (ht : t.size ≤ 2000) (l m : List T5) (hr1 : scanS s = .ok l) (hr : scanS t = .ok m) (w : World) (hw2 : 5 < w.heap.size) (hT1 : Tabs w) (hT2 : TZ w) :
    Calls Tryd.prog 4 #[.string s, .string t] w fun e w' => e = .returned (.bool true) ∧ Below w.heap.size w w' := by
  have hJ : scanS (s ++ ⟨#[10]⟩ ++ t) = .ok (l ++ [(⟨6, (s.size : Int), 1, 0, ⟨#[]⟩⟩ : T5)] ++ m.map (T5.sft (s.size + 1))) := by rw [scan_joined s t hs ht, hr1, hr]; rfl
  have hz := join_size s t
  have c1 := scanO s (by omega) l hr1
  have c2 := scanO t (by omega) m hr
  have c3 := scanO _ (by omega) _ hJ
  have hs' : ¬ (2000 : Int) < (s.size : Int) := by omega
  have ht' : ¬ (2000 : Int) < (t.size : Int) := by omega
  have a1 := fun w => run_string_add_sum (P := Tryd.prog) w s ⟨#[10]⟩ (by show s.size + 1 ≤ _; omega)
  have a2 := fun w => run_string_add_sum (P := Tryd.prog) w (s ++ ⟨#[10]⟩) t (by rw [ByteArray.size_append]; show s.size + 1 + t.size ≤ _; omega)
  generalize s ++ ⟨#[10]⟩ ++ t = J at *
  have hs2 : (s.size : Int) ≤ 2000 := by omega
  obtain ⟨L, hL⟩ : ∃ L, Hid (L = l ++ [(⟨6, (s.size : Int), 1, 0, ⟨#[]⟩⟩ : T5)] ++ m.map (T5.sft (s.size + 1))) := ⟨l ++ [(⟨6, (s.size : Int), 1, 0, ⟨#[]⟩⟩ : T5)] ++ m.map (T5.sft (s.size + 1)), rfl⟩
  rw [← hL.out] at c3 hJ
  have g1 : l.length ≤ 16384 := scan_few hr1
  have g2 : m.length ≤ 16384 := scan_few hr
  have g3 : L.length ≤ 16384 := scan_few hJ
  have gl := g1
  have gm := g2
  have gb : ∀ x ∈ m, 0 ≤ x.at' ∧ x.at' ≤ 100000 := fun x hx => by
    have := scan_at hr x hx
    omega
  obtain ⟨nl, hnl⟩ : ∃ n, Hid (l.length = n) := ⟨l.length, rfl⟩
  obtain ⟨nm, hnm⟩ : ∃ n, Hid (m.length = n) := ⟨m.length, rfl⟩
  obtain ⟨nL, hnL⟩ : ∃ n, Hid (L.length = n) := ⟨L.length, rfl⟩
  rw [hnl.out] at c1 g1
  rw [hnm.out] at c2 g2
  rw [hnL.out] at c3 g3
  clear hJ hr hr1 hz
  have cS : ∀ (p q : Option Addr) (c d n : Nat) (w : World), n = ([] ++ l ++ [(⟨6, (s.size : Int), 1, 0, ⟨#[]⟩⟩ : T5)] ++ m.map (T5.sft (s.size + 1))).length → ToksAt w p c L → ToksAt w q d ([] ++ l ++ [(⟨6, (s.size : Int), 1, 0, ⟨#[]⟩⟩ : T5)] ++ m.map (T5.sft (s.size + 1))) → Calls Tryd.prog 11 #[.slice p nL c, .slice q n d] w fun e w' => e = .returned (.bool true) ∧ Below w.heap.size w w' := fun p q c d n w hn h1 h2 => by
    have e : ([] ++ l ++ [(⟨6, (s.size : Int), 1, 0, ⟨#[]⟩⟩ : T5)] ++ m.map (T5.sft (s.size + 1))) = L := by rw [hL.out]; rfl
    rw [e] at hn h2
    have := sameQ L L p q c d w (by rw [hnL.out]; omega) (by rw [hnL.out]; omega) h1 h2
    rw [decide_eq_true rfl, ← hn] at this
    rw [hnL.out] at hn
    subst hn
    exact this
  have cM : ∀ (p : Option Addr) (c : Nat) (w : World), ToksAt w p c m → Calls Tryd.prog 10 #[.slice p nm c, .int .i64 ((s.size : Int) + 1)] w fun e w' => ∃ v, e = .returned v ∧ Own w.heap.size w' v (m.map (T5.sft (s.size + 1))) ∧ Below w.heap.size w w' := fun p c w h => by
    have := movedR m p c (s.size + 1) w (by omega) (by rw [hnm.out]; exact g2) h gb
    rw [hnm.out] at this
    rw [show ((s.size : Int) + 1) = ((s.size + 1 : Nat) : Int) by omega]
    exact this
  go_enter Tryd.func4, Tryd.ntmps4
  go_wp2_with (first
    | (go_at_call 6; with_reducible refine (c1 _ hw2 hT1).mono ?_; rintro e1 w1 ⟨p1, n1, rfl, q1, b1⟩; have E1 := Below.then b1 (below_new w1 (.cells #[.int .i64 0, .int .i64 0, .slice none 0 0, .slice none 0 0, .string ⟨#[]⟩] 27)); obtain ⟨k0, k1, k2, k3, k4⟩ := new5b w1 (.int .i64 0) (.int .i64 0) (.slice none 0 0) (.slice none 0 0) (.string ⟨#[]⟩) 27)
    | (go_at_call 6; with_reducible refine (c2 _ (Nat.lt_of_lt_of_le hw2 (Below.size E1)) (Tabs.below hT1 E1)).mono ?_; rintro e2 w2 ⟨p2, n2, rfl, q2, b2⟩; have B2 := Below.then b2 (below_new w2 (.cells #[.int .i64 0, .int .i64 0, .slice none 0 0, .slice none 0 0, .string ⟨#[]⟩] 27)); have E2 := Below.then E1 B2; have j0 := cell_below k0 B2; obtain ⟨m0, m1, m2, m3, m4⟩ := new5b w2 (.int .i64 0) (.int .i64 0) (.slice none 0 0) (.slice none 0 0) (.string ⟨#[]⟩) 27)
    | (go_at_call 6; with_reducible refine (c3 _ (Nat.lt_of_lt_of_le hw2 (Below.size E2)) (Tabs.below hT1 E2)).mono ?_; rintro e3 w3 ⟨p3, n3, rfl, q3, b3⟩; have B3 := Below.then b3 (below_new w3 (.cells #[.int .i64 0, .int .i64 0, .slice none 0 0, .slice none 0 0, .string ⟨#[]⟩] 27)); have E3 := Below.then E2 B3; have i0 := cell_below j0 B3; have o0 := cell_below m0 B3; have o1 := cell_below m1 B3; obtain ⟨y0, y1, y2, y3, y4⟩ := new5b w3 (.int .i64 0) (.int .i64 0) (.slice none 0 0) (.slice none 0 0) (.string ⟨#[]⟩) 27; have Q1 := (q1.below (Below.then (Below.then (below_new w1 (.cells #[.int .i64 0, .int .i64 0, .slice none 0 0, .slice none 0 0, .string ⟨#[]⟩] 27)) B2) B3)); have Q2 := q2.below (Below.then (below_new w2 (.cells #[.int .i64 0, .int .i64 0, .slice none 0 0, .slice none 0 0, .string ⟨#[]⟩] 27)) B3); have Q3 := q3.below (below_new w3 (.cells #[.int .i64 0, .int .i64 0, .slice none 0 0, .slice none 0 0, .string ⟨#[]⟩] 27)); have X0 := below_new (w3.alloc (.cells #[.int .i64 0, .int .i64 0, .slice none 0 0, .slice none 0 0, .string ⟨#[]⟩] 27)) (.cells #[] 36); have O0 := Own.emptied (w3.alloc (.cells #[.int .i64 0, .int .i64 0, .slice none 0 0, .slice none 0 0, .string ⟨#[]⟩] 27)); have z3 : (w3.alloc (.cells #[.int .i64 0, .int .i64 0, .slice none 0 0, .slice none 0 0, .string ⟨#[]⟩] 27)).heap.size = w3.heap.size + 1 := (by simp); rw [z3] at O0)
    | (at_builtin; refine wpList_toks rfl _ _ rfl (w3.heap.size + 1) _ rfl [] O0 (by simp) p1 n1 nl l hnl.out rfl (Q1.below X0) (by simp; omega) ?_; intro v4 w4 O4 b4; rw [← z3] at b4; have X4 := X0.trans b4; have s4 := X4.size; rw [z3] at s4; obtain ⟨a4, n4, c4, rfl⟩ := O4.form3; have O4b := O4.below (below_new w4 (.cells #[.int .i64 6, .int .i64 (s.size : Int), .int .i64 1, .int .i64 0, .string ⟨#[]⟩] 36)); have X5 := X4.trans ((below_new w4 (.cells #[.int .i64 6, .int .i64 (s.size : Int), .int .i64 1, .int .i64 0, .string ⟨#[]⟩] 36)).mono (by rw [z3]; exact s4)))
    | (at_builtin; refine wpList_toks rfl _ _ rfl (w3.heap.size + 1) _ rfl _ O4b (by simp; omega) (some ⟨w4.heap.size, 0, none⟩) 1 1 [(⟨6, (s.size : Int), 1, 0, ⟨#[]⟩⟩ : T5)] rfl rfl (toks_one w4 ⟨6, (s.size : Int), 1, 0, ⟨#[]⟩⟩) (by simp; omega) ?_; intro v5 w5 O5 b5; rw [← z3] at b5; have X6 := X5.trans b5; have s5 := X6.size; rw [z3] at s5; obtain ⟨a5, n5, c5, rfl⟩ := O5.form3; have R2 := Q2.below X6)
    | (go_at_call 10; with_reducible refine (cM _ _ _ R2).mono ?_; rintro e6 w6 ⟨v6, rfl, O6, b6⟩; obtain ⟨a6, n6, c6, rfl⟩ := O6.form3; obtain ⟨z6', T6⟩ := O6.toks; have z6 := hid z6'; clear z6'; have O5b := O5.below b6; have X7 := X6.trans (b6.mono (by rw [z3]; exact s5)); have s6 := X7.size; rw [z3] at s6)
    | (at_builtin; refine wpList_toks rfl _ _ rfl (w3.heap.size + 1) _ rfl _ O5b s6 a6 c6 n6 _ z6.out.symm rfl T6 (by simp; omega) ?_; intro v8 w8 O8 b8; rw [← z3] at b8; have X8 := X7.trans b8; obtain ⟨a8, n8, c8, rfl⟩ := O8.form3; obtain ⟨z8', T8⟩ := O8.toks; have z8 := hid z8'; clear z8'; have y8 := cell_below y0 X8; have R3 := Q3.below X8; have E8 := Below.then E3 X8)
    | (go_at_call 11; with_reducible refine (cS _ _ _ _ _ _ z8.out R3 T8).mono ?_; rintro e9 w9 ⟨rfl, b9⟩; have E9 := Below.then E8 b9)
    | (go_at_call 5; with_reducible refine (exampleL _ (Nat.lt_of_lt_of_le hw2 (Below.size E9)) (Tabs.below hT1 E9) (TZ.below hT2 E9)).mono ?_; rintro e5 w10 ⟨rfl, b10⟩))
  go_ret
  exact ⟨rfl, Below.then E9 b10⟩
set_option maxRecDepth 100000 in
set_option maxHeartbeats 16000000 in
theorem joinsQ (s t : ByteArray) (w : World) (hw2 : 5 < w.heap.size) (hT1 : Tabs w) (hT2 : TZ w) :
    Calls Tryd.prog 4 #[.string s, .string t] w fun e w' => e = .returned (.bool true) ∧ Below w.heap.size w w' := by
  by_cases hs : s.size ≤ 2000
  · by_cases ht : t.size ≤ 2000
    · cases hr1 : scanS s with
      | bad e a => exact joinsA s t hs ht e a hr1 w hw2 hT1 hT2
      | ok l =>
        cases hr : scanS t with
        | bad e a => exact joinsB s t hs ht l e a hr1 hr w hw2 hT1 hT2
        | ok m => exact joinsC s t hs ht l m hr1 hr w hw2 hT1 hT2
    · have hs' : ¬ (2000 : Int) < (s.size : Int) := by omega
      have ht' : (2000 : Int) < (t.size : Int) := by omega
      go_enter Tryd.func4, Tryd.ntmps4
      go_wp2_with (go_at_call 5; with_reducible refine (exampleL _ hw2 hT1 hT2).mono ?_; rintro e3 w3 ⟨rfl, b3⟩)
      go_ret
      exact ⟨rfl, b3⟩
  · have hs' : (2000 : Int) < (s.size : Int) := by omega
    go_enter Tryd.func4, Tryd.ntmps4
    go_wp2_with (go_at_call 5; with_reducible refine (exampleL _ hw2 hT1 hT2).mono ?_; rintro e3 w3 ⟨rfl, b3⟩)
    go_ret
    exact ⟨rfl, b3⟩
end Go.Proofs.YtafjdncajpjmlaaDoor.Tok
