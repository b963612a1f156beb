/-
  Layer 8: the law TokenBack.
-/
import Derived.Test.YtafjdncajpjmlaaDoorTokAlike
import Derived.Test.YtafjdncajpjmlaaDoorTokJoins
namespace Go.Proofs.YtafjdncajpjmlaaDoor.Tok
open Go.RowKit
set_option linter.unusedVariables false
set_option linter.unusedSimpArgs false

set_option maxRecDepth 100000 in
set_option maxHeartbeats 16000000 in
theorem backB (s : ByteArray) (hs : s.size ≤ 2000) (e : Int) (a : Nat) (hr : scanS s = .bad e a) (w : World) (hw2 : 5 < w.heap.size) (hT1 : Tabs w) (hT2 : TZ w) :
    Calls Tryd.prog 3 #[.string s] w fun e w' => e = .returned (.bool true) ∧ Below w.heap.size w w' := by
  have he : (e == 0) = false := by simpa using scan_err _ _ _ hr
  have he2 : (e != 0) = true := by simpa using scan_err _ _ _ hr
  have c1 := scanB s (by omega) e a hr
  have hs' : ¬ (2000 : Int) < (s.size : Int) := by omega
  clear hr
  go_enter Tryd.func3, Tryd.ntmps3
  go_wp2_with (first
    | (go_at_call 6; with_reducible refine (c1 _ hw2 hT1).mono ?_; rintro e1 w1 ⟨rfl, b1⟩; have E1 := Below.then b1 (below_new w1 (.cells #[.int .i64 e, .int .i64 (a : Int), .slice none 0 0, .slice none 0 0, .string ⟨#[]⟩] 27)); obtain ⟨k0, k1, k2, k3, k4⟩ := new5b w1 (.int .i64 e) (.int .i64 (a : Int)) (.slice none 0 0) (.slice none 0 0) (.string ⟨#[]⟩) 27)
    | (go_at_call 5; with_reducible refine (exampleL _ (Nat.lt_of_lt_of_le hw2 (Below.size E1)) (Tabs.below hT1 E1) (TZ.below hT2 E1)).mono ?_; rintro e5 w5 ⟨rfl, b5⟩))
  go_ret
  exact ⟨rfl, Below.then E1 b5⟩
set_option maxRecDepth 100000 in
set_option maxHeartbeats 16000000 in
theorem backO (s : ByteArray) (hs : s.size ≤ 2000) (l : List T5) (hr : scanS s = .ok l) (w : World) (hw2 : 5 < w.heap.size) (hT1 : Tabs w) (hT2 : TZ w) :
    Calls Tryd.prog 3 #[.string s] w fun e w' => e = .returned (.bool true) ∧ Below w.heap.size w w' := by
  obtain ⟨⟨m, hm, hk⟩, hlen, hll, hn⟩ := scan_back hs hr
  have c1 := scanO s (by omega) l hr
  have hz : (⟨(showS l).toArray⟩ : ByteArray).size ≤ 65536 := by rw [Lib.size_eq, arr_of]; omega
  have c3 := scanO _ hz m hm
  have hs' : ¬ (2000 : Int) < (s.size : Int) := by omega
  obtain ⟨nl, hnl⟩ : ∃ n, Hid (l.length = n) := ⟨l.length, rfl⟩
  obtain ⟨nm, hnm⟩ : ∃ n, Hid (m.length = n) := ⟨m.length, rfl⟩
  have cS : ∀ (p : Option Addr) (c : Nat) (w : World), Tabs w → TZ w → ToksAt w p c l → Calls Tryd.prog 7 #[.slice p nl c] w fun e w' => e = .returned (.string ⟨(showS l).toArray⟩) ∧ Below w.heap.size w w' := fun p c w h1 h2 h3 => by
    obtain ⟨q1, m, o, q2, q3⟩ := h3
    have := ShowQ l p c m o w h1 h2 (by omega) q1 q2 q3 hn (by omega)
    rw [hnl.out] at this
    exact this
  have cA : ∀ (p q : Option Addr) (c d : Nat) (w : World), ToksAt w p c l → ToksAt w q d m → Calls Tryd.prog 8 #[.slice p nl c, .slice q nm d] w fun e w' => e = .returned (.bool true) ∧ Below w.heap.size w w' := fun p q c d w h1 h2 => by
    have := alikeR l m p q c d w (by omega) hk h1 h2
    rw [hnl.out, hnm.out] at this
    exact this
  rw [hnl.out] at c1
  rw [hnm.out] at c3
  generalize (⟨(showS l).toArray⟩ : ByteArray) = T at *
  clear hr hm hk hn hlen hll
  go_enter Tryd.func3, Tryd.ntmps3
  go_wp2_with (first
    | (go_at_call 6; with_reducible refine (c1 _ hw2 hT1).mono ?_; rintro e1 w1 ⟨p1, n1, rfl, q1, b1⟩; have E1 := Below.then b1 (below_new w1 (.cells #[.int .i64 0, .int .i64 0, .slice none 0 0, .slice none 0 0, .string ⟨#[]⟩] 27)); obtain ⟨k0, k1, k2, k3, k4⟩ := new5b w1 (.int .i64 0) (.int .i64 0) (.slice none 0 0) (.slice none 0 0) (.string ⟨#[]⟩) 27; have Q1 := q1.below (below_new w1 (.cells #[.int .i64 0, .int .i64 0, .slice none 0 0, .slice none 0 0, .string ⟨#[]⟩] 27)))
    | (go_at_call 7; with_reducible refine (cS _ _ _ (Tabs.below hT1 E1) (TZ.below hT2 E1) Q1).mono ?_; rintro e2 w2 ⟨rfl, b2⟩; have E2 := Below.then E1 b2; have Q2 := Q1.below b2)
    | (go_at_call 6; with_reducible refine (c3 _ (Nat.lt_of_lt_of_le hw2 (Below.size E2)) (Tabs.below hT1 E2)).mono ?_; rintro e3 w3 ⟨p3, n3, rfl, q3, b3⟩; have B3 := Below.then b3 (below_new w3 (.cells #[.int .i64 0, .int .i64 0, .slice none 0 0, .slice none 0 0, .string ⟨#[]⟩] 27)); have E3 := Below.then E2 B3; obtain ⟨y0, y1, y2, y3, y4⟩ := new5b w3 (.int .i64 0) (.int .i64 0) (.slice none 0 0) (.slice none 0 0) (.string ⟨#[]⟩) 27; have R1 := Q2.below B3; have R3 := q3.below (below_new w3 (.cells #[.int .i64 0, .int .i64 0, .slice none 0 0, .slice none 0 0, .string ⟨#[]⟩] 27)))
    | (go_at_call 8; with_reducible refine (cA _ _ _ _ _ R1 R3).mono ?_; rintro e4 w4 ⟨rfl, b4⟩; have E4 := Below.then E3 b4)
    | (go_at_call 5; with_reducible refine (exampleL _ (Nat.lt_of_lt_of_le hw2 (Below.size E4)) (Tabs.below hT1 E4) (TZ.below hT2 E4)).mono ?_; rintro e5 w5 ⟨rfl, b5⟩))
  go_ret
  exact ⟨rfl, Below.then E4 b5⟩
set_option maxRecDepth 100000 in
set_option maxHeartbeats 16000000 in
theorem backQ (s : ByteArray) (w : World) (hw2 : 5 < w.heap.size) (hT1 : Tabs w) (hT2 : TZ w) :
    Calls Tryd.prog 3 #[.string s] w fun e w' => e = .returned (.bool true) ∧ Below w.heap.size w w' := by
  by_cases hs : s.size ≤ 2000
  · cases hr : scanS s with
    | bad e a => exact backB s hs e a hr w hw2 hT1 hT2
    | ok l => exact backO s hs l hr w hw2 hT1 hT2
  · have hs' : (2000 : Int) < (s.size : Int) := by omega
    go_enter Tryd.func3, Tryd.ntmps3
    go_wp2_with (go_at_call 5; with_reducible refine (exampleL _ hw2 hT1 hT2).mono ?_; rintro e3 w3 ⟨rfl, b3⟩)
    go_ret
    exact ⟨rfl, b3⟩
end Go.Proofs.YtafjdncajpjmlaaDoor.Tok
