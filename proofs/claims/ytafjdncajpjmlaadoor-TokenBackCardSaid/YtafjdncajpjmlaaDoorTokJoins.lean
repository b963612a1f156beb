/-
  Layer 8: the law TokenJoins where the first text has a fault. (Written by wip/gen/token-joins.py.)
-/
import Derived.Test.YtafjdncajpjmlaaDoorTokEx
import Derived.Test.YtafjdncajpjmlaaDoorTokEsc
import Derived.Test.YtafjdncajpjmlaaDoorTokMov
namespace Go.Proofs.YtafjdncajpjmlaaDoor.Tok
open Go.RowKit
set_option linter.unusedVariables false
set_option linter.unusedSimpArgs false

/-- Scan, where it fails. -/
theorem scanB (s : ByteArray) (hs : s.size ≤ 65536) (e : Int) (a : Nat) (hr : scanS s = .bad e a) (w : World) (h1 : 5 < w.heap.size) (h2 : Tabs w) :
    Calls Tryd.prog 6 #[.string s] w fun r w' => r = .returned (.tuple #[.slice none 0 0, .agg #[.int .i64 e, .int .i64 (a : Int), .slice none 0 0, .slice none 0 0, .string ⟨#[]⟩]]) ∧ Below w.heap.size w w' :=
  (scanQ s hs (escOK s hs) w h1 h2).mono fun r w' q => by
    rw [hr] at q
    exact ⟨q.2, q.1⟩
/-- Scan, where it doesn't. -/
theorem scanO (s : ByteArray) (hs : s.size ≤ 65536) (l : List T5) (hr : scanS s = .ok l) (w : World) (h1 : 5 < w.heap.size) (h2 : Tabs w) :
    Calls Tryd.prog 6 #[.string s] w fun r w' => ∃ p c, r = .returned (.tuple #[.slice p l.length c, .agg #[.int .i64 0, .int .i64 0, .slice none 0 0, .slice none 0 0, .string ⟨#[]⟩]]) ∧ ToksAt w' p c l ∧ Below w.heap.size w w' :=
  (scanQ s hs (escOK s hs) w h1 h2).mono fun r w' q => by
    rw [hr] at q
    obtain ⟨q1, v, q2, q3⟩ := q
    obtain ⟨p, c, rfl⟩ := q3.form
    exact ⟨p, c, q2, q3.toks.2, q1⟩
theorem scan_err {s : ByteArray} {e : Int} {a : Nat} : ∀ (f i : Nat) (acc : List T5), scanGo s f i acc = .bad e a → ¬ e = 0
  | 0, i, acc, h => by rw [scanGo] at h; cases h
  | f + 1, i, acc, h => by
    rw [scanGo] at h
    split at h
    · cases ht : tokenS s i with
      | bad e' a' =>
        rw [ht] at h
        injection h with h1 h2
        rw [← h1]; exact tokenS_bad ht
      | tok k n t j =>
        rw [ht] at h
        simp only at h
        split at h
        · injection h with h1 h2
          rw [← h1]; decide
        · exact scan_err f _ _ h
    · cases h
theorem scanA (s : ByteArray) (hs : s.size ≤ 65536) (w : World) (h1 : 5 < w.heap.size) (h2 : Tabs w) :
    Calls Tryd.prog 6 #[.string s] w fun r w' => ∃ p n c x y, r = .returned (.tuple #[.slice p n c, .agg #[.int .i64 x, .int .i64 y, .slice none 0 0, .slice none 0 0, .string ⟨#[]⟩]]) ∧ Below w.heap.size w w' := by
  cases hr : scanS s with
  | bad e a => exact (scanB s hs e a hr w h1 h2).mono fun r w' q => ⟨_, _, _, _, _, q.1, q.2⟩
  | ok l => exact (scanO s hs l hr w h1 h2).mono fun r w' ⟨p, c, q1, q2, q3⟩ => ⟨_, _, _, _, _, q1, q3⟩
set_option maxRecDepth 100000 in
set_option maxHeartbeats 16000000 in
theorem joinsA (s t : ByteArray) (hs : s.size ≤ 2000) (ht : t.size ≤ 2000) (e : Int) (a : Nat) (hr : scanS s = .bad e a) (w : World) (hw2 : 5 < w.heap.size) (hT1 : Tabs w) (hT2 : TZ w) :
    Calls Tryd.prog 4 #[.string s, .string t] w fun e w' => e = .returned (.bool true) ∧ Below w.heap.size w w' := by
  have hJ : scanS (s ++ ⟨#[10]⟩ ++ t) = .bad e a := by rw [scan_joined s t hs ht, hr]; rfl
  have hz := join_size s t
  have he : (e == 0) = false := by simpa using scan_err _ _ _ hr
  have c1 := scanB s (by omega) e a hr
  have c2 := scanA t (by omega)
  have c3 := scanB _ (by omega) e a hJ
  have hs' : ¬ (2000 : Int) < (s.size : Int) := by omega
  have ht' : ¬ (2000 : Int) < (t.size : Int) := by omega
  have a1 := fun w => run_string_add_sum (P := Tryd.prog) w s ⟨#[10]⟩ (by show s.size + 1 ≤ _; omega)
  have a2 := fun w => run_string_add_sum (P := Tryd.prog) w (s ++ ⟨#[10]⟩) t (by rw [ByteArray.size_append]; show s.size + 1 + t.size ≤ _; omega)
  generalize s ++ ⟨#[10]⟩ ++ t = J at *
  clear hJ hr hz
  go_enter Tryd.func4, Tryd.ntmps4
  go_wp2_with (first
    | (go_at_call 6; with_reducible refine (c1 _ hw2 hT1).mono ?_; rintro e1 w1 ⟨rfl, b1⟩; have E1 := Below.then b1 (below_new w1 (.cells #[.int .i64 e, .int .i64 (a : Int), .slice none 0 0, .slice none 0 0, .string ⟨#[]⟩] 27)); obtain ⟨k0, k1, k2, k3, k4⟩ := new5b w1 (.int .i64 e) (.int .i64 (a : Int)) (.slice none 0 0) (.slice none 0 0) (.string ⟨#[]⟩) 27)
    | (go_at_call 6; with_reducible refine (c2 _ (Nat.lt_of_lt_of_le hw2 (Below.size E1)) (Tabs.below hT1 E1)).mono ?_; rintro e2 w2 ⟨p2, n2, c2, x2, y2, rfl, b2⟩; have B2 := Below.then b2 (below_new w2 (.cells #[.int .i64 x2, .int .i64 y2, .slice none 0 0, .slice none 0 0, .string ⟨#[]⟩] 27)); have E2 := Below.then E1 B2; have j0 := cell_below k0 B2; have j1 := cell_below k1 B2; have j2 := cell_below k2 B2; have j3 := cell_below k3 B2; have j4 := cell_below k4 B2)
    | (go_at_call 6; with_reducible refine (c3 _ (Nat.lt_of_lt_of_le hw2 (Below.size E2)) (Tabs.below hT1 E2)).mono ?_; rintro e3 w3 ⟨rfl, b3⟩; have B3 := Below.then b3 (below_new w3 (.cells #[.int .i64 e, .int .i64 (a : Int), .slice none 0 0, .slice none 0 0, .string ⟨#[]⟩] 27)); have E3 := Below.then E2 B3; have i0 := cell_below j0 B3; have i1 := cell_below j1 B3; have i2 := cell_below j2 B3; have i3 := cell_below j3 B3; have i4 := cell_below j4 B3)
    | (go_at_call 9; with_reducible refine (sameFaultR _ _ _).mono ?_; rintro e4 w4 ⟨rfl, b4⟩; have E4 := Below.then E3 b4)
    | (go_at_call 5; with_reducible refine (exampleL _ (Nat.lt_of_lt_of_le hw2 (Below.size E4)) (Tabs.below hT1 E4) (TZ.below hT2 E4)).mono ?_; rintro e5 w5 ⟨rfl, b5⟩))
  go_ret
  exact ⟨rfl, Below.then E4 b5⟩
set_option maxRecDepth 100000 in
set_option maxHeartbeats 16000000 in
theorem joinsB (s t : ByteArray) (hs : s.size ≤ 2000) (ht : t.size ≤ 2000) (l : List T5) (e : Int) (a : Nat) (hr1 : scanS s = .ok l) (hr : scanS t = .bad e a) (w : World) (hw2 : 5 < w.heap.size) (hT1 : Tabs w) (hT2 : TZ w) :
    Calls Tryd.prog 4 #[.string s, .string t] w fun e w' => e = .returned (.bool true) ∧ Below w.heap.size w w' := by
  have hJ : scanS (s ++ ⟨#[10]⟩ ++ t) = .bad e (s.size + 1 + a) := by rw [scan_joined s t hs ht, hr1, hr]; rfl
  have hz := join_size s t
  have he : (e == 0) = false := by simpa using scan_err _ _ _ hr
  have ha := scanS_bad hr
  have c1 := scanO s (by omega) l hr1
  have c2 := scanB t (by omega) e a hr
  have c3 := scanB _ (by omega) e (s.size + 1 + a) hJ
  have hs' : ¬ (2000 : Int) < (s.size : Int) := by omega
  have ht' : ¬ (2000 : Int) < (t.size : Int) := by omega
  have a1 := fun w => run_string_add_sum (P := Tryd.prog) w s ⟨#[10]⟩ (by show s.size + 1 ≤ _; omega)
  have a2 := fun w => run_string_add_sum (P := Tryd.prog) w (s ++ ⟨#[10]⟩) t (by rw [ByteArray.size_append]; show s.size + 1 + t.size ≤ _; omega)
  generalize s ++ ⟨#[10]⟩ ++ t = J at *
  obtain ⟨x, hx⟩ : ∃ x : Int, x = ((s.size + 1 + a : Nat) : Int) := ⟨_, rfl⟩
  rw [← hx] at c3
  have hq : (x == (a : Int) + (s.size : Int) + 1) = true := by simp; omega
  have ha2 : (a : Int) ≤ 2000 := by omega
  have hs2 : (s.size : Int) ≤ 2000 := by omega
  clear hJ hr hr1 hz hx
  go_enter Tryd.func4, Tryd.ntmps4
  go_wp2_with (first
    | (go_at_call 6; with_reducible refine (c1 _ hw2 hT1).mono ?_; rintro e1 w1 ⟨p1, n1, rfl, q1, b1⟩; have E1 := Below.then b1 (below_new w1 (.cells #[.int .i64 0, .int .i64 0, .slice none 0 0, .slice none 0 0, .string ⟨#[]⟩] 27)); obtain ⟨k0, k1, k2, k3, k4⟩ := new5b w1 (.int .i64 0) (.int .i64 0) (.slice none 0 0) (.slice none 0 0) (.string ⟨#[]⟩) 27)
    | (go_at_call 6; with_reducible refine (c2 _ (Nat.lt_of_lt_of_le hw2 (Below.size E1)) (Tabs.below hT1 E1)).mono ?_; rintro e2 w2 ⟨rfl, b2⟩; have B2 := Below.then b2 (below_new w2 (.cells #[.int .i64 e, .int .i64 (a : Int), .slice none 0 0, .slice none 0 0, .string ⟨#[]⟩] 27)); have E2 := Below.then E1 B2; have j0 := cell_below k0 B2; obtain ⟨m0, m1, m2, m3, m4⟩ := new5b w2 (.int .i64 e) (.int .i64 (a : Int)) (.slice none 0 0) (.slice none 0 0) (.string ⟨#[]⟩) 27)
    | (go_at_call 6; with_reducible refine (c3 _ (Nat.lt_of_lt_of_le hw2 (Below.size E2)) (Tabs.below hT1 E2)).mono ?_; rintro e3 w3 ⟨rfl, b3⟩; have B3 := Below.then b3 (below_new w3 (.cells #[.int .i64 e, .int .i64 x, .slice none 0 0, .slice none 0 0, .string ⟨#[]⟩] 27)); have E3 := Below.then E2 B3; have i0 := cell_below j0 B3; have o0 := cell_below m0 B3; have o1 := cell_below m1 B3; obtain ⟨y0, y1, y2, y3, y4⟩ := new5b w3 (.int .i64 e) (.int .i64 x) (.slice none 0 0) (.slice none 0 0) (.string ⟨#[]⟩) 27)
    | (go_at_call 5; with_reducible refine (exampleL _ (Nat.lt_of_lt_of_le hw2 (Below.size E3)) (Tabs.below hT1 E3) (TZ.below hT2 E3)).mono ?_; rintro e5 w5 ⟨rfl, b5⟩))
  go_ret
  exact ⟨rfl, Below.then E3 b5⟩
end Go.Proofs.YtafjdncajpjmlaaDoor.Tok
