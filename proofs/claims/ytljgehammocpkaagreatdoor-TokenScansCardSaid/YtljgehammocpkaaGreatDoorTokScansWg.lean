/-
  Layer 8: the law TokenScans.
-/
import Derived.Test.YtljgehammocpkaaGreatDoorTokRS10g
import Derived.Test.YtljgehammocpkaaGreatDoorTokJoinsg
namespace Go.Proofs.YtljgehammocpkaaGreatDoor.Tok
open Go.RowKit
set_option linter.unusedVariables false
set_option linter.unusedSimpArgs false

/-- The reference's Scan, where it fails. -/
theorem scanRB (s : ByteArray) (hs : s.size ≤ 65536) (e : Int) (a : Nat) (hr : scanS s = .bad e a) (w : World) :
    Calls Tryz.prog 12 #[.string s] w fun r w' => r = .returned (.tuple #[.slice none 0 0, .agg #[.int .i64 e, .int .i64 (a : Int), .slice none 0 0, .slice none 0 0, .string ⟨#[]⟩]]) ∧ Below w.heap.size w w' :=
  (scanR s hs w).mono fun r w' q => by
    rw [hr] at q
    exact ⟨q.2, q.1⟩
/-- The reference's Scan, where it doesn't. -/
theorem scanRO (s : ByteArray) (hs : s.size ≤ 65536) (l : List T5) (hr : scanS s = .ok l) (w : World) :
    Calls Tryz.prog 12 #[.string s] w fun r w' => ∃ p c, r = .returned (.tuple #[.slice p l.length c, .agg #[.int .i64 0, .int .i64 0, .slice none 0 0, .slice none 0 0, .string ⟨#[]⟩]]) ∧ ToksAt w' p c l ∧ Below w.heap.size w w' :=
  (scanR s hs w).mono fun r w' q => by
    rw [hr] at q
    obtain ⟨q1, v, q2, q3⟩ := q
    obtain ⟨p, c, rfl⟩ := q3.form
    exact ⟨p, c, q2, q3.toks.2, q1⟩
theorem same_nil (w : World) : Calls Tryz.prog 13 #[.slice none 0 0, .slice none 0 0] w fun e w' => e = .returned (.bool true) ∧ Below w.heap.size w w' := by
  have h : ToksAt w none 0 [] := ⟨Nat.le_refl _, 0, 0, fun h => absurd rfl h, fun j hj => absurd hj (by simp)⟩
  have := sameQ [] [] none none 0 0 w (by simp) (by simp) h h
  rw [decide_eq_true rfl] at this
  exact this
set_option maxRecDepth 100000 in
set_option maxHeartbeats 16000000 in
theorem scansB (s : ByteArray) (hs : s.size ≤ 2000) (e : Int) (a : Nat) (hr : scanS s = .bad e a) (w : World) (hw2 : 7 < w.heap.size) (hT1 : Tabs w) (hT2 : TZ w) :
    Calls Tryz.prog 3 #[.string s] w fun e w' => e = .returned (.bool true) ∧ Below w.heap.size w w' := by
  have c1 := scanB s (by omega) e a hr
  have c2 := scanRB s (by omega) e a hr
  have hs' : ¬ (2000 : Int) < (s.size : Int) := by omega
  clear hr
  go_enter Tryz.func3, Tryz.ntmps3
  go_wp2_with (first
    | (go_at_call 11; with_reducible refine (c1 _ hw2 hT1).mono ?_; rintro e1 w1 ⟨rfl, b1⟩; have E1 := Below.then b1 (below_new w1 (.cells #[.int .i64 e, .int .i64 (a : Int), .slice none 0 0, .slice none 0 0, .string ⟨#[]⟩] 27)); obtain ⟨k0, k1, k2, k3, k4⟩ := new5b w1 (.int .i64 e) (.int .i64 (a : Int)) (.slice none 0 0) (.slice none 0 0) (.string ⟨#[]⟩) 27)
    | (go_at_call 12; with_reducible refine (c2 _).mono ?_; rintro e2 w2 ⟨rfl, b2⟩; have B2 := Below.then b2 (below_new w2 (.cells #[.int .i64 e, .int .i64 (a : Int), .slice none 0 0, .slice none 0 0, .string ⟨#[]⟩] 27)); have E2 := Below.then E1 B2; have j0 := cell_below k0 B2; have j1 := cell_below k1 B2; have j2 := cell_below k2 B2; have j3 := cell_below k3 B2; have j4 := cell_below k4 B2; obtain ⟨m0, m1, m2, m3, m4⟩ := new5b w2 (.int .i64 e) (.int .i64 (a : Int)) (.slice none 0 0) (.slice none 0 0) (.string ⟨#[]⟩) 27)
    | (go_at_call 13; with_reducible refine (same_nil _).mono ?_; rintro e3 w3 ⟨rfl, b3⟩; have E3 := Below.then E2 b3; have i0 := cell_below j0 b3; have i1 := cell_below j1 b3; have i2 := cell_below j2 b3; have i3 := cell_below j3 b3; have i4 := cell_below j4 b3; have o0 := cell_below m0 b3; have o1 := cell_below m1 b3; have o2 := cell_below m2 b3; have o3 := cell_below m3 b3; have o4 := cell_below m4 b3)
    | (go_at_call 14; with_reducible refine (sameFaultR _ _ _).mono ?_; rintro e4 w4 ⟨rfl, b4⟩; have E4 := Below.then E3 b4)
    | (go_at_call 10; with_reducible refine (exampleL _ (Nat.lt_of_lt_of_le hw2 (Below.size E4)) (Tabs.below hT1 E4) (TZ.below hT2 E4)).mono ?_; rintro e5 w5 ⟨rfl, b5⟩))
  go_ret
  exact ⟨rfl, Below.then E4 b5⟩
set_option maxRecDepth 100000 in
set_option maxHeartbeats 16000000 in
theorem scansO (s : ByteArray) (hs : s.size ≤ 2000) (l : List T5) (hr : scanS s = .ok l) (hl : l.length ≤ 1000000) (w : World) (hw2 : 7 < w.heap.size) (hT1 : Tabs w) (hT2 : TZ w) :
    Calls Tryz.prog 3 #[.string s] w fun e w' => e = .returned (.bool true) ∧ Below w.heap.size w w' := by
  have c1 := scanO s (by omega) l hr
  have c2 := scanRO s (by omega) l hr
  have hs' : ¬ (2000 : Int) < (s.size : Int) := by omega
  obtain ⟨nl, hnl⟩ : ∃ n, Hid (l.length = n) := ⟨l.length, rfl⟩
  have cS : ∀ (p q : Option Addr) (c d : Nat) (w : World), ToksAt w p c l → ToksAt w q d l → Calls Tryz.prog 13 #[.slice p nl c, .slice q nl d] w fun e w' => e = .returned (.bool true) ∧ Below w.heap.size w w' := fun p q c d w h1 h2 => by
    have := sameQ l l p q c d w hl hl h1 h2
    rw [decide_eq_true rfl, hnl.out] at this
    exact this
  rw [hnl.out] at c1 c2
  clear hr hl
  go_enter Tryz.func3, Tryz.ntmps3
  go_wp2_with (first
    | (go_at_call 11; with_reducible refine (c1 _ hw2 hT1).mono ?_; rintro e1 w1 ⟨p1, n1, rfl, q1, b1⟩; have E1 := Below.then b1 (below_new w1 (.cells #[.int .i64 0, .int .i64 0, .slice none 0 0, .slice none 0 0, .string ⟨#[]⟩] 27)); obtain ⟨k0, k1, k2, k3, k4⟩ := new5b w1 (.int .i64 0) (.int .i64 0) (.slice none 0 0) (.slice none 0 0) (.string ⟨#[]⟩) 27; have Q1 := q1.below (below_new w1 (.cells #[.int .i64 0, .int .i64 0, .slice none 0 0, .slice none 0 0, .string ⟨#[]⟩] 27)))
    | (go_at_call 12; with_reducible refine (c2 _).mono ?_; rintro e2 w2 ⟨p2, n2, rfl, q2, b2⟩; have B2 := Below.then b2 (below_new w2 (.cells #[.int .i64 0, .int .i64 0, .slice none 0 0, .slice none 0 0, .string ⟨#[]⟩] 27)); have E2 := Below.then E1 B2; have j0 := cell_below k0 B2; have j1 := cell_below k1 B2; have j2 := cell_below k2 B2; have j3 := cell_below k3 B2; have j4 := cell_below k4 B2; obtain ⟨m0, m1, m2, m3, m4⟩ := new5b w2 (.int .i64 0) (.int .i64 0) (.slice none 0 0) (.slice none 0 0) (.string ⟨#[]⟩) 27; have R1 := Q1.below B2; have R2 := q2.below (below_new w2 (.cells #[.int .i64 0, .int .i64 0, .slice none 0 0, .slice none 0 0, .string ⟨#[]⟩] 27)))
    | (go_at_call 13; with_reducible refine (cS _ _ _ _ _ R1 R2).mono ?_; rintro e3 w3 ⟨rfl, b3⟩; have E3 := Below.then E2 b3; have i0 := cell_below j0 b3; have i1 := cell_below j1 b3; have i2 := cell_below j2 b3; have i3 := cell_below j3 b3; have i4 := cell_below j4 b3; have o0 := cell_below m0 b3; have o1 := cell_below m1 b3; have o2 := cell_below m2 b3; have o3 := cell_below m3 b3; have o4 := cell_below m4 b3)
    | (go_at_call 14; with_reducible refine (sameFaultR _ _ _).mono ?_; rintro e4 w4 ⟨rfl, b4⟩; have E4 := Below.then E3 b4)
    | (go_at_call 10; with_reducible refine (exampleL _ (Nat.lt_of_lt_of_le hw2 (Below.size E4)) (Tabs.below hT1 E4) (TZ.below hT2 E4)).mono ?_; rintro e5 w5 ⟨rfl, b5⟩))
  go_ret
  exact ⟨rfl, Below.then E4 b5⟩
set_option maxRecDepth 100000 in
set_option maxHeartbeats 16000000 in
theorem scansQ (s : ByteArray) (w : World) (hw2 : 7 < w.heap.size) (hT1 : Tabs w) (hT2 : TZ w) :
    Calls Tryz.prog 3 #[.string s] w fun e w' => e = .returned (.bool true) ∧ Below w.heap.size w w' := by
  by_cases hs : s.size ≤ 2000
  · cases hr : scanS s with
    | bad e a => exact scansB s hs e a hr w hw2 hT1 hT2
    | ok l => exact scansO s hs l hr (by have := (scanS_asc hr).2; omega) w hw2 hT1 hT2
  · have hs' : (2000 : Int) < (s.size : Int) := by omega
    go_enter Tryz.func3, Tryz.ntmps3
    go_wp2_with (go_at_call 10; with_reducible refine (exampleL _ hw2 hT1 hT2).mono ?_; rintro e3 w3 ⟨rfl, b3⟩)
    go_ret
    exact ⟨rfl, b3⟩
end Go.Proofs.YtljgehammocpkaaGreatDoor.Tok
