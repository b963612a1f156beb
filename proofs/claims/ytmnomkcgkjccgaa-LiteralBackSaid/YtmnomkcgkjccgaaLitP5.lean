/-
  Layer 9: the reader's methods inside, escaped, brace and digit. (Written by wip/gen/literal-reader.py.)
-/
import Derived.Test.YtmnomkcgkjccgaaLitP4
namespace Go.Proofs.Ytmnomkcgkjccgaa.Lit
open Go.RowKit
set_option linter.unusedVariables false
set_option linter.unusedSimpArgs false

/-- What a method of the reader leaves. -/
def Rout (w : World) (b B q : Nat) (r : Ot) (e : Ending) (w' : World) : Prop := match r with
  | .bad n => e = .returned (.int .i64 n) ∧ Fr b B w w'
  | .st y => e = .returned (.int .i64 0) ∧ (∃ v, RB w' b B q v y) ∧ Fr b B w w'
theorem Fr.here (b B : Nat) (w : World) : Fr b B w w := Fr.refl b B w
set_option maxRecDepth 100000 in
set_option maxHeartbeats 4000000 in
theorem inside1 (q : Nat) (x : St) (b B : Nat) (v : Value) (w : World) (hl : x.te.length ≤ 1000000) (h : RB w b B q v x) :
    Calls Try.prog 24 #[.pointer (some ⟨b, 0, none⟩), .int .i32 92] w (Rout w b B q (.st { x with pl := 2 })) := by
  obtain ⟨c0, c1, c2, c3, c4, f0, f1, f2, f3, f4⟩ := rd_cells h.2.2.1
  have R1 := (h.setPl 2)
  have F1 := (Fr.set b B 1 w (.int .i64 2))
  go_enter Try.func24, Try.ntmps24
  go_wp2
  go_ret
  exact ⟨rfl, ⟨v, R1⟩, F1⟩
set_option maxRecDepth 100000 in
set_option maxHeartbeats 4000000 in
theorem inside2 (q c : Nat) (hc : c ≤ 1114111) (h1 : c ≠ 92) (h2 : c ≠ q) (x : St) (b B : Nat) (v : Value) (w : World) (hl : x.te.length ≤ 1000000) (h : RB w b B q v x) :
    Calls Try.prog 24 #[.pointer (some ⟨b, 0, none⟩), .int .i32 (c : Int)] w (Rout w b B q (.st (x.add q c))) := by
  have k1 : ((c : Int) == 92) = false := by simp; omega
  have k2 : ((c : Int) == (q : Int)) = false := by simp; omega
  obtain ⟨c0, c1, c2, c3, c4, f0, f1, f2, f3, f4⟩ := rd_cells h.2.2.1
  go_enter Try.func24, Try.ntmps24
  go_wp2_with (go_at_call 28; with_reducible refine (addQ q c (by omega) x b B v _ hl h).mono ?_; rintro e1 w1 ⟨rfl, R1, F1⟩)
  go_ret
  exact ⟨rfl, R1, F1⟩
set_option maxRecDepth 100000 in
set_option maxHeartbeats 4000000 in
theorem inside3 (x : St) (b B : Nat) (v : Value) (w : World) (hl : x.te.length ≤ 1000000) (h : RB w b B 34 v x) :
    Calls Try.prog 24 #[.pointer (some ⟨b, 0, none⟩), .int .i32 34] w (Rout w b B 34 (.st { x with pl := 6 })) := by
  obtain ⟨c0, c1, c2, c3, c4, f0, f1, f2, f3, f4⟩ := rd_cells h.2.2.1
  have R1 := (h.setPl 6)
  have F1 := (Fr.set b B 1 w (.int .i64 6))
  go_enter Try.func24, Try.ntmps24
  go_wp2
  go_ret
  exact ⟨rfl, ⟨v, R1⟩, F1⟩
set_option maxRecDepth 100000 in
set_option maxHeartbeats 4000000 in
theorem inside4 (x : St) (b B : Nat) (v : Value) (w : World) (hl : x.te.length ≤ 1000000) (h : RB w b B 39 v x) :
    Calls Try.prog 24 #[.pointer (some ⟨b, 0, none⟩), .int .i32 39] w (Rout w b B 39 (.bad 5)) := by
  obtain ⟨c0, c1, c2, c3, c4, f0, f1, f2, f3, f4⟩ := rd_cells h.2.2.1
  go_enter Try.func24, Try.ntmps24
  go_wp2
  go_ret
  exact ⟨rfl, Fr.refl b B w⟩
theorem insideQ (q c : Nat) (hq : q = 34 ∨ q = 39) (hc : c ≤ 1114111) (x : St) (b B : Nat) (v : Value) (w : World) (hl : x.te.length ≤ 1000000) (h : RB w b B q v x) :
    Calls Try.prog 24 #[.pointer (some ⟨b, 0, none⟩), .int .i32 (c : Int)] w (Rout w b B q (inS q c x)) := by
  unfold inS
  by_cases h1 : c = 92
  · subst h1; rw [if_pos rfl]; exact inside1 q x b B v w hl h
  rw [if_neg h1]
  by_cases h2 : c = q
  · rw [if_neg (fun e => e h2)]
    subst h2
    rcases hq with rfl | rfl
    · rw [if_pos rfl]; exact inside3 x b B v w hl h
    · rw [if_neg (by decide)]; exact inside4 x b B v w hl h
  · rw [if_pos h2]; exact inside2 q c hc h1 h2 x b B v w hl h
set_option maxRecDepth 100000 in
set_option maxHeartbeats 4000000 in
theorem escaped1 (q : Nat) (x : St) (b B : Nat) (v : Value) (w : World) (hl : x.te.length ≤ 1000000) (h : RB w b B q v x) :
    Calls Try.prog 25 #[.pointer (some ⟨b, 0, none⟩), .int .i32 110] w (Rout w b B q (.st (x.add q 10))) := by
  obtain ⟨c0, c1, c2, c3, c4, f0, f1, f2, f3, f4⟩ := rd_cells h.2.2.1
  have cA : ∀ w, RB w b B q v x → Calls Try.prog 28 #[.pointer (some ⟨b, 0, none⟩), .int .i32 10] w fun e w' => e = .returned (.tuple #[]) ∧ (∃ v', RB w' b B q v' (x.add q 10)) ∧ Fr b B w w' := fun w h => addQ q 10 (by decide) x b B v w hl h
  go_enter Try.func25, Try.ntmps25
  go_wp2_with (go_at_call 28; with_reducible refine (cA _ h).mono ?_; rintro e1 w1 ⟨rfl, R1, F1⟩)
  go_ret
  exact ⟨rfl, R1, F1⟩
set_option maxRecDepth 100000 in
set_option maxHeartbeats 4000000 in
theorem escaped2 (q : Nat) (x : St) (b B : Nat) (v : Value) (w : World) (hl : x.te.length ≤ 1000000) (h : RB w b B q v x) :
    Calls Try.prog 25 #[.pointer (some ⟨b, 0, none⟩), .int .i32 116] w (Rout w b B q (.st (x.add q 9))) := by
  obtain ⟨c0, c1, c2, c3, c4, f0, f1, f2, f3, f4⟩ := rd_cells h.2.2.1
  have cA : ∀ w, RB w b B q v x → Calls Try.prog 28 #[.pointer (some ⟨b, 0, none⟩), .int .i32 9] w fun e w' => e = .returned (.tuple #[]) ∧ (∃ v', RB w' b B q v' (x.add q 9)) ∧ Fr b B w w' := fun w h => addQ q 9 (by decide) x b B v w hl h
  go_enter Try.func25, Try.ntmps25
  go_wp2_with (go_at_call 28; with_reducible refine (cA _ h).mono ?_; rintro e1 w1 ⟨rfl, R1, F1⟩)
  go_ret
  exact ⟨rfl, R1, F1⟩
set_option maxRecDepth 100000 in
set_option maxHeartbeats 4000000 in
theorem escaped3 (q : Nat) (x : St) (b B : Nat) (v : Value) (w : World) (hl : x.te.length ≤ 1000000) (h : RB w b B q v x) :
    Calls Try.prog 25 #[.pointer (some ⟨b, 0, none⟩), .int .i32 114] w (Rout w b B q (.st (x.add q 13))) := by
  obtain ⟨c0, c1, c2, c3, c4, f0, f1, f2, f3, f4⟩ := rd_cells h.2.2.1
  have cA : ∀ w, RB w b B q v x → Calls Try.prog 28 #[.pointer (some ⟨b, 0, none⟩), .int .i32 13] w fun e w' => e = .returned (.tuple #[]) ∧ (∃ v', RB w' b B q v' (x.add q 13)) ∧ Fr b B w w' := fun w h => addQ q 13 (by decide) x b B v w hl h
  go_enter Try.func25, Try.ntmps25
  go_wp2_with (go_at_call 28; with_reducible refine (cA _ h).mono ?_; rintro e1 w1 ⟨rfl, R1, F1⟩)
  go_ret
  exact ⟨rfl, R1, F1⟩
set_option maxRecDepth 100000 in
set_option maxHeartbeats 4000000 in
theorem escaped4 (q : Nat) (x : St) (b B : Nat) (v : Value) (w : World) (hl : x.te.length ≤ 1000000) (h : RB w b B q v x) :
    Calls Try.prog 25 #[.pointer (some ⟨b, 0, none⟩), .int .i32 92] w (Rout w b B q (.st (x.add q 92))) := by
  obtain ⟨c0, c1, c2, c3, c4, f0, f1, f2, f3, f4⟩ := rd_cells h.2.2.1
  have cA : ∀ w, RB w b B q v x → Calls Try.prog 28 #[.pointer (some ⟨b, 0, none⟩), .int .i32 92] w fun e w' => e = .returned (.tuple #[]) ∧ (∃ v', RB w' b B q v' (x.add q 92)) ∧ Fr b B w w' := fun w h => addQ q 92 (by decide) x b B v w hl h
  go_enter Try.func25, Try.ntmps25
  go_wp2_with (go_at_call 28; with_reducible refine (cA _ h).mono ?_; rintro e1 w1 ⟨rfl, R1, F1⟩)
  go_ret
  exact ⟨rfl, R1, F1⟩
set_option maxRecDepth 100000 in
set_option maxHeartbeats 4000000 in
theorem escaped5 (q : Nat) (x : St) (b B : Nat) (v : Value) (w : World) (hl : x.te.length ≤ 1000000) (h : RB w b B q v x) :
    Calls Try.prog 25 #[.pointer (some ⟨b, 0, none⟩), .int .i32 39] w (Rout w b B q (.st (x.add q 39))) := by
  obtain ⟨c0, c1, c2, c3, c4, f0, f1, f2, f3, f4⟩ := rd_cells h.2.2.1
  have cA : ∀ w, RB w b B q v x → Calls Try.prog 28 #[.pointer (some ⟨b, 0, none⟩), .int .i32 39] w fun e w' => e = .returned (.tuple #[]) ∧ (∃ v', RB w' b B q v' (x.add q 39)) ∧ Fr b B w w' := fun w h => addQ q 39 (by decide) x b B v w hl h
  go_enter Try.func25, Try.ntmps25
  go_wp2_with (go_at_call 28; with_reducible refine (cA _ h).mono ?_; rintro e1 w1 ⟨rfl, R1, F1⟩)
  go_ret
  exact ⟨rfl, R1, F1⟩
set_option maxRecDepth 100000 in
set_option maxHeartbeats 4000000 in
theorem escaped6 (q : Nat) (x : St) (b B : Nat) (v : Value) (w : World) (hl : x.te.length ≤ 1000000) (h : RB w b B q v x) :
    Calls Try.prog 25 #[.pointer (some ⟨b, 0, none⟩), .int .i32 34] w (Rout w b B q (.st (x.add q 34))) := by
  obtain ⟨c0, c1, c2, c3, c4, f0, f1, f2, f3, f4⟩ := rd_cells h.2.2.1
  have cA : ∀ w, RB w b B q v x → Calls Try.prog 28 #[.pointer (some ⟨b, 0, none⟩), .int .i32 34] w fun e w' => e = .returned (.tuple #[]) ∧ (∃ v', RB w' b B q v' (x.add q 34)) ∧ Fr b B w w' := fun w h => addQ q 34 (by decide) x b B v w hl h
  go_enter Try.func25, Try.ntmps25
  go_wp2_with (go_at_call 28; with_reducible refine (cA _ h).mono ?_; rintro e1 w1 ⟨rfl, R1, F1⟩)
  go_ret
  exact ⟨rfl, R1, F1⟩
set_option maxRecDepth 100000 in
set_option maxHeartbeats 4000000 in
theorem escaped7 (q : Nat) (x : St) (b B : Nat) (v : Value) (w : World) (hl : x.te.length ≤ 1000000) (h : RB w b B q v x) :
    Calls Try.prog 25 #[.pointer (some ⟨b, 0, none⟩), .int .i32 117] w (Rout w b B q (.st { x with pl := 3 })) := by
  obtain ⟨c0, c1, c2, c3, c4, f0, f1, f2, f3, f4⟩ := rd_cells h.2.2.1
  have R1 := (h.setPl 3)
  have F1 := (Fr.set b B 1 w (.int .i64 3))
  go_enter Try.func25, Try.ntmps25
  go_wp2
  go_ret
  exact ⟨rfl, ⟨v, R1⟩, F1⟩
set_option maxRecDepth 100000 in
set_option maxHeartbeats 4000000 in
theorem escaped8 (q c : Nat) (hc : c ≤ 1114111) (h1 : c ≠ 110) (h2 : c ≠ 116) (h3 : c ≠ 114) (h4 : c ≠ 92) (h5 : c ≠ 39) (h6 : c ≠ 34) (h7 : c ≠ 117) (x : St) (b B : Nat) (v : Value) (w : World) (hl : x.te.length ≤ 1000000) (h : RB w b B q v x) :
    Calls Try.prog 25 #[.pointer (some ⟨b, 0, none⟩), .int .i32 (c : Int)] w (Rout w b B q (.bad 3)) := by
  have k1 : ((c : Int) == 110) = false := by simp; omega
  have k2 : ((c : Int) == 116) = false := by simp; omega
  have k3 : ((c : Int) == 114) = false := by simp; omega
  have k4 : ((c : Int) == 92) = false := by simp; omega
  have k5 : ((c : Int) == 39) = false := by simp; omega
  have k6 : ((c : Int) == 34) = false := by simp; omega
  have k7 : ((c : Int) == 117) = false := by simp; omega
  obtain ⟨c0, c1, c2, c3, c4, f0, f1, f2, f3, f4⟩ := rd_cells h.2.2.1
  go_enter Try.func25, Try.ntmps25
  go_wp2
  go_ret
  exact ⟨rfl, Fr.refl b B w⟩
theorem escapedQ (q c : Nat) (hc : c ≤ 1114111) (x : St) (b B : Nat) (v : Value) (w : World) (hl : x.te.length ≤ 1000000) (h : RB w b B q v x) :
    Calls Try.prog 25 #[.pointer (some ⟨b, 0, none⟩), .int .i32 (c : Int)] w (Rout w b B q (escS q c x)) := by
  unfold escS
  by_cases h1 : c = 110
  · subst h1; exact escaped1 q x b B v w hl h
  by_cases h2 : c = 116
  · subst h2; exact escaped2 q x b B v w hl h
  by_cases h3 : c = 114
  · subst h3; exact escaped3 q x b B v w hl h
  by_cases h4 : c = 92
  · subst h4; exact escaped4 q x b B v w hl h
  by_cases h5 : c = 39
  · subst h5; exact escaped5 q x b B v w hl h
  by_cases h6 : c = 34
  · subst h6; exact escaped6 q x b B v w hl h
  by_cases h7 : c = 117
  · subst h7; exact escaped7 q x b B v w hl h
  rw [if_neg h1, if_neg h2, if_neg h3, if_neg (by omega), if_neg h7]
  exact escaped8 q c hc h1 h2 h3 h4 h5 h6 h7 x b B v w hl h
set_option maxRecDepth 100000 in
set_option maxHeartbeats 4000000 in
theorem brace1 (q : Nat) (x : St) (b B : Nat) (v : Value) (w : World) (hl : x.te.length ≤ 1000000) (h : RB w b B q v x) :
    Calls Try.prog 26 #[.pointer (some ⟨b, 0, none⟩), .int .i32 123] w (Rout w b B q (.st { x with pl := 4, co := 0, ct := 0 })) := by
  obtain ⟨c0, c1, c2, c3, c4, f0, f1, f2, f3, f4⟩ := rd_cells h.2.2.1
  have R1 := (((h.setPl 4).setCo 0).setCt 0)
  have F1 := (((Fr.set b B 1 w (.int .i64 4)).trans (Fr.set b B 3 _ (.int .i32 0))).trans (Fr.set b B 4 _ (.int .i64 0)))
  go_enter Try.func26, Try.ntmps26
  go_wp2
  go_ret
  exact ⟨rfl, ⟨v, R1⟩, F1⟩
set_option maxRecDepth 100000 in
set_option maxHeartbeats 4000000 in
theorem brace2 (q c : Nat) (hc : c ≤ 1114111) (h1 : c ≠ 123) (x : St) (b B : Nat) (v : Value) (w : World) (hl : x.te.length ≤ 1000000) (h : RB w b B q v x) :
    Calls Try.prog 26 #[.pointer (some ⟨b, 0, none⟩), .int .i32 (c : Int)] w (Rout w b B q (.bad 3)) := by
  have k1 : ((c : Int) == 123) = false := by simp; omega
  obtain ⟨c0, c1, c2, c3, c4, f0, f1, f2, f3, f4⟩ := rd_cells h.2.2.1
  go_enter Try.func26, Try.ntmps26
  go_wp2
  go_ret
  exact ⟨rfl, Fr.refl b B w⟩
theorem braceQ (q c : Nat) (hc : c ≤ 1114111) (x : St) (b B : Nat) (v : Value) (w : World) (hl : x.te.length ≤ 1000000) (h : RB w b B q v x) :
    Calls Try.prog 26 #[.pointer (some ⟨b, 0, none⟩), .int .i32 (c : Int)] w (Rout w b B q (braS c x)) := by
  unfold braS
  by_cases h1 : c = 123
  · subst h1; rw [if_neg (fun e => e rfl)]; exact brace1 q x b B v w hl h
  · rw [if_pos h1]; exact brace2 q c hc h1 x b B v w hl h
theorem chZ (c : Nat) : isChZ (c : Int) = isChB c := by
  unfold isChZ isChB
  congr 1
  apply propext
  omega
theorem hexV_bd {c v : Nat} (h : hexV c = some v) : v < 16 := by
  unfold hexV at h
  split at h
  · injection h with h; omega
  · split at h
    · injection h with h; omega
    · cases h
theorem hexV_125 : hexV 125 = none := rfl
set_option maxRecDepth 100000 in
set_option maxHeartbeats 4000000 in
theorem digit1 (q c : Nat) (hc : c ≤ 1114111) (k : Nat) (hv : hexV c = some k) (x : St) (b B : Nat) (v : Value) (w : World) (hl : x.te.length ≤ 1000000) (hco : x.co < 16 ^ x.ct) (hct : x.ct ≤ 6) (h : RB w b B q v x) :
    Calls Try.prog 27 #[.pointer (some ⟨b, 0, none⟩), .int .i32 (c : Int)] w (Rout w b B q (if x.ct < 6 then .st { x with co := x.co * 16 + k, ct := x.ct + 1 } else .bad 3)) := by
  have cH := hexValQ c hc
  rw [hv] at cH
  simp only [hexR] at cH
  obtain ⟨c0, c1, c2, c3, c4, f0, f1, f2, f3, f4⟩ := rd_cells h.2.2.1
  have hk := hexV_bd hv
  by_cases h6 : x.ct < 6
  · rw [if_pos h6]
    have h6' : (x.ct : Int) < 6 := by omega
    have hco2 : x.co < 1048576 := Nat.lt_of_lt_of_le hco (by
      have : x.ct = 0 ∨ x.ct = 1 ∨ x.ct = 2 ∨ x.ct = 3 ∨ x.ct = 4 ∨ x.ct = 5 := by omega
      rcases this with e | e | e | e | e | e <;> rw [e] <;> decide)
    have w1 : IntKind.i32.wrap ((x.co : Int) * 16) = ((x.co * 16 : Nat) : Int) := by unfold IntKind.wrap; simp [IntKind.bits, IntKind.signed]; omega
    have w2 : IntKind.i32.wrap (((x.co * 16 : Nat) : Int) + (k : Int)) = ((x.co * 16 + k : Nat) : Int) := by unfold IntKind.wrap; simp [IntKind.bits, IntKind.signed]; omega
    have w4 : (x.co : Int) * 16 + (k : Int) = ((x.co * 16 + k : Nat) : Int) := by omega
    have w5 : (x.ct : Int) + 1 = ((x.ct + 1 : Nat) : Int) := by omega
    have w3 : IntKind.i64.wrap ((x.ct : Int) + 1) = ((x.ct + 1 : Nat) : Int) := by rw [IntKind.wrap_i64]; omega
    have w6 : ((x.co * 16 + k : Nat) : Int) ≤ 16777216 := by omega
    have w7 : ((x.ct + 1 : Nat) : Int) ≤ 6 := by omega
    have R1 := ((h.setCo (x.co * 16 + k)).setCt (x.ct + 1))
    have F1 := ((Fr.set b B 3 w (.int .i32 ((x.co * 16 + k : Nat) : Int))).trans (Fr.set b B 4 _ (.int .i64 ((x.ct + 1 : Nat) : Int))))
    generalize x.co * 16 + k = co2 at *
    generalize x.ct + 1 = ct2 at *
    go_enter Try.func27, Try.ntmps27
    go_wp2_with (first
      | (go_at_call 29; with_reducible refine (cH _).mono ?_; rintro e1 w1 ⟨rfl, rfl⟩))
    go_ret
    exact ⟨rfl, ⟨v, R1⟩, F1⟩
  · rw [if_neg h6]
    have h6' : ¬ (x.ct : Int) < 6 := by omega
    have h7 : ((c : Int) == 125) = false := by
      simp
      intro e
      have : c = 125 := by omega
      rw [this] at hv
      cases hv
    go_enter Try.func27, Try.ntmps27
    go_wp2_with (first
      | (go_at_call 29; with_reducible refine (cH _).mono ?_; rintro e1 w1 ⟨rfl, rfl⟩))
    go_ret
    exact ⟨rfl, Fr.refl b B w⟩
set_option maxRecDepth 100000 in
set_option maxHeartbeats 4000000 in
theorem digit2 (q c : Nat) (hc : c ≤ 1114111) (hv : hexV c = none) (h1 : c ≠ 125) (x : St) (b B : Nat) (v : Value) (w : World) (hl : x.te.length ≤ 1000000) (hco : x.co < 16 ^ x.ct) (hct : x.ct ≤ 6) (h : RB w b B q v x) :
    Calls Try.prog 27 #[.pointer (some ⟨b, 0, none⟩), .int .i32 (c : Int)] w (Rout w b B q (.bad 3)) := by
  have cH := hexValQ c hc
  rw [hv] at cH
  simp only [hexR] at cH
  obtain ⟨c0, c1, c2, c3, c4, f0, f1, f2, f3, f4⟩ := rd_cells h.2.2.1
  have h7 : ((c : Int) == 125) = false := by simp; omega
  go_enter Try.func27, Try.ntmps27
  go_wp2_with (first
    | (go_at_call 29; with_reducible refine (cH _).mono ?_; rintro e1 w1 ⟨rfl, rfl⟩))
  go_ret
  exact ⟨rfl, Fr.refl b B w⟩
set_option maxRecDepth 100000 in
set_option maxHeartbeats 4000000 in
theorem digit3 (q : Nat) (x : St) (h1 : ¬ 0 < x.ct) (b B : Nat) (v : Value) (w : World) (hl : x.te.length ≤ 1000000) (hco : x.co < 16 ^ x.ct) (hct : x.ct ≤ 6) (h : RB w b B q v x) :
    Calls Try.prog 27 #[.pointer (some ⟨b, 0, none⟩), .int .i32 125] w (Rout w b B q (.bad 3)) := by
  have cH : ∀ w, Calls Try.prog 29 #[.int .i32 125] w fun e w' => e = .returned (.tuple #[.int .i32 0, .bool false]) ∧ w = w' := fun w => hexValQ 125 (by decide) w
  obtain ⟨c0, c1, c2, c3, c4, f0, f1, f2, f3, f4⟩ := rd_cells h.2.2.1
  have h7 : ¬ (0 : Int) < (x.ct : Int) := by omega
  go_enter Try.func27, Try.ntmps27
  go_wp2_with (first
    | (go_at_call 29; with_reducible refine (cH _).mono ?_; rintro e1 w1 ⟨rfl, rfl⟩))
  go_ret
  exact ⟨rfl, Fr.refl b B w⟩
set_option maxRecDepth 100000 in
set_option maxHeartbeats 4000000 in
theorem digit4 (q : Nat) (x : St) (h1 : 0 < x.ct) (h2 : isChB x.co = false) (b B : Nat) (v : Value) (w : World) (hl : x.te.length ≤ 1000000) (hco : x.co < 16 ^ x.ct) (hct : x.ct ≤ 6) (h : RB w b B q v x) :
    Calls Try.prog 27 #[.pointer (some ⟨b, 0, none⟩), .int .i32 125] w (Rout w b B q (.bad 3)) := by
  have cH : ∀ w, Calls Try.prog 29 #[.int .i32 125] w fun e w' => e = .returned (.tuple #[.int .i32 0, .bool false]) ∧ w = w' := fun w => hexValQ 125 (by decide) w
  obtain ⟨c0, c1, c2, c3, c4, f0, f1, f2, f3, f4⟩ := rd_cells h.2.2.1
  have h7 : (0 : Int) < (x.ct : Int) := by omega
  have cI := isCharQ (x.co : Int)
  rw [chZ, h2] at cI
  go_enter Try.func27, Try.ntmps27
  go_wp2_with (first
    | (go_at_call 29; with_reducible refine (cH _).mono ?_; rintro e1 w1 ⟨rfl, rfl⟩)
    | (go_at_call 18; with_reducible refine (cI _).mono ?_; rintro e2 w2 ⟨rfl, rfl⟩))
  go_ret
  exact ⟨rfl, Fr.refl b B w⟩
set_option maxRecDepth 100000 in
set_option maxHeartbeats 4000000 in
theorem digit5 (q : Nat) (x : St) (h1 : 0 < x.ct) (h2 : isChB x.co = true) (b B : Nat) (v : Value) (w : World) (hl : x.te.length ≤ 1000000) (hco : x.co < 16 ^ x.ct) (hct : x.ct ≤ 6) (h : RB w b B q v x) :
    Calls Try.prog 27 #[.pointer (some ⟨b, 0, none⟩), .int .i32 125] w (Rout w b B q (.st (x.add q x.co))) := by
  have cH : ∀ w, Calls Try.prog 29 #[.int .i32 125] w fun e w' => e = .returned (.tuple #[.int .i32 0, .bool false]) ∧ w = w' := fun w => hexValQ 125 (by decide) w
  obtain ⟨c0, c1, c2, c3, c4, f0, f1, f2, f3, f4⟩ := rd_cells h.2.2.1
  have h7 : (0 : Int) < (x.ct : Int) := by omega
  have cI := isCharQ (x.co : Int)
  rw [chZ, h2] at cI
  have hcc : x.co ≤ 1114111 := by simp [isChB] at h2; omega
  go_enter Try.func27, Try.ntmps27
  go_wp2_with (first
    | (go_at_call 29; with_reducible refine (cH _).mono ?_; rintro e1 w1 ⟨rfl, rfl⟩)
    | (go_at_call 18; with_reducible refine (cI _).mono ?_; rintro e2 w2 ⟨rfl, rfl⟩)
    | (go_at_call 28; with_reducible refine (addQ q x.co hcc x b B v _ hl h).mono ?_; rintro e3 w3 ⟨rfl, R1, F1⟩))
  go_ret
  exact ⟨rfl, R1, F1⟩
theorem digitQ (q c : Nat) (hc : c ≤ 1114111) (x : St) (b B : Nat) (v : Value) (w : World) (hl : x.te.length ≤ 1000000) (hco : x.co < 16 ^ x.ct) (hct : x.ct ≤ 6) (h : RB w b B q v x) :
    Calls Try.prog 27 #[.pointer (some ⟨b, 0, none⟩), .int .i32 (c : Int)] w (Rout w b B q (digS q c x)) := by
  unfold digS
  cases hv : hexV c with
  | some k => exact digit1 q c hc k hv x b B v w hl hco hct h
  | none =>
    simp only
    by_cases h1 : c = 125
    · subst h1
      by_cases h2 : 0 < x.ct
      · cases h3 : isChB x.co with
        | true => rw [if_pos ⟨rfl, h2, rfl⟩]; exact digit5 q x h2 h3 b B v w hl hco hct h
        | false => rw [if_neg (fun e => by cases e.2.2)]; exact digit4 q x h2 h3 b B v w hl hco hct h
      · rw [if_neg (fun e => h2 e.2.1)]; exact digit3 q x h2 b B v w hl hco hct h
    · rw [if_neg (fun e => h1 e.1)]; exact digit2 q c hc hv h1 x b B v w hl hco hct h
end Go.Proofs.Ytmnomkcgkjccgaa.Lit
