/-
  Layer 8: the reference's next. (Written by wip/gen/token-rs9.py.)
-/
import Derived.Test.YtljgehammocpkaaGreatDoorTokRS2
import Derived.Test.YtljgehammocpkaaGreatDoorTokRS3
import Derived.Test.YtljgehammocpkaaGreatDoorTokRS4
import Derived.Test.YtljgehammocpkaaGreatDoorTokGB
import Derived.Deep.DeepCutAuto
namespace Go.Proofs.YtljgehammocpkaaGreatDoor.Tok
open Go.RowKit
set_option linter.unusedVariables false
set_option linter.unusedSimpArgs false

/-- A token's block. -/
def TBlk (w : World) (X : Nat) (c0 c1 c2 c3 c4 : Value) : Prop := w.heap[X]? = some (.cells #[c0, c1, c2, c3, c4] 62 (0, 0))
theorem TBlk.tok {w : World} {X : Nat} {c0 c1 c2 c3 c4 : Value} (h : TBlk w X c0 c1 c2 c3 c4) : w.cell? ⟨X, 0, none⟩ = some c0 ∧ w.cell? ⟨X, 1, none⟩ = some c1 ∧ w.cell? ⟨X, 2, none⟩ = some c2 ∧ w.cell? ⟨X, 3, none⟩ = some c3 ∧ w.cell? ⟨X, 4, none⟩ = some c4 ∧
    w.frozen? ⟨X, 0, none⟩ = false ∧ w.frozen? ⟨X, 1, none⟩ = false ∧ w.frozen? ⟨X, 2, none⟩ = false ∧ w.frozen? ⟨X, 3, none⟩ = false ∧ w.frozen? ⟨X, 4, none⟩ = false := by
  unfold TBlk at h
  refine ⟨?_, ?_, ?_, ?_, ?_, ?_, ?_, ?_, ?_, ?_⟩ <;> simp [World.cell?, World.frozen?, h]
theorem TBlk.new (w : World) (c0 c1 c2 c3 c4 : Value) : TBlk (w.alloc (.cells #[c0, c1, c2, c3, c4] 62)) w.heap.size c0 c1 c2 c3 c4 := heap_alloc_new w _
theorem TBlk.lt {w : World} {X : Nat} {c0 c1 c2 c3 c4 : Value} (h : TBlk w X c0 c1 c2 c3 c4) : X < w.heap.size := (Array.getElem?_eq_some_iff.1 h).1
theorem TBlk.below {w w' : World} {X : Nat} {c0 c1 c2 c3 c4 : Value} (h : TBlk w X c0 c1 c2 c3 c4) (hb : Below w.heap.size w w') : TBlk w' X c0 c1 c2 c3 c4 := (hb.block X h.lt).trans h
theorem TBlk.set {w : World} {X : Nat} {c0 c1 c2 c3 c4 : Value} (h : TBlk w X c0 c1 c2 c3 c4) (d0 d1 d2 d3 d4 : Value) :
    TBlk (((((w.setCell ⟨X, 0, none⟩ d0).setCell ⟨X, 1, none⟩ d1).setCell ⟨X, 2, none⟩ d2).setCell ⟨X, 3, none⟩ d3).setCell ⟨X, 4, none⟩ d4) X d0 d1 d2 d3 d4 := by
  unfold TBlk at h ⊢
  simp only [World.setCell, Array.getElem?_modify, if_true, h]
  simp
theorem TRes.sets {w : World} {X Y : Nat} (h : TRes w Y) (hn : Y ≠ X) (d0 d1 d2 d3 d4 : Value) :
    TRes (((((w.setCell ⟨X, 0, none⟩ d0).setCell ⟨X, 1, none⟩ d1).setCell ⟨X, 2, none⟩ d2).setCell ⟨X, 3, none⟩ d3).setCell ⟨X, 4, none⟩ d4) Y := by
  unfold TRes at h ⊢
  rw [Below.heap_setCell _ _ _ _ hn, Below.heap_setCell _ _ _ _ hn, Below.heap_setCell _ _ _ _ hn, Below.heap_setCell _ _ _ _ hn, Below.heap_setCell _ _ _ _ hn]
  exact h
theorem ref_pair (r : Tk) (i : Nat) (h : ∀ e a, r = .bad e a → a = i) : ∃ k a l n t e, r.ref i = .tuple #[.agg #[.int .i64 k, .int .i64 a, .int .i64 l, .int .i64 n, .string t], .int .i64 e] ∧
    r.ref3 i (i : Int) = .tuple #[.agg #[.int .i64 k, .int .i64 a, .int .i64 l, .int .i64 n, .string t], .int .i64 e, .int .i64 (i : Int)] := by
  cases r with
  | tok k n t j => exact ⟨_, _, _, _, _, _, rfl, rfl⟩
  | bad e a =>
    have := h e a rfl
    subst this
    exact ⟨_, _, _, _, _, _, rfl, rfl⟩
theorem ref3_form (r : Tk) (i : Nat) (x : Int) : ∃ k a l n t e y, r.ref3 i x = .tuple #[.agg #[.int .i64 k, .int .i64 a, .int .i64 l, .int .i64 n, .string t], .int .i64 e, .int .i64 y] := by
  cases r with
  | tok k n t j => exact ⟨_, _, _, _, _, _, _, rfl⟩
  | bad e a => exact ⟨_, _, _, _, _, _, _, rfl⟩
theorem num_at {s : ByteArray} {i x : Nat} {e : Int} {a : Nat} (h : numS s i x = .bad e a) : a = i := by
  unfold numS numAt at h
  split at h
  · injection h with h1 h2; exact h2.symm
  · cases h
theorem word_at {s : ByteArray} {i x : Nat} {e : Int} {a : Nat} (h : wordS s i x = .bad e a) : a = i := by
  unfold wordS wordAt at h
  split at h
  · cases h
  split at h
  · injection h with h1 h2; exact h2.symm
  split at h
  · injection h with h1 h2; exact h2.symm
  · cases h
theorem symX_at {s : ByteArray} {i : Nat} {e : Int} {a : Nat} (h : symX s i = .bad e a) : a = i := by
  unfold symX at h
  split at h
  · cases h
  split at h
  · cases h
  · injection h with h1 h2; exact h2.symm
theorem token_c {s : ByteArray} {i : Nat} (hi : i < s.size) : tokenS s i = if ((s[i].toNat : Int) == 95) = true then numS s i (i + 1) else if dgB s[i].toNat = true then numS s i (i + 1) else if leB s[i].toNat = true then wordS s i (i + 1)
    else if ((s[i].toNat : Int) == 39) = true then clitS s i (i + 1) else if ((s[i].toNat : Int) == 34) = true then strS s i (i + 1) else if (((s[i].toNat : Int) == 10) || ((s[i].toNat : Int) == 59)) = true then .tok 6 0 ⟨#[]⟩ (i + 1) else symS s i := by
  have i95 : inB s i 95 95 = ((s[i].toNat : Int) == 95) := inB_eq hi 95
  have i39 : inB s i 39 39 = ((s[i].toNat : Int) == 39) := inB_eq hi 39
  have i34 : inB s i 34 34 = ((s[i].toNat : Int) == 34) := inB_eq hi 34
  have i10 : inB s i 10 10 = ((s[i].toNat : Int) == 10) := inB_eq hi 10
  have i59 : inB s i 59 59 = ((s[i].toNat : Int) == 59) := inB_eq hi 59
  unfold tokenS
  rw [i95, i39, i34, i10, i59, isDig_c hi, isLet_c hi]

set_option maxRecDepth 100000 in
set_option maxHeartbeats 4000000 in
theorem nextR (s : ByteArray) (hs : s.size ≤ 65536) (w : World) (i : Nat) (hi : i < s.size) :
    Calls Tryz.prog 36 #[.string s, .int .i64 (i : Int)] w fun e w' => (∃ x, e = .returned ((tokenS s i).ref3 i x)) ∧ Below w.heap.size w w' := by
  obtain ⟨r, hr⟩ : ∃ r, Hid (tokenS s i = r) := ⟨_, rfl⟩
  rw [hr.out]
  have hr1 := hr.out
  clear hr
  rw [token_c hi] at hr1
  have hsz64 : (s.size : Int) ≤ 65536 := by omega
  have hi64 : (i : Int) ≤ 65536 := by omega
  have hi' : (i : Int) < (s.size : Int) := by omega
  have hcb : (s[i].toNat : Int) ≤ 255 := by have := s[i].toNat_lt; omega
  have B0 := below_new w (.cells #[.int .i64 0, .int .i64 0, .int .i64 0, .int .i64 0, .string ⟨#[]⟩] 62)
  cases q34 : ((s[i].toNat : Int) == 34)
  case true =>
    have hv : s[i].toNat = 34 := by simp at q34; omega
    have cT : ∀ w, Calls Tryz.prog 70 #[.string s, .int .i64 (i : Int)] w fun e w' => ∃ k a l n t e0 y, e = .returned (.tuple #[.agg #[.int .i64 k, .int .i64 a, .int .i64 l, .int .i64 n, .string t], .int .i64 e0, .int .i64 y]) ∧ (∃ x, (.tuple #[.agg #[.int .i64 k, .int .i64 a, .int .i64 l, .int .i64 n, .string t], .int .i64 e0, .int .i64 y] : Value) = (strS s i (i + 1)).ref3 i x) ∧ Below w.heap.size w w' := fun w =>
      (textR s hs w i hi).mono fun e w' ⟨⟨x, hx⟩, hb⟩ => by
        obtain ⟨k, a, l, n, t, e0, y, hf⟩ := ref3_form (strS s i (i + 1)) i x
        exact ⟨k, a, l, n, t, e0, y, by rw [hx, hf], ⟨x, hf.symm⟩, hb⟩
    rw [if_neg (by rw [hv]; decide), if_neg (by rw [hv]; decide), if_neg (by rw [hv]; decide), if_neg (by rw [hv]; decide), if_pos (by rw [hv]; decide)] at hr1
    rw [hr1] at cT
    clear hv hr1
    go_enter Tryz.func36, Tryz.ntmps36
    go_wp2_with (first | (go_at_call 70; with_reducible refine (cT _).mono ?_; rintro e1 w1 ⟨k1, a1, l1, n1, t1, e0, y0, rfl, hx, b1⟩; have r1 := (TRes.new w).below b1; obtain ⟨p0, p1, p2, p3, p4, p5, p6, p7, p8, p9⟩ := r1.tok; have q1 := r1.lt))
    obtain ⟨x, hx⟩ := hx
    all_goals refine bodyPost_ret (by simp [results, Tryz.results36, go_sem, p0, p1, p2, p3, p4]; try rfl) rfl ?_
    all_goals exact ⟨⟨x, by rw [hx]⟩, storedT (Below.then B0 b1) (Nat.le_refl _) _ _ _ _ _⟩
  cases q39 : ((s[i].toNat : Int) == 39)
  case true =>
    have hv : s[i].toNat = 39 := by simp at q39; omega
    have cT : ∀ w, Calls Tryz.prog 71 #[.string s, .int .i64 (i : Int)] w fun e w' => ∃ k a l n t e0 y, e = .returned (.tuple #[.agg #[.int .i64 k, .int .i64 a, .int .i64 l, .int .i64 n, .string t], .int .i64 e0, .int .i64 y]) ∧ (∃ x, (.tuple #[.agg #[.int .i64 k, .int .i64 a, .int .i64 l, .int .i64 n, .string t], .int .i64 e0, .int .i64 y] : Value) = (clitS s i (i + 1)).ref3 i x) ∧ Below w.heap.size w w' := fun w =>
      (charR s hs w i hi).mono fun e w' ⟨⟨x, hx⟩, hb⟩ => by
        obtain ⟨k, a, l, n, t, e0, y, hf⟩ := ref3_form (clitS s i (i + 1)) i x
        exact ⟨k, a, l, n, t, e0, y, by rw [hx, hf], ⟨x, hf.symm⟩, hb⟩
    rw [if_neg (by rw [hv]; decide), if_neg (by rw [hv]; decide), if_neg (by rw [hv]; decide), if_pos (by rw [hv]; decide)] at hr1
    rw [hr1] at cT
    clear hv hr1
    go_enter Tryz.func36, Tryz.ntmps36
    go_wp2_with (first | (go_at_call 71; with_reducible refine (cT _).mono ?_; rintro e1 w1 ⟨k1, a1, l1, n1, t1, e0, y0, rfl, hx, b1⟩; have r1 := (TRes.new w).below b1; obtain ⟨p0, p1, p2, p3, p4, p5, p6, p7, p8, p9⟩ := r1.tok; have q1 := r1.lt))
    obtain ⟨x, hx⟩ := hx
    all_goals refine bodyPost_ret (by simp [results, Tryz.results36, go_sem, p0, p1, p2, p3, p4]; try rfl) rfl ?_
    all_goals exact ⟨⟨x, by rw [hx]⟩, storedT (Below.then B0 b1) (Nat.le_refl _) _ _ _ _ _⟩
  have hfin : (Tk.tok 6 0 ⟨#[]⟩ (i + 1)).ref3 i 0 = .tuple #[.agg #[.int .i64 6, .int .i64 (i : Int), .int .i64 1, .int .i64 0, .string ⟨#[]⟩], .int .i64 0, .int .i64 0] := by
    simp only [Tk.ref3]
    rw [show ((i + 1 : Nat) : Int) - (i : Int) = 1 by omega]
  cases q10 : ((s[i].toNat : Int) == 10)
  case true =>
    have hv : s[i].toNat = 10 := by simp at q10; omega
    rw [if_neg (by rw [hv]; decide), if_neg (by rw [hv]; decide), if_neg (by rw [hv]; decide), if_neg (by rw [hv]; decide), if_neg (by rw [hv]; decide), if_pos (by rw [hv]; decide)] at hr1
    subst hr1
    clear hv
    go_enter Tryz.func36, Tryz.ntmps36
    go_wp2
    go_returns
    exact ⟨⟨0, by rw [hfin]⟩, below_new _ _⟩
  cases q59 : ((s[i].toNat : Int) == 59)
  case true =>
    have hv : s[i].toNat = 59 := by simp at q59; omega
    rw [if_neg (by rw [hv]; decide), if_neg (by rw [hv]; decide), if_neg (by rw [hv]; decide), if_neg (by rw [hv]; decide), if_neg (by rw [hv]; decide), if_pos (by rw [hv]; decide)] at hr1
    subst hr1
    clear hv
    go_enter Tryz.func36, Tryz.ntmps36
    go_wp2
    go_returns
    exact ⟨⟨0, by rw [hfin]⟩, below_new _ _⟩
  clear hfin
  obtain ⟨k1, a1, l1, n1, t1, e1', s1, s2⟩ := ref_pair (symX s i) i fun e a h => symX_at h
  have cS := fun w => symbolR s hs w i hi
  rw [s1] at cS
  have cD := fun w => digitB s[i].toNat w
  have cL := fun w => letterB s[i].toNat w
  by_cases hnum : ((s[i].toNat : Int) == 95) = true ∨ dgB s[i].toNat = true
  · have hno : leB s[i].toNat = false := by
      unfold leB smB
      have : s[i].toNat = 95 ∨ (48 ≤ s[i].toNat ∧ s[i].toNat ≤ 57) := by
        rcases hnum with h | h
        · left; simp at h; omega
        · right; exact of_decide_eq_true h
      rw [decide_eq_false (by omega), decide_eq_false (by omega)]; rfl
    have hv : numS s i (i + 1) = r := by
      rw [← hr1]
      by_cases h95 : ((s[i].toNat : Int) == 95) = true
      · rw [if_pos h95]
      · rw [if_neg h95, if_pos (hnum.resolve_left h95)]
    have hd : inB s i 95 95 = true ∨ isDig s i = true := by
      rw [show inB s i 95 95 = ((s[i].toNat : Int) == 95) from inB_eq hi 95, isDig_c hi]; exact hnum
    obtain ⟨k2, a2, l2, n2, t2, e2', u1, u2⟩ := ref_pair (numS s i (i + 1)) i fun e a h => num_at h
    have cN := fun w => numberR s hs w i hi hd
    rw [u1] at cN
    rw [hv] at u2
    rw [hno] at cL
    clear s1 s2 u1 hv hr1 hd hno
    cases q95 : ((s[i].toNat : Int) == 95)
    · have hdg : dgB s[i].toNat = true := by rcases hnum with h | h; (rw [q95] at h; cases h); exact h
      rw [hdg] at cD
      clear hnum hdg
      go_enter Tryz.func36, Tryz.ntmps36
      go_wp2_with (first | (go_at_call 72; with_reducible refine (cS _).mono ?_; rintro e1 w1 ⟨rfl, b1⟩; have r0 := (TRes.new w).below b1; have q1 := r0.lt; have E1 := Below.then (Below.then B0 b1) (below_new w1 (.cells #[.int .i64 k1, .int .i64 a1, .int .i64 l1, .int .i64 n1, .string t1] 62)); have r1 := r0.below (below_new w1 (.cells #[.int .i64 k1, .int .i64 a1, .int .i64 l1, .int .i64 n1, .string t1] 62)); have L1 := TBlk.new w1 (.int .i64 k1) (.int .i64 a1) (.int .i64 l1) (.int .i64 n1) (.string t1); obtain ⟨p0, p1, p2, p3, p4, p5, p6, p7, p8, p9⟩ := r1.tok; have hn1 : w.heap.size ≠ w1.heap.size := (by omega); have hn2 := hn1.symm; obtain ⟨z0, z1, z2, z3, z4, z5, z6, z7, z8, z9⟩ := L1.tok) | (go_at_call 74; with_reducible refine (cN _).mono ?_; rintro e2 w2 ⟨rfl, b2⟩; have r2 := r1.below b2; have L2 := L1.below b2; have E2 := Below.then E1 b2; obtain ⟨g0, g1, g2, g3, g4, g5, g6, g7, g8, g9⟩ := L2.tok) | (go_at_call 73; with_reducible refine (cD _).mono ?_; rintro e3 w3 ⟨rfl, rfl⟩) | (go_at_call 75; with_reducible refine (cL _).mono ?_; rintro e3 w3 ⟨rfl, hw3⟩; have L3 : TBlk w3 w1.heap.size (.int .i64 k2) (.int .i64 a2) (.int .i64 l2) (.int .i64 n2) (.string t2) := hw3 ▸ TBlk.set L2 (.int .i64 k2) (.int .i64 a2) (.int .i64 l2) (.int .i64 n2) (.string t2); have r3 : TRes w3 w.heap.size := hw3 ▸ TRes.sets r2 hn1 (.int .i64 k2) (.int .i64 a2) (.int .i64 l2) (.int .i64 n2) (.string t2); have E3 : Below w.heap.size w w3 := hw3 ▸ storedT E2 (Nat.le_of_lt q1) (.int .i64 k2) (.int .i64 a2) (.int .i64 l2) (.int .i64 n2) (.string t2); clear hw3; obtain ⟨x0, x1, x2, x3, x4, x5, x6, x7, x8, x9⟩ := r3.tok; obtain ⟨m0, m1, m2, m3, m4, m5, m6, m7, m8, m9⟩ := L3.tok))
      all_goals refine bodyPost_ret (by simp [results, Tryz.results36, go_sem, x0, x1, x2, x3, x4]; try rfl) rfl ?_
      all_goals exact ⟨⟨(i : Int), by rw [u2]⟩, storedT E3 (Nat.le_refl _) _ _ _ _ _⟩
    · clear hnum
      go_enter Tryz.func36, Tryz.ntmps36
      go_wp2_with (first | (go_at_call 72; with_reducible refine (cS _).mono ?_; rintro e1 w1 ⟨rfl, b1⟩; have r0 := (TRes.new w).below b1; have q1 := r0.lt; have E1 := Below.then (Below.then B0 b1) (below_new w1 (.cells #[.int .i64 k1, .int .i64 a1, .int .i64 l1, .int .i64 n1, .string t1] 62)); have r1 := r0.below (below_new w1 (.cells #[.int .i64 k1, .int .i64 a1, .int .i64 l1, .int .i64 n1, .string t1] 62)); have L1 := TBlk.new w1 (.int .i64 k1) (.int .i64 a1) (.int .i64 l1) (.int .i64 n1) (.string t1); obtain ⟨p0, p1, p2, p3, p4, p5, p6, p7, p8, p9⟩ := r1.tok; have hn1 : w.heap.size ≠ w1.heap.size := (by omega); have hn2 := hn1.symm; obtain ⟨z0, z1, z2, z3, z4, z5, z6, z7, z8, z9⟩ := L1.tok) | (go_at_call 74; with_reducible refine (cN _).mono ?_; rintro e2 w2 ⟨rfl, b2⟩; have r2 := r1.below b2; have L2 := L1.below b2; have E2 := Below.then E1 b2; obtain ⟨g0, g1, g2, g3, g4, g5, g6, g7, g8, g9⟩ := L2.tok) | (go_at_call 73; with_reducible refine (cD _).mono ?_; rintro e3 w3 ⟨rfl, rfl⟩) | (go_at_call 75; with_reducible refine (cL _).mono ?_; rintro e3 w3 ⟨rfl, hw3⟩; have L3 : TBlk w3 w1.heap.size (.int .i64 k2) (.int .i64 a2) (.int .i64 l2) (.int .i64 n2) (.string t2) := hw3 ▸ TBlk.set L2 (.int .i64 k2) (.int .i64 a2) (.int .i64 l2) (.int .i64 n2) (.string t2); have r3 : TRes w3 w.heap.size := hw3 ▸ TRes.sets r2 hn1 (.int .i64 k2) (.int .i64 a2) (.int .i64 l2) (.int .i64 n2) (.string t2); have E3 : Below w.heap.size w w3 := hw3 ▸ storedT E2 (Nat.le_of_lt q1) (.int .i64 k2) (.int .i64 a2) (.int .i64 l2) (.int .i64 n2) (.string t2); clear hw3; obtain ⟨x0, x1, x2, x3, x4, x5, x6, x7, x8, x9⟩ := r3.tok; obtain ⟨m0, m1, m2, m3, m4, m5, m6, m7, m8, m9⟩ := L3.tok))
      all_goals refine bodyPost_ret (by simp [results, Tryz.results36, go_sem, x0, x1, x2, x3, x4]; try rfl) rfl ?_
      all_goals exact ⟨⟨(i : Int), by rw [u2]⟩, storedT E3 (Nat.le_refl _) _ _ _ _ _⟩
  have q95 : ((s[i].toNat : Int) == 95) = false := by
    cases h : ((s[i].toNat : Int) == 95)
    · rfl
    · exact absurd (Or.inl h) hnum
  have hdg : dgB s[i].toNat = false := by
    cases h : dgB s[i].toNat
    · rfl
    · exact absurd (Or.inr h) hnum
  rw [q95, hdg, if_neg (by decide), if_neg (by decide)] at hr1
  rw [hdg] at cD
  clear hnum hdg
  cases hle : leB s[i].toNat
  · rw [hle, q39, q34, q10, q59, if_neg (by decide), if_neg (by decide), if_neg (by decide), if_neg (by decide)] at hr1
    have hx : symX s i = r := by rw [← hr1]; exact symX_same hi (by rw [isLet_c hi]; exact hle)
    rw [hle] at cL
    rw [hx] at s2
    clear s1 hr1 hx hle
    go_enter Tryz.func36, Tryz.ntmps36
    go_upto_if 56 with (first | (go_at_call 72; with_reducible refine (cS _).mono ?_; rintro e1 w1 ⟨rfl, b1⟩; have r0 := (TRes.new w).below b1; have q1 := r0.lt; have E1 := Below.then (Below.then B0 b1) (below_new w1 (.cells #[.int .i64 k1, .int .i64 a1, .int .i64 l1, .int .i64 n1, .string t1] 62)); have r1 := r0.below (below_new w1 (.cells #[.int .i64 k1, .int .i64 a1, .int .i64 l1, .int .i64 n1, .string t1] 62)); have L1 := TBlk.new w1 (.int .i64 k1) (.int .i64 a1) (.int .i64 l1) (.int .i64 n1) (.string t1); obtain ⟨p0, p1, p2, p3, p4, p5, p6, p7, p8, p9⟩ := r1.tok; have hn1 : w.heap.size ≠ w1.heap.size := (by omega); have hn2 := hn1.symm; obtain ⟨z0, z1, z2, z3, z4, z5, z6, z7, z8, z9⟩ := L1.tok) | (go_at_call 73; with_reducible refine (cD _).mono ?_; rintro e3 w3 ⟨rfl, rfl⟩) | (go_at_call 75; with_reducible refine (cL _).mono ?_; rintro e3 w3 ⟨rfl, rfl⟩))
    go_cut [9] (fun s9 wx => s9 = .int .i64 e1' ∧ TBlk wx w1.heap.size (.int .i64 k1) (.int .i64 a1) (.int .i64 l1) (.int .i64 n1) (.string t1) ∧ TRes wx w.heap.size ∧ Below w.heap.size w wx)
    case first =>
      go_wp2
      go_meet
      exact ⟨rfl, L1, r1, E1⟩
    case rest =>
      obtain ⟨rfl, L3, r3, E3⟩ := hcut
      clear E1 r1 L1 p0 p1 p2 p3 p4 p5 p6 p7 p8 p9 z0 z1 z2 z3 z4 z5 z6 z7 z8 z9
      obtain ⟨x0, x1, x2, x3, x4, x5, x6, x7, x8, x9⟩ := r3.tok
      obtain ⟨m0, m1, m2, m3, m4, m5, m6, m7, m8, m9⟩ := L3.tok
      go_wp2
      refine bodyPost_ret (by simp [results, Tryz.results36, go_sem, x0, x1, x2, x3, x4, m0, m1, m2, m3, m4, hn1, hn2]; try rfl) rfl ?_
      exact ⟨⟨(i : Int), by rw [s2]⟩, storedT E3 (Nat.le_refl _) _ _ _ _ _⟩
  · rw [hle, if_pos rfl] at hr1
    rw [hle] at cL
    obtain ⟨k2, a2, l2, n2, t2, e2', u1, u2⟩ := ref_pair (wordS s i (i + 1)) i fun e a h => word_at h
    have cN := fun w => wordR s hs w i hi (by rw [isLet_c hi]; exact hle)
    rw [u1] at cN
    rw [hr1] at u2
    clear s1 s2 u1 hr1 hle
    go_enter Tryz.func36, Tryz.ntmps36
    go_upto_if 56 with (first | (go_at_call 72; with_reducible refine (cS _).mono ?_; rintro e1 w1 ⟨rfl, b1⟩; have r0 := (TRes.new w).below b1; have q1 := r0.lt; have E1 := Below.then (Below.then B0 b1) (below_new w1 (.cells #[.int .i64 k1, .int .i64 a1, .int .i64 l1, .int .i64 n1, .string t1] 62)); have r1 := r0.below (below_new w1 (.cells #[.int .i64 k1, .int .i64 a1, .int .i64 l1, .int .i64 n1, .string t1] 62)); have L1 := TBlk.new w1 (.int .i64 k1) (.int .i64 a1) (.int .i64 l1) (.int .i64 n1) (.string t1); obtain ⟨p0, p1, p2, p3, p4, p5, p6, p7, p8, p9⟩ := r1.tok; have hn1 : w.heap.size ≠ w1.heap.size := (by omega); have hn2 := hn1.symm; obtain ⟨z0, z1, z2, z3, z4, z5, z6, z7, z8, z9⟩ := L1.tok) | (go_at_call 73; with_reducible refine (cD _).mono ?_; rintro e3 w3 ⟨rfl, rfl⟩) | (go_at_call 75; with_reducible refine (cL _).mono ?_; rintro e3 w3 ⟨rfl, rfl⟩))
    go_cut [9] (fun s9 wx => s9 = .int .i64 e2' ∧ TBlk wx w1.heap.size (.int .i64 k2) (.int .i64 a2) (.int .i64 l2) (.int .i64 n2) (.string t2) ∧ TRes wx w.heap.size ∧ Below w.heap.size w wx)
    case first =>
      clear p0 p1 p2 p3 p4 p5 p6 p7 p8 p9 z0 z1 z2 z3 z4 z5 z6 z7 z8 z9
      go_wp2_with ((go_at_call 76; with_reducible refine (cN _).mono ?_; rintro e2 w2 ⟨rfl, b2⟩; have r2 := r1.below b2; have L2 := L1.below b2; have E2 := Below.then E1 b2; obtain ⟨g0, g1, g2, g3, g4, g5, g6, g7, g8, g9⟩ := L2.tok))
      go_meet
      exact ⟨rfl, TBlk.set L2 _ _ _ _ _, TRes.sets r2 hn1 _ _ _ _ _, storedT E2 (Nat.le_of_lt q1) _ _ _ _ _⟩
    case rest =>
      obtain ⟨rfl, L3, r3, E3⟩ := hcut
      clear E1 r1 L1 p0 p1 p2 p3 p4 p5 p6 p7 p8 p9 z0 z1 z2 z3 z4 z5 z6 z7 z8 z9
      obtain ⟨x0, x1, x2, x3, x4, x5, x6, x7, x8, x9⟩ := r3.tok
      obtain ⟨m0, m1, m2, m3, m4, m5, m6, m7, m8, m9⟩ := L3.tok
      go_wp2
      refine bodyPost_ret (by simp [results, Tryz.results36, go_sem, x0, x1, x2, x3, x4, m0, m1, m2, m3, m4, hn1, hn2]; try rfl) rfl ?_
      exact ⟨⟨(i : Int), by rw [u2]⟩, storedT E3 (Nat.le_refl _) _ _ _ _ _⟩
end Go.Proofs.YtljgehammocpkaaGreatDoor.Tok
