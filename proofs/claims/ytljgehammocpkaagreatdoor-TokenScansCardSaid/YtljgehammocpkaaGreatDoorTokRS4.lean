/-
  Layer 8: the reference's symbol. (Written by wip/gen/token-rs4.py.)
-/
import Derived.Test.YtljgehammocpkaaGreatDoorTokRS1
import Derived.LoopN
namespace Go.Proofs.YtljgehammocpkaaGreatDoor.Tok
open Go.RowKit
set_option linter.unusedVariables false
set_option linter.unusedSimpArgs false
set_option maxRecDepth 100000

def signsL : List UInt8 := [32, 40, 32, 41, 32, 123, 32, 125, 32, 58, 32, 60, 45, 32]
def amS (x : List UInt8) : Bool := amB namesL x || amB signsL x
theorem signs_eq : signsL = spaced signWords := by decide
theorem signs_ok : (∀ x ∈ signWords, noSp x = true) ∧ (∀ x ∈ signWords, (x.length != 0 && noSp x) = true) := by
  refine ⟨by decide, by decide⟩
theorem sign_same (t : List UInt8) : signB t = amB signsL t := by
  obtain ⟨o1, o2⟩ := signs_ok
  rw [amB_occ, signs_eq]
  by_cases hn : (t.length != 0 && noSp t) = true
  · have hnt : noSp t = true := (Bool.and_eq_true _ _ ▸ hn).2
    rw [hn, Bool.true_and, occ_spaced hnt _ o1]
    rfl
  · have hf : (t.length != 0 && noSp t) = false := by simpa using hn
    rw [hf, Bool.false_and, Bool.eq_false_iff]
    intro h
    rw [signB, List.any_eq_true] at h
    obtain ⟨x, hx, e⟩ := h
    rw [beq_iff_eq] at e
    subst e
    exact absurd (o2 _ hx) hn
def hdLe (l : List UInt8) : Bool := match l with
  | [] => true
  | c :: _ => leB c.toNat
theorem ws1_let : ws1.all hdLe = true := by decide +kernel
theorem sym_same {c : UInt8} {r : List UInt8} (h : leB c.toNat = false) : (signB (c :: r) || resB (c :: r)) = amS (c :: r) := by
  rw [res_same, resR, sign_same]
  have e : amB wordsL (c :: r) = false := by
    rw [amB_occ, words_eq]
    by_cases hn : ((c :: r).length != 0 && noSp (c :: r)) = true
    · have hnt : noSp (c :: r) = true := (Bool.and_eq_true _ _ ▸ hn).2
      rw [hn, Bool.true_and, occ_spaced hnt _ ws_ok.1, Bool.eq_false_iff]
      intro q
      obtain ⟨x, hx, e⟩ := List.any_eq_true.1 q
      rw [beq_iff_eq] at e
      subst e
      have := List.all_eq_true.1 ws1_let _ hx
      rw [show hdLe (c :: r) = leB c.toNat from rfl, h] at this
      cases this
    · have hf : ((c :: r).length != 0 && noSp (c :: r)) = false := by simpa using hn
      rw [hf, Bool.false_and]
  rw [e, Bool.false_or, Bool.or_comm]
  rfl
def symX (s : ByteArray) (i : Nat) : Tk :=
  if i + 2 ≤ s.size ∧ amS (s.extract i (i + 2)).data.toList = true then .tok 5 0 (s.extract i (i + 2)) (i + 2)
  else if amS (s.extract i (i + 1)).data.toList = true then .tok 5 0 (s.extract i (i + 1)) (i + 1) else .bad 6 i
theorem ext_hd {s : ByteArray} {i m : Nat} (hi : i < s.size) (hm : i < m) : ∃ r, (s.extract i m).data.toList = s[i] :: r := by
  rw [extract_list, Num.drop_cons s i hi]
  obtain ⟨d, hd⟩ : ∃ d, m - i = d + 1 := ⟨m - i - 1, by omega⟩
  rw [hd, List.take_succ_cons]
  exact ⟨_, rfl⟩
theorem symX_same {s : ByteArray} {i : Nat} (hi : i < s.size) (h : isLet s i = false) : symX s i = symS s i := by
  rw [isLet_c hi] at h
  obtain ⟨r1, e1⟩ := ext_hd (m := i + 1) hi (by omega)
  obtain ⟨r2, e2⟩ := ext_hd (m := i + 2) hi (by omega)
  unfold symX symS
  rw [ByteArray.toList_eq, ByteArray.toList_eq, e1, e2, sym_same h, sym_same h]

set_option maxHeartbeats 16000000 in
theorem symbolR (s : ByteArray) (hs : s.size ≤ 65536) (w : World) (i : Nat) (hi : i < s.size) :
    Calls Tryz.prog 72 #[.string s, .int .i64 (i : Int)] w fun e w' => e = .returned ((symX s i).ref i) ∧ Below w.heap.size w w' := by
  obtain ⟨r, hr⟩ : ∃ r, Hid (symX s i = r) := ⟨_, rfl⟩
  rw [hr.out]
  have hi64 : (i : Int) ≤ 65536 := by omega
  have hsz64 : (s.size : Int) ≤ 65536 := by omega
  obtain ⟨t1, x1⟩ : ∃ t, s.extract i (i + 1) = t := ⟨_, rfl⟩
  obtain ⟨t2, x2⟩ : ∃ t, s.extract i (i + 2) = t := ⟨_, rfl⟩
  have z1 : t1.size ≤ 1000000 := by rw [← x1, ByteArray.size_extract]; omega
  have z2 : t2.size ≤ 1000000 := by rw [← x2, ByteArray.size_extract]; omega
  have n1 : ∀ w, Calls Tryz.prog 120 #[.string ⟨#[32, 43, 32, 45, 32, 42, 32, 37, 32, 124, 32, 94, 32, 60, 32, 60, 61, 32, 61, 32, 126, 61, 32, 62, 61, 32, 62, 32, 44, 32, 47, 32, 92, 32]⟩, .string t1] w fun e w' => e = .returned (.bool (amB namesL t1.data.toList)) ∧ w = w' := fun w => amongQ ⟨#[32, 43, 32, 45, 32, 42, 32, 37, 32, 124, 32, 94, 32, 60, 32, 60, 61, 32, 61, 32, 126, 61, 32, 62, 61, 32, 62, 32, 44, 32, 47, 32, 92, 32]⟩ t1 w (by decide) z1
  have n2 : ∀ w, Calls Tryz.prog 120 #[.string ⟨#[32, 43, 32, 45, 32, 42, 32, 37, 32, 124, 32, 94, 32, 60, 32, 60, 61, 32, 61, 32, 126, 61, 32, 62, 61, 32, 62, 32, 44, 32, 47, 32, 92, 32]⟩, .string t2] w fun e w' => e = .returned (.bool (amB namesL t2.data.toList)) ∧ w = w' := fun w => amongQ ⟨#[32, 43, 32, 45, 32, 42, 32, 37, 32, 124, 32, 94, 32, 60, 32, 60, 61, 32, 61, 32, 126, 61, 32, 62, 61, 32, 62, 32, 44, 32, 47, 32, 92, 32]⟩ t2 w (by decide) z2
  have s1 : ∀ w, Calls Tryz.prog 120 #[.string ⟨#[32, 40, 32, 41, 32, 123, 32, 125, 32, 58, 32, 60, 45, 32]⟩, .string t1] w fun e w' => e = .returned (.bool (amB signsL t1.data.toList)) ∧ w = w' := fun w => amongQ ⟨#[32, 40, 32, 41, 32, 123, 32, 125, 32, 58, 32, 60, 45, 32]⟩ t1 w (by decide) z1
  have s2 : ∀ w, Calls Tryz.prog 120 #[.string ⟨#[32, 40, 32, 41, 32, 123, 32, 125, 32, 58, 32, 60, 45, 32]⟩, .string t2] w fun e w' => e = .returned (.bool (amB signsL t2.data.toList)) ∧ w = w' := fun w => amongQ ⟨#[32, 40, 32, 41, 32, 123, 32, 125, 32, 58, 32, 60, 45, 32]⟩ t2 w (by decide) z2
  have hl1 : (i : Int) + 1 ≤ (s.size : Int) := by omega
  have hi1 : i + 1 ≤ s.size := hi
  clear z1 z2
  by_cases h2 : i + 2 ≤ s.size
  · have h2' : (i : Int) + 2 ≤ (s.size : Int) := by omega
    cases hN2 : amB namesL t2.data.toList
    · rw [hN2] at n2
      cases hS2 : amB signsL t2.data.toList
      · rw [hS2] at s2
        cases hN1 : amB namesL t1.data.toList
        · rw [hN1] at n1
          cases hS1 : amB signsL t1.data.toList
          · rw [hS1] at s1
            have hr2 : r = .bad 6 i := by rw [← hr.out, symX, x1, if_neg (by rw [x2]; simp [amS, hN2, hS2]), if_neg (by simp [amS, hN1, hS1])]
            subst hr2
            clear hr
            go_enter Tryz.func72, Tryz.ntmps72
            go_wp2_with (first | (go_at_call 120; with_reducible refine (n2 _).mono ?_; rintro e1 w1 ⟨rfl, rfl⟩) | (go_at_call 120; with_reducible refine (s2 _).mono ?_; rintro e1 w1 ⟨rfl, rfl⟩) | (go_at_call 120; with_reducible refine (n1 _).mono ?_; rintro e1 w1 ⟨rfl, rfl⟩) | (go_at_call 120; with_reducible refine (s1 _).mono ?_; rintro e1 w1 ⟨rfl, rfl⟩))
            refine wp_loop_rounds 3 ?_
            rw [rounds_succ]
            go_wp2_with (first | (go_at_call 120; with_reducible refine (n2 _).mono ?_; rintro e1 w1 ⟨rfl, rfl⟩) | (go_at_call 120; with_reducible refine (s2 _).mono ?_; rintro e1 w1 ⟨rfl, rfl⟩) | (go_at_call 120; with_reducible refine (n1 _).mono ?_; rintro e1 w1 ⟨rfl, rfl⟩) | (go_at_call 120; with_reducible refine (s1 _).mono ?_; rintro e1 w1 ⟨rfl, rfl⟩))
            rw [rounds_succ]
            go_wp2_with (first | (go_at_call 120; with_reducible refine (n2 _).mono ?_; rintro e1 w1 ⟨rfl, rfl⟩) | (go_at_call 120; with_reducible refine (s2 _).mono ?_; rintro e1 w1 ⟨rfl, rfl⟩) | (go_at_call 120; with_reducible refine (n1 _).mono ?_; rintro e1 w1 ⟨rfl, rfl⟩) | (go_at_call 120; with_reducible refine (s1 _).mono ?_; rintro e1 w1 ⟨rfl, rfl⟩))
            rw [rounds_succ]
            go_wp2_with (first | (go_at_call 120; with_reducible refine (n2 _).mono ?_; rintro e1 w1 ⟨rfl, rfl⟩) | (go_at_call 120; with_reducible refine (s2 _).mono ?_; rintro e1 w1 ⟨rfl, rfl⟩) | (go_at_call 120; with_reducible refine (n1 _).mono ?_; rintro e1 w1 ⟨rfl, rfl⟩) | (go_at_call 120; with_reducible refine (s1 _).mono ?_; rintro e1 w1 ⟨rfl, rfl⟩))
            go_returns
            exact ⟨by first | rfl | (rw [tok_ref]; rfl), by go_grown⟩
          · rw [hS1] at s1
            have hr2 : r = .tok 5 0 t1 (i + 1) := by rw [← hr.out, symX, x1, if_neg (by rw [x2]; simp [amS, hN2, hS2]), if_pos (by simp [amS, hN1, hS1])]
            subst hr2
            clear hr
            go_enter Tryz.func72, Tryz.ntmps72
            go_wp2_with (first | (go_at_call 120; with_reducible refine (n2 _).mono ?_; rintro e1 w1 ⟨rfl, rfl⟩) | (go_at_call 120; with_reducible refine (s2 _).mono ?_; rintro e1 w1 ⟨rfl, rfl⟩) | (go_at_call 120; with_reducible refine (n1 _).mono ?_; rintro e1 w1 ⟨rfl, rfl⟩) | (go_at_call 120; with_reducible refine (s1 _).mono ?_; rintro e1 w1 ⟨rfl, rfl⟩))
            refine wp_loop_rounds 3 ?_
            rw [rounds_succ]
            go_wp2_with (first | (go_at_call 120; with_reducible refine (n2 _).mono ?_; rintro e1 w1 ⟨rfl, rfl⟩) | (go_at_call 120; with_reducible refine (s2 _).mono ?_; rintro e1 w1 ⟨rfl, rfl⟩) | (go_at_call 120; with_reducible refine (n1 _).mono ?_; rintro e1 w1 ⟨rfl, rfl⟩) | (go_at_call 120; with_reducible refine (s1 _).mono ?_; rintro e1 w1 ⟨rfl, rfl⟩))
            rw [rounds_succ]
            go_wp2_with (first | (go_at_call 120; with_reducible refine (n2 _).mono ?_; rintro e1 w1 ⟨rfl, rfl⟩) | (go_at_call 120; with_reducible refine (s2 _).mono ?_; rintro e1 w1 ⟨rfl, rfl⟩) | (go_at_call 120; with_reducible refine (n1 _).mono ?_; rintro e1 w1 ⟨rfl, rfl⟩) | (go_at_call 120; with_reducible refine (s1 _).mono ?_; rintro e1 w1 ⟨rfl, rfl⟩))
            go_returns
            exact ⟨by first | rfl | (rw [tok_ref]; rfl), by go_grown⟩
        · rw [hN1] at n1
          have hr2 : r = .tok 5 0 t1 (i + 1) := by rw [← hr.out, symX, x1, if_neg (by rw [x2]; simp [amS, hN2, hS2]), if_pos (by simp [amS, hN1])]
          subst hr2
          clear hr
          go_enter Tryz.func72, Tryz.ntmps72
          go_wp2_with (first | (go_at_call 120; with_reducible refine (n2 _).mono ?_; rintro e1 w1 ⟨rfl, rfl⟩) | (go_at_call 120; with_reducible refine (s2 _).mono ?_; rintro e1 w1 ⟨rfl, rfl⟩) | (go_at_call 120; with_reducible refine (n1 _).mono ?_; rintro e1 w1 ⟨rfl, rfl⟩))
          refine wp_loop_rounds 3 ?_
          rw [rounds_succ]
          go_wp2_with (first | (go_at_call 120; with_reducible refine (n2 _).mono ?_; rintro e1 w1 ⟨rfl, rfl⟩) | (go_at_call 120; with_reducible refine (s2 _).mono ?_; rintro e1 w1 ⟨rfl, rfl⟩) | (go_at_call 120; with_reducible refine (n1 _).mono ?_; rintro e1 w1 ⟨rfl, rfl⟩))
          rw [rounds_succ]
          go_wp2_with (first | (go_at_call 120; with_reducible refine (n2 _).mono ?_; rintro e1 w1 ⟨rfl, rfl⟩) | (go_at_call 120; with_reducible refine (s2 _).mono ?_; rintro e1 w1 ⟨rfl, rfl⟩) | (go_at_call 120; with_reducible refine (n1 _).mono ?_; rintro e1 w1 ⟨rfl, rfl⟩))
          go_returns
          exact ⟨by first | rfl | (rw [tok_ref]; rfl), by go_grown⟩
      · rw [hS2] at s2
        have hr2 : r = .tok 5 0 t2 (i + 2) := by rw [← hr.out, symX, x2, if_pos ⟨h2, by simp [amS, hN2, hS2]⟩]
        subst hr2
        clear hr
        go_enter Tryz.func72, Tryz.ntmps72
        go_wp2_with (first | (go_at_call 120; with_reducible refine (n2 _).mono ?_; rintro e1 w1 ⟨rfl, rfl⟩) | (go_at_call 120; with_reducible refine (s2 _).mono ?_; rintro e1 w1 ⟨rfl, rfl⟩))
        refine wp_loop_rounds 3 ?_
        rw [rounds_succ]
        go_wp2_with (first | (go_at_call 120; with_reducible refine (n2 _).mono ?_; rintro e1 w1 ⟨rfl, rfl⟩) | (go_at_call 120; with_reducible refine (s2 _).mono ?_; rintro e1 w1 ⟨rfl, rfl⟩))
        go_returns
        exact ⟨by first | rfl | (rw [tok_ref]; rfl), by go_grown⟩
    · rw [hN2] at n2
      have hr2 : r = .tok 5 0 t2 (i + 2) := by rw [← hr.out, symX, x2, if_pos ⟨h2, by simp [amS, hN2]⟩]
      subst hr2
      clear hr
      go_enter Tryz.func72, Tryz.ntmps72
      go_wp2_with (first | (go_at_call 120; with_reducible refine (n2 _).mono ?_; rintro e1 w1 ⟨rfl, rfl⟩))
      refine wp_loop_rounds 3 ?_
      rw [rounds_succ]
      go_wp2_with (first | (go_at_call 120; with_reducible refine (n2 _).mono ?_; rintro e1 w1 ⟨rfl, rfl⟩))
      go_returns
      exact ⟨by first | rfl | (rw [tok_ref]; rfl), by go_grown⟩
  · have h2' : ¬ (i : Int) + 2 ≤ (s.size : Int) := by omega
    cases hN1 : amB namesL t1.data.toList
    · rw [hN1] at n1
      cases hS1 : amB signsL t1.data.toList
      · rw [hS1] at s1
        have hr2 : r = .bad 6 i := by rw [← hr.out, symX, x1, if_neg (by omega), if_neg (by simp [amS, hN1, hS1])]
        subst hr2
        clear hr
        go_enter Tryz.func72, Tryz.ntmps72
        go_wp2_with (first | (go_at_call 120; with_reducible refine (n1 _).mono ?_; rintro e1 w1 ⟨rfl, rfl⟩) | (go_at_call 120; with_reducible refine (s1 _).mono ?_; rintro e1 w1 ⟨rfl, rfl⟩))
        refine wp_loop_rounds 3 ?_
        rw [rounds_succ]
        go_wp2_with (first | (go_at_call 120; with_reducible refine (n1 _).mono ?_; rintro e1 w1 ⟨rfl, rfl⟩) | (go_at_call 120; with_reducible refine (s1 _).mono ?_; rintro e1 w1 ⟨rfl, rfl⟩))
        rw [rounds_succ]
        go_wp2_with (first | (go_at_call 120; with_reducible refine (n1 _).mono ?_; rintro e1 w1 ⟨rfl, rfl⟩) | (go_at_call 120; with_reducible refine (s1 _).mono ?_; rintro e1 w1 ⟨rfl, rfl⟩))
        rw [rounds_succ]
        go_wp2_with (first | (go_at_call 120; with_reducible refine (n1 _).mono ?_; rintro e1 w1 ⟨rfl, rfl⟩) | (go_at_call 120; with_reducible refine (s1 _).mono ?_; rintro e1 w1 ⟨rfl, rfl⟩))
        go_returns
        exact ⟨by first | rfl | (rw [tok_ref]; rfl), by go_grown⟩
      · rw [hS1] at s1
        have hr2 : r = .tok 5 0 t1 (i + 1) := by rw [← hr.out, symX, x1, if_neg (by omega), if_pos (by simp [amS, hN1, hS1])]
        subst hr2
        clear hr
        go_enter Tryz.func72, Tryz.ntmps72
        go_wp2_with (first | (go_at_call 120; with_reducible refine (n1 _).mono ?_; rintro e1 w1 ⟨rfl, rfl⟩) | (go_at_call 120; with_reducible refine (s1 _).mono ?_; rintro e1 w1 ⟨rfl, rfl⟩))
        refine wp_loop_rounds 3 ?_
        rw [rounds_succ]
        go_wp2_with (first | (go_at_call 120; with_reducible refine (n1 _).mono ?_; rintro e1 w1 ⟨rfl, rfl⟩) | (go_at_call 120; with_reducible refine (s1 _).mono ?_; rintro e1 w1 ⟨rfl, rfl⟩))
        rw [rounds_succ]
        go_wp2_with (first | (go_at_call 120; with_reducible refine (n1 _).mono ?_; rintro e1 w1 ⟨rfl, rfl⟩) | (go_at_call 120; with_reducible refine (s1 _).mono ?_; rintro e1 w1 ⟨rfl, rfl⟩))
        go_returns
        exact ⟨by first | rfl | (rw [tok_ref]; rfl), by go_grown⟩
    · rw [hN1] at n1
      have hr2 : r = .tok 5 0 t1 (i + 1) := by rw [← hr.out, symX, x1, if_neg (by omega), if_pos (by simp [amS, hN1])]
      subst hr2
      clear hr
      go_enter Tryz.func72, Tryz.ntmps72
      go_wp2_with (first | (go_at_call 120; with_reducible refine (n1 _).mono ?_; rintro e1 w1 ⟨rfl, rfl⟩))
      refine wp_loop_rounds 3 ?_
      rw [rounds_succ]
      go_wp2_with (first | (go_at_call 120; with_reducible refine (n1 _).mono ?_; rintro e1 w1 ⟨rfl, rfl⟩))
      rw [rounds_succ]
      go_wp2_with (first | (go_at_call 120; with_reducible refine (n1 _).mono ?_; rintro e1 w1 ⟨rfl, rfl⟩))
      go_returns
      exact ⟨by first | rfl | (rw [tok_ref]; rfl), by go_grown⟩
end Go.Proofs.YtljgehammocpkaaGreatDoor.Tok
