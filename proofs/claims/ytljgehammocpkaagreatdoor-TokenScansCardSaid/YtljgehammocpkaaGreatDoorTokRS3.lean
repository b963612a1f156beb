/-
  Layer 8: the reference's word.
-/
import Derived.Test.YtljgehammocpkaaGreatDoorTokRS1
namespace Go.Proofs.YtljgehammocpkaaGreatDoor.Tok
open Go.RowKit
set_option linter.unusedVariables false
set_option linter.unusedSimpArgs false

theorem up_all {t : ByteArray} (h : ∀ i (hi : i < t.size), ¬ (65 ≤ t[i].toNat ∧ t[i].toNat ≤ 90)) : upB t.toList = false := by
  rw [Bool.eq_false_iff]
  intro q
  obtain ⟨c, c1, c2⟩ := List.any_eq_true.1 q
  rw [ByteArray.toList_eq] at c1
  obtain ⟨i, hi, rfl⟩ := List.getElem_of_mem c1
  exact h i (by rw [Lib.size_eq]; exact hi) (of_decide_eq_true c2)
theorem up_one {t : ByteArray} {i : Nat} (hi : i < t.size) (h : 65 ≤ t[i].toNat ∧ t[i].toNat ≤ 90) : upB t.toList = true := by
  by_cases q : upB t.toList = true
  · exact q
  · exact absurd h (up_not q i hi)
set_option maxRecDepth 100000 in
set_option maxHeartbeats 8000000 in
theorem plainG (t : ByteArray) (hs : t.size ≤ 65536) (hpos : 0 < t.size) (hf : leB t[0].toNat = true) (ha : ∀ j (h : j < t.size), (leB t[j].toNat || dgB t[j].toNat) = true) (w : World) :
    Calls Tryz.prog 123 #[.string t] w fun e w' => e = .returned (.bool (!upB t.toList)) ∧ w = w' := by
  obtain ⟨R, hR⟩ : ∃ R, Hid ((!upB t.toList) = R) := ⟨_, rfl⟩
  rw [hR.out]
  obtain ⟨n, hn⟩ : ∃ n, t.size = n := ⟨_, rfl⟩
  have hx : ((n : Int) == 0) = false := by simp; omega
  have hcb0 : (t[0].toNat : Int) ≤ 255 := by have := t[0].toNat_lt; omega
  have n1 : (n : Int) ≤ 65536 := by omega
  have cS := fun w => smallB t[0].toNat w
  unfold leB at hf
  by_cases hu : 65 ≤ t[0].toNat ∧ t[0].toNat ≤ 90
  · have e : R = false := by rw [← hR.out, up_one hpos hu]; rfl
    subst e
    have e2 : smB t[0].toNat = false := decide_eq_false (by omega)
    rw [e2] at cS
    clear hR hf ha
    go_enter Tryz.func123, Tryz.ntmps123
    go_wp2_with (go_at_call 121; with_reducible refine (cS _).mono ?_; rintro e1 w1 ⟨rfl, rfl⟩)
    go_ret
    exact ⟨rfl, rfl⟩
  have e2 : smB t[0].toNat = true := by rw [decide_eq_false hu, Bool.or_false] at hf; exact hf
  rw [e2] at cS
  clear hf hu
  go_enter Tryz.func123, Tryz.ntmps123
  go_wp2_with (go_at_call 121; with_reducible refine (cS _).mono ?_; rintro e1 w1 ⟨rfl, rfl⟩)
  go_loopw [3] (fun i wr => ∃ j : Nat, j ≤ n ∧ i = .int .i64 (j : Int) ∧ (∀ k, k < j → ∀ h : k < t.size, ¬ (65 ≤ t[k].toNat ∧ t[k].toNat ≤ 90)) ∧ w = wr) (fun i _ => n - (intOf i).toNat)
  case atStart => exact ⟨0, Nat.zero_le _, rfl, fun k hk => absurd hk (by omega), by first | rfl | trivial⟩
  case round =>
    obtain ⟨j, hj, rfl, hall, rfl⟩ := hrel
    by_cases hlt : j < n
    · have hlt' : (j : Int) < (n : Int) := by omega
      have hjs : j < t.size := by rw [hn]; exact hlt
      have hcb : (t[j].toNat : Int) ≤ 255 := by have := t[j].toNat_lt; omega
      have cJ := fun w => smallB t[j].toNat w
      have cD := fun w => digitB t[j].toNat w
      have haj := ha j hjs
      unfold leB at haj
      by_cases hu : 65 ≤ t[j].toNat ∧ t[j].toNat ≤ 90
      · have e : R = false := by rw [← hR.out, up_one hjs hu]; rfl
        subst e
        rw [show smB t[j].toNat = false from decide_eq_false (by omega)] at cJ
        rw [show dgB t[j].toNat = false from decide_eq_false (by omega)] at cD
        clear hR ha hall haj cS
        go_wp2_with (first
          | (go_at_call 121; with_reducible refine (cJ _).mono ?_; rintro e1 w1 ⟨rfl, rfl⟩)
          | (go_at_call 73; with_reducible refine (cD _).mono ?_; rintro e2 w2 ⟨rfl, rfl⟩))
        go_ret
        exact ⟨rfl, rfl⟩
      · have hall2 : ∀ k, k < j + 1 → ∀ h : k < t.size, ¬ (65 ≤ t[k].toNat ∧ t[k].toNat ≤ 90) := fun k hk h => by
          by_cases e : k = j
          · subst e; exact hu
          · exact hall k (by omega) h
        cases hsm : smB t[j].toNat
        · rw [hsm] at cJ
          have hdg : dgB t[j].toNat = true := by
            rw [hsm, decide_eq_false hu, Bool.false_or, Bool.false_or] at haj
            exact haj
          rw [hdg] at cD
          clear hR ha hall haj cS
          go_wp2_with (first
            | (go_at_call 121; with_reducible refine (cJ _).mono ?_; rintro e1 w1 ⟨rfl, rfl⟩)
            | (go_at_call 73; with_reducible refine (cD _).mono ?_; rintro e2 w2 ⟨rfl, rfl⟩))
          go_roundw
          case rel => exact ⟨j + 1, by omega, by go_num, hall2, by first | rfl | trivial⟩
          case measure => simp [intOf]; omega
        · rw [hsm] at cJ
          clear hR ha hall haj cS
          go_wp2_with (go_at_call 121; with_reducible refine (cJ _).mono ?_; rintro e1 w1 ⟨rfl, rfl⟩)
          go_roundw
          case rel => exact ⟨j + 1, by omega, by go_num, hall2, by first | rfl | trivial⟩
          case measure => simp [intOf]; omega
    · obtain rfl : j = n := by omega
      have e : R = true := by rw [← hR.out, up_all fun i hi => hall i (by omega) hi]; rfl
      subst e
      clear hR ha hall cS
      go_wp2
      go_ret
      exact ⟨rfl, rfl⟩
theorem word_setup {s : ByteArray} {i : Nat} (hi : i < s.size) (hl : isLet s i = true) : ∃ m : Nat, i < m ∧ m ≤ s.size ∧ (∀ k, i ≤ k → k < m → isLD s k = true) ∧ isLD s m = false ∧ wordS s i (i + 1) = wordAt (s.extract i m) i m := by
  obtain ⟨m, hm⟩ : ∃ m, manyTo (one (isLD s)) (s.size - (i + 1)) (i + 1) = m := ⟨_, rfl⟩
  have g := manyTo_ge (goes_one (n := s.size) (p := isLD s) fun i h => isLD_lt h) (s.size - (i + 1)) (i + 1) hi
  have hall : ∀ k, i + 1 ≤ k → k < m → isLD s k = true := fun k h1 h2 => many_run _ _ k h1 (by rw [hm]; exact h2)
  have hend : isLD s m = false := by
    have := manyTo_end (goes_one (n := s.size) (p := isLD s) fun i h => isLD_lt h) (by show isLD s s.size = false; unfold isLD isLet isDig; rw [inB_end (Nat.lt_irrefl _), inB_end (Nat.lt_irrefl _), inB_end (Nat.lt_irrefl _)]; rfl) (s.size - (i + 1)) (i + 1) hi (Nat.le_refl _)
    rw [hm] at this
    exact this
  rw [hm] at g
  refine ⟨m, by omega, g.2, fun k h1 h2 => ?_, hend, by unfold wordS; rw [hm]⟩
  by_cases e : k = i
  · rw [e]; unfold isLD; rw [hl]; rfl
  · exact hall k (by omega) h2
set_option maxRecDepth 100000 in
set_option maxHeartbeats 16000000 in
theorem wordR (s : ByteArray) (hs : s.size ≤ 65536) (w : World) (i : Nat) (hi : i < s.size) (hl : isLet s i = true) :
    Calls Tryz.prog 76 #[.string s, .int .i64 (i : Int)] w fun e w' => e = .returned ((wordS s i (i + 1)).ref i) ∧ Below w.heap.size w w' := by
  obtain ⟨m, hm1, hm2, hall, hend, hv⟩ := word_setup hi hl
  rw [hv]
  clear hv
  have hi64 : (i : Int) ≤ 65536 := by omega
  have hm64 : (m : Int) ≤ 65536 := by omega
  have hsz64 : (s.size : Int) ≤ 65536 := by omega
  obtain ⟨t, ht⟩ : ∃ t, s.extract i m = t := ⟨_, rfl⟩
  have htz : t.size = m - i := by rw [← ht, ByteArray.size_extract]; omega
  have hg : ∀ j (h : j < t.size), (leB t[j].toNat || dgB t[j].toNat) = true := fun j h => by
    subst ht
    have h1 : i + j < s.size := by omega
    rw [get_extract h h1, ← isLet_c h1, ← isDig_c h1]
    exact hall (i + j) (by omega) (by omega)
  have hpos : 0 < t.size := by omega
  have hf : leB t[0].toNat = true := by
    subst ht
    have h1 : i + 0 < s.size := by omega
    rw [get_extract hpos h1, ← isLet_c h1]
    exact hl
  have cP := fun w => plainG t (by omega) hpos hf hg w
  have cR := fun w => reservedR t (by omega) w
  rw [← res_same, ← ByteArray.toList_eq] at cR
  clear hg hf hpos hl
  rw [ht]
  obtain ⟨r, hr⟩ : ∃ r, Hid (wordAt t i m = r) := ⟨_, rfl⟩
  rw [hr.out]
  go_enter Tryz.func76, Tryz.ntmps76
  go_wp2
  go_loopw [6] (fun v wr => ∃ k : Nat, i ≤ k ∧ k ≤ m ∧ v = .int .i64 (k : Int) ∧ w.alloc (.cells #[.int .i64 0, .int .i64 0, .int .i64 0, .int .i64 0, .string ⟨#[]⟩] 62) = wr) (fun v _ => m - (intOf v).toNat)
  case atStart => exact ⟨i, Nat.le_refl _, by omega, rfl, by first | rfl | trivial⟩
  case round =>
    obtain ⟨k, hk0, hk, rfl, rfl⟩ := hrel
    by_cases hlt : k < m
    · have hks : k < s.size := by omega
      have hlt' : (k : Int) < (s.size : Int) := by omega
      have hcb : (s[k].toNat : Int) ≤ 255 := by have := s[k].toNat_lt; omega
      have hk2 := hall k hk0 hlt
      have cL := fun w => letterB s[k].toNat w
      have cD := fun w => digitB s[k].toNat w
      unfold isLD at hk2
      rw [isLet_c hks, isDig_c hks] at hk2
      clear hall hend cP cR ht hr
      cases hL : leB s[k].toNat
      · rw [hL] at cL hk2
        rw [Bool.false_or] at hk2
        rw [hk2] at cD
        go_wp2_with (first
          | (go_at_call 75; with_reducible refine (cL _).mono ?_; rintro e1 w1 ⟨rfl, rfl⟩)
          | (go_at_call 73; with_reducible refine (cD _).mono ?_; rintro e2 w2 ⟨rfl, rfl⟩))
        go_roundw
        case rel => exact ⟨k + 1, by omega, by omega, by go_num, by first | rfl | trivial⟩
        case measure => simp [intOf]; omega
      · rw [hL] at cL
        go_wp2_with (go_at_call 75; with_reducible refine (cL _).mono ?_; rintro e1 w1 ⟨rfl, rfl⟩)
        go_roundw
        case rel => exact ⟨k + 1, by omega, by omega, by go_num, by first | rfl | trivial⟩
        case measure => simp [intOf]; omega
    · obtain rfl : k = m := by omega
      have hr2 := hr.out
      unfold wordAt at hr2
      have hik : (i : Int) ≤ (k : Int) := by omega
      have htz' : (t.size : Int) = (k : Int) - (i : Int) := by omega
      by_cases hks : k < s.size
      · have hlt' : (k : Int) < (s.size : Int) := by omega
        have hcb : (s[k].toNat : Int) ≤ 255 := by have := s[k].toNat_lt; omega
        have cL := fun w => letterB s[k].toNat w
        have cD := fun w => digitB s[k].toNat w
        unfold isLD at hend
        rw [isLet_c hks, isDig_c hks, Bool.or_eq_false_iff] at hend
        rw [hend.1] at cL
        rw [hend.2] at cD
        clear hall hend
        cases hres : resB t.toList
        · rw [hres] at cR
          cases hup : upB t.toList
          · rw [hup] at cP
            by_cases h32 : 32 < t.size
            · have h32' : 32 < (t.size : Int) := by omega
              rw [hres, hup, if_neg (by decide), if_neg (by decide), if_pos h32] at hr2
              subst hr2
              clear hr htz'
              go_wp2_with (first
                | (go_at_call 75; with_reducible refine (cL _).mono ?_; rintro e1 w1 ⟨rfl, rfl⟩)
                | (go_at_call 73; with_reducible refine (cD _).mono ?_; rintro e2 w2 ⟨rfl, rfl⟩)
                | (go_at_call 122; with_reducible refine (cR _).mono ?_; rintro e3 w3 ⟨rfl, rfl⟩)
                | (go_at_call 123; with_reducible refine (cP _).mono ?_; rintro e4 w4 ⟨rfl, rfl⟩))
              go_returns
              exact ⟨rfl, by go_grown⟩
            · have h32' : ¬ 32 < (t.size : Int) := by omega
              rw [hres, hup, if_neg (by decide), if_neg (by decide), if_neg h32] at hr2
              subst hr2
              clear hr htz'
              go_wp2_with (first
                | (go_at_call 75; with_reducible refine (cL _).mono ?_; rintro e1 w1 ⟨rfl, rfl⟩)
                | (go_at_call 73; with_reducible refine (cD _).mono ?_; rintro e2 w2 ⟨rfl, rfl⟩)
                | (go_at_call 122; with_reducible refine (cR _).mono ?_; rintro e3 w3 ⟨rfl, rfl⟩)
                | (go_at_call 123; with_reducible refine (cP _).mono ?_; rintro e4 w4 ⟨rfl, rfl⟩))
              go_returns
              exact ⟨rfl, by go_grown⟩
          · rw [hup] at cP
            rw [hres, hup, if_neg (by decide), if_pos rfl] at hr2
            subst hr2
            clear hr htz'
            go_wp2_with (first
              | (go_at_call 75; with_reducible refine (cL _).mono ?_; rintro e1 w1 ⟨rfl, rfl⟩)
              | (go_at_call 73; with_reducible refine (cD _).mono ?_; rintro e2 w2 ⟨rfl, rfl⟩)
              | (go_at_call 122; with_reducible refine (cR _).mono ?_; rintro e3 w3 ⟨rfl, rfl⟩)
              | (go_at_call 123; with_reducible refine (cP _).mono ?_; rintro e4 w4 ⟨rfl, rfl⟩))
            go_returns
            exact ⟨rfl, by go_grown⟩
        · rw [hres] at cR
          rw [hres, if_pos rfl] at hr2
          subst hr2
          clear hr htz'
          go_wp2_with (first
            | (go_at_call 75; with_reducible refine (cL _).mono ?_; rintro e1 w1 ⟨rfl, rfl⟩)
            | (go_at_call 73; with_reducible refine (cD _).mono ?_; rintro e2 w2 ⟨rfl, rfl⟩)
            | (go_at_call 122; with_reducible refine (cR _).mono ?_; rintro e3 w3 ⟨rfl, rfl⟩))
          go_returns
          exact ⟨rfl, by go_grown⟩
      · have hlt' : ¬ (k : Int) < (s.size : Int) := by omega
        clear hall hend
        cases hres : resB t.toList
        · rw [hres] at cR
          cases hup : upB t.toList
          · rw [hup] at cP
            by_cases h32 : 32 < t.size
            · have h32' : 32 < (t.size : Int) := by omega
              rw [hres, hup, if_neg (by decide), if_neg (by decide), if_pos h32] at hr2
              subst hr2
              clear hr htz'
              go_wp2_with (first
                | (go_at_call 122; with_reducible refine (cR _).mono ?_; rintro e3 w3 ⟨rfl, rfl⟩)
                | (go_at_call 123; with_reducible refine (cP _).mono ?_; rintro e4 w4 ⟨rfl, rfl⟩))
              go_returns
              exact ⟨rfl, by go_grown⟩
            · have h32' : ¬ 32 < (t.size : Int) := by omega
              rw [hres, hup, if_neg (by decide), if_neg (by decide), if_neg h32] at hr2
              subst hr2
              clear hr htz'
              go_wp2_with (first
                | (go_at_call 122; with_reducible refine (cR _).mono ?_; rintro e3 w3 ⟨rfl, rfl⟩)
                | (go_at_call 123; with_reducible refine (cP _).mono ?_; rintro e4 w4 ⟨rfl, rfl⟩))
              go_returns
              exact ⟨rfl, by go_grown⟩
          · rw [hup] at cP
            rw [hres, hup, if_neg (by decide), if_pos rfl] at hr2
            subst hr2
            clear hr htz'
            go_wp2_with (first
              | (go_at_call 122; with_reducible refine (cR _).mono ?_; rintro e3 w3 ⟨rfl, rfl⟩)
              | (go_at_call 123; with_reducible refine (cP _).mono ?_; rintro e4 w4 ⟨rfl, rfl⟩))
            go_returns
            exact ⟨rfl, by go_grown⟩
        · rw [hres] at cR
          rw [hres, if_pos rfl] at hr2
          subst hr2
          clear hr htz'
          go_wp2_with (go_at_call 122; with_reducible refine (cR _).mono ?_; rintro e3 w3 ⟨rfl, rfl⟩)
          go_returns
          exact ⟨rfl, by go_grown⟩
end Go.Proofs.YtljgehammocpkaaGreatDoor.Tok
