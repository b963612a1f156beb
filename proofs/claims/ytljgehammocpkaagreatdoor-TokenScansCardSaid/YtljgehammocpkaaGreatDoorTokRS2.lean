/-
  Layer 8: the reference's number. (Written by wip/gen/token-rs2.py.)
-/
import Derived.Test.YtljgehammocpkaaGreatDoorTokRS1
namespace Go.Proofs.YtljgehammocpkaaGreatDoor.Tok
open Go.RowKit
set_option linter.unusedVariables false
set_option linter.unusedSimpArgs false

theorem ext_cons {s : ByteArray} {k m : Nat} (h : k < m) (hm : m ≤ s.size) : (s.extract k m).data.toList = s[k] :: (s.extract (k + 1) m).data.toList := by
  rw [extract_list, extract_list, Num.drop_cons s k (by omega)]
  obtain ⟨d, hd⟩ : ∃ d, m - k = d + 1 := ⟨m - k - 1, by omega⟩
  rw [hd, List.take_succ_cons, show m - (k + 1) = d by omega]
theorem ext_nil {s : ByteArray} {m : Nat} : (s.extract m m).data.toList = [] := by
  rw [extract_list, Nat.sub_self, List.take_zero]
/-- What the digits give, F: whether those before them fit, N: what those before them denote. -/
def numG (F : Bool) (N : Int) (l : List UInt8) : Option Int := if F = true then Num.rdGo N l else none
theorem numG_step {c : UInt8} (h : 48 ≤ c.toNat ∧ c.toNat ≤ 57) {L l : List UInt8} (hL : L = c :: l) {F : Bool} {N : Int} :
    (F = true → N ≤ (4611686018427387903 - ((c.toNat : Int) - 48)) / 10 → numG F N L = numG true (10 * N + ((c.toNat : Int) - 48)) l) ∧
    (F = true → ¬ N ≤ (4611686018427387903 - ((c.toNat : Int) - 48)) / 10 → numG F N L = numG false N l) ∧ (F = false → numG F N L = numG false N l) := by
  subst hL
  refine ⟨fun e q => ?_, fun e q => ?_, fun e => ?_⟩
  · subst e
    unfold numG
    rw [if_pos rfl, if_pos rfl, Num.rdGo_step h.1 h.2 q]
  · subst e
    unfold numG
    rw [if_pos rfl, if_neg (by decide), Num.rdGo_big (by omega)]
  · subst e; rfl
theorem num_setup {s : ByteArray} {i : Nat} (hi : i < s.size) (hd : inB s i 95 95 = true ∨ isDig s i = true) : ∃ fr m : Nat, fr ≤ m ∧ m ≤ s.size ∧ (∀ k, fr ≤ k → k < m → isDig s k = true) ∧ isDig s m = false ∧
    ((s[i].toNat = 95 ∧ fr = i + 1) ∨ (¬ s[i].toNat = 95 ∧ fr = i)) ∧
    ∀ (F : Bool) (N : Int), Num.rdGo 0 (s.extract fr m).data.toList = numG F N [] → ((m = fr ∨ F = false ∨ isLet s m = true ∨ inB s m 95 95 = true) → numS s i (i + 1) = .bad 4 i) ∧
      (¬ (m = fr ∨ F = false ∨ isLet s m = true ∨ inB s m 95 95 = true) → numS s i (i + 1) = .tok 1 (if fr = i then N else -N) ⟨#[]⟩ m) := by
  obtain ⟨m, hm⟩ : ∃ m, manyTo (one (isDig s)) (s.size - (i + 1)) (i + 1) = m := ⟨_, rfl⟩
  have g := manyTo_ge (goes_one (n := s.size) (p := isDig s) fun i h => isDig_lt h) (s.size - (i + 1)) (i + 1) hi
  have hall : ∀ k, i + 1 ≤ k → k < m → isDig s k = true := fun k h1 h2 => many_run _ _ k h1 (by rw [hm]; exact h2)
  have hend : isDig s m = false := by
    have := manyTo_end (goes_one (n := s.size) (p := isDig s) fun i h => isDig_lt h) (by show isDig s s.size = false; exact inB_end (Nat.lt_irrefl _)) (s.size - (i + 1)) (i + 1) hi (Nat.le_refl _)
    rw [hm] at this
    exact this
  rw [hm] at g
  have hn : numS s i (i + 1) = numAt s i m := by unfold numS; rw [hm]
  by_cases h95 : s[i].toNat = 95
  · refine ⟨i + 1, m, g.1, g.2, hall, hend, Or.inl ⟨h95, rfl⟩, fun F N hG => ?_⟩
    have e := ext_cons (s := s) (k := i) (m := m) (by omega) g.2
    rw [Num.u8_eq h95] at e
    rw [hn]
    unfold numAt
    rw [e]
    by_cases hmi : m = i + 1
    · subst hmi
      rw [ext_nil]
      refine ⟨fun _ => if_pos (Or.inl (show (4 : Int) ≠ 0 by decide)), fun q => absurd (Or.inl rfl) q⟩
    · have hne : (s.extract (i + 1) m).data.toList ≠ [] := by
        rw [ext_cons (s := s) (k := i + 1) (by omega) g.2]; simp
      rw [Num.rdS_neg hne, hG]
      cases F with
      | false =>
        refine ⟨fun _ => if_pos (Or.inl (show (4 : Int) ≠ 0 by decide)), fun q => absurd (Or.inr (Or.inl rfl)) q⟩
      | true =>
        have e0 : Num.rdAns (-1) (numG true N []) = (-1 * N, 0) := rfl
        rw [e0]
        refine ⟨fun q => ?_, fun q => ?_⟩
        · rw [if_pos]
          rcases q with q | q | q | q
          · exact absurd q hmi
          · cases q
          · exact Or.inr (Or.inl q)
          · exact Or.inr (Or.inr q)
        · rw [if_neg, if_neg (by omega)]
          · congr 1; show -1 * N = -N; omega
          · rintro (p | p | p)
            · exact p rfl
            · exact q (Or.inr (Or.inr (Or.inl p)))
            · exact q (Or.inr (Or.inr (Or.inr p)))
  · have hdi : isDig s i = true := by
      rcases hd with h | h
      · have := inB_c (lo := 95) (hi := 95) hi
        rw [show (((95 : Nat) : Int)) = 95 from rfl, h] at this
        have := of_decide_eq_true this.symm
        omega
      · exact h
    refine ⟨i, m, by omega, g.2, fun k h1 h2 => ?_, hend, Or.inr ⟨h95, rfl⟩, fun F N hG => ?_⟩
    · by_cases e : k = i
      · rw [e]; exact hdi
      · exact hall k (by omega) h2
    have e := ext_cons (s := s) (k := i) (m := m) (by omega) g.2
    rw [hn]
    unfold numAt
    rw [e, Num.rdS_pos h95, ← e, hG]
    cases F with
    | false =>
      refine ⟨fun _ => if_pos (Or.inl (show (4 : Int) ≠ 0 by decide)), fun q => absurd (Or.inr (Or.inl rfl)) q⟩
    | true =>
      have e0 : Num.rdAns 1 (numG true N []) = (1 * N, 0) := rfl
      rw [e0]
      refine ⟨fun q => ?_, fun q => ?_⟩
      · rw [if_pos]
        rcases q with q | q | q | q
        · omega
        · cases q
        · exact Or.inr (Or.inl q)
        · exact Or.inr (Or.inr q)
      · rw [if_neg, if_pos rfl]
        · congr 1; show 1 * N = N; omega
        · rintro (p | p | p)
          · exact p rfl
          · exact q (Or.inr (Or.inr (Or.inl p)))
          · exact q (Or.inr (Or.inr (Or.inr p)))
set_option maxRecDepth 100000 in
set_option maxHeartbeats 16000000 in
theorem numberR (s : ByteArray) (hs : s.size ≤ 65536) (w : World) (i : Nat) (hi : i < s.size) (hd : inB s i 95 95 = true ∨ isDig s i = true) :
    Calls Tryz.prog 74 #[.string s, .int .i64 (i : Int)] w fun e w' => e = .returned ((numS s i (i + 1)).ref i) ∧ Below w.heap.size w w' := by
  obtain ⟨fr, m, hm1, hm2, hall, hend, hfr, hq⟩ := num_setup hi hd
  have hcbi : (s[i].toNat : Int) ≤ 255 := by have := s[i].toNat_lt; omega
  have hi64 : (i : Int) ≤ 65536 := by omega
  have hm64 : (m : Int) ≤ 65536 := by omega
  have hsz64 : (s.size : Int) ≤ 65536 := by omega
  rcases hfr with ⟨h95, hfi⟩ | ⟨h95, hfi⟩
  · have hx0 : ((s[i].toNat : Int) == 95) = true := by rw [h95]; rfl
    simp only [if_neg (show ¬ fr = i by omega)] at hq
    clear h95
    go_enter Tryz.func74, Tryz.ntmps74
    go_wp2
    go_loopw [7, 8, 9] (fun t n f wr => ∃ (k : Nat) (N : Int) (Fb : Bool), fr ≤ k ∧ k ≤ m ∧ t = .int .i64 (k : Int) ∧ n = .int .i64 N ∧ f = .bool Fb ∧ 0 ≤ N ∧ N ≤ 4611686018427387903 ∧ Hid (Num.rdGo 0 (s.extract fr m).data.toList = numG Fb N (s.extract k m).data.toList) ∧ w.alloc (.cells #[.int .i64 0, .int .i64 0, .int .i64 0, .int .i64 0, .string ⟨#[]⟩] 62) = wr) (fun t _ _ _ => m - (intOf t).toNat)
    case atStart => exact ⟨fr, 0, true, Nat.le_refl _, hm1, by first | rfl | (rw [hfi]; done) | (rw [hfi]; rfl) | (rw [hfi]; simp), rfl, rfl, by decide, by decide, rfl, by first | rfl | trivial⟩
    case round =>
      obtain ⟨k, N, Fb, hk0, hk, rfl, rfl, rfl, hN0, hN1, hG, rfl⟩ := hrel
      by_cases hlt : k < m
      · have hks : k < s.size := by omega
        have hlt' : (k : Int) < (s.size : Int) := by omega
        have hcb : (s[k].toNat : Int) ≤ 255 := by have := s[k].toNat_lt; omega
        have hdk := hall k hk0 hlt
        have cD := fun w => digitB s[k].toNat w
        rw [← isDig_c hks, hdk] at cD
        rw [isDig_c hks] at hdk
        unfold dgB at hdk
        have hdk2 := of_decide_eq_true hdk
        have c1 : 48 ≤ (s[k].toNat : Int) := by omega
        have c2 : (s[k].toNat : Int) ≤ 57 := by omega
        have hst := numG_step hdk2 (ext_cons (s := s) hlt hm2) (F := Fb) (N := N)
        obtain ⟨s1, s2, s3⟩ := hst
        have hGo := hG.out
        cases hF : Fb
        · subst hF
          rw [s3 rfl] at hGo
          have hG2 : Hid (Num.rdGo 0 (s.extract fr m).data.toList = numG false N (s.extract (k + 1) m).data.toList) := hGo
          clear hG hGo s1 s2 s3 hq hall hdk hdk2
          go_wp2_with (go_at_call 73; with_reducible refine (cD _).mono ?_; rintro e1 w1 ⟨rfl, rfl⟩)
          go_roundw
          case rel => exact ⟨k + 1, N, false, by omega, by omega, by go_num, rfl, rfl, hN0, hN1, hG2, by first | rfl | trivial⟩
          case measure => simp [intOf]; omega
        · subst hF
          by_cases c3 : N ≤ (4611686018427387903 - ((s[k].toNat : Int) - 48)) / 10
          · rw [s1 rfl c3] at hGo
            have hG2 : Hid (Num.rdGo 0 (s.extract fr m).data.toList = numG true (10 * N + ((s[k].toNat : Int) - 48)) (s.extract (k + 1) m).data.toList) := hGo
            have hb1 : 0 ≤ 10 * N + ((s[k].toNat : Int) - 48) := by omega
            have hb2 : 10 * N + ((s[k].toNat : Int) - 48) ≤ 4611686018427387903 := by omega
            clear hG hGo s1 s2 s3 hq hall hdk hdk2
            go_wp2_with (go_at_call 73; with_reducible refine (cD _).mono ?_; rintro e1 w1 ⟨rfl, rfl⟩)
            go_roundw
            case rel => exact ⟨k + 1, _, true, by omega, by omega, by go_num, rfl, rfl, hb1, hb2, hG2, by first | rfl | trivial⟩
            case measure => simp [intOf]; omega
          · rw [s2 rfl c3] at hGo
            have hG2 : Hid (Num.rdGo 0 (s.extract fr m).data.toList = numG false N (s.extract (k + 1) m).data.toList) := hGo
            clear hG hGo s1 s2 s3 hq hall hdk hdk2
            go_wp2_with (go_at_call 73; with_reducible refine (cD _).mono ?_; rintro e1 w1 ⟨rfl, rfl⟩)
            go_roundw
            case rel => exact ⟨k + 1, N, false, by omega, by omega, by go_num, rfl, by first | rfl | exact congrArg Value.bool (decide_eq_false (by omega)), hN0, hN1, hG2, by first | rfl | trivial⟩
            case measure => simp [intOf]; omega
      · obtain rfl : m = k := by omega
        have hG1 := hG.out
        rw [ext_nil] at hG1
        have hq := hq Fb N hG1
        clear hG hG1 hall
        have hkm : ¬ (m : Int) < (m : Int) := by omega
        by_cases hms : m < s.size
        · have hms' : (m : Int) < (s.size : Int) := by omega
          have hcb : (s[m].toNat : Int) ≤ 255 := by have := s[m].toNat_lt; omega
          have cL := fun w => letterB s[m].toNat w
          have cE := fun w => digitB s[m].toNat w
          rw [← isLet_c hms] at cL
          rw [← isDig_c hms, hend] at cE
          by_cases hmf : m = fr
          · have hx : ((m : Int) == (i : Int) + 1) = true := by simp; omega
            have hbad := hq.1 (Or.inl hmf)
            clear hq hmf
            go_wp2_with (first | (go_at_call 73; with_reducible refine (cE _).mono ?_; rintro e1 w1 ⟨rfl, rfl⟩) | (go_at_call 75; with_reducible refine (cL _).mono ?_; rintro e1 w1 ⟨rfl, rfl⟩))
            all_goals go_returns
            all_goals exact ⟨by first | rfl | (rw [hbad]; rfl), below_new _ _⟩
          have hx : ((m : Int) == (i : Int) + 1) = false := by simp; omega
          cases hF : Fb
          · subst hF
            have hbad := hq.1 (Or.inr (Or.inl rfl))
            clear hq
            go_wp2_with (first | (go_at_call 73; with_reducible refine (cE _).mono ?_; rintro e1 w1 ⟨rfl, rfl⟩) | (go_at_call 75; with_reducible refine (cL _).mono ?_; rintro e1 w1 ⟨rfl, rfl⟩))
            all_goals go_returns
            all_goals exact ⟨by first | rfl | (rw [hbad]; rfl), below_new _ _⟩
          subst hF
          cases hL : isLet s m
          · rw [hL] at cL
            cases h95 : inB s m 95 95
            · have hb := inB_c (lo := 95) (hi := 95) hms
              have hy : ((s[m].toNat : Int) == 95) = false := by
                rw [show (((95 : Nat) : Int)) = 95 from rfl, h95] at hb
                have := of_decide_eq_false hb.symm
                simp; omega
              have hgood := hq.2 (by rw [hL, h95]; simp [hmf])
              clear hq hb
              go_wp2_with (first | (go_at_call 73; with_reducible refine (cE _).mono ?_; rintro e1 w1 ⟨rfl, rfl⟩) | (go_at_call 75; with_reducible refine (cL _).mono ?_; rintro e1 w1 ⟨rfl, rfl⟩))
              have hv : numS s i (i + 1) = .tok 1 (-N) ⟨#[]⟩ m := hgood
              clear hgood
              go_returns
              exact ⟨by first | rfl | (rw [hv]; rfl), below_new _ _⟩
            · have hb := inB_c (lo := 95) (hi := 95) hms
              have hy : ((s[m].toNat : Int) == 95) = true := by
                rw [show (((95 : Nat) : Int)) = 95 from rfl, h95] at hb
                have := of_decide_eq_true hb.symm
                simp; omega
              have hbad := hq.1 (Or.inr (Or.inr (Or.inr h95)))
              clear hq hb
              go_wp2_with (first | (go_at_call 73; with_reducible refine (cE _).mono ?_; rintro e1 w1 ⟨rfl, rfl⟩) | (go_at_call 75; with_reducible refine (cL _).mono ?_; rintro e1 w1 ⟨rfl, rfl⟩))
              all_goals go_returns
              all_goals exact ⟨by first | rfl | (rw [hbad]; rfl), below_new _ _⟩
          · rw [hL] at cL
            have hbad := hq.1 (Or.inr (Or.inr (Or.inl hL)))
            clear hq
            go_wp2_with (first | (go_at_call 73; with_reducible refine (cE _).mono ?_; rintro e1 w1 ⟨rfl, rfl⟩) | (go_at_call 75; with_reducible refine (cL _).mono ?_; rintro e1 w1 ⟨rfl, rfl⟩))
            all_goals go_returns
            all_goals exact ⟨by first | rfl | (rw [hbad]; rfl), below_new _ _⟩
        · have hms' : ¬ (m : Int) < (s.size : Int) := by omega
          by_cases hmf : m = fr
          · have hx : ((m : Int) == (i : Int) + 1) = true := by simp; omega
            have hbad := hq.1 (Or.inl hmf)
            clear hq hmf
            go_wp2
            all_goals go_returns
            all_goals exact ⟨by first | rfl | (rw [hbad]; rfl), below_new _ _⟩
          have hx : ((m : Int) == (i : Int) + 1) = false := by simp; omega
          cases hF : Fb
          · subst hF
            have hbad := hq.1 (Or.inr (Or.inl rfl))
            clear hq
            go_wp2
            all_goals go_returns
            all_goals exact ⟨by first | rfl | (rw [hbad]; rfl), below_new _ _⟩
          subst hF
          have hgood := hq.2 (by
            rw [show isLet s m = false by unfold isLet; rw [inB_end (by omega), inB_end (by omega)]; rfl, inB_end (by omega)]
            simp [hmf])
          clear hq
          go_wp2
          have hv : numS s i (i + 1) = .tok 1 (-N) ⟨#[]⟩ m := hgood
          clear hgood
          go_returns
          exact ⟨by first | rfl | (rw [hv]; rfl), below_new _ _⟩
  · have hx0 : ((s[i].toNat : Int) == 95) = false := by simp; omega
    simp only [if_pos hfi] at hq
    clear h95
    go_enter Tryz.func74, Tryz.ntmps74
    go_wp2
    go_loopw [7, 8, 9] (fun t n f wr => ∃ (k : Nat) (N : Int) (Fb : Bool), fr ≤ k ∧ k ≤ m ∧ t = .int .i64 (k : Int) ∧ n = .int .i64 N ∧ f = .bool Fb ∧ 0 ≤ N ∧ N ≤ 4611686018427387903 ∧ Hid (Num.rdGo 0 (s.extract fr m).data.toList = numG Fb N (s.extract k m).data.toList) ∧ w.alloc (.cells #[.int .i64 0, .int .i64 0, .int .i64 0, .int .i64 0, .string ⟨#[]⟩] 62) = wr) (fun t _ _ _ => m - (intOf t).toNat)
    case atStart => exact ⟨fr, 0, true, Nat.le_refl _, hm1, by first | rfl | (rw [hfi]; done) | (rw [hfi]; rfl) | (rw [hfi]; simp), rfl, rfl, by decide, by decide, rfl, by first | rfl | trivial⟩
    case round =>
      obtain ⟨k, N, Fb, hk0, hk, rfl, rfl, rfl, hN0, hN1, hG, rfl⟩ := hrel
      by_cases hlt : k < m
      · have hks : k < s.size := by omega
        have hlt' : (k : Int) < (s.size : Int) := by omega
        have hcb : (s[k].toNat : Int) ≤ 255 := by have := s[k].toNat_lt; omega
        have hdk := hall k hk0 hlt
        have cD := fun w => digitB s[k].toNat w
        rw [← isDig_c hks, hdk] at cD
        rw [isDig_c hks] at hdk
        unfold dgB at hdk
        have hdk2 := of_decide_eq_true hdk
        have c1 : 48 ≤ (s[k].toNat : Int) := by omega
        have c2 : (s[k].toNat : Int) ≤ 57 := by omega
        have hst := numG_step hdk2 (ext_cons (s := s) hlt hm2) (F := Fb) (N := N)
        obtain ⟨s1, s2, s3⟩ := hst
        have hGo := hG.out
        cases hF : Fb
        · subst hF
          rw [s3 rfl] at hGo
          have hG2 : Hid (Num.rdGo 0 (s.extract fr m).data.toList = numG false N (s.extract (k + 1) m).data.toList) := hGo
          clear hG hGo s1 s2 s3 hq hall hdk hdk2
          go_wp2_with (go_at_call 73; with_reducible refine (cD _).mono ?_; rintro e1 w1 ⟨rfl, rfl⟩)
          go_roundw
          case rel => exact ⟨k + 1, N, false, by omega, by omega, by go_num, rfl, rfl, hN0, hN1, hG2, by first | rfl | trivial⟩
          case measure => simp [intOf]; omega
        · subst hF
          by_cases c3 : N ≤ (4611686018427387903 - ((s[k].toNat : Int) - 48)) / 10
          · rw [s1 rfl c3] at hGo
            have hG2 : Hid (Num.rdGo 0 (s.extract fr m).data.toList = numG true (10 * N + ((s[k].toNat : Int) - 48)) (s.extract (k + 1) m).data.toList) := hGo
            have hb1 : 0 ≤ 10 * N + ((s[k].toNat : Int) - 48) := by omega
            have hb2 : 10 * N + ((s[k].toNat : Int) - 48) ≤ 4611686018427387903 := by omega
            clear hG hGo s1 s2 s3 hq hall hdk hdk2
            go_wp2_with (go_at_call 73; with_reducible refine (cD _).mono ?_; rintro e1 w1 ⟨rfl, rfl⟩)
            go_roundw
            case rel => exact ⟨k + 1, _, true, by omega, by omega, by go_num, rfl, rfl, hb1, hb2, hG2, by first | rfl | trivial⟩
            case measure => simp [intOf]; omega
          · rw [s2 rfl c3] at hGo
            have hG2 : Hid (Num.rdGo 0 (s.extract fr m).data.toList = numG false N (s.extract (k + 1) m).data.toList) := hGo
            clear hG hGo s1 s2 s3 hq hall hdk hdk2
            go_wp2_with (go_at_call 73; with_reducible refine (cD _).mono ?_; rintro e1 w1 ⟨rfl, rfl⟩)
            go_roundw
            case rel => exact ⟨k + 1, N, false, by omega, by omega, by go_num, rfl, by first | rfl | exact congrArg Value.bool (decide_eq_false (by omega)), hN0, hN1, hG2, by first | rfl | trivial⟩
            case measure => simp [intOf]; omega
      · obtain rfl : m = k := by omega
        have hG1 := hG.out
        rw [ext_nil] at hG1
        have hq := hq Fb N hG1
        clear hG hG1 hall
        have hkm : ¬ (m : Int) < (m : Int) := by omega
        by_cases hms : m < s.size
        · have hms' : (m : Int) < (s.size : Int) := by omega
          have hcb : (s[m].toNat : Int) ≤ 255 := by have := s[m].toNat_lt; omega
          have cL := fun w => letterB s[m].toNat w
          have cE := fun w => digitB s[m].toNat w
          rw [← isLet_c hms] at cL
          rw [← isDig_c hms, hend] at cE
          by_cases hmf : m = fr
          · have hx : ((m : Int) == (i : Int)) = true := by simp; omega
            have hbad := hq.1 (Or.inl hmf)
            clear hq hmf
            go_wp2_with (first | (go_at_call 73; with_reducible refine (cE _).mono ?_; rintro e1 w1 ⟨rfl, rfl⟩) | (go_at_call 75; with_reducible refine (cL _).mono ?_; rintro e1 w1 ⟨rfl, rfl⟩))
            all_goals go_returns
            all_goals exact ⟨by first | rfl | (rw [hbad]; rfl), below_new _ _⟩
          have hx : ((m : Int) == (i : Int)) = false := by simp; omega
          cases hF : Fb
          · subst hF
            have hbad := hq.1 (Or.inr (Or.inl rfl))
            clear hq
            go_wp2_with (first | (go_at_call 73; with_reducible refine (cE _).mono ?_; rintro e1 w1 ⟨rfl, rfl⟩) | (go_at_call 75; with_reducible refine (cL _).mono ?_; rintro e1 w1 ⟨rfl, rfl⟩))
            all_goals go_returns
            all_goals exact ⟨by first | rfl | (rw [hbad]; rfl), below_new _ _⟩
          subst hF
          cases hL : isLet s m
          · rw [hL] at cL
            cases h95 : inB s m 95 95
            · have hb := inB_c (lo := 95) (hi := 95) hms
              have hy : ((s[m].toNat : Int) == 95) = false := by
                rw [show (((95 : Nat) : Int)) = 95 from rfl, h95] at hb
                have := of_decide_eq_false hb.symm
                simp; omega
              have hgood := hq.2 (by rw [hL, h95]; simp [hmf])
              clear hq hb
              go_wp2_with (first | (go_at_call 73; with_reducible refine (cE _).mono ?_; rintro e1 w1 ⟨rfl, rfl⟩) | (go_at_call 75; with_reducible refine (cL _).mono ?_; rintro e1 w1 ⟨rfl, rfl⟩))
              have hv : numS s i (i + 1) = .tok 1 (N) ⟨#[]⟩ m := hgood
              clear hgood
              go_returns
              exact ⟨by first | rfl | (rw [hv]; rfl), below_new _ _⟩
            · have hb := inB_c (lo := 95) (hi := 95) hms
              have hy : ((s[m].toNat : Int) == 95) = true := by
                rw [show (((95 : Nat) : Int)) = 95 from rfl, h95] at hb
                have := of_decide_eq_true hb.symm
                simp; omega
              have hbad := hq.1 (Or.inr (Or.inr (Or.inr h95)))
              clear hq hb
              go_wp2_with (first | (go_at_call 73; with_reducible refine (cE _).mono ?_; rintro e1 w1 ⟨rfl, rfl⟩) | (go_at_call 75; with_reducible refine (cL _).mono ?_; rintro e1 w1 ⟨rfl, rfl⟩))
              all_goals go_returns
              all_goals exact ⟨by first | rfl | (rw [hbad]; rfl), below_new _ _⟩
          · rw [hL] at cL
            have hbad := hq.1 (Or.inr (Or.inr (Or.inl hL)))
            clear hq
            go_wp2_with (first | (go_at_call 73; with_reducible refine (cE _).mono ?_; rintro e1 w1 ⟨rfl, rfl⟩) | (go_at_call 75; with_reducible refine (cL _).mono ?_; rintro e1 w1 ⟨rfl, rfl⟩))
            all_goals go_returns
            all_goals exact ⟨by first | rfl | (rw [hbad]; rfl), below_new _ _⟩
        · have hms' : ¬ (m : Int) < (s.size : Int) := by omega
          by_cases hmf : m = fr
          · have hx : ((m : Int) == (i : Int)) = true := by simp; omega
            have hbad := hq.1 (Or.inl hmf)
            clear hq hmf
            go_wp2
            all_goals go_returns
            all_goals exact ⟨by first | rfl | (rw [hbad]; rfl), below_new _ _⟩
          have hx : ((m : Int) == (i : Int)) = false := by simp; omega
          cases hF : Fb
          · subst hF
            have hbad := hq.1 (Or.inr (Or.inl rfl))
            clear hq
            go_wp2
            all_goals go_returns
            all_goals exact ⟨by first | rfl | (rw [hbad]; rfl), below_new _ _⟩
          subst hF
          have hgood := hq.2 (by
            rw [show isLet s m = false by unfold isLet; rw [inB_end (by omega), inB_end (by omega)]; rfl, inB_end (by omega)]
            simp [hmf])
          clear hq
          go_wp2
          have hv : numS s i (i + 1) = .tok 1 (N) ⟨#[]⟩ m := hgood
          clear hgood
          go_returns
          exact ⟨by first | rfl | (rw [hv]; rfl), below_new _ _⟩
end Go.Proofs.YtljgehammocpkaaGreatDoor.Tok
