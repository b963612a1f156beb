/-
  Layer 8: the reference's escape. (Written by wip/gen/token-rs5.py.)
  Layer 8: the reference's escape of a code point in braces. (Written by wip/gen/token-rs5.py.)
  Layer 8: the reference's escape. (Written by wip/gen/token-rs5.py.)
-/
import Derived.Test.YtljgehammocpkaaGreatDoorTokRS1
import Derived.Test.YtljgehammocpkaaGreatDoorTokGF
namespace Go.Proofs.YtljgehammocpkaaGreatDoor.Tok
open Go.RowKit
set_option linter.unusedVariables false
set_option linter.unusedSimpArgs false

set_option maxRecDepth 100000 in
set_option maxHeartbeats 4000000 in
theorem runeOK (n : Int) (w : World) : Calls Tryz.prog 178 #[.int .i64 n] w fun e w' => e = .returned (.bool (isChar n)) ∧ w = w' := by
  by_cases h0 : 0 ≤ n
  · have h0' : ¬ n < 0 := by omega
    by_cases h1 : n ≤ 1114111
    · by_cases h2 : n < 55296
      · have e : isChar n = true := by simp [isChar, Lib.validRune, h0, h1, h2]
        rw [e]
        go_enter Tryz.func178, Tryz.ntmps178
        go_wp2
        go_ret
        exact ⟨rfl, rfl⟩
      · by_cases h3 : 57343 < n
        · have e : isChar n = true := by simp [isChar, Lib.validRune, h0, h1, h3]
          have e2 : decide (57343 < n) = true := decide_eq_true h3
          rw [e]
          go_enter Tryz.func178, Tryz.ntmps178
          go_wp2
          go_ret
          exact ⟨rfl, rfl⟩
        · have e : isChar n = false := by simp [isChar, Lib.validRune, h0, h1, h2, h3]
          have e2 : decide (57343 < n) = false := decide_eq_false h3
          rw [e]
          go_enter Tryz.func178, Tryz.ntmps178
          go_wp2
          go_ret
          exact ⟨rfl, rfl⟩
    · have e : isChar n = false := by simp [isChar, h1]
      rw [e]
      go_enter Tryz.func178, Tryz.ntmps178
      go_wp2
      go_ret
      exact ⟨rfl, rfl⟩
  · have e : isChar n = false := by simp [isChar, h0]
    rw [e]
    go_enter Tryz.func178, Tryz.ntmps178
    go_wp2
    go_ret
    exact ⟨rfl, rfl⟩

theorem isChar_valid (n : Int) : isChar n = Lib.validRune n := by
  unfold isChar Lib.validRune
  rw [Bool.eq_iff_iff]
  simp only [Bool.and_eq_true, decide_eq_true_eq]
  omega
def hxI (c : Nat) : Int := if dgB c = true then (c : Int) - 48 else if 97 ≤ c ∧ c ≤ 102 then (c : Int) - 87 else -1
set_option maxRecDepth 100000 in
set_option maxHeartbeats 4000000 in
theorem hexR (c : Nat) (hc : c ≤ 255) (w : World) : Calls Tryz.prog 179 #[.int .u8 (c : Int)] w fun e w' => e = .returned (.int .i64 (hxI c)) ∧ w = w' := by
  have cD := fun w => digitB c w
  have hc' : (c : Int) ≤ 255 := by omega
  unfold hxI
  cases hd : dgB c
  · rw [hd] at cD
    rw [if_neg (by decide)]
    by_cases h1 : 97 ≤ c
    · have h1' : 97 ≤ (c : Int) := by omega
      by_cases h2 : c ≤ 102
      · rw [if_pos ⟨h1, h2⟩]
        have e : decide ((c : Int) ≤ 102) = true := decide_eq_true (by omega)
        have h2' : (c : Int) ≤ 102 := by omega
        go_enter Tryz.func179, Tryz.ntmps179
        go_wp2_with (first | (go_at_call 73; with_reducible refine (cD _).mono ?_; rintro e1 w1 ⟨rfl, rfl⟩))
        go_ret
        exact ⟨by first | rfl | (rw [show (c : Int) - 87 = (c : Int) - 97 + 10 by omega]; rfl), rfl⟩
      · rw [if_neg (fun h => h2 h.2)]
        have e : decide ((c : Int) ≤ 102) = false := decide_eq_false (by omega)
        go_enter Tryz.func179, Tryz.ntmps179
        go_wp2_with (first | (go_at_call 73; with_reducible refine (cD _).mono ?_; rintro e1 w1 ⟨rfl, rfl⟩))
        go_ret
        exact ⟨rfl, rfl⟩
    · have h1' : ¬ 97 ≤ (c : Int) := by omega
      rw [if_neg (fun h => h1 h.1)]
      go_enter Tryz.func179, Tryz.ntmps179
      go_wp2_with (first | (go_at_call 73; with_reducible refine (cD _).mono ?_; rintro e1 w1 ⟨rfl, rfl⟩))
      go_ret
      exact ⟨rfl, rfl⟩
  · rw [hd] at cD
    rw [if_pos rfl]
    have hd2 := of_decide_eq_true hd
    have h1' : 48 ≤ (c : Int) := by omega
    have h2' : (c : Int) ≤ 57 := by omega
    clear hd hd2
    go_enter Tryz.func179, Tryz.ntmps179
    go_wp2_with (first | (go_at_call 73; with_reducible refine (cD _).mono ?_; rintro e1 w1 ⟨rfl, rfl⟩))
    go_ret
    exact ⟨rfl, rfl⟩
/-- What the reference says of an escape. -/
def escV (p : Nat) : Option (Nat × Nat) → Value
  | none => .tuple #[.int .i64 (-1), .int .i64 0]
  | some (c, j) => .tuple #[.int .i64 (c : Int), .int .i64 ((j : Int) - (p : Int))]
theorem isHex_c {s : ByteArray} {i : Nat} (h : i < s.size) : isHex s i = decide (0 ≤ hxI s[i].toNat) := by
  have b := inB_c (lo := 97) (hi := 102) h
  unfold isHex
  rw [isDig_c h]
  have b2 : inB s i 97 102 = decide (97 ≤ s[i].toNat ∧ s[i].toNat ≤ 102) := b
  rw [b2]
  unfold hxI
  cases hd : dgB s[i].toNat
  · rw [if_neg (by decide), Bool.false_or]
    by_cases h1 : 97 ≤ s[i].toNat ∧ s[i].toNat ≤ 102
    · rw [if_pos h1, decide_eq_true h1]; exact (decide_eq_true (by omega)).symm
    · rw [if_neg h1, decide_eq_false h1]; rfl
  · have := of_decide_eq_true hd
    rw [if_pos rfl, Bool.true_or]; exact (decide_eq_true (by omega)).symm
theorem hxI_hx {c : UInt8} (h : 0 ≤ hxI c.toNat) : hxI c.toNat = (hx c : Int) ∧ HexC c ∧ c.toNat ≠ 125 := by
  unfold hxI at *
  unfold hx HexC
  cases hd : dgB c.toNat
  · rw [hd, if_neg (by decide)] at h
    rw [if_neg (by decide)]
    by_cases h1 : 97 ≤ c.toNat ∧ c.toNat ≤ 102
    · rw [if_pos h1, if_neg (by omega)]; omega
    · rw [if_neg h1] at h; omega
  · have := of_decide_eq_true hd
    rw [if_pos rfl, if_pos (by omega)]; omega
/-- The run of hexadecimal digits behind a brace. -/
theorem cp_setup {s : ByteArray} {p : Nat} (h2 : p + 2 < s.size) (hb : inB s (p + 2) 123 123 = true) : ∃ (r : Nat) (bs : List UInt8), bs.length = r ∧ p + 3 + r ≤ s.size ∧ (∀ c ∈ bs, HexC c) ∧
    (∀ k (h : k < r) (h' : p + 3 + k < s.size), 0 ≤ hxI s[p + 3 + k].toNat ∧ bs[k]? = some s[p + 3 + k]) ∧ (∀ h' : p + 3 + r < s.size, ¬ 0 ≤ hxI s[p + 3 + r].toNat) ∧
    cpS s (p + 2) = if inB s (p + 3 + r) 125 125 = true ∧ r ≤ 6 ∧ 0 < r ∧ Lib.validRune (hexV bs : Int) = true then some (hexV bs, p + 3 + r + 1) else none := by
  obtain ⟨m, hm⟩ : ∃ m, manyTo (one (isHex s)) (s.size - (p + 2 + 1)) (p + 2 + 1) = m := ⟨_, rfl⟩
  have g := many_le s (p + 2 + 1) (by omega)
  have hall : ∀ k, p + 2 + 1 ≤ k → k < m → isHex s k = true := fun k h1 h2 => many_run _ _ k h1 (by rw [hm]; exact h2)
  have hend : isHex s m = false := by
    have := manyTo_end (goes_one (n := s.size) (p := isHex s) fun i h => isHex_lt h) (by show isHex s s.size = false; unfold isHex isDig; rw [inB_end (Nat.lt_irrefl _), inB_end (Nat.lt_irrefl _)]; rfl) (s.size - (p + 2 + 1)) (p + 2 + 1) (by omega) (Nat.le_refl _)
    rw [hm] at this
    exact this
  rw [hm] at g
  obtain ⟨r, rfl⟩ : ∃ r, m = p + 3 + r := ⟨m - (p + 3), by omega⟩
  have hget : ∀ k, k < r → ∀ h' : p + 3 + k < s.size, (s.extract (p + 3) (p + 3 + r)).data.toList[k]? = some s[p + 3 + k] := fun k hk h' => by
    rw [extract_list, List.getElem?_take, if_pos (by omega), List.getElem?_drop, List.getElem?_eq_getElem (by rw [← Lib.size_eq]; exact h')]
    rfl
  refine ⟨r, (s.extract (p + 3) (p + 3 + r)).data.toList, by rw [← Lib.size_eq, ByteArray.size_extract]; omega, g.2, fun c hc => ?_, fun k hk h' => ⟨?_, hget k hk h'⟩, fun h' => ?_, ?_⟩
  · obtain ⟨k, hk, rfl⟩ := List.getElem_of_mem hc
    have hk2 : k < r := by rw [← Lib.size_eq, ByteArray.size_extract] at hk; omega
    have h' : p + 3 + k < s.size := by omega
    have := hget k hk2 h'
    rw [List.getElem?_eq_getElem hk, Option.some.injEq] at this
    rw [this]
    have h1 := hall (p + 3 + k) (by omega) (by omega)
    rw [isHex_c h'] at h1
    exact (hxI_hx (of_decide_eq_true h1)).2.1
  · have h1 := hall (p + 3 + k) (by omega) (by omega)
    rw [isHex_c h'] at h1
    exact of_decide_eq_true h1
  · rw [isHex_c h'] at hend
    exact of_decide_eq_false hend
  · unfold cpS
    rw [if_pos hb, hm]
    have e1 : (p + 3 + r - (p + 2 + 1) ≤ 6) = (r ≤ 6) := by apply propext; omega
    have e2 : (p + 2 + 1 < p + 3 + r) = (0 < r) := by apply propext; omega
    simp only [e1, e2]
theorem escV_2 (c p : Nat) : escV p (some (c, p + 2)) = .tuple #[.int .i64 (c : Int), .int .i64 2] := by
  simp only [escV]
  rw [show ((p + 2 : Nat) : Int) - (p : Int) = 2 by omega]
theorem escV_k (c p j : Nat) : escV p (some (c, p + 3 + j + 1)) = .tuple #[.int .i64 (c : Int), .int .i64 ((j : Int) + 4)] := by
  simp only [escV]
  rw [show ((p + 3 + j + 1 : Nat) : Int) - (p : Int) = (j : Int) + 4 by omega]
end Go.Proofs.YtljgehammocpkaaGreatDoor.Tok

namespace Go.Proofs.YtljgehammocpkaaGreatDoor.Tok
open Go.RowKit
set_option linter.unusedVariables false
set_option linter.unusedSimpArgs false
set_option maxRecDepth 100000 in
set_option maxHeartbeats 16000000 in
theorem cpR (s : ByteArray) (hs : s.size ≤ 65536) (w : World) (p : Nat) (h1 : p + 1 < s.size) (h117 : s[p + 1].toNat = 117) (R : Option (Nat × Nat)) (hR : cpS s (p + 2) = R) :
    Calls Tryz.prog 158 #[.string s, .int .i64 (p : Int)] w fun e w' => e = .returned (escV p R) ∧ w = w' := by
  have hsz64 : (s.size : Int) ≤ 65536 := by omega
  have hp64 : (p : Int) ≤ 65536 := by omega
  have hp1 : ¬ (s.size : Int) ≤ (p : Int) + 1 := by omega
  have hcb : (s[p + 1].toNat : Int) ≤ 255 := by have := s[p + 1].toNat_lt; omega
  have q110 : ((s[p + 1].toNat : Int) == 110) = false := by rw [h117]; rfl
  have q116 : ((s[p + 1].toNat : Int) == 116) = false := by rw [h117]; rfl
  have q114 : ((s[p + 1].toNat : Int) == 114) = false := by rw [h117]; rfl
  have q92 : ((s[p + 1].toNat : Int) == 92) = false := by rw [h117]; rfl
  have q39 : ((s[p + 1].toNat : Int) == 39) = false := by rw [h117]; rfl
  have q34 : ((s[p + 1].toNat : Int) == 34) = false := by rw [h117]; rfl
  have q117 : ((s[p + 1].toNat : Int) == 117) = true := by rw [h117]; rfl
  have qn117 : ((s[p + 1].toNat : Int) != 117) = false := by rw [h117]; rfl
  clear h117
  by_cases h2 : p + 2 < s.size
  · have hp2 : ¬ (s.size : Int) ≤ (p : Int) + 2 := by omega
    have hcb2 : (s[p + 2].toNat : Int) ≤ 255 := by have := s[p + 2].toNat_lt; omega
    cases hb : inB s (p + 2) 123 123
    · have hb2 := inB_eq h2 123
      rw [show (((123 : Nat) : Int)) = 123 from rfl, hb] at hb2
      have hb3 : ((s[p + 2].toNat : Int) != 123) = true := by simp only [bne, ← hb2]; rfl
      clear hb2
      have hR2 : R = none := by rw [← hR, cpS, hb]; rfl
      subst hR2
      clear hR
      go_enter Tryz.func158, Tryz.ntmps158
      go_wp2
      go_ret2
      exact ⟨rfl, rfl⟩
    · have hb2 := inB_eq h2 123
      rw [show (((123 : Nat) : Int)) = 123 from rfl, hb] at hb2
      have hb3 : ((s[p + 2].toNat : Int) != 123) = false := by simp only [bne, ← hb2]; rfl
      clear hb2
      obtain ⟨r, bs, hbl, hr1, hhex, hdig, hend, hS⟩ := cp_setup h2 hb
      replace hS := hS.symm.trans hR
      clear hR hb
      go_enter Tryz.func158, Tryz.ntmps158
      go_wp2
      go_loopw [6, 7] (fun n k wr => ∃ j : Nat, j ≤ 6 ∧ j ≤ r ∧ n = .int .i64 (hexV (bs.take j) : Int) ∧ k = .int .i64 (j : Int) ∧ w = wr) (fun _ k _ => 7 - (intOf k).toNat)
      case atStart => exact ⟨0, by decide, Nat.zero_le _, by rw [List.take_zero]; rfl, rfl, by first | rfl | trivial⟩
      case round =>
        obtain ⟨j, hj6, hjr, rfl, rfl, rfl⟩ := hrel
        have hV := hexV_lt hhex j (by omega)
        have hp := pow16 (show j ≤ 6 by omega)
        have h16 : (16 : Nat) ^ 6 = 16777216 := by decide
        obtain ⟨V, hVe⟩ : ∃ V, V = hexV (bs.take j) := ⟨_, rfl⟩
        rw [← hVe] at hV ⊢
        obtain ⟨N, hN⟩ : ∃ N : Int, (V : Int) = N := ⟨_, rfl⟩
        rw [hN]
        have hV1 : N < 16777216 := by omega
        have hV0 : 0 ≤ N := by omega
        have hj6' : (j : Int) ≤ 6 := by omega
        clear hV hp h16
        have cRu := fun w => runeOK N w
        by_cases hlt : p + 3 + j < s.size
        · obtain ⟨q, hq⟩ : ∃ q, q = p + 3 + j := ⟨_, rfl⟩
          have hqi : (p : Int) + 3 + (j : Int) = (q : Int) := by omega
          have hqs : q < s.size := by omega
          have hfin : escV p (some (V, q + 1)) = .tuple #[.int .i64 N, .int .i64 ((j : Int) + 4)] := by rw [hq, escV_k, hN]
          have hlt' : (q : Int) < (s.size : Int) := by omega
          have hcb3 : (s[q].toNat : Int) ≤ 255 := by have := s[q].toNat_lt; omega
          have cH := fun w => hexR s[q].toNat (by omega) w
          by_cases hjl : j < r
          · have d0 := hdig j hjl hlt
            simp only [← hq] at d0
            obtain ⟨d1, d2⟩ := d0
            obtain ⟨d3, d4, d5⟩ := hxI_hx d1
            have hx16 := hx_lt d4
            have hnext : hexV (bs.take (j + 1)) = 16 * V + hx s[q] := by
              have hk : j < bs.length := by omega
              rw [hexV_take hk, hVe]
              rw [List.getElem?_eq_getElem hk, Option.some.injEq] at d2
              rw [d2]
            rw [d3] at cH
            have e125 : ((s[q].toNat : Int) == 125) = false := by simp; omega
            obtain ⟨I, hI⟩ : ∃ I : Int, (hx s[q] : Int) = I := ⟨_, rfl⟩
            rw [hI] at cH
            have hX0 : ¬ I < 0 := by omega
            have hX1 : I < 16 := by omega
            have hnext : (hexV (bs.take (j + 1)) : Int) = 16 * N + I := by omega
            clear hI
            by_cases h6 : j = 6
            · have e6 : ((j : Int) == 6) = true := by simp; omega
              have hR2 : R = none := by rw [← hS, if_neg (by omega)]
              subst hR2
              clear hN hq hlt hS hdig hend hhex hVe hnext d1 d2 d3 d4 d5 h6 hx16
              go_wp2_with (first | (go_at_call 179; with_reducible refine (cH _).mono ?_; rintro e1 w1 ⟨rfl, rfl⟩) | (go_at_call 178; with_reducible refine (cRu _).mono ?_; rintro e1 w1 ⟨rfl, rfl⟩))
              go_ret2
              exact ⟨rfl, rfl⟩
            · have e6 : ((j : Int) == 6) = false := by simp; omega
              have hj5 : j + 1 ≤ 6 := by omega
              have hnx := Lib.hid hnext
              clear hN hq hlt hS hdig hend hhex hVe d1 d2 d3 d4 d5 h6 hx16 hnext
              go_wp2_with (first | (go_at_call 179; with_reducible refine (cH _).mono ?_; rintro e1 w1 ⟨rfl, rfl⟩) | (go_at_call 178; with_reducible refine (cRu _).mono ?_; rintro e1 w1 ⟨rfl, rfl⟩))
              go_roundw
              case rel => exact ⟨j + 1, hj5, by omega, by rw [hnx.out], by go_num, by first | rfl | trivial⟩
              case measure => simp [intOf]; omega
          · obtain rfl : j = r := by omega
            have hneg := hend hlt
            simp only [← hq] at hneg hS
            have hxn : hxI s[q].toNat = -1 := by
              unfold hxI at *
              split at hneg
              · rename_i q; have := of_decide_eq_true q; omega
              · split at hneg
                · omega
                · rename_i q1 q2; rw [if_neg q1, if_neg q2]
            rw [hxn] at cH
            have htake : bs.take j = bs := List.take_of_length_le (Nat.le_of_eq hbl)
            rw [htake] at hVe
            rw [← hVe, hN] at hS
            have hb4 := inB_eq hqs 125
            rw [show (((125 : Nat) : Int)) = 125 from rfl] at hb4
            rw [hb4] at hS
            cases e125 : ((s[q].toNat : Int) == 125)
            · have hR2 : R = none := by rw [← hS, if_neg (by rw [e125]; exact fun h => absurd h.1 (by decide))]
              subst hR2
              clear hN hq hlt hS hdig hend hhex hVe hxn hneg hb4 htake
              go_wp2_with (first | (go_at_call 179; with_reducible refine (cH _).mono ?_; rintro e1 w1 ⟨rfl, rfl⟩) | (go_at_call 178; with_reducible refine (cRu _).mono ?_; rintro e1 w1 ⟨rfl, rfl⟩))
              go_ret2
              exact ⟨rfl, rfl⟩
            · by_cases hj0 : 0 < j
              · have hj0' : 0 < (j : Int) := by omega
                have e0 : decide (0 < (j : Int)) = true := decide_eq_true hj0'
                rw [isChar_valid] at cRu
                cases hv : Lib.validRune N
                · rw [hv] at cRu hS
                  have hR2 : R = none := by rw [← hS, if_neg (fun h => absurd h.2.2.2 (by decide))]
                  subst hR2
                  clear hN hq hlt hS hdig hend hhex hVe hxn hneg hb4 htake
                  go_wp2_with (first | (go_at_call 179; with_reducible refine (cH _).mono ?_; rintro e1 w1 ⟨rfl, rfl⟩) | (go_at_call 178; with_reducible refine (cRu _).mono ?_; rintro e1 w1 ⟨rfl, rfl⟩))
                  go_ret2
                  exact ⟨rfl, rfl⟩
                · rw [hv] at cRu hS
                  have hR2 : R = some (V, q + 1) := by rw [← hS, if_pos ⟨e125, hj6, hj0, rfl⟩]
                  subst hR2
                  clear hN hq hlt hS hdig hend hhex hVe hxn hneg hb4 htake
                  go_wp2_with (first | (go_at_call 179; with_reducible refine (cH _).mono ?_; rintro e1 w1 ⟨rfl, rfl⟩) | (go_at_call 178; with_reducible refine (cRu _).mono ?_; rintro e1 w1 ⟨rfl, rfl⟩))
                  go_ret2
                  exact ⟨by rw [hfin]; rfl, rfl⟩
              · have hj0' : ¬ 0 < (j : Int) := by omega
                have e0 : decide (0 < (j : Int)) = false := decide_eq_false hj0'
                have hR2 : R = none := by rw [← hS, if_neg (fun h => hj0 h.2.2.1)]
                subst hR2
                clear hN hq hlt hS hdig hend hhex hVe hxn hneg hb4 htake
                go_wp2_with (first | (go_at_call 179; with_reducible refine (cH _).mono ?_; rintro e1 w1 ⟨rfl, rfl⟩) | (go_at_call 178; with_reducible refine (cRu _).mono ?_; rintro e1 w1 ⟨rfl, rfl⟩))
                go_ret2
                exact ⟨rfl, rfl⟩
        · have hlt' : ¬ (p : Int) + 3 + (j : Int) < (s.size : Int) := by omega
          have hR2 : R = none := by rw [← hS, if_neg (fun h => absurd h.1 (by rw [inB_end (by omega)]; decide))]
          subst hR2
          clear hS hdig hend hhex hVe
          go_wp2
          go_ret2
          exact ⟨rfl, rfl⟩
  · have hp2 : (s.size : Int) ≤ (p : Int) + 2 := by omega
    have hR2 : R = none := by rw [← hR, cpS, inB_end (show ¬ p + 2 < s.size from h2)]; rfl
    subst hR2
    clear hR
    go_enter Tryz.func158, Tryz.ntmps158
    go_wp2
    go_ret2
    exact ⟨rfl, rfl⟩
end Go.Proofs.YtljgehammocpkaaGreatDoor.Tok

namespace Go.Proofs.YtljgehammocpkaaGreatDoor.Tok
open Go.RowKit
set_option linter.unusedVariables false
set_option linter.unusedSimpArgs false
set_option maxRecDepth 100000 in
set_option maxHeartbeats 16000000 in
theorem escapeR (s : ByteArray) (hs : s.size ≤ 65536) (w : World) (p : Nat) (hp : p < s.size) :
    Calls Tryz.prog 158 #[.string s, .int .i64 (p : Int)] w fun e w' => e = .returned (escV p (escS s (p + 1))) ∧ w = w' := by
  obtain ⟨R, hR⟩ : ∃ R, Hid (escS s (p + 1) = R) := ⟨_, rfl⟩
  rw [hR.out]
  have hsz64 : (s.size : Int) ≤ 65536 := by omega
  have hp64 : (p : Int) ≤ 65536 := by omega
  by_cases h1 : p + 1 < s.size
  case neg =>
    have hp1 : (s.size : Int) ≤ (p : Int) + 1 := by omega
    have hR2 : R = none := by
      rw [← hR.out, escS]
      simp only [inB_end (show ¬ p + 1 < s.size from h1), Bool.false_eq_true, if_false]
    subst hR2
    clear hR
    go_enter Tryz.func158, Tryz.ntmps158
    go_wp2
    go_ret2
    exact ⟨rfl, rfl⟩
  have hp1 : ¬ (s.size : Int) ≤ (p : Int) + 1 := by omega
  have hcb : (s[p + 1].toNat : Int) ≤ 255 := by have := s[p + 1].toNat_lt; omega
  have i110 : inB s (p + 1) 110 110 = ((s[p + 1].toNat : Int) == 110) := inB_eq h1 110
  have i116 : inB s (p + 1) 116 116 = ((s[p + 1].toNat : Int) == 116) := inB_eq h1 116
  have i114 : inB s (p + 1) 114 114 = ((s[p + 1].toNat : Int) == 114) := inB_eq h1 114
  have i92 : inB s (p + 1) 92 92 = ((s[p + 1].toNat : Int) == 92) := inB_eq h1 92
  have i39 : inB s (p + 1) 39 39 = ((s[p + 1].toNat : Int) == 39) := inB_eq h1 39
  have i34 : inB s (p + 1) 34 34 = ((s[p + 1].toNat : Int) == 34) := inB_eq h1 34
  have i117 : inB s (p + 1) 117 117 = ((s[p + 1].toNat : Int) == 117) := inB_eq h1 117
  cases q110 : ((s[p + 1].toNat : Int) == 110)
  case true =>
    have hxv : (s[p + 1].toNat : Int) = 110 := by simpa using q110
    have hR2 : R = some (10, p + 2) := by
      rw [← hR.out, escS]
      simp only [i110, i116, i114, i92, i39, i34, i117, q110, if_true, Bool.false_eq_true, if_false]
    subst hR2
    clear hR
    go_enter Tryz.func158, Tryz.ntmps158
    go_wp2
    go_ret2
    exact ⟨by rw [escV_2]; first | rfl | (rw [hxv]; rfl), rfl⟩
  cases q116 : ((s[p + 1].toNat : Int) == 116)
  case true =>
    have hxv : (s[p + 1].toNat : Int) = 116 := by simpa using q116
    have hR2 : R = some (9, p + 2) := by
      rw [← hR.out, escS]
      simp only [i110, i116, i114, i92, i39, i34, i117, q110, q116, if_true, Bool.false_eq_true, if_false]
    subst hR2
    clear hR
    go_enter Tryz.func158, Tryz.ntmps158
    go_wp2
    go_ret2
    exact ⟨by rw [escV_2]; first | rfl | (rw [hxv]; rfl), rfl⟩
  cases q114 : ((s[p + 1].toNat : Int) == 114)
  case true =>
    have hxv : (s[p + 1].toNat : Int) = 114 := by simpa using q114
    have hR2 : R = some (13, p + 2) := by
      rw [← hR.out, escS]
      simp only [i110, i116, i114, i92, i39, i34, i117, q110, q116, q114, if_true, Bool.false_eq_true, if_false]
    subst hR2
    clear hR
    go_enter Tryz.func158, Tryz.ntmps158
    go_wp2
    go_ret2
    exact ⟨by rw [escV_2]; first | rfl | (rw [hxv]; rfl), rfl⟩
  cases q92 : ((s[p + 1].toNat : Int) == 92)
  case true =>
    have hxv : (s[p + 1].toNat : Int) = 92 := by simpa using q92
    have hR2 : R = some (92, p + 2) := by
      rw [← hR.out, escS]
      simp only [i110, i116, i114, i92, i39, i34, i117, q110, q116, q114, q92, if_true, Bool.false_eq_true, if_false]
    subst hR2
    clear hR
    go_enter Tryz.func158, Tryz.ntmps158
    go_wp2
    go_ret2
    exact ⟨by rw [escV_2]; first | rfl | (rw [hxv]; rfl), rfl⟩
  cases q39 : ((s[p + 1].toNat : Int) == 39)
  case true =>
    have hxv : (s[p + 1].toNat : Int) = 39 := by simpa using q39
    have hR2 : R = some (39, p + 2) := by
      rw [← hR.out, escS]
      simp only [i110, i116, i114, i92, i39, i34, i117, q110, q116, q114, q92, q39, if_true, Bool.false_eq_true, if_false]
    subst hR2
    clear hR
    go_enter Tryz.func158, Tryz.ntmps158
    go_wp2
    go_ret2
    exact ⟨by rw [escV_2]; first | rfl | (rw [hxv]; rfl), rfl⟩
  cases q34 : ((s[p + 1].toNat : Int) == 34)
  case true =>
    have hxv : (s[p + 1].toNat : Int) = 34 := by simpa using q34
    have hR2 : R = some (34, p + 2) := by
      rw [← hR.out, escS]
      simp only [i110, i116, i114, i92, i39, i34, i117, q110, q116, q114, q92, q39, q34, if_true, Bool.false_eq_true, if_false]
    subst hR2
    clear hR
    go_enter Tryz.func158, Tryz.ntmps158
    go_wp2
    go_ret2
    exact ⟨by rw [escV_2]; first | rfl | (rw [hxv]; rfl), rfl⟩

  cases q117 : ((s[p + 1].toNat : Int) == 117)
  case true =>
    have hx : (s[p + 1].toNat : Int) = 117 := by simpa using q117
    refine cpR s hs w p h1 (by omega) R ?_
    rw [← hR.out, escS]
    simp only [i110, i116, i114, i92, i39, i34, i117, q110, q116, q114, q92, q39, q34, q117, if_true, Bool.false_eq_true, if_false]
  have qn117 : ((s[p + 1].toNat : Int) != 117) = true := by simp only [bne, q117]; rfl
  have hR2 : R = none := by
    rw [← hR.out, escS]
    simp only [i110, i116, i114, i92, i39, i34, i117, q110, q116, q114, q92, q39, q34, q117, if_true, Bool.false_eq_true, if_false]
  subst hR2
  clear hR
  go_enter Tryz.func158, Tryz.ntmps158
  go_wp2
  go_ret2
  exact ⟨rfl, rfl⟩
end Go.Proofs.YtljgehammocpkaaGreatDoor.Tok
