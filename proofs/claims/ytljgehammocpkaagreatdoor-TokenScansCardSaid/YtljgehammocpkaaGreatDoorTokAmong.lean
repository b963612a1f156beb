/-
  Layer 8: which words are reserved, by the reference. (Written by wip/gen/token-among.py.)
-/
import Derived.Test.YtljgehammocpkaaGreatDoorTokRes
import Derived.Test.YtljgehammocpkaaGreatDoorTokShow2
namespace Go.Proofs.YtljgehammocpkaaGreatDoor.Tok
open Go.RowKit
set_option linter.unusedVariables false
set_option linter.unusedSimpArgs false

def noSp (s : List UInt8) : Bool := s.all fun c => c != 32
def hitB (L s : List UInt8) (i : Nat) : Bool := L.getD i 0 == 32 && (L.drop (i + 1)).take s.length == s && L.getD (i + 1 + s.length) 0 == 32
def amB (L s : List UInt8) : Bool := s.length != 0 && noSp s && (List.range (L.length - (s.length + 1))).any (hitB L s)
theorem get_list {s : ByteArray} {i : Nat} (h : i < s.size) : s.data.toList.getD i 0 = s[i] := by
  rw [List.getD_eq_getElem?_getD, List.getElem?_eq_getElem (by simpa using h)]
  rfl
theorem extract_list' (s : ByteArray) (a c : Nat) : (s.extract a c).data.toList = (s.data.toList.drop a).take (c - a) := by
  have e : (s.extract a c).data = s.data.extract a c := ByteArray.data_extract
  rw [e, Array.toList_extract, List.extract_eq_take_drop]
theorem u8_eq {x : UInt8} {n : Nat} (hn : n < 256) : ((x.toNat : Int) == (n : Int)) = (x == n.toUInt8) := by
  rw [Bool.eq_iff_iff]
  simp only [beq_iff_eq]
  constructor
  · intro h
    have : x.toNat = n := by omega
    apply UInt8.toNat.inj
    rw [this]; simp; omega
  · intro h
    rw [h]; simp; omega

set_option maxRecDepth 100000 in
set_option maxHeartbeats 8000000 in
theorem amongQ (L s : ByteArray) (w : World) (hL : L.size ≤ 1000) (hs : s.size ≤ 1000000) :
    Calls Tryz.prog 120 #[.string L, .string s] w fun e w' => e = .returned (.bool (amB L.data.toList s.data.toList)) ∧ w = w' := by
  obtain ⟨R, hR⟩ : ∃ R, Hid (amB L.data.toList s.data.toList = R) := ⟨_, rfl⟩
  rw [hR.out]
  have hsl : s.data.toList.length = s.size := by simp
  have hLl : L.data.toList.length = L.size := by simp
  obtain ⟨n, hn⟩ : ∃ n, s.size = n := ⟨_, rfl⟩
  obtain ⟨m, hm⟩ : ∃ m, L.size = m := ⟨_, rfl⟩
  have hn1 : (n : Int) ≤ 1000000 := by omega
  have hm1 : (m : Int) ≤ 1000 := by omega
  by_cases h0 : n = 0
  · have hR2 : R = false := by rw [← hR.out, amB, hsl, hn, h0]; rfl
    subst hR2
    have hx : ((n : Int) == 0) = true := by simp; omega
    clear hR hsl hLl
    go_enter Tryz.func120, Tryz.ntmps120
    go_wp2
    go_ret
    exact ⟨rfl, rfl⟩
  have hx : ((n : Int) == 0) = false := by simp; omega
  go_enter Tryz.func120, Tryz.ntmps120
  go_wp2
  go_loopw [5] (fun i wr => ∃ j : Nat, j ≤ n ∧ i = .int .i64 (j : Int) ∧ (∀ k, k < j → s.data.toList.getD k 0 ≠ 32) ∧ w = wr) (fun i _ => n - (intOf i).toNat)
  case atStart => exact ⟨0, Nat.zero_le _, rfl, fun k hk => absurd hk (by omega), by first | rfl | trivial⟩
  case round =>
    obtain ⟨j, hj, rfl, hall, rfl⟩ := hrel
    by_cases hlt : j < n
    · have hlt' : (j : Int) < (n : Int) := by omega
      have hjs : j < s.size := by rw [hn]; exact hlt
      have hcb : (s[j].toNat : Int) ≤ 255 := by have := s[j].toNat_lt; omega
      by_cases hb : s[j].toNat = 32
      · have hb2 : ((s[j].toNat : Int) == 32) = true := by rw [hb]; rfl
        have hR2 : R = false := by
          rw [← hR.out, amB]
          have : noSp s.data.toList = false := by
            rw [noSp, List.all_eq_false]
            refine ⟨s[j], ?_, ?_⟩
            · rw [← get_list hjs, List.getD_eq_getElem?_getD, List.getElem?_eq_getElem (by simpa using hjs)]
              exact List.getElem_mem _
            · have : s[j] = 32 := UInt8.toNat.inj (by rw [hb]; rfl)
              rw [this]; decide
          rw [this, Bool.and_false, Bool.false_and]
        subst hR2
        clear hR hall hsl hLl hb
        go_wp2
        go_ret
        exact ⟨rfl, rfl⟩
      · have hb2 : ((s[j].toNat : Int) == 32) = false := by simp; omega
        have hall2 : ∀ k, k < j + 1 → s.data.toList.getD k 0 ≠ 32 := fun k hk => by
          by_cases e : k = j
          · rw [e, get_list hjs]; intro q; exact hb (by rw [q]; rfl)
          · exact hall k (by omega)
        clear hall hR hsl hLl hb
        go_wp2
        go_roundw
        case rel => exact ⟨j + 1, by omega, by go_num, hall2, by first | rfl | trivial⟩
        case measure => simp [intOf]; omega
    · obtain rfl : j = n := by omega
      have hno : noSp s.data.toList = true := by
        rw [noSp, List.all_eq_true]
        intro c hc
        obtain ⟨k, hk, rfl⟩ := List.mem_iff_getElem.1 hc
        have := hall k (by rw [← hn, ← hsl]; exact hk)
        rw [List.getD_eq_getElem?_getD, List.getElem?_eq_getElem hk] at this
        simpa using this
      have hRa : Hid ((List.range (m - (j + 1))).any (hitB L.data.toList s.data.toList) = R) := by
        have := hR.out
        rw [amB, hno, hsl, hLl, hn, hm] at this
        have h1 : (j != 0) = true := by simp; omega
        rw [h1, Bool.true_and, Bool.true_and] at this
        exact this
      have hn0 : ¬ (j : Int) < (j : Int) := by omega
      have hshl : s.data.toList.length = j := by rw [hsl, hn]
      clear hall hR hsl hno
      go_wp2
      go_loopw [6] (fun i wr => ∃ i' : Nat, i' ≤ m ∧ i = .int .i64 (i' : Int) ∧ (∀ k, k < i' → hitB L.data.toList s.data.toList k = false) ∧ w = wr) (fun i _ => m - (intOf i).toNat)
      case atStart => exact ⟨0, Nat.zero_le _, rfl, fun k hk => absurd hk (by omega), by first | rfl | trivial⟩
      case round =>
        obtain ⟨i, hi, rfl, hall, rfl⟩ := hrel
        by_cases hlt : i + j + 2 ≤ m
        · have hlt' : (i : Int) + (j : Int) + 2 ≤ (m : Int) := by omega
          have hi1 : i < L.size := by rw [hm]; omega
          have hi2 : i + 1 + j < L.size := by rw [hm]; omega
          have hcb1 : (L[i].toNat : Int) ≤ 255 := by have := L[i].toNat_lt; omega
          have hcb2 : (L[i + 1 + j].toNat : Int) ≤ 255 := by have := L[i + 1 + j].toNat_lt; omega
          have hsx : i + 1 ≤ i + 1 + j := by omega
          obtain ⟨X, hX⟩ : ∃ X, L.extract (i + 1) (i + 1 + j) = X := ⟨_, rfl⟩
          have hXl : X.toList = (L.data.toList.drop (i + 1)).take j := by
            rw [← hX, ByteArray.toList_eq, extract_list']
            congr 1; omega
          have hit : hitB L.data.toList s.data.toList i = (L[i] == 32 && X.toList == s.toList && L[i + 1 + j] == 32) := by
            rw [hitB, get_list hi1, hshl, get_list hi2, hXl, ByteArray.toList_eq]
          have next : hitB L.data.toList s.data.toList i = false → ∀ k, k < i + 1 → hitB L.data.toList s.data.toList k = false := fun h k hk => by
            by_cases e : k = i
            · rw [e]; exact h
            · exact hall k (by omega)
          have yes : hitB L.data.toList s.data.toList i = true → R = true := fun h => by
            rw [← hRa.out, List.any_eq_true]
            exact ⟨i, List.mem_range.2 (by omega), h⟩
          clear hall hRa hXl hshl hLl
          cases h1 : (L[i] == 32 : Bool)
          · have q1 : ((L[i].toNat : Int) == 32) = false := by rw [show (32 : Int) = ((32 : Nat) : Int) from rfl, u8_eq (by decide)]; exact h1
            have nx := next (by rw [hit, h1]; rfl)
            clear next yes hit h1
            go_wp2
            go_roundw
            case rel => exact ⟨i + 1, by omega, by go_num, nx, by first | rfl | trivial⟩
            case measure => simp [intOf]; omega
          · have q1 : ((L[i].toNat : Int) == 32) = true := by rw [show (32 : Int) = ((32 : Nat) : Int) from rfl, u8_eq (by decide)]; exact h1
            cases h2 : (X.toList == s.toList : Bool)
            · have nx := next (by rw [hit, h1, h2]; rfl)
              clear next yes hit h1
              go_wp2
              go_roundw
              case rel => exact ⟨i + 1, by omega, by go_num, nx, by first | rfl | trivial⟩
              case measure => simp [intOf]; omega
            · cases h3 : (L[i + 1 + j] == 32 : Bool)
              · have q3 : ((L[i + 1 + j].toNat : Int) == 32) = false := by rw [show (32 : Int) = ((32 : Nat) : Int) from rfl, u8_eq (by decide)]; exact h3
                have nx := next (by rw [hit, h1, h2, h3]; rfl)
                clear next yes hit h1 h3
                go_wp2
                go_roundw
                case rel => exact ⟨i + 1, by omega, by go_num, nx, by first | rfl | trivial⟩
                case measure => simp [intOf]; omega
              · have q3 : ((L[i + 1 + j].toNat : Int) == 32) = true := by rw [show (32 : Int) = ((32 : Nat) : Int) from rfl, u8_eq (by decide)]; exact h3
                have hR2 := yes (by rw [hit, h1, h2, h3]; rfl)
                subst hR2
                clear next yes hit h1 h3
                go_wp2
                go_ret
                exact ⟨rfl, rfl⟩
        · have hlt' : ¬ (i : Int) + (j : Int) + 2 ≤ (m : Int) := by omega
          have hR2 : R = false := by
            rw [← hRa.out, List.any_eq_false]
            intro k hk
            rw [hall k (by have := List.mem_range.1 hk; omega)]
            decide
          subst hR2
          clear hall hRa hshl hLl
          go_wp2
          go_ret
          exact ⟨rfl, rfl⟩
end Go.Proofs.YtljgehammocpkaaGreatDoor.Tok
