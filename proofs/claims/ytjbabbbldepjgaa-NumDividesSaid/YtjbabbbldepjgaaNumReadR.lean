/-
  Layer 1: Read of the reference: it goes byte by byte.
-/
import Derived.Test.YtjbabbbldepjgaaNumLeaf
import Derived.Test.YtjbabbbldepjgaaNumReadMath
namespace Go.Proofs.Ytjbabbbldepjgaa.Num
open Go.RowKit

theorem drop_cons (s : ByteArray) (k : Nat) (h : k < s.size) : s.data.toList.drop k = s[k] :: s.data.toList.drop (k + 1) := by
  rw [List.drop_eq_getElem_cons (by simpa using h)]; rfl
theorem list_cons (s : ByteArray) (h : 0 < s.size) : s.data.toList = s[0] :: s.data.toList.drop 1 := by
  have := drop_cons s 0 h
  rwa [List.drop_zero] at this
theorem drop_ne (s : ByteArray) (h : 1 < s.size) : s.data.toList.drop 1 ≠ [] := by
  rw [drop_cons s 1 h]; simp
theorem drop_end (s : ByteArray) (k : Nat) (h : ¬ k < s.size) : s.data.toList.drop k = [] := by
  rw [List.drop_eq_nil_iff]; simpa using h
theorem u8_eq {c : UInt8} (h : c.toNat = 95) : c = 95 := by
  apply UInt8.toNat_inj.1; rw [h]; rfl
/-- The three kinds of strings that get as far as the digits, and the two that do not. -/
theorem rd_empty (s : ByteArray) (h : ¬ 0 < s.size) : rdS s.data.toList = (0, 4) := by
  have : s.data.toList = [] := by have := drop_end s 0 h; rwa [List.drop_zero] at this
  rw [this]; rfl
theorem rd_bare (s : ByteArray) (h : 0 < s.size) (h1 : ¬ 1 < s.size) (h95 : s[0].toNat = 95) : rdS s.data.toList = (0, 4) := by
  rw [list_cons s h, drop_end s 1 h1, u8_eq h95]; rfl
theorem rd_neg (s : ByteArray) (h : 1 < s.size) (h95 : s[0].toNat = 95) : rdS s.data.toList = rdAns (-1) (rdGo 0 (s.data.toList.drop 1)) := by
  rw [list_cons s (by omega), u8_eq h95, rdS_neg (drop_ne s h)]; rfl
theorem rd_pos (s : ByteArray) (h : 0 < s.size) (h95 : ¬ s[0].toNat = 95) : rdS s.data.toList = rdAns 1 (rdGo 0 (s.data.toList.drop 0)) := by
  rw [List.drop_zero, list_cons s h, rdS_pos h95]

set_option maxHeartbeats 400000 in
theorem readR (s : ByteArray) (w : World) (hs : s.size ≤ 9223372036854775807) :
    Calls Try.prog 28 #[.string s] w fun e w' => e = .returned (.tuple #[.int .i64 (rdS s.data.toList).1, .int .i64 (rdS s.data.toList).2]) ∧ w = w' := by
  by_cases h0 : 0 < s.size
  · by_cases h95 : s[0].toNat = 95
    · have hx : ((s[0].toNat : Int) == 95) = true := by rw [h95]; rfl
      by_cases h1 : 1 < s.size
      · have em := rd_neg s h1 h95
        have hy : (1 == (s.size : Int)) = false := by simp; omega
        clear h95
        go_enter Try.func28, Try.ntmps28
        go_wp2
        go_loop [5, 6] (fun n i => ∃ (N : Int) (k : Nat), k ≤ s.size ∧ n = .int .i64 N ∧ i = .int .i64 k ∧ 0 ≤ N ∧ N ≤ 4611686018427387903 ∧ rdS s.data.toList = rdAns (-1) (rdGo N (s.data.toList.drop k))) (fun _ i => s.size - (intOf i).toNat)
        case atStart => exact ⟨0, 1, by omega, rfl, rfl, by omega, by omega, em⟩
        case round =>
          clear em
          obtain ⟨N, k, hk, rfl, rfl, hN0, hN1, em⟩ := hrel
          by_cases hlt : k < s.size
          · rw [drop_cons s k hlt] at em
            have hcb : (s[k].toNat : Int) ≤ 255 := by have := s[k].toNat_lt; omega
            by_cases c1 : s[k].toNat < 48
            · rw [rdGo_low c1] at em
              have c1' : (s[k].toNat : Int) < 48 := by omega
              have em2 : rdS s.data.toList = (0, 4) := em
              clear em c1
              go_wp2
              go_ret2
              first | exact ⟨pair_mk em2, rfl⟩ | exact ⟨rfl, rfl⟩
            · by_cases c2 : 57 < s[k].toNat
              · rw [rdGo_high c2] at em
                have c1' : ¬ (s[k].toNat : Int) < 48 := by omega
                have c2' : 57 < (s[k].toNat : Int) := by omega
                have em2 : rdS s.data.toList = (0, 4) := em
                clear em c1 c2
                go_wp2
                go_ret2
                first | exact ⟨pair_mk em2, rfl⟩ | exact ⟨rfl, rfl⟩
              · have c1' : 48 ≤ (s[k].toNat : Int) := by omega
                have c2' : (s[k].toNat : Int) ≤ 57 := by omega
                by_cases c3 : (4611686018427387903 - ((s[k].toNat : Int) - 48)) / 10 < N
                · rw [rdGo_big c3] at em
                  have em2 : rdS s.data.toList = (0, 4) := em
                  clear em c1 c2
                  go_wp2
                  go_ret2
                  first | exact ⟨pair_mk em2, rfl⟩ | exact ⟨rfl, rfl⟩
                · rw [rdGo_step (by omega) (by omega) (by omega)] at em
                  have hb := rdGo_bd (n := N) (c := s[k]) (by omega) (by omega) hN0 (by omega)
                  obtain ⟨hb1, hb2⟩ := hb
                  clear c1 c2
                  go_wp2
                  go_round
                  case rel => exact ⟨_, k + 1, by omega, rfl, by go_num, hb1, hb2, em⟩
                  case measure => simp [intOf]; omega
          · rw [drop_end s k hlt] at em
            have em2 : rdS s.data.toList = (-1 * N, 0) := em
            have hm : -1 * N = -N := by omega
            rw [hm] at em2
            clear em hm
            go_wp2
            go_ret2
            first | exact ⟨pair_mk em2, rfl⟩ | exact ⟨rfl, rfl⟩
      · have em := rd_bare s h0 h1 h95
        have hy : (1 == (s.size : Int)) = true := by simp; omega
        clear h95
        go_enter Try.func28, Try.ntmps28
        go_wp2
        go_ret2
        first | exact ⟨pair_mk em, rfl⟩ | exact ⟨rfl, rfl⟩
    · have hx : ((s[0].toNat : Int) == 95) = false := by simp; omega
      have em := rd_pos s h0 h95
      have hy : (0 == (s.size : Int)) = false := by simp; omega
      clear h95
      go_enter Try.func28, Try.ntmps28
      go_wp2
      go_loop [5, 6] (fun n i => ∃ (N : Int) (k : Nat), k ≤ s.size ∧ n = .int .i64 N ∧ i = .int .i64 k ∧ 0 ≤ N ∧ N ≤ 4611686018427387903 ∧ rdS s.data.toList = rdAns (1) (rdGo N (s.data.toList.drop k))) (fun _ i => s.size - (intOf i).toNat)
      case atStart => exact ⟨0, 0, by omega, rfl, rfl, by omega, by omega, em⟩
      case round =>
        clear em
        obtain ⟨N, k, hk, rfl, rfl, hN0, hN1, em⟩ := hrel
        by_cases hlt : k < s.size
        · rw [drop_cons s k hlt] at em
          have hcb : (s[k].toNat : Int) ≤ 255 := by have := s[k].toNat_lt; omega
          by_cases c1 : s[k].toNat < 48
          · rw [rdGo_low c1] at em
            have c1' : (s[k].toNat : Int) < 48 := by omega
            have em2 : rdS s.data.toList = (0, 4) := em
            clear em c1
            go_wp2
            go_ret2
            first | exact ⟨pair_mk em2, rfl⟩ | exact ⟨rfl, rfl⟩
          · by_cases c2 : 57 < s[k].toNat
            · rw [rdGo_high c2] at em
              have c1' : ¬ (s[k].toNat : Int) < 48 := by omega
              have c2' : 57 < (s[k].toNat : Int) := by omega
              have em2 : rdS s.data.toList = (0, 4) := em
              clear em c1 c2
              go_wp2
              go_ret2
              first | exact ⟨pair_mk em2, rfl⟩ | exact ⟨rfl, rfl⟩
            · have c1' : 48 ≤ (s[k].toNat : Int) := by omega
              have c2' : (s[k].toNat : Int) ≤ 57 := by omega
              by_cases c3 : (4611686018427387903 - ((s[k].toNat : Int) - 48)) / 10 < N
              · rw [rdGo_big c3] at em
                have em2 : rdS s.data.toList = (0, 4) := em
                clear em c1 c2
                go_wp2
                go_ret2
                first | exact ⟨pair_mk em2, rfl⟩ | exact ⟨rfl, rfl⟩
              · rw [rdGo_step (by omega) (by omega) (by omega)] at em
                have hb := rdGo_bd (n := N) (c := s[k]) (by omega) (by omega) hN0 (by omega)
                obtain ⟨hb1, hb2⟩ := hb
                clear c1 c2
                go_wp2
                go_round
                case rel => exact ⟨_, k + 1, by omega, rfl, by go_num, hb1, hb2, em⟩
                case measure => simp [intOf]; omega
        · rw [drop_end s k hlt] at em
          have em2 : rdS s.data.toList = (1 * N, 0) := em
          have hm : 1 * N = N := by omega
          rw [hm] at em2
          clear em hm
          go_wp2
          go_ret2
          first | exact ⟨pair_mk em2, rfl⟩ | exact ⟨rfl, rfl⟩
  · have em := rd_empty s h0
    go_enter Try.func28, Try.ntmps28
    go_wp2
    go_ret2
    first | exact ⟨pair_mk em, rfl⟩ | exact ⟨rfl, rfl⟩
end Go.Proofs.Ytjbabbbldepjgaa.Num
