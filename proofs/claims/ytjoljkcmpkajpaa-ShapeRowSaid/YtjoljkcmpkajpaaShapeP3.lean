/-
  Layer 2: the program's Offset.
-/
import Derived.Test.YtjoljkcmpkajpaaShapeP2
namespace Go.Proofs.Ytjoljkcmpkajpaa.Shape
open Go.RowKit

set_option maxHeartbeats 1000000 in
theorem offsetP (a : Option Addr) (cap : Nat) (xs : List Int) (a2 : Option Addr) (cap2 : Nat) (is : List Int) (w : World) (h : IntsAt w a cap xs) (g : IntsAt w a2 cap2 is) :
    Calls Try.prog 17 #[.slice a xs.length cap, .slice a2 is.length cap2] w fun e w' => e = .returned (.tuple #[.int .i64 (offS xs is).1, .bool (offS xs is).2]) ∧ ∃ n, w' = w.drewN n := by
  have hl := h.len
  have hl2 := g.len
  by_cases hr : rightB xs = true
  · by_cases hn : xs.length = is.length
    · have hn' : ((is.length : Int) != (xs.length : Int)) = false := by rw [hn]; simp
      have ES : Hid (offS xs is = ofsAns (ofsGo 0 (xs.drop 0) (is.drop 0))) := by unfold Hid; rw [offS, if_pos hr]; rfl
      have HN : Hid (xs.length = is.length) := hn
      clear hn
      go_enter Try.func17, Try.ntmps17
      go_wp2_with (go_at_call 11; refine (rightP _ _ _ _ h).mono ?_; rintro e w' ⟨rfl, rfl⟩)
      clear hn'
      go_loopw [6, 21] (fun v i wr => ∃ (k n : Nat) (N : Int), k ≤ xs.length ∧ v = .int .i64 N ∧ i = .int .i64 k ∧ wr = w.drewN n ∧ 0 ≤ N ∧ N < pr (xs.take k) ∧ offS xs is = ofsAns (ofsGo N (xs.drop k) (is.drop k))) (fun _ i _ => xs.length - (intOf i).toNat)
      case atStart => exact ⟨0, 0, 0, Nat.zero_le _, rfl, rfl, rfl, Int.le_refl _, (by show (0 : Int) < 1; decide), ES.out⟩
      case round =>
        clear ES
        obtain ⟨k, n, N, hk, rfl, rfl, rfl, hN0, hN1, em⟩ := hrel
        by_cases hlt : k < xs.length
        · have hlt2 : k < is.length := by have := HN.out; omega
          obtain ⟨b, off, hi, hc⟩ := h.at hlt
          obtain ⟨b2, off2, hi2, hc2⟩ := g.at hlt2
          by_cases c1 : is[k] < 0
          · rw [ofsGo_out hlt hlt2 (Or.inl c1)] at em
            have em2 : offS xs is = (0, false) := em
            have d1 : decide (is[k] < 0) = true := by simpa using c1
            clear em
            go_wp2_with fail
            go_ret2
            exact ⟨by first | rfl | exact ret_ib em2, n, rfl⟩
          · have d1 : decide (is[k] < 0) = false := by simpa using c1
            by_cases c2 : xs[k] ≤ is[k]
            · rw [ofsGo_out hlt hlt2 (Or.inr c2)] at em
              have em2 : offS xs is = (0, false) := em
              clear em
              go_wp2_with fail
              go_ret2
              exact ⟨by first | rfl | exact ret_ib em2, n, rfl⟩
            · obtain ⟨m1, m2, m3, m4, m5⟩ := ofs_bd hr hlt hN0 hN1 (by omega : 0 ≤ is[k]) (by omega)
              rw [ofsGo_in hlt hlt2 (by omega) (by omega)] at em
              have HM : Hid (offS xs is = ofsAns (ofsGo (N * xs[k] + is[k]) (xs.drop (k + 1)) (is.drop (k + 1)))) := em
              have w1 : IntKind.i64.wrap (N * xs[k]) = N * xs[k] := IntWalk.i64_in _ (by omega)
              have w2 : IntKind.i64.wrap (N * xs[k] + is[k]) = N * xs[k] + is[k] := IntWalk.i64_in _ (by omega)
              clear em
              go_wp2_with fail
              go_roundw
              case rel => exact ⟨k + 1, _, _, by omega, rfl, by go_num, rfl, m3, m4, HM.out⟩
              case measure => simp [intOf]; omega
        · rw [ofsGo_end hlt HN.out] at em
          have em2 : offS xs is = (N, true) := em
          clear em
          go_wp2_with fail
          go_ret2
          exact ⟨by first | rfl | exact ret_ib em2, n, rfl⟩
    · have em := offS_len hn
      have hn' : ((is.length : Int) != (xs.length : Int)) = true := by simp; omega
      clear hn
      go_enter Try.func17, Try.ntmps17
      go_wp2_with (go_at_call 11; refine (rightP _ _ _ _ h).mono ?_; rintro e w' ⟨rfl, rfl⟩)
      go_ret2
      exact ⟨by first | rfl | exact ret_ib em, 0, rfl⟩
  · have hr' : rightB xs = false := by simpa using hr
    have em := offS_wrong (is := is) hr'
    clear hr
    go_enter Try.func17, Try.ntmps17
    go_wp2_with (go_at_call 11; refine (rightP _ _ _ _ h).mono ?_; rintro e w' ⟨rfl, rfl⟩)
    go_ret2
    exact ⟨by first | rfl | exact ret_ib em, 0, rfl⟩
end Go.Proofs.Ytjoljkcmpkajpaa.Shape
