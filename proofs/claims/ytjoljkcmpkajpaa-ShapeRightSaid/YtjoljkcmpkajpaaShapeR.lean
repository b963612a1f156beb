/-
  Layer 2: the reference's Product and Right.
-/
import Derived.Test.YtjoljkcmpkajpaaInts
import Derived.Test.YtjoljkcmpkajpaaShapeMath
namespace Go.Proofs.Ytjoljkcmpkajpaa.Shape
open Go.RowKit

theorem ret_int {a b : Int} (h : a = b) : Ending.returned (.int .i64 a) = .returned (.int .i64 b) := by rw [h]
/-- The numbers from place 'from' on, as far as place k. -/
theorem mid_snoc (xs : List Int) (f k : Nat) (hf : f ≤ k) (hk : k < xs.length) : (xs.take (k + 1)).drop f = (xs.take k).drop f ++ [xs[k]] := by
  rw [take_snoc xs k hk, List.drop_append_of_le_length (by simp; omega)]
theorem mid_part (xs : List Int) (f k : Nat) (h : rightB xs = true) : NN ((xs.take k).drop f) ∧ nz ((xs.take k).drop f) ≤ 65536 := by
  obtain ⟨_, h2, h3⟩ := right_def.1 h
  have e : xs.take k ++ xs.drop k = xs := List.take_append_drop _ _
  have e2 : (xs.take k).take f ++ (xs.take k).drop f = xs.take k := List.take_append_drop _ _
  have h4 : NN (xs.take k) := by rw [← e] at h2; exact h2.left
  have h5 : nz (xs.take k) ≤ nz xs := by
    have := nz_left (a := xs.take k) (b := xs.drop k) (by rw [e]; exact h2)
    rwa [e] at this
  have h6 : NN ((xs.take k).drop f) := by rw [← e2] at h4; exact h4.right
  have h7 : nz ((xs.take k).drop f) ≤ nz (xs.take k) := by
    have := nz_right (a := (xs.take k).take f) (b := (xs.take k).drop f) (by rw [e2]; exact h4)
    rwa [e2] at this
  exact ⟨h6, by omega⟩

set_option maxHeartbeats 400000 in
theorem productR (a : Option Addr) (cap : Nat) (xs : List Int) (f t : Nat) (w : World) (h : IntsAt w a cap xs) (hr : rightB xs = true) (hf : f ≤ t) (ht : t ≤ xs.length) :
    Calls Try.prog 27 #[.slice a xs.length cap, .int .i64 f, .int .i64 t] w fun e w' => e = .returned (.int .i64 (pr ((xs.take t).drop f))) ∧ w = w' := by
  have hl := h.len
  go_enter Try.func27, Try.ntmps27
  go_wp2
  go_loop [7, 8] (fun p i => ∃ k : Nat, f ≤ k ∧ k ≤ t ∧ i = .int .i64 k ∧ p = .int .i64 (pr ((xs.take k).drop f)) ∧ ∀ x ∈ (xs.take k).drop f, x ≠ 0) (fun _ i => t - (intOf i).toNat)
  case atStart => exact ⟨f, Nat.le_refl _, hf, rfl, by rw [List.drop_eq_nil_of_le (by simp; omega)]; rfl, by rw [List.drop_eq_nil_of_le (by simp; omega)]; simp⟩
  case round =>
    obtain ⟨k, hk1, hk2, rfl, rfl, hz⟩ := hrel
    by_cases hlt : k < t
    · have hkl : k < xs.length := by omega
      obtain ⟨b, off, hi, hc⟩ := h.at hkl
      have hm := mid_snoc xs f k hk1 hkl
      have hp := mid_part xs f (k + 1) hr
      by_cases h0 : xs[k] = 0
      · have h0' : (xs[k] == 0) = true := by simpa using h0
        have e : pr ((xs.take t).drop f) = 0 := by
          have e1 : (xs.take t).drop f = (xs.take (k + 1)).drop f ++ (xs.take t).drop (k + 1) := by
            have : xs.take (k + 1) = (xs.take t).take (k + 1) := by rw [List.take_take, Nat.min_eq_left (by omega)]
            rw [this]
            conv => lhs; rw [← List.take_append_drop (k + 1) (xs.take t)]
            rw [List.drop_append_of_le_length (by simp; omega)]
          rw [e1, pr_append, hm, pr_append, h0]; simp [pr]
        clear hm hp h0 hz
        go_wp2
        go_ret
        first | exact ⟨rfl, rfl⟩ | exact ⟨ret_int e.symm, rfl⟩
      · have h0' : (xs[k] == 0) = false := by simpa using h0
        have hz2 : ∀ x ∈ (xs.take (k + 1)).drop f, x ≠ 0 := by
          rw [hm]; intro x hx
          rcases List.mem_append.1 hx with h1 | h1
          · exact hz x h1
          · rw [List.mem_singleton.1 h1]; exact h0
        have e2 : pr ((xs.take (k + 1)).drop f) = pr ((xs.take k).drop f) * xs[k] := by rw [hm, pr_append, pr, pr, Int.mul_one]
        have b1 := pr_eq_nz hz2
        have b2 := pr_nn hp.1
        have b3 : 0 ≤ pr ((xs.take k).drop f) * xs[k] ∧ pr ((xs.take k).drop f) * xs[k] ≤ 65536 := by rw [← e2]; have := hp.2; omega
        obtain ⟨b4, b5⟩ := b3
        clear hm hp h0 hz b1 b2
        go_wp2
        go_round
        case rel => exact ⟨k + 1, by omega, by omega, by go_num, by rw [e2], hz2⟩
        case measure => simp [intOf]; omega
    · obtain rfl : k = t := by omega
      go_wp2
      go_ret
      exact ⟨rfl, rfl⟩

theorem productR2 (a : Option Addr) (cap : Nat) (xs : List Int) (f t : Nat) (fi ti : Int) (e1 : fi = f) (e2 : ti = t) (w : World) (h : IntsAt w a cap xs) (hr : rightB xs = true) (hf : f ≤ t) (ht : t ≤ xs.length) :
    Calls Try.prog 27 #[.slice a xs.length cap, .int .i64 fi, .int .i64 ti] w fun e w' => e = .returned (.int .i64 (pr ((xs.take t).drop f))) ∧ w = w' := by
  subst e1; subst e2; exact productR a cap xs f t w h hr hf ht
theorem ret_bool {a b : Bool} (h : a = b) : Ending.returned (.bool a) = .returned (.bool b) := by rw [h]
set_option maxHeartbeats 1000000 in
theorem rightR (a : Option Addr) (cap : Nat) (xs : List Int) (w : World) (h : IntsAt w a cap xs) :
    Calls Try.prog 12 #[.slice a xs.length cap] w fun e w' => e = .returned (.bool (rightB xs)) ∧ w = w' := by
  have hl := h.len
  by_cases h8 : 8 < xs.length
  · have em := right_len h8
    go_enter Try.func12, Try.ntmps12
    go_wp2
    go_ret
    first | exact ⟨rfl, rfl⟩ | exact ⟨ret_bool em.symm, rfl⟩
  · go_enter Try.func12, Try.ntmps12
    go_wp2
    go_loop [3, 4] (fun p i => ∃ k : Nat, k ≤ xs.length ∧ i = .int .i64 k ∧ p = .int .i64 (nz (xs.take k)) ∧ NN (xs.take k) ∧ nz (xs.take k) ≤ 65536) (fun _ i => xs.length - (intOf i).toNat)
    case atStart => exact ⟨0, Nat.zero_le _, rfl, rfl, NN.nil, by show (1 : Int) ≤ 65536; decide⟩
    case round =>
      obtain ⟨k, hk, rfl, rfl, hn, hp⟩ := hrel
      have hp1 := nz_pos hn
      by_cases hlt : k < xs.length
      · obtain ⟨b, off, hi, hc⟩ := h.at hlt
        have hs := nz_step hlt
        have ht := take_snoc xs k hlt
        by_cases c1 : xs[k] < 0
        · have em := right_neg hlt c1
          clear hs ht
          go_wp2
          go_ret
          first | exact ⟨rfl, rfl⟩ | exact ⟨ret_bool em.symm, rfl⟩
        · by_cases c2 : 65536 < xs[k]
          · have em := right_huge hlt c2
            clear hs ht
            go_wp2
            go_ret
            first | exact ⟨rfl, rfl⟩ | exact ⟨ret_bool em.symm, rfl⟩
          · have hn2 : NN (xs.take (k + 1)) := by rw [ht]; exact hn.snoc (by omega)
            by_cases c3 : xs[k] = 0
            · rw [if_pos c3, Int.mul_one] at hs
              have c3' : ¬ 0 < xs[k] := by omega
              have hp2 : nz (xs.take (k + 1)) ≤ 65536 := by omega
              have HS : Hid (nz (xs.take (k + 1)) = nz (xs.take k)) := hs
              clear hs ht c3
              go_wp2
              go_round
              case rel => exact ⟨k + 1, by omega, by go_num, by rw [HS.out], hn2, hp2⟩
              case measure => simp [intOf]; omega
            · rw [if_neg c3] at hs
              have c3' : 0 < xs[k] := by omega
              have hm : 0 ≤ nz (xs.take k) * xs[k] ∧ nz (xs.take k) * xs[k] ≤ 65536 * 65536 :=
                ⟨Int.mul_nonneg (by omega) (by omega), Int.mul_le_mul hp (by omega) (by omega) (by decide)⟩
              obtain ⟨m1, m2⟩ := hm
              have HS : Hid (nz (xs.take (k + 1)) = nz (xs.take k) * xs[k]) := hs
              by_cases c4 : 65536 < nz (xs.take k) * xs[k]
              · have em := right_big (xs := xs) (k := k) (by rw [hs]; exact c4)
                clear hs ht c3
                go_wp2
                go_ret
                first | exact ⟨rfl, rfl⟩ | exact ⟨ret_bool em.symm, rfl⟩
              · have hp2 : nz (xs.take (k + 1)) ≤ 65536 := by rw [hs]; omega
                clear hs ht c3
                go_wp2
                go_round
                case rel => exact ⟨k + 1, by omega, by go_num, by rw [HS.out], hn2, hp2⟩
                case measure => simp [intOf]; omega
      · obtain rfl : k = xs.length := by omega
        rw [List.take_length] at hn hp
        have em := right_all (by omega) hn hp
        go_wp2
        go_ret
        first | exact ⟨rfl, rfl⟩ | exact ⟨ret_bool em.symm, rfl⟩

def sizeS (xs : List Int) : Int := if rightB xs = true then pr xs else -1
theorem sizeR (a : Option Addr) (cap : Nat) (xs : List Int) (w : World) (h : IntsAt w a cap xs) :
    Calls Try.prog 14 #[.slice a xs.length cap] w fun e w' => e = .returned (.int .i64 (sizeS xs)) ∧ w = w' := by
  have hl := h.len
  by_cases hr : rightB xs = true
  · have em : sizeS xs = pr xs := by rw [sizeS, if_pos hr]
    go_enter Try.func14, Try.ntmps14
    go_wp2_with (first | (go_at_call 12; refine (rightR _ _ _ _ h).mono ?_; rintro e w' ⟨rfl, rfl⟩) | (go_at_call 27; refine (productR _ _ _ 0 xs.length _ h hr (Nat.zero_le _) (Nat.le_refl _)).mono ?_; rintro e w' ⟨rfl, rfl⟩))
    go_ret
    first | exact ⟨rfl, rfl⟩ | exact ⟨ret_int em.symm, rfl⟩
  · have hr' : rightB xs = false := by simpa using hr
    have em : sizeS xs = -1 := by rw [sizeS, if_neg hr]
    go_enter Try.func14, Try.ntmps14
    go_wp2_with (go_at_call 12; refine (rightR _ _ _ _ h).mono ?_; rintro e w' ⟨rfl, rfl⟩)
    go_ret
    first | exact ⟨rfl, rfl⟩ | exact ⟨ret_int em.symm, rfl⟩

def sameB (xs ys : List Int) : Bool := decide (xs = ys)
theorem same_len {xs ys : List Int} (h : ¬ xs.length = ys.length) : sameB xs ys = false := by
  simp only [sameB, decide_eq_false_iff_not]; intro e; exact h (by rw [e])
theorem same_at {xs ys : List Int} {k : Nat} (h1 : k < xs.length) (h2 : k < ys.length) (h : ¬ xs[k] = ys[k]) : sameB xs ys = false := by
  simp only [sameB, decide_eq_false_iff_not]; intro e; subst e; exact h rfl
theorem same_all {xs ys : List Int} (h : xs.length = ys.length) (h2 : ∀ i (h1 : i < xs.length) (h2 : i < ys.length), xs[i] = ys[i]) : sameB xs ys = true := by
  simp only [sameB, decide_eq_true_eq]; exact List.ext_getElem h h2

set_option maxHeartbeats 1000000 in
theorem sameR (a : Option Addr) (cap : Nat) (xs : List Int) (a2 : Option Addr) (cap2 : Nat) (ys : List Int) (w : World) (h : IntsAt w a cap xs) (g : IntsAt w a2 cap2 ys) :
    Calls Try.prog 16 #[.slice a xs.length cap, .slice a2 ys.length cap2] w fun e w' => e = .returned (.bool (sameB xs ys)) ∧ ∃ n, w' = w.drewN n := by
  have hl := h.len
  have hl2 := g.len
  by_cases hn : xs.length = ys.length
  · have hn' : ((xs.length : Int) != (ys.length : Int)) = false := by rw [hn]; simp
    go_enter Try.func16, Try.ntmps16
    go_wp2
    clear hn'
    go_loopw [5] (fun i wr => ∃ k n : Nat, k ≤ xs.length ∧ i = .int .i64 k ∧ wr = w.drewN n ∧ ∀ j (h1 : j < xs.length) (h2 : j < ys.length), j < k → xs[j] = ys[j]) (fun i _ => xs.length - (intOf i).toNat)
    case atStart => exact ⟨0, 0, Nat.zero_le _, rfl, rfl, fun j _ _ hj => absurd hj (Nat.not_lt_zero _)⟩
    case round =>
      obtain ⟨k, n, hk, rfl, rfl, he⟩ := hrel
      have HE : Hid (∀ j (h1 : j < xs.length) (h2 : j < ys.length), j < k → xs[j] = ys[j]) := he
      clear he
      by_cases hlt : k < xs.length
      · have hlt2 : k < ys.length := by omega
        obtain ⟨b, off, hi, hc⟩ := h.at hlt
        obtain ⟨b2, off2, hi2, hc2⟩ := g.at hlt2
        by_cases c1 : xs[k] = ys[k]
        · have c1' : (xs[k] != ys[k]) = false := by simpa using c1
          have HC : Hid (xs[k] = ys[k]) := c1
          clear c1 hn
          go_wp2_with fail
          go_quiet (fail)
          go_wp2_with fail
          go_roundw
          case rel => exact ⟨k + 1, n + nq, by omega, by go_num, rfl, fun j h1 h2 hj => by
            by_cases e : j = k
            · subst e; exact HC.out
            · exact HE.out j h1 h2 (by omega)⟩
          case measure => simp [intOf]; omega
        · have em := same_at hlt hlt2 c1
          have c1' : (xs[k] != ys[k]) = true := by simpa using c1
          clear c1 hn
          go_wp2_with fail
          go_quiet (fail)
          go_wp2_with fail
          go_ret
          exact ⟨by first | rfl | exact ret_bool em.symm, n + nq, World.drewN_drewN ..⟩
      · obtain rfl : k = xs.length := by omega
        have em := same_all hn (fun i h1 h2 => HE.out i h1 h2 h1)
        clear hn
        go_wp2_with fail
        go_ret
        first | exact ⟨rfl, _, rfl⟩ | exact ⟨ret_bool em.symm, _, rfl⟩
  · have em := same_len hn
    have hn' : ((xs.length : Int) != (ys.length : Int)) = true := by simp; omega
    clear hn
    go_enter Try.func16, Try.ntmps16
    go_wp2
    go_ret
    first | exact ⟨rfl, 0, rfl⟩ | exact ⟨ret_bool em.symm, 0, rfl⟩
end Go.Proofs.Ytjoljkcmpkajpaa.Shape
