/-
  Layer 2: the reference's Row and Offset.
-/
import Derived.Test.YtjoljkcmpkajpaaShapeR
namespace Go.Proofs.Ytjoljkcmpkajpaa.Shape
open Go.RowKit

theorem pair_mk {p : Int × Int} {x y : Int} (h : p = (x, y)) : Ending.returned (.tuple #[.int .i64 x, .int .i64 y]) = .returned (.tuple #[.int .i64 p.1, .int .i64 p.2]) := by rw [h]
def rowS (xs : List Int) (f : Int) : Int × Int := if rightB xs = true ∧ 0 ≤ f ∧ f ≤ xs.length then (pr (xs.take f.toNat), pr (xs.drop f.toNat)) else (0, 0)
theorem rowS_no {xs : List Int} {f : Int} (h : ¬ (rightB xs = true ∧ 0 ≤ f ∧ f ≤ xs.length)) : rowS xs f = (0, 0) := by rw [rowS, if_neg h]
theorem rowS_yes {xs : List Int} {k : Nat} (h : rightB xs = true) (hk : k ≤ xs.length) : rowS xs k = (pr (xs.take k), pr (xs.drop k)) := by
  rw [rowS, if_pos ⟨h, by omega, by omega⟩]; rfl

theorem rowR (a : Option Addr) (cap : Nat) (xs : List Int) (f : Int) (w : World) (h : IntsAt w a cap xs) :
    Calls Try.prog 24 #[.slice a xs.length cap, .int .i64 f] w fun e w' => e = .returned (.tuple #[.int .i64 (rowS xs f).1, .int .i64 (rowS xs f).2]) ∧ w = w' := by
  have hl := h.len
  by_cases hr : rightB xs = true
  · by_cases h0 : f < 0
    · have em := rowS_no (xs := xs) (f := f) (by omega)
      go_enter Try.func24, Try.ntmps24
      go_wp2_with (go_at_call 12; refine (rightR _ _ _ _ h).mono ?_; rintro e w' ⟨rfl, rfl⟩)
      go_ret2
      exact ⟨by first | rfl | exact pair_mk em, rfl⟩
    · by_cases h1 : (xs.length : Int) < f
      · have em := rowS_no (xs := xs) (f := f) (by omega)
        go_enter Try.func24, Try.ntmps24
        go_wp2_with (go_at_call 12; refine (rightR _ _ _ _ h).mono ?_; rintro e w' ⟨rfl, rfl⟩)
        go_ret2
        exact ⟨by first | rfl | exact pair_mk em, rfl⟩
      · obtain ⟨k, rfl⟩ : ∃ k : Nat, f = k := ⟨f.toNat, by omega⟩
        have hk : k ≤ xs.length := by omega
        have em := rowS_yes hr hk
        have e1 : pr ((xs.take k).drop 0) = pr (xs.take k) := by rw [List.drop_zero]
        have e2 : pr ((xs.take xs.length).drop k) = pr (xs.drop k) := by rw [List.take_length]
        go_enter Try.func24, Try.ntmps24
        go_wp2_with (first
          | (go_at_call 12; refine (rightR _ _ _ _ h).mono ?_; rintro e w' ⟨rfl, rfl⟩)
          | (go_at_call 27; ((with_reducible refine (productR2 _ _ _ 0 k 0 k rfl rfl _ h hr (Nat.zero_le _) hk).mono ?_); rintro e w' ⟨rfl, rfl⟩))
          | (go_at_call 27; ((with_reducible refine (productR2 _ _ _ k xs.length k xs.length rfl rfl _ h hr hk (Nat.le_refl _)).mono ?_); rintro e w' ⟨rfl, rfl⟩)))
        go_ret2
        exact ⟨by first | rfl | exact pair_mk em, rfl⟩
  · have hr' : rightB xs = false := by simpa using hr
    have em := rowS_no (xs := xs) (f := f) (by simp [hr'])
    clear hr
    go_enter Try.func24, Try.ntmps24
    go_wp2_with (go_at_call 12; refine (rightR _ _ _ _ h).mono ?_; rintro e w' ⟨rfl, rfl⟩)
    go_ret2
    exact ⟨by first | rfl | exact pair_mk em, rfl⟩

/-! ### Offset -/
def ofsGo : Int → List Int → List Int → Option Int
  | n, [], [] => some n
  | n, x :: r, i :: s => if 0 ≤ i ∧ i < x then ofsGo (n * x + i) r s else none
  | _, _, _ => none
def ofsAns : Option Int → Int × Bool
  | some n => (n, true)
  | none => (0, false)
def offS (xs is : List Int) : Int × Bool := if rightB xs = true then ofsAns (ofsGo 0 xs is) else (0, false)
theorem ofsGo_len : ∀ (xs is : List Int) (n : Int), ¬ xs.length = is.length → ofsGo n xs is = none
  | [], [], _, h => absurd rfl h
  | [], _ :: _, _, _ => rfl
  | _ :: _, [], _, _ => rfl
  | x :: r, i :: s, n, h => by
    rw [ofsGo]
    split
    · exact ofsGo_len r s _ (fun e => h (by simp [e]))
    · rfl
theorem offS_wrong {xs is : List Int} (h : rightB xs = false) : offS xs is = (0, false) := by simp [offS, h]
theorem offS_len {xs is : List Int} (h : ¬ xs.length = is.length) : offS xs is = (0, false) := by
  rw [offS, ofsGo_len xs is 0 h]; split <;> rfl
theorem ofsGo_out {xs is : List Int} {k : Nat} {n : Int} (h1 : k < xs.length) (h2 : k < is.length) (h : is[k] < 0 ∨ xs[k] ≤ is[k]) : ofsGo n (xs.drop k) (is.drop k) = none := by
  rw [List.drop_eq_getElem_cons h1, List.drop_eq_getElem_cons h2, ofsGo, if_neg (by omega)]
theorem ofsGo_in {xs is : List Int} {k : Nat} {n : Int} (h1 : k < xs.length) (h2 : k < is.length) (h3 : 0 ≤ is[k]) (h4 : is[k] < xs[k]) : ofsGo n (xs.drop k) (is.drop k) = ofsGo (n * xs[k] + is[k]) (xs.drop (k + 1)) (is.drop (k + 1)) := by
  rw [List.drop_eq_getElem_cons h1, List.drop_eq_getElem_cons h2, ofsGo, if_pos ⟨h3, h4⟩]
theorem ofsGo_end {xs is : List Int} {k : Nat} {n : Int} (h1 : ¬ k < xs.length) (h2 : xs.length = is.length) : ofsGo n (xs.drop k) (is.drop k) = some n := by
  rw [List.drop_eq_nil_of_le (by omega), List.drop_eq_nil_of_le (by omega)]; rfl
theorem ofs_bd {xs : List Int} {k : Nat} {n i : Int} (hr : rightB xs = true) (hk : k < xs.length) (h0 : 0 ≤ n) (h1 : n < pr (xs.take k)) (h3 : 0 ≤ i) (h4 : i < xs[k]) :
    0 ≤ n * xs[k] ∧ n * xs[k] ≤ 65536 ∧ 0 ≤ n * xs[k] + i ∧ n * xs[k] + i < pr (xs.take (k + 1)) ∧ pr (xs.take (k + 1)) ≤ 65536 := by
  have e : pr (xs.take (k + 1)) = pr (xs.take k) * xs[k] := by rw [take_snoc xs k hk, pr_append, pr, pr, Int.mul_one]
  have hb := part_bd (a := xs.take (k + 1)) (b := xs.drop (k + 1)) (by rw [List.take_append_drop]; exact hr)
  have m1 : (n + 1) * xs[k] ≤ pr (xs.take k) * xs[k] := Int.mul_le_mul_of_nonneg_right (by omega) (by omega)
  have m2 : 0 ≤ n * xs[k] := Int.mul_nonneg h0 (by omega)
  rw [Int.add_mul, Int.one_mul] at m1
  rw [e] at hb ⊢
  omega

def retIB (n : Int) (b : Bool) : Ending := .returned (.tuple #[.int .i64 n, .bool b])
theorem ret_ib {p : Int × Bool} {n : Int} {b : Bool} (h : p = (n, b)) : Ending.returned (.tuple #[.int .i64 n, .bool b]) = .returned (.tuple #[.int .i64 p.1, .bool p.2]) := by rw [h]

set_option maxHeartbeats 1000000 in
theorem offsetR (a : Option Addr) (cap : Nat) (xs : List Int) (a2 : Option Addr) (cap2 : Nat) (is : List Int) (w : World) (h : IntsAt w a cap xs) (g : IntsAt w a2 cap2 is) :
    Calls Try.prog 18 #[.slice a xs.length cap, .slice a2 is.length cap2] w fun e w' => e = .returned (.tuple #[.int .i64 (offS xs is).1, .bool (offS xs is).2]) ∧ ∃ n, w' = w.drewN n := by
  have hl := h.len
  have hl2 := g.len
  by_cases hr : rightB xs = true
  · by_cases hn : xs.length = is.length
    · have hn' : ((is.length : Int) != (xs.length : Int)) = false := by rw [hn]; simp
      have ES : Hid (offS xs is = ofsAns (ofsGo 0 (xs.drop 0) (is.drop 0))) := by unfold Hid; rw [offS, if_pos hr]; rfl
      have HN : Hid (xs.length = is.length) := hn
      clear hn
      go_enter Try.func18, Try.ntmps18
      go_wp2_with (go_at_call 12; refine (rightR _ _ _ _ h).mono ?_; rintro e w' ⟨rfl, rfl⟩)
      clear hn'
      go_loopw [6, 7] (fun v i wr => ∃ (k n : Nat) (N : Int), k ≤ xs.length ∧ v = .int .i64 N ∧ i = .int .i64 k ∧ wr = w.drewN n ∧ 0 ≤ N ∧ N < pr (xs.take k) ∧ offS xs is = ofsAns (ofsGo N (xs.drop k) (is.drop k))) (fun _ i _ => xs.length - (intOf i).toNat)
      case atStart => exact ⟨0, 0, 0, Nat.zero_le _, rfl, rfl, rfl, Int.le_refl _, (by show (0 : Int) < 1; decide), ES.out⟩
      case round =>
        clear ES
        obtain ⟨k, n, N, hk, rfl, rfl, rfl, hN0, hN1, em⟩ := hrel
        by_cases hlt : k < xs.length
        · have hlt2 : k < is.length := by have := HN.out; omega
          obtain ⟨b, off, hi, hc⟩ := h.at hlt
          obtain ⟨b2, off2, hi2, hc2⟩ := g.at hlt2
          by_cases c1 : is[k] < 0
          · rw [ofsGo_out hlt hlt2 (Or.inl c1)] at em
            have em2 : offS xs is = (0, false) := em
            have d1 : decide (is[k] < 0) = true := by simpa using c1
            clear em
            go_wp2_with fail
            go_quiet (fail)
            go_wp2_with fail
            go_ret2
            exact ⟨by first | rfl | exact ret_ib em2, n + nq, World.drewN_drewN ..⟩
          · have d1 : decide (is[k] < 0) = false := by simpa using c1
            by_cases c2 : xs[k] ≤ is[k]
            · rw [ofsGo_out hlt hlt2 (Or.inr c2)] at em
              have em2 : offS xs is = (0, false) := em
              clear em
              go_wp2_with fail
              go_quiet (fail)
              go_wp2_with fail
              go_ret2
              exact ⟨by first | rfl | exact ret_ib em2, n + nq, World.drewN_drewN ..⟩
            · obtain ⟨m1, m2, m3, m4, m5⟩ := ofs_bd hr hlt hN0 hN1 (by omega : 0 ≤ is[k]) (by omega)
              rw [ofsGo_in hlt hlt2 (by omega) (by omega)] at em
              have HM : Hid (offS xs is = ofsAns (ofsGo (N * xs[k] + is[k]) (xs.drop (k + 1)) (is.drop (k + 1)))) := em
              have w1 : IntKind.i64.wrap (N * xs[k]) = N * xs[k] := IntWalk.i64_in _ (by omega)
              have w2 : IntKind.i64.wrap (N * xs[k] + is[k]) = N * xs[k] + is[k] := IntWalk.i64_in _ (by omega)
              clear em
              go_wp2_with fail
              go_quiet (fail)
              go_wp2_with fail
              go_quiet (fail)
              go_wp2_with fail
              go_roundw
              case rel => exact ⟨k + 1, _, _, by omega, rfl, by go_num, rfl, m3, m4, HM.out⟩
              case measure => simp [intOf]; omega
        · rw [ofsGo_end hlt HN.out] at em
          have em2 : offS xs is = (N, true) := em
          clear em
          go_wp2_with fail
          go_ret2
          exact ⟨by first | rfl | exact ret_ib em2, n, rfl⟩
    · have em := offS_len hn
      have hn' : ((is.length : Int) != (xs.length : Int)) = true := by simp; omega
      clear hn
      go_enter Try.func18, Try.ntmps18
      go_wp2_with (go_at_call 12; refine (rightR _ _ _ _ h).mono ?_; rintro e w' ⟨rfl, rfl⟩)
      go_ret2
      exact ⟨by first | rfl | exact ret_ib em, 0, rfl⟩
  · have hr' : rightB xs = false := by simpa using hr
    have em := offS_wrong (is := is) hr'
    clear hr
    go_enter Try.func18, Try.ntmps18
    go_wp2_with (go_at_call 12; refine (rightR _ _ _ _ h).mono ?_; rintro e w' ⟨rfl, rfl⟩)
    go_ret2
    exact ⟨by first | rfl | exact ret_ib em, 0, rfl⟩
end Go.Proofs.Ytjoljkcmpkajpaa.Shape
