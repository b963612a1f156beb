/-
  Layer 2: the reference's Product and Right.
  Layer 2: the reference's Agree.
  Layer 2: the reference's Row and Offset.
  Layer 2: the program's Size and Right.
  Layer 2: the program's Right, Row and Offset.
-/
import Derived.Test.YtekbdiniibmhgaaBinGI
import Derived.Test.YtekbdiniibmhgaaBinGM
namespace Go.Proofs.Ytekbdiniibmhgaa.Shp
open Go.Proofs.Ytekbdiniibmhgaa.Shape
open Go.RowKit

theorem ret_int {a b : Int} (h : a = b) : Ending.returned (.int .i64 a) = .returned (.int .i64 b) := by rw [h]
/-- The numbers from place 'from' on, as far as place k. -/
theorem mid_snoc (xs : List Int) (f k : Nat) (hf : f ≤ k) (hk : k < xs.length) : (xs.take (k + 1)).drop f = (xs.take k).drop f ++ [xs[k]] := by
  rw [take_snoc xs k hk, List.drop_append_of_le_length (by simp; omega)]
theorem mid_part (xs : List Int) (f k : Nat) (h : rightB xs = true) : NN ((xs.take k).drop f) ∧ nz ((xs.take k).drop f) ≤ 65536 := by
  obtain ⟨_, h2, h3⟩ := right_def.1 h
  have e : xs.take k ++ xs.drop k = xs := List.take_append_drop _ _
  have e2 : (xs.take k).take f ++ (xs.take k).drop f = xs.take k := List.take_append_drop _ _
  have h4 : NN (xs.take k) := by rw [← e] at h2; exact h2.left
  have h5 : nz (xs.take k) ≤ nz xs := by
    have := nz_left (a := xs.take k) (b := xs.drop k) (by rw [e]; exact h2)
    rwa [e] at this
  have h6 : NN ((xs.take k).drop f) := by rw [← e2] at h4; exact h4.right
  have h7 : nz ((xs.take k).drop f) ≤ nz (xs.take k) := by
    have := nz_right (a := (xs.take k).take f) (b := (xs.take k).drop f) (by rw [e2]; exact h4)
    rwa [e2] at this
  exact ⟨h6, by omega⟩

set_option maxHeartbeats 400000 in
theorem productR (a : Option Addr) (cap : Nat) (xs : List Int) (f t : Nat) (w : World) (h : IntsAt w a cap xs) (hr : rightB xs = true) (hf : f ≤ t) (ht : t ≤ xs.length) :
    Calls Try.prog 72 #[.slice a xs.length cap, .int .i64 f, .int .i64 t] w fun e w' => e = .returned (.int .i64 (pr ((xs.take t).drop f))) ∧ w = w' := by
  have hl := h.len
  go_enter Try.func72, Try.ntmps72
  go_wp2
  go_loop [7, 8] (fun p i => ∃ k : Nat, f ≤ k ∧ k ≤ t ∧ i = .int .i64 k ∧ p = .int .i64 (pr ((xs.take k).drop f)) ∧ ∀ x ∈ (xs.take k).drop f, x ≠ 0) (fun _ i => t - (intOf i).toNat)
  case atStart => exact ⟨f, Nat.le_refl _, hf, rfl, by rw [List.drop_eq_nil_of_le (by simp; omega)]; rfl, by rw [List.drop_eq_nil_of_le (by simp; omega)]; simp⟩
  case round =>
    obtain ⟨k, hk1, hk2, rfl, rfl, hz⟩ := hrel
    by_cases hlt : k < t
    · have hkl : k < xs.length := by omega
      obtain ⟨b, off, hi, hc⟩ := h.at hkl
      have hm := mid_snoc xs f k hk1 hkl
      have hp := mid_part xs f (k + 1) hr
      by_cases h0 : xs[k] = 0
      · have h0' : (xs[k] == 0) = true := by simpa using h0
        have e : pr ((xs.take t).drop f) = 0 := by
          have e1 : (xs.take t).drop f = (xs.take (k + 1)).drop f ++ (xs.take t).drop (k + 1) := by
            have : xs.take (k + 1) = (xs.take t).take (k + 1) := by rw [List.take_take, Nat.min_eq_left (by omega)]
            rw [this]
            conv => lhs; rw [← List.take_append_drop (k + 1) (xs.take t)]
            rw [List.drop_append_of_le_length (by simp; omega)]
          rw [e1, pr_append, hm, pr_append, h0]; simp [pr]
        clear hm hp h0 hz
        go_wp2
        go_ret
        first | exact ⟨rfl, rfl⟩ | exact ⟨ret_int e.symm, rfl⟩
      · have h0' : (xs[k] == 0) = false := by simpa using h0
        have hz2 : ∀ x ∈ (xs.take (k + 1)).drop f, x ≠ 0 := by
          rw [hm]; intro x hx
          rcases List.mem_append.1 hx with h1 | h1
          · exact hz x h1
          · rw [List.mem_singleton.1 h1]; exact h0
        have e2 : pr ((xs.take (k + 1)).drop f) = pr ((xs.take k).drop f) * xs[k] := by rw [hm, pr_append, pr, pr, Int.mul_one]
        have b1 := pr_eq_nz hz2
        have b2 := pr_nn hp.1
        have b3 : 0 ≤ pr ((xs.take k).drop f) * xs[k] ∧ pr ((xs.take k).drop f) * xs[k] ≤ 65536 := by rw [← e2]; have := hp.2; omega
        obtain ⟨b4, b5⟩ := b3
        clear hm hp h0 hz b1 b2
        go_wp2
        go_round
        case rel => exact ⟨k + 1, by omega, by omega, by go_num, by rw [e2], hz2⟩
        case measure => simp [intOf]; omega
    · obtain rfl : k = t := by omega
      go_wp2
      go_ret
      exact ⟨rfl, rfl⟩

theorem productR2 (a : Option Addr) (cap : Nat) (xs : List Int) (f t : Nat) (fi ti : Int) (e1 : fi = f) (e2 : ti = t) (w : World) (h : IntsAt w a cap xs) (hr : rightB xs = true) (hf : f ≤ t) (ht : t ≤ xs.length) :
    Calls Try.prog 72 #[.slice a xs.length cap, .int .i64 fi, .int .i64 ti] w fun e w' => e = .returned (.int .i64 (pr ((xs.take t).drop f))) ∧ w = w' := by
  subst e1; subst e2; exact productR a cap xs f t w h hr hf ht
theorem ret_bool {a b : Bool} (h : a = b) : Ending.returned (.bool a) = .returned (.bool b) := by rw [h]
set_option maxHeartbeats 1000000 in
theorem rightR (a : Option Addr) (cap : Nat) (xs : List Int) (w : World) (h : IntsAt w a cap xs) :
    Calls Try.prog 70 #[.slice a xs.length cap] w fun e w' => e = .returned (.bool (rightB xs)) ∧ w = w' := by
  have hl := h.len
  by_cases h8 : 8 < xs.length
  · have em := right_len h8
    go_enter Try.func70, Try.ntmps70
    go_wp2
    go_ret
    first | exact ⟨rfl, rfl⟩ | exact ⟨ret_bool em.symm, rfl⟩
  · go_enter Try.func70, Try.ntmps70
    go_wp2
    go_loop [3, 4] (fun p i => ∃ k : Nat, k ≤ xs.length ∧ i = .int .i64 k ∧ p = .int .i64 (nz (xs.take k)) ∧ NN (xs.take k) ∧ nz (xs.take k) ≤ 65536) (fun _ i => xs.length - (intOf i).toNat)
    case atStart => exact ⟨0, Nat.zero_le _, rfl, rfl, NN.nil, by show (1 : Int) ≤ 65536; decide⟩
    case round =>
      obtain ⟨k, hk, rfl, rfl, hn, hp⟩ := hrel
      have hp1 := nz_pos hn
      by_cases hlt : k < xs.length
      · obtain ⟨b, off, hi, hc⟩ := h.at hlt
        have hs := nz_step hlt
        have ht := take_snoc xs k hlt
        by_cases c1 : xs[k] < 0
        · have em := right_neg hlt c1
          clear hs ht
          go_wp2
          go_ret
          first | exact ⟨rfl, rfl⟩ | exact ⟨ret_bool em.symm, rfl⟩
        · by_cases c2 : 65536 < xs[k]
          · have em := right_huge hlt c2
            clear hs ht
            go_wp2
            go_ret
            first | exact ⟨rfl, rfl⟩ | exact ⟨ret_bool em.symm, rfl⟩
          · have hn2 : NN (xs.take (k + 1)) := by rw [ht]; exact hn.snoc (by omega)
            by_cases c3 : xs[k] = 0
            · rw [if_pos c3, Int.mul_one] at hs
              have c3' : ¬ 0 < xs[k] := by omega
              have hp2 : nz (xs.take (k + 1)) ≤ 65536 := by omega
              have HS : Hid (nz (xs.take (k + 1)) = nz (xs.take k)) := hs
              clear hs ht c3
              go_wp2
              go_round
              case rel => exact ⟨k + 1, by omega, by go_num, by rw [HS.out], hn2, hp2⟩
              case measure => simp [intOf]; omega
            · rw [if_neg c3] at hs
              have c3' : 0 < xs[k] := by omega
              have hm : 0 ≤ nz (xs.take k) * xs[k] ∧ nz (xs.take k) * xs[k] ≤ 65536 * 65536 :=
                ⟨Int.mul_nonneg (by omega) (by omega), Int.mul_le_mul hp (by omega) (by omega) (by decide)⟩
              obtain ⟨m1, m2⟩ := hm
              have HS : Hid (nz (xs.take (k + 1)) = nz (xs.take k) * xs[k]) := hs
              by_cases c4 : 65536 < nz (xs.take k) * xs[k]
              · have em := right_big (xs := xs) (k := k) (by rw [hs]; exact c4)
                clear hs ht c3
                go_wp2
                go_ret
                first | exact ⟨rfl, rfl⟩ | exact ⟨ret_bool em.symm, rfl⟩
              · have hp2 : nz (xs.take (k + 1)) ≤ 65536 := by rw [hs]; omega
                clear hs ht c3
                go_wp2
                go_round
                case rel => exact ⟨k + 1, by omega, by go_num, by rw [HS.out], hn2, hp2⟩
                case measure => simp [intOf]; omega
      · obtain rfl : k = xs.length := by omega
        rw [List.take_length] at hn hp
        have em := right_all (by omega) hn hp
        go_wp2
        go_ret
        first | exact ⟨rfl, rfl⟩ | exact ⟨ret_bool em.symm, rfl⟩

def sizeS (xs : List Int) : Int := if rightB xs = true then pr xs else -1
theorem sizeR (a : Option Addr) (cap : Nat) (xs : List Int) (w : World) (h : IntsAt w a cap xs) :
    Calls Try.prog 37 #[.slice a xs.length cap] w fun e w' => e = .returned (.int .i64 (sizeS xs)) ∧ w = w' := by
  have hl := h.len
  by_cases hr : rightB xs = true
  · have em : sizeS xs = pr xs := by rw [sizeS, if_pos hr]
    go_enter Try.func37, Try.ntmps37
    go_wp2_with (first | (go_at_call 70; refine (rightR _ _ _ _ h).mono ?_; rintro e w' ⟨rfl, rfl⟩) | (go_at_call 72; refine (productR _ _ _ 0 xs.length _ h hr (Nat.zero_le _) (Nat.le_refl _)).mono ?_; rintro e w' ⟨rfl, rfl⟩))
    go_ret
    first | exact ⟨rfl, rfl⟩ | exact ⟨ret_int em.symm, rfl⟩
  · have hr' : rightB xs = false := by simpa using hr
    have em : sizeS xs = -1 := by rw [sizeS, if_neg hr]
    go_enter Try.func37, Try.ntmps37
    go_wp2_with (go_at_call 70; refine (rightR _ _ _ _ h).mono ?_; rintro e w' ⟨rfl, rfl⟩)
    go_ret
    first | exact ⟨rfl, rfl⟩ | exact ⟨ret_int em.symm, rfl⟩

def sameB (xs ys : List Int) : Bool := decide (xs = ys)
theorem same_len {xs ys : List Int} (h : ¬ xs.length = ys.length) : sameB xs ys = false := by
  simp only [sameB, decide_eq_false_iff_not]; intro e; exact h (by rw [e])
theorem same_at {xs ys : List Int} {k : Nat} (h1 : k < xs.length) (h2 : k < ys.length) (h : ¬ xs[k] = ys[k]) : sameB xs ys = false := by
  simp only [sameB, decide_eq_false_iff_not]; intro e; subst e; exact h rfl
theorem same_all {xs ys : List Int} (h : xs.length = ys.length) (h2 : ∀ i (h1 : i < xs.length) (h2 : i < ys.length), xs[i] = ys[i]) : sameB xs ys = true := by
  simp only [sameB, decide_eq_true_eq]; exact List.ext_getElem h h2

set_option maxHeartbeats 1000000 in
theorem sameR (a : Option Addr) (cap : Nat) (xs : List Int) (a2 : Option Addr) (cap2 : Nat) (ys : List Int) (w : World) (h : IntsAt w a cap xs) (g : IntsAt w a2 cap2 ys) :
    Calls Try.prog 71 #[.slice a xs.length cap, .slice a2 ys.length cap2] w fun e w' => e = .returned (.bool (sameB xs ys)) ∧ ∃ n, w' = w.drewN n := by
  have hl := h.len
  have hl2 := g.len
  by_cases hn : xs.length = ys.length
  · have hn' : ((xs.length : Int) != (ys.length : Int)) = false := by rw [hn]; simp
    go_enter Try.func71, Try.ntmps71
    go_wp2
    clear hn'
    go_loopw [5] (fun i wr => ∃ k n : Nat, k ≤ xs.length ∧ i = .int .i64 k ∧ wr = w.drewN n ∧ ∀ j (h1 : j < xs.length) (h2 : j < ys.length), j < k → xs[j] = ys[j]) (fun i _ => xs.length - (intOf i).toNat)
    case atStart => exact ⟨0, 0, Nat.zero_le _, rfl, rfl, fun j _ _ hj => absurd hj (Nat.not_lt_zero _)⟩
    case round =>
      obtain ⟨k, n, hk, rfl, rfl, he⟩ := hrel
      have HE : Hid (∀ j (h1 : j < xs.length) (h2 : j < ys.length), j < k → xs[j] = ys[j]) := he
      clear he
      by_cases hlt : k < xs.length
      · have hlt2 : k < ys.length := by omega
        obtain ⟨b, off, hi, hc⟩ := h.at hlt
        obtain ⟨b2, off2, hi2, hc2⟩ := g.at hlt2
        by_cases c1 : xs[k] = ys[k]
        · have c1' : (xs[k] != ys[k]) = false := by simpa using c1
          have HC : Hid (xs[k] = ys[k]) := c1
          clear c1 hn
          go_wp2_with fail
          go_quiet (fail)
          go_wp2_with fail
          go_roundw
          case rel => exact ⟨k + 1, n + nq, by omega, by go_num, rfl, fun j h1 h2 hj => by
            by_cases e : j = k
            · subst e; exact HC.out
            · exact HE.out j h1 h2 (by omega)⟩
          case measure => simp [intOf]; omega
        · have em := same_at hlt hlt2 c1
          have c1' : (xs[k] != ys[k]) = true := by simpa using c1
          clear c1 hn
          go_wp2_with fail
          go_quiet (fail)
          go_wp2_with fail
          go_ret
          exact ⟨by first | rfl | exact ret_bool em.symm, n + nq, World.drewN_drewN ..⟩
      · obtain rfl : k = xs.length := by omega
        have em := same_all hn (fun i h1 h2 => HE.out i h1 h2 h1)
        clear hn
        go_wp2_with fail
        go_ret
        first | exact ⟨rfl, _, rfl⟩ | exact ⟨ret_bool em.symm, _, rfl⟩
  · have em := same_len hn
    have hn' : ((xs.length : Int) != (ys.length : Int)) = true := by simp; omega
    clear hn
    go_enter Try.func71, Try.ntmps71
    go_wp2
    go_ret
    first | exact ⟨rfl, 0, rfl⟩ | exact ⟨ret_bool em.symm, 0, rfl⟩
end Go.Proofs.Ytekbdiniibmhgaa.Shp

namespace Go.Proofs.Ytekbdiniibmhgaa.Shp
open Go.Proofs.Ytekbdiniibmhgaa.Shape
open Go.RowKit

theorem below_drewN {w : World} (k : Nat) : Below w.heap.size w (w.drewN k) := ⟨rfl, rfl, rfl, Nat.le_refl _, fun _ _ => rfl⟩
/-- The first k numbers as a slice of the same array. -/
def cutAt (a : Option Addr) (cap : Nat) : Option Addr := if cap = 0 then a else a.map (·.add (0 * 1))
theorem _root_.Go.Proofs.Ytekbdiniibmhgaa.Shape.IntsAt.cut {w : World} {a : Option Addr} {cap : Nat} {xs : List Int} (h : IntsAt w a cap xs) (k : Nat) (hk : k ≤ xs.length) :
    IntsAt w (cutAt a cap) cap (xs.take k) ∧ (∀ w', (Instr.slice 30 (.slice a xs.length cap) none (some (.int .i64 (k : Int))) none).run Try.prog w' = .ok (.slice (cutAt a cap) k cap) w') := by
  obtain ⟨h1, h2, h3, b, off, ha, hc⟩ := h
  have hlen : (xs.take k).length = k := by rw [List.length_take, Nat.min_eq_left hk]
  refine ⟨⟨by omega, h2, fun x hx => h3 x (List.mem_of_mem_take hx), b, off, fun hne => ?_, fun i hi => ?_⟩, fun w' => ?_⟩
  · have e := ha (fun e => hne (by rw [e]; simp))
    subst e
    unfold cutAt
    split
    · rfl
    · simp [Addr.add]
  · have hi' : i < xs.length := by omega
    rw [List.getElem_take]; exact hc i hi'
  · rw [run_slice_h w' 30 a xs.length cap elemInts .i64 k (by omega) (by omega), sizeInts]
    show Result.ok (sliced _ _ _ _ _) w' = _
    unfold sliced cutAt
    rw [show (k : Int).toNat = k by omega, Nat.sub_zero, Nat.sub_zero]

def agB (xs ys : List Int) : Bool := rightB xs && rightB ys && sameB (xs.take (min xs.length ys.length)) (ys.take (min xs.length ys.length))
def agL (xs ys : List Int) : List Int := if agB xs ys = true then (if ys.length ≤ xs.length then xs else ys) else []
/-- A result that is a slice holding L, and a bool. -/
def SliceBool (L : List Int) (b : Bool) (w : World) (e : Ending) (w' : World) : Prop := ∃ a c, e = .returned (.tuple #[.slice a L.length c, .bool b]) ∧ IntsAt w' a c L ∧ Below w.heap.size w w'
theorem SliceBool.nil {w w' : World} {xs ys : List Int} (h : agB xs ys = false) (hb : Below w.heap.size w w') : SliceBool (agL xs ys) (agB xs ys) w (.returned (.tuple #[.slice none 0 0, .bool false])) w' := by
  have e : agL xs ys = [] := by rw [agL, h]; rfl
  rw [e, h]
  exact ⟨none, 0, rfl, ⟨Nat.zero_le _, by decide, fun x hx => absurd hx (by simp), 0, 0, fun hn => absurd rfl hn, fun i hi => absurd hi (by simp)⟩, hb⟩

theorem agL_left {xs ys : List Int} (h : agB xs ys = true) (hl : ys.length ≤ xs.length) : agL xs ys = xs := by rw [agL, if_pos h, if_pos hl]
theorem agL_right {xs ys : List Int} (h : agB xs ys = true) (hl : ¬ ys.length ≤ xs.length) : agL xs ys = ys := by rw [agL, if_pos h, if_neg hl]
theorem SliceBool.some {L : List Int} {b : Bool} {w w' : World} {a : Option Addr} {c : Nat} {M : List Int} (hL : L = M) (hb : b = true) (h : IntsAt w' a c M) (hw : Below w.heap.size w w') : SliceBool L b w (.returned (.tuple #[.slice a M.length c, .bool true])) w' := by
  subst hL; subst hb; exact ⟨a, c, rfl, h, hw⟩

theorem SliceBool.none {L : List Int} {b : Bool} {w w' : World} (hL : L = []) (hb : b = false) (hw : Below w.heap.size w w') : SliceBool L b w (.returned (.tuple #[.slice none 0 0, .bool false])) w' := by
  subst hL; subst hb
  exact ⟨Option.none, 0, rfl, ⟨Nat.zero_le _, by decide, fun x hx => absurd hx (by simp), 0, 0, fun hn => absurd rfl hn, fun i hi => absurd hi (by simp)⟩, hw⟩

set_option maxHeartbeats 1000000 in
theorem agreeR (a : Option Addr) (cap : Nat) (xs : List Int) (a2 : Option Addr) (cap2 : Nat) (ys : List Int) (w : World) (h : IntsAt w a cap xs) (g : IntsAt w a2 cap2 ys) :
    Calls Try.prog 36 #[.slice a xs.length cap, .slice a2 ys.length cap2] w (SliceBool (agL xs ys) (agB xs ys) w) := by
  have hl := h.len
  have hl2 := g.len
  by_cases hr : rightB xs = true
  · by_cases hr2 : rightB ys = true
    · by_cases hle : xs.length ≤ ys.length
      · by_cases heq : ys.length ≤ xs.length
        · have hm : min xs.length ys.length = xs.length := Nat.min_eq_left hle
          obtain ⟨i1, c1⟩ := h.cut xs.length (by omega)
          obtain ⟨i2, c2⟩ := g.cut xs.length (by omega)
          have S0 : ∀ n, _ := fun n => sameR (cutAt a cap) cap (xs.take xs.length) (cutAt a2 cap2) cap2 (ys.take xs.length) (w.drewN n) (i1.drewN n) (i2.drewN n)
          rw [List.length_take, List.length_take, Nat.min_eq_left (by omega), Nat.min_eq_left (by omega)] at S0
          by_cases hs : sameB (xs.take xs.length) (ys.take xs.length) = true
          · have ea : agB xs ys = true := by rw [agB, hm, hr, hr2, hs]; rfl
            have hS := S0
            rw [hs] at hS
            have ES : Hid (agB xs ys = true) := ea
            clear ea hm S0 i1 i2 hs
            go_enter Try.func36, Try.ntmps36
            go_wp2_with (first
              | (go_at_call 70; ((with_reducible refine (rightR a cap xs _ h).mono ?_); rintro e w' ⟨rfl, rfl⟩))
              | (go_at_call 70; ((with_reducible refine (rightR a2 cap2 ys _ g).mono ?_); rintro e w' ⟨rfl, rfl⟩)))
            go_quiet ((go_at_call 71; with_reducible exact Calls.quiet_of (hS _)))
            go_wp2_with fail
            go_ret2
            exact SliceBool.some (agL_left ES.out heq) ES.out (h.drewN _) (below_drewN _)
          · have hs' : sameB (xs.take xs.length) (ys.take xs.length) = false := by simpa using hs
            have ea : agB xs ys = false := by rw [agB, hm, hr, hr2, hs']; rfl
            have hS := S0
            rw [hs'] at hS
            have ES : Hid (agB xs ys = false) := ea
            clear ea hm hs hs' S0 i1 i2
            go_enter Try.func36, Try.ntmps36
            go_wp2_with (first
              | (go_at_call 70; ((with_reducible refine (rightR a cap xs _ h).mono ?_); rintro e w' ⟨rfl, rfl⟩))
              | (go_at_call 70; ((with_reducible refine (rightR a2 cap2 ys _ g).mono ?_); rintro e w' ⟨rfl, rfl⟩)))
            go_quiet ((go_at_call 71; with_reducible exact Calls.quiet_of (hS _)))
            go_wp2_with fail
            go_ret2
            exact SliceBool.nil ES.out (below_drewN _)
        · have hm : min xs.length ys.length = xs.length := Nat.min_eq_left hle
          obtain ⟨i1, c1⟩ := h.cut xs.length (by omega)
          obtain ⟨i2, c2⟩ := g.cut xs.length (by omega)
          have S0 : ∀ n, _ := fun n => sameR (cutAt a cap) cap (xs.take xs.length) (cutAt a2 cap2) cap2 (ys.take xs.length) (w.drewN n) (i1.drewN n) (i2.drewN n)
          rw [List.length_take, List.length_take, Nat.min_eq_left (by omega), Nat.min_eq_left (by omega)] at S0
          by_cases hs : sameB (xs.take xs.length) (ys.take xs.length) = true
          · have ea : agB xs ys = true := by rw [agB, hm, hr, hr2, hs]; rfl
            have hS := S0
            rw [hs] at hS
            have ES : Hid (agB xs ys = true) := ea
            clear ea hm S0 i1 i2 hs
            go_enter Try.func36, Try.ntmps36
            go_wp2_with (first
              | (go_at_call 70; ((with_reducible refine (rightR a cap xs _ h).mono ?_); rintro e w' ⟨rfl, rfl⟩))
              | (go_at_call 70; ((with_reducible refine (rightR a2 cap2 ys _ g).mono ?_); rintro e w' ⟨rfl, rfl⟩)))
            go_quiet ((go_at_call 71; with_reducible exact Calls.quiet_of (hS _)))
            go_wp2_with fail
            go_ret2
            exact SliceBool.some (agL_right ES.out heq) ES.out (g.drewN _) (below_drewN _)
          · have hs' : sameB (xs.take xs.length) (ys.take xs.length) = false := by simpa using hs
            have ea : agB xs ys = false := by rw [agB, hm, hr, hr2, hs']; rfl
            have hS := S0
            rw [hs'] at hS
            have ES : Hid (agB xs ys = false) := ea
            clear ea hm hs hs' S0 i1 i2
            go_enter Try.func36, Try.ntmps36
            go_wp2_with (first
              | (go_at_call 70; ((with_reducible refine (rightR a cap xs _ h).mono ?_); rintro e w' ⟨rfl, rfl⟩))
              | (go_at_call 70; ((with_reducible refine (rightR a2 cap2 ys _ g).mono ?_); rintro e w' ⟨rfl, rfl⟩)))
            go_quiet ((go_at_call 71; with_reducible exact Calls.quiet_of (hS _)))
            go_wp2_with fail
            go_ret2
            exact SliceBool.nil ES.out (below_drewN _)
      · have hm : min xs.length ys.length = ys.length := Nat.min_eq_right (by omega)
        obtain ⟨i1, c1⟩ := h.cut ys.length (by omega)
        obtain ⟨i2, c2⟩ := g.cut ys.length (by omega)
        have S0 : ∀ n, _ := fun n => sameR (cutAt a cap) cap (xs.take ys.length) (cutAt a2 cap2) cap2 (ys.take ys.length) (w.drewN n) (i1.drewN n) (i2.drewN n)
        rw [List.length_take, List.length_take, Nat.min_eq_left (by omega), Nat.min_eq_left (by omega)] at S0
        by_cases hs : sameB (xs.take ys.length) (ys.take ys.length) = true
        · have ea : agB xs ys = true := by rw [agB, hm, hr, hr2, hs]; rfl
          have hS := S0
          rw [hs] at hS
          have ES : Hid (agB xs ys = true) := ea
          clear ea hm S0 i1 i2 hs
          go_enter Try.func36, Try.ntmps36
          go_wp2_with (first
            | (go_at_call 70; ((with_reducible refine (rightR a cap xs _ h).mono ?_); rintro e w' ⟨rfl, rfl⟩))
            | (go_at_call 70; ((with_reducible refine (rightR a2 cap2 ys _ g).mono ?_); rintro e w' ⟨rfl, rfl⟩)))
          go_quiet ((go_at_call 71; with_reducible exact Calls.quiet_of (hS _)))
          go_wp2_with fail
          go_ret2
          exact SliceBool.some (agL_left ES.out (by omega)) ES.out (h.drewN _) (below_drewN _)
        · have hs' : sameB (xs.take ys.length) (ys.take ys.length) = false := by simpa using hs
          have ea : agB xs ys = false := by rw [agB, hm, hr, hr2, hs']; rfl
          have hS := S0
          rw [hs'] at hS
          have ES : Hid (agB xs ys = false) := ea
          clear ea hm hs hs' S0 i1 i2
          go_enter Try.func36, Try.ntmps36
          go_wp2_with (first
            | (go_at_call 70; ((with_reducible refine (rightR a cap xs _ h).mono ?_); rintro e w' ⟨rfl, rfl⟩))
            | (go_at_call 70; ((with_reducible refine (rightR a2 cap2 ys _ g).mono ?_); rintro e w' ⟨rfl, rfl⟩)))
          go_quiet ((go_at_call 71; with_reducible exact Calls.quiet_of (hS _)))
          go_wp2_with fail
          go_ret2
          exact SliceBool.nil ES.out (below_drewN _)
    · have hr2' : rightB ys = false := by simpa using hr2
      have ea : agB xs ys = false := by rw [agB, hr2']; simp
      have ES : Hid (agB xs ys = false) := ea
      clear ea hr2
      go_enter Try.func36, Try.ntmps36
      go_wp2_with (first
        | (go_at_call 70; ((with_reducible refine (rightR a cap xs _ h).mono ?_); rintro e w' ⟨rfl, rfl⟩))
        | (go_at_call 70; ((with_reducible refine (rightR a2 cap2 ys _ g).mono ?_); rintro e w' ⟨rfl, rfl⟩)))
      go_ret2
      exact SliceBool.nil ES.out (Below.refl _ _)
  · have hr' : rightB xs = false := by simpa using hr
    have ea : agB xs ys = false := by rw [agB, hr']; simp
    have ES : Hid (agB xs ys = false) := ea
    clear ea hr
    go_enter Try.func36, Try.ntmps36
    go_wp2_with (first
      | (go_at_call 70; ((with_reducible refine (rightR a cap xs _ h).mono ?_); rintro e w' ⟨rfl, rfl⟩))
      | (go_at_call 70; ((with_reducible refine (rightR a2 cap2 ys _ g).mono ?_); rintro e w' ⟨rfl, rfl⟩)))
    go_ret2
    exact SliceBool.nil ES.out (Below.refl _ _)
end Go.Proofs.Ytekbdiniibmhgaa.Shp

namespace Go.Proofs.Ytekbdiniibmhgaa.Shp
open Go.Proofs.Ytekbdiniibmhgaa.Shape
open Go.RowKit

theorem pair_mk {p : Int × Int} {x y : Int} (h : p = (x, y)) : Ending.returned (.tuple #[.int .i64 x, .int .i64 y]) = .returned (.tuple #[.int .i64 p.1, .int .i64 p.2]) := by rw [h]
def rowS (xs : List Int) (f : Int) : Int × Int := if rightB xs = true ∧ 0 ≤ f ∧ f ≤ xs.length then (pr (xs.take f.toNat), pr (xs.drop f.toNat)) else (0, 0)
theorem rowS_no {xs : List Int} {f : Int} (h : ¬ (rightB xs = true ∧ 0 ≤ f ∧ f ≤ xs.length)) : rowS xs f = (0, 0) := by rw [rowS, if_neg h]
theorem rowS_yes {xs : List Int} {k : Nat} (h : rightB xs = true) (hk : k ≤ xs.length) : rowS xs k = (pr (xs.take k), pr (xs.drop k)) := by
  rw [rowS, if_pos ⟨h, by omega, by omega⟩]; rfl

/-! ### Offset -/
def ofsGo : Int → List Int → List Int → Option Int
  | n, [], [] => some n
  | n, x :: r, i :: s => if 0 ≤ i ∧ i < x then ofsGo (n * x + i) r s else none
  | _, _, _ => none
def ofsAns : Option Int → Int × Bool
  | some n => (n, true)
  | none => (0, false)
def offS (xs is : List Int) : Int × Bool := if rightB xs = true then ofsAns (ofsGo 0 xs is) else (0, false)
theorem ofsGo_len : ∀ (xs is : List Int) (n : Int), ¬ xs.length = is.length → ofsGo n xs is = none
  | [], [], _, h => absurd rfl h
  | [], _ :: _, _, _ => rfl
  | _ :: _, [], _, _ => rfl
  | x :: r, i :: s, n, h => by
    rw [ofsGo]
    split
    · exact ofsGo_len r s _ (fun e => h (by simp [e]))
    · rfl
theorem offS_wrong {xs is : List Int} (h : rightB xs = false) : offS xs is = (0, false) := by simp [offS, h]
theorem offS_len {xs is : List Int} (h : ¬ xs.length = is.length) : offS xs is = (0, false) := by
  rw [offS, ofsGo_len xs is 0 h]; split <;> rfl
theorem ofsGo_out {xs is : List Int} {k : Nat} {n : Int} (h1 : k < xs.length) (h2 : k < is.length) (h : is[k] < 0 ∨ xs[k] ≤ is[k]) : ofsGo n (xs.drop k) (is.drop k) = none := by
  rw [List.drop_eq_getElem_cons h1, List.drop_eq_getElem_cons h2, ofsGo, if_neg (by omega)]
theorem ofsGo_in {xs is : List Int} {k : Nat} {n : Int} (h1 : k < xs.length) (h2 : k < is.length) (h3 : 0 ≤ is[k]) (h4 : is[k] < xs[k]) : ofsGo n (xs.drop k) (is.drop k) = ofsGo (n * xs[k] + is[k]) (xs.drop (k + 1)) (is.drop (k + 1)) := by
  rw [List.drop_eq_getElem_cons h1, List.drop_eq_getElem_cons h2, ofsGo, if_pos ⟨h3, h4⟩]
theorem ofsGo_end {xs is : List Int} {k : Nat} {n : Int} (h1 : ¬ k < xs.length) (h2 : xs.length = is.length) : ofsGo n (xs.drop k) (is.drop k) = some n := by
  rw [List.drop_eq_nil_of_le (by omega), List.drop_eq_nil_of_le (by omega)]; rfl
theorem ofs_bd {xs : List Int} {k : Nat} {n i : Int} (hr : rightB xs = true) (hk : k < xs.length) (h0 : 0 ≤ n) (h1 : n < pr (xs.take k)) (h3 : 0 ≤ i) (h4 : i < xs[k]) :
    0 ≤ n * xs[k] ∧ n * xs[k] ≤ 65536 ∧ 0 ≤ n * xs[k] + i ∧ n * xs[k] + i < pr (xs.take (k + 1)) ∧ pr (xs.take (k + 1)) ≤ 65536 := by
  have e : pr (xs.take (k + 1)) = pr (xs.take k) * xs[k] := by rw [take_snoc xs k hk, pr_append, pr, pr, Int.mul_one]
  have hb := part_bd (a := xs.take (k + 1)) (b := xs.drop (k + 1)) (by rw [List.take_append_drop]; exact hr)
  have m1 : (n + 1) * xs[k] ≤ pr (xs.take k) * xs[k] := Int.mul_le_mul_of_nonneg_right (by omega) (by omega)
  have m2 : 0 ≤ n * xs[k] := Int.mul_nonneg h0 (by omega)
  rw [Int.add_mul, Int.one_mul] at m1
  rw [e] at hb ⊢
  omega

def retIB (n : Int) (b : Bool) : Ending := .returned (.tuple #[.int .i64 n, .bool b])
theorem ret_ib {p : Int × Bool} {n : Int} {b : Bool} (h : p = (n, b)) : Ending.returned (.tuple #[.int .i64 n, .bool b]) = .returned (.tuple #[.int .i64 p.1, .bool p.2]) := by rw [h]

end Go.Proofs.Ytekbdiniibmhgaa.Shp

namespace Go.Proofs.Ytekbdiniibmhgaa.Shp
open Go.Proofs.Ytekbdiniibmhgaa.Shape
open Go.RowKit

/-- Is there a dimension 0? -/
def hasZ (xs : List Int) : Bool := xs.any (fun x => decide (x = 0))
theorem hasZ_snoc (a : List Int) (x : Int) : hasZ (a ++ [x]) = (hasZ a || decide (x = 0)) := by simp [hasZ]
theorem pr_hasZ {xs : List Int} (h : hasZ xs = true) : pr xs = 0 := by
  induction xs with
  | nil => cases h
  | cons x r ih =>
    rw [pr]
    by_cases h0 : x = 0
    · rw [h0, Int.zero_mul]
    · rw [ih (by simpa [hasZ, h0] using h), Int.mul_zero]
theorem pr_noZ {xs : List Int} (h : hasZ xs = false) : pr xs = nz xs := by
  apply pr_eq_nz
  intro x hx e
  rw [hasZ, List.any_eq_false] at h
  exact absurd (by simpa using e) (h x hx)
theorem quo_gt {P d : Int} (h1 : 1 ≤ P) (_h2 : P ≤ 65536) : (65536 / P < d) ↔ 65536 < P * d := by
  rw [Int.ediv_lt_iff_lt_mul (by omega), Int.mul_comm d P]
  
set_option maxHeartbeats 1000000 in
theorem sizeP (a : Option Addr) (cap : Nat) (xs : List Int) (w : World) (h : IntsAt w a cap xs) :
    Calls Try.prog 69 #[.slice a xs.length cap] w fun e w' => e = .returned (.int .i64 (sizeS xs)) ∧ w = w' := by
  have hl := h.len
  by_cases h8 : 8 < xs.length
  · have em : sizeS xs = -1 := by rw [sizeS, right_len h8]; rfl
    go_enter Try.func69, Try.ntmps69
    go_wp2
    go_ret
    first | exact ⟨rfl, rfl⟩ | exact ⟨ret_int em.symm, rfl⟩
  · go_enter Try.func69, Try.ntmps69
    go_wp2
    go_loop [3, 4, 12] (fun p z i => ∃ (k : Nat) (P : Int) (Z : Bool), k ≤ xs.length ∧ i = .int .i64 k ∧ p = .int .i64 P ∧ z = .bool Z ∧ P = nz (xs.take k) ∧ Z = hasZ (xs.take k) ∧ NN (xs.take k) ∧ P ≤ 65536) (fun _ _ i => xs.length - (intOf i).toNat)
    case atStart => exact ⟨0, 1, false, Nat.zero_le _, rfl, rfl, rfl, rfl, rfl, NN.nil, by decide⟩
    case round =>
      obtain ⟨k, P, Z, hk, rfl, rfl, rfl, eP, eZ, hn, hp⟩ := hrel
      have hp1 : 1 ≤ P := eP ▸ nz_pos hn
      by_cases hlt : k < xs.length
      · obtain ⟨b, off, hi, hc⟩ := h.at hlt
        have hs := nz_step hlt
        have ht := take_snoc xs k hlt
        by_cases c1 : xs[k] < 0
        · have em : sizeS xs = -1 := by rw [sizeS, right_neg hlt c1]; rfl
          clear hs ht eP eZ
          go_wp2
          go_ret
          first | exact ⟨rfl, rfl⟩ | exact ⟨ret_int em.symm, rfl⟩
        · have hn2 : NN (xs.take (k + 1)) := by rw [ht]; exact hn.snoc (by omega)
          have hz2 : hasZ (xs.take (k + 1)) = (hasZ (xs.take k) || decide (xs[k] = 0)) := by rw [ht, hasZ_snoc]
          by_cases c2 : xs[k] = 0
          · rw [if_pos c2, Int.mul_one] at hs
            have E1 : Hid (P = nz (xs.take (k + 1))) := by unfold Hid; rw [hs]; exact eP
            have E2 : Hid (true = hasZ (xs.take (k + 1))) := by unfold Hid; rw [hz2]; simp [c2]
            clear hs ht hz2 eP eZ
            go_wp2
            go_round
            case rel => exact ⟨k + 1, P, true, by omega, by go_num, rfl, rfl, E1.out, E2.out, hn2, hp⟩
            case measure => simp [intOf]; omega
          · rw [if_neg c2, ← eP] at hs
            have q1 := quo_gt (d := xs[k]) hp1 hp
            have q2 : Int.tdiv 65536 P = 65536 / P := Int.tdiv_eq_ediv_of_nonneg (by decide)
            have q3 : (65536 : Int) / P ≤ 65536 := Int.ediv_le_self P (by decide)
            have q4 : (0 : Int) ≤ 65536 / P := Int.ediv_nonneg (by decide) (by omega)
            have E2 : Hid (Z = hasZ (xs.take (k + 1))) := by unfold Hid; rw [hz2, eZ]; simp [c2]
            by_cases c4 : 65536 < P * xs[k]
            · have em : sizeS xs = -1 := by rw [sizeS, right_big (xs := xs) (k := k) (by rw [hs]; exact c4)]; rfl
              have c5 : 65536 / P < xs[k] := q1.2 c4
              clear hs ht hz2 eP eZ E2 q1
              go_wp2
              go_ret
              first | exact ⟨rfl, rfl⟩ | exact ⟨ret_int em.symm, rfl⟩
            · have c5 : ¬ 65536 / P < xs[k] := fun hh => c4 (q1.1 hh)
              have m0 : 0 ≤ P * xs[k] := Int.mul_nonneg (by omega) (by omega)
              have E1 : Hid (P * xs[k] = nz (xs.take (k + 1))) := hs.symm
              clear hs ht hz2 eP eZ q1
              go_wp2
              go_round
              case rel => exact ⟨k + 1, P * xs[k], Z, by omega, by go_num, by go_num, rfl, E1.out, E2.out, hn2, by omega⟩
              case measure => simp [intOf]; omega
      · obtain rfl : k = xs.length := by omega
        rw [List.take_length] at hn eP eZ
        have hr := right_all (by omega) hn (eP ▸ hp)
        have em : sizeS xs = if Z = true then 0 else P := by
          rw [sizeS, if_pos hr]
          cases Z with
          | true => exact pr_hasZ eZ.symm
          | false => rw [pr_noZ eZ.symm, ← eP]; rfl
        clear hr eP eZ
        cases Z with
        | true =>
          have em2 : sizeS xs = 0 := em
          clear em
          go_wp2
          go_ret
          first | exact ⟨rfl, rfl⟩ | exact ⟨ret_int em2.symm, rfl⟩
        | false =>
          have em2 : sizeS xs = P := em
          clear em
          go_wp2
          go_ret
          first | exact ⟨rfl, rfl⟩ | exact ⟨ret_int em2.symm, rfl⟩
end Go.Proofs.Ytekbdiniibmhgaa.Shp

namespace Go.Proofs.Ytekbdiniibmhgaa.Shp
open Go.Proofs.Ytekbdiniibmhgaa.Shape
open Go.RowKit

theorem rightP (a : Option Addr) (cap : Nat) (xs : List Int) (w : World) (h : IntsAt w a cap xs) :
    Calls Try.prog 65 #[.slice a xs.length cap] w fun e w' => e = .returned (.bool (rightB xs)) ∧ w = w' := by
  have hl := h.len
  by_cases hr : rightB xs = true
  · have e1 : sizeS xs = pr xs := by rw [sizeS, if_pos hr]
    have e2 := part_bd (a := xs) (b := []) (by rw [List.append_nil]; exact hr)
    have e3 : 0 ≤ pr xs := e2.1
    clear e2
    have HS := sizeP a cap xs w h
    rw [e1] at HS
    clear e1
    go_enter Try.func65, Try.ntmps65
    go_wp2_with (go_at_call 69; refine HS.mono ?_; rintro e w' ⟨rfl, rfl⟩)
    go_ret
    first | exact ⟨rfl, rfl⟩ | exact ⟨ret_bool hr.symm, rfl⟩
  · have hr' : rightB xs = false := by simpa using hr
    have e1 : sizeS xs = -1 := by rw [sizeS, if_neg hr]
    have HS := sizeP a cap xs w h
    rw [e1] at HS
    clear e1 hr
    go_enter Try.func65, Try.ntmps65
    go_wp2_with (go_at_call 69; refine HS.mono ?_; rintro e w' ⟨rfl, rfl⟩)
    go_ret
    first | exact ⟨rfl, rfl⟩ | exact ⟨ret_bool hr'.symm, rfl⟩

/-- From the number k on, as a slice of the same array. -/
def fromAt (a : Option Addr) (cap k : Nat) : Option Addr := if cap = k then a else a.map (·.add (k * 1))
theorem _root_.Go.Proofs.Ytekbdiniibmhgaa.Shape.IntsAt.from {w : World} {a : Option Addr} {cap : Nat} {xs : List Int} (h : IntsAt w a cap xs) (k : Nat) (hk : k ≤ xs.length) :
    IntsAt w (fromAt a cap k) (cap - k) (xs.drop k) ∧ (∀ w', (Instr.slice 30 (.slice a xs.length cap) (some (.int .i64 (k : Int))) none none).run Try.prog w' = .ok (.slice (fromAt a cap k) (xs.drop k).length (cap - k)) w') := by
  obtain ⟨h1, h2, h3, b, off, ha, hc⟩ := h
  have hlen : (xs.drop k).length = xs.length - k := by rw [List.length_drop]
  refine ⟨⟨by omega, by omega, fun x hx => h3 x (List.mem_of_mem_drop hx), b, off + k, fun hne => ?_, fun i hi => ?_⟩, fun w' => ?_⟩
  · have e := ha (fun e => hne (by rw [e]; simp))
    subst e
    have : xs.length ≠ k := fun e => hne (List.drop_eq_nil_of_le (by omega))
    unfold fromAt
    rw [if_neg (by omega)]
    simp [Addr.add]
  · have hi' : k + i < xs.length := by omega
    rw [List.getElem_drop, Nat.add_assoc]; exact hc (k + i) hi'
  · rw [run_slice_l w' 30 a xs.length cap elemInts .i64 k (by omega) (by omega), sizeInts, hlen]
    show Result.ok (sliced _ _ _ _ _) w' = _
    unfold sliced fromAt
    rw [show (k : Int).toNat = k by omega]
theorem right_take {xs : List Int} {k : Nat} (h : rightB xs = true) : rightB (xs.take k) = true := by
  obtain ⟨h1, h2, h3⟩ := right_def.1 h
  have e : xs.take k ++ xs.drop k = xs := List.take_append_drop _ _
  rw [← e] at h2 h3
  have := nz_left h2
  exact right_def.2 ⟨by rw [List.length_take]; omega, h2.left, by omega⟩
theorem right_drop {xs : List Int} {k : Nat} (h : rightB xs = true) : rightB (xs.drop k) = true := by
  obtain ⟨h1, h2, h3⟩ := right_def.1 h
  have e : xs.take k ++ xs.drop k = xs := List.take_append_drop _ _
  rw [← e] at h2 h3
  have := nz_right h2
  exact right_def.2 ⟨by rw [List.length_drop]; omega, h2.right, by omega⟩

set_option maxHeartbeats 1000000 in
theorem rowP (a : Option Addr) (cap : Nat) (xs : List Int) (f : Int) (w : World) (h : IntsAt w a cap xs) :
    Calls Try.prog 68 #[.slice a xs.length cap, .int .i64 f] w fun e w' => e = .returned (.tuple #[.int .i64 (rowS xs f).1, .int .i64 (rowS xs f).2]) ∧ ∃ n, w' = w.drewN n := by
  have hl := h.len
  by_cases hr : rightB xs = true
  · by_cases h0 : f < 0
    · have em := rowS_no (xs := xs) (f := f) (by omega)
      go_enter Try.func68, Try.ntmps68
      go_wp2_with (go_at_call 65; refine (rightP _ _ _ _ h).mono ?_; rintro e w' ⟨rfl, rfl⟩)
      go_ret2
      exact ⟨by first | rfl | exact pair_mk em, 0, rfl⟩
    · by_cases h1 : (xs.length : Int) < f
      · have em := rowS_no (xs := xs) (f := f) (by omega)
        go_enter Try.func68, Try.ntmps68
        go_wp2_with (go_at_call 65; refine (rightP _ _ _ _ h).mono ?_; rintro e w' ⟨rfl, rfl⟩)
        go_ret2
        exact ⟨by first | rfl | exact pair_mk em, 0, rfl⟩
      · obtain ⟨k, rfl⟩ : ∃ k : Nat, f = k := ⟨f.toNat, by omega⟩
        have hk : k ≤ xs.length := by omega
        have em := rowS_yes hr hk
        obtain ⟨i1, s1⟩ := h.cut k hk
        obtain ⟨i2, s2⟩ := h.from k hk
        have e0 : (xs.take k).length = k := by rw [List.length_take, Nat.min_eq_left hk]
        have c1 : ∀ n, _ := fun n => (sizeP _ _ _ (w.drewN n) (i1.drewN n)).mono (fun e w' ⟨h1, h2⟩ => (⟨h1, 0, h2.symm⟩ : e = _ ∧ ∃ m, w' = (w.drewN n).drewN m))
        have c2 : ∀ n, _ := fun n => (sizeP _ _ _ (w.drewN n) (i2.drewN n)).mono (fun e w' ⟨h1, h2⟩ => (⟨h1, 0, h2.symm⟩ : e = _ ∧ ∃ m, w' = (w.drewN n).drewN m))
        rw [e0, show sizeS (xs.take k) = pr (xs.take k) by rw [sizeS, if_pos (right_take hr)]] at c1
        rw [show sizeS (xs.drop k) = pr (xs.drop k) by rw [sizeS, if_pos (right_drop hr)]] at c2
        generalize (xs.drop k).length = n2 at c2 s2
        generalize pr (xs.take k) = P1 at c1 em
        generalize pr (xs.drop k) = P2 at c2 em
        clear i1 i2 e0
        go_enter Try.func68, Try.ntmps68
        go_wp2_with (go_at_call 65; refine (rightP _ _ _ _ h).mono ?_; rintro e w' ⟨rfl, rfl⟩)
        go_quiet (first
          | (go_at_call 69; with_reducible exact Calls.quiet_of (c1 _))
          | (go_at_call 69; with_reducible exact Calls.quiet_of (c2 _)))
        go_wp2_with fail
        go_ret2
        exact ⟨by first | rfl | exact pair_mk em, nq, rfl⟩
  · have hr' : rightB xs = false := by simpa using hr
    have em := rowS_no (xs := xs) (f := f) (by simp [hr'])
    clear hr
    go_enter Try.func68, Try.ntmps68
    go_wp2_with (go_at_call 65; refine (rightP _ _ _ _ h).mono ?_; rintro e w' ⟨rfl, rfl⟩)
    go_ret2
    exact ⟨by first | rfl | exact pair_mk em, 0, rfl⟩
end Go.Proofs.Ytekbdiniibmhgaa.Shp
