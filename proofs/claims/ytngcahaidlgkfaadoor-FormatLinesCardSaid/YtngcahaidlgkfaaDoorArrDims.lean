/-
  Layer 3: the reference's product, Dims, Count, Shapes, Rune and Number.
-/
import Derived.Test.YtngcahaidlgkfaaDoorArrSize
import Derived.Test.YtngcahaidlgkfaaDoorShapeMath
namespace Go.Proofs.YtngcahaidlgkfaaDoor.Shape
open Go.RowKit

theorem ret_bool {a b : Bool} (h : a = b) : Ending.returned (.bool a) = .returned (.bool b) := by rw [h]
def prodS (xs : List Int) : Int := if nz xs ≤ 65536 then nz xs else 65537
theorem prodS_small {xs : List Int} (h : nz xs ≤ 65536) : prodS xs = nz xs := by rw [prodS, if_pos h]
theorem prodS_big {xs : List Int} (h : 65536 < nz xs) : prodS xs = 65537 := by rw [prodS, if_neg (by omega)]
theorem nz_huge {xs : List Int} {k : Nat} (hn : NN xs) (hk : k < xs.length) (h : 65536 < xs[k]) : 65536 < nz xs := by
  have e := split_at xs k hk
  rw [e] at hn
  have h4 := nz_right hn
  have h5 := nz_pos hn.right.tail
  rw [nz, if_neg (by omega)] at h4
  have : xs[k] * 1 ≤ xs[k] * nz (xs.drop (k + 1)) := Int.mul_le_mul_of_nonneg_left h5 (by omega)
  rw [← e] at h4
  omega
theorem nz_over {xs : List Int} {k : Nat} (hn : NN xs) (h : 65536 < nz (xs.take (k + 1))) : 65536 < nz xs := by
  have e : xs.take (k + 1) ++ xs.drop (k + 1) = xs := List.take_append_drop _ _
  have := nz_left (a := xs.take (k + 1)) (b := xs.drop (k + 1)) (by rw [e]; exact hn)
  rw [e] at this
  omega
theorem NN.take {xs : List Int} (h : NN xs) (k : Nat) : NN (xs.take k) := fun x hx => h x (List.mem_of_mem_take hx)

set_option maxHeartbeats 1000000 in
theorem prodR (a : Option Addr) (cap : Nat) (xs : List Int) (w : World) (h : IntsAt w a cap xs) (hn : NN xs) :
    Calls Tryd.prog 67 #[.slice a xs.length cap] w fun e w' => e = .returned (.int .i64 (prodS xs)) ∧ w = w' := by
  have hl := h.len
  go_enter Tryd.func67, Tryd.ntmps67
  go_wp2
  go_loop [3, 4] (fun p i => ∃ k : Nat, k ≤ xs.length ∧ i = .int .i64 k ∧ p = .int .i64 (nz (xs.take k)) ∧ nz (xs.take k) ≤ 65536) (fun _ i => xs.length - (intOf i).toNat)
  case atStart => exact ⟨0, Nat.zero_le _, rfl, rfl, by show (1 : Int) ≤ 65536; decide⟩
  case round =>
    obtain ⟨k, hk, rfl, rfl, hp⟩ := hrel
    have hp1 := nz_pos (hn.take k)
    by_cases hlt : k < xs.length
    · obtain ⟨b, off, hi, hc⟩ := h.at hlt
      have hx : 0 ≤ xs[k] := hn _ (List.getElem_mem hlt)
      by_cases c2 : 65536 < xs[k]
      · have HE : Hid (prodS xs = 65537) := prodS_big (nz_huge hn hlt c2)
        go_wp2
        go_ret
        exact ⟨ret_int HE.out.symm, rfl⟩
      · by_cases c3 : xs[k] = 0
        · have hs := nz_step hlt
          rw [if_pos c3, Int.mul_one] at hs
          have c3' : ¬ 0 < xs[k] := by omega
          have hp2 : nz (xs.take (k + 1)) ≤ 65536 := by omega
          have HS : Hid (nz (xs.take (k + 1)) = nz (xs.take k)) := hs
          clear hs c3
          go_wp2
          go_round
          case rel => exact ⟨k + 1, by omega, by go_num, by rw [HS.out], hp2⟩
          case measure => simp [intOf]; omega
        · have hs := nz_step hlt
          rw [if_neg c3] at hs
          have c3' : 0 < xs[k] := by omega
          have hm : 0 ≤ nz (xs.take k) * xs[k] ∧ nz (xs.take k) * xs[k] ≤ 65536 * 65536 :=
            ⟨Int.mul_nonneg (by omega) (by omega), Int.mul_le_mul hp (by omega) (by omega) (by decide)⟩
          obtain ⟨m1, m2⟩ := hm
          have HS : Hid (nz (xs.take (k + 1)) = nz (xs.take k) * xs[k]) := hs
          by_cases c4 : 65536 < nz (xs.take k) * xs[k]
          · have HE : Hid (prodS xs = 65537) := prodS_big (nz_over (k := k) hn (by rw [hs]; exact c4))
            clear hs c3
            go_wp2
            go_ret
            exact ⟨ret_int HE.out.symm, rfl⟩
          · have hp2 : nz (xs.take (k + 1)) ≤ 65536 := by rw [hs]; omega
            clear hs c3
            go_wp2
            go_round
            case rel => exact ⟨k + 1, by omega, by go_num, by rw [HS.out], hp2⟩
            case measure => simp [intOf]; omega
    · obtain rfl : k = xs.length := by omega
      rw [List.take_length] at hp
      have HE : Hid (prodS xs = nz xs) := prodS_small hp
      go_wp2
      go_ret
      exact ⟨ret_int HE.out.symm, rfl⟩

/-- The first error of a shape. -/
def dimsE (xs : List Int) : Int := if 8 < xs.length then 15 else if NN xs then (if nz xs ≤ 65536 then 0 else 21) else 16
theorem dimsE_long {xs : List Int} (h : 8 < xs.length) : dimsE xs = 15 := by rw [dimsE, if_pos h]
theorem dimsE_neg {xs : List Int} (h : ¬ 8 < xs.length) (hn : ¬ NN xs) : dimsE xs = 16 := by rw [dimsE, if_neg h, if_neg hn]
theorem dimsE_big {xs : List Int} (h : ¬ 8 < xs.length) (hn : NN xs) (h2 : ¬ nz xs ≤ 65536) : dimsE xs = 21 := by rw [dimsE, if_neg h, if_pos hn, if_neg h2]
theorem dimsE_ok {xs : List Int} (h : ¬ 8 < xs.length) (hn : NN xs) (h2 : nz xs ≤ 65536) : dimsE xs = 0 := by rw [dimsE, if_neg h, if_pos hn, if_pos h2]
theorem dimsE_right (xs : List Int) : dimsE xs = 0 ↔ rightB xs = true := by
  rw [right_def, dimsE]
  by_cases h : 8 < xs.length
  · rw [if_pos h]; constructor <;> intro g <;> omega
  · rw [if_neg h]
    by_cases hn : NN xs
    · rw [if_pos hn]
      by_cases h2 : nz xs ≤ 65536
      · rw [if_pos h2]; exact ⟨fun _ => ⟨by omega, hn, h2⟩, fun _ => rfl⟩
      · rw [if_neg h2]; exact ⟨fun g => by omega, fun g => absurd g.2.2 h2⟩
    · rw [if_neg hn]; exact ⟨fun g => by omega, fun g => absurd g.2.1 hn⟩

set_option maxHeartbeats 1000000 in
theorem dimsR (a : Option Addr) (cap : Nat) (xs : List Int) (w : World) (h : IntsAt w a cap xs) :
    Calls Tryd.prog 49 #[.slice a xs.length cap] w fun e w' => e = .returned (.int .i64 (dimsE xs)) ∧ w = w' := by
  have hl := h.len
  by_cases h8 : 8 < xs.length
  · have HE : Hid (dimsE xs = 15) := dimsE_long h8
    go_enter Tryd.func49, Tryd.ntmps49
    go_wp2
    go_ret
    exact ⟨ret_int HE.out.symm, rfl⟩
  · go_enter Tryd.func49, Tryd.ntmps49
    go_wp2
    go_loop [3] (fun i => ∃ k : Nat, k ≤ xs.length ∧ i = .int .i64 k ∧ NN (xs.take k)) (fun i => xs.length - (intOf i).toNat)
    case atStart => exact ⟨0, Nat.zero_le _, rfl, NN.nil⟩
    case round =>
      obtain ⟨k, hk, rfl, hn⟩ := hrel
      by_cases hlt : k < xs.length
      · obtain ⟨b, off, hi, hc⟩ := h.at hlt
        by_cases c1 : xs[k] < 0
        · have HE : Hid (dimsE xs = 16) := dimsE_neg h8 (fun g => by have := g _ (List.getElem_mem hlt); omega)
          go_wp2
          go_ret
          exact ⟨ret_int HE.out.symm, rfl⟩
        · have hn2 : NN (xs.take (k + 1)) := by rw [take_snoc xs k hlt]; exact hn.snoc (by omega)
          go_wp2
          go_round
          case rel => exact ⟨k + 1, by omega, by go_num, hn2⟩
          case measure => simp [intOf]; omega
      · obtain rfl : k = xs.length := by omega
        rw [List.take_length] at hn
        by_cases c2 : nz xs ≤ 65536
        · have HE : Hid (dimsE xs = 0) := dimsE_ok h8 hn c2
          have hp := prodS_small c2
          go_wp2_with (go_at_call 67; refine (prodR _ _ _ _ h hn).mono ?_; rintro e w' ⟨rfl, rfl⟩)
          go_ret
          exact ⟨ret_int HE.out.symm, rfl⟩
        · have HE : Hid (dimsE xs = 21) := dimsE_big h8 hn c2
          have hp := prodS_big (xs := xs) (by omega)
          go_wp2_with (go_at_call 67; refine (prodR _ _ _ _ h hn).mono ?_; rintro e w' ⟨rfl, rfl⟩)
          go_ret
          exact ⟨ret_int HE.out.symm, rfl⟩

theorem pr_zero {xs : List Int} {k : Nat} (hk : k < xs.length) (h : xs[k] = 0) : pr xs = 0 := by
  rw [split_at xs k hk, pr_append, pr, h]; simp
set_option maxHeartbeats 1000000 in
theorem countR (a : Option Addr) (cap : Nat) (xs : List Int) (w : World) (h : IntsAt w a cap xs) (hr : rightB xs = true) :
    Calls Tryd.prog 50 #[.slice a xs.length cap] w fun e w' => e = .returned (.int .i64 (pr xs)) ∧ w = w' := by
  have hl := h.len
  obtain ⟨r1, r2, r3⟩ := right_def.1 hr
  go_enter Tryd.func50, Tryd.ntmps50
  go_wp2
  go_loop [3] (fun i => ∃ k : Nat, k ≤ xs.length ∧ i = .int .i64 k ∧ ∀ x ∈ xs.take k, x ≠ 0) (fun i => xs.length - (intOf i).toNat)
  case atStart => exact ⟨0, Nat.zero_le _, rfl, fun x hx => absurd hx (by simp)⟩
  case round =>
    obtain ⟨k, hk, rfl, hz⟩ := hrel
    by_cases hlt : k < xs.length
    · obtain ⟨b, off, hi, hc⟩ := h.at hlt
      by_cases c1 : xs[k] = 0
      · have HE : Hid (pr xs = 0) := pr_zero hlt c1
        have c1' : (xs[k] == 0) = true := by simpa using c1
        clear c1
        go_wp2
        go_ret
        exact ⟨ret_int HE.out.symm, rfl⟩
      · have HZ : Hid (∀ x ∈ xs.take (k + 1), x ≠ 0) := by
          unfold Hid; rw [take_snoc xs k hlt]; intro x hx
          rcases List.mem_append.1 hx with g | g
          · exact hz x g
          · rw [List.mem_singleton.1 g]; exact c1
        have c1' : (xs[k] == 0) = false := by simpa using c1
        clear c1 hz
        go_wp2
        go_round
        case rel => exact ⟨k + 1, by omega, by go_num, HZ.out⟩
        case measure => simp [intOf]; omega
    · obtain rfl : k = xs.length := by omega
      rw [List.take_length] at hz
      have HE : Hid (pr xs = prodS xs) := by unfold Hid; rw [prodS_small r3]; exact pr_eq_nz hz
      clear hz
      go_wp2_with (go_at_call 67; refine (prodR _ _ _ _ h r2).mono ?_; rintro e w' ⟨rfl, rfl⟩)
      go_ret
      exact ⟨ret_int HE.out.symm, rfl⟩

def numB (n : Int) : Bool := decide (-4611686018427387903 ≤ n ∧ n ≤ 4611686018427387903)
def runeB (n : Int) : Bool := decide (0 ≤ n ∧ n ≤ 1114111 ∧ (n < 55296 ∨ 57343 < n))
theorem numberR (n : Int) (w : World) : Calls Tryd.prog 51 #[.int .i64 n] w fun e w' => e = .returned (.bool (numB n)) ∧ w = w' := by
  rcases Int.lt_or_le n (-4611686018427387903) with h | h
  · go_enter Tryd.func51, Tryd.ntmps51
    go_wp2
    go_ret
    exact ⟨ret_bool (by simp [numB]; omega), rfl⟩
  · rcases Int.lt_or_le 4611686018427387903 n with h2 | h2
    · go_enter Tryd.func51, Tryd.ntmps51
      go_wp2
      go_ret
      exact ⟨ret_bool (by simp [numB]; omega), rfl⟩
    · go_enter Tryd.func51, Tryd.ntmps51
      go_wp2
      go_ret
      exact ⟨ret_bool (by simp [numB]; omega), rfl⟩
theorem runeR (n : Int) (w : World) : Calls Tryd.prog 52 #[.int .i64 n] w fun e w' => e = .returned (.bool (runeB n)) ∧ w = w' := by
  by_cases h0 : 0 ≤ n
  · by_cases h1 : n ≤ 1114111
    · by_cases h2 : n < 55296
      · go_enter Tryd.func52, Tryd.ntmps52
        go_wp2
        go_ret
        exact ⟨ret_bool (by simp [runeB]; omega), rfl⟩
      · by_cases h3 : 57343 < n
        · go_enter Tryd.func52, Tryd.ntmps52
          go_wp2
          go_ret
          exact ⟨ret_bool (by simp [runeB]; omega), rfl⟩
        · go_enter Tryd.func52, Tryd.ntmps52
          go_wp2
          go_ret
          exact ⟨ret_bool (by simp [runeB]; omega), rfl⟩
    · go_enter Tryd.func52, Tryd.ntmps52
      go_wp2
      go_ret
      exact ⟨ret_bool (by simp [runeB]; omega), rfl⟩
  · go_enter Tryd.func52, Tryd.ntmps52
    go_wp2
    go_ret
    exact ⟨ret_bool (by simp [runeB]; omega), rfl⟩
end Go.Proofs.YtngcahaidlgkfaaDoor.Shape
