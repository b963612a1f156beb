/-
  Layer 1: what the small functions do: Fits, both, checked, checkDivision, abs and the law's own 'is', of the program and of the reference.
  Layer 1: Add, Sub, Mul, Div and Mod of the program and of the reference: each returns the pair that the plain function gives.
  Layer 1: Mul of the program and of the reference.
  Layer 1: Div and Mod of the program and of the reference.
  Layer 1: Pow of the program (binary powers) and of the reference (repeated multiplication).
-/
import Derived.Test.YtekbdiniibmhgaaRows
import Derived.Test.YtekbdiniibmhgaaBinGM
import Derived.WalkKit
import Derived.WalkSpells
import Derived.WalkLawsBesides
namespace Go.Proofs.Ytekbdiniibmhgaa.Num
open Go.RowKit

theorem ret_bool {x y : Bool} (h : x = y) : Ending.returned (.bool x) = .returned (.bool y) := by rw [h]

theorem fitsP (a : Int) (w : World) :
    Calls Try.prog 19 #[.int .i64 a] w fun e w' => e = .returned (.bool (fitsB a)) ∧ w = w' := by
  rcases Int.lt_or_le a (-4611686018427387903) with h | h
  · go_enter Try.func19, Try.ntmps19
    go_wp2
    go_ret
    exact ⟨ret_bool (by simp [fitsB]; omega), rfl⟩
  · rcases Int.lt_or_le 4611686018427387903 a with h2 | h2
    · go_enter Try.func19, Try.ntmps19
      go_wp2
      go_ret
      exact ⟨ret_bool (by simp [fitsB]; omega), rfl⟩
    · go_enter Try.func19, Try.ntmps19
      go_wp2
      go_ret
      exact ⟨ret_bool (by simp [fitsB]; omega), rfl⟩

theorem fitsR (a : Int) (w : World) :
    Calls Try.prog 20 #[.int .i64 a] w fun e w' => e = .returned (.bool (fitsB a)) ∧ w = w' := by
  rcases Int.lt_or_le a (-4611686018427387903) with h | h
  · go_enter Try.func20, Try.ntmps20
    go_wp2
    go_ret
    exact ⟨ret_bool (by simp [fitsB]; omega), rfl⟩
  · rcases Int.lt_or_le 4611686018427387903 a with h2 | h2
    · go_enter Try.func20, Try.ntmps20
      go_wp2
      go_ret
      exact ⟨ret_bool (by simp [fitsB]; omega), rfl⟩
    · go_enter Try.func20, Try.ntmps20
      go_wp2
      go_ret
      exact ⟨ret_bool (by simp [fitsB]; omega), rfl⟩

theorem bothP (a b : Int) (w : World) :
    Calls Try.prog 79 #[.int .i64 a, .int .i64 b] w fun e w' => e = .returned (.bool (bothB a b)) ∧ w = w' := by
  by_cases h : fitsB a = true
  · go_enter Try.func79, Try.ntmps79
    go_wp2_with (go_at_call 19; refine (fitsP _ _).mono ?_; rintro e w' ⟨rfl, rfl⟩)
    go_ret
    exact ⟨ret_bool (by simp [bothB, h]), rfl⟩
  · have h' : fitsB a = false := by simpa using h
    go_enter Try.func79, Try.ntmps79
    go_wp2_with (go_at_call 19; refine (fitsP _ _).mono ?_; rintro e w' ⟨rfl, rfl⟩)
    go_ret
    exact ⟨ret_bool (by simp [bothB, h']), rfl⟩

theorem bothR (a b : Int) (w : World) :
    Calls Try.prog 59 #[.int .i64 a, .int .i64 b] w fun e w' => e = .returned (.bool (bothB a b)) ∧ w = w' := by
  by_cases h : fitsB a = true
  · go_enter Try.func59, Try.ntmps59
    go_wp2_with (go_at_call 20; refine (fitsR _ _).mono ?_; rintro e w' ⟨rfl, rfl⟩)
    go_ret
    exact ⟨ret_bool (by simp [bothB, h]), rfl⟩
  · have h' : fitsB a = false := by simpa using h
    go_enter Try.func59, Try.ntmps59
    go_wp2_with (go_at_call 20; refine (fitsR _ _).mono ?_; rintro e w' ⟨rfl, rfl⟩)
    go_ret
    exact ⟨ret_bool (by simp [bothB, h']), rfl⟩

/-- A result of two ints. -/
theorem pair_mk {p : Int × Int} {x y : Int} (h : p = (x, y)) : Ending.returned (.tuple #[.int .i64 x, .int .i64 y]) = .returned (.tuple #[.int .i64 p.1, .int .i64 p.2]) := by rw [h]
theorem pair_eq {p q : Int × Int} (h : p = q) : Ending.returned (.tuple #[.int .i64 q.1, .int .i64 q.2]) = .returned (.tuple #[.int .i64 p.1, .int .i64 p.2]) := by rw [h]

theorem checkedP (n : Int) (w : World) :
    Calls Try.prog 80 #[.int .i64 n] w fun e w' => e = .returned (.tuple #[.int .i64 (chk n).1, .int .i64 (chk n).2]) ∧ w = w' := by
  by_cases h : fitsB n = true
  · go_enter Try.func80, Try.ntmps80
    go_wp2_with (go_at_call 19; refine (fitsP _ _).mono ?_; rintro e w' ⟨rfl, rfl⟩)
    go_ret2
    exact ⟨pair_mk (chk_yes h), rfl⟩
  · have h' : fitsB n = false := by simpa using h
    go_enter Try.func80, Try.ntmps80
    go_wp2_with (go_at_call 19; refine (fitsP _ _).mono ?_; rintro e w' ⟨rfl, rfl⟩)
    go_ret2
    exact ⟨pair_mk (chk_no h'), rfl⟩

theorem checkedR (n : Int) (w : World) :
    Calls Try.prog 60 #[.int .i64 n] w fun e w' => e = .returned (.tuple #[.int .i64 (chk n).1, .int .i64 (chk n).2]) ∧ w = w' := by
  by_cases h : fitsB n = true
  · go_enter Try.func60, Try.ntmps60
    go_wp2_with (go_at_call 20; refine (fitsR _ _).mono ?_; rintro e w' ⟨rfl, rfl⟩)
    go_ret2
    exact ⟨pair_mk (chk_yes h), rfl⟩
  · have h' : fitsB n = false := by simpa using h
    go_enter Try.func60, Try.ntmps60
    go_wp2_with (go_at_call 20; refine (fitsR _ _).mono ?_; rintro e w' ⟨rfl, rfl⟩)
    go_ret2
    exact ⟨pair_mk (chk_no h'), rfl⟩

/-- What the division asks first. -/
def cdS (a b : Int) : Int := if bothB a b = true then (if b = 0 then 20 else 0) else 1
theorem checkDivP (a b : Int) (w : World) :
    Calls Try.prog 81 #[.int .i64 a, .int .i64 b] w fun e w' => e = .returned (.int .i64 (cdS a b)) ∧ w = w' := by
  by_cases h : bothB a b = true
  · by_cases h0 : b = 0
    · subst h0
      go_enter Try.func81, Try.ntmps81
      go_wp2_with (go_at_call 79; refine (bothP _ _ _).mono ?_; rintro e w' ⟨rfl, rfl⟩)
      go_ret
      exact ⟨by simp [cdS, h], rfl⟩
    · have hz : (b == 0) = false := by simpa using h0
      go_enter Try.func81, Try.ntmps81
      go_wp2_with (go_at_call 79; refine (bothP _ _ _).mono ?_; rintro e w' ⟨rfl, rfl⟩)
      go_ret
      exact ⟨by simp [cdS, h, h0], rfl⟩
  · have h' : bothB a b = false := by simpa using h
    go_enter Try.func81, Try.ntmps81
    go_wp2_with (go_at_call 79; refine (bothP _ _ _).mono ?_; rintro e w' ⟨rfl, rfl⟩)
    go_ret
    exact ⟨by simp [cdS, h'], rfl⟩

def absI (a : Int) : Int := if a < 0 then -a else a
theorem abs_bd {a m : Int} (h : -m ≤ a ∧ a ≤ m) : 0 ≤ absI a ∧ absI a ≤ m := by unfold absI; omega
theorem absR (a : Int) (w : World) (h1 : -4611686018427387903 ≤ a) (h2 : a ≤ 4611686018427387903) :
    Calls Try.prog 61 #[.int .i64 a] w fun e w' => e = .returned (.int .i64 (absI a)) ∧ w = w' := by
  by_cases h : a < 0
  · go_enter Try.func61, Try.ntmps61
    go_wp2
    go_ret
    exact ⟨by simp [absI]; omega, rfl⟩
  · go_enter Try.func61, Try.ntmps61
    go_wp2
    go_ret
    exact ⟨by simp [absI]; omega, rfl⟩

end Go.Proofs.Ytekbdiniibmhgaa.Num

namespace Go.Proofs.Ytekbdiniibmhgaa.Num
open Go.RowKit

theorem addP (a b : Int) (w : World) :
    Calls Try.prog 41 #[.int .i64 a, .int .i64 b] w fun e w' => e = .returned (.tuple #[.int .i64 (addS a b).1, .int .i64 (addS a b).2]) ∧ w = w' := by
  by_cases h : bothB a b = true
  · obtain ⟨⟨ha1, ha2⟩, hb1, hb2⟩ := both_def.1 h
    go_enter Try.func41, Try.ntmps41
    go_wp2_with (first | (go_at_call 79; refine (bothP _ _ _).mono ?_; rintro e w' ⟨rfl, rfl⟩) | (go_at_call 80; refine (checkedP _ _).mono ?_; rintro e w' ⟨rfl, rfl⟩))
    go_ret2
    exact ⟨pair_eq (addS_yes h), rfl⟩
  · have h' : bothB a b = false := by simpa using h
    go_enter Try.func41, Try.ntmps41
    go_wp2_with (go_at_call 79; refine (bothP _ _ _).mono ?_; rintro e w' ⟨rfl, rfl⟩)
    go_ret2
    exact ⟨pair_mk (addS_no h'), rfl⟩

theorem addR (a b : Int) (w : World) :
    Calls Try.prog 21 #[.int .i64 a, .int .i64 b] w fun e w' => e = .returned (.tuple #[.int .i64 (addS a b).1, .int .i64 (addS a b).2]) ∧ w = w' := by
  by_cases h : bothB a b = true
  · obtain ⟨⟨ha1, ha2⟩, hb1, hb2⟩ := both_def.1 h
    go_enter Try.func21, Try.ntmps21
    go_wp2_with (first | (go_at_call 59; refine (bothR _ _ _).mono ?_; rintro e w' ⟨rfl, rfl⟩) | (go_at_call 60; refine (checkedR _ _).mono ?_; rintro e w' ⟨rfl, rfl⟩))
    go_ret2
    exact ⟨pair_eq (addS_yes h), rfl⟩
  · have h' : bothB a b = false := by simpa using h
    go_enter Try.func21, Try.ntmps21
    go_wp2_with (go_at_call 59; refine (bothR _ _ _).mono ?_; rintro e w' ⟨rfl, rfl⟩)
    go_ret2
    exact ⟨pair_mk (addS_no h'), rfl⟩

theorem subP (a b : Int) (w : World) :
    Calls Try.prog 42 #[.int .i64 a, .int .i64 b] w fun e w' => e = .returned (.tuple #[.int .i64 (subS a b).1, .int .i64 (subS a b).2]) ∧ w = w' := by
  by_cases h : bothB a b = true
  · obtain ⟨⟨ha1, ha2⟩, hb1, hb2⟩ := both_def.1 h
    go_enter Try.func42, Try.ntmps42
    go_wp2_with (first | (go_at_call 79; refine (bothP _ _ _).mono ?_; rintro e w' ⟨rfl, rfl⟩) | (go_at_call 80; refine (checkedP _ _).mono ?_; rintro e w' ⟨rfl, rfl⟩))
    go_ret2
    exact ⟨pair_eq (subS_yes h), rfl⟩
  · have h' : bothB a b = false := by simpa using h
    go_enter Try.func42, Try.ntmps42
    go_wp2_with (go_at_call 79; refine (bothP _ _ _).mono ?_; rintro e w' ⟨rfl, rfl⟩)
    go_ret2
    exact ⟨pair_mk (subS_no h'), rfl⟩

theorem subR (a b : Int) (w : World) :
    Calls Try.prog 22 #[.int .i64 a, .int .i64 b] w fun e w' => e = .returned (.tuple #[.int .i64 (subS a b).1, .int .i64 (subS a b).2]) ∧ w = w' := by
  by_cases h : bothB a b = true
  · obtain ⟨⟨ha1, ha2⟩, hb1, hb2⟩ := both_def.1 h
    go_enter Try.func22, Try.ntmps22
    go_wp2_with (first | (go_at_call 59; refine (bothR _ _ _).mono ?_; rintro e w' ⟨rfl, rfl⟩) | (go_at_call 60; refine (checkedR _ _).mono ?_; rintro e w' ⟨rfl, rfl⟩))
    go_ret2
    exact ⟨pair_eq (subS_yes h), rfl⟩
  · have h' : bothB a b = false := by simpa using h
    go_enter Try.func22, Try.ntmps22
    go_wp2_with (go_at_call 59; refine (bothR _ _ _).mono ?_; rintro e w' ⟨rfl, rfl⟩)
    go_ret2
    exact ⟨pair_mk (subS_no h'), rfl⟩
end Go.Proofs.Ytekbdiniibmhgaa.Num

namespace Go.Proofs.Ytekbdiniibmhgaa.Num
open Go.RowKit

theorem wrap_quo (q : Int) (b : Int) (hb : -4611686018427387903 ≤ b ∧ b ≤ 4611686018427387903) (hq : -9223372036854775808 ≤ q ∧ q ≤ 9223372036854775808) : wrap64 q = b ↔ q = b := by
  unfold wrap64; omega

/-- The product fits into an int: dividing it by a gives b. -/
theorem mul_in {a b : Int} (h : bothB a b = true) (h0 : ¬ a = 0) (hp : -9223372036854775808 ≤ a * b ∧ a * b ≤ 9223372036854775807) : wrap64 (a * b) = a * b ∧ wrap64 ((a * b).tdiv a) = b := by
  obtain ⟨ha, hb⟩ := both_def.1 h
  refine ⟨IntWalk.wrap64_in _ hp, ?_⟩
  rw [Int.mul_tdiv_cancel_left _ h0]
  exact IntWalk.wrap64_in _ (by omega)

/-- The product does not: dividing what is left of it by a gives another number. -/
theorem mul_out {a b : Int} (h : bothB a b = true) (h0 : ¬ a = 0) (hp : ¬ (-9223372036854775808 ≤ a * b ∧ a * b ≤ 9223372036854775807)) : ¬ wrap64 ((wrap64 (a * b)).tdiv a) = b := by
  obtain ⟨ha, hb⟩ := both_def.1 h
  have hW : -9223372036854775808 ≤ wrap64 (a * b) ∧ wrap64 (a * b) ≤ 9223372036854775807 ∧ ∃ k : Int, wrap64 (a * b) = a * b - k * 18446744073709551616 ∧ k ≠ 0 := by
    generalize a * b = P at hp
    unfold wrap64
    refine ⟨by omega, by omega, (P + 9223372036854775808) / 18446744073709551616, by omega, by omega⟩
  obtain ⟨h1, h2, k, hk, hk0⟩ := hW
  generalize wrap64 (a * b) = W at *
  have hq := tdiv_abs_le W a
  rw [wrap_quo _ _ hb (by omega)]
  intro e
  have ed := Int.mul_tdiv_add_tmod W a
  have el := tmod_abs_lt W a h0
  rw [e] at ed
  omega

theorem fits_int {n : Int} (h : fitsB n = true) : -9223372036854775808 ≤ n ∧ n ≤ 9223372036854775807 := by
  have := fits_def.1 h; omega

theorem mulP (a b : Int) (w : World) :
    Calls Try.prog 43 #[.int .i64 a, .int .i64 b] w fun e w' => e = .returned (.tuple #[.int .i64 (mulS a b).1, .int .i64 (mulS a b).2]) ∧ w = w' := by
  by_cases h : bothB a b = true
  · obtain ⟨⟨ha1, ha2⟩, hb1, hb2⟩ := both_def.1 h
    have em := mulS_yes h
    by_cases h0 : a = 0
    · subst h0
      rw [Int.zero_mul] at em
      clear ha1 ha2
      go_enter Try.func43, Try.ntmps43
      go_wp2_with (first | (go_at_call 79; refine (bothP _ _ _).mono ?_; rintro e w' ⟨rfl, rfl⟩) | (go_at_call 80; refine (checkedP _ _).mono ?_; rintro e w' ⟨rfl, rfl⟩))
      go_ret2
      exact ⟨pair_eq em, rfl⟩
    · have hz : (a != 0) = true := by simpa using h0
      by_cases hp : -9223372036854775808 ≤ a * b ∧ a * b ≤ 9223372036854775807
      · obtain ⟨hw, hq⟩ := mul_in h h0 hp
        have hn : (wrap64 ((a * b).tdiv a) != b) = false := by rw [hq]; simp
        clear hq hp
        go_enter Try.func43, Try.ntmps43
        go_wp2_with (first | (go_at_call 79; refine (bothP _ _ _).mono ?_; rintro e w' ⟨rfl, rfl⟩) | (go_at_call 80; refine (checkedP _ _).mono ?_; rintro e w' ⟨rfl, rfl⟩))
        go_ret2
        exact ⟨pair_eq em, rfl⟩
      · have hq := mul_out h h0 hp
        have hn : (wrap64 ((wrap64 (a * b)).tdiv a) != b) = true := by simpa using hq
        have hf : fitsB (a * b) = false := by
          cases hf : fitsB (a * b)
          · rfl
          · exact absurd (fits_int hf) hp
        rw [chk_no hf] at em
        clear hq hp hf
        go_enter Try.func43, Try.ntmps43
        go_wp2_with (go_at_call 79; refine (bothP _ _ _).mono ?_; rintro e w' ⟨rfl, rfl⟩)
        go_ret2
        exact ⟨pair_mk em, rfl⟩
  · have h' : bothB a b = false := by simpa using h
    go_enter Try.func43, Try.ntmps43
    go_wp2_with (go_at_call 79; refine (bothP _ _ _).mono ?_; rintro e w' ⟨rfl, rfl⟩)
    go_ret2
    exact ⟨pair_mk (mulS_no h'), rfl⟩

theorem abs_natAbs (a : Int) : absI a = a.natAbs := by unfold absI; omega
/-- The reference asks before it multiplies. -/
theorem mul_asks {a b : Int} (h0 : ¬ a = 0) : (4611686018427387903 / absI a < absI b) ↔ fitsB (a * b) = false := by
  have e : fitsB (a * b) = false ↔ 4611686018427387903 < absI a * absI b := by
    rw [abs_natAbs, abs_natAbs, ← Int.natCast_mul, ← Int.natAbs_mul]
    simp only [fitsB, decide_eq_false_iff_not]; omega
  rw [e]
  have hp : 0 < absI a := by rw [abs_natAbs]; omega
  rw [Int.ediv_lt_iff_lt_mul hp, Int.mul_comm]

theorem mulR (a b : Int) (w : World) :
    Calls Try.prog 23 #[.int .i64 a, .int .i64 b] w fun e w' => e = .returned (.tuple #[.int .i64 (mulS a b).1, .int .i64 (mulS a b).2]) ∧ w = w' := by
  by_cases h : bothB a b = true
  · obtain ⟨⟨ha1, ha2⟩, hb1, hb2⟩ := both_def.1 h
    have em := mulS_yes h
    by_cases h0 : a = 0
    · subst h0
      rw [Int.zero_mul] at em
      clear ha1 ha2
      go_enter Try.func23, Try.ntmps23
      go_wp2_with (go_at_call 59; refine (bothR _ _ _).mono ?_; rintro e w' ⟨rfl, rfl⟩)
      go_ret2
      exact ⟨pair_mk em, rfl⟩
    · have hz : (a != 0) = true := by simpa using h0
      have hk := mul_asks (b := b) h0
      have hA := abs_bd ⟨ha1, ha2⟩
      have hA0 : 1 ≤ absI a := by rw [abs_natAbs]; omega
      have hB := abs_bd ⟨hb1, hb2⟩
      obtain ⟨hA1, hA2⟩ := hA
      obtain ⟨hB1, hB2⟩ := hB
      by_cases hf : fitsB (a * b) = true
      · have hlt : ¬ 4611686018427387903 / absI a < absI b := by rw [hk, hf]; simp
        rw [chk_yes hf] at em
        obtain ⟨hw, _⟩ := mul_in h h0 (fits_int hf)
        clear hk hf
        go_enter Try.func23, Try.ntmps23
        go_wp2_with (first | (go_at_call 59; refine (bothR _ _ _).mono ?_; rintro e w' ⟨rfl, rfl⟩) | (go_at_call 61; refine (absR _ _ (by assumption) (by assumption)).mono ?_; rintro e w' ⟨rfl, rfl⟩))
        go_ret2
        exact ⟨pair_mk (by rw [hw]; exact em), rfl⟩
      · have hf' : fitsB (a * b) = false := by simpa using hf
        have hlt : 4611686018427387903 / absI a < absI b := hk.2 hf'
        rw [chk_no hf'] at em
        clear hk hf hf'
        go_enter Try.func23, Try.ntmps23
        go_wp2_with (first | (go_at_call 59; refine (bothR _ _ _).mono ?_; rintro e w' ⟨rfl, rfl⟩) | (go_at_call 61; refine (absR _ _ (by assumption) (by assumption)).mono ?_; rintro e w' ⟨rfl, rfl⟩))
        go_ret2
        exact ⟨pair_mk em, rfl⟩
  · have h' : bothB a b = false := by simpa using h
    go_enter Try.func23, Try.ntmps23
    go_wp2_with (go_at_call 59; refine (bothR _ _ _).mono ?_; rintro e w' ⟨rfl, rfl⟩)
    go_ret2
    exact ⟨pair_mk (mulS_no h'), rfl⟩
end Go.Proofs.Ytekbdiniibmhgaa.Num

namespace Go.Proofs.Ytekbdiniibmhgaa.Num
open Go.RowKit

/-- What both programs compute from Go's own division. -/
theorem quo_case {a b : Int} (h0 : ¬ b = 0) :
    (a.tmod b = 0 → fl a b = a.tdiv b ∧ md a b = 0) ∧
    (a.tmod b ≠ 0 → (a < 0 ↔ b < 0) → fl a b = a.tdiv b ∧ md a b = a.tmod b) ∧
    (a.tmod b ≠ 0 → ¬ (a < 0 ↔ b < 0) → fl a b = a.tdiv b - 1 ∧ md a b = a.tmod b + b) := by
  have e := Int.mul_tdiv_add_tmod a b
  have l := tmod_abs_lt a b h0
  have s := tmod_sign a b
  refine ⟨fun hr => ?_, fun hr hd => ?_, fun hr hd => ?_⟩
  · exact fl_unique h0 (by omega) ⟨fun _ => by omega, fun _ => by omega⟩
  · refine fl_unique h0 e ?_
    exact ⟨fun hp => by omega, fun hn => by omega⟩
  · refine fl_unique h0 (by rw [Int.mul_sub]; omega) ?_
    exact ⟨fun hp => by omega, fun hn => by omega⟩
theorem mul_fl_bd {a b : Int} (h : bothB a b = true) (h0 : ¬ b = 0) : -9223372036854775807 ≤ b * fl a b ∧ b * fl a b ≤ 9223372036854775807 := by
  have := md_spec (a := a) h0
  have := both_def.1 h
  omega
theorem md_def (a b : Int) : a - b * fl a b = md a b := rfl

theorem divP (a b : Int) (w : World) :
    Calls Try.prog 44 #[.int .i64 a, .int .i64 b] w fun e w' => e = .returned (.tuple #[.int .i64 (divS a b).1, .int .i64 (divS a b).2]) ∧ w = w' := by
  by_cases h : bothB a b = true
  · obtain ⟨⟨ha1, ha2⟩, hb1, hb2⟩ := both_def.1 h
    by_cases h0 : b = 0
    · subst h0
      have hc : cdS a 0 = 20 := by simp [cdS, h]
      have em := divS_zero h
      clear hb1 hb2
      go_enter Try.func44, Try.ntmps44
      go_wp2_with (go_at_call 81; refine (checkDivP _ _ _).mono ?_; rintro e w' ⟨rfl, rfl⟩)
      go_ret2
      exact ⟨pair_mk em, rfl⟩
    · have hc : cdS a b = 0 := by simp [cdS, h, h0]
      have em := divS_yes h h0
      have hz : (b == 0) = false := by simpa using h0
      obtain ⟨hq1, hq2⟩ := tdiv_bd (b := b) ⟨ha1, ha2⟩
      obtain ⟨hm1, hm2⟩ := tmod_bd (b := b) ⟨ha1, ha2⟩
      have hl := tmod_abs_lt a b h0
      have hm3 : -9223372036854775806 ≤ a.tmod b + b := by omega
      have hm4 : a.tmod b + b ≤ 9223372036854775806 := by omega
      clear hl
      by_cases hr : a.tmod b = 0
      · have q := (quo_case h0).1 hr
        rw [q.1] at em
        have hr' : (a.tmod b != 0) = false := by simpa using hr
        clear q
        go_enter Try.func44, Try.ntmps44
        go_wp2_with (go_at_call 81; refine (checkDivP _ _ _).mono ?_; rintro e w' ⟨rfl, rfl⟩)
        go_ret2
        exact ⟨pair_mk em, rfl⟩
      · have hr' : (a.tmod b != 0) = true := by simpa using hr
        have q2 := (quo_case h0).2.1 hr
        have q3 := (quo_case h0).2.2 hr
        by_cases sa : a < 0
        · by_cases sb : b < 0
          · rw [(q2 (by omega)).1] at em
            have ga : decide (a < 0) = true := by simpa using sa
            have gb : decide (b < 0) = true := by simpa using sb
            clear q2 q3 hr sa sb
            go_enter Try.func44, Try.ntmps44
            go_wp2_with (go_at_call 81; refine (checkDivP _ _ _).mono ?_; rintro e w' ⟨rfl, rfl⟩)
            go_ret2
            exact ⟨pair_mk em, rfl⟩
          · rw [(q3 (by omega)).1] at em
            have ga : decide (a < 0) = true := by simpa using sa
            have gb : decide (b < 0) = false := by simpa using sb
            clear q2 q3 hr sa sb
            go_enter Try.func44, Try.ntmps44
            go_wp2_with (go_at_call 81; refine (checkDivP _ _ _).mono ?_; rintro e w' ⟨rfl, rfl⟩)
            go_ret2
            exact ⟨pair_mk em, rfl⟩
        · by_cases sb : b < 0
          · rw [(q3 (by omega)).1] at em
            have ga : decide (a < 0) = false := by simpa using sa
            have gb : decide (b < 0) = true := by simpa using sb
            clear q2 q3 hr sa sb
            go_enter Try.func44, Try.ntmps44
            go_wp2_with (go_at_call 81; refine (checkDivP _ _ _).mono ?_; rintro e w' ⟨rfl, rfl⟩)
            go_ret2
            exact ⟨pair_mk em, rfl⟩
          · rw [(q2 (by omega)).1] at em
            have ga : decide (a < 0) = false := by simpa using sa
            have gb : decide (b < 0) = false := by simpa using sb
            clear q2 q3 hr sa sb
            go_enter Try.func44, Try.ntmps44
            go_wp2_with (go_at_call 81; refine (checkDivP _ _ _).mono ?_; rintro e w' ⟨rfl, rfl⟩)
            go_ret2
            exact ⟨pair_mk em, rfl⟩
  · have h' : bothB a b = false := by simpa using h
    have hc : cdS a b = 1 := by simp [cdS, h']
    go_enter Try.func44, Try.ntmps44
    go_wp2_with (go_at_call 81; refine (checkDivP _ _ _).mono ?_; rintro e w' ⟨rfl, rfl⟩)
    go_ret2
    exact ⟨pair_mk (divS_no h'), rfl⟩

theorem modP (a b : Int) (w : World) :
    Calls Try.prog 45 #[.int .i64 a, .int .i64 b] w fun e w' => e = .returned (.tuple #[.int .i64 (modS a b).1, .int .i64 (modS a b).2]) ∧ w = w' := by
  by_cases h : bothB a b = true
  · obtain ⟨⟨ha1, ha2⟩, hb1, hb2⟩ := both_def.1 h
    by_cases h0 : b = 0
    · subst h0
      have hc : cdS a 0 = 20 := by simp [cdS, h]
      have em := modS_zero h
      clear hb1 hb2
      go_enter Try.func45, Try.ntmps45
      go_wp2_with (go_at_call 81; refine (checkDivP _ _ _).mono ?_; rintro e w' ⟨rfl, rfl⟩)
      go_ret2
      exact ⟨pair_mk em, rfl⟩
    · have hc : cdS a b = 0 := by simp [cdS, h, h0]
      have em := modS_yes h h0
      have hz : (b == 0) = false := by simpa using h0
      obtain ⟨hq1, hq2⟩ := tdiv_bd (b := b) ⟨ha1, ha2⟩
      obtain ⟨hm1, hm2⟩ := tmod_bd (b := b) ⟨ha1, ha2⟩
      have hl := tmod_abs_lt a b h0
      have hm3 : -9223372036854775806 ≤ a.tmod b + b := by omega
      have hm4 : a.tmod b + b ≤ 9223372036854775806 := by omega
      clear hl
      by_cases hr : a.tmod b = 0
      · have q := (quo_case h0).1 hr
        rw [q.2] at em
        have hr' : (a.tmod b != 0) = false := by simpa using hr
        clear q
        go_enter Try.func45, Try.ntmps45
        go_wp2_with (go_at_call 81; refine (checkDivP _ _ _).mono ?_; rintro e w' ⟨rfl, rfl⟩)
        go_ret2
        exact ⟨pair_mk em, rfl⟩
      · have hr' : (a.tmod b != 0) = true := by simpa using hr
        have q2 := (quo_case h0).2.1 hr
        have q3 := (quo_case h0).2.2 hr
        by_cases sa : a < 0
        · by_cases sb : b < 0
          · rw [(q2 (by omega)).2] at em
            have ga : decide (a < 0) = true := by simpa using sa
            have gb : decide (b < 0) = true := by simpa using sb
            clear q2 q3 hr sa sb
            go_enter Try.func45, Try.ntmps45
            go_wp2_with (go_at_call 81; refine (checkDivP _ _ _).mono ?_; rintro e w' ⟨rfl, rfl⟩)
            go_ret2
            exact ⟨pair_mk em, rfl⟩
          · rw [(q3 (by omega)).2] at em
            have ga : decide (a < 0) = true := by simpa using sa
            have gb : decide (b < 0) = false := by simpa using sb
            clear q2 q3 hr sa sb
            go_enter Try.func45, Try.ntmps45
            go_wp2_with (go_at_call 81; refine (checkDivP _ _ _).mono ?_; rintro e w' ⟨rfl, rfl⟩)
            go_ret2
            exact ⟨pair_mk em, rfl⟩
        · by_cases sb : b < 0
          · rw [(q3 (by omega)).2] at em
            have ga : decide (a < 0) = false := by simpa using sa
            have gb : decide (b < 0) = true := by simpa using sb
            clear q2 q3 hr sa sb
            go_enter Try.func45, Try.ntmps45
            go_wp2_with (go_at_call 81; refine (checkDivP _ _ _).mono ?_; rintro e w' ⟨rfl, rfl⟩)
            go_ret2
            exact ⟨pair_mk em, rfl⟩
          · rw [(q2 (by omega)).2] at em
            have ga : decide (a < 0) = false := by simpa using sa
            have gb : decide (b < 0) = false := by simpa using sb
            clear q2 q3 hr sa sb
            go_enter Try.func45, Try.ntmps45
            go_wp2_with (go_at_call 81; refine (checkDivP _ _ _).mono ?_; rintro e w' ⟨rfl, rfl⟩)
            go_ret2
            exact ⟨pair_mk em, rfl⟩
  · have h' : bothB a b = false := by simpa using h
    have hc : cdS a b = 1 := by simp [cdS, h']
    go_enter Try.func45, Try.ntmps45
    go_wp2_with (go_at_call 81; refine (checkDivP _ _ _).mono ?_; rintro e w' ⟨rfl, rfl⟩)
    go_ret2
    exact ⟨pair_mk (modS_no h'), rfl⟩

theorem divR (a b : Int) (w : World) :
    Calls Try.prog 24 #[.int .i64 a, .int .i64 b] w fun e w' => e = .returned (.tuple #[.int .i64 (divS a b).1, .int .i64 (divS a b).2]) ∧ w = w' := by
  by_cases h : bothB a b = true
  · obtain ⟨⟨ha1, ha2⟩, hb1, hb2⟩ := both_def.1 h
    by_cases h0 : b = 0
    · subst h0
      have hc : cdS a 0 = 20 := by simp [cdS, h]
      have em := divS_zero h
      clear hb1 hb2
      go_enter Try.func24, Try.ntmps24
      go_wp2_with (go_at_call 59; refine (bothR _ _ _).mono ?_; rintro e w' ⟨rfl, rfl⟩)
      go_ret2
      exact ⟨pair_mk em, rfl⟩
    · have hc : cdS a b = 0 := by simp [cdS, h, h0]
      have em := divS_yes h h0
      have hz : (b == 0) = false := by simpa using h0
      obtain ⟨hq1, hq2⟩ := tdiv_bd (b := b) ⟨ha1, ha2⟩
      obtain ⟨hm1, hm2⟩ := tmod_bd (b := b) ⟨ha1, ha2⟩
      have hl := tmod_abs_lt a b h0
      have hm3 : -9223372036854775806 ≤ a.tmod b + b := by omega
      have hm4 : a.tmod b + b ≤ 9223372036854775806 := by omega
      clear hl
      by_cases hr : a.tmod b = 0
      · have q := (quo_case h0).1 hr
        rw [q.1] at em
        have hr' : (a.tmod b != 0) = false := by simpa using hr
        clear q
        go_enter Try.func24, Try.ntmps24
        go_wp2_with (go_at_call 59; refine (bothR _ _ _).mono ?_; rintro e w' ⟨rfl, rfl⟩)
        go_ret2
        exact ⟨pair_mk em, rfl⟩
      · have hr' : (a.tmod b != 0) = true := by simpa using hr
        have q2 := (quo_case h0).2.1 hr
        have q3 := (quo_case h0).2.2 hr
        by_cases sa : a < 0
        · by_cases sb : b < 0
          · rw [(q2 (by omega)).1] at em
            have ga : decide (a < 0) = true := by simpa using sa
            have gb : decide (b < 0) = true := by simpa using sb
            clear q2 q3 hr sa sb
            go_enter Try.func24, Try.ntmps24
            go_wp2_with (go_at_call 59; refine (bothR _ _ _).mono ?_; rintro e w' ⟨rfl, rfl⟩)
            go_ret2
            exact ⟨pair_mk em, rfl⟩
          · rw [(q3 (by omega)).1] at em
            have ga : decide (a < 0) = true := by simpa using sa
            have gb : decide (b < 0) = false := by simpa using sb
            clear q2 q3 hr sa sb
            go_enter Try.func24, Try.ntmps24
            go_wp2_with (go_at_call 59; refine (bothR _ _ _).mono ?_; rintro e w' ⟨rfl, rfl⟩)
            go_ret2
            exact ⟨pair_mk em, rfl⟩
        · by_cases sb : b < 0
          · rw [(q3 (by omega)).1] at em
            have ga : decide (a < 0) = false := by simpa using sa
            have gb : decide (b < 0) = true := by simpa using sb
            clear q2 q3 hr sa sb
            go_enter Try.func24, Try.ntmps24
            go_wp2_with (go_at_call 59; refine (bothR _ _ _).mono ?_; rintro e w' ⟨rfl, rfl⟩)
            go_ret2
            exact ⟨pair_mk em, rfl⟩
          · rw [(q2 (by omega)).1] at em
            have ga : decide (a < 0) = false := by simpa using sa
            have gb : decide (b < 0) = false := by simpa using sb
            clear q2 q3 hr sa sb
            go_enter Try.func24, Try.ntmps24
            go_wp2_with (go_at_call 59; refine (bothR _ _ _).mono ?_; rintro e w' ⟨rfl, rfl⟩)
            go_ret2
            exact ⟨pair_mk em, rfl⟩
  · have h' : bothB a b = false := by simpa using h
    have hc : cdS a b = 1 := by simp [cdS, h']
    go_enter Try.func24, Try.ntmps24
    go_wp2_with (go_at_call 59; refine (bothR _ _ _).mono ?_; rintro e w' ⟨rfl, rfl⟩)
    go_ret2
    exact ⟨pair_mk (divS_no h'), rfl⟩

theorem modR (a b : Int) (w : World) :
    Calls Try.prog 25 #[.int .i64 a, .int .i64 b] w fun e w' => e = .returned (.tuple #[.int .i64 (modS a b).1, .int .i64 (modS a b).2]) ∧ w = w' := by
  by_cases h : bothB a b = true
  · obtain ⟨⟨ha1, ha2⟩, hb1, hb2⟩ := both_def.1 h
    by_cases h0 : b = 0
    · subst h0
      have em := modS_zero h
      have ed := divS_zero h
      clear hb1 hb2
      go_enter Try.func25, Try.ntmps25
      go_wp2_with (go_at_call 24; refine (divR _ _ _).mono ?_; rintro e w' ⟨rfl, rfl⟩)
      go_ret2
      exact ⟨pair_mk em, rfl⟩
    · have em := modS_yes h h0
      have ed := divS_yes h h0
      obtain ⟨hm1, hm2⟩ := mul_fl_bd h h0
      have hs := md_spec (a := a) h0
      have hd : -9223372036854775807 ≤ a - b * fl a b ∧ a - b * fl a b ≤ 9223372036854775807 := by omega
      obtain ⟨hd1, hd2⟩ := hd
      clear hs
      go_enter Try.func25, Try.ntmps25
      go_wp2_with (go_at_call 24; refine (divR _ _ _).mono ?_; rintro e w' ⟨rfl, rfl⟩)
      go_ret2
      exact ⟨pair_mk em, rfl⟩
  · have h' : bothB a b = false := by simpa using h
    have ed := divS_no h'
    go_enter Try.func25, Try.ntmps25
    go_wp2_with (go_at_call 24; refine (divR _ _ _).mono ?_; rintro e w' ⟨rfl, rfl⟩)
    go_ret2
    exact ⟨pair_mk (modS_no h'), rfl⟩
end Go.Proofs.Ytekbdiniibmhgaa.Num

namespace Go.Proofs.Ytekbdiniibmhgaa.Num
open Go.RowKit

set_option maxHeartbeats 400000 in
theorem powP (a b : Int) (w : World) :
    Calls Try.prog 46 #[.int .i64 a, .int .i64 b] w fun e w' => e = .returned (.tuple #[.int .i64 (powS a b).1, .int .i64 (powS a b).2]) ∧ w = w' := by
  by_cases h : bothB a b = true
  · by_cases h0 : b < 0
    · go_enter Try.func46, Try.ntmps46
      go_wp2_with (go_at_call 79; refine (bothP _ _ _).mono ?_; rintro e w' ⟨rfl, rfl⟩)
      go_ret2
      exact ⟨pair_mk (powS_neg h h0), rfl⟩
    · have h0' : 0 ≤ b := by omega
      have em := powS_yes h h0'
      have hs := inv_start h h0'
      go_enter Try.func46, Try.ntmps46
      go_wp2_with (go_at_call 79; refine (bothP _ _ _).mono ?_; rintro e w' ⟨rfl, rfl⟩)
      go_loop [0, 1, 6, 7] (fun x y p r => ∃ A B P : Int, x = .int .i64 A ∧ y = .int .i64 B ∧ p = .int .i64 P ∧ r = .int .i64 0 ∧ PowInv a b A B P) (fun _ y _ _ => (intOf y).toNat)
      case atStart => exact ⟨a, b, 1, rfl, rfl, rfl, rfl, hs⟩
      case round =>
        obtain ⟨A, B, P, rfl, rfl, rfl, rfl, hi⟩ := hrel
        obtain ⟨hB0, hB1, hA, hP, -, -⟩ := id hi
        clear hs h h0
        by_cases ho : B % 2 = 1
        · by_cases hf : fitsB (P * A) = true
          · have em1 := mul_yes hP hA hf
            have hm := inv_odd hi ho hf
            have hB2 : 1 ≤ B := by omega
            by_cases hC : B / 2 = 0
            · have en := mid_end hm hC
              rw [en] at em
              have hCb : (B / 2 == 0) = true := by simpa using hC
              have hob : (B % 2 == 1) = true := by simpa using ho
              clear hm hC ho hi en hf
              go_wp2_with (go_at_call 43; refine (mulP _ _ _).mono ?_; rintro e w' ⟨rfl, rfl⟩)
              go_ret2
              first | exact ⟨pair_mk em, rfl⟩ | exact ⟨rfl, rfl⟩
            · have hCb : (B / 2 == 0) = false := by simpa using hC
              have hob : (B % 2 == 1) = true := by simpa using ho
              by_cases hq : fitsB (A * A) = true
              · have em2 := mul_yes hA hA hq
                have hn := mid_next hm hq
                clear hm hC ho hi hf hq
                go_wp2_with (first | (go_at_call 43; refine (mulP _ _ _).mono ?_; rintro e w' ⟨rfl, rfl⟩))
                go_round
                case rel => exact ⟨_, _, _, rfl, rfl, rfl, rfl, hn⟩
                case measure => simp [intOf]; omega
              · have hq' : fitsB (A * A) = false := by simpa using hq
                have em2 := mul_no hA hA hq'
                rw [mid_over hm hC hq'] at em
                clear hm hC ho hi hf hq hq'
                go_wp2_with (first | (go_at_call 43; refine (mulP _ _ _).mono ?_; rintro e w' ⟨rfl, rfl⟩))
                go_ret2
                first | exact ⟨pair_mk em, rfl⟩ | exact ⟨rfl, rfl⟩
          · have hf' : fitsB (P * A) = false := by simpa using hf
            have em1 := mul_no hP hA hf'
            have hob : (B % 2 == 1) = true := by simpa using ho
            rw [inv_over' hi ho hf'] at em
            clear ho hi hf hf'
            go_wp2_with (first | (go_at_call 43; refine (mulP _ _ _).mono ?_; rintro e w' ⟨rfl, rfl⟩))
            go_ret2
            first | exact ⟨pair_mk em, rfl⟩ | exact ⟨rfl, rfl⟩
        · have hm := inv_even hi ho
          have hob : (B % 2 == 1) = false := by simpa using ho
          by_cases hC : B / 2 = 0
          · have en := mid_end hm hC
            rw [en] at em
            have hCb : (B / 2 == 0) = true := by simpa using hC
            clear hm hC ho hi en
            go_wp2_with (go_at_call 43; refine (mulP _ _ _).mono ?_; rintro e w' ⟨rfl, rfl⟩)
            go_ret2
            first | exact ⟨pair_mk em, rfl⟩ | exact ⟨rfl, rfl⟩
          · have hCb : (B / 2 == 0) = false := by simpa using hC
            by_cases hq : fitsB (A * A) = true
            · have em2 := mul_yes hA hA hq
              have hn := mid_next hm hq
              have hB2 : 2 ≤ B := by omega
              clear hm hC ho hi hq
              go_wp2_with (first | (go_at_call 43; refine (mulP _ _ _).mono ?_; rintro e w' ⟨rfl, rfl⟩))
              go_round
              case rel => exact ⟨_, _, _, rfl, rfl, rfl, rfl, hn⟩
              case measure => simp [intOf]; omega
            · have hq' : fitsB (A * A) = false := by simpa using hq
              have em2 := mul_no hA hA hq'
              rw [mid_over hm hC hq'] at em
              clear hm hC ho hi hq hq'
              go_wp2_with (first | (go_at_call 43; refine (mulP _ _ _).mono ?_; rintro e w' ⟨rfl, rfl⟩))
              go_ret2
              first | exact ⟨pair_mk em, rfl⟩ | exact ⟨rfl, rfl⟩
  · have h' : bothB a b = false := by simpa using h
    go_enter Try.func46, Try.ntmps46
    go_wp2_with (go_at_call 79; refine (bothP _ _ _).mono ?_; rintro e w' ⟨rfl, rfl⟩)
    go_ret2
    exact ⟨pair_mk (powS_no h'), rfl⟩

set_option maxHeartbeats 400000 in
theorem powR (a b : Int) (w : World) :
    Calls Try.prog 26 #[.int .i64 a, .int .i64 b] w fun e w' => e = .returned (.tuple #[.int .i64 (powS a b).1, .int .i64 (powS a b).2]) ∧ w = w' := by
  by_cases h : bothB a b = true
  · obtain ⟨⟨ha1, ha2⟩, hb1, hb2⟩ := both_def.1 h
    by_cases h0 : b < 0
    · go_enter Try.func26, Try.ntmps26
      go_wp2_with (go_at_call 59; refine (bothR _ _ _).mono ?_; rintro e w' ⟨rfl, rfl⟩)
      go_ret2
      exact ⟨pair_mk (powS_neg h h0), rfl⟩
    · have h0' : 0 ≤ b := by omega
      have em := powS_yes h h0'
      have hA := abs_bd ⟨ha1, ha2⟩
      by_cases hs : 0 < b ∧ absI a ≤ 1
      · obtain ⟨hb, hs⟩ := hs
        have h3 : a = -1 ∨ a = 0 ∨ a = 1 := by unfold absI at hs; omega
        rcases h3 with rfl | rfl | rfl
        · rw [neg_one_pow] at em
          by_cases hp : b % 2 = 0
          · rw [if_pos (by omega)] at em
            have hpb : (b % 2 == 0) = true := by simpa using hp
            have em2 : powS (-1) b = (1, 0) := em
            clear em hA h0 hp
            go_enter Try.func26, Try.ntmps26
            go_wp2_with (first | (go_at_call 59; refine (bothR _ _ _).mono ?_; rintro e w' ⟨rfl, rfl⟩) | (go_at_call 61; refine (absR _ _ (by omega) (by omega)).mono ?_; rintro e w' ⟨rfl, rfl⟩))
            go_ret2
            first | exact ⟨pair_mk em2, rfl⟩ | exact ⟨rfl, rfl⟩
          · rw [if_neg (by omega)] at em
            have hpb : (b % 2 == 0) = false := by simpa using hp
            have em2 : powS (-1) b = (-1, 0) := em
            clear em hA h0 hp
            go_enter Try.func26, Try.ntmps26
            go_wp2_with (first | (go_at_call 59; refine (bothR _ _ _).mono ?_; rintro e w' ⟨rfl, rfl⟩) | (go_at_call 61; refine (absR _ _ (by omega) (by omega)).mono ?_; rintro e w' ⟨rfl, rfl⟩))
            go_ret2
            first | exact ⟨pair_mk em2, rfl⟩ | exact ⟨rfl, rfl⟩
        · rw [zero_pow _ (by omega)] at em
          have em2 : powS 0 b = (0, 0) := em
          clear em hA h0
          go_enter Try.func26, Try.ntmps26
          go_wp2_with (first | (go_at_call 59; refine (bothR _ _ _).mono ?_; rintro e w' ⟨rfl, rfl⟩) | (go_at_call 61; refine (absR _ _ (by omega) (by omega)).mono ?_; rintro e w' ⟨rfl, rfl⟩))
          go_ret2
          first | exact ⟨pair_mk em2, rfl⟩ | exact ⟨rfl, rfl⟩
        · rw [one_pow] at em
          have em2 : powS 1 b = (1, 0) := em
          clear em hA h0
          go_enter Try.func26, Try.ntmps26
          go_wp2_with (first | (go_at_call 59; refine (bothR _ _ _).mono ?_; rintro e w' ⟨rfl, rfl⟩) | (go_at_call 61; refine (absR _ _ (by omega) (by omega)).mono ?_; rintro e w' ⟨rfl, rfl⟩))
          go_ret2
          first | exact ⟨pair_mk em2, rfl⟩ | exact ⟨rfl, rfl⟩
      · have hfa : fitsB a = true := fits_mk ⟨ha1, ha2⟩
        have hne : ¬ b = 0 → ¬ a = 0 := fun hb ha => hs ⟨by omega, by rw [ha]; decide⟩
        have hs' : ¬ 0 < b ∨ (0 < b ∧ 1 < absI a) := by omega
        clear h0 hA hs
        have loop : ∀ w : World, Calls Try.prog 26 #[.int .i64 a, .int .i64 b] w fun e w' => e = .returned (.tuple #[.int .i64 (powS a b).1, .int .i64 (powS a b).2]) ∧ w = w' := by
          intro w
          rcases hs' with hs' | ⟨hs', hs2⟩
          all_goals
            go_enter Try.func26, Try.ntmps26
            go_wp2_with (first | (go_at_call 59; refine (bothR _ _ _).mono ?_; rintro e w' ⟨rfl, rfl⟩) | (go_at_call 61; refine (absR _ _ (by assumption) (by assumption)).mono ?_; rintro e w' ⟨rfl, rfl⟩))
            go_loop [6, 7] (fun p i => ∃ k : Nat, (k : Int) ≤ b ∧ i = .int .i64 k ∧ p = .int .i64 (a ^ k) ∧ fitsB (a ^ k) = true) (fun _ i => b.toNat - (intOf i).toNat)
            case atStart => exact ⟨0, by omega, rfl, by rw [Int.pow_zero], by rw [Int.pow_zero]; exact fits_one⟩
            case round =>
              obtain ⟨k, hk, rfl, rfl, hf⟩ := hrel
              by_cases hlt : (k : Int) < b
              · by_cases hg : fitsB (a ^ k * a) = true
                · have e1 := mul_yes hf hfa hg
                  rw [pow_step] at hg
                  clear hne em
                  go_wp2_with (go_at_call 23; refine (mulR _ _ _).mono ?_; rintro e w' ⟨rfl, rfl⟩)
                  go_round
                  case rel => exact ⟨k + 1, by omega, by go_num, by rw [← pow_step], hg⟩
                  case measure => simp [intOf]; omega
                · have hg' : fitsB (a ^ k * a) = false := by simpa using hg
                  have e1 := mul_no hf hfa hg'
                  rw [rep_over (hne (by omega)) hlt hg'] at em
                  clear hne hg hg'
                  go_wp2_with (go_at_call 23; refine (mulR _ _ _).mono ?_; rintro e w' ⟨rfl, rfl⟩)
                  go_ret2
                  first | exact ⟨pair_mk em, rfl⟩ | exact ⟨rfl, rfl⟩
              · have ek : b.toNat = k := by omega
                rw [ek, chk_yes hf] at em
                clear hne ek
                go_wp2
                go_ret2
                first | exact ⟨pair_mk em, rfl⟩ | exact ⟨rfl, rfl⟩
        exact loop w
  · have h' : bothB a b = false := by simpa using h
    go_enter Try.func26, Try.ntmps26
    go_wp2_with (go_at_call 59; refine (bothR _ _ _).mono ?_; rintro e w' ⟨rfl, rfl⟩)
    go_ret2
    exact ⟨pair_mk (powS_no h'), rfl⟩
end Go.Proofs.Ytekbdiniibmhgaa.Num
