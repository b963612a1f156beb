/-
  Layer 1: what the small functions do: Fits, both, checked, checkDivision, abs and the law's own 'is', of the program and of the reference.
-/
import Derived.Test.YtjbabbbldepjgaaRows
import Derived.Test.YtjbabbbldepjgaaNumMath
import Derived.WalkKit
import Derived.WalkSpells
import Derived.WalkLawsBesides
namespace Go.Proofs.Ytjbabbbldepjgaa.Num
open Go.RowKit

theorem ret_bool {x y : Bool} (h : x = y) : Ending.returned (.bool x) = .returned (.bool y) := by rw [h]

theorem fitsP (a : Int) (w : World) :
    Calls Try.prog 20 #[.int .i64 a] w fun e w' => e = .returned (.bool (fitsB a)) ∧ w = w' := by
  rcases Int.lt_or_le a (-4611686018427387903) with h | h
  · go_enter Try.func20, Try.ntmps20
    go_wp2
    go_ret
    exact ⟨ret_bool (by simp [fitsB]; omega), rfl⟩
  · rcases Int.lt_or_le 4611686018427387903 a with h2 | h2
    · go_enter Try.func20, Try.ntmps20
      go_wp2
      go_ret
      exact ⟨ret_bool (by simp [fitsB]; omega), rfl⟩
    · go_enter Try.func20, Try.ntmps20
      go_wp2
      go_ret
      exact ⟨ret_bool (by simp [fitsB]; omega), rfl⟩

theorem fitsR (a : Int) (w : World) :
    Calls Try.prog 21 #[.int .i64 a] w fun e w' => e = .returned (.bool (fitsB a)) ∧ w = w' := by
  rcases Int.lt_or_le a (-4611686018427387903) with h | h
  · go_enter Try.func21, Try.ntmps21
    go_wp2
    go_ret
    exact ⟨ret_bool (by simp [fitsB]; omega), rfl⟩
  · rcases Int.lt_or_le 4611686018427387903 a with h2 | h2
    · go_enter Try.func21, Try.ntmps21
      go_wp2
      go_ret
      exact ⟨ret_bool (by simp [fitsB]; omega), rfl⟩
    · go_enter Try.func21, Try.ntmps21
      go_wp2
      go_ret
      exact ⟨ret_bool (by simp [fitsB]; omega), rfl⟩

theorem bothP (a b : Int) (w : World) :
    Calls Try.prog 29 #[.int .i64 a, .int .i64 b] w fun e w' => e = .returned (.bool (bothB a b)) ∧ w = w' := by
  by_cases h : fitsB a = true
  · go_enter Try.func29, Try.ntmps29
    go_wp2_with (go_at_call 20; refine (fitsP _ _).mono ?_; rintro e w' ⟨rfl, rfl⟩)
    go_ret
    exact ⟨ret_bool (by simp [bothB, h]), rfl⟩
  · have h' : fitsB a = false := by simpa using h
    go_enter Try.func29, Try.ntmps29
    go_wp2_with (go_at_call 20; refine (fitsP _ _).mono ?_; rintro e w' ⟨rfl, rfl⟩)
    go_ret
    exact ⟨ret_bool (by simp [bothB, h']), rfl⟩

theorem bothR (a b : Int) (w : World) :
    Calls Try.prog 31 #[.int .i64 a, .int .i64 b] w fun e w' => e = .returned (.bool (bothB a b)) ∧ w = w' := by
  by_cases h : fitsB a = true
  · go_enter Try.func31, Try.ntmps31
    go_wp2_with (go_at_call 21; refine (fitsR _ _).mono ?_; rintro e w' ⟨rfl, rfl⟩)
    go_ret
    exact ⟨ret_bool (by simp [bothB, h]), rfl⟩
  · have h' : fitsB a = false := by simpa using h
    go_enter Try.func31, Try.ntmps31
    go_wp2_with (go_at_call 21; refine (fitsR _ _).mono ?_; rintro e w' ⟨rfl, rfl⟩)
    go_ret
    exact ⟨ret_bool (by simp [bothB, h']), rfl⟩

/-- A result of two ints. -/
theorem pair_mk {p : Int × Int} {x y : Int} (h : p = (x, y)) : Ending.returned (.tuple #[.int .i64 x, .int .i64 y]) = .returned (.tuple #[.int .i64 p.1, .int .i64 p.2]) := by rw [h]
theorem pair_eq {p q : Int × Int} (h : p = q) : Ending.returned (.tuple #[.int .i64 q.1, .int .i64 q.2]) = .returned (.tuple #[.int .i64 p.1, .int .i64 p.2]) := by rw [h]

theorem checkedP (n : Int) (w : World) :
    Calls Try.prog 30 #[.int .i64 n] w fun e w' => e = .returned (.tuple #[.int .i64 (chk n).1, .int .i64 (chk n).2]) ∧ w = w' := by
  by_cases h : fitsB n = true
  · go_enter Try.func30, Try.ntmps30
    go_wp2_with (go_at_call 20; refine (fitsP _ _).mono ?_; rintro e w' ⟨rfl, rfl⟩)
    go_ret2
    exact ⟨pair_mk (chk_yes h), rfl⟩
  · have h' : fitsB n = false := by simpa using h
    go_enter Try.func30, Try.ntmps30
    go_wp2_with (go_at_call 20; refine (fitsP _ _).mono ?_; rintro e w' ⟨rfl, rfl⟩)
    go_ret2
    exact ⟨pair_mk (chk_no h'), rfl⟩

theorem checkedR (n : Int) (w : World) :
    Calls Try.prog 32 #[.int .i64 n] w fun e w' => e = .returned (.tuple #[.int .i64 (chk n).1, .int .i64 (chk n).2]) ∧ w = w' := by
  by_cases h : fitsB n = true
  · go_enter Try.func32, Try.ntmps32
    go_wp2_with (go_at_call 21; refine (fitsR _ _).mono ?_; rintro e w' ⟨rfl, rfl⟩)
    go_ret2
    exact ⟨pair_mk (chk_yes h), rfl⟩
  · have h' : fitsB n = false := by simpa using h
    go_enter Try.func32, Try.ntmps32
    go_wp2_with (go_at_call 21; refine (fitsR _ _).mono ?_; rintro e w' ⟨rfl, rfl⟩)
    go_ret2
    exact ⟨pair_mk (chk_no h'), rfl⟩

/-- What the division asks first. -/
def cdS (a b : Int) : Int := if bothB a b = true then (if b = 0 then 20 else 0) else 1
theorem checkDivP (a b : Int) (w : World) :
    Calls Try.prog 34 #[.int .i64 a, .int .i64 b] w fun e w' => e = .returned (.int .i64 (cdS a b)) ∧ w = w' := by
  by_cases h : bothB a b = true
  · by_cases h0 : b = 0
    · subst h0
      go_enter Try.func34, Try.ntmps34
      go_wp2_with (go_at_call 29; refine (bothP _ _ _).mono ?_; rintro e w' ⟨rfl, rfl⟩)
      go_ret
      exact ⟨by simp [cdS, h], rfl⟩
    · have hz : (b == 0) = false := by simpa using h0
      go_enter Try.func34, Try.ntmps34
      go_wp2_with (go_at_call 29; refine (bothP _ _ _).mono ?_; rintro e w' ⟨rfl, rfl⟩)
      go_ret
      exact ⟨by simp [cdS, h, h0], rfl⟩
  · have h' : bothB a b = false := by simpa using h
    go_enter Try.func34, Try.ntmps34
    go_wp2_with (go_at_call 29; refine (bothP _ _ _).mono ?_; rintro e w' ⟨rfl, rfl⟩)
    go_ret
    exact ⟨by simp [cdS, h'], rfl⟩

def absI (a : Int) : Int := if a < 0 then -a else a
theorem abs_bd {a m : Int} (h : -m ≤ a ∧ a ≤ m) : 0 ≤ absI a ∧ absI a ≤ m := by unfold absI; omega
theorem absR (a : Int) (w : World) (h1 : -4611686018427387903 ≤ a) (h2 : a ≤ 4611686018427387903) :
    Calls Try.prog 33 #[.int .i64 a] w fun e w' => e = .returned (.int .i64 (absI a)) ∧ w = w' := by
  by_cases h : a < 0
  · go_enter Try.func33, Try.ntmps33
    go_wp2
    go_ret
    exact ⟨by simp [absI]; omega, rfl⟩
  · go_enter Try.func33, Try.ntmps33
    go_wp2
    go_ret
    exact ⟨by simp [absI]; omega, rfl⟩

/-- The law's own comparison, of a pair with itself. -/
theorem is_same (n e : Int) (w : World) :
    Calls Try.prog 11 #[.int .i64 n, .int .i64 e, .int .i64 n, .int .i64 e] w fun x w' => x = .returned (.bool true) ∧ w = w' := by
  go_enter Try.func11, Try.ntmps11
  go_wp2
  go_ret
  exact ⟨rfl, rfl⟩
end Go.Proofs.Ytjbabbbldepjgaa.Num
