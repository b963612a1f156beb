/-
  Layer 1: Add, Sub, Mul, Div and Mod of the program and of the reference: each returns the pair that the plain function gives.
-/
import Derived.Test.YtjbabbbldepjgaaNumLeaf
namespace Go.Proofs.Ytjbabbbldepjgaa.Num
open Go.RowKit

theorem addP (a b : Int) (w : World) :
    Calls Try.prog 9 #[.int .i64 a, .int .i64 b] w fun e w' => e = .returned (.tuple #[.int .i64 (addS a b).1, .int .i64 (addS a b).2]) ∧ w = w' := by
  by_cases h : bothB a b = true
  · obtain ⟨⟨ha1, ha2⟩, hb1, hb2⟩ := both_def.1 h
    go_enter Try.func9, Try.ntmps9
    go_wp2_with (first | (go_at_call 29; refine (bothP _ _ _).mono ?_; rintro e w' ⟨rfl, rfl⟩) | (go_at_call 30; refine (checkedP _ _).mono ?_; rintro e w' ⟨rfl, rfl⟩))
    go_ret2
    exact ⟨pair_eq (addS_yes h), rfl⟩
  · have h' : bothB a b = false := by simpa using h
    go_enter Try.func9, Try.ntmps9
    go_wp2_with (go_at_call 29; refine (bothP _ _ _).mono ?_; rintro e w' ⟨rfl, rfl⟩)
    go_ret2
    exact ⟨pair_mk (addS_no h'), rfl⟩

theorem addR (a b : Int) (w : World) :
    Calls Try.prog 10 #[.int .i64 a, .int .i64 b] w fun e w' => e = .returned (.tuple #[.int .i64 (addS a b).1, .int .i64 (addS a b).2]) ∧ w = w' := by
  by_cases h : bothB a b = true
  · obtain ⟨⟨ha1, ha2⟩, hb1, hb2⟩ := both_def.1 h
    go_enter Try.func10, Try.ntmps10
    go_wp2_with (first | (go_at_call 31; refine (bothR _ _ _).mono ?_; rintro e w' ⟨rfl, rfl⟩) | (go_at_call 32; refine (checkedR _ _).mono ?_; rintro e w' ⟨rfl, rfl⟩))
    go_ret2
    exact ⟨pair_eq (addS_yes h), rfl⟩
  · have h' : bothB a b = false := by simpa using h
    go_enter Try.func10, Try.ntmps10
    go_wp2_with (go_at_call 31; refine (bothR _ _ _).mono ?_; rintro e w' ⟨rfl, rfl⟩)
    go_ret2
    exact ⟨pair_mk (addS_no h'), rfl⟩

theorem subP (a b : Int) (w : World) :
    Calls Try.prog 12 #[.int .i64 a, .int .i64 b] w fun e w' => e = .returned (.tuple #[.int .i64 (subS a b).1, .int .i64 (subS a b).2]) ∧ w = w' := by
  by_cases h : bothB a b = true
  · obtain ⟨⟨ha1, ha2⟩, hb1, hb2⟩ := both_def.1 h
    go_enter Try.func12, Try.ntmps12
    go_wp2_with (first | (go_at_call 29; refine (bothP _ _ _).mono ?_; rintro e w' ⟨rfl, rfl⟩) | (go_at_call 30; refine (checkedP _ _).mono ?_; rintro e w' ⟨rfl, rfl⟩))
    go_ret2
    exact ⟨pair_eq (subS_yes h), rfl⟩
  · have h' : bothB a b = false := by simpa using h
    go_enter Try.func12, Try.ntmps12
    go_wp2_with (go_at_call 29; refine (bothP _ _ _).mono ?_; rintro e w' ⟨rfl, rfl⟩)
    go_ret2
    exact ⟨pair_mk (subS_no h'), rfl⟩

theorem subR (a b : Int) (w : World) :
    Calls Try.prog 13 #[.int .i64 a, .int .i64 b] w fun e w' => e = .returned (.tuple #[.int .i64 (subS a b).1, .int .i64 (subS a b).2]) ∧ w = w' := by
  by_cases h : bothB a b = true
  · obtain ⟨⟨ha1, ha2⟩, hb1, hb2⟩ := both_def.1 h
    go_enter Try.func13, Try.ntmps13
    go_wp2_with (first | (go_at_call 31; refine (bothR _ _ _).mono ?_; rintro e w' ⟨rfl, rfl⟩) | (go_at_call 32; refine (checkedR _ _).mono ?_; rintro e w' ⟨rfl, rfl⟩))
    go_ret2
    exact ⟨pair_eq (subS_yes h), rfl⟩
  · have h' : bothB a b = false := by simpa using h
    go_enter Try.func13, Try.ntmps13
    go_wp2_with (go_at_call 31; refine (bothR _ _ _).mono ?_; rintro e w' ⟨rfl, rfl⟩)
    go_ret2
    exact ⟨pair_mk (subS_no h'), rfl⟩
end Go.Proofs.Ytjbabbbldepjgaa.Num
