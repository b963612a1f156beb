/-
  Layer 3: the reference's Of: what it returns, and its errors ahead of the loop.
-/
import Derived.Test.YtngcahaidlgkfaaDoorArrPut
import Derived.Test.YtngcahaidlgkfaaDoorArrAt
namespace Go.Proofs.YtngcahaidlgkfaaDoor.Shape
open Go.RowKit

/-- A new array and an error as the results of a call. -/
def GiveNewE (A : Arr) (er : Int) (w : World) (e : Ending) (w' : World) : Prop :=
  ∃ c0 c1 c2 c3, e = .returned (.tuple #[.agg #[c0, c1, c2, c3], .int .i64 er]) ∧ GiveNew A w (.returned (.agg #[c0, c1, c2, c3])) w'
theorem GiveNewE.mk {A : Arr} {er : Int} {w w' : World} {c0 c1 c2 c3 : Value} (h : GiveNew A w (.returned (.agg #[c0, c1, c2, c3])) w') : GiveNewE A er w (.returned (.tuple #[.agg #[c0, c1, c2, c3], .int .i64 er])) w' := ⟨c0, c1, c2, c3, rfl, h⟩

/-- The first n elements of a list, repeated cyclically. -/
def cyc {α : Type} (l : List α) (z : α) (n : Nat) : List α := (List.range n).map (fun i => l.getD (i % l.length) z)
theorem cyc_len {α : Type} (l : List α) (z : α) (n : Nat) : (cyc l z n).length = n := by simp [cyc]
theorem cyc_succ {α : Type} (l : List α) (z : α) (n : Nat) : cyc l z (n + 1) = cyc l z n ++ [l.getD (n % l.length) z] := by
  rw [cyc, List.range_succ, List.map_append]; rfl
/-- What Of takes its elements from. -/
def srcA (F : Arr) : Arr := if aSize F = 0 then fillA F.kind else F
def ofA (sh : List Int) (F : Arr) : Arr × Int :=
  if rightE F = 0 then
    (if dimsE sh = 0 then
      (if (srcA F).kind = 3 then
        (if pr sh + sumW (cyc (srcA F).items zeroA (pr sh).toNat) ≤ 262144 then (.mk 3 sh [] (cyc (srcA F).items zeroA (pr sh).toNat), 0) else (zeroA, 21))
      else (.mk (srcA F).kind sh (cyc (srcA F).nums 0 (pr sh).toNat) [], 0))
    else (zeroA, dimsE sh))
  else (zeroA, 1)

end Go.Proofs.YtngcahaidlgkfaaDoor.Shape
