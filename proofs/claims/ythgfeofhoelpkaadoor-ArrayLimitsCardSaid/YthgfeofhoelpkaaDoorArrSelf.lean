/-
  Layer 3: an array equals itself; the reference's Same at two copies.
-/
import Derived.Test.YthgfeofhoelpkaaDoorArrOf5
namespace Go.Proofs.YthgfeofhoelpkaaDoor.Shape
open Go.RowKit

mutual
theorem eqA_refl : ∀ A, eqA A A = true
  | .mk k sh nu it => by
    have h := eqL_refl it
    rw [eqA, h]; simp [sameB]
theorem eqL_refl : ∀ l, eqL l l = true
  | [] => by rw [eqL]
  | A :: r => by rw [eqL, eqA_refl A, eqL_refl r]; rfl
end
theorem sameRX {v v2 : Value} {A : Arr} {w : World} (h : ArrAt w v A) (g : ArrAt w v2 A) : Calls Tryd.prog 22 #[v, v2] w fun e w' => e = .returned (.bool true) ∧ Below w.heap.size w w' := by
  have := sameR3 v v2 A A w h g
  rw [eqA_refl] at this
  exact this
theorem GiveNewE.form {A : Arr} {er : Int} {w w' : World} {e : Ending} (h : GiveNewE A er w e w') : ∃ k sa ls sc na ln nc ia li ic, e = .returned (.tuple #[.agg #[.int .i64 k, .slice sa ls sc, .slice na ln nc, .slice ia li ic], .int .i64 er]) ∧
    ArrAt w' (.agg #[.int .i64 k, .slice sa ls sc, .slice na ln nc, .slice ia li ic]) A ∧ Below w.heap.size w w' := by
  obtain ⟨c0, c1, c2, c3, rfl, hg⟩ := h
  obtain ⟨k, sa, ls, sc, na, ln, nc, ia, li, ic, hv, hO, hb⟩ := hg.form
  simp only [Ending.returned.injEq] at hv
  exact ⟨k, sa, ls, sc, na, ln, nc, ia, li, ic, by rw [hv], hO.at, hb⟩
end Go.Proofs.YthgfeofhoelpkaaDoor.Shape
