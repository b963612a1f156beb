/-
  Layer 3: the reference's valid: a copy of a valid array, or the zero array.
-/
import Derived.Test.YtngcahaidlgkfaaDoorArrClone
import Derived.Test.YtngcahaidlgkfaaDoorArrSame
import Derived.Test.YtngcahaidlgkfaaDoorArrFill
namespace Go.Proofs.YtngcahaidlgkfaaDoor.Shape
open Go.RowKit

theorem GiveNew.form {A : Arr} {w w' : World} {e : Ending} (h : GiveNew A w e w') : ∃ k sa ls sc na ln nc ia li ic, e = .returned (.agg #[.int .i64 k, .slice sa ls sc, .slice na ln nc, .slice ia li ic]) ∧
    ArrOn (fun g => w.heap.size ≤ g) w' (.agg #[.int .i64 k, .slice sa ls sc, .slice na ln nc, .slice ia li ic]) A ∧ Below w.heap.size w w' := by
  obtain ⟨c0, c1, c2, c3, rfl, _, hO, hb⟩ := h
  have hO' := hO
  obtain ⟨k, sh, nu, it⟩ := A
  rw [ArrOn] at hO
  obtain ⟨sa, sc, na, nc, ia, ic, hv, -⟩ := hO
  rw [hv] at hO'
  exact ⟨k, sa, _, sc, na, _, nc, ia, _, ic, by rw [hv], hO', hb⟩
/-- The array that the result's variable holds after its four stores. -/
theorem give_set4 {w w2 : World} {R : Nat} {A : Arr} {z0 z1 z2 z3 c0 c1 c2 c3 : Value} (hR : w.heap.size ≤ R) (hq : Quad w2 R z0 z1 z2 z3) (hO : ArrOn (fun g => R < g) w2 (.agg #[c0, c1, c2, c3]) A) (hb : Below w.heap.size w w2) :
    GiveNew A w (.returned (.agg #[c0, c1, c2, c3])) ((((w2.setCell ⟨R, 0, none⟩ c0).setCell ⟨R, 1, none⟩ c1).setCell ⟨R, 2, none⟩ c2).setCell ⟨R, 3, none⟩ c3) := by
  obtain ⟨_, ho⟩ := set4 hq c0 c1 c2 c3
  exact GiveNew.mk (hO.keep fun g hp _ => ⟨by omega, fun o => World.cell?_of_block (ho g (by omega))⟩) (hb.trans (set4_below hR _ _ _ _))
theorem zero_on (P : Nat → Prop) (w : World) : ArrOn P w (.agg #[.int .i64 0, .slice none 0 0, .slice none 0 0, .slice none 0 0]) zeroA := by
  show ArrOn P w _ (.mk 0 [] [] [])
  rw [ArrOn]
  exact ⟨none, 0, none, 0, none, 0, rfl, by decide, ⟨ints_nil w, fun g => absurd rfl g⟩, ⟨ints_nil w, fun g => absurd rfl g⟩, Nat.le_refl _, by decide, 0, 0, fun g => absurd rfl g, by rw [ArrsOn]; trivial⟩

def validA (A : Arr) : Arr := if rightE A = 0 then A else zeroA
theorem below_two (w : World) (o o' : Obj) : Below w.heap.size w ((w.alloc o).alloc o') := ((Below.refl _ _).alloc (Nat.le_refl _) o).alloc (by simp) o'

end Go.Proofs.YtngcahaidlgkfaaDoor.Shape
