/-
  Layer 3: the reference's valid: a copy of a valid array, or the zero array.
  Layer 3: the reference's Scalar, Vector, Box and Boxes. (Written by wip/gen/array-makers.py.)
  Layer 3: the reference's At.
-/
import Derived.Test.YtkjbccodahleoaaBd12
import Derived.Test.YtkjbccodahleoaaBd5
import Derived.Deep.RegionHeldLaw
namespace Go.Proofs.Ytkjbccodahleoaa.Shape
open Go.RowKit

theorem GiveNew.form {A : Arr} {w w' : World} {e : Ending} (h : GiveNew A w e w') : ∃ k sa ls sc na ln nc ia li ic, e = .returned (.agg #[.int .i64 k, .slice sa ls sc, .slice na ln nc, .slice ia li ic]) ∧
    ArrOn (fun g => w.heap.size ≤ g) w' (.agg #[.int .i64 k, .slice sa ls sc, .slice na ln nc, .slice ia li ic]) A ∧ Below w.heap.size w w' := by
  obtain ⟨c0, c1, c2, c3, rfl, _, hO, hb⟩ := h
  have hO' := hO
  obtain ⟨k, sh, nu, it⟩ := A
  rw [ArrOn] at hO
  obtain ⟨sa, sc, na, nc, ia, ic, hv, -⟩ := hO
  rw [hv] at hO'
  exact ⟨k, sa, _, sc, na, _, nc, ia, _, ic, by rw [hv], hO', hb⟩
/-- The array that the result's variable holds after its four stores. -/
theorem give_set4 {w w2 : World} {R : Nat} {A : Arr} {z0 z1 z2 z3 c0 c1 c2 c3 : Value} (hR : w.heap.size ≤ R) (hq : Quad w2 R z0 z1 z2 z3) (hO : ArrOn (fun g => R < g) w2 (.agg #[c0, c1, c2, c3]) A) (hb : Below w.heap.size w w2) :
    GiveNew A w (.returned (.agg #[c0, c1, c2, c3])) ((((w2.setCell ⟨R, 0, none⟩ c0).setCell ⟨R, 1, none⟩ c1).setCell ⟨R, 2, none⟩ c2).setCell ⟨R, 3, none⟩ c3) := by
  obtain ⟨_, ho⟩ := set4 hq c0 c1 c2 c3
  exact GiveNew.mk (hO.keep fun g hp _ => ⟨by omega, fun o => World.cell?_of_block (ho g (by omega))⟩) (hb.trans (set4_below hR _ _ _ _))
theorem zero_on (P : Nat → Prop) (w : World) : ArrOn P w (.agg #[.int .i64 0, .slice none 0 0, .slice none 0 0, .slice none 0 0]) zeroA := by
  show ArrOn P w _ (.mk 0 [] [] [])
  rw [ArrOn]
  exact ⟨none, 0, none, 0, none, 0, rfl, by decide, ⟨ints_nil w, fun g => absurd rfl g⟩, ⟨ints_nil w, fun g => absurd rfl g⟩, Nat.le_refl _, by decide, 0, 0, fun g => absurd rfl g, by rw [ArrsOn]; trivial⟩

def validA (A : Arr) : Arr := if rightE A = 0 then A else zeroA
theorem below_two (w : World) (o o' : Obj) : Below w.heap.size w ((w.alloc o).alloc o') := ((Below.refl _ _).alloc (Nat.le_refl _) o).alloc (by simp) o'

end Go.Proofs.Ytkjbccodahleoaa.Shape

namespace Go.Proofs.Ytkjbccodahleoaa.Shape
open Go.RowKit

theorem reach_plain {k : Int} {sh nu : List Int} (h1 : sh.length * 8 ≤ 140737488351232) (h2 : nu.length * 8 ≤ 140737488351232) : Reach (.mk k sh nu []) := by
  rw [Reach]; exact ⟨h1, h2, by simp, by rw [ReachL]; trivial⟩
theorem nat_bd {n : Nat} (h : n ≤ 9223372036854775807) : -9223372036854775808 ≤ (n : Int) ∧ (n : Int) ≤ 9223372036854775807 := by omega

theorem below_three (w : World) (o o' o'' : Obj) : Below w.heap.size w (((w.alloc o).alloc o').alloc o'') := (below_two w o o').alloc (by simp; omega) _
end Go.Proofs.Ytkjbccodahleoaa.Shape

namespace Go.Proofs.Ytkjbccodahleoaa.Shape
open Go.RowKit

theorem GiveNew.drew {A : Arr} {w w' : World} {e : Ending} (h : GiveNew A w e w') : GiveNew A w e w'.drew := by
  obtain ⟨c0, c1, c2, c3, he, hc, hO, hb⟩ := h
  exact ⟨c0, c1, c2, c3, he, hc, ArrOn.keep (w := w') (w' := w'.drew) (fun g hp _ => ⟨hp, fun _ => rfl⟩) hO, hb.drew⟩
/-- One array in a block of its own, as the only item. -/
theorem boxed_on {P : Nat → Prop} {w : World} {b ic : Nat} {c0 c1 c2 c3 : Value} {A : Arr} (h : Quad w b c0 c1 c2 c3) (hb : P b) (hA : ArrOn P w (.agg #[c0, c1, c2, c3]) A) (hc : 1 ≤ ic) (hc2 : ic ≤ 1000000) :
    ArrOn P w (.agg #[.int .i64 3, .slice none 0 0, .slice none 0 0, .slice (some ⟨b, 0, none⟩) 1 ic]) (.mk 3 [] [] [A]) := by
  obtain ⟨m0, m1, m2, m3, -⟩ := h.cells
  rw [ArrOn]
  refine ⟨none, 0, none, 0, some ⟨b, 0, none⟩, ic, rfl, by decide, ⟨ints_nil w, fun g => absurd rfl g⟩, ⟨ints_nil w, fun g => absurd rfl g⟩, by simpa using hc, by omega, b, 0, fun _ => ⟨rfl, hb⟩, ?_⟩
  rw [ArrsOn, ArrsOn]
  exact ⟨⟨c0, c1, c2, c3, ⟨m0, m1, m2, m3⟩, hA⟩, trivial⟩
theorem one_on {P : Nat → Prop} {w : World} {b : Nat} {k n : Int} (hk : -9223372036854775808 ≤ k ∧ k ≤ 9223372036854775807) (hn : -9223372036854775808 ≤ n ∧ n ≤ 9223372036854775807) (h : w.cell? ⟨b, 0, none⟩ = some (.int .i64 n)) (hb : P b) :
    ArrOn P w (.agg #[.int .i64 k, .slice none 0 0, .slice (some ⟨b, 0, none⟩) 1 1, .slice none 0 0]) (.mk k [] [n] []) := by
  rw [ArrOn]
  exact ⟨none, 0, some ⟨b, 0, none⟩, 1, none, 0, rfl, hk, ⟨ints_nil w, fun g => absurd rfl g⟩, ⟨ints_one w b 1 n hn h (by decide) (by decide), fun _ ad e => by cases e; exact hb⟩, Nat.le_refl _, by decide, 0, 0, fun g => absurd rfl g, by rw [ArrsOn]; trivial⟩

/-- The element of an array, as a scalar. -/
def atA (A : Arr) (i : Int) : Arr := if i < 0 ∨ (aSize A : Int) ≤ i then zeroA else if A.kind = 3 then .mk 3 [] [] [A.items.getD i.toNat zeroA] else .mk A.kind [] [A.nums.getD i.toNat 0] []
end Go.Proofs.Ytkjbccodahleoaa.Shape
