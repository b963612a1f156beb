/-
  Layer 3: the reference's Of: what the loop keeps.
-/
import Derived.Test.YtngcahaidlgkfaaDoorArrOf1
namespace Go.Proofs.YtngcahaidlgkfaaDoor.Shape
open Go.RowKit

/-- A block that neither the literal nor the gathered row lies in, and that is no older than W0. -/
def Far (W0 : World) (bx : Nat) (v : Value) (g : Nat) : Prop := W0.heap.size ≤ g ∧ g ≠ bx ∧ v.ownBlock ≠ some g
/-- What Of keeps: the literal's block and the row v that it gathers. -/
structure OInv (W0 wr : World) (bx : Nat) (k : Int) (sh : List Int) (c2 c3 v : Value) (e : TypeId) (size n : Nat) (qs : List Value) : Prop where
  bel : Below W0.heap.size W0 wr
  bxl : W0.heap.size ≤ bx
  own : wr.ownsRow (bx + 1) e size v n qs
  blk : ∃ a1 c1, Quad wr bx (.int .i64 k) (.slice a1 sh.length c1) c2 c3 ∧ IntsOn (Far W0 bx v) wr a1 c1 sh
/-- The world behind an element: what is kept of the one before. -/
theorem of_kept {W0 wr w1 w2 : World} {bx n g cap : Nat} {k : Int} {sh : List Int} {c2 c3 v d0 d1 d2 d3 : Value} {e : TypeId} {size : Nat} {qs news : List Value} (h : OInv W0 wr bx k sh c2 c3 v e size n qs) (b1 : Below wr.heap.size wr w1) (P : Put1 w1 w2 (bx + 1) e size n v qs news g cap) :
    (∀ b, Far W0 bx v b → b < wr.heap.size → Far W0 bx (.slice (some ⟨g, 0, none⟩) (n + 1) cap) b ∧ ∀ o, ((((w2.setCell ⟨bx, 0, none⟩ d0).setCell ⟨bx, 1, none⟩ d1).setCell ⟨bx, 2, none⟩ d2).setCell ⟨bx, 3, none⟩ d3).cell? ⟨b, o, none⟩ = wr.cell? ⟨b, o, none⟩) ∧
    (∀ b, wr.heap.size ≤ b → b < w1.heap.size → Far W0 bx (.slice (some ⟨g, 0, none⟩) (n + 1) cap) b ∧ ∀ o, ((((w2.setCell ⟨bx, 0, none⟩ d0).setCell ⟨bx, 1, none⟩ d1).setCell ⟨bx, 2, none⟩ d2).setCell ⟨bx, 3, none⟩ d3).cell? ⟨b, o, none⟩ = w1.cell? ⟨b, o, none⟩) := by
  obtain ⟨bel, bxl, own, a1, c1, blk, i1⟩ := h
  have hv := own.lt
  have s0 := bel.size
  have s1 := b1.size
  have hbx := blk.lt
  have hset : ∀ b, b ≠ bx → ((((w2.setCell ⟨bx, 0, none⟩ d0).setCell ⟨bx, 1, none⟩ d1).setCell ⟨bx, 2, none⟩ d2).setCell ⟨bx, 3, none⟩ d3).heap[b]? = w2.heap[b]? := fun b hb => by
    rw [set_other _ _ _ _ _ hb, set_other _ _ _ _ _ hb, set_other _ _ _ _ _ hb, set_other _ _ _ _ _ hb]
  have hgb : ∀ b, v.ownBlock ≠ some b → b < w1.heap.size → (Value.slice (some ⟨g, 0, none⟩) (n + 1) cap).ownBlock ≠ some b := by
    intro b hn hb e
    have e' : g = b := by simpa [Value.ownBlock] using e
    subst e'
    rcases P.at' with h1 | h1
    · exact hn h1
    · omega
  refine ⟨fun b hF hb => ⟨⟨hF.1, hF.2.1, hgb b hF.2.2 (by omega)⟩, fun o => World.cell?_of_block ((hset b hF.2.1).trans ((P.far b (by omega) hF.2.2).trans (b1.block b hb)))⟩, fun b hF hb => ?_⟩
  have hne : v.ownBlock ≠ some b := fun e => by have := (hv b e).2; omega
  exact ⟨⟨by omega, by omega, hgb b hne hb⟩, fun o => World.cell?_of_block ((hset b (by omega)).trans (P.far b hb hne))⟩
theorem of_step {W0 wr w1 w2 : World} {bx n g cap : Nat} {k : Int} {sh : List Int} {c2 c3 v d2 d3 : Value} {e : TypeId} {size : Nat} {qs news : List Value} {a1 : Option Addr} {c1 : Nat} (h : OInv W0 wr bx k sh c2 c3 v e size n qs) (b1 : Below wr.heap.size wr w1) (P : Put1 w1 w2 (bx + 1) e size n v qs news g cap)
    (blk : Quad wr bx (.int .i64 k) (.slice a1 sh.length c1) c2 c3) (i1 : IntsOn (Far W0 bx v) wr a1 c1 sh) :
    OInv W0 ((((w2.setCell ⟨bx, 0, none⟩ (.int .i64 k)).setCell ⟨bx, 1, none⟩ (.slice a1 sh.length c1)).setCell ⟨bx, 2, none⟩ d2).setCell ⟨bx, 3, none⟩ d3) bx k sh d2 d3 (.slice (some ⟨g, 0, none⟩) (n + 1) cap) e size (n + 1) (qs ++ news) := by
  obtain ⟨keep, -⟩ := of_kept (d0 := .int .i64 k) (d1 := .slice a1 sh.length c1) (d2 := d2) (d3 := d3) h b1 P
  obtain ⟨bel, bxl, own, -⟩ := h
  have hv := own.lt
  have s1 := b1.size
  have hbx := blk.lt
  have hg := P.own.lt g rfl
  have hb2 : Quad w2 bx (.int .i64 k) (.slice a1 sh.length c1) c2 c3 := blk.keep ((P.far bx (by omega) (fun e => by have := (hv bx e).1; omega)).trans (b1.block bx hbx))
  have go : ∀ {w : World} {o : Nat} {u : Value}, w.ownsRow (bx + 1) e size (.slice (some ⟨g, 0, none⟩) (n + 1) cap) (n + 1) (qs ++ news) → (w.setCell ⟨bx, o, none⟩ u).ownsRow (bx + 1) e size (.slice (some ⟨g, 0, none⟩) (n + 1) cap) (n + 1) (qs ++ news) :=
    fun hw => ownsRow_setCell_other hw (by simp only [Value.ownBlock, ne_eq, Option.some.injEq]; omega) _
  refine ⟨((bel.trans (b1.mono bel.size)).trans (P.bel.mono (by omega))).trans (set4_below bxl _ _ _ _), bxl, go (go (go (go P.own))), a1, c1, (set4 hb2 _ _ _ _).1, i1.keep keep⟩
/-- The literal, as the region leaves it. -/
theorem of_start {W0 W : World} {bx : Nat} {k : Int} {sh : List Int} {a1 : Option Addr} {c1 : Nat} {e : TypeId} {size : Nat} (bel : Below W0.heap.size W0 W) (bxl : W0.heap.size ≤ bx) (q : Quad W bx (.int .i64 k) (.slice a1 sh.length c1) (.slice none 0 0) (.slice none 0 0)) (i1 : IntsOn (fun g => W0.heap.size ≤ g ∧ g ≠ bx) W a1 c1 sh) :
    OInv W0 W bx k sh (.slice none 0 0) (.slice none 0 0) (.slice none 0 0) e size 0 [] :=
  ⟨bel, bxl, World.ownsRow_nil _ _ _ _, a1, c1, q, i1.mono fun g hg => ⟨hg.1, hg.2, by simp [Value.ownBlock]⟩⟩
/-- .. whether the literal's block was made behind the copy of the shape or ahead of it. -/
theorem of_start1 {W0 w1 : World} {k : Int} {sh : List Int} {a1 : Option Addr} {c1 : Nat} {e : TypeId} {size : Nat} (i1 : IntsOn (fun g => W0.heap.size ≤ g) w1 a1 c1 sh) (e1 : Below W0.heap.size W0 w1) :
    OInv W0 (w1.alloc (.cells #[.int .i64 k, .slice a1 sh.length c1, .slice none 0 0, .slice none 0 0] 26)) w1.heap.size k sh (.slice none 0 0) (.slice none 0 0) (.slice none 0 0) e size 0 [] := by
  have hal := below_new w1 (.cells #[.int .i64 k, .slice a1 sh.length c1, .slice none 0 0, .slice none 0 0] 26)
  exact of_start (Below.then e1 hal) e1.size (Quad.new _ _ _ _ _) (i1.keep fun g hp hg => ⟨⟨hp, by omega⟩, fun o => hal.cell hg⟩)
theorem of_start2 {W0 w1 : World} {o : Obj} {k : Int} {sh : List Int} {a1 : Option Addr} {c1 : Nat} {e : TypeId} {size : Nat} {z0 z1 z2 z3 : Value} (e1 : Below (W0.alloc o).heap.size (W0.alloc o) w1) (i1 : IntsOn (fun g => (W0.alloc o).heap.size ≤ g) w1 a1 c1 sh) (q : Quad w1 W0.heap.size z0 z1 z2 z3) :
    OInv W0 ((((w1.setCell ⟨W0.heap.size, 0, none⟩ (.int .i64 k)).setCell ⟨W0.heap.size, 1, none⟩ (.slice a1 sh.length c1)).setCell ⟨W0.heap.size, 2, none⟩ (.slice none 0 0)).setCell ⟨W0.heap.size, 3, none⟩ (.slice none 0 0)) W0.heap.size k sh (.slice none 0 0) (.slice none 0 0) (.slice none 0 0) e size 0 [] := by
  have hal := below_new W0 o
  have s3 : (W0.alloc o).heap.size = W0.heap.size + 1 := by simp
  obtain ⟨hq, ho⟩ := set4 q (.int .i64 k) (.slice a1 sh.length c1) (.slice none 0 0) (.slice none 0 0)
  exact of_start ((Below.then hal e1).trans (set4_below (Nat.le_refl _) _ _ _ _)) (Nat.le_refl _) hq (i1.keep fun g hp _ => ⟨⟨by omega, by omega⟩, fun o => World.cell?_of_block (ho g (by omega))⟩)
end Go.Proofs.YtngcahaidlgkfaaDoor.Shape
