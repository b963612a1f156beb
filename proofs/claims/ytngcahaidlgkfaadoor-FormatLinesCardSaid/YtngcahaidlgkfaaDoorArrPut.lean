/-
  Layer 3: the reference's Put: it appends one element to a row that its caller has gathered. (Written by wip/gen/array-put.py.)
-/
import Derived.Test.YtngcahaidlgkfaaDoorArrText
namespace Go.Proofs.YtngcahaidlgkfaaDoor.Shape
open Go.RowKit

/-- What an append of one element to the row v leaves. -/
structure Put1 (w w' : World) (B : Nat) (e : TypeId) (size n : Nat) (v : Value) (qs news : List Value) (g cap : Nat) : Prop where
  own : w'.ownsRow B e size (.slice (some ⟨g, 0, none⟩) (n + 1) cap) (n + 1) (qs ++ news)
  far : ∀ b, b < w.heap.size → v.ownBlock ≠ some b → w'.heap[b]? = w.heap[b]?
  big : w.heap.size ≤ w'.heap.size
  bel : Below B w w'
  at' : v.ownBlock = some g ∨ w.heap.size ≤ g
theorem Put1.set {w w' : World} {B n g cap R o : Nat} {e : TypeId} {size : Nat} {v : Value} {qs news : List Value} (h : Put1 w w' B e size n v qs news g cap) (hR : w.heap.size ≤ R) (hB : B ≤ w.heap.size) (hg : g ≠ R) (u : Value) : Put1 w (w'.setCell ⟨R, o, none⟩ u) B e size n v qs news g cap := by
  obtain ⟨h1, h2, h3, h4, h5⟩ := h
  have hs : (w'.setCell ⟨R, o, none⟩ u).heap.size = w'.heap.size := by simp
  exact ⟨ownsRow_setCell_other h1 (by simp only [Value.ownBlock, ne_eq, Option.some.injEq]; omega) _, fun b hb hn => (set_other _ _ _ _ _ (by omega)).trans (h2 b hb hn), by omega, h4.setCell (by show _ ≤ R; omega) _, h5⟩
theorem Put1.of {w w4 w' : World} {B n g cap : Nat} {e : TypeId} {size : Nat} {v : Value} {qs news : List Value} (own : w.ownsRow B e size v n qs) (b4 : Below w.heap.size w w4) (hB : B ≤ w.heap.size) (h1 : w'.ownsRow B e size (.slice (some ⟨g, 0, none⟩) (n + 1) cap) (n + 1) (qs ++ news)) (hg : w4.grownBy w' v.ownBlock) (hat : v.ownBlock = some g ∨ g = w4.heap.size) : Put1 w w' B e size n v qs news g cap := by
  have hs := b4.size
  refine ⟨h1, fun b hb hn => (hg.block b (by omega) (Ne.symm hn)).trans (b4.block b hb), Nat.le_trans hs hg.size, (b4.mono hB).grown hg (by omega) (fun k hk => (own.lt k hk).1), ?_⟩
  rcases hat with h | h
  · exact Or.inl h
  · exact Or.inr (by omega)
theorem below_four (w : World) (o o' o'' p : Obj) : Below w.heap.size w ((((w.alloc o).alloc o').alloc o'').alloc p) := (below_three w o o' o'').alloc (by simp; omega) _
theorem put_mid {w4 w5 : World} {b : Nat} {x0 x1 x2 x3 v : Value} (h : Quad w4 b x0 x1 x2 x3) (hg : w4.grownBy w5 v.ownBlock) (hn : v.ownBlock ≠ some b) : Quad w5 b x0 x1 x2 x3 :=
  h.keep (hg.block b h.lt (Ne.symm hn))

end Go.Proofs.YtngcahaidlgkfaaDoor.Shape
