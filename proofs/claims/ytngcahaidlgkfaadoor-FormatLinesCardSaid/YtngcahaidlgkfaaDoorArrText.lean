/-
  Layer 3: the reference's Text.
-/
import Derived.Test.YtngcahaidlgkfaaDoorArrMakers
import Derived.Test.YtngcahaidlgkfaaDoorArrTextMath
namespace Go.Proofs.YtngcahaidlgkfaaDoor.Shape
open Go.RowKit

/-- What Text keeps while it gathers the code points: the result's variable, the runes, the shape, the literal and the row. -/
structure TInv (w wr : World) (bs : Nat) (n : Nat) (R : List Int) (v : Value) (l : List Int) : Prop where
  bsl : w.heap.size + 2 ≤ bs
  res : Quad wr w.heap.size (.int .i64 0) (.slice none 0 0) (.slice none 0 0) (.slice none 0 0)
  run : ∀ j (h : j < R.length), wr.cell? ⟨w.heap.size + 1, j, none⟩ = some (.int .i32 R[j])
  len : wr.cell? ⟨bs, 0, none⟩ = some (.int .i64 n)
  blk : Quad wr (bs + 1) (.int .i64 2) (.slice (some ⟨bs, 0, none⟩) 1 1) v (.slice none 0 0)
  own : wr.ownsRow (bs + 2) 3 1 v l.length (l.map (Value.int .i64))
  bel : Below w.heap.size w wr
theorem text_step {w wr w1 w2 : World} {bs n m g cap : Nat} {R l : List Int} {v : Value} {x : Int} {o : Obj} (h : TInv w wr bs n R v l) (b1 : Below wr.heap.size wr w1) (hm : m = l.length + 1)
    (hown : w2.ownsRow (bs + 2) 3 1 (.slice (some ⟨g, 0, none⟩) m cap) m (l.map (Value.int .i64) ++ [.int .i64 x])) (hgrow : (w1.alloc o).grownBy w2 v.ownBlock) :
    TInv w (w2.setCell ⟨bs + 1, 2, none⟩ (.slice (some ⟨g, 0, none⟩) m cap)) bs n R (.slice (some ⟨g, 0, none⟩) m cap) (l ++ [x]) := by
  subst hm
  obtain ⟨bsl, res, run, len, blk, own, bel⟩ := h
  have hv := own.lt
  have hg := hown.lt g rfl
  have hbx := blk.lt
  have s1 := b1.size
  have s3 : (w1.alloc o).heap.size = w1.heap.size + 1 := by simp
  have kept0 : ∀ b, b ≤ bs + 1 → w2.heap[b]? = wr.heap[b]? := fun b hb =>
    ((hgrow.block b (by omega) (fun e => by have := hv b e.symm; omega)).trans (Below.heap_alloc _ _ _ (by omega))).trans (b1.block b (by omega))
  have keptS : ∀ b, b ≤ bs → (w2.setCell ⟨bs + 1, 2, none⟩ (.slice (some ⟨g, 0, none⟩) (l.length + 1) cap)).heap[b]? = wr.heap[b]? := fun b hb =>
    (set_other _ _ _ _ _ (by omega)).trans (kept0 b (by omega))
  refine ⟨bsl, res.keep (keptS _ (by omega)), fun j hj => (World.cell?_of_block (keptS (w.heap.size + 1) (by omega))).trans (run j hj), (World.cell?_of_block (keptS bs (Nat.le_refl _))).trans len,
    ((blk.keep (kept0 _ (Nat.le_refl _))).set _).2.2.1, ?_, ?_⟩
  · have e1 : (l ++ [x]).length = l.length + 1 := by simp
    have e2 : (l ++ [x]).map (Value.int .i64) = l.map (Value.int .i64) ++ [.int .i64 x] := by simp
    rw [e1, e2]
    exact ownsRow_setCell_other hown (by simp only [Value.ownBlock, ne_eq, Option.some.injEq]; omega) _
  · have hal : Below w.heap.size w (w1.alloc o) := (bel.trans (b1.mono bel.size)).alloc (by have := bel.size; omega) _
    refine Below.setCell (hal.grown hgrow (by have := bel.size; omega) fun b e => ?_) (p := ⟨bs + 1, 2, none⟩) (by show _ ≤ bs + 1; omega) _
    have := hv b e
    omega

theorem text_mid {wr w1 w2 : World} {bs b n m : Nat} {x0 x1 x2 x3 v : Value} {qs : List Value} {o : Obj} (h : Quad wr b x0 x1 x2 x3) (hb : b ≤ bs + 1) (ho : wr.ownsRow (bs + 2) 3 m v n qs) (b1 : Below wr.heap.size wr w1) (hgrow : (w1.alloc o).grownBy w2 v.ownBlock) : Quad w2 b x0 x1 x2 x3 := by
  have s1 := b1.size
  have s3 : (w1.alloc o).heap.size = w1.heap.size + 1 := by simp
  have hl := h.lt
  exact h.keep (((hgrow.block b (by omega) (fun e => by have := ho.lt b e.symm; omega)).trans (Below.heap_alloc _ _ _ (by omega))).trans (b1.block b hl))

def textA (s : ByteArray) : Arr := if ((runesBytes (rn s)).toList == s.toList) = true then validA (.mk 2 [((rn s).length : Int)] (rn s) []) else zeroA

end Go.Proofs.YtngcahaidlgkfaaDoor.Shape
