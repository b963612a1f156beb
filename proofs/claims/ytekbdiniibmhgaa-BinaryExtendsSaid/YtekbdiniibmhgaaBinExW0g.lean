/-
  Layer 16: what the loop of the law BinaryExtends keeps: a row of equal numbers in the field of a block.
-/
import Derived.Test.YtekbdiniibmhgaaBinLaw2g
import Derived.Test.YtekbdiniibmhgaaBinExtg
import Derived.Test.YtekbdiniibmhgaaBinGW
namespace Go.Proofs.Ytekbdiniibmhgaa.Shape
open Go.RowKit
set_option linter.unusedVariables false
set_option linter.unusedSimpArgs false

structure ZI (W0 wr : World) (Zb : Nat) (k : Int) (sa : Option Addr) (ls sc : Nat) (v : Value) (j : Nat) (x : Int) : Prop where
  le : W0.heap.size ≤ Zb
  blk : Quad wr Zb (.int .i64 k) (.slice sa ls sc) v (.slice none 0 0)
  own : wr.ownsRow (Zb + 1) 3 1 v j (List.replicate j (.int .i64 x))
  bel : Below W0.heap.size W0 wr
theorem ZI.start (W0 : World) (k : Int) (sa : Option Addr) (ls sc : Nat) (x : Int) : ZI W0 (W0.alloc (.cells #[.int .i64 k, .slice sa ls sc, .slice none 0 0, .slice none 0 0] 33)) W0.heap.size k sa ls sc (.slice none 0 0) 0 x :=
  ⟨Nat.le_refl _, Quad.new _ _ _ _ _, World.ownsRow_nil _ _ _ _, below_new _ _⟩
theorem ZI.mid {W0 wr w1 w2 : World} {Zb j b : Nat} {k x : Int} {sa : Option Addr} {ls sc : Nat} {v x0 x1 x2 x3 : Value} {o : Obj} (h : ZI W0 wr Zb k sa ls sc v j x) (hq : Quad wr b x0 x1 x2 x3) (hb : b ≤ Zb) (b1 : Below wr.heap.size wr w1) (hgrow : (w1.alloc o).grownBy w2 v.ownBlock) : Quad w2 b x0 x1 x2 x3 := by
  have s1 := b1.size
  have s3 : (w1.alloc o).heap.size = w1.heap.size + 1 := by simp
  have hl := hq.lt
  exact hq.keep (((hgrow.block b (by omega) (fun e => by have := h.own.lt b e.symm; omega)).trans (Below.heap_alloc _ _ _ (by omega))).trans (b1.block b hl))
theorem ZI.step {W0 wr w1 w2 : World} {Zb j m g cap : Nat} {k x : Int} {sa : Option Addr} {ls sc : Nat} {v : Value} {o : Obj} (h : ZI W0 wr Zb k sa ls sc v j x) (b1 : Below wr.heap.size wr w1) (hm : m = j + 1)
    (hown : w2.ownsRow (Zb + 1) 3 1 (.slice (some ⟨g, 0, none⟩) m cap) m (List.replicate j (.int .i64 x) ++ [.int .i64 x])) (hgrow : (w1.alloc o).grownBy w2 v.ownBlock) :
    ZI W0 (w2.setCell ⟨Zb, 2, none⟩ (.slice (some ⟨g, 0, none⟩) m cap)) Zb k sa ls sc (.slice (some ⟨g, 0, none⟩) m cap) m x := by
  subst hm
  have hq := ZI.mid h h.blk (Nat.le_refl _) b1 hgrow
  obtain ⟨le, blk, own, bel⟩ := h
  have hv := own.lt
  have hg := hown.lt g rfl
  have s0 := bel.size
  have s1 := b1.size
  have s3 : (w1.alloc o).heap.size = w1.heap.size + 1 := by simp
  have hz := blk.lt
  refine ⟨le, (hq.set _).2.2.1, ?_, ?_⟩
  · rw [List.replicate_succ']
    exact ownsRow_setCell_other hown (by simp only [Value.ownBlock, ne_eq, Option.some.injEq]; omega) _
  · refine Below.setCell (Below.grown (Below.alloc (bel.trans (b1.mono bel.size)) (by omega) o) hgrow (by omega) (fun b hb => ?_)) le _
    have := (hv b hb).1
    omega
/-- The filled array, when the loop is through. -/
theorem ZI.arr {W0 wr : World} {Zb n : Nat} {k x : Int} {sa : Option Addr} {ls sc : Nat} {v : Value} {sh : List Int} (h : ZI W0 wr Zb k sa ls sc v n x) (hls : ls = sh.length) (hs : IntsAt wr sa sc sh) (hk : -9223372036854775808 ≤ k ∧ k ≤ 9223372036854775807) (hx : -9223372036854775808 ≤ x ∧ x ≤ 9223372036854775807) :
    ∃ va vc, v = .slice va n vc ∧ ArrAt wr (.agg #[.int .i64 k, .slice sa ls sc, .slice va n vc, .slice none 0 0]) (.mk k sh (List.replicate n x) []) := by
  have own := h.own
  rw [show List.replicate n (Value.int .i64 x) = (List.replicate n x).map (Value.int .i64) by rw [List.map_replicate]] at own
  obtain ⟨va, vc, hv, hon⟩ := ints_of_own (xs := List.replicate n x) (by simp) own (fun y hy => by rw [List.mem_replicate] at hy; rw [hy.2]; exact hx)
  rw [List.length_replicate] at hv
  exact ⟨va, vc, hv, arr_plain hk hls (by simp) hs hon.1⟩
/-- A valid scalar of a plain kind. -/
theorem scalar_form {A : Arr} (h : rightE A = 0) (hs : A.shape = []) (hk : A.kind ≠ 3) : ∃ v, A = .mk A.kind [] [v] [] ∧ (A.kind = 1 ∨ A.kind = 2) := by
  obtain ⟨k, sh, nu, it⟩ := A
  have hs' : sh = [] := hs
  subst hs'
  have V := val_of h
  have hk' : ¬ k = 3 := hk
  have ka := V.kind
  have kb : k = 1 ∨ k = 2 := by omega
  have hz : (nu.length : Int) = pr [] := by
    have := V.size
    simpa [aSize, Arr.kind, Arr.nums, kb] using this
  have hi := V.plain hk'
  subst hi
  replace hz : (nu.length : Int) = 1 := hz
  match nu, hz with
  | [v], _ => exact ⟨v, rfl, kb⟩
end Go.Proofs.Ytekbdiniibmhgaa.Shape
