/-
  Layer 3: the reference's Put: it appends one element to a row that its caller has gathered. (Written by wip/gen/array-put.py.)
  Layer 3: the reference's Of: what it returns, and its errors ahead of the loop.
  Layer 3: the reference's Of: what the loop keeps.
  Layer 3: what the law's own helper changed may do: it turns numbers in the blocks of an array, and nothing else.
  Layer 3: the reference's Fill makes a new array.
  Layer 3: the reference's Of: numbers.
  Layer 3: the reference's Of: items. (Written by wip/gen/array-of.py.)
  Layer 3: the reference's Of, whole.
  Layer 3: an array equals itself; the reference's Same at two copies.
  Layer 4: the laws' Ints and Arrays, of two equal lists: true.
  Layer 4: the laws' Vec, Num and Mat.
-/
import Derived.Test.YtkjbccodahleoaaBd13
import Derived.Test.YtkjbccodahleoaaBd1
import Derived.Laws.IdiomStrings
import Derived.Laws.Cover4
import Derived.Test.YtkjbccodahleoaaBd5
namespace Go.Proofs.Ytkjbccodahleoaa.Shape
open Go.RowKit

/-- What an append of one element to the row v leaves. -/
structure Put1 (w w' : World) (B : Nat) (e : TypeId) (size n : Nat) (v : Value) (qs news : List Value) (g cap : Nat) : Prop where
  own : w'.ownsRow B e size (.slice (some ⟨g, 0, none⟩) (n + 1) cap) (n + 1) (qs ++ news)
  far : ∀ b, b < w.heap.size → v.ownBlock ≠ some b → w'.heap[b]? = w.heap[b]?
  big : w.heap.size ≤ w'.heap.size
  bel : Below B w w'
  at' : v.ownBlock = some g ∨ w.heap.size ≤ g
theorem Put1.set {w w' : World} {B n g cap R o : Nat} {e : TypeId} {size : Nat} {v : Value} {qs news : List Value} (h : Put1 w w' B e size n v qs news g cap) (hR : w.heap.size ≤ R) (hB : B ≤ w.heap.size) (hg : g ≠ R) (u : Value) : Put1 w (w'.setCell ⟨R, o, none⟩ u) B e size n v qs news g cap := by
  obtain ⟨h1, h2, h3, h4, h5⟩ := h
  have hs : (w'.setCell ⟨R, o, none⟩ u).heap.size = w'.heap.size := by simp
  exact ⟨ownsRow_setCell_other h1 (by simp only [Value.ownBlock, ne_eq, Option.some.injEq]; omega) _, fun b hb hn => (set_other _ _ _ _ _ (by omega)).trans (h2 b hb hn), by omega, h4.setCell (by show _ ≤ R; omega) _, h5⟩
theorem Put1.of {w w4 w' : World} {B n g cap : Nat} {e : TypeId} {size : Nat} {v : Value} {qs news : List Value} (own : w.ownsRow B e size v n qs) (b4 : Below w.heap.size w w4) (hB : B ≤ w.heap.size) (h1 : w'.ownsRow B e size (.slice (some ⟨g, 0, none⟩) (n + 1) cap) (n + 1) (qs ++ news)) (hg : w4.grownBy w' v.ownBlock) (hat : v.ownBlock = some g ∨ g = w4.heap.size) : Put1 w w' B e size n v qs news g cap := by
  have hs := b4.size
  refine ⟨h1, fun b hb hn => (hg.block b (by omega) (Ne.symm hn)).trans (b4.block b hb), Nat.le_trans hs hg.size, (b4.mono hB).grown hg (by omega) (fun k hk => (own.lt k hk).1), ?_⟩
  rcases hat with h | h
  · exact Or.inl h
  · exact Or.inr (by omega)
theorem below_four (w : World) (o o' o'' p : Obj) : Below w.heap.size w ((((w.alloc o).alloc o').alloc o'').alloc p) := (below_three w o o' o'').alloc (by simp; omega) _
theorem put_mid {w4 w5 : World} {b : Nat} {x0 x1 x2 x3 v : Value} (h : Quad w4 b x0 x1 x2 x3) (hg : w4.grownBy w5 v.ownBlock) (hn : v.ownBlock ≠ some b) : Quad w5 b x0 x1 x2 x3 :=
  h.keep (hg.block b h.lt (Ne.symm hn))

end Go.Proofs.Ytkjbccodahleoaa.Shape

namespace Go.Proofs.Ytkjbccodahleoaa.Shape
open Go.RowKit

/-- A new array and an error as the results of a call. -/
def GiveNewE (A : Arr) (er : Int) (w : World) (e : Ending) (w' : World) : Prop :=
  ∃ c0 c1 c2 c3, e = .returned (.tuple #[.agg #[c0, c1, c2, c3], .int .i64 er]) ∧ GiveNew A w (.returned (.agg #[c0, c1, c2, c3])) w'
theorem GiveNewE.mk {A : Arr} {er : Int} {w w' : World} {c0 c1 c2 c3 : Value} (h : GiveNew A w (.returned (.agg #[c0, c1, c2, c3])) w') : GiveNewE A er w (.returned (.tuple #[.agg #[c0, c1, c2, c3], .int .i64 er])) w' := ⟨c0, c1, c2, c3, rfl, h⟩

/-- The first n elements of a list, repeated cyclically. -/
def cyc {α : Type} (l : List α) (z : α) (n : Nat) : List α := (List.range n).map (fun i => l.getD (i % l.length) z)
theorem cyc_len {α : Type} (l : List α) (z : α) (n : Nat) : (cyc l z n).length = n := by simp [cyc]
theorem cyc_succ {α : Type} (l : List α) (z : α) (n : Nat) : cyc l z (n + 1) = cyc l z n ++ [l.getD (n % l.length) z] := by
  rw [cyc, List.range_succ, List.map_append]; rfl
/-- What Of takes its elements from. -/
def srcA (F : Arr) : Arr := if aSize F = 0 then fillA F.kind else F
def ofA (sh : List Int) (F : Arr) : Arr × Int :=
  if rightE F = 0 then
    (if dimsE sh = 0 then
      (if (srcA F).kind = 3 then
        (if pr sh + sumW (cyc (srcA F).items zeroA (pr sh).toNat) ≤ 262144 then (.mk 3 sh [] (cyc (srcA F).items zeroA (pr sh).toNat), 0) else (zeroA, 21))
      else (.mk (srcA F).kind sh (cyc (srcA F).nums 0 (pr sh).toNat) [], 0))
    else (zeroA, dimsE sh))
  else (zeroA, 1)

end Go.Proofs.Ytkjbccodahleoaa.Shape

namespace Go.Proofs.Ytkjbccodahleoaa.Shape
open Go.RowKit

/-- A block that neither the literal nor the gathered row lies in, and that is no older than W0. -/
def Far (W0 : World) (bx : Nat) (v : Value) (g : Nat) : Prop := W0.heap.size ≤ g ∧ g ≠ bx ∧ v.ownBlock ≠ some g
/-- What Of keeps: the literal's block and the row v that it gathers. -/
structure OInv (W0 wr : World) (bx : Nat) (k : Int) (sh : List Int) (c2 c3 v : Value) (e : TypeId) (size n : Nat) (qs : List Value) : Prop where
  bel : Below W0.heap.size W0 wr
  bxl : W0.heap.size ≤ bx
  own : wr.ownsRow (bx + 1) e size v n qs
  blk : ∃ a1 c1, Quad wr bx (.int .i64 k) (.slice a1 sh.length c1) c2 c3 ∧ IntsOn (Far W0 bx v) wr a1 c1 sh
/-- The world behind an element: what is kept of the one before. -/
theorem of_kept {W0 wr w1 w2 : World} {bx n g cap : Nat} {k : Int} {sh : List Int} {c2 c3 v d0 d1 d2 d3 : Value} {e : TypeId} {size : Nat} {qs news : List Value} (h : OInv W0 wr bx k sh c2 c3 v e size n qs) (b1 : Below wr.heap.size wr w1) (P : Put1 w1 w2 (bx + 1) e size n v qs news g cap) :
    (∀ b, Far W0 bx v b → b < wr.heap.size → Far W0 bx (.slice (some ⟨g, 0, none⟩) (n + 1) cap) b ∧ ∀ o, ((((w2.setCell ⟨bx, 0, none⟩ d0).setCell ⟨bx, 1, none⟩ d1).setCell ⟨bx, 2, none⟩ d2).setCell ⟨bx, 3, none⟩ d3).cell? ⟨b, o, none⟩ = wr.cell? ⟨b, o, none⟩) ∧
    (∀ b, wr.heap.size ≤ b → b < w1.heap.size → Far W0 bx (.slice (some ⟨g, 0, none⟩) (n + 1) cap) b ∧ ∀ o, ((((w2.setCell ⟨bx, 0, none⟩ d0).setCell ⟨bx, 1, none⟩ d1).setCell ⟨bx, 2, none⟩ d2).setCell ⟨bx, 3, none⟩ d3).cell? ⟨b, o, none⟩ = w1.cell? ⟨b, o, none⟩) := by
  obtain ⟨bel, bxl, own, a1, c1, blk, i1⟩ := h
  have hv := own.lt
  have s0 := bel.size
  have s1 := b1.size
  have hbx := blk.lt
  have hset : ∀ b, b ≠ bx → ((((w2.setCell ⟨bx, 0, none⟩ d0).setCell ⟨bx, 1, none⟩ d1).setCell ⟨bx, 2, none⟩ d2).setCell ⟨bx, 3, none⟩ d3).heap[b]? = w2.heap[b]? := fun b hb => by
    rw [set_other _ _ _ _ _ hb, set_other _ _ _ _ _ hb, set_other _ _ _ _ _ hb, set_other _ _ _ _ _ hb]
  have hgb : ∀ b, v.ownBlock ≠ some b → b < w1.heap.size → (Value.slice (some ⟨g, 0, none⟩) (n + 1) cap).ownBlock ≠ some b := by
    intro b hn hb e
    have e' : g = b := by simpa [Value.ownBlock] using e
    subst e'
    rcases P.at' with h1 | h1
    · exact hn h1
    · omega
  refine ⟨fun b hF hb => ⟨⟨hF.1, hF.2.1, hgb b hF.2.2 (by omega)⟩, fun o => World.cell?_of_block ((hset b hF.2.1).trans ((P.far b (by omega) hF.2.2).trans (b1.block b hb)))⟩, fun b hF hb => ?_⟩
  have hne : v.ownBlock ≠ some b := fun e => by have := (hv b e).2; omega
  exact ⟨⟨by omega, by omega, hgb b hne hb⟩, fun o => World.cell?_of_block ((hset b (by omega)).trans (P.far b hb hne))⟩
theorem of_step {W0 wr w1 w2 : World} {bx n g cap : Nat} {k : Int} {sh : List Int} {c2 c3 v d2 d3 : Value} {e : TypeId} {size : Nat} {qs news : List Value} {a1 : Option Addr} {c1 : Nat} (h : OInv W0 wr bx k sh c2 c3 v e size n qs) (b1 : Below wr.heap.size wr w1) (P : Put1 w1 w2 (bx + 1) e size n v qs news g cap)
    (blk : Quad wr bx (.int .i64 k) (.slice a1 sh.length c1) c2 c3) (i1 : IntsOn (Far W0 bx v) wr a1 c1 sh) :
    OInv W0 ((((w2.setCell ⟨bx, 0, none⟩ (.int .i64 k)).setCell ⟨bx, 1, none⟩ (.slice a1 sh.length c1)).setCell ⟨bx, 2, none⟩ d2).setCell ⟨bx, 3, none⟩ d3) bx k sh d2 d3 (.slice (some ⟨g, 0, none⟩) (n + 1) cap) e size (n + 1) (qs ++ news) := by
  obtain ⟨keep, -⟩ := of_kept (d0 := .int .i64 k) (d1 := .slice a1 sh.length c1) (d2 := d2) (d3 := d3) h b1 P
  obtain ⟨bel, bxl, own, -⟩ := h
  have hv := own.lt
  have s1 := b1.size
  have hbx := blk.lt
  have hg := P.own.lt g rfl
  have hb2 : Quad w2 bx (.int .i64 k) (.slice a1 sh.length c1) c2 c3 := blk.keep ((P.far bx (by omega) (fun e => by have := (hv bx e).1; omega)).trans (b1.block bx hbx))
  have go : ∀ {w : World} {o : Nat} {u : Value}, w.ownsRow (bx + 1) e size (.slice (some ⟨g, 0, none⟩) (n + 1) cap) (n + 1) (qs ++ news) → (w.setCell ⟨bx, o, none⟩ u).ownsRow (bx + 1) e size (.slice (some ⟨g, 0, none⟩) (n + 1) cap) (n + 1) (qs ++ news) :=
    fun hw => ownsRow_setCell_other hw (by simp only [Value.ownBlock, ne_eq, Option.some.injEq]; omega) _
  refine ⟨((bel.trans (b1.mono bel.size)).trans (P.bel.mono (by omega))).trans (set4_below bxl _ _ _ _), bxl, go (go (go (go P.own))), a1, c1, (set4 hb2 _ _ _ _).1, i1.keep keep⟩
/-- The literal, as the region leaves it. -/
theorem of_start {W0 W : World} {bx : Nat} {k : Int} {sh : List Int} {a1 : Option Addr} {c1 : Nat} {e : TypeId} {size : Nat} (bel : Below W0.heap.size W0 W) (bxl : W0.heap.size ≤ bx) (q : Quad W bx (.int .i64 k) (.slice a1 sh.length c1) (.slice none 0 0) (.slice none 0 0)) (i1 : IntsOn (fun g => W0.heap.size ≤ g ∧ g ≠ bx) W a1 c1 sh) :
    OInv W0 W bx k sh (.slice none 0 0) (.slice none 0 0) (.slice none 0 0) e size 0 [] :=
  ⟨bel, bxl, World.ownsRow_nil _ _ _ _, a1, c1, q, i1.mono fun g hg => ⟨hg.1, hg.2, by simp [Value.ownBlock]⟩⟩
/-- .. whether the literal's block was made behind the copy of the shape or ahead of it. -/
theorem of_start1 {W0 w1 : World} {k : Int} {sh : List Int} {a1 : Option Addr} {c1 : Nat} {e : TypeId} {size : Nat} (i1 : IntsOn (fun g => W0.heap.size ≤ g) w1 a1 c1 sh) (e1 : Below W0.heap.size W0 w1) :
    OInv W0 (w1.alloc (.cells #[.int .i64 k, .slice a1 sh.length c1, .slice none 0 0, .slice none 0 0] 26)) w1.heap.size k sh (.slice none 0 0) (.slice none 0 0) (.slice none 0 0) e size 0 [] := by
  have hal := below_new w1 (.cells #[.int .i64 k, .slice a1 sh.length c1, .slice none 0 0, .slice none 0 0] 26)
  exact of_start (Below.then e1 hal) e1.size (Quad.new _ _ _ _ _) (i1.keep fun g hp hg => ⟨⟨hp, by omega⟩, fun o => hal.cell hg⟩)
theorem of_start2 {W0 w1 : World} {o : Obj} {k : Int} {sh : List Int} {a1 : Option Addr} {c1 : Nat} {e : TypeId} {size : Nat} {z0 z1 z2 z3 : Value} (e1 : Below (W0.alloc o).heap.size (W0.alloc o) w1) (i1 : IntsOn (fun g => (W0.alloc o).heap.size ≤ g) w1 a1 c1 sh) (q : Quad w1 W0.heap.size z0 z1 z2 z3) :
    OInv W0 ((((w1.setCell ⟨W0.heap.size, 0, none⟩ (.int .i64 k)).setCell ⟨W0.heap.size, 1, none⟩ (.slice a1 sh.length c1)).setCell ⟨W0.heap.size, 2, none⟩ (.slice none 0 0)).setCell ⟨W0.heap.size, 3, none⟩ (.slice none 0 0)) W0.heap.size k sh (.slice none 0 0) (.slice none 0 0) (.slice none 0 0) e size 0 [] := by
  have hal := below_new W0 o
  have s3 : (W0.alloc o).heap.size = W0.heap.size + 1 := by simp
  obtain ⟨hq, ho⟩ := set4 q (.int .i64 k) (.slice a1 sh.length c1) (.slice none 0 0) (.slice none 0 0)
  exact of_start ((Below.then hal e1).trans (set4_below (Nat.le_refl _) _ _ _ _)) (Nat.le_refl _) hq (i1.keep fun g hp _ => ⟨⟨by omega, by omega⟩, fun o => World.cell?_of_block (ho g (by omega))⟩)
end Go.Proofs.Ytkjbccodahleoaa.Shape

namespace Go.Proofs.Ytkjbccodahleoaa.Shape
open Go.RowKit

/-- No cell of the block is frozen, and it is no row of bytes (type 5 is uint8). -/
def Thaw (w : World) (g : Nat) : Prop := ∃ (cs : Array Value) (t : { t : TypeId // t ≠ 5 }), w.heap[g]? = some (.cells cs t.1 (0, 0))
theorem Thaw.free {w : World} {g : Nat} (h : Thaw w g) (o : Nat) : w.frozen? ⟨g, o, none⟩ = false := by
  obtain ⟨cs, t, h⟩ := h
  simp [World.frozen?, h]
/-- Old memory is kept, but for numbers in blocks of the kind P. -/
structure Upd (P : Nat → Prop) (B : Nat) (w w' : World) : Prop where
  bel : Below B w w'
  blk : ∀ g, ¬ P g → g < w.heap.size → w'.heap[g]? = w.heap[g]?
  cell : ∀ g o v, w.cell? ⟨g, o, none⟩ = some v → w'.cell? ⟨g, o, none⟩ = some v ∨ ∃ x y, v = .int .i64 x ∧ w'.cell? ⟨g, o, none⟩ = some (.int .i64 y) ∧ -9223372036854775808 ≤ y ∧ y ≤ 9223372036854775807
  thaw : ∀ g, Thaw w g → Thaw w' g
theorem Upd.refl {P : Nat → Prop} {B : Nat} (w : World) : Upd P B w w := ⟨Below.refl _ _, fun _ _ _ => rfl, fun _ _ _ h => Or.inl h, fun _ h => h⟩
theorem Upd.trans {P : Nat → Prop} {B : Nat} {a b c : World} (h : Upd P B a b) (k : Upd P B b c) : Upd P B a c := by
  refine ⟨h.bel.trans k.bel, fun g hg hl => (k.blk g hg (Nat.lt_of_lt_of_le hl h.bel.size)).trans (h.blk g hg hl), fun g o v hv => ?_, fun g hg => k.thaw g (h.thaw g hg)⟩
  rcases h.cell g o v hv with h1 | ⟨x, y, rfl, h1, h2⟩
  · exact k.cell g o v h1
  · rcases k.cell g o _ h1 with h3 | ⟨x', y', _, h3, h4⟩
    · exact Or.inr ⟨x, y, rfl, h3, h2⟩
    · exact Or.inr ⟨x, y', rfl, h3, h4⟩
theorem Upd.of_below {P : Nat → Prop} {B : Nat} {w w' : World} (h : Below w.heap.size w w') (hB : B ≤ w.heap.size) : Upd P B w w' :=
  ⟨h.mono hB, fun g _ hl => h.block g hl, fun g o v hv => Or.inl ((h.cell (cell_lt hv)).trans hv), fun g ⟨cs, t, hg⟩ => ⟨cs, t, (h.block g (by
    rcases Nat.lt_or_ge g w.heap.size with h1 | h1
    · exact h1
    · rw [Array.getElem?_eq_none h1] at hg; cases hg)).trans hg⟩⟩
theorem thaw_set {w : World} {g b o : Nat} {u : Value} (h : Thaw w g) : Thaw (w.setCell ⟨b, o, none⟩ u) g := by
  obtain ⟨cs, t, hg⟩ := h
  by_cases e : g = b
  · subst e
    have hl : g < w.heap.size := by
      rcases Nat.lt_or_ge g w.heap.size with h1 | h1
      · exact h1
      · rw [Array.getElem?_eq_none h1] at hg; cases hg
    have h' : w.heap[g] = .cells cs t (0, 0) := by simpa [Array.getElem?_eq_getElem hl] using hg
    refine ⟨cs.setIfInBounds o u, t, ?_⟩
    show (w.heap.modify g _)[g]? = _
    rw [Array.getElem?_eq_getElem (by simpa using hl), Array.getElem_modify_self, h']
    rfl
  · exact ⟨cs, t, (set_other _ _ _ _ _ e).trans hg⟩
theorem Upd.set {P : Nat → Prop} {B : Nat} {w : World} {g o : Nat} {x y : Int} (hx : w.cell? ⟨g, o, none⟩ = some (.int .i64 x)) (hP : P g) (hB : B ≤ g) (hy : -9223372036854775808 ≤ y ∧ y ≤ 9223372036854775807) : Upd P B w (w.setCell ⟨g, o, none⟩ (.int .i64 y)) := by
  refine ⟨(Below.refl _ _).setCell (p := ⟨g, o, none⟩) hB _, fun g' hg' _ => set_other _ _ _ _ _ (fun e => hg' (e ▸ hP)), fun g' o' v hv => ?_, fun _ h => thaw_set h⟩
  by_cases e : (⟨g', o', none⟩ : Addr) = ⟨g, o, none⟩
  · rw [e] at hv ⊢
    rw [hx] at hv
    simp only [Option.some.injEq] at hv
    subst hv
    exact Or.inr ⟨x, y, rfl, World.cell?_setCell_same _ _ _ hx, hy⟩
  · exact Or.inl ((World.cell?_setCell_other _ _ _ _ (fun h => e h.symm)).trans hv)

theorem list_of {Q : Nat → Int → Prop} : ∀ n, (∀ i, i < n → ∃ y, Q i y) → ∃ l : List Int, l.length = n ∧ ∀ i (h : i < l.length), Q i l[i]
  | 0, _ => ⟨[], rfl, fun i h => absurd h (by simp)⟩
  | n + 1, h => by
    obtain ⟨l, hl, hq⟩ := list_of n (fun i hi => h i (by omega))
    obtain ⟨y, hy⟩ := h n (by omega)
    refine ⟨l ++ [y], by simp [hl], fun i hi => ?_⟩
    by_cases e : i < l.length
    · rw [List.getElem_append_left e]; exact hq i e
    · have : i = n := by simp at hi; omega
      subst this
      rw [List.getElem_append_right (by omega)]
      simpa [hl] using hy
theorem upd_ints {P R : Nat → Prop} {B : Nat} {w w' : World} (hu : Upd R B w w') {a : Option Addr} {cap : Nat} {xs : List Int} (h : IntsOn P w a cap xs) : ∃ ys : List Int, ys.length = xs.length ∧ IntsOn P w' a cap ys := by
  obtain ⟨⟨h1, h2, h3, b, off, ha, hc⟩, hp⟩ := h
  have key : ∀ i, i < xs.length → ∃ y : Int, w'.cell? ⟨b, off + i, none⟩ = some (.int .i64 y) ∧ -9223372036854775808 ≤ y ∧ y ≤ 9223372036854775807 := by
    intro i hi
    rcases hu.cell _ _ _ (hc i hi) with h4 | ⟨x, y, _, h4, h5⟩
    · exact ⟨xs[i], h4, h3 _ (List.getElem_mem hi)⟩
    · exact ⟨y, h4, h5⟩
  obtain ⟨ys, hl, hq⟩ := list_of xs.length key
  have hne : ys ≠ [] → xs ≠ [] := fun h e => h (by subst e; exact List.eq_nil_of_length_eq_zero hl)
  refine ⟨ys, hl, ⟨by omega, h2, fun y hy => ?_, b, off, fun g => ha (hne g), fun i hi => (hq i hi).1⟩, fun g ad e => hp (hne g) ad e⟩
  obtain ⟨i, hi, rfl⟩ := List.getElem_of_mem hy
  exact (hq i hi).2
mutual
theorem upd_arr {P R : Nat → Prop} {B : Nat} {w w' : World} (hu : Upd R B w w') : ∀ {c0 c1 c2 c3 : Value} {A : Arr} (_ : ArrOn P w (.agg #[c0, c1, c2, c3]) A) {k' : Int} (_ : -9223372036854775808 ≤ k' ∧ k' ≤ 9223372036854775807), ∃ A', rk A' = rk A ∧ ArrOn P w' (.agg #[.int .i64 k', c1, c2, c3]) A'
  | c0, c1, c2, c3, .mk k sh nu it, h, k', hk' => by
    rw [ArrOn] at h
    obtain ⟨sa, sc, na, nc, ia, ic, hv, hk, hs, hn, h1, h2, b, off, ha, hc⟩ := h
    simp only [Value.agg.injEq, Array.mk.injEq, List.cons.injEq, and_true] at hv
    obtain ⟨rfl, rfl, rfl, rfl⟩ := hv
    obtain ⟨sh', es, hs'⟩ := upd_ints hu hs
    obtain ⟨nu', en, hn'⟩ := upd_ints hu hn
    obtain ⟨it', el, er, hc'⟩ := upd_arrs hu hc
    refine ⟨.mk k' sh' nu' it', by rw [rk, rk, er], ?_⟩
    rw [ArrOn]
    refine ⟨sa, sc, na, nc, ia, ic, by rw [es, en, el], hk', hs', hn', by omega, h2, b, off, fun g => ha (fun e => g (by subst e; exact List.eq_nil_of_length_eq_zero el)), hc'⟩
theorem upd_arrs {P R : Nat → Prop} {B : Nat} {w w' : World} (hu : Upd R B w w') : ∀ {b off : Nat} {l : List Arr}, ArrsOn P w b off l → ∃ l' : List Arr, l'.length = l.length ∧ rkL l' = rkL l ∧ ArrsOn P w' b off l'
  | _, _, [], _ => ⟨[], rfl, rfl, by rw [ArrsOn]; trivial⟩
  | b, off, A :: r, h => by
    rw [ArrsOn] at h
    obtain ⟨⟨c0, c1, c2, c3, ⟨m0, m1, m2, m3⟩, hA⟩, hr⟩ := h
    obtain ⟨r', el, er, hr'⟩ := upd_arrs hu hr
    have hA0 := hA
    obtain ⟨k, sh, nu, it⟩ := A
    rw [ArrOn] at hA0
    obtain ⟨sa, sc, na, nc, ia, ic, hv, hk, -⟩ := hA0
    simp only [Value.agg.injEq, Array.mk.injEq, List.cons.injEq, and_true] at hv
    obtain ⟨rfl, rfl, rfl, rfl⟩ := hv
    have kept : ∀ {o : Nat} {a : Option Addr} {n c : Nat}, w.cell? ⟨b, o, none⟩ = some (.slice a n c) → w'.cell? ⟨b, o, none⟩ = some (.slice a n c) := by
      intro o a n c h
      rcases hu.cell _ _ _ h with h4 | ⟨x, y, h5, _⟩
      · exact h4
      · cases h5
    have hk' : ∃ k' : Int, w'.cell? ⟨b, off, none⟩ = some (.int .i64 k') ∧ -9223372036854775808 ≤ k' ∧ k' ≤ 9223372036854775807 := by
      rcases hu.cell _ _ _ m0 with h4 | ⟨x, y, _, h4, h5⟩
      · exact ⟨k, h4, hk⟩
      · exact ⟨y, h4, h5⟩
    obtain ⟨k', m0', hkb⟩ := hk'
    obtain ⟨A', eA, hA'⟩ := upd_arr hu hA hkb
    refine ⟨A' :: r', by simp [el], by rw [rkL, rkL, eA, er], ?_⟩
    rw [ArrsOn]
    exact ⟨⟨_, _, _, _, ⟨m0', kept m1, kept m2, kept m3⟩, hA'⟩, hr'⟩
end
end Go.Proofs.Ytkjbccodahleoaa.Shape

namespace Go.Proofs.Ytkjbccodahleoaa.Shape
open Go.RowKit

theorem cells_on {P : Nat → Prop} {w : World} {b b2 : Nat} (h : w.cell? ⟨b, 0, none⟩ = some (.int .i64 1) ∧ w.cell? ⟨b, 1, none⟩ = some (.slice (some ⟨b2, 0, none⟩) 1 1) ∧ w.cell? ⟨b, 2, none⟩ = some (.slice none 0 0) ∧ w.cell? ⟨b, 3, none⟩ = some (.slice none 0 0)) (h2 : w.cell? ⟨b2, 0, none⟩ = some (.int .i64 0)) (hb : P b) (hb2 : P b2) :
    ArrOn P w (.agg #[.int .i64 3, .slice none 0 0, .slice none 0 0, .slice (some ⟨b, 0, none⟩) 1 1]) (.mk 3 [] [] [.mk 1 [0] [] []]) := by
  obtain ⟨m0, m1, m2, m3⟩ := h
  have hin : ArrOn P w (.agg #[.int .i64 1, .slice (some ⟨b2, 0, none⟩) 1 1, .slice none 0 0, .slice none 0 0]) (.mk 1 [0] [] []) := by
    rw [ArrOn]
    exact ⟨some ⟨b2, 0, none⟩, 1, none, 0, none, 0, rfl, by decide, ⟨ints_one w b2 1 0 (by decide) h2 (by decide) (by decide), fun _ ad e => by cases e; exact hb2⟩, ⟨ints_nil w, fun g => absurd rfl g⟩, Nat.le_refl _, by decide, 0, 0, fun g => absurd rfl g, by rw [ArrsOn]; trivial⟩
  rw [ArrOn]
  refine ⟨none, 0, none, 0, some ⟨b, 0, none⟩, 1, rfl, by decide, ⟨ints_nil w, fun g => absurd rfl g⟩, ⟨ints_nil w, fun g => absurd rfl g⟩, Nat.le_refl _, by decide, b, 0, fun _ => ⟨rfl, hb⟩, ?_⟩
  rw [ArrsOn, ArrsOn]
  exact ⟨⟨_, _, _, _, ⟨m0, m1, m2, m3⟩, hin⟩, trivial⟩

set_option maxHeartbeats 1000000 in
theorem fillR_new (v : Value) (A : Arr) (w : World) (h : ArrAt w v A) : Calls Try.prog 25 #[v] w (GiveNew (fillA A.kind) w) := by
  obtain ⟨k, sh, nu, it⟩ := A
  rw [ArrAt] at h
  obtain ⟨sa, sc, na, nc, ia, ic, rfl, hk, -⟩ := h
  by_cases k1 : k = 1
  · subst k1
    go_enter Try.func25, Try.ntmps25
    go_wp2
    refine bodyPost_ret (v := .agg #[.int .i64 1, .slice none 0 0, .slice (some ⟨w.heap.size + 1 + 1, 0, none⟩) 1 1, .slice none 0 0]) (by simp [results, Try.results25, go_sem]) rfl (GiveNew.mk (A := .mk 1 [] [0] []) (one_on (by decide) (by decide) ?_ (by omega)) ?_)
    · rw [World.cell?_alloc_at _ _ _ _ (by simp)]; rfl
    · exact Below.then (below_new _ _) (Below.then (below_new _ _) (below_new _ _))
  · by_cases k2 : k = 2
    · subst k2
      go_enter Try.func25, Try.ntmps25
      go_wp2
      refine bodyPost_ret (v := .agg #[.int .i64 2, .slice none 0 0, .slice (some ⟨w.heap.size + 1 + 1, 0, none⟩) 1 1, .slice none 0 0]) (by simp [results, Try.results25, go_sem]) rfl (GiveNew.mk (A := .mk 2 [] [32] []) (one_on (by decide) (by decide) ?_ (by omega)) ?_)
      · rw [World.cell?_alloc_at _ _ _ _ (by simp)]; rfl
      · exact Below.then (below_new _ _) (Below.then (below_new _ _) (below_new _ _))
    · by_cases k3 : k = 3
      · subst k3
        go_enter Try.func25, Try.ntmps25
        go_wp2
        refine bodyPost_ret (v := .agg #[.int .i64 3, .slice none 0 0, .slice none 0 0, .slice (some ⟨w.heap.size + 1 + 1 + 1, 0, none⟩) 1 1]) (by simp [results, Try.results25, go_sem]) rfl (GiveNew.mk (A := .mk 3 [] [] [.mk 1 [0] [] []]) (cells_on (b2 := w.heap.size + 1 + 1) ⟨?_, ?_, ?_, ?_⟩ ?_ (by omega) (by omega)) ?_)
        · rw [World.cell?_alloc_at _ _ _ _ (by simp)]; rfl
        · rw [World.cell?_alloc_at _ _ _ _ (by simp)]; rfl
        · rw [World.cell?_alloc_at _ _ _ _ (by simp)]; rfl
        · rw [World.cell?_alloc_at _ _ _ _ (by simp)]; rfl
        · rw [World.cell?_alloc_past _ _ _ (by simp), World.cell?_alloc_at _ _ _ _ (by simp)]; rfl
        · exact Below.then (below_new _ _) (Below.then (below_new _ _) (Below.then (below_new _ _) (below_new _ _)))
      · have e1 : (k == 1) = false := by simpa using k1
        have e2 : (k == 2) = false := by simpa using k2
        have e3 : (k == 3) = false := by simpa using k3
        have HE : Hid (fillA k = zeroA) := by unfold Hid; rw [fillA, if_neg k1, if_neg k2, if_neg k3]
        clear k1 k2 k3
        go_enter Try.func25, Try.ntmps25
        go_wp2
        refine bodyPost_ret (v := .agg #[.int .i64 0, .slice none 0 0, .slice none 0 0, .slice none 0 0]) (by simp [results, Try.results25, go_sem]) rfl ?_
        rw [show (Arr.mk k sh nu it).kind = k from rfl, HE.out]
        exact GiveNew.mk (zero_on _ _) (Below.then (below_new _ _) (below_new _ _))
end Go.Proofs.Ytkjbccodahleoaa.Shape

namespace Go.Proofs.Ytkjbccodahleoaa.Shape
open Go.RowKit

theorem own_below {w w1 : World} {base e size n : Nat} {v : Value} {qs : List Value} (ho : w.ownsRow base e size v n qs) (b1 : Below w.heap.size w w1) : w1.ownsRow base e size v n qs := by
  have hv := ho.lt
  obtain ⟨h1, h2⟩ := ho
  refine ⟨h1, ?_⟩
  rcases h2 with h2 | ⟨g, cap, cur, rfl, hg, hh, r⟩
  · exact Or.inl h2
  · exact Or.inr ⟨g, cap, cur, rfl, hg, (b1.block g (hv g rfl).2).trans hh, r⟩
theorem OInv.undrew {W0 wr : World} {bx n : Nat} {k : Int} {sh : List Int} {c2 c3 v : Value} {e : TypeId} {size : Nat} {qs : List Value} (h : OInv W0.drew wr bx k sh c2 c3 v e size n qs) : OInv W0 wr bx k sh c2 c3 v e size n qs :=
  ⟨Below.trans (Below.refl _ _).drew h.bel, h.bxl, h.own, h.blk⟩
/-- The literal's block behind an element. -/
theorem of_mid {W0 wr w1 w2 : World} {bx n g cap : Nat} {k : Int} {sh : List Int} {c2 c3 v x0 x1 x2 x3 : Value} {e : TypeId} {size : Nat} {qs news : List Value} (h : OInv W0 wr bx k sh c2 c3 v e size n qs) (b1 : Below wr.heap.size wr w1) (P : Put1 w1 w2 (bx + 1) e size n v qs news g cap) (blk : Quad wr bx x0 x1 x2 x3) : Quad w2 bx x0 x1 x2 x3 := by
  have hv := h.own.lt
  have s1 := b1.size
  have hbx := blk.lt
  exact blk.keep ((P.far bx (by omega) (fun e => by have := (hv bx e).1; omega)).trans (b1.block bx hbx))
/-- A scalar that holds one number. -/
theorem one_form {k x : Int} {w w' : World} {e : Ending} (h : GiveNew (.mk k [] [x] []) w e w') : ∃ ea el ecc eb ef ec eo lo co, e = .returned (.agg #[.int .i64 k, .slice ea el ecc, .slice (some ⟨eb, ef, none⟩) 1 ec, .slice eo lo co]) ∧ w'.cell? ⟨eb, ef, none⟩ = some (.int .i64 x) ∧ Below w.heap.size w w' := by
  obtain ⟨c0, c1, c2, c3, rfl, _, hO, hb⟩ := h
  rw [ArrOn] at hO
  obtain ⟨sa, sc, na, nc, ia, ic, hv, -, -, ⟨⟨_, _, _, b, off, ha, hc⟩, -⟩, -⟩ := hO
  have e := ha (by simp)
  subst e
  exact ⟨sa, _, sc, b, off, nc, ia, _, ic, by rw [hv]; rfl, by simpa using hc 0 (by simp), hb⟩

theorem cyc_bd {l : List Int} {n : Nat} (h : ∀ x ∈ l, -9223372036854775808 ≤ x ∧ x ≤ 9223372036854775807) : ∀ x ∈ cyc l 0 n, -9223372036854775808 ≤ x ∧ x ≤ 9223372036854775807 := by
  intro x hx
  rw [cyc, List.mem_map] at hx
  obtain ⟨i, -, rfl⟩ := hx
  rw [List.getD_eq_getElem?_getD]
  cases he : l[i % l.length]? with
  | none => decide
  | some y => exact h y (List.mem_of_getElem? he)
/-- The array of numbers that Of has gathered. -/
theorem of_num_out {W0 wr : World} {bx n B : Nat} {k : Int} {sh : List Int} {a2 : Value} {nu : List Int} {a1 va : Option Addr} {c1 vl vc : Nat} (h : OInv W0 wr bx k sh (.slice va vl vc) a2 (.slice va vl vc) 3 1 n (nu.map (Value.int .i64))) (hk : -9223372036854775808 ≤ k ∧ k ≤ 9223372036854775807) (hb : ∀ x ∈ nu, -9223372036854775808 ≤ x ∧ x ≤ 9223372036854775807) (hB : B < W0.heap.size)
    (_blk : Quad wr bx (.int .i64 k) (.slice a1 sh.length c1) (.slice va vl vc) a2) (i1 : IntsOn (Far W0 bx (.slice va vl vc)) wr a1 c1 sh) :
    ArrOn (fun g => B < g) wr (.agg #[.int .i64 k, .slice a1 sh.length c1, .slice va vl vc, .slice none 0 0]) (.mk k sh nu []) := by
  have own := h.own
  have hbx := h.bxl
  have hn : n = nu.length := by have := own.1; simpa using this.symm
  obtain ⟨av, cv, hv, hon⟩ := ints_of_own hn own hb
  rw [hv, ArrOn]
  exact ⟨a1, c1, av, cv, none, 0, rfl, hk, i1.mono fun g hg => by have := hg.1; omega, hon.mono fun g hg => by omega, Nat.le_refl _, by decide, 0, 0, fun g => absurd rfl g, by rw [ArrsOn]; trivial⟩

theorem GiveNew.typed {k : Int} {gs gn : List Int} {gi : List Arr} {w w' : World} {e : Ending} (h : GiveNew (.mk k gs gn gi) w e w') : ∃ sa sc na nc ia ic, e = .returned (.agg #[.int .i64 k, .slice sa gs.length sc, .slice na gn.length nc, .slice ia gi.length ic]) ∧
    ArrOn (fun g => w.heap.size ≤ g) w' (.agg #[.int .i64 k, .slice sa gs.length sc, .slice na gn.length nc, .slice ia gi.length ic]) (.mk k gs gn gi) ∧ Below w.heap.size w w' := by
  obtain ⟨c0, c1, c2, c3, rfl, _, hO, hb⟩ := h
  have hO' := hO
  rw [ArrOn] at hO
  obtain ⟨sa, sc, na, nc, ia, ic, hv, -⟩ := hO
  rw [hv] at hO'
  exact ⟨sa, sc, na, nc, ia, ic, by rw [hv], hO', hb⟩

end Go.Proofs.Ytkjbccodahleoaa.Shape

namespace Go.Proofs.Ytkjbccodahleoaa.Shape
open Go.RowKit

/-- What Of returns for boxes: an array, or an error of too much weight. -/
def OfBox (sh : List Int) (gi : List Arr) (w : World) (e : Ending) (w' : World) : Prop :=
  if pr sh + sumW (cyc gi zeroA (pr sh).toNat) ≤ 262144 then GiveNewE (.mk 3 sh [] (cyc gi zeroA (pr sh).toNat)) 0 w e w' else GiveNewE zeroA 21 w e w'
theorem OfBox.yes {sh : List Int} {gi : List Arr} {w w' : World} {e : Ending} (h : Hid (pr sh + sumW (cyc gi zeroA (pr sh).toNat) ≤ 262144)) (g : GiveNewE (.mk 3 sh [] (cyc gi zeroA (pr sh).toNat)) 0 w e w') : OfBox sh gi w e w' := by
  unfold OfBox; rw [if_pos h.out]; exact g
theorem OfBox.no {sh : List Int} {gi : List Arr} {w w' : World} {e : Ending} (h : Hid (262144 < pr sh + sumW (cyc gi zeroA (pr sh).toNat))) (g : GiveNewE zeroA 21 w e w') : OfBox sh gi w e w' := by
  unfold OfBox; rw [if_neg (by have := h.out; omega)]; exact g
/-- A boxed scalar. -/
theorem box_form {A : Arr} {w w' : World} {e : Ending} (h : GiveNew (.mk 3 [] [] [A]) w e w') : ∃ ea el ecc eo lo co eb ef ec c0 c1 c2 c3, e = .returned (.agg #[.int .i64 3, .slice ea el ecc, .slice eo lo co, .slice (some ⟨eb, ef, none⟩) 1 ec]) ∧
    (w'.cell? ⟨eb, ef, none⟩ = some c0 ∧ w'.cell? ⟨eb, ef + 1, none⟩ = some c1 ∧ w'.cell? ⟨eb, ef + 2, none⟩ = some c2 ∧ w'.cell? ⟨eb, ef + 3, none⟩ = some c3) ∧ (∀ u ∈ [c0, c1, c2, c3], Value.oneCell' u = true) ∧ ArrOn (fun g => w.heap.size ≤ g) w' (.agg #[c0, c1, c2, c3]) A ∧ Below w.heap.size w w' := by
  obtain ⟨c0, c1, c2, c3, rfl, _, hO, hb⟩ := h
  rw [ArrOn] at hO
  obtain ⟨sa, sc, na, nc, ia, ic, hv, -, -, -, -, -, b, off, ha, hc⟩ := hO
  have e := (ha (by simp)).1
  subst e
  rw [ArrsOn] at hc
  obtain ⟨⟨d0, d1, d2, d3, hd, hA⟩, -⟩ := hc
  have hA' := hA
  obtain ⟨k, sh, nu, it⟩ := A
  rw [ArrOn] at hA
  obtain ⟨_, _, _, _, _, _, hv2, -⟩ := hA
  simp only [Value.agg.injEq, Array.mk.injEq, List.cons.injEq, and_true] at hv2
  obtain ⟨rfl, rfl, rfl, rfl⟩ := hv2
  refine ⟨sa, _, sc, na, _, nc, b, off, ic, _, _, _, _, by rw [hv]; rfl, hd, ?_, hA', hb⟩
  intro u hu
  simp only [List.mem_cons, List.not_mem_nil, or_false] at hu
  rcases hu with rfl | rfl | rfl | rfl <;> rfl
theorem of_quads {W0 wr w1 w2 : World} {bx n g cap : Nat} {k : Int} {sh : List Int} {c2 c3 v d0 d1 d2 d3 x0 x1 x2 x3 : Value} {qs : List Value} {l : List Arr} {A : Arr} (h : OInv W0 wr bx k sh c2 c3 v 26 4 n qs) (b1 : Below wr.heap.size wr w1) (P : Put1 w1 w2 (bx + 1) 26 4 n v qs [x0, x1, x2, x3] g cap)
    (hq : Quads (Far W0 bx v) wr qs l) (hX : ArrOn (fun g => wr.heap.size ≤ g) w1 (.agg #[x0, x1, x2, x3]) A) :
    Quads (Far W0 bx (.slice (some ⟨g, 0, none⟩) (n + 1) cap)) ((((w2.setCell ⟨bx, 0, none⟩ d0).setCell ⟨bx, 1, none⟩ d1).setCell ⟨bx, 2, none⟩ d2).setCell ⟨bx, 3, none⟩ d3) (qs ++ [x0, x1, x2, x3]) (l ++ [A]) := by
  obtain ⟨k1, k2⟩ := of_kept (d0 := d0) (d1 := d1) (d2 := d2) (d3 := d3) h b1 P
  exact (hq.keep k1).snoc (hX.keep k2)
theorem of_box_out {W0 wr : World} {bx n B : Nat} {sh : List Int} {a2 : Value} {qs : List Value} {l : List Arr} {a1 va : Option Addr} {c1 vl vc : Nat} (h : OInv W0 wr bx 3 sh a2 (.slice va vl vc) (.slice va vl vc) 26 4 n qs) (hq : Quads (Far W0 bx (.slice va vl vc)) wr qs l) (hl : l.length = n) (hB : B < W0.heap.size)
    (i1 : IntsOn (Far W0 bx (.slice va vl vc)) wr a1 c1 sh) :
    ArrOn (fun g => B < g) wr (.agg #[.int .i64 3, .slice a1 sh.length c1, .slice none 0 0, .slice va vl vc]) (.mk 3 sh [] l) := by
  subst hl
  have own := h.own
  have hbx := h.bxl
  have keepF : ∀ b, Far W0 bx (.slice va vl vc) b → b < wr.heap.size → B < b ∧ ∀ o, wr.cell? ⟨b, o, none⟩ = wr.cell? ⟨b, o, none⟩ := fun b hF _ => ⟨by have := hF.1; omega, fun _ => rfl⟩
  rw [ArrOn]
  have own' := own
  rcases own'.2 with ⟨hv, h0⟩ | ⟨g, cap, cur, hv, hg, hh, hnc, hcm, hcs, htake⟩
  · have hl : l = [] := List.eq_nil_of_length_eq_zero h0
    subst hl
    rw [hv]
    exact ⟨a1, c1, none, 0, none, 0, rfl, by decide, i1.keep keepF, ⟨ints_nil wr, fun g => absurd rfl g⟩, Nat.le_refl _, by decide, 0, 0, fun g => absurd rfl g, by rw [ArrsOn]; trivial⟩
  · rw [hv] at own ⊢
    refine ⟨a1, c1, none, 0, some ⟨g, 0, none⟩, cap, rfl, by decide, i1.keep keepF, ⟨ints_nil wr, fun g => absurd rfl g⟩, hnc, by unfold maxLen at hcm; omega, g, 0, fun _ => ⟨rfl, by omega⟩, ?_⟩
    refine (hq.keep keepF).arrs fun i hi => ?_
    rw [Nat.zero_add, own.cellAt i (by rw [own.1] at hi; exact hi)]
    simp [hi]
theorem cyc_take {α : Type} (l : List α) (z : α) (m : Nat) : ∀ n, m ≤ n → (cyc l z n).take m = cyc l z m := by
  intro n hn
  rw [cyc, cyc, ← List.map_take, List.take_range, Nat.min_eq_left hn]
theorem sumW_cyc (l : List Arr) (z : Arr) (m n : Nat) (h : m ≤ n) : sumW (cyc l z m) ≤ sumW (cyc l z n) := by
  rw [← cyc_take l z m n h]; exact sumW_take _ _

end Go.Proofs.Ytkjbccodahleoaa.Shape

namespace Go.Proofs.Ytkjbccodahleoaa.Shape
open Go.RowKit

theorem kind_right {k : Int} {sh nu : List Int} {it : List Arr} (h : rightE (.mk k sh nu it) = 0) : k = 1 ∨ k = 2 ∨ k = 3 := by
  by_cases hb : k < 1 ∨ 3 < k
  · rw [rightE, chk_kind hb] at h; cases h
  · omega
theorem ofA_box {sh : List Int} {F : Arr} {gs gn : List Int} {gi : List Arr} {w w' : World} {e : Ending} (hE : rightE F = 0) (hD : dimsE sh = 0) (hs : srcA F = .mk 3 gs gn gi) (h : OfBox sh gi w e w') : GiveNewE (ofA sh F).1 (ofA sh F).2 w e w' := by
  unfold OfBox at h
  rw [ofA, if_pos hE, if_pos hD, hs, if_pos (show (Arr.mk 3 gs gn gi).kind = 3 from rfl)]
  show GiveNewE (if pr sh + sumW (cyc gi zeroA (pr sh).toNat) ≤ 262144 then _ else _ : Arr × Int).1 (if pr sh + sumW (cyc gi zeroA (pr sh).toNat) ≤ 262144 then _ else _ : Arr × Int).2 w e w'
  split at h
  · rename_i hc; rw [if_pos hc]; exact h
  · rename_i hc; rw [if_neg hc]; exact h
theorem ofA_num {sh : List Int} {F : Arr} {k : Int} {gs gn : List Int} {gi : List Arr} (hE : rightE F = 0) (hD : dimsE sh = 0) (hs : srcA F = .mk k gs gn gi) (hk : k ≠ 3) : ofA sh F = (.mk k sh (cyc gn 0 (pr sh).toNat) [], 0) := by
  rw [ofA, if_pos hE, if_pos hD, hs, if_neg (show ¬ (Arr.mk k gs gn gi).kind = 3 from hk)]; rfl
end Go.Proofs.Ytkjbccodahleoaa.Shape

namespace Go.Proofs.Ytkjbccodahleoaa.Shape
open Go.RowKit

mutual
theorem eqA_refl : ∀ A, eqA A A = true
  | .mk k sh nu it => by
    have h := eqL_refl it
    rw [eqA, h]; simp [sameB]
theorem eqL_refl : ∀ l, eqL l l = true
  | [] => by rw [eqL]
  | A :: r => by rw [eqL, eqA_refl A, eqL_refl r]; rfl
end
theorem sameRX {v v2 : Value} {A : Arr} {w : World} (h : ArrAt w v A) (g : ArrAt w v2 A) : Calls Try.prog 21 #[v, v2] w fun e w' => e = .returned (.bool true) ∧ Below w.heap.size w w' := by
  have := sameR3 v v2 A A w h g
  rw [eqA_refl] at this
  exact this
theorem GiveNewE.form {A : Arr} {er : Int} {w w' : World} {e : Ending} (h : GiveNewE A er w e w') : ∃ k sa ls sc na ln nc ia li ic, e = .returned (.tuple #[.agg #[.int .i64 k, .slice sa ls sc, .slice na ln nc, .slice ia li ic], .int .i64 er]) ∧
    ArrAt w' (.agg #[.int .i64 k, .slice sa ls sc, .slice na ln nc, .slice ia li ic]) A ∧ Below w.heap.size w w' := by
  obtain ⟨c0, c1, c2, c3, rfl, hg⟩ := h
  obtain ⟨k, sa, ls, sc, na, ln, nc, ia, li, ic, hv, hO, hb⟩ := hg.form
  simp only [Ending.returned.injEq] at hv
  exact ⟨k, sa, ls, sc, na, ln, nc, ia, li, ic, by rw [hv], hO.at, hb⟩
end Go.Proofs.Ytkjbccodahleoaa.Shape

namespace Go.Proofs.Ytkjbccodahleoaa.Shape
open Go.RowKit
set_option linter.unusedVariables false

theorem intsLX (a : Option Addr) (cap : Nat) (xs : List Int) (a2 : Option Addr) (cap2 : Nat) (w : World) (h : IntsAt w a cap xs) (g : IntsAt w a2 cap2 xs) :
    Calls Try.prog 13 #[.slice a xs.length cap, .slice a2 xs.length cap2] w fun e w' => e = .returned (.bool true) ∧ ∃ n, w' = w.drewN n := by
  have hl := h.len
  go_enter Try.func13, Try.ntmps13
  go_wp2_with fail
  go_loopw [5] (fun i wr => ∃ k n : Nat, k ≤ xs.length ∧ i = .int .i64 k ∧ wr = w.drewN n) (fun i _ => xs.length - (intOf i).toNat)
  case atStart => exact ⟨0, 0, Nat.zero_le _, rfl, rfl⟩
  case round =>
    obtain ⟨k, n, hk, rfl, rfl⟩ := hrel
    by_cases hlt : k < xs.length
    · obtain ⟨b, off, hi, hc⟩ := h.at hlt
      obtain ⟨b2, off2, hi2, hc2⟩ := g.at hlt
      go_wp2_with fail
      go_quiet (fail)
      go_wp2_with fail
      go_roundw
      case rel => exact ⟨k + 1, n + nq, by omega, by go_num, rfl⟩
      case measure => simp [intOf]; omega
    · obtain rfl : k = xs.length := by omega
      go_wp2_with fail
      go_ret
      exact ⟨by first | rfl | simp, n, rfl⟩

set_option maxRecDepth 100000 in
theorem arraysLX (a : Option Addr) (c : Nat) (a2 : Option Addr) (c2 : Nat) (l : List Arr) (w : World) (b off b2 off2 : Nat) (hlc : l.length ≤ c) (hc : c ≤ 9223372036854775807) (hlc2 : l.length ≤ c2) (hc2 : c2 ≤ 9223372036854775807) (ha : l ≠ [] → a = some ⟨b, off, none⟩) (ha2 : l ≠ [] → a2 = some ⟨b2, off2, none⟩) (h : ArrsAt w b off l) (g : ArrsAt w b2 off2 l) :
    Calls Try.prog 16 #[.slice a l.length c, .slice a2 l.length c2] w fun e w' => e = .returned (.bool true) ∧ Below w.heap.size w w' := by
  go_enter Try.func16, Try.ntmps16
  go_wp2_with fail
  go_loopw [5] (fun i wr => ∃ j : Nat, j ≤ l.length ∧ i = .int .i64 j ∧ Below w.heap.size w wr) (fun i _ => l.length - (intOf i).toNat)
  case atStart => exact ⟨0, Nat.zero_le _, rfl, Below.refl _ _⟩
  case round =>
    obtain ⟨j, hj, rfl, hb⟩ := hrel
    by_cases hlt : j < l.length
    · have hi := items_at (ic := c) rfl ha hlt
      have gi := items_at (ic := c2) rfl ha2 hlt
      obtain ⟨x0, x1, x2, x3, ⟨m0, m1, m2, m3⟩, hB⟩ := (ArrsAt.below hb h).at hlt
      obtain ⟨y0, y1, y2, y3, ⟨l0, l1, l2, l3⟩, gB⟩ := (ArrsAt.below hb g).at hlt
      have S1 := sameRX hB.drew gB.drew
      go_wp2_with fail
      go_still_tail 8, (by kernel_rfl)
      go_wp2_with (go_at_call 21; refine S1.mono ?_; rintro e w2 ⟨rfl, hb2⟩)
      go_roundw
      case rel => exact ⟨j + 1, by omega, by go_num, Below.then hb (Below.then (below_drew _) hb2)⟩
      case measure => simp [intOf]; omega
    · obtain rfl : j = l.length := by omega
      go_wp2_with fail
      go_ret
      exact ⟨by first | rfl | simp, hb⟩
end Go.Proofs.Ytkjbccodahleoaa.Shape

namespace Go.Proofs.Ytkjbccodahleoaa.Shape
open Go.RowKit
set_option linter.unusedVariables false

theorem ints_two (w : World) (b cap : Nat) (x y : Int) (hx : -9223372036854775808 ≤ x ∧ x ≤ 9223372036854775807) (hy : -9223372036854775808 ≤ y ∧ y ≤ 9223372036854775807) (h0 : w.cell? ⟨b, 0, none⟩ = some (.int .i64 x)) (h1 : w.cell? ⟨b, 1, none⟩ = some (.int .i64 y)) (hc : 2 ≤ cap) (hc2 : cap ≤ 1000000) : IntsAt w (some ⟨b, 0, none⟩) cap [x, y] := by
  refine ⟨by simpa using hc, by omega, fun z hz => by simp at hz; rcases hz with rfl | rfl <;> assumption, b, 0, fun _ => rfl, fun i hi => ?_⟩
  have : i = 0 ∨ i = 1 := by simp at hi; omega
  rcases this with rfl | rfl
  · exact h0
  · exact h1

theorem vecL (a : Option Addr) (c : Nat) (xs : List Int) (w : World) (h : IntsAt w a c xs) : Calls Try.prog 32 #[.slice a xs.length c] w (GiveArr (.mk 1 [xs.length] xs []) w) := by
  have hl := h.len
  go_enter Try.func32, Try.ntmps32
  go_wp2
  refine bodyPost_ret (v := .agg #[.int .i64 1, .slice (some ⟨w.heap.size + 1, 0, none⟩) 1 1, .slice a xs.length c, .slice none 0 0]) (by simp [results, Try.results32, go_sem]) rfl (GiveArr.mk (arr_plain (by decide) rfl rfl (ints_one _ _ _ _ (by omega) ?_ (by decide) (by decide)) (h.below ?_)) ?_)
  · rw [World.cell?_alloc_at _ _ _ _ (by simp)]; rfl
  · exact Below.then (below_new _ _) (below_new _ _)
  · exact Below.then (below_new _ _) (below_new _ _)

theorem numL (x : Int) (w : World) (hx : -9223372036854775808 ≤ x ∧ x ≤ 9223372036854775807) : Calls Try.prog 33 #[.int .i64 x] w (GiveArr (.mk 1 [] [x] []) w) := by
  go_enter Try.func33, Try.ntmps33
  go_wp2
  refine bodyPost_ret (v := .agg #[.int .i64 1, .slice none 0 0, .slice (some ⟨w.heap.size + 1, 0, none⟩) 1 1, .slice none 0 0]) (by simp [results, Try.results33, go_sem]) rfl (GiveArr.mk (arr_plain (by decide) rfl rfl (ints_nil _) (ints_one _ _ _ _ hx ?_ (by decide) (by decide))) ?_)
  · rw [World.cell?_alloc_at _ _ _ _ (by simp)]; rfl
  · exact Below.then (below_new _ _) (below_new _ _)

theorem matL (r q : Int) (a : Option Addr) (c : Nat) (xs : List Int) (w : World) (h : IntsAt w a c xs) (hr : -9223372036854775808 ≤ r ∧ r ≤ 9223372036854775807) (hq : -9223372036854775808 ≤ q ∧ q ≤ 9223372036854775807) : Calls Try.prog 31 #[.int .i64 r, .int .i64 q, .slice a xs.length c] w (GiveArr (.mk 1 [r, q] xs []) w) := by
  have hl := h.len
  go_enter Try.func31, Try.ntmps31
  go_wp2
  refine bodyPost_ret (v := .agg #[.int .i64 1, .slice (some ⟨w.heap.size + 1, 0, none⟩) 2 2, .slice a xs.length c, .slice none 0 0]) (by simp [results, Try.results31, go_sem]) rfl (GiveArr.mk (arr_plain (by decide) rfl rfl (ints_two _ _ _ _ _ hr hq ?_ ?_ (by decide) (by decide)) (h.below ?_)) ?_)
  · rw [World.cell?_alloc_at _ _ _ _ (by simp)]; rfl
  · rw [World.cell?_alloc_at _ _ _ _ (by simp)]; rfl
  · exact Below.then (below_new _ _) (below_new _ _)
  · exact Below.then (below_new _ _) (below_new _ _)
end Go.Proofs.Ytkjbccodahleoaa.Shape
