/-
  Layer 3: what the law's own helper changed may do: it turns numbers in the blocks of an array, and nothing else.
-/
import Derived.Test.YtngcahaidlgkfaaDoorArrOf2
namespace Go.Proofs.YtngcahaidlgkfaaDoor.Shape
open Go.RowKit

/-- No cell of the block is frozen, and it is no row of bytes (type 5 is uint8). -/
def Thaw (w : World) (g : Nat) : Prop := ∃ (cs : Array Value) (t : { t : TypeId // t ≠ 5 }), w.heap[g]? = some (.cells cs t.1 (0, 0))
theorem Thaw.free {w : World} {g : Nat} (h : Thaw w g) (o : Nat) : w.frozen? ⟨g, o, none⟩ = false := by
  obtain ⟨cs, t, h⟩ := h
  simp [World.frozen?, h]
/-- Old memory is kept, but for numbers in blocks of the kind P. -/
structure Upd (P : Nat → Prop) (B : Nat) (w w' : World) : Prop where
  bel : Below B w w'
  blk : ∀ g, ¬ P g → g < w.heap.size → w'.heap[g]? = w.heap[g]?
  cell : ∀ g o v, w.cell? ⟨g, o, none⟩ = some v → w'.cell? ⟨g, o, none⟩ = some v ∨ ∃ x y, v = .int .i64 x ∧ w'.cell? ⟨g, o, none⟩ = some (.int .i64 y) ∧ -9223372036854775808 ≤ y ∧ y ≤ 9223372036854775807
  thaw : ∀ g, Thaw w g → Thaw w' g
theorem Upd.refl {P : Nat → Prop} {B : Nat} (w : World) : Upd P B w w := ⟨Below.refl _ _, fun _ _ _ => rfl, fun _ _ _ h => Or.inl h, fun _ h => h⟩
theorem Upd.trans {P : Nat → Prop} {B : Nat} {a b c : World} (h : Upd P B a b) (k : Upd P B b c) : Upd P B a c := by
  refine ⟨h.bel.trans k.bel, fun g hg hl => (k.blk g hg (Nat.lt_of_lt_of_le hl h.bel.size)).trans (h.blk g hg hl), fun g o v hv => ?_, fun g hg => k.thaw g (h.thaw g hg)⟩
  rcases h.cell g o v hv with h1 | ⟨x, y, rfl, h1, h2⟩
  · exact k.cell g o v h1
  · rcases k.cell g o _ h1 with h3 | ⟨x', y', _, h3, h4⟩
    · exact Or.inr ⟨x, y, rfl, h3, h2⟩
    · exact Or.inr ⟨x, y', rfl, h3, h4⟩
theorem Upd.of_below {P : Nat → Prop} {B : Nat} {w w' : World} (h : Below w.heap.size w w') (hB : B ≤ w.heap.size) : Upd P B w w' :=
  ⟨h.mono hB, fun g _ hl => h.block g hl, fun g o v hv => Or.inl ((h.cell (cell_lt hv)).trans hv), fun g ⟨cs, t, hg⟩ => ⟨cs, t, (h.block g (by
    rcases Nat.lt_or_ge g w.heap.size with h1 | h1
    · exact h1
    · rw [Array.getElem?_eq_none h1] at hg; cases hg)).trans hg⟩⟩
theorem thaw_set {w : World} {g b o : Nat} {u : Value} (h : Thaw w g) : Thaw (w.setCell ⟨b, o, none⟩ u) g := by
  obtain ⟨cs, t, hg⟩ := h
  by_cases e : g = b
  · subst e
    have hl : g < w.heap.size := by
      rcases Nat.lt_or_ge g w.heap.size with h1 | h1
      · exact h1
      · rw [Array.getElem?_eq_none h1] at hg; cases hg
    have h' : w.heap[g] = .cells cs t (0, 0) := by simpa [Array.getElem?_eq_getElem hl] using hg
    refine ⟨cs.setIfInBounds o u, t, ?_⟩
    show (w.heap.modify g _)[g]? = _
    rw [Array.getElem?_eq_getElem (by simpa using hl), Array.getElem_modify_self, h']
    rfl
  · exact ⟨cs, t, (set_other _ _ _ _ _ e).trans hg⟩
theorem Upd.set {P : Nat → Prop} {B : Nat} {w : World} {g o : Nat} {x y : Int} (hx : w.cell? ⟨g, o, none⟩ = some (.int .i64 x)) (hP : P g) (hB : B ≤ g) (hy : -9223372036854775808 ≤ y ∧ y ≤ 9223372036854775807) : Upd P B w (w.setCell ⟨g, o, none⟩ (.int .i64 y)) := by
  refine ⟨(Below.refl _ _).setCell (p := ⟨g, o, none⟩) hB _, fun g' hg' _ => set_other _ _ _ _ _ (fun e => hg' (e ▸ hP)), fun g' o' v hv => ?_, fun _ h => thaw_set h⟩
  by_cases e : (⟨g', o', none⟩ : Addr) = ⟨g, o, none⟩
  · rw [e] at hv ⊢
    rw [hx] at hv
    simp only [Option.some.injEq] at hv
    subst hv
    exact Or.inr ⟨x, y, rfl, World.cell?_setCell_same _ _ _ hx, hy⟩
  · exact Or.inl ((World.cell?_setCell_other _ _ _ _ (fun h => e h.symm)).trans hv)

theorem list_of {Q : Nat → Int → Prop} : ∀ n, (∀ i, i < n → ∃ y, Q i y) → ∃ l : List Int, l.length = n ∧ ∀ i (h : i < l.length), Q i l[i]
  | 0, _ => ⟨[], rfl, fun i h => absurd h (by simp)⟩
  | n + 1, h => by
    obtain ⟨l, hl, hq⟩ := list_of n (fun i hi => h i (by omega))
    obtain ⟨y, hy⟩ := h n (by omega)
    refine ⟨l ++ [y], by simp [hl], fun i hi => ?_⟩
    by_cases e : i < l.length
    · rw [List.getElem_append_left e]; exact hq i e
    · have : i = n := by simp at hi; omega
      subst this
      rw [List.getElem_append_right (by omega)]
      simpa [hl] using hy
theorem upd_ints {P R : Nat → Prop} {B : Nat} {w w' : World} (hu : Upd R B w w') {a : Option Addr} {cap : Nat} {xs : List Int} (h : IntsOn P w a cap xs) : ∃ ys : List Int, ys.length = xs.length ∧ IntsOn P w' a cap ys := by
  obtain ⟨⟨h1, h2, h3, b, off, ha, hc⟩, hp⟩ := h
  have key : ∀ i, i < xs.length → ∃ y : Int, w'.cell? ⟨b, off + i, none⟩ = some (.int .i64 y) ∧ -9223372036854775808 ≤ y ∧ y ≤ 9223372036854775807 := by
    intro i hi
    rcases hu.cell _ _ _ (hc i hi) with h4 | ⟨x, y, _, h4, h5⟩
    · exact ⟨xs[i], h4, h3 _ (List.getElem_mem hi)⟩
    · exact ⟨y, h4, h5⟩
  obtain ⟨ys, hl, hq⟩ := list_of xs.length key
  have hne : ys ≠ [] → xs ≠ [] := fun h e => h (by subst e; exact List.eq_nil_of_length_eq_zero hl)
  refine ⟨ys, hl, ⟨by omega, h2, fun y hy => ?_, b, off, fun g => ha (hne g), fun i hi => (hq i hi).1⟩, fun g ad e => hp (hne g) ad e⟩
  obtain ⟨i, hi, rfl⟩ := List.getElem_of_mem hy
  exact (hq i hi).2
mutual
theorem upd_arr {P R : Nat → Prop} {B : Nat} {w w' : World} (hu : Upd R B w w') : ∀ {c0 c1 c2 c3 : Value} {A : Arr} (_ : ArrOn P w (.agg #[c0, c1, c2, c3]) A) {k' : Int} (_ : -9223372036854775808 ≤ k' ∧ k' ≤ 9223372036854775807), ∃ A', rk A' = rk A ∧ ArrOn P w' (.agg #[.int .i64 k', c1, c2, c3]) A'
  | c0, c1, c2, c3, .mk k sh nu it, h, k', hk' => by
    rw [ArrOn] at h
    obtain ⟨sa, sc, na, nc, ia, ic, hv, hk, hs, hn, h1, h2, b, off, ha, hc⟩ := h
    simp only [Value.agg.injEq, Array.mk.injEq, List.cons.injEq, and_true] at hv
    obtain ⟨rfl, rfl, rfl, rfl⟩ := hv
    obtain ⟨sh', es, hs'⟩ := upd_ints hu hs
    obtain ⟨nu', en, hn'⟩ := upd_ints hu hn
    obtain ⟨it', el, er, hc'⟩ := upd_arrs hu hc
    refine ⟨.mk k' sh' nu' it', by rw [rk, rk, er], ?_⟩
    rw [ArrOn]
    refine ⟨sa, sc, na, nc, ia, ic, by rw [es, en, el], hk', hs', hn', by omega, h2, b, off, fun g => ha (fun e => g (by subst e; exact List.eq_nil_of_length_eq_zero el)), hc'⟩
theorem upd_arrs {P R : Nat → Prop} {B : Nat} {w w' : World} (hu : Upd R B w w') : ∀ {b off : Nat} {l : List Arr}, ArrsOn P w b off l → ∃ l' : List Arr, l'.length = l.length ∧ rkL l' = rkL l ∧ ArrsOn P w' b off l'
  | _, _, [], _ => ⟨[], rfl, rfl, by rw [ArrsOn]; trivial⟩
  | b, off, A :: r, h => by
    rw [ArrsOn] at h
    obtain ⟨⟨c0, c1, c2, c3, ⟨m0, m1, m2, m3⟩, hA⟩, hr⟩ := h
    obtain ⟨r', el, er, hr'⟩ := upd_arrs hu hr
    have hA0 := hA
    obtain ⟨k, sh, nu, it⟩ := A
    rw [ArrOn] at hA0
    obtain ⟨sa, sc, na, nc, ia, ic, hv, hk, -⟩ := hA0
    simp only [Value.agg.injEq, Array.mk.injEq, List.cons.injEq, and_true] at hv
    obtain ⟨rfl, rfl, rfl, rfl⟩ := hv
    have kept : ∀ {o : Nat} {a : Option Addr} {n c : Nat}, w.cell? ⟨b, o, none⟩ = some (.slice a n c) → w'.cell? ⟨b, o, none⟩ = some (.slice a n c) := by
      intro o a n c h
      rcases hu.cell _ _ _ h with h4 | ⟨x, y, h5, _⟩
      · exact h4
      · cases h5
    have hk' : ∃ k' : Int, w'.cell? ⟨b, off, none⟩ = some (.int .i64 k') ∧ -9223372036854775808 ≤ k' ∧ k' ≤ 9223372036854775807 := by
      rcases hu.cell _ _ _ m0 with h4 | ⟨x, y, _, h4, h5⟩
      · exact ⟨k, h4, hk⟩
      · exact ⟨y, h4, h5⟩
    obtain ⟨k', m0', hkb⟩ := hk'
    obtain ⟨A', eA, hA'⟩ := upd_arr hu hA hkb
    refine ⟨A' :: r', by simp [el], by rw [rkL, rkL, eA, er], ?_⟩
    rw [ArrsOn]
    exact ⟨⟨_, _, _, _, ⟨m0', kept m1, kept m2, kept m3⟩, hA'⟩, hr'⟩
end
end Go.Proofs.YtngcahaidlgkfaaDoor.Shape
