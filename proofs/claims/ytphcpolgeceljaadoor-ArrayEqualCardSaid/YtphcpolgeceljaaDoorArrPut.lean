/-
  Layer 3: the reference's Put: it appends one element to a row that its caller has gathered. (Written by wip/gen/array-put.py.)
-/
import Derived.Test.YtphcpolgeceljaaDoorArrText
namespace Go.Proofs.YtphcpolgeceljaaDoor.Shape
open Go.RowKit

/-- What an append of one element to the row v leaves. -/
structure Put1 (w w' : World) (B : Nat) (e : TypeId) (size n : Nat) (v : Value) (qs news : List Value) (g cap : Nat) : Prop where
  own : w'.ownsRow B e size (.slice (some ⟨g, 0, none⟩) (n + 1) cap) (n + 1) (qs ++ news)
  far : ∀ b, b < w.heap.size → v.ownBlock ≠ some b → w'.heap[b]? = w.heap[b]?
  big : w.heap.size ≤ w'.heap.size
  bel : Below B w w'
  at' : v.ownBlock = some g ∨ w.heap.size ≤ g
theorem Put1.set {w w' : World} {B n g cap R o : Nat} {e : TypeId} {size : Nat} {v : Value} {qs news : List Value} (h : Put1 w w' B e size n v qs news g cap) (hR : w.heap.size ≤ R) (hB : B ≤ w.heap.size) (hg : g ≠ R) (u : Value) : Put1 w (w'.setCell ⟨R, o, none⟩ u) B e size n v qs news g cap := by
  obtain ⟨h1, h2, h3, h4, h5⟩ := h
  have hs : (w'.setCell ⟨R, o, none⟩ u).heap.size = w'.heap.size := by simp
  exact ⟨ownsRow_setCell_other h1 (by simp only [Value.ownBlock, ne_eq, Option.some.injEq]; omega) _, fun b hb hn => (set_other _ _ _ _ _ (by omega)).trans (h2 b hb hn), by omega, h4.setCell (by show _ ≤ R; omega) _, h5⟩
theorem Put1.of {w w4 w' : World} {B n g cap : Nat} {e : TypeId} {size : Nat} {v : Value} {qs news : List Value} (own : w.ownsRow B e size v n qs) (b4 : Below w.heap.size w w4) (hB : B ≤ w.heap.size) (h1 : w'.ownsRow B e size (.slice (some ⟨g, 0, none⟩) (n + 1) cap) (n + 1) (qs ++ news)) (hg : w4.grownBy w' v.ownBlock) (hat : v.ownBlock = some g ∨ g = w4.heap.size) : Put1 w w' B e size n v qs news g cap := by
  have hs := b4.size
  refine ⟨h1, fun b hb hn => (hg.block b (by omega) (Ne.symm hn)).trans (b4.block b hb), Nat.le_trans hs hg.size, (b4.mono hB).grown hg (by omega) (fun k hk => (own.lt k hk).1), ?_⟩
  rcases hat with h | h
  · exact Or.inl h
  · exact Or.inr (by omega)
theorem below_four (w : World) (o o' o'' p : Obj) : Below w.heap.size w ((((w.alloc o).alloc o').alloc o'').alloc p) := (below_three w o o' o'').alloc (by simp; omega) _
theorem put_mid {w4 w5 : World} {b : Nat} {x0 x1 x2 x3 v : Value} (h : Quad w4 b x0 x1 x2 x3) (hg : w4.grownBy w5 v.ownBlock) (hn : v.ownBlock ≠ some b) : Quad w5 b x0 x1 x2 x3 :=
  h.keep (hg.block b h.lt (Ne.symm hn))

set_option maxRecDepth 100000 in
set_option maxHeartbeats 4000000 in
/-- A number. -/
theorem putR_num (k : Int) (hk : k ≠ 3) (sa : Option Addr) (ls sc : Nat) (va : Option Addr) (vl vc : Nat) (ia : Option Addr) (li ic : Nat) (ek : Int) (ea : Option Addr) (el ecc eb ef ec : Nat) (eo : Option Addr) (lo co : Nat) (x : Int) (w : World) (B n : Nat) (qs : List Value) (hB : B ≤ w.heap.size) (hn : n ≤ 100000000)
    (own : w.ownsRow B 3 1 (.slice va vl vc) n qs) (hx : w.cell? ⟨eb, ef, none⟩ = some (.int .i64 x)) :
    Calls Tryd.prog 64 #[.agg #[.int .i64 k, .slice sa ls sc, .slice va vl vc, .slice ia li ic], .agg #[.int .i64 ek, .slice ea el ecc, .slice (some ⟨eb, ef, none⟩) 1 ec, .slice eo lo co]] w fun e w' => ∃ g cap, e = .returned (.agg #[.int .i64 k, .slice sa ls sc, .slice (some ⟨g, 0, none⟩) (n + 1) cap, .slice ia li ic]) ∧ Put1 w w' B 3 1 n (.slice va vl vc) qs [.int .i64 x] g cap := by
  have k3 : (k == 3) = false := by simpa using hk
  clear hk
  have hnews : ∀ (W : World), Below w.heap.size w W → ∀ j u, [Value.int .i64 x][j]? = some u → W.cell? ((⟨eb, ef, none⟩ : Addr).add j) = some u := by
    intro W hW j u hj
    match j, hj with
    | 0, hj => simp at hj; subst hj; rw [add_plain, Nat.add_zero]; exact (hW.cell (cell_lt hx)).trans hx
  have hone : ∀ u ∈ [Value.int .i64 x], u.oneCell' = true := by intro u hu; simp at hu; subst hu; rfl
  clear hx
  have b4 := below_four w (.cells #[.int .i64 k, .slice sa ls sc, .slice va vl vc, .slice ia li ic] 26) (.cells #[.int .i64 ek, .slice ea el ecc, .slice (some ⟨eb, ef, none⟩) 1 ec, .slice eo lo co] 26) (.cells #[.int .i64 0, .slice none 0 0, .slice none 0 0, .slice none 0 0] 26) (.cells #[.int .i64 k, .slice sa ls sc, .slice va vl vc, .slice ia li ic] 26)
  have own4 := (((own.alloc (.cells #[.int .i64 k, .slice sa ls sc, .slice va vl vc, .slice ia li ic] 26)).alloc (.cells #[.int .i64 ek, .slice ea el ecc, .slice (some ⟨eb, ef, none⟩) 1 ec, .slice eo lo co] 26)).alloc (.cells #[.int .i64 0, .slice none 0 0, .slice none 0 0, .slice none 0 0] 26)).alloc (.cells #[.int .i64 k, .slice sa ls sc, .slice va vl vc, .slice ia li ic] 26)
  have hv := own.lt
  have hlt2 : (Value.slice va vl vc).ownBlock ≠ some (w.heap.size + 2) := fun e => by have := (hv _ e).2; omega
  have hlt3 : (Value.slice va vl vc).ownBlock ≠ some (w.heap.size + 3) := fun e => by have := (hv _ e).2; omega
  have s4 : ((((w.alloc (.cells #[.int .i64 k, .slice sa ls sc, .slice va vl vc, .slice ia li ic] 26)).alloc (.cells #[.int .i64 ek, .slice ea el ecc, .slice (some ⟨eb, ef, none⟩) 1 ec, .slice eo lo co] 26)).alloc (.cells #[.int .i64 0, .slice none 0 0, .slice none 0 0, .slice none 0 0] 26)).alloc (.cells #[.int .i64 k, .slice sa ls sc, .slice va vl vc, .slice ia li ic] 26)).heap.size = w.heap.size + 4 := by simp
  have hnews4 := hnews _ b4
  obtain ⟨i0, hi0, hz0, hz1, hz2⟩ := info_parts infoInt
  have q2 : Quad ((((w.alloc (.cells #[.int .i64 k, .slice sa ls sc, .slice va vl vc, .slice ia li ic] 26)).alloc (.cells #[.int .i64 ek, .slice ea el ecc, .slice (some ⟨eb, ef, none⟩) 1 ec, .slice eo lo co] 26)).alloc (.cells #[.int .i64 0, .slice none 0 0, .slice none 0 0, .slice none 0 0] 26)).alloc (.cells #[.int .i64 k, .slice sa ls sc, .slice va vl vc, .slice ia li ic] 26)) (w.heap.size + 2) (.int .i64 0) (.slice none 0 0) (.slice none 0 0) (.slice none 0 0) := by
    simpa using (Quad.new ((w.alloc (.cells #[.int .i64 k, .slice sa ls sc, .slice va vl vc, .slice ia li ic] 26)).alloc (.cells #[.int .i64 ek, .slice ea el ecc, .slice (some ⟨eb, ef, none⟩) 1 ec, .slice eo lo co] 26)) (.int .i64 0) (.slice none 0 0) (.slice none 0 0) (.slice none 0 0)).below (below_new _ (.cells #[.int .i64 k, .slice sa ls sc, .slice va vl vc, .slice ia li ic] 26))
  have q3 : Quad ((((w.alloc (.cells #[.int .i64 k, .slice sa ls sc, .slice va vl vc, .slice ia li ic] 26)).alloc (.cells #[.int .i64 ek, .slice ea el ecc, .slice (some ⟨eb, ef, none⟩) 1 ec, .slice eo lo co] 26)).alloc (.cells #[.int .i64 0, .slice none 0 0, .slice none 0 0, .slice none 0 0] 26)).alloc (.cells #[.int .i64 k, .slice sa ls sc, .slice va vl vc, .slice ia li ic] 26)) (w.heap.size + 3) (.int .i64 k) (.slice sa ls sc) (.slice va vl vc) (.slice ia li ic) := by
    simpa using Quad.new (((w.alloc (.cells #[.int .i64 k, .slice sa ls sc, .slice va vl vc, .slice ia li ic] 26)).alloc (.cells #[.int .i64 ek, .slice ea el ecc, .slice (some ⟨eb, ef, none⟩) 1 ec, .slice eo lo co] 26)).alloc (.cells #[.int .i64 0, .slice none 0 0, .slice none 0 0, .slice none 0 0] 26)) (.int .i64 k) (.slice sa ls sc) (.slice va vl vc) (.slice ia li ic)
  have HB4 : Hid (Below w.heap.size w ((((w.alloc (.cells #[.int .i64 k, .slice sa ls sc, .slice va vl vc, .slice ia li ic] 26)).alloc (.cells #[.int .i64 ek, .slice ea el ecc, .slice (some ⟨eb, ef, none⟩) 1 ec, .slice eo lo co] 26)).alloc (.cells #[.int .i64 0, .slice none 0 0, .slice none 0 0, .slice none 0 0] 26)).alloc (.cells #[.int .i64 k, .slice sa ls sc, .slice va vl vc, .slice ia li ic] 26))) := b4
  have own' : Hid (w.ownsRow B 3 1 (.slice va vl vc) n qs) := own
  have S4 : Hid (((((w.alloc (.cells #[.int .i64 k, .slice sa ls sc, .slice va vl vc, .slice ia li ic] 26)).alloc (.cells #[.int .i64 ek, .slice ea el ecc, .slice (some ⟨eb, ef, none⟩) 1 ec, .slice eo lo co] 26)).alloc (.cells #[.int .i64 0, .slice none 0 0, .slice none 0 0, .slice none 0 0] 26)).alloc (.cells #[.int .i64 k, .slice sa ls sc, .slice va vl vc, .slice ia li ic] 26)).heap.size = w.heap.size + 4) := s4
  have HX : ∀ (w5 : World) (g cap : Nat), w5.ownsRow B 3 1 (.slice (some ⟨g, 0, none⟩) (n + 1) cap) (n + 1) (qs ++ [.int .i64 x]) → ((((w.alloc (.cells #[.int .i64 k, .slice sa ls sc, .slice va vl vc, .slice ia li ic] 26)).alloc (.cells #[.int .i64 ek, .slice ea el ecc, .slice (some ⟨eb, ef, none⟩) 1 ec, .slice eo lo co] 26)).alloc (.cells #[.int .i64 0, .slice none 0 0, .slice none 0 0, .slice none 0 0] 26)).alloc (.cells #[.int .i64 k, .slice sa ls sc, .slice va vl vc, .slice ia li ic] 26)).grownBy w5 (Value.slice va vl vc).ownBlock → ((Value.slice va vl vc).ownBlock = some g ∨ g = w.heap.size + 4) →
      Put1 w w5 B 3 1 n (.slice va vl vc) qs [.int .i64 x] g cap ∧ Quad w5 (w.heap.size + 3) (.int .i64 k) (.slice sa ls sc) (.slice va vl vc) (.slice ia li ic) ∧ Quad w5 (w.heap.size + 2) (.int .i64 0) (.slice none 0 0) (.slice none 0 0) (.slice none 0 0) ∧ g ≠ w.heap.size + 3 ∧ g ≠ w.heap.size + 2 := by
    intro w5 g cap h1 h2 h3
    refine ⟨Put1.of own b4 hB h1 h2 (by rw [s4]; exact h3), put_mid q3 h2 hlt3, put_mid q2 h2 hlt2, fun e => ?_, fun e => ?_⟩
    · subst e; rcases h3 with h3 | h3
      · exact hlt3 h3
      · omega
    · subst e; rcases h3 with h3 | h3
      · exact hlt2 h3
      · omega
  clear b4 own hv hnews q2 q3 hlt2 hlt3
  go_enter Tryd.func64, Tryd.ntmps64
  go_wp2_with (at_builtin; refine wpList_append_lies _ rfl _ _ 23 rfl B 3 i0 _ 1 8 Tryd.underlying23 hi0 hz0 hz1 hz2 rfl (by omega) (.slice va vl vc) n qs rfl own4 ⟨eb, ef, none⟩ 1 ec [.int .i64 x] rfl rfl hnews4 hone (by omega) (by unfold maxLen; omega) (by omega) (by rw [s4]; omega) (w.heap.size + 4) s4 ?_; intro g cap w5 hown hgrow hat hl5; (obtain ⟨P0, Q3, Q2, ne3, ne2⟩ := HX w5 g cap hown hgrow hat); (obtain ⟨r0, r1, r2, r3, r4, r5, r6, r7⟩ := Q3.cells); (have Q2' := Q2.keep (set_other w5 (w.heap.size + 3) 2 (w.heap.size + 2) (.slice (some ⟨g, 0, none⟩) (n + 1) cap) (by omega))); (obtain ⟨t0, t1, t2, t3, t4, t5, t6, t7⟩ := Q2'.cells))
  have P1 := P0.set (R := w.heap.size + 3) (o := 2) (by omega) hB ne3 (.slice (some ⟨g, 0, none⟩) (n + 1) cap)
  have P2 := (((P1.set (R := w.heap.size + 2) (o := 0) (by omega) hB ne2 (.int .i64 k)).set (R := w.heap.size + 2) (o := 1) (by omega) hB ne2 (.slice sa ls sc)).set (R := w.heap.size + 2) (o := 2) (by omega) hB ne2 (.slice (some ⟨g, 0, none⟩) (n + 1) cap)).set (R := w.heap.size + 2) (o := 3) (by omega) hB ne2 (.slice ia li ic)
  obtain ⟨QW, -⟩ := set4 Q2' (.int .i64 k) (.slice sa ls sc) (.slice (some ⟨g, 0, none⟩) (n + 1) cap) (.slice ia li ic)
  generalize (((((w5.setCell ⟨w.heap.size + 3, 2, none⟩ (.slice (some ⟨g, 0, none⟩) (n + 1) cap)).setCell ⟨w.heap.size + 2, 0, none⟩ (.int .i64 k)).setCell ⟨w.heap.size + 2, 1, none⟩ (.slice sa ls sc)).setCell ⟨w.heap.size + 2, 2, none⟩ (.slice (some ⟨g, 0, none⟩) (n + 1) cap)).setCell ⟨w.heap.size + 2, 3, none⟩ (.slice ia li ic)) = WW at QW P2 ⊢
  obtain ⟨z0, z1, z2, z3, -⟩ := QW.cells
  exact bodyPost_ret (v := .agg #[.int .i64 k, .slice sa ls sc, .slice (some ⟨g, 0, none⟩) (n + 1) cap, .slice ia li ic]) (by simp [results, Tryd.results64, go_sem, z0, z1, z2, z3]) rfl ⟨g, cap, rfl, P2⟩
set_option maxRecDepth 100000 in
set_option maxHeartbeats 4000000 in
/-- An item. -/
theorem putR_box (sa : Option Addr) (ls sc : Nat) (na : Option Addr) (ln nc : Nat) (va : Option Addr) (vl vc : Nat) (ek : Int) (ea : Option Addr) (el ecc : Nat) (eo : Option Addr) (lo co eb ef ec : Nat) (c0 c1 c2 c3 : Value) (hc : ∀ u ∈ [c0, c1, c2, c3], Value.oneCell' u = true) (w : World) (B n : Nat) (qs : List Value) (hB : B ≤ w.heap.size) (hn : n ≤ 100000000)
    (own : w.ownsRow B 26 4 (.slice va vl vc) n qs) (hx : w.cell? ⟨eb, ef, none⟩ = some c0 ∧ w.cell? ⟨eb, ef + 1, none⟩ = some c1 ∧ w.cell? ⟨eb, ef + 2, none⟩ = some c2 ∧ w.cell? ⟨eb, ef + 3, none⟩ = some c3) :
    Calls Tryd.prog 64 #[.agg #[.int .i64 3, .slice sa ls sc, .slice na ln nc, .slice va vl vc], .agg #[.int .i64 ek, .slice ea el ecc, .slice eo lo co, .slice (some ⟨eb, ef, none⟩) 1 ec]] w fun e w' => ∃ g cap, e = .returned (.agg #[.int .i64 3, .slice sa ls sc, .slice na ln nc, .slice (some ⟨g, 0, none⟩) (n + 1) cap]) ∧ Put1 w w' B 26 4 n (.slice va vl vc) qs [c0, c1, c2, c3] g cap := by
  have hnews : ∀ (W : World), Below w.heap.size w W → ∀ j u, [c0, c1, c2, c3][j]? = some u → W.cell? ((⟨eb, ef, none⟩ : Addr).add j) = some u := by
    intro W hW j u hj
    obtain ⟨h0, h1, h2, h3⟩ := hx
    match j, hj with
    | 0, hj => simp at hj; subst hj; rw [add_plain, Nat.add_zero]; exact (hW.cell (cell_lt h0)).trans h0
    | 1, hj => simp at hj; subst hj; rw [add_plain]; exact (hW.cell (cell_lt h1)).trans h1
    | 2, hj => simp at hj; subst hj; rw [add_plain]; exact (hW.cell (cell_lt h2)).trans h2
    | 3, hj => simp at hj; subst hj; rw [add_plain]; exact (hW.cell (cell_lt h3)).trans h3
  have hone : ∀ u ∈ [c0, c1, c2, c3], Value.oneCell' u = true := hc
  clear hx hc
  have b4 := below_four w (.cells #[.int .i64 3, .slice sa ls sc, .slice na ln nc, .slice va vl vc] 26) (.cells #[.int .i64 ek, .slice ea el ecc, .slice eo lo co, .slice (some ⟨eb, ef, none⟩) 1 ec] 26) (.cells #[.int .i64 0, .slice none 0 0, .slice none 0 0, .slice none 0 0] 26) (.cells #[.int .i64 3, .slice sa ls sc, .slice na ln nc, .slice va vl vc] 26)
  have own4 := (((own.alloc (.cells #[.int .i64 3, .slice sa ls sc, .slice na ln nc, .slice va vl vc] 26)).alloc (.cells #[.int .i64 ek, .slice ea el ecc, .slice eo lo co, .slice (some ⟨eb, ef, none⟩) 1 ec] 26)).alloc (.cells #[.int .i64 0, .slice none 0 0, .slice none 0 0, .slice none 0 0] 26)).alloc (.cells #[.int .i64 3, .slice sa ls sc, .slice na ln nc, .slice va vl vc] 26)
  have hv := own.lt
  have hlt2 : (Value.slice va vl vc).ownBlock ≠ some (w.heap.size + 2) := fun e => by have := (hv _ e).2; omega
  have hlt3 : (Value.slice va vl vc).ownBlock ≠ some (w.heap.size + 3) := fun e => by have := (hv _ e).2; omega
  have s4 : ((((w.alloc (.cells #[.int .i64 3, .slice sa ls sc, .slice na ln nc, .slice va vl vc] 26)).alloc (.cells #[.int .i64 ek, .slice ea el ecc, .slice eo lo co, .slice (some ⟨eb, ef, none⟩) 1 ec] 26)).alloc (.cells #[.int .i64 0, .slice none 0 0, .slice none 0 0, .slice none 0 0] 26)).alloc (.cells #[.int .i64 3, .slice sa ls sc, .slice na ln nc, .slice va vl vc] 26)).heap.size = w.heap.size + 4 := by simp
  have hnews4 := hnews _ b4
  obtain ⟨i0, hi0, hz0, hz1, hz2⟩ := info_parts infoArr
  have q2 : Quad ((((w.alloc (.cells #[.int .i64 3, .slice sa ls sc, .slice na ln nc, .slice va vl vc] 26)).alloc (.cells #[.int .i64 ek, .slice ea el ecc, .slice eo lo co, .slice (some ⟨eb, ef, none⟩) 1 ec] 26)).alloc (.cells #[.int .i64 0, .slice none 0 0, .slice none 0 0, .slice none 0 0] 26)).alloc (.cells #[.int .i64 3, .slice sa ls sc, .slice na ln nc, .slice va vl vc] 26)) (w.heap.size + 2) (.int .i64 0) (.slice none 0 0) (.slice none 0 0) (.slice none 0 0) := by
    simpa using (Quad.new ((w.alloc (.cells #[.int .i64 3, .slice sa ls sc, .slice na ln nc, .slice va vl vc] 26)).alloc (.cells #[.int .i64 ek, .slice ea el ecc, .slice eo lo co, .slice (some ⟨eb, ef, none⟩) 1 ec] 26)) (.int .i64 0) (.slice none 0 0) (.slice none 0 0) (.slice none 0 0)).below (below_new _ (.cells #[.int .i64 3, .slice sa ls sc, .slice na ln nc, .slice va vl vc] 26))
  have q3 : Quad ((((w.alloc (.cells #[.int .i64 3, .slice sa ls sc, .slice na ln nc, .slice va vl vc] 26)).alloc (.cells #[.int .i64 ek, .slice ea el ecc, .slice eo lo co, .slice (some ⟨eb, ef, none⟩) 1 ec] 26)).alloc (.cells #[.int .i64 0, .slice none 0 0, .slice none 0 0, .slice none 0 0] 26)).alloc (.cells #[.int .i64 3, .slice sa ls sc, .slice na ln nc, .slice va vl vc] 26)) (w.heap.size + 3) (.int .i64 3) (.slice sa ls sc) (.slice na ln nc) (.slice va vl vc) := by
    simpa using Quad.new (((w.alloc (.cells #[.int .i64 3, .slice sa ls sc, .slice na ln nc, .slice va vl vc] 26)).alloc (.cells #[.int .i64 ek, .slice ea el ecc, .slice eo lo co, .slice (some ⟨eb, ef, none⟩) 1 ec] 26)).alloc (.cells #[.int .i64 0, .slice none 0 0, .slice none 0 0, .slice none 0 0] 26)) (.int .i64 3) (.slice sa ls sc) (.slice na ln nc) (.slice va vl vc)
  have HB4 : Hid (Below w.heap.size w ((((w.alloc (.cells #[.int .i64 3, .slice sa ls sc, .slice na ln nc, .slice va vl vc] 26)).alloc (.cells #[.int .i64 ek, .slice ea el ecc, .slice eo lo co, .slice (some ⟨eb, ef, none⟩) 1 ec] 26)).alloc (.cells #[.int .i64 0, .slice none 0 0, .slice none 0 0, .slice none 0 0] 26)).alloc (.cells #[.int .i64 3, .slice sa ls sc, .slice na ln nc, .slice va vl vc] 26))) := b4
  have own' : Hid (w.ownsRow B 26 4 (.slice va vl vc) n qs) := own
  have S4 : Hid (((((w.alloc (.cells #[.int .i64 3, .slice sa ls sc, .slice na ln nc, .slice va vl vc] 26)).alloc (.cells #[.int .i64 ek, .slice ea el ecc, .slice eo lo co, .slice (some ⟨eb, ef, none⟩) 1 ec] 26)).alloc (.cells #[.int .i64 0, .slice none 0 0, .slice none 0 0, .slice none 0 0] 26)).alloc (.cells #[.int .i64 3, .slice sa ls sc, .slice na ln nc, .slice va vl vc] 26)).heap.size = w.heap.size + 4) := s4
  have HX : ∀ (w5 : World) (g cap : Nat), w5.ownsRow B 26 4 (.slice (some ⟨g, 0, none⟩) (n + 1) cap) (n + 1) (qs ++ [c0, c1, c2, c3]) → ((((w.alloc (.cells #[.int .i64 3, .slice sa ls sc, .slice na ln nc, .slice va vl vc] 26)).alloc (.cells #[.int .i64 ek, .slice ea el ecc, .slice eo lo co, .slice (some ⟨eb, ef, none⟩) 1 ec] 26)).alloc (.cells #[.int .i64 0, .slice none 0 0, .slice none 0 0, .slice none 0 0] 26)).alloc (.cells #[.int .i64 3, .slice sa ls sc, .slice na ln nc, .slice va vl vc] 26)).grownBy w5 (Value.slice va vl vc).ownBlock → ((Value.slice va vl vc).ownBlock = some g ∨ g = w.heap.size + 4) →
      Put1 w w5 B 26 4 n (.slice va vl vc) qs [c0, c1, c2, c3] g cap ∧ Quad w5 (w.heap.size + 3) (.int .i64 3) (.slice sa ls sc) (.slice na ln nc) (.slice va vl vc) ∧ Quad w5 (w.heap.size + 2) (.int .i64 0) (.slice none 0 0) (.slice none 0 0) (.slice none 0 0) ∧ g ≠ w.heap.size + 3 ∧ g ≠ w.heap.size + 2 := by
    intro w5 g cap h1 h2 h3
    refine ⟨Put1.of own b4 hB h1 h2 (by rw [s4]; exact h3), put_mid q3 h2 hlt3, put_mid q2 h2 hlt2, fun e => ?_, fun e => ?_⟩
    · subst e; rcases h3 with h3 | h3
      · exact hlt3 h3
      · omega
    · subst e; rcases h3 with h3 | h3
      · exact hlt2 h3
      · omega
  clear b4 own hv hnews q2 q3 hlt2 hlt3
  go_enter Tryd.func64, Tryd.ntmps64
  go_wp2_with (at_builtin; refine wpList_append_lies _ rfl _ _ 24 rfl B 26 i0 _ 4 80 Tryd.underlying24 hi0 hz0 hz1 hz2 rfl (by omega) (.slice va vl vc) n qs rfl own4 ⟨eb, ef, none⟩ 1 ec [c0, c1, c2, c3] rfl rfl hnews4 hone (by omega) (by unfold maxLen; omega) (by omega) (by rw [s4]; omega) (w.heap.size + 4) s4 ?_; intro g cap w5 hown hgrow hat hl5; (obtain ⟨P0, Q3, Q2, ne3, ne2⟩ := HX w5 g cap hown hgrow hat); (obtain ⟨r0, r1, r2, r3, r4, r5, r6, r7⟩ := Q3.cells); (have Q2' := Q2.keep (set_other w5 (w.heap.size + 3) 3 (w.heap.size + 2) (.slice (some ⟨g, 0, none⟩) (n + 1) cap) (by omega))); (obtain ⟨t0, t1, t2, t3, t4, t5, t6, t7⟩ := Q2'.cells))
  have P1 := P0.set (R := w.heap.size + 3) (o := 3) (by omega) hB ne3 (.slice (some ⟨g, 0, none⟩) (n + 1) cap)
  have P2 := (((P1.set (R := w.heap.size + 2) (o := 0) (by omega) hB ne2 (.int .i64 3)).set (R := w.heap.size + 2) (o := 1) (by omega) hB ne2 (.slice sa ls sc)).set (R := w.heap.size + 2) (o := 2) (by omega) hB ne2 (.slice na ln nc)).set (R := w.heap.size + 2) (o := 3) (by omega) hB ne2 (.slice (some ⟨g, 0, none⟩) (n + 1) cap)
  obtain ⟨QW, -⟩ := set4 Q2' (.int .i64 3) (.slice sa ls sc) (.slice na ln nc) (.slice (some ⟨g, 0, none⟩) (n + 1) cap)
  generalize (((((w5.setCell ⟨w.heap.size + 3, 3, none⟩ (.slice (some ⟨g, 0, none⟩) (n + 1) cap)).setCell ⟨w.heap.size + 2, 0, none⟩ (.int .i64 3)).setCell ⟨w.heap.size + 2, 1, none⟩ (.slice sa ls sc)).setCell ⟨w.heap.size + 2, 2, none⟩ (.slice na ln nc)).setCell ⟨w.heap.size + 2, 3, none⟩ (.slice (some ⟨g, 0, none⟩) (n + 1) cap)) = WW at QW P2 ⊢
  obtain ⟨z0, z1, z2, z3, -⟩ := QW.cells
  exact bodyPost_ret (v := .agg #[.int .i64 3, .slice sa ls sc, .slice na ln nc, .slice (some ⟨g, 0, none⟩) (n + 1) cap]) (by simp [results, Tryd.results64, go_sem, z0, z1, z2, z3]) rfl ⟨g, cap, rfl, P2⟩
end Go.Proofs.YtphcpolgeceljaaDoor.Shape
