/-
  Layer 3: what the loop of the program's Clone keeps.
-/
import Derived.Test.YtngcahaidlgkfaaDoorArrP6
import Derived.Deep.RegionHeldLaw
import Derived.Deep.RegionLaw
import Derived.Deep.RegionHeld
import Derived.Deep.RegionHeld3
import Derived.Deep.DeepCutAuto
namespace Go.Proofs.YtngcahaidlgkfaaDoor.Shape
open Go.RowKit
set_option linter.unusedVariables false

def isCl (w : World) (b : Nat) : Prop := w.cell? ⟨b, 0, none⟩ = some (.func (.func 90) #[] #[.pointer (some ⟨b, 0, none⟩)])
theorem isCl.below {w w' : World} {b : Nat} (h : isCl w b) (hb : Below w.heap.size w w') : isCl w' b := by
  unfold isCl at h ⊢
  exact (hb.cell (cell_lt h)).trans h
/-- A call that returns a new array in memory of which nothing is frozen. -/
def GiveOwn (A : Arr) (w : World) (e : Ending) (w' : World) : Prop :=
  ∃ k a1 n1 m1 a2 n2 m2 a3 n3 m3, e = .returned (.agg #[.int .i64 k, .slice a1 n1 m1, .slice a2 n2 m2, .slice a3 n3 m3]) ∧ ArrOn (Own w w') w' (.agg #[.int .i64 k, .slice a1 n1 m1, .slice a2 n2 m2, .slice a3 n3 m3]) A ∧ Below w.heap.size w w'
theorem ArrsOn.keep' {P R : Nat → Prop} {w w' : World} (hk : ∀ g, P g → g < w.heap.size → R g ∧ ∀ o, w'.cell? ⟨g, o, none⟩ = w.cell? ⟨g, o, none⟩) {b off : Nat} {l : List Arr} (hb : l ≠ [] → P b) (h : ArrsOn P w b off l) : ArrsOn R w' b off l := by
  cases l with
  | nil => rw [ArrsOn]; trivial
  | cons A r => exact h.keep hk (hb (by simp))
/-- New, not the row, and not frozen. -/
def Fresh (w : World) (G : Nat) (wr : World) (g : Nat) : Prop := w.heap.size + 2 ≤ g ∧ g ≠ G ∧ Thaw wr g
structure LInv (w wr : World) (G : Nat) (k : Int) (sh nu : List Int) (it : List Arr) (a1 a2 a3 : Option Addr) (c1 c2 c3 j : Nat) : Prop where
  par : Quad wr w.heap.size (.int .i64 k) (.slice a1 sh.length c1) (.slice a2 nu.length c2) (.slice a3 it.length c3)
  res : Quad wr (w.heap.size + 1) (.int .i64 0) (.slice none 0 0) (.slice none 0 0) (.slice none 0 0)
  i1 : IntsOn (Fresh w G wr) wr a1 c1 sh
  i2 : IntsOn (Fresh w G wr) wr a2 c2 nu
  row : it ≠ [] → ∃ done todo, wr.heap[G]? = some (.cells (done ++ todo).toArray 26 (0, 0)) ∧ done.length = j * 4 ∧ (∀ u ∈ done ++ todo, u.oneCell' = true) ∧ Quads (Fresh w G wr) wr done (it.take j) ∧ Quads (fun g => g < w.heap.size) wr todo (it.drop j)
  bel : Below w.heap.size w wr
theorem row_lt {w : World} {g : Nat} {o : Obj} (h : w.heap[g]? = some o) : g < w.heap.size := lt_of_heap h
theorem row_set {w : World} {G o : Nat} {cs : List Value} {t : TypeId} (h : w.heap[G]? = some (.cells cs.toArray t (0, 0))) (u : Value) : (w.setCell ⟨G, o, none⟩ u).heap[G]? = some (.cells (cs.set o u).toArray t (0, 0)) := by
  have hl := lt_of_heap h
  have h' : w.heap[G] = .cells cs.toArray t (0, 0) := by simpa [Array.getElem?_eq_getElem hl] using h
  show (w.heap.modify G _)[G]? = _
  rw [Array.getElem?_eq_getElem (by simpa using hl), Array.getElem_modify_self, h']
  simp
theorem row_set4 {w : World} {G p : Nat} {pre post : List Value} {d0 d1 d2 d3 : Value} {t : TypeId} (h : w.heap[G]? = some (.cells (pre ++ d0 :: d1 :: d2 :: d3 :: post).toArray t (0, 0))) (hp : pre.length = p) (e0 e1 e2 e3 : Value) :
    ((((w.setCell ⟨G, p, none⟩ e0).setCell ⟨G, p + 1, none⟩ e1).setCell ⟨G, p + 2, none⟩ e2).setCell ⟨G, p + 3, none⟩ e3).heap[G]? = some (.cells (pre ++ e0 :: e1 :: e2 :: e3 :: post).toArray t (0, 0)) := by
  subst hp
  rw [row_set (row_set (row_set (row_set h e0) e1) e2) e3]
  simp
theorem row_cells {w : World} {G p : Nat} {pre post : List Value} {d0 d1 d2 d3 : Value} {t : TypeId} (h : w.heap[G]? = some (.cells (pre ++ d0 :: d1 :: d2 :: d3 :: post).toArray t (0, 0))) (hp : pre.length = p) :
    w.cell? ⟨G, p, none⟩ = some d0 ∧ w.cell? ⟨G, p + 1, none⟩ = some d1 ∧ w.cell? ⟨G, p + 2, none⟩ = some d2 ∧ w.cell? ⟨G, p + 3, none⟩ = some d3 ∧
    w.frozen? ⟨G, p, none⟩ = false ∧ w.frozen? ⟨G, p + 1, none⟩ = false ∧ w.frozen? ⟨G, p + 2, none⟩ = false ∧ w.frozen? ⟨G, p + 3, none⟩ = false := by
  subst hp
  refine ⟨?_, ?_, ?_, ?_, ?_, ?_, ?_, ?_⟩ <;> simp [World.cell?, World.frozen?, h]
theorem quads_cons {P : Nat → Prop} {w : World} {qs : List Value} {A : Arr} {r : List Arr} (h : Quads P w qs (A :: r)) : ∃ c0 c1 c2 c3 q, qs = c0 :: c1 :: c2 :: c3 :: q ∧ ArrOn P w (.agg #[c0, c1, c2, c3]) A ∧ Quads P w q r := by
  match qs, h with
  | c0 :: c1 :: c2 :: c3 :: q, h => rw [Quads] at h; exact ⟨c0, c1, c2, c3, q, rfl, h.1, h.2⟩
  | [], h => simp [Quads] at h
  | [_], h => simp [Quads] at h
  | [_, _], h => simp [Quads] at h
  | [_, _, _], h => simp [Quads] at h
theorem quads_nil {P : Nat → Prop} {w : World} {qs : List Value} (h : Quads P w qs []) : qs = [] := by
  cases qs with
  | nil => rfl
  | cons c q => simp [Quads] at h
theorem set4_other {w : World} {G p : Nat} {e0 e1 e2 e3 : Value} (g : Nat) (h : g ≠ G) : ((((w.setCell ⟨G, p, none⟩ e0).setCell ⟨G, p + 1, none⟩ e1).setCell ⟨G, p + 2, none⟩ e2).setCell ⟨G, p + 3, none⟩ e3).heap[g]? = w.heap[g]? := by
  rw [set_other _ _ _ _ _ h, set_other _ _ _ _ _ h, set_other _ _ _ _ _ h, set_other _ _ _ _ _ h]
theorem thaw_of {w w' : World} {g : Nat} (h : Thaw w g) (e : w'.heap[g]? = w.heap[g]?) : Thaw w' g := by
  obtain ⟨cs, t, h⟩ := h
  exact ⟨cs, t, e.trans h⟩

/-- One item more. -/
theorem cl_step {w wr w3 : World} {G j : Nat} {k : Int} {sh nu : List Int} {it : List Arr} {a1 a2 a3 : Option Addr} {c1 c2 c3 : Nat} {done todo : List Value} {d0 d1 d2 d3 e0 e1 e2 e3 : Value}
    (hI : LInv w wr G k sh nu it a1 a2 a3 c1 c2 c3 j) (hG : w.heap.size + 2 ≤ G) (hj : j < it.length)
    (hrow : wr.heap[G]? = some (.cells (done ++ d0 :: d1 :: d2 :: d3 :: todo).toArray 26 (0, 0))) (hdl : done.length = j * 4) (hone : ∀ u ∈ done ++ d0 :: d1 :: d2 :: d3 :: todo, u.oneCell' = true)
    (hq1 : Quads (Fresh w G wr) wr done (it.take j)) (hq2 : Quads (fun g => g < w.heap.size) wr todo (it.drop (j + 1)))
    (hb : Below wr.heap.size wr w3) (hA : ArrOn (Own wr w3) w3 (.agg #[e0, e1, e2, e3]) it[j]) (hone' : ∀ u ∈ [e0, e1, e2, e3], u.oneCell' = true) (p : Nat) (hp : p = j * 4) :
    LInv w ((((w3.setCell ⟨G, p, none⟩ e0).setCell ⟨G, p + 1, none⟩ e1).setCell ⟨G, p + 2, none⟩ e2).setCell ⟨G, p + 3, none⟩ e3) G k sh nu it a1 a2 a3 c1 c2 c3 (j + 1) := by
  obtain ⟨par, res, i1, i2, -, bel⟩ := hI
  have hGl := lt_of_heap hrow
  have hrow3 : w3.heap[G]? = some (.cells (done ++ d0 :: d1 :: d2 :: d3 :: todo).toArray 26 (0, 0)) := (hb.block G hGl).trans hrow
  have hrow4 := row_set4 hrow3 (hdl.trans hp.symm) e0 e1 e2 e3
  have hoth := fun g (h : g ≠ G) => set4_other (w := w3) (p := p) (e0 := e0) (e1 := e1) (e2 := e2) (e3 := e3) g h
  have hbel : Below w.heap.size w ((((w3.setCell ⟨G, p, none⟩ e0).setCell ⟨G, p + 1, none⟩ e1).setCell ⟨G, p + 2, none⟩ e2).setCell ⟨G, p + 3, none⟩ e3) :=
    Below.setCell (Below.setCell (Below.setCell (Below.setCell (bel.trans (hb.mono bel.size)) (p := ⟨G, p, none⟩) (by show _ ≤ G; omega) _) (p := ⟨G, p + 1, none⟩) (by show _ ≤ G; omega) _) (p := ⟨G, p + 2, none⟩) (by show _ ≤ G; omega) _) (p := ⟨G, p + 3, none⟩) (by show _ ≤ G; omega) _
  generalize ((((w3.setCell ⟨G, p, none⟩ e0).setCell ⟨G, p + 1, none⟩ e1).setCell ⟨G, p + 2, none⟩ e2).setCell ⟨G, p + 3, none⟩ e3) = W4 at hrow4 hoth hbel ⊢
  have keepF : ∀ g, Fresh w G wr g → g < wr.heap.size → Fresh w G W4 g ∧ ∀ o, W4.cell? ⟨g, o, none⟩ = wr.cell? ⟨g, o, none⟩ := fun g hg hl =>
    have e : W4.heap[g]? = wr.heap[g]? := (hoth g hg.2.1).trans (hb.block g hl)
    ⟨⟨hg.1, hg.2.1, thaw_of hg.2.2 e⟩, fun o => World.cell?_of_block e⟩
  have keepO : ∀ g, g < w.heap.size → g < wr.heap.size → g < w.heap.size ∧ ∀ o, W4.cell? ⟨g, o, none⟩ = wr.cell? ⟨g, o, none⟩ := fun g hg hl =>
    ⟨hg, fun o => World.cell?_of_block ((hoth g (by omega)).trans (hb.block g hl))⟩
  have keepN : ∀ g, Own wr w3 g → g < w3.heap.size → Fresh w G W4 g ∧ ∀ o, W4.cell? ⟨g, o, none⟩ = w3.cell? ⟨g, o, none⟩ := fun g hg hl =>
    have h1 := hg.1
    have e : W4.heap[g]? = w3.heap[g]? := hoth g (by omega)
    ⟨⟨by omega, by omega, thaw_of hg.2 e⟩, fun o => World.cell?_of_block e⟩
  refine ⟨par.keep ((hoth _ (by omega)).trans (hb.block _ par.lt)), res.keep ((hoth _ (by omega)).trans (hb.block _ res.lt)), i1.keep keepF, i2.keep keepF, fun _ => ?_, hbel⟩
  refine ⟨done ++ [e0, e1, e2, e3], todo, ?_, by simp only [List.length_append, hdl, List.length_cons, List.length_nil]; omega, ?_, ?_, hq2.keep keepO⟩
  · rw [hrow4]; simp
  · intro u hu
    simp only [List.append_assoc, List.mem_append] at hu
    rcases hu with h | h | h
    · exact hone u (by simp [h])
    · exact hone' u h
    · exact hone u (by simp [h])
  · rw [List.take_succ_eq_append_getElem hj]
    exact (hq1.keep keepF).snoc (hA.keep keepN)

/-- The copy, whole. -/
theorem cl_end {w wr W : World} {G : Nat} {k : Int} {sh nu : List Int} {it : List Arr} {a1 a2 a3 : Option Addr} {c1 c2 c3 : Nat} (hI : LInv w wr G k sh nu it a1 a2 a3 c1 c2 c3 it.length) (hk : -9223372036854775808 ≤ k ∧ k ≤ 9223372036854775807) (hG : w.heap.size + 2 ≤ G)
    (h1 : it.length ≤ c3) (h2 : c3 ≤ 9223372036854775807) (h3 : it ≠ [] → a3 = some ⟨G, 0, none⟩) (hW : ∀ g, g ≠ w.heap.size + 1 → W.heap[g]? = wr.heap[g]?) :
    ArrOn (Own w W) W (.agg #[.int .i64 k, .slice a1 sh.length c1, .slice a2 nu.length c2, .slice a3 it.length c3]) (.mk k sh nu it) := by
  obtain ⟨par, res, i1, i2, row, bel⟩ := hI
  have keepF : ∀ g, Fresh w G wr g → g < wr.heap.size → Own w W g ∧ ∀ o, W.cell? ⟨g, o, none⟩ = wr.cell? ⟨g, o, none⟩ := fun g hg hl =>
    have h := hg.1
    have e : W.heap[g]? = wr.heap[g]? := hW g (by omega)
    ⟨⟨by omega, thaw_of hg.2.2 e⟩, fun o => World.cell?_of_block e⟩
  rw [ArrOn]
  refine ⟨a1, c1, a2, c2, a3, c3, rfl, hk, i1.keep keepF, i2.keep keepF, h1, h2, G, 0, fun hne => ?_, ?_⟩
  · obtain ⟨done, todo, hr, -⟩ := row hne
    exact ⟨h3 hne, by omega, ⟨_, ⟨_, by decide⟩, (hW G (by omega)).trans hr⟩⟩
  · cases it with
    | nil => rw [ArrsOn]; trivial
    | cons A r =>
      obtain ⟨done, todo, hr, hd, -, hq, hq2⟩ := row (by simp)
      rw [List.drop_length] at hq2
      obtain rfl := quads_nil hq2
      rw [List.take_length] at hq
      rw [List.append_nil] at hr
      refine (hq.keep keepF).arrs fun i hi => ?_
      have e : W.heap[G]? = _ := (hW G (by omega)).trans hr
      simp [World.cell?, e, hi]
theorem four_one {k : Int} {a1 a2 a3 : Option Addr} {n1 m1 n2 m2 n3 m3 : Nat} : ∀ u ∈ [Value.int .i64 k, .slice a1 n1 m1, .slice a2 n2 m2, .slice a3 n3 m3], u.oneCell' = true := by
  intro u hu
  simp only [List.mem_cons, List.not_mem_nil, or_false] at hu
  rcases hu with rfl | rfl | rfl | rfl <;> rfl

end Go.Proofs.YtngcahaidlgkfaaDoor.Shape
