/-
  Layer 3: the program's copied: copies of lists, of ints and of arrays.
  Layer 3: what the loop of the program's Clone keeps.
  Layer 3: the program's Clone: its recursive closure.
  Layer 3: the program's Clone.
  Layer 3: the program's validCopy, Scalar, Vector, Box and Boxes. (Written by wip/gen/array-p8.py.)
  Layer 3: the program's Fill and At. (Written by wip/gen/array-p9.py.)
-/
import Derived.Test.YtghmbmjikkdbnaaGreatDoorCd12
import Derived.Test.YtghmbmjikkdbnaaGreatDoorCd17
import Derived.Laws.CopyOwn
import Derived.Laws.MakeOwn
import Derived.OwnWalk
import Derived.Deep.RegionHeldLaw
import Derived.Deep.RegionLaw
import Derived.Deep.RegionHeld
import Derived.Deep.RegionHeld3
import Derived.Deep.DeepCutAuto
namespace Go.Proofs.YtghmbmjikkdbnaaGreatDoor.Shape
open Go.RowKit
set_option linter.unusedVariables false
/-- copy into a row that is known whole, for elements of any number of cells. -/
theorem run_copy_wide {P : Program} (w : World) (dT sT ty elem : TypeId) (g o dLen dCap : Nat) (a : Addr) (sLen sCap sz : Nat) (cur : Array Value) (t : TypeId) (cs : List Value)
    (hu : P.underlying dT = some (.slice elem)) (hs : (P.info? elem).map (·.size) = some sz)
    (hg : w.heap[g]? = some (.cells cur t (0, 0))) (hn : cs.length = Nat.min sLen dLen * sz)
    (hsrc : ∀ j v, cs[j]? = some v → w.cell? (a.add j) = some v) (hfit : o + cs.length ≤ cur.size) (h1 : ∀ v ∈ cs, v.oneCell' = true) :
    (Builtin.copy_ #[dT, sT] ty #[.slice (some ⟨g, o, none⟩) dLen dCap, .slice (some a) sLen sCap]).run P w =
      .ok (goInt (Nat.min sLen dLen)) (w.setRow g (cur.toList.take o ++ (cs ++ cur.toList.drop (o + cs.length))).toArray) := by
  have hl := run_loadCells_list (P := P) w a cs hsrc
  have hst := run_storeCells_at P g o t cs 0 cur w hg (by simpa using hfit) h1
  cases hq : P.info? elem with
  | none => simp [hq] at hs
  | some i =>
    have hi : i.size = sz := by simpa [hq] using hs
    rw [hn] at hl hst
    simp [Builtin.copy_, run_underlying hu, Builtin.lenOf, Builtin.firstCells, sizeOf, typeInfo, hq, hi, hl, hst, hn]
/-- New, and no cell of it is frozen. -/
def Own (w w' : World) (g : Nat) : Prop := w.heap.size ≤ g ∧ Thaw w' g
theorem lt_of_heap {w : World} {g : Nat} {o : Obj} (h : w.heap[g]? = some o) : g < w.heap.size := by
  rcases Nat.lt_or_ge g w.heap.size with h1 | h1
  · exact h1
  · rw [Array.getElem?_eq_none h1] at h; cases h
theorem Thaw.lt {w : World} {g : Nat} (h : Thaw w g) : g < w.heap.size := by
  obtain ⟨cs, t, h⟩ := h
  exact lt_of_heap h
theorem Thaw.below {w w' : World} {g : Nat} (h : Thaw w g) (hb : Below w.heap.size w w') : Thaw w' g := by
  have hl := h.lt
  obtain ⟨cs, t, h⟩ := h
  exact ⟨cs, t, (hb.block g hl).trans h⟩
theorem sizeInt1 : (Tryz.prog.info? 3).map (·.size) = some 1 := by kernel_rfl
theorem sizeArr4 : (Tryz.prog.info? 30).map (·.size) = some 4 := by kernel_rfl
theorem infoArr' : (Tryz.prog.info? 30).map (fun i => (i.zero, i.size, i.bytes)) = some (some (.agg #[.int .i64 0, .slice none 0 0, .slice none 0 0, .slice none 0 0]), 4, 80) := by kernel_rfl
theorem setRow_whole {w : World} {g : Nat} {cur : Array Value} {t : TypeId} {cs : List Value} (hg : w.heap[g]? = some (.cells cur t (0, 0))) (hl : cs.length = cur.size) :
    (w.setRow g (cur.toList.take 0 ++ (cs ++ cur.toList.drop (0 + cs.length))).toArray).heap[g]? = some (.cells cs.toArray t (0, 0)) := by
  rw [setRow_heap w g cur _ t _ hg, List.take_zero, List.nil_append, List.drop_of_length_le (by simp [hl]), List.append_nil]
theorem below_row {w w' : World} {t : TypeId} {z : Array Value} {cs : Array Value} (hw : w' = (w.alloc (.cells z t)).setRow w.heap.size cs) : Below w.heap.size w w' := by
  subst hw
  exact below_setRow (below_new w _) (Nat.le_refl _) _
theorem run_makeInts (w : World) (n : Nat) (hn : n * 8 ≤ 140737488351232) : (Instr.makeSlice 27 (.int .i64 (n : Int)) (.int .i64 (n : Int))).run Tryz.prog w = .ok (.slice (some ⟨w.heap.size, 0, none⟩) n n) (w.alloc (.cells (madeCells #[.int .i64 0] n) 3)) := by
  obtain ⟨i0, hi, hz0, hz1, hz2⟩ := info_parts infoInt
  have := run_make (P := Tryz.prog) w 27 3 i0 _ Tryz.underlying27 hi hz0 .i64 .i64 n n (by omega) (Int.le_refl _) (by rw [hz2]; omega) (by omega)
  rw [hz1, Nat.mul_one] at this
  simp only [Int.toNat_natCast] at this
  exact this
theorem run_makeArrs (w : World) (n : Nat) (hn : n * 80 ≤ 140737488351232) : (Instr.makeSlice 28 (.int .i64 (n : Int)) (.int .i64 (n : Int))).run Tryz.prog w = .ok (.slice (some ⟨w.heap.size, 0, none⟩) n n) (w.alloc (.cells (madeCells #[.int .i64 0, .slice none 0 0, .slice none 0 0, .slice none 0 0] (n * 4)) 30)) := by
  obtain ⟨i0, hi, hz0, hz1, hz2⟩ := info_parts infoArr'
  have := run_make (P := Tryz.prog) w 28 30 i0 _ Tryz.underlying28 hi hz0 .i64 .i64 n n (by omega) (Int.le_refl _) (by rw [hz2]; omega) (by omega)
  rw [hz1] at this
  simp only [Int.toNat_natCast] at this
  exact this
def GiveInts (xs : List Int) (w : World) (e : Ending) (w' : World) : Prop := ∃ a c, e = .returned (.slice a xs.length c) ∧ IntsOn (Own w w') w' a c xs ∧ Below w.heap.size w w'
theorem GiveInts.nil {w : World} {e : Ending} (he : e = .returned (.slice none 0 0)) : GiveInts [] w e w := ⟨none, 0, he, ⟨⟨Nat.zero_le _, by decide, fun x hx => absurd hx (by simp), 0, 0, fun hn => absurd rfl hn, fun i hi => absurd hi (by simp)⟩, fun g => absurd rfl g⟩, Below.refl _ _⟩
theorem GiveInts.row {xs : List Int} {w w' : World} {e : Ending} {t : TypeId} {n c : Nat} (hn : n = xs.length) (hc : n ≤ c) (hc2 : c ≤ 9223372036854775807) (he : e = .returned (.slice (some ⟨w.heap.size, 0, none⟩) n c)) (hg : w'.heap[w.heap.size]? = some (.cells (xs.map (Value.int .i64)).toArray t (0, 0))) (hbd : ∀ x ∈ xs, -9223372036854775808 ≤ x ∧ x ≤ 9223372036854775807) (hb : Below w.heap.size w w') (ht : t ≠ 5 := by decide) : GiveInts xs w e w' := by
  subst hn
  refine ⟨_, c, he, ⟨⟨hc, hc2, hbd, w.heap.size, 0, fun _ => rfl, fun i hi => ?_⟩, fun _ ad e => by cases e; exact ⟨Nat.le_refl _, _, ⟨t, ht⟩, hg⟩⟩, hb⟩
  simp [World.cell?, hg, hi]
set_option maxHeartbeats 1000000 in
theorem copiedIQ (a : Option Addr) (cap : Nat) (xs : List Int) (w : World) (h : IntsAt w a cap xs) (hr : xs.length * 8 ≤ 140737488351232) :
    Calls Tryz.prog 162 #[.slice a xs.length cap] w (GiveInts xs w) := by
  have hl := h.len
  cases a with
  | none =>
    have hx : xs = [] := by
      obtain ⟨-, -, -, b, off, ha, -⟩ := h
      exact Classical.byContradiction fun g => by cases ha g
    subst hx
    have heq : ∀ (W : World) (n : Nat), (binOp .eql 27 (.slice none n cap) (.slice none 0 0)).run Tryz.prog W = .ok (.bool true) W := fun W _ => Lib.run_eql_slice_nil W _ _ _ _ _ _ _ Tryz.underlying27
    go_enter Tryz.func162, Tryz.ntmps162
    go_wp2_with fail
    go_ret
    exact GiveInts.nil rfl
  | some ad =>
    have hm := run_makeInts w xs.length hr
    have hsrc : ∀ W : World, Below w.heap.size w W → ∀ j v, (xs.map (Value.int .i64))[j]? = some v → W.cell? (ad.add j) = some v := by
      intro W hW j v hj
      have hjl : j < xs.length := by
        have := (List.getElem?_eq_some_iff.1 hj).1
        simpa using this
      obtain ⟨-, -, -, b, off, ha, hc⟩ := h
      have e := ha (by intro e; subst e; simp at hjl)
      cases e
      rw [add_plain, hW.cell (cell_lt (hc j hjl)), hc j hjl, ← hj, List.getElem?_map, List.getElem?_eq_getElem hjl]
      rfl
    have hbd := h.2.2.1
    clear h
    obtain ⟨W2, hW2, hg, hb⟩ : ∃ W2, (∀ ty, (Builtin.copy_ #[27, 27] ty #[.slice (some ⟨w.heap.size, 0, none⟩) xs.length xs.length, .slice (some ad) xs.length cap]).run Tryz.prog (w.alloc (.cells (madeCells #[.int .i64 0] xs.length) 3)) = .ok (goInt xs.length) W2) ∧ W2.heap[w.heap.size]? = some (.cells (xs.map (Value.int .i64)).toArray 3 (0, 0)) ∧ Below w.heap.size w W2 := by
      have hc := fun ty => run_copy_wide (P := Tryz.prog) (w.alloc (.cells (madeCells #[.int .i64 0] xs.length) 3)) 27 27 ty 3 w.heap.size 0 xs.length xs.length ad xs.length cap 1 (madeCells #[.int .i64 0] xs.length) 3 (xs.map (Value.int .i64)) Tryz.underlying27 sizeInt1 (heap_alloc_new w _) (by simp) (hsrc _ (below_new w _)) (by simp [size_madeCells]) (by intro u hu; obtain ⟨x, _, rfl⟩ := List.mem_map.1 hu; rfl)
      rw [show Nat.min xs.length xs.length = xs.length from Nat.min_self _] at hc
      exact ⟨_, hc, setRow_whole (heap_alloc_new w _) (by rw [size_madeCells, List.length_map]), below_row rfl⟩
    have heq : ∀ W : World, (binOp .eql 27 (.slice (some ad) xs.length cap) (.slice none 0 0)).run Tryz.prog W = .ok (.bool false) W := fun W => Lib.run_eql_slice_nil W _ _ _ _ _ _ _ Tryz.underlying27
    go_enter Tryz.func162, Tryz.ntmps162
    go_wp2_with fail
    go_ret
    exact GiveInts.row rfl (Nat.le_refl _) hl rfl hg hbd hb
/-- The cells of a list of arrays, and what each four of them are. -/
theorem arrs_quads {P : Nat → Prop} {w : World} {b : Nat} : ∀ {l : List Arr} {off : Nat}, ArrsOn P w b off l → ∃ qs : List Value, qs.length = l.length * 4 ∧ (∀ i (h : i < qs.length), w.cell? ⟨b, off + i, none⟩ = some qs[i]) ∧ Quads P w qs l ∧ ∀ u ∈ qs, u.oneCell' = true
  | [], off, _ => ⟨[], rfl, fun i h => absurd h (by simp), by rw [Quads]; trivial, by simp⟩
  | A :: r, off, h => by
    rw [ArrsOn] at h
    obtain ⟨⟨c0, c1, c2, c3, ⟨h0, h1, h2, h3⟩, hA⟩, hr⟩ := h
    obtain ⟨qs, q1, q2, q3, q4⟩ := arrs_quads hr
    refine ⟨c0 :: c1 :: c2 :: c3 :: qs, by simp only [List.length_cons, q1]; omega, fun i hi => ?_, by rw [Quads]; exact ⟨hA, q3⟩, ?_⟩
    · match i, hi with
      | 0, _ => exact h0
      | 1, _ => exact h1
      | 2, _ => exact h2
      | 3, _ => exact h3
      | i + 4, hi =>
        have := q2 i (by simpa using hi)
        rw [show off + (i + 4) = off + 4 + i by omega, this]
        rfl
    · obtain ⟨k, a1, n1, m1, a2, n2, m2, a3, n3, m3, rfl, rfl, rfl, rfl⟩ := hA.at.four
      intro u hu
      simp only [List.mem_cons] at hu
      rcases hu with rfl | rfl | rfl | rfl | hu
      · rfl
      · rfl
      · rfl
      · rfl
      · exact q4 u hu
/-- A new list whose items are still the old ones. -/
def GiveArrs (P : Nat → Prop) (l : List Arr) (w : World) (e : Ending) (w' : World) : Prop :=
  ∃ a c, e = .returned (.slice a l.length c) ∧ l.length ≤ c ∧ c ≤ 9223372036854775807 ∧ Below w.heap.size w w' ∧ (a = none → l = []) ∧
    ∀ ad, a = some ad → ∃ g qs, ad = ⟨g, 0, none⟩ ∧ w.heap.size ≤ g ∧ w'.heap[g]? = some (.cells qs.toArray 30 (0, 0)) ∧ qs.length = l.length * 4 ∧ Quads P w' qs l ∧ ∀ u ∈ qs, u.oneCell' = true
set_option maxHeartbeats 1000000 in
theorem copiedAQ (P : Nat → Prop) (a : Option Addr) (cap b off : Nat) (l : List Arr) (w : World) (hlc : l.length ≤ cap) (hc : cap ≤ 9223372036854775807) (ha : l ≠ [] → a = some ⟨b, off, none⟩) (h : ArrsOn P w b off l) (hr : l.length * 80 ≤ 140737488351232) :
    Calls Tryz.prog 163 #[.slice a l.length cap] w (GiveArrs P l w) := by
  have hl : l.length ≤ 9223372036854775807 := by omega
  cases a with
  | none =>
    have hx : l = [] := Classical.byContradiction fun g => by cases ha g
    subst hx
    have heq : ∀ (W : World) (n : Nat), (binOp .eql 28 (.slice none n cap) (.slice none 0 0)).run Tryz.prog W = .ok (.bool true) W := fun W _ => Lib.run_eql_slice_nil W _ _ _ _ _ _ _ Tryz.underlying28
    go_enter Tryz.func163, Tryz.ntmps163
    go_wp2_with fail
    go_ret
    exact ⟨none, 0, rfl, Nat.le_refl _, by decide, Below.refl _ _, fun _ => rfl, fun ad e => by cases e⟩
  | some ad =>
    have hm := run_makeArrs w l.length hr
    obtain ⟨qs, q1, q2, q3, q4⟩ := arrs_quads h
    have bn := below_new w (.cells (madeCells #[.int .i64 0, .slice none 0 0, .slice none 0 0, .slice none 0 0] (l.length * 4)) 30)
    have hsrc : ∀ j v, qs[j]? = some v → (w.alloc (.cells (madeCells #[.int .i64 0, .slice none 0 0, .slice none 0 0, .slice none 0 0] (l.length * 4)) 30)).cell? (ad.add j) = some v := by
      intro j v hj
      have hjl : j < qs.length := (List.getElem?_eq_some_iff.1 hj).1
      have e := ha (by intro e; subst e; simp at q1; subst q1; simp at hjl)
      cases e
      rw [add_plain, bn.cell (cell_lt (q2 j hjl)), q2 j hjl, ← hj, List.getElem?_eq_getElem hjl]
    obtain ⟨W2, hW2, hg, hb⟩ : ∃ W2, (∀ ty, (Builtin.copy_ #[28, 28] ty #[.slice (some ⟨w.heap.size, 0, none⟩) l.length l.length, .slice (some ad) l.length cap]).run Tryz.prog (w.alloc (.cells (madeCells #[.int .i64 0, .slice none 0 0, .slice none 0 0, .slice none 0 0] (l.length * 4)) 30)) = .ok (goInt l.length) W2) ∧ W2.heap[w.heap.size]? = some (.cells qs.toArray 30 (0, 0)) ∧ Below w.heap.size w W2 := by
      have hc := fun ty => run_copy_wide (P := Tryz.prog) (w.alloc (.cells (madeCells #[.int .i64 0, .slice none 0 0, .slice none 0 0, .slice none 0 0] (l.length * 4)) 30)) 28 28 ty 30 w.heap.size 0 l.length l.length ad l.length cap 4 (madeCells #[.int .i64 0, .slice none 0 0, .slice none 0 0, .slice none 0 0] (l.length * 4)) 30 qs Tryz.underlying28 sizeArr4 (heap_alloc_new w _) (by rw [q1]; simp) hsrc (by rw [size_madeCells, q1]; omega) q4
      rw [show Nat.min l.length l.length = l.length from Nat.min_self _] at hc
      exact ⟨_, hc, setRow_whole (heap_alloc_new w _) (by rw [size_madeCells, q1]), below_row rfl⟩
    have heq : ∀ W : World, (binOp .eql 28 (.slice (some ad) l.length cap) (.slice none 0 0)).run Tryz.prog W = .ok (.bool false) W := fun W => Lib.run_eql_slice_nil W _ _ _ _ _ _ _ Tryz.underlying28
    clear h ha hsrc bn
    go_enter Tryz.func163, Tryz.ntmps163
    go_wp2_with fail
    go_ret
    exact ⟨_, _, rfl, Nat.le_refl _, hl, hb, (fun e => by cases e), (fun ad e => by cases e; exact ⟨_, qs, rfl, Nat.le_refl _, hg, q1, q3.keep fun g hp hl => ⟨hp, fun _ => hb.cell hl⟩, q4⟩)⟩
end Go.Proofs.YtghmbmjikkdbnaaGreatDoor.Shape

namespace Go.Proofs.YtghmbmjikkdbnaaGreatDoor.Shape
open Go.RowKit
set_option linter.unusedVariables false
def isCl (w : World) (b : Nat) : Prop := w.cell? ⟨b, 0, none⟩ = some (.func (.func 161) #[] #[.pointer (some ⟨b, 0, none⟩)])
theorem isCl.below {w w' : World} {b : Nat} (h : isCl w b) (hb : Below w.heap.size w w') : isCl w' b := by
  unfold isCl at h ⊢
  exact (hb.cell (cell_lt h)).trans h
/-- A call that returns a new array in memory of which nothing is frozen. -/
def GiveOwn (A : Arr) (w : World) (e : Ending) (w' : World) : Prop :=
  ∃ k a1 n1 m1 a2 n2 m2 a3 n3 m3, e = .returned (.agg #[.int .i64 k, .slice a1 n1 m1, .slice a2 n2 m2, .slice a3 n3 m3]) ∧ ArrOn (Own w w') w' (.agg #[.int .i64 k, .slice a1 n1 m1, .slice a2 n2 m2, .slice a3 n3 m3]) A ∧ Below w.heap.size w w'
theorem ArrsOn.keep' {P R : Nat → Prop} {w w' : World} (hk : ∀ g, P g → g < w.heap.size → R g ∧ ∀ o, w'.cell? ⟨g, o, none⟩ = w.cell? ⟨g, o, none⟩) {b off : Nat} {l : List Arr} (hb : l ≠ [] → P b) (h : ArrsOn P w b off l) : ArrsOn R w' b off l := by
  cases l with
  | nil => rw [ArrsOn]; trivial
  | cons A r => exact h.keep hk (hb (by simp))
/-- New, not the row, and not frozen. -/
def Fresh (w : World) (G : Nat) (wr : World) (g : Nat) : Prop := w.heap.size + 2 ≤ g ∧ g ≠ G ∧ Thaw wr g
structure LInv (w wr : World) (G : Nat) (k : Int) (sh nu : List Int) (it : List Arr) (a1 a2 a3 : Option Addr) (c1 c2 c3 j : Nat) : Prop where
  par : Quad wr w.heap.size (.int .i64 k) (.slice a1 sh.length c1) (.slice a2 nu.length c2) (.slice a3 it.length c3)
  res : Quad wr (w.heap.size + 1) (.int .i64 0) (.slice none 0 0) (.slice none 0 0) (.slice none 0 0)
  i1 : IntsOn (Fresh w G wr) wr a1 c1 sh
  i2 : IntsOn (Fresh w G wr) wr a2 c2 nu
  row : it ≠ [] → ∃ done todo, wr.heap[G]? = some (.cells (done ++ todo).toArray 30 (0, 0)) ∧ done.length = j * 4 ∧ (∀ u ∈ done ++ todo, u.oneCell' = true) ∧ Quads (Fresh w G wr) wr done (it.take j) ∧ Quads (fun g => g < w.heap.size) wr todo (it.drop j)
  bel : Below w.heap.size w wr
theorem row_set {w : World} {G o : Nat} {cs : List Value} {t : TypeId} (h : w.heap[G]? = some (.cells cs.toArray t (0, 0))) (u : Value) : (w.setCell ⟨G, o, none⟩ u).heap[G]? = some (.cells (cs.set o u).toArray t (0, 0)) := by
  have hl := lt_of_heap h
  have h' : w.heap[G] = .cells cs.toArray t (0, 0) := by simpa [Array.getElem?_eq_getElem hl] using h
  show (w.heap.modify G _)[G]? = _
  rw [Array.getElem?_eq_getElem (by simpa using hl), Array.getElem_modify_self, h']
  simp
theorem row_set4 {w : World} {G p : Nat} {pre post : List Value} {d0 d1 d2 d3 : Value} {t : TypeId} (h : w.heap[G]? = some (.cells (pre ++ d0 :: d1 :: d2 :: d3 :: post).toArray t (0, 0))) (hp : pre.length = p) (e0 e1 e2 e3 : Value) :
    ((((w.setCell ⟨G, p, none⟩ e0).setCell ⟨G, p + 1, none⟩ e1).setCell ⟨G, p + 2, none⟩ e2).setCell ⟨G, p + 3, none⟩ e3).heap[G]? = some (.cells (pre ++ e0 :: e1 :: e2 :: e3 :: post).toArray t (0, 0)) := by
  subst hp
  rw [row_set (row_set (row_set (row_set h e0) e1) e2) e3]
  simp
theorem row_cells {w : World} {G p : Nat} {pre post : List Value} {d0 d1 d2 d3 : Value} {t : TypeId} (h : w.heap[G]? = some (.cells (pre ++ d0 :: d1 :: d2 :: d3 :: post).toArray t (0, 0))) (hp : pre.length = p) :
    w.cell? ⟨G, p, none⟩ = some d0 ∧ w.cell? ⟨G, p + 1, none⟩ = some d1 ∧ w.cell? ⟨G, p + 2, none⟩ = some d2 ∧ w.cell? ⟨G, p + 3, none⟩ = some d3 ∧
    w.frozen? ⟨G, p, none⟩ = false ∧ w.frozen? ⟨G, p + 1, none⟩ = false ∧ w.frozen? ⟨G, p + 2, none⟩ = false ∧ w.frozen? ⟨G, p + 3, none⟩ = false := by
  subst hp
  refine ⟨?_, ?_, ?_, ?_, ?_, ?_, ?_, ?_⟩ <;> simp [World.cell?, World.frozen?, h]
theorem quads_cons {P : Nat → Prop} {w : World} {qs : List Value} {A : Arr} {r : List Arr} (h : Quads P w qs (A :: r)) : ∃ c0 c1 c2 c3 q, qs = c0 :: c1 :: c2 :: c3 :: q ∧ ArrOn P w (.agg #[c0, c1, c2, c3]) A ∧ Quads P w q r := by
  match qs, h with
  | c0 :: c1 :: c2 :: c3 :: q, h => rw [Quads] at h; exact ⟨c0, c1, c2, c3, q, rfl, h.1, h.2⟩
  | [], h => simp [Quads] at h
  | [_], h => simp [Quads] at h
  | [_, _], h => simp [Quads] at h
  | [_, _, _], h => simp [Quads] at h
theorem quads_nil {P : Nat → Prop} {w : World} {qs : List Value} (h : Quads P w qs []) : qs = [] := by
  cases qs with
  | nil => rfl
  | cons c q => simp [Quads] at h
theorem set4_other {w : World} {G p : Nat} {e0 e1 e2 e3 : Value} (g : Nat) (h : g ≠ G) : ((((w.setCell ⟨G, p, none⟩ e0).setCell ⟨G, p + 1, none⟩ e1).setCell ⟨G, p + 2, none⟩ e2).setCell ⟨G, p + 3, none⟩ e3).heap[g]? = w.heap[g]? := by
  rw [set_other _ _ _ _ _ h, set_other _ _ _ _ _ h, set_other _ _ _ _ _ h, set_other _ _ _ _ _ h]
theorem thaw_of {w w' : World} {g : Nat} (h : Thaw w g) (e : w'.heap[g]? = w.heap[g]?) : Thaw w' g := by
  obtain ⟨cs, t, h⟩ := h
  exact ⟨cs, t, e.trans h⟩
/-- One item more. -/
theorem cl_step {w wr w3 : World} {G j : Nat} {k : Int} {sh nu : List Int} {it : List Arr} {a1 a2 a3 : Option Addr} {c1 c2 c3 : Nat} {done todo : List Value} {d0 d1 d2 d3 e0 e1 e2 e3 : Value}
    (hI : LInv w wr G k sh nu it a1 a2 a3 c1 c2 c3 j) (hG : w.heap.size + 2 ≤ G) (hj : j < it.length)
    (hrow : wr.heap[G]? = some (.cells (done ++ d0 :: d1 :: d2 :: d3 :: todo).toArray 30 (0, 0))) (hdl : done.length = j * 4) (hone : ∀ u ∈ done ++ d0 :: d1 :: d2 :: d3 :: todo, u.oneCell' = true)
    (hq1 : Quads (Fresh w G wr) wr done (it.take j)) (hq2 : Quads (fun g => g < w.heap.size) wr todo (it.drop (j + 1)))
    (hb : Below wr.heap.size wr w3) (hA : ArrOn (Own wr w3) w3 (.agg #[e0, e1, e2, e3]) it[j]) (hone' : ∀ u ∈ [e0, e1, e2, e3], u.oneCell' = true) (p : Nat) (hp : p = j * 4) :
    LInv w ((((w3.setCell ⟨G, p, none⟩ e0).setCell ⟨G, p + 1, none⟩ e1).setCell ⟨G, p + 2, none⟩ e2).setCell ⟨G, p + 3, none⟩ e3) G k sh nu it a1 a2 a3 c1 c2 c3 (j + 1) := by
  obtain ⟨par, res, i1, i2, -, bel⟩ := hI
  have hGl := lt_of_heap hrow
  have hrow3 : w3.heap[G]? = some (.cells (done ++ d0 :: d1 :: d2 :: d3 :: todo).toArray 30 (0, 0)) := (hb.block G hGl).trans hrow
  have hrow4 := row_set4 hrow3 (hdl.trans hp.symm) e0 e1 e2 e3
  have hoth := fun g (h : g ≠ G) => set4_other (w := w3) (p := p) (e0 := e0) (e1 := e1) (e2 := e2) (e3 := e3) g h
  have hbel : Below w.heap.size w ((((w3.setCell ⟨G, p, none⟩ e0).setCell ⟨G, p + 1, none⟩ e1).setCell ⟨G, p + 2, none⟩ e2).setCell ⟨G, p + 3, none⟩ e3) :=
    Below.setCell (Below.setCell (Below.setCell (Below.setCell (bel.trans (hb.mono bel.size)) (p := ⟨G, p, none⟩) (by show _ ≤ G; omega) _) (p := ⟨G, p + 1, none⟩) (by show _ ≤ G; omega) _) (p := ⟨G, p + 2, none⟩) (by show _ ≤ G; omega) _) (p := ⟨G, p + 3, none⟩) (by show _ ≤ G; omega) _
  generalize ((((w3.setCell ⟨G, p, none⟩ e0).setCell ⟨G, p + 1, none⟩ e1).setCell ⟨G, p + 2, none⟩ e2).setCell ⟨G, p + 3, none⟩ e3) = W4 at hrow4 hoth hbel ⊢
  have keepF : ∀ g, Fresh w G wr g → g < wr.heap.size → Fresh w G W4 g ∧ ∀ o, W4.cell? ⟨g, o, none⟩ = wr.cell? ⟨g, o, none⟩ := fun g hg hl =>
    have e : W4.heap[g]? = wr.heap[g]? := (hoth g hg.2.1).trans (hb.block g hl)
    ⟨⟨hg.1, hg.2.1, thaw_of hg.2.2 e⟩, fun o => World.cell?_of_block e⟩
  have keepO : ∀ g, g < w.heap.size → g < wr.heap.size → g < w.heap.size ∧ ∀ o, W4.cell? ⟨g, o, none⟩ = wr.cell? ⟨g, o, none⟩ := fun g hg hl =>
    ⟨hg, fun o => World.cell?_of_block ((hoth g (by omega)).trans (hb.block g hl))⟩
  have keepN : ∀ g, Own wr w3 g → g < w3.heap.size → Fresh w G W4 g ∧ ∀ o, W4.cell? ⟨g, o, none⟩ = w3.cell? ⟨g, o, none⟩ := fun g hg hl =>
    have h1 := hg.1
    have e : W4.heap[g]? = w3.heap[g]? := hoth g (by omega)
    ⟨⟨by omega, by omega, thaw_of hg.2 e⟩, fun o => World.cell?_of_block e⟩
  refine ⟨par.keep ((hoth _ (by omega)).trans (hb.block _ par.lt)), res.keep ((hoth _ (by omega)).trans (hb.block _ res.lt)), i1.keep keepF, i2.keep keepF, fun _ => ?_, hbel⟩
  refine ⟨done ++ [e0, e1, e2, e3], todo, ?_, by simp only [List.length_append, hdl, List.length_cons, List.length_nil]; omega, ?_, ?_, hq2.keep keepO⟩
  · rw [hrow4]; simp
  · intro u hu
    simp only [List.append_assoc, List.mem_append] at hu
    rcases hu with h | h | h
    · exact hone u (by simp [h])
    · exact hone' u h
    · exact hone u (by simp [h])
  · rw [List.take_succ_eq_append_getElem hj]
    exact (hq1.keep keepF).snoc (hA.keep keepN)
/-- The copy, whole. -/
theorem cl_end {w wr W : World} {G : Nat} {k : Int} {sh nu : List Int} {it : List Arr} {a1 a2 a3 : Option Addr} {c1 c2 c3 : Nat} (hI : LInv w wr G k sh nu it a1 a2 a3 c1 c2 c3 it.length) (hk : -9223372036854775808 ≤ k ∧ k ≤ 9223372036854775807) (hG : w.heap.size + 2 ≤ G)
    (h1 : it.length ≤ c3) (h2 : c3 ≤ 9223372036854775807) (h3 : it ≠ [] → a3 = some ⟨G, 0, none⟩) (hW : ∀ g, g ≠ w.heap.size + 1 → W.heap[g]? = wr.heap[g]?) :
    ArrOn (Own w W) W (.agg #[.int .i64 k, .slice a1 sh.length c1, .slice a2 nu.length c2, .slice a3 it.length c3]) (.mk k sh nu it) := by
  obtain ⟨par, res, i1, i2, row, bel⟩ := hI
  have keepF : ∀ g, Fresh w G wr g → g < wr.heap.size → Own w W g ∧ ∀ o, W.cell? ⟨g, o, none⟩ = wr.cell? ⟨g, o, none⟩ := fun g hg hl =>
    have h := hg.1
    have e : W.heap[g]? = wr.heap[g]? := hW g (by omega)
    ⟨⟨by omega, thaw_of hg.2.2 e⟩, fun o => World.cell?_of_block e⟩
  rw [ArrOn]
  refine ⟨a1, c1, a2, c2, a3, c3, rfl, hk, i1.keep keepF, i2.keep keepF, h1, h2, G, 0, fun hne => ?_, ?_⟩
  · obtain ⟨done, todo, hr, -⟩ := row hne
    exact ⟨h3 hne, by omega, ⟨_, ⟨_, by decide⟩, (hW G (by omega)).trans hr⟩⟩
  · cases it with
    | nil => rw [ArrsOn]; trivial
    | cons A r =>
      obtain ⟨done, todo, hr, hd, -, hq, hq2⟩ := row (by simp)
      rw [List.drop_length] at hq2
      obtain rfl := quads_nil hq2
      rw [List.take_length] at hq
      rw [List.append_nil] at hr
      refine (hq.keep keepF).arrs fun i hi => ?_
      have e : W.heap[G]? = _ := (hW G (by omega)).trans hr
      simp [World.cell?, e, hi]
theorem four_one {k : Int} {a1 a2 a3 : Option Addr} {n1 m1 n2 m2 n3 m3 : Nat} : ∀ u ∈ [Value.int .i64 k, .slice a1 n1 m1, .slice a2 n2 m2, .slice a3 n3 m3], u.oneCell' = true := by
  intro u hu
  simp only [List.mem_cons, List.not_mem_nil, or_false] at hu
  rcases hu with rfl | rfl | rfl | rfl <;> rfl
end Go.Proofs.YtghmbmjikkdbnaaGreatDoor.Shape

namespace Go.Proofs.YtghmbmjikkdbnaaGreatDoor.Shape
open Go.RowKit
set_option linter.unusedVariables false
set_option maxRecDepth 100000 in
set_option maxHeartbeats 4000000 in
theorem clQ_any (n : Nat) : ∀ (v : Value) (A : Arr) (w : World) (q : Nat), rk A ≤ n → ArrAt w v A → Reach A → isCl w q → Calls Tryz.prog 161 #[v, .pointer (some ⟨q, 0, none⟩)] w (GiveOwn A w) := by
  induction n with
  | zero =>
    intro v A w q hn _ _ _
    obtain ⟨k, sh, nu, it⟩ := A
    rw [rk] at hn; omega
  | succ n ih =>
    intro v A w q hn h hr hf
    obtain ⟨k, sh, nu, it⟩ := A
    have h' := h.on
    rw [ArrOn] at h'
    rw [Reach] at hr
    obtain ⟨r1, r2, r3, r4⟩ := hr
    obtain ⟨sa, sc, na, nc, ia, ic, rfl, hk, hs, hnn, h1, h2, b, off, ha, hc⟩ := h'
    have bw := below2 w (.cells #[.int .i64 k, .slice sa sh.length sc, .slice na nu.length nc, .slice ia it.length ic] 30) (.cells #[.int .i64 0, .slice none 0 0, .slice none 0 0, .slice none 0 0] 30)
    have q1 := (Quad.new w (.int .i64 k) (.slice sa sh.length sc) (.slice na nu.length nc) (.slice ia it.length ic)).below (below_new _ (.cells #[.int .i64 0, .slice none 0 0, .slice none 0 0, .slice none 0 0] 30))
    have q2 : Quad ((w.alloc (.cells #[.int .i64 k, .slice sa sh.length sc, .slice na nu.length nc, .slice ia it.length ic] 30)).alloc (.cells #[.int .i64 0, .slice none 0 0, .slice none 0 0, .slice none 0 0] 30)) (w.heap.size + 1) (.int .i64 0) (.slice none 0 0) (.slice none 0 0) (.slice none 0 0) := by simpa using Quad.new (w.alloc (.cells #[.int .i64 k, .slice sa sh.length sc, .slice na nu.length nc, .slice ia it.length ic] 30)) (.int .i64 0) (.slice none 0 0) (.slice none 0 0) (.slice none 0 0)
    have bz : ((w.alloc (.cells #[.int .i64 k, .slice sa sh.length sc, .slice na nu.length nc, .slice ia it.length ic] 30)).alloc (.cells #[.int .i64 0, .slice none 0 0, .slice none 0 0, .slice none 0 0] 30)).heap.size = w.heap.size + 2 := by simp
    go_enter Tryz.func161, Tryz.ntmps161
    go_upto_region 1 with fail
    generalize ((w.alloc (.cells #[.int .i64 k, .slice sa sh.length sc, .slice na nu.length nc, .slice ia it.length ic] 30)).alloc (.cells #[.int .i64 0, .slice none 0 0, .slice none 0 0, .slice none 0 0] 30)) = W0 at q1 q2 bw bz ⊢
    have BZ : Hid (W0.heap.size = w.heap.size + 2) := bz
    obtain ⟨d0, d1, d2, d3, d4, d5, d6, d7⟩ := q1.cells
    have CI := fun w' (hb : Below W0.heap.size W0 w') => copiedIQ sa sc sh w' ((hs.1.below bw).below hb) r1
    have CN := fun w' (hb : Below W0.heap.size W0 w') => copiedIQ na nc nu w' ((hnn.1.below bw).below hb) r2
    have CA := fun w' (hb : Below W0.heap.size W0 w') => copiedAQ (fun g => g < w.heap.size) ia ic b off it w' h1 h2 (fun g => (ha g).1) (hc.keep' (fun g hg _ => ⟨hg, fun _ => (Below.then bw hb).cell hg⟩) (fun g => (ha g).2)) r3
    clear bz
    go_cut [] (fun wx => ∃ (G : Nat) (a1 a2 a3 : Option Addr) (c1 c2 c3 : Nat), w.heap.size + 2 ≤ G ∧ LInv w wx G k sh nu it a1 a2 a3 c1 c2 c3 0 ∧ (it ≠ [] → a3 = some ⟨G, 0, none⟩) ∧ it.length ≤ c3 ∧ c3 ≤ 9223372036854775807)
    case first =>
      go_region_law ((first
        | (go_simp; (with_reducible refine (CI _ (Below.refl _ _).drew).mono ?_); rintro e w1 ⟨a1, c1, rfl, i1, b1⟩; (have e1 : Below W0.heap.size W0 w1 := Below.then (below_drew _) b1); (obtain ⟨f0, f1, f2, f3, f4, f5, f6, f7⟩ := (q1.below e1).cells))
        | (go_simp; (with_reducible refine (CN _ e1).mono ?_); rintro e w2 ⟨a2, c2, rfl, i2, b2⟩; (have e2 : Below W0.heap.size W0 w2 := Below.then e1 b2); (obtain ⟨g0, g1, g2, g3, g4, g5, g6, g7⟩ := (q1.below e2).cells))
        | (go_simp; (with_reducible refine (CA _ e2).mono ?_); rintro e w3 ⟨a3, c3, rfl, l1, l2, b3, n0, n1⟩; (have e3 : Below W0.heap.size W0 w3 := Below.then e2 b3); (obtain ⟨m0, m1, m2, m3, m4, m5, m6, m7⟩ := (q1.below e3).cells))))
      all_goals
        obtain ⟨G, hG, a3r⟩ : ∃ G, w2.heap.size ≤ G ∧ (it ≠ [] → a3 = some ⟨G, 0, none⟩ ∧ ∃ qs, w3.heap[G]? = some (.cells qs.toArray 30 (0, 0)) ∧ qs.length = it.length * 4 ∧ Quads (fun g => g < w.heap.size) w3 qs it ∧ ∀ u ∈ qs, u.oneCell' = true) := by
          cases a3 with
          | none => exact ⟨w2.heap.size, Nat.le_refl _, fun g => absurd (n0 rfl) g⟩
          | some ad =>
            obtain ⟨G, qs, rfl, x1, x2, x3, x4, x5⟩ := n1 ad rfl
            exact ⟨G, x1, fun _ => ⟨rfl, qs, x2, x3, x4, x5⟩⟩
        have zz := BZ.out
        have z1 := e1.size
        have z2 := b2.size
        have z3 := b3.size
        have hG2 : w.heap.size + 2 ≤ G := by omega
        have Q3 := ((((q1.below e3).set (.slice a1 sh.length c1)).2.1.set (.slice a2 nu.length c2)).2.2.1.set (.slice a3 it.length c3)).2.2.2
        have HO : ∀ g, g ≠ w.heap.size → (((w3.setCell ⟨w.heap.size, 1, none⟩ (.slice a1 sh.length c1)).setCell ⟨w.heap.size, 2, none⟩ (.slice a2 nu.length c2)).setCell ⟨w.heap.size, 3, none⟩ (.slice a3 it.length c3)).heap[g]? = w3.heap[g]? := fun g hg => by
          rw [set_other _ _ _ _ _ hg, set_other _ _ _ _ _ hg, set_other _ _ _ _ _ hg]
        have HB : Below w.heap.size w (((w3.setCell ⟨w.heap.size, 1, none⟩ (.slice a1 sh.length c1)).setCell ⟨w.heap.size, 2, none⟩ (.slice a2 nu.length c2)).setCell ⟨w.heap.size, 3, none⟩ (.slice a3 it.length c3)) :=
          Below.setCell (Below.setCell (Below.setCell (Below.then bw e3) (p := ⟨w.heap.size, 1, none⟩) (Nat.le_refl _) _) (p := ⟨w.heap.size, 2, none⟩) (Nat.le_refl _) _) (p := ⟨w.heap.size, 3, none⟩) (Nat.le_refl _) _
        generalize (((w3.setCell ⟨w.heap.size, 1, none⟩ (.slice a1 sh.length c1)).setCell ⟨w.heap.size, 2, none⟩ (.slice a2 nu.length c2)).setCell ⟨w.heap.size, 3, none⟩ (.slice a3 it.length c3)) = WA at Q3 HO HB ⊢
        have I0 : LInv w WA G k sh nu it a1 a2 a3 c1 c2 c3 0 := by
          refine ⟨Q3, (q2.below e3).keep (HO _ (by omega)), i1.keep fun g hg hl => ?_, i2.keep fun g hg hl => ?_, fun hne => ?_, HB⟩
          · have hg1 : W0.heap.size ≤ g := hg.1
            have e : WA.heap[g]? = w1.heap[g]? := (HO g (by omega)).trans ((Below.then b2 b3).block g hl)
            exact ⟨⟨by omega, by omega, thaw_of hg.2 e⟩, fun o => World.cell?_of_block e⟩
          · have hg1 := hg.1
            have e : WA.heap[g]? = w2.heap[g]? := (HO g (by omega)).trans (b3.block g hl)
            exact ⟨⟨by omega, by omega, thaw_of hg.2 e⟩, fun o => World.cell?_of_block e⟩
          · obtain ⟨-, qs, y1, y2, y3, y4⟩ := a3r hne
            exact ⟨[], qs, (HO G (by omega)).trans y1, by simp, y4, by rw [List.take_zero, Quads]; trivial, by rw [List.drop_zero]; exact y3.keep fun g hg hl => ⟨hg, fun o => World.cell?_of_block (HO g (by omega))⟩⟩
        go_wp2_with fail
        go_meet
        exact ⟨G, a1, a2, a3, c1, c2, c3, hG2, I0, (fun g => (a3r g).1), l1, l2⟩
    case rest =>
      obtain ⟨G, a1, a2, a3, c1, c2, c3, hG2, I0, ha3, l1, l2⟩ := hcut
      clear CI CN CA d0 d1 d2 d3 d4 d5 d6 d7 q1 q2
      obtain ⟨s0, s1, s2, s3, -⟩ := I0.par.cells
      go_wp2_with fail
      clear s0 s1 s2 s3
      go_loopw [21] (fun i wr => ∃ j : Nat, j ≤ it.length ∧ i = .int .i64 j ∧ LInv w wr G k sh nu it a1 a2 a3 c1 c2 c3 j) (fun i _ => it.length - (intOf i).toNat)
      case atStart => exact ⟨0, Nat.zero_le _, rfl, I0⟩
      case round =>
        obtain ⟨j, hj, rfl, hI⟩ := hrel
        clear I0
        by_cases hlt : j < it.length
        · have hne : it ≠ [] := by intro e; subst e; simp at hlt
          have hix := items_at (ic := c3) (n := it.length) rfl ha3 hlt
          obtain ⟨done, todo, hrow, hdl, hone, hq1, hq2⟩ := hI.row hne
          rw [List.drop_eq_getElem_cons hlt] at hq2
          obtain ⟨x0, x1, x2, x3, todo', rfl, hX, hq3⟩ := quads_cons hq2
          obtain ⟨ik, ia1, in1, im1, ia2, in2, im2, ia3, in3, im3, rfl, rfl, rfl, rfl⟩ := hX.at.four
          obtain ⟨y0, y1, y2, y3, -⟩ := row_cells hrow (p := j * 4) hdl
          have bI := below_new wr (.cells #[.int .i64 ik, .slice ia1 in1 im1, .slice ia2 in2 im2, .slice ia3 in3 im3] 30)
          have rI := (bI.block G (lt_of_heap hrow)).trans hrow
          have pI := hI.par.below bI
          have fI := (hf.below hI.bel).below bI
          have hK := ih _ _ (wr.alloc (.cells #[.int .i64 ik, .slice ia1 in1 im1, .slice ia2 in2 im2, .slice ia3 in3 im3] 30)).drew q (Nat.le_of_lt_succ (Nat.lt_of_lt_of_le (rk_item hlt) hn)) (hX.at.below bI).drew (r4.at hlt) fI
          unfold isCl at fI
          obtain ⟨o0, o1, o2, o3, o4⟩ := Par.new wr (.int .i64 ik) (.slice ia1 in1 im1) (.slice ia2 in2 im2) (.slice ia3 in3 im3) 30
          clear ih hne
          go_wp2_with fail
          generalize hWI : wr.alloc (.cells #[.int .i64 ik, .slice ia1 in1 im1, .slice ia2 in2 im2, .slice ia3 in3 im3] 30) = WI at bI rI pI fI hK o0 o1 o2 o3 o4 ⊢
          obtain ⟨p0, p1, p2, p3, -⟩ := pI.cells
          go_region_law ((first
            | (go_simp; (with_reducible refine hK.mono ?_); rintro e w4 ⟨ek, ea1, en1, em1, ea2, en2, em2, ea3, en3, em3, rfl, hO, b4⟩; (have b5 : Below WI.heap.size WI w4 := Below.then (below_drew _) b4); (obtain ⟨t0, t1, t2, t3, t4, t5, t6, t7⟩ := row_cells ((b5.block G (lt_of_heap rI)).trans rI) (p := j * 4) hdl); (obtain ⟨u0, u1, u2, u3, -⟩ := (pI.below b5).cells))))
          all_goals go_wp2_with fail
          all_goals go_roundw
          all_goals first
            | exact ⟨j + 1, by omega, by go_num, cl_step hI hG2 hlt hrow hdl hone hq1 hq3 (Below.then bI b5) (hO.mono fun g hg => ⟨Nat.le_trans bI.size hg.1, hg.2⟩) four_one (j * 4) rfl⟩
            | (simp [intOf]; omega)
        · obtain rfl : j = it.length := by omega
          obtain ⟨p0, p1, p2, p3, -⟩ := hI.par.cells
          obtain ⟨q0, q1, q2, q3, q4, q5, q6, q7⟩ := hI.res.cells
          go_wp2_with fail
          obtain ⟨QW, OW⟩ := set4 hI.res (.int .i64 k) (.slice a1 sh.length c1) (.slice a2 nu.length c2) (.slice a3 it.length c3)
          have BW := set4_below (w := wr) (B := w.heap.size) (b := w.heap.size + 1) (by omega) (.int .i64 k) (.slice a1 sh.length c1) (.slice a2 nu.length c2) (.slice a3 it.length c3)
          generalize ((((wr.setCell ⟨w.heap.size + 1, 0, none⟩ (.int .i64 k)).setCell ⟨w.heap.size + 1, 1, none⟩ (.slice a1 sh.length c1)).setCell ⟨w.heap.size + 1, 2, none⟩ (.slice a2 nu.length c2)).setCell ⟨w.heap.size + 1, 3, none⟩ (.slice a3 it.length c3)) = WW at QW OW BW ⊢
          obtain ⟨z0, z1, z2, z3, -⟩ := QW.cells
          exact bodyPost_ret (v := .agg #[.int .i64 k, .slice a1 sh.length c1, .slice a2 nu.length c2, .slice a3 it.length c3]) (by simp [results, Tryz.results161, go_sem, z0, z1, z2, z3]) rfl ⟨_, _, _, _, _, _, _, _, _, _, rfl, cl_end hI hk hG2 l1 l2 ha3 OW, hI.bel.trans BW⟩
end Go.Proofs.YtghmbmjikkdbnaaGreatDoor.Shape

namespace Go.Proofs.YtghmbmjikkdbnaaGreatDoor.Shape
open Go.RowKit
set_option linter.unusedVariables false
theorem isCl.new (W : World) (B : Nat) (ty : TypeId) (hB : B = W.heap.size) : isCl (W.alloc (.cells #[.func (.func 161) #[] #[.pointer (some ⟨B, 0, none⟩)]] ty)) B := by
  subst hB
  unfold isCl
  rw [World.cell?_alloc_new]
  rfl
/-- The array that the result's variable holds after its four stores, in memory of which nothing is frozen. -/
theorem own_set4 {w w1 w2 : World} {R : Nat} {A : Arr} {z0 z1 z2 z3 : Value} {k : Int} {a1 a2 a3 : Option Addr} {n1 m1 n2 m2 n3 m3 : Nat} (hR : w.heap.size ≤ R) (h1 : R < w1.heap.size) (hq : Quad w2 R z0 z1 z2 z3) (hO : ArrOn (Own w1 w2) w2 (.agg #[.int .i64 k, .slice a1 n1 m1, .slice a2 n2 m2, .slice a3 n3 m3]) A) (hb : Below w.heap.size w w2) :
    GiveOwn A w (.returned (.agg #[.int .i64 k, .slice a1 n1 m1, .slice a2 n2 m2, .slice a3 n3 m3])) ((((w2.setCell ⟨R, 0, none⟩ (.int .i64 k)).setCell ⟨R, 1, none⟩ (.slice a1 n1 m1)).setCell ⟨R, 2, none⟩ (.slice a2 n2 m2)).setCell ⟨R, 3, none⟩ (.slice a3 n3 m3)) := by
  obtain ⟨_, ho⟩ := set4 hq (.int .i64 k) (.slice a1 n1 m1) (.slice a2 n2 m2) (.slice a3 n3 m3)
  refine ⟨_, _, _, _, _, _, _, _, _, _, rfl, hO.keep fun g hp _ => ?_, hb.trans (set4_below hR _ _ _ _)⟩
  have h2 := hp.1
  have e := ho g (by omega)
  exact ⟨⟨by omega, thaw_of hp.2 e⟩, fun o => World.cell?_of_block e⟩
set_option maxRecDepth 100000 in
set_option maxHeartbeats 2000000 in
theorem cloneO (v : Value) (A : Arr) (w : World) (h : ArrAt w v A) (hr : Reach A) : Calls Tryz.prog 158 #[v] w (GiveOwn A w) := by
  have hmf : ∀ (fn : Fn) (first cap : Array Value) (w : World), (Instr.makeFunc fn first cap).run Tryz.prog w = .ok (.func fn first cap) w := fun _ _ _ _ => rfl
  have hA := h
  obtain ⟨k, sa, ls, sc, na, ln, nc, ia, li, ic, rfl⟩ : ∃ k sa ls sc na ln nc ia li ic, v = .agg #[.int .i64 k, .slice sa ls sc, .slice na ln nc, .slice ia li ic] := by
    obtain ⟨k, sh, nu, it⟩ := A
    rw [ArrAt] at h
    obtain ⟨sa, sc, na, nc, ia, ic, rfl, -⟩ := h
    exact ⟨_, _, _, _, _, _, _, _, _, _, rfl⟩
  have bw := below3 w (.cells #[.int .i64 k, .slice sa ls sc, .slice na ln nc, .slice ia li ic] 30) (.cells #[.int .i64 0, .slice none 0 0, .slice none 0 0, .slice none 0 0] 30) (.cells #[.func (.func 161) #[] #[.pointer (some ⟨w.heap.size + 1 + 1, 0, none⟩)]] 145)
  have q2 : Quad (((w.alloc (.cells #[.int .i64 k, .slice sa ls sc, .slice na ln nc, .slice ia li ic] 30)).alloc (.cells #[.int .i64 0, .slice none 0 0, .slice none 0 0, .slice none 0 0] 30)).alloc (.cells #[.func (.func 161) #[] #[.pointer (some ⟨w.heap.size + 1 + 1, 0, none⟩)]] 145)) (w.heap.size + 1) (.int .i64 0) (.slice none 0 0) (.slice none 0 0) (.slice none 0 0) :=
    Quad.below (below_new _ _) (by simpa using Quad.new (w.alloc (.cells #[.int .i64 k, .slice sa ls sc, .slice na ln nc, .slice ia li ic] 30)) (.int .i64 0) (.slice none 0 0) (.slice none 0 0) (.slice none 0 0))
  have hc := isCl.new ((w.alloc (.cells #[.int .i64 k, .slice sa ls sc, .slice na ln nc, .slice ia li ic] 30)).alloc (.cells #[.int .i64 0, .slice none 0 0, .slice none 0 0, .slice none 0 0] 30)) (w.heap.size + 1 + 1) 145 (by simp)
  have hz : Hid ((((w.alloc (.cells #[.int .i64 k, .slice sa ls sc, .slice na ln nc, .slice ia li ic] 30)).alloc (.cells #[.int .i64 0, .slice none 0 0, .slice none 0 0, .slice none 0 0] 30)).alloc (.cells #[.func (.func 161) #[] #[.pointer (some ⟨w.heap.size + 1 + 1, 0, none⟩)]] 145)).heap.size = w.heap.size + 3) := by unfold Hid; simp
  have K := clQ_any _ _ _ _ _ (Nat.le_refl _) (hA.below bw) hr hc
  go_enter Tryz.func158, Tryz.ntmps158
  go_wp2_with (go_at_call 161; refine K.mono ?_; rintro e w2 ⟨k', sa', ls', sc', na', ln', nc', ia', li', ic', rfl, hO, hb2⟩; (obtain ⟨s0, s1, s2, s3, s4, s5, s6, s7⟩ := (q2.below hb2).cells))
  have q3 := q2.below hb2
  have hb := hz.out
  have G := own_set4 (w := w) (R := w.heap.size + 1) (by omega) (by omega) q3 hO (Below.then bw hb2)
  obtain ⟨QW, -⟩ := set4 q3 (.int .i64 k') (.slice sa' ls' sc') (.slice na' ln' nc') (.slice ia' li' ic')
  generalize ((((w2.setCell ⟨w.heap.size + 1, 0, none⟩ (.int .i64 k')).setCell ⟨w.heap.size + 1, 1, none⟩ (.slice sa' ls' sc')).setCell ⟨w.heap.size + 1, 2, none⟩ (.slice na' ln' nc')).setCell ⟨w.heap.size + 1, 3, none⟩ (.slice ia' li' ic')) = WW at QW G ⊢
  obtain ⟨z0, z1, z2, z3, -⟩ := QW.cells
  exact bodyPost_ret (v := .agg #[.int .i64 k', .slice sa' ls' sc', .slice na' ln' nc', .slice ia' li' ic']) (by simp [results, Tryz.results158, go_sem, z0, z1, z2, z3]) rfl G
end Go.Proofs.YtghmbmjikkdbnaaGreatDoor.Shape

namespace Go.Proofs.YtghmbmjikkdbnaaGreatDoor.Shape
open Go.RowKit
theorem GiveOwn.new {A : Arr} {w w' : World} {e : Ending} (h : GiveOwn A w e w') : GiveNew A w e w' := by
  obtain ⟨k, a1, n1, m1, a2, n2, m2, a3, n3, m3, rfl, hO, hb⟩ := h
  exact GiveNew.mk (hO.mono fun g hg => hg.1) hb
theorem cloneN (v : Value) (A : Arr) (w : World) (h : ArrAt w v A) (hr : Reach A) : Calls Tryz.prog 158 #[v] w (GiveNew A w) := (cloneO v A w h hr).mono fun _ _ h => h.new
set_option maxRecDepth 100000 in
set_option maxHeartbeats 2000000 in
theorem validN (v : Value) (A : Arr) (w : World) (h : ArrAt w v A) (hr : Reach A) : Calls Tryz.prog 155 #[v] w (GiveNew (validA A) w) := by
  have hA := h
  obtain ⟨k, sa, ls, sc, na, ln, nc, ia, li, ic, rfl⟩ : ∃ k sa ls sc na ln nc ia li ic, v = .agg #[.int .i64 k, .slice sa ls sc, .slice na ln nc, .slice ia li ic] := by
    obtain ⟨k, sh, nu, it⟩ := A
    rw [ArrAt] at h
    obtain ⟨sa, sc, na, nc, ia, ic, rfl, -⟩ := h
    exact ⟨_, _, _, _, _, _, _, _, _, _, rfl⟩
  have bw := below_two w (.cells #[.int .i64 k, .slice sa ls sc, .slice na ln nc, .slice ia li ic] 30) (.cells #[.int .i64 0, .slice none 0 0, .slice none 0 0, .slice none 0 0] 30)
  have hA1 := hA.below bw
  have q1 := (Quad.new w (.int .i64 k) (.slice sa ls sc) (.slice na ln nc) (.slice ia li ic)).below (below_new _ (.cells #[.int .i64 0, .slice none 0 0, .slice none 0 0, .slice none 0 0] 30))
  have q2 : Quad ((w.alloc (.cells #[.int .i64 k, .slice sa ls sc, .slice na ln nc, .slice ia li ic] 30)).alloc (.cells #[.int .i64 0, .slice none 0 0, .slice none 0 0, .slice none 0 0] 30)) (w.heap.size + 1) (.int .i64 0) (.slice none 0 0) (.slice none 0 0) (.slice none 0 0) := by
    simpa using Quad.new (w.alloc (.cells #[.int .i64 k, .slice sa ls sc, .slice na ln nc, .slice ia li ic] 30)) (.int .i64 0) (.slice none 0 0) (.slice none 0 0) (.slice none 0 0)
  have bz : ((w.alloc (.cells #[.int .i64 k, .slice sa ls sc, .slice na ln nc, .slice ia li ic] 30)).alloc (.cells #[.int .i64 0, .slice none 0 0, .slice none 0 0, .slice none 0 0] 30)).heap.size = w.heap.size + 2 := by simp
  obtain ⟨x, hx⟩ : ∃ x, rightE A = x := ⟨_, rfl⟩
  have R := fun v' w' (g : ArrAt w' v' A) => rightQ v' A w' g
  rw [hx] at R
  have B := bz
  clear bz
  by_cases hz : x = 0
  · subst hz
    have HV : Hid (validA A = A) := by unfold Hid; rw [validA, if_pos hx]
    clear hx
    have HB : Hid _ := B
    clear B
    go_enter Tryz.func155, Tryz.ntmps155
    go_wp2_with (first
      | (go_at_call 101; refine (R _ _ hA1).mono ?_; rintro e w1 ⟨rfl, hb1⟩; (obtain ⟨p0, p1, p2, p3, -⟩ := (q1.below hb1).cells))
      | (go_at_call 158; refine (cloneN _ _ _ (hA1.below hb1) hr).mono ?_; intro e w2 hN; (obtain ⟨k', sa', ls', sc', na', ln', nc', ia', li', ic', rfl, hO, hb2⟩ := hN.form); (obtain ⟨s0, s1, s2, s3, s4, s5, s6, s7⟩ := ((q2.below hb1).below hb2).cells)))
    have q3 := (q2.below hb1).below hb2
    have hb := HB.out
    have hs1 := hb1.size
    have G := give_set4 (Nat.le_succ w.heap.size) q3 (hO.mono fun g hg => by omega) (Below.then (Below.then bw hb1) hb2)
    obtain ⟨QW, -⟩ := set4 q3 (.int .i64 k') (.slice sa' ls' sc') (.slice na' ln' nc') (.slice ia' li' ic')
    generalize ((((w2.setCell ⟨w.heap.size + 1, 0, none⟩ (.int .i64 k')).setCell ⟨w.heap.size + 1, 1, none⟩ (.slice sa' ls' sc')).setCell ⟨w.heap.size + 1, 2, none⟩ (.slice na' ln' nc')).setCell ⟨w.heap.size + 1, 3, none⟩ (.slice ia' li' ic')) = WW at QW G ⊢
    obtain ⟨z0, z1, z2, z3, -⟩ := QW.cells
    rw [HV.out]
    exact bodyPost_ret (v := .agg #[.int .i64 k', .slice sa' ls' sc', .slice na' ln' nc', .slice ia' li' ic']) (by simp [results, Tryz.results155, go_sem, z0, z1, z2, z3]) rfl G
  · have e1 : (x == 0) = false := by simpa using hz
    have e2 : (x != 0) = true := by simpa using hz
    have HV : Hid (validA A = zeroA) := by unfold Hid; rw [validA, hx, if_neg hz]
    clear hx hz B
    go_enter Tryz.func155, Tryz.ntmps155
    go_wp2_with (first
      | (go_at_call 101; refine (R _ _ hA1).mono ?_; rintro e w1 ⟨rfl, hb1⟩; (obtain ⟨s0, s1, s2, s3, s4, s5, s6, s7⟩ := (q2.below hb1).cells)))
    have q3 := q2.below hb1
    have G := give_set4 (Nat.le_succ w.heap.size) q3 (zero_on _ _) (Below.then bw hb1)
    obtain ⟨QW, -⟩ := set4 q3 (.int .i64 0) (.slice none 0 0) (.slice none 0 0) (.slice none 0 0)
    generalize ((((w1.setCell ⟨w.heap.size + 1, 0, none⟩ (.int .i64 0)).setCell ⟨w.heap.size + 1, 1, none⟩ (.slice none 0 0)).setCell ⟨w.heap.size + 1, 2, none⟩ (.slice none 0 0)).setCell ⟨w.heap.size + 1, 3, none⟩ (.slice none 0 0)) = WW at QW G ⊢
    obtain ⟨z0, z1, z2, z3, -⟩ := QW.cells
    rw [HV.out]
    exact bodyPost_ret (v := .agg #[.int .i64 0, .slice none 0 0, .slice none 0 0, .slice none 0 0]) (by simp [results, Tryz.results155, go_sem, z0, z1, z2, z3]) rfl G
set_option maxRecDepth 100000 in
set_option maxHeartbeats 2000000 in
theorem scalarN (n : Int) (w : World) (hn : -9223372036854775808 ≤ n ∧ n ≤ 9223372036854775807) : Calls Tryz.prog 148 #[.int .i64 n] w (GiveNew (validA (.mk 1 [] [n] [])) w) := by
  have bw := below_two w (.cells #[.int .i64 0, .slice none 0 0, .slice none 0 0, .slice none 0 0] 30) (.cells #[.int .i64 n] 3)
  have hr : Reach (.mk 1 [] [n] []) := reach_plain (by simp) (by simp)
  have hA1 : ArrAt ((w.alloc (.cells #[.int .i64 0, .slice none 0 0, .slice none 0 0, .slice none 0 0] 30)).alloc (.cells #[.int .i64 n] 3)) (.agg #[.int .i64 1, .slice none 0 0, .slice (some ⟨w.heap.size + 1, 0, none⟩) 1 1, .slice none 0 0]) (.mk 1 [] [n] []) :=
    arr_plain (by decide) rfl rfl (ints_nil _) (ints_one _ _ _ _ hn (by rw [World.cell?_alloc_at _ _ _ _ (by simp)]; rfl) (by decide) (by decide))
  have q2 := (Quad.new w (.int .i64 0) (.slice none 0 0) (.slice none 0 0) (.slice none 0 0)).below (below_new _ (.cells #[.int .i64 n] 3))
  have HB : Hid (((w.alloc (.cells #[.int .i64 0, .slice none 0 0, .slice none 0 0, .slice none 0 0] 30)).alloc (.cells #[.int .i64 n] 3)).heap.size = w.heap.size + 2) := by unfold Hid; simp
  go_enter Tryz.func148, Tryz.ntmps148
  go_wp2_with (go_at_call 155; refine (validN _ _ _ hA1 hr).mono ?_; intro e w2 hN; (obtain ⟨k', sa', ls', sc', na', ln', nc', ia', li', ic', rfl, hO, hb2⟩ := hN.form); (obtain ⟨s0, s1, s2, s3, s4, s5, s6, s7⟩ := (q2.below hb2).cells))
  have q3 := q2.below hb2
  have hb := HB.out
  have G := give_set4 (w := w) (R := w.heap.size) (by omega) q3 (hO.mono fun g hg => by omega) (Below.then bw hb2)
  obtain ⟨QW, -⟩ := set4 q3 (.int .i64 k') (.slice sa' ls' sc') (.slice na' ln' nc') (.slice ia' li' ic')
  generalize ((((w2.setCell ⟨w.heap.size, 0, none⟩ (.int .i64 k')).setCell ⟨w.heap.size, 1, none⟩ (.slice sa' ls' sc')).setCell ⟨w.heap.size, 2, none⟩ (.slice na' ln' nc')).setCell ⟨w.heap.size, 3, none⟩ (.slice ia' li' ic')) = WW at QW G ⊢
  obtain ⟨z0, z1, z2, z3, -⟩ := QW.cells
  exact bodyPost_ret (v := .agg #[.int .i64 k', .slice sa' ls' sc', .slice na' ln' nc', .slice ia' li' ic']) (by simp [results, Tryz.results148, go_sem, z0, z1, z2, z3]) rfl G
set_option maxRecDepth 100000 in
set_option maxHeartbeats 2000000 in
theorem vectorN (a : Option Addr) (c : Nat) (xs : List Int) (w : World) (h : IntsAt w a c xs) (hx : xs.length * 8 ≤ 140737488351232) :
    Calls Tryz.prog 150 #[.slice a xs.length c] w (GiveNew (validA (.mk 1 [(xs.length : Int)] xs [])) w) := by
  have hnb := nat_bd h.len
  have bw := below_two w (.cells #[.int .i64 0, .slice none 0 0, .slice none 0 0, .slice none 0 0] 30) (.cells #[.int .i64 (xs.length : Int)] 3)
  have hr : Reach (.mk 1 [(xs.length : Int)] xs []) := reach_plain (by simp) hx
  have hA1 : ArrAt ((w.alloc (.cells #[.int .i64 0, .slice none 0 0, .slice none 0 0, .slice none 0 0] 30)).alloc (.cells #[.int .i64 (xs.length : Int)] 3)) (.agg #[.int .i64 1, .slice (some ⟨w.heap.size + 1, 0, none⟩) 1 1, .slice a xs.length c, .slice none 0 0]) (.mk 1 [(xs.length : Int)] xs []) :=
    arr_plain (by decide) rfl rfl (ints_one _ _ _ _ hnb (by rw [World.cell?_alloc_at _ _ _ _ (by simp)]; rfl) (by decide) (by decide)) (h.below bw)
  have q2 := (Quad.new w (.int .i64 0) (.slice none 0 0) (.slice none 0 0) (.slice none 0 0)).below (below_new _ (.cells #[.int .i64 (xs.length : Int)] 3))
  have HB : Hid (((w.alloc (.cells #[.int .i64 0, .slice none 0 0, .slice none 0 0, .slice none 0 0] 30)).alloc (.cells #[.int .i64 (xs.length : Int)] 3)).heap.size = w.heap.size + 2) := by unfold Hid; simp
  go_enter Tryz.func150, Tryz.ntmps150
  go_wp2_with (go_at_call 155; refine (validN _ _ _ hA1 hr).mono ?_; intro e w2 hN; (obtain ⟨k', sa', ls', sc', na', ln', nc', ia', li', ic', rfl, hO, hb2⟩ := hN.form); (obtain ⟨s0, s1, s2, s3, s4, s5, s6, s7⟩ := (q2.below hb2).cells))
  have q3 := q2.below hb2
  have hb := HB.out
  have G := give_set4 (w := w) (R := w.heap.size) (by omega) q3 (hO.mono fun g hg => by omega) (Below.then bw hb2)
  obtain ⟨QW, -⟩ := set4 q3 (.int .i64 k') (.slice sa' ls' sc') (.slice na' ln' nc') (.slice ia' li' ic')
  generalize ((((w2.setCell ⟨w.heap.size, 0, none⟩ (.int .i64 k')).setCell ⟨w.heap.size, 1, none⟩ (.slice sa' ls' sc')).setCell ⟨w.heap.size, 2, none⟩ (.slice na' ln' nc')).setCell ⟨w.heap.size, 3, none⟩ (.slice ia' li' ic')) = WW at QW G ⊢
  obtain ⟨z0, z1, z2, z3, -⟩ := QW.cells
  exact bodyPost_ret (v := .agg #[.int .i64 k', .slice sa' ls' sc', .slice na' ln' nc', .slice ia' li' ic']) (by simp [results, Tryz.results150, go_sem, z0, z1, z2, z3]) rfl G
set_option maxRecDepth 100000 in
set_option maxHeartbeats 2000000 in
theorem boxN (v : Value) (A : Arr) (w : World) (h : ArrAt w v A) (hA : Reach A) : Calls Tryz.prog 149 #[v] w (GiveNew (validA (.mk 3 [] [] [A])) w) := by
  have h0 := h
  obtain ⟨c0, c1, c2, c3, rfl, hc0, hc1, hc2, hc3⟩ : ∃ c0 c1 c2 c3 : Value, v = .agg #[c0, c1, c2, c3] ∧ (∃ k, c0 = .int .i64 k) ∧ (∃ a n c, c1 = .slice a n c) ∧ (∃ a n c, c2 = .slice a n c) ∧ (∃ a n c, c3 = .slice a n c) := by
    obtain ⟨k, sh, nu, it⟩ := A
    rw [ArrAt] at h
    obtain ⟨sa, sc, na, nc, ia, ic, rfl, -⟩ := h
    exact ⟨_, _, _, _, rfl, ⟨_, rfl⟩, ⟨_, _, _, rfl⟩, ⟨_, _, _, rfl⟩, ⟨_, _, _, rfl⟩⟩
  clear h
  have bw := below_three w (.cells #[c0, c1, c2, c3] 30) (.cells #[.int .i64 0, .slice none 0 0, .slice none 0 0, .slice none 0 0] 30) (.cells #[c0, c1, c2, c3] 30)
  have hr : Reach (.mk 3 [] [] [A]) := by rw [Reach]; exact ⟨by simp, by simp, by simp, by rw [ReachL, ReachL]; exact ⟨hA, trivial⟩⟩
  have q9 : Quad (((w.alloc (.cells #[c0, c1, c2, c3] 30)).alloc (.cells #[.int .i64 0, .slice none 0 0, .slice none 0 0, .slice none 0 0] 30)).alloc (.cells #[c0, c1, c2, c3] 30)) (w.heap.size + 2) c0 c1 c2 c3 := by simpa using Quad.new ((w.alloc (.cells #[c0, c1, c2, c3] 30)).alloc (.cells #[.int .i64 0, .slice none 0 0, .slice none 0 0, .slice none 0 0] 30)) c0 c1 c2 c3
  obtain ⟨m0, m1, m2, m3, -⟩ := q9.cells
  have hA1 : ArrAt (((w.alloc (.cells #[c0, c1, c2, c3] 30)).alloc (.cells #[.int .i64 0, .slice none 0 0, .slice none 0 0, .slice none 0 0] 30)).alloc (.cells #[c0, c1, c2, c3] 30)) (.agg #[.int .i64 3, .slice none 0 0, .slice none 0 0, .slice (some ⟨w.heap.size + 1 + 1, 0, none⟩) 1 1]) (.mk 3 [] [] [A]) :=
    arr_boxed (c0 := c0) (c1 := c1) (c2 := c2) (c3 := c3) ⟨m0, m1, m2, m3⟩ (h0.below bw) (by decide) (by decide)
  clear q9 m0 m1 m2 m3
  have q2 : Quad (((w.alloc (.cells #[c0, c1, c2, c3] 30)).alloc (.cells #[.int .i64 0, .slice none 0 0, .slice none 0 0, .slice none 0 0] 30)).alloc (.cells #[c0, c1, c2, c3] 30)) (w.heap.size + 1) (.int .i64 0) (.slice none 0 0) (.slice none 0 0) (.slice none 0 0) := by simpa using (Quad.new (w.alloc (.cells #[c0, c1, c2, c3] 30)) (.int .i64 0) (.slice none 0 0) (.slice none 0 0) (.slice none 0 0)).below (below_new _ (.cells #[c0, c1, c2, c3] 30))
  have HB : Hid ((((w.alloc (.cells #[c0, c1, c2, c3] 30)).alloc (.cells #[.int .i64 0, .slice none 0 0, .slice none 0 0, .slice none 0 0] 30)).alloc (.cells #[c0, c1, c2, c3] 30)).heap.size = w.heap.size + 3) := by unfold Hid; simp
  obtain ⟨k, rfl⟩ := hc0
  obtain ⟨sa, ls, sc, rfl⟩ := hc1
  obtain ⟨na, ln, nc, rfl⟩ := hc2
  obtain ⟨ia, li, ic, rfl⟩ := hc3
  go_enter Tryz.func149, Tryz.ntmps149
  go_wp2_with (go_at_call 155; refine (validN _ _ _ hA1 hr).mono ?_; intro e w2 hN; (obtain ⟨k', sa', ls', sc', na', ln', nc', ia', li', ic', rfl, hO, hb2⟩ := hN.form); (obtain ⟨s0, s1, s2, s3, s4, s5, s6, s7⟩ := (q2.below hb2).cells))
  have q3 := q2.below hb2
  have hb := HB.out
  have G := give_set4 (w := w) (R := w.heap.size + 1) (by omega) q3 (hO.mono fun g hg => by omega) (Below.then bw hb2)
  obtain ⟨QW, -⟩ := set4 q3 (.int .i64 k') (.slice sa' ls' sc') (.slice na' ln' nc') (.slice ia' li' ic')
  generalize ((((w2.setCell ⟨w.heap.size + 1, 0, none⟩ (.int .i64 k')).setCell ⟨w.heap.size + 1, 1, none⟩ (.slice sa' ls' sc')).setCell ⟨w.heap.size + 1, 2, none⟩ (.slice na' ln' nc')).setCell ⟨w.heap.size + 1, 3, none⟩ (.slice ia' li' ic')) = WW at QW G ⊢
  obtain ⟨z0, z1, z2, z3, -⟩ := QW.cells
  exact bodyPost_ret (v := .agg #[.int .i64 k', .slice sa' ls' sc', .slice na' ln' nc', .slice ia' li' ic']) (by simp [results, Tryz.results149, go_sem, z0, z1, z2, z3]) rfl G
end Go.Proofs.YtghmbmjikkdbnaaGreatDoor.Shape

namespace Go.Proofs.YtghmbmjikkdbnaaGreatDoor.Shape
open Go.RowKit
set_option linter.unusedVariables false
theorem valid_0 : validA (.mk 1 [] [0] []) = .mk 1 [] [0] [] := by kernel_rfl
theorem valid_v0 : validA (.mk 1 [0] [] []) = .mk 1 [0] [] [] := by kernel_rfl
theorem valid_b0 : validA (.mk 3 [] [] [.mk 1 [0] [] []]) = .mk 3 [] [] [.mk 1 [0] [] []] := by kernel_rfl
theorem scalar_0 (w : World) : Calls Tryz.prog 148 #[.int .i64 0] w (GiveNew (.mk 1 [] [0] []) w) := by
  have h := scalarN 0 w (by decide)
  rw [valid_0] at h
  exact h
theorem vector_0 (w : World) : Calls Tryz.prog 150 #[.slice none 0 0] w (GiveNew (.mk 1 [0] [] []) w) := by
  have h := vectorN none 0 [] w (ints_nil w) (by decide)
  rw [show (Arr.mk 1 [((([] : List Int).length : Nat) : Int)] [] []) = .mk 1 [0] [] [] from rfl, valid_v0] at h
  exact h
theorem box_0 {v : Value} {w : World} (h : ArrAt w v (.mk 1 [0] [] [])) : Calls Tryz.prog 149 #[v] w (GiveNew (.mk 3 [] [] [.mk 1 [0] [] []]) w) := by
  have h := boxN v _ w h (reach_plain (by decide) (by decide))
  rw [valid_b0] at h
  exact h
set_option maxRecDepth 100000 in
set_option maxHeartbeats 2000000 in
theorem fillN (v : Value) (A : Arr) (w : World) (h : ArrAt w v A) : Calls Tryz.prog 139 #[v] w (GiveNew (fillA A.kind) w) := by
  obtain ⟨k, sh, nu, it⟩ := A
  rw [ArrAt] at h
  obtain ⟨sa, sc, na, nc, ia, ic, rfl, hk, -⟩ := h
  have bw := below_two w (.cells #[.int .i64 k, .slice sa sh.length sc, .slice na nu.length nc, .slice ia it.length ic] 30) (.cells #[.int .i64 0, .slice none 0 0, .slice none 0 0, .slice none 0 0] 30)
  have q2 : Quad ((w.alloc (.cells #[.int .i64 k, .slice sa sh.length sc, .slice na nu.length nc, .slice ia it.length ic] 30)).alloc (.cells #[.int .i64 0, .slice none 0 0, .slice none 0 0, .slice none 0 0] 30)) (w.heap.size + 1) (.int .i64 0) (.slice none 0 0) (.slice none 0 0) (.slice none 0 0) := by simpa using Quad.new (w.alloc (.cells #[.int .i64 k, .slice sa sh.length sc, .slice na nu.length nc, .slice ia it.length ic] 30)) (.int .i64 0) (.slice none 0 0) (.slice none 0 0) (.slice none 0 0)
  have bz : Hid (((w.alloc (.cells #[.int .i64 k, .slice sa sh.length sc, .slice na nu.length nc, .slice ia it.length ic] 30)).alloc (.cells #[.int .i64 0, .slice none 0 0, .slice none 0 0, .slice none 0 0] 30)).heap.size = w.heap.size + 2) := by unfold Hid; simp
  by_cases k1 : k = 1
  · subst k1
    go_enter Tryz.func139, Tryz.ntmps139
    go_wp2_with (go_at_call 148; refine (scalar_0 _).mono ?_; intro e w2 hN; (obtain ⟨k', sa', ls', sc', na', ln', nc', ia', li', ic', rfl, hO, hb2⟩ := hN.form); (obtain ⟨s0, s1, s2, s3, s4, s5, s6, s7⟩ := (q2.below hb2).cells))
    have q3 := q2.below hb2
    have hb := bz.out
    have G := give_set4 (w := w) (R := w.heap.size + 1) (by omega) q3 (hO.mono fun g hg => by omega) (Below.then bw hb2)
    obtain ⟨QW, -⟩ := set4 q3 (.int .i64 k') (.slice sa' ls' sc') (.slice na' ln' nc') (.slice ia' li' ic')
    generalize ((((w2.setCell ⟨w.heap.size + 1, 0, none⟩ (.int .i64 k')).setCell ⟨w.heap.size + 1, 1, none⟩ (.slice sa' ls' sc')).setCell ⟨w.heap.size + 1, 2, none⟩ (.slice na' ln' nc')).setCell ⟨w.heap.size + 1, 3, none⟩ (.slice ia' li' ic')) = WW at QW G ⊢
    obtain ⟨z0, z1, z2, z3, -⟩ := QW.cells
    exact bodyPost_ret (v := .agg #[.int .i64 k', .slice sa' ls' sc', .slice na' ln' nc', .slice ia' li' ic']) (by simp [results, Tryz.results139, go_sem, z0, z1, z2, z3]) rfl G
  · by_cases k2 : k = 2
    · subst k2
      clear bw q2 bz
      go_enter Tryz.func139, Tryz.ntmps139
      go_wp2
      refine bodyPost_ret (v := .agg #[.int .i64 2, .slice none 0 0, .slice (some ⟨w.heap.size + 1 + 1, 0, none⟩) 1 1, .slice none 0 0]) (by simp [results, Tryz.results139, go_sem]) rfl (GiveNew.mk (A := .mk 2 [] [32] []) (one_on (by decide) (by decide) ?_ (by omega)) ?_)
      · rw [World.cell?_alloc_at _ _ _ _ (by simp)]; rfl
      · exact Below.then (below_new _ _) (Below.then (below_new _ _) (below_new _ _))
    · by_cases k3 : k = 3
      · subst k3
        go_enter Tryz.func139, Tryz.ntmps139
        go_wp2_with (first
          | (go_at_call 150; refine (vector_0 _).mono ?_; intro e w1 hV; (obtain ⟨vk, va, vl, vc, vna, vnl, vnc, via, vil, vic, rfl, hVO, hb1⟩ := hV.form))
          | (go_at_call 149; refine (box_0 hVO.at).mono ?_; intro e w2 hN; (obtain ⟨k', sa', ls', sc', na', ln', nc', ia', li', ic', rfl, hO, hb2⟩ := hN.form); (obtain ⟨s0, s1, s2, s3, s4, s5, s6, s7⟩ := ((q2.below hb1).below hb2).cells)))
        have q3 := (q2.below hb1).below hb2
        have hb := bz.out
        have hs1 := hb1.size
        have G := give_set4 (w := w) (R := w.heap.size + 1) (by omega) q3 (hO.mono fun g hg => by omega) (Below.then (Below.then bw hb1) hb2)
        obtain ⟨QW, -⟩ := set4 q3 (.int .i64 k') (.slice sa' ls' sc') (.slice na' ln' nc') (.slice ia' li' ic')
        generalize ((((w2.setCell ⟨w.heap.size + 1, 0, none⟩ (.int .i64 k')).setCell ⟨w.heap.size + 1, 1, none⟩ (.slice sa' ls' sc')).setCell ⟨w.heap.size + 1, 2, none⟩ (.slice na' ln' nc')).setCell ⟨w.heap.size + 1, 3, none⟩ (.slice ia' li' ic')) = WW at QW G ⊢
        obtain ⟨z0, z1, z2, z3, -⟩ := QW.cells
        exact bodyPost_ret (v := .agg #[.int .i64 k', .slice sa' ls' sc', .slice na' ln' nc', .slice ia' li' ic']) (by simp [results, Tryz.results139, go_sem, z0, z1, z2, z3]) rfl G
      · have e1 : (k == 1) = false := by simpa using k1
        have e2 : (k == 2) = false := by simpa using k2
        have e3 : (k == 3) = false := by simpa using k3
        have HE : Hid (fillA k = zeroA) := by unfold Hid; rw [fillA, if_neg k1, if_neg k2, if_neg k3]
        clear k1 k2 k3 bw q2 bz
        go_enter Tryz.func139, Tryz.ntmps139
        go_wp2
        refine bodyPost_ret (v := .agg #[.int .i64 0, .slice none 0 0, .slice none 0 0, .slice none 0 0]) (by simp [results, Tryz.results139, go_sem]) rfl ?_
        rw [show (Arr.mk k sh nu it).kind = k from rfl, HE.out]
        exact GiveNew.mk (zero_on _ _) (Below.then (below_new _ _) (below_new _ _))
end Go.Proofs.YtghmbmjikkdbnaaGreatDoor.Shape
