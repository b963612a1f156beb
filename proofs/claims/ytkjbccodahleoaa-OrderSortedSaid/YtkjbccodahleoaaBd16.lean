/-
  Layer 3: the program's copied: copies of lists, of ints and of arrays.
  Layer 3: what the loop of the program's Clone keeps.
  Layer 3: the program's Clone: its recursive closure.
  Layer 3: the program's Clone.
  Layer 3: the program's validCopy, Scalar, Vector, Box and Boxes. (Written by wip/gen/array-p8.py.)
  Layer 3: the program's Fill and At. (Written by wip/gen/array-p9.py.)
  Layer 3: the program's cycle: a list repeated cyclically.
  Layer 3: the program's Of. (Written by wip/gen/array-p12.py.)
  Layer 4: the program's Rank and block, and the reference's Rank.
  Layer 4: the program's block, of ints and of arrays. (Written by wip/gen/cell-block.py.)
  Layer 4: a part of a block, and what a copy into it leaves. (Written by wip/gen/cell-place.py.)
  Layer 4: arrays whose parts lie apart; what the loop of Clone keeps of that. (Written by wip/gen/cell-split.py.)
-/
import Derived.Test.YtkjbccodahleoaaBd14
import Derived.Test.YtkjbccodahleoaaBd15
import Derived.Laws.CopyOwn
import Derived.Laws.MakeOwn
import Derived.OwnWalk
import Derived.Deep.RegionHeldLaw
import Derived.Deep.RegionLaw
import Derived.Deep.RegionHeld
import Derived.Deep.RegionHeld3
import Derived.Deep.DeepCutAuto
import Derived.Test.YtkjbccodahleoaaBd13
import Derived.Test.YtkjbccodahleoaaBd7
import Derived.Test.YtkjbccodahleoaaBd2
namespace Go.Proofs.Ytkjbccodahleoaa.Shape
open Go.RowKit
set_option linter.unusedVariables false

/-- copy into a row that is known whole, for elements of any number of cells. -/
theorem run_copy_wide {P : Program} (w : World) (dT sT ty elem : TypeId) (g o dLen dCap : Nat) (a : Addr) (sLen sCap sz : Nat) (cur : Array Value) (t : TypeId) (cs : List Value)
    (hu : P.underlying dT = some (.slice elem)) (hs : (P.info? elem).map (·.size) = some sz)
    (hg : w.heap[g]? = some (.cells cur t (0, 0))) (hn : cs.length = Nat.min sLen dLen * sz)
    (hsrc : ∀ j v, cs[j]? = some v → w.cell? (a.add j) = some v) (hfit : o + cs.length ≤ cur.size) (h1 : ∀ v ∈ cs, v.oneCell' = true) :
    (Builtin.copy_ #[dT, sT] ty #[.slice (some ⟨g, o, none⟩) dLen dCap, .slice (some a) sLen sCap]).run P w =
      .ok (goInt (Nat.min sLen dLen)) (w.setRow g (cur.toList.take o ++ (cs ++ cur.toList.drop (o + cs.length))).toArray) := by
  have hl := run_loadCells_list (P := P) w a cs hsrc
  have hst := run_storeCells_at P g o t cs 0 cur w hg (by simpa using hfit) h1
  cases hq : P.info? elem with
  | none => simp [hq] at hs
  | some i =>
    have hi : i.size = sz := by simpa [hq] using hs
    rw [hn] at hl hst
    simp [Builtin.copy_, run_underlying hu, Builtin.lenOf, Builtin.firstCells, sizeOf, typeInfo, hq, hi, hl, hst, hn]
theorem wpList_copy_wide {P : Program} {w : World} {ops : Array Oper} {rest : List Oper} {o : Oper} {a : Act} {Q : Exit → Act → World → Prop} (hgd : o.guard = none) (d s : Operand) (dT sT : TypeId)
    (ho : o.op = .call { callee := .builtin .copy, args := #[d, s], argTypes := #[dT, sT] }) (elem : TypeId) (sz : Nat) (hu : P.underlying dT = some (.slice elem)) (hsz : (P.info? elem).map (·.size) = some sz)
    (g off dLen dCap : Nat) (ad : Addr) (sLen sCap : Nat) (hd : a.eval d = .slice (some ⟨g, off, none⟩) dLen dCap) (hs : a.eval s = .slice (some ad) sLen sCap)
    (cur : Array Value) (t : TypeId) (hg : w.heap[g]? = some (.cells cur t (0, 0))) (cs : List Value) (hn : cs.length = Nat.min sLen dLen * sz)
    (hsrc : ∀ j v, cs[j]? = some v → w.cell? (ad.add j) = some v) (hfit : off + cs.length ≤ cur.size) (h1 : ∀ v ∈ cs, v.oneCell' = true)
    (h : wpList P ops Q rest (a.put o.dst (goInt (Nat.min sLen dLen))) (w.setRow g (cur.toList.take off ++ (cs ++ cur.toList.drop (off + cs.length))).toArray)) : wpList P ops Q (o :: rest) a w := by
  refine wpList_plain hgd fun K hK => ?_
  have hrun := run_copy_wide (P := P) w dT sT o.type elem g off dLen dCap ad sLen sCap sz cur t cs hu hsz hg hn hsrc hfit h1
  unfold Oper.wp
  simp [execOp, ho, resolve, invoke, builtin, hd, hs, hrun, Result.andThen]
  exact hK _ _ h

/-- New, and no cell of it is frozen. -/
def Own (w w' : World) (g : Nat) : Prop := w.heap.size ≤ g ∧ Thaw w' g
theorem lt_of_heap {w : World} {g : Nat} {o : Obj} (h : w.heap[g]? = some o) : g < w.heap.size := by
  rcases Nat.lt_or_ge g w.heap.size with h1 | h1
  · exact h1
  · rw [Array.getElem?_eq_none h1] at h; cases h
theorem Thaw.lt {w : World} {g : Nat} (h : Thaw w g) : g < w.heap.size := by
  obtain ⟨cs, t, h⟩ := h
  exact lt_of_heap h
theorem Thaw.below {w w' : World} {g : Nat} (h : Thaw w g) (hb : Below w.heap.size w w') : Thaw w' g := by
  have hl := h.lt
  obtain ⟨cs, t, h⟩ := h
  exact ⟨cs, t, (hb.block g hl).trans h⟩
theorem sizeInt1 : (Try.prog.info? 3).map (·.size) = some 1 := by kernel_rfl
theorem sizeArr4 : (Try.prog.info? 26).map (·.size) = some 4 := by kernel_rfl
theorem infoArr' : (Try.prog.info? 26).map (fun i => (i.zero, i.size, i.bytes)) = some (some (.agg #[.int .i64 0, .slice none 0 0, .slice none 0 0, .slice none 0 0]), 4, 80) := by kernel_rfl
theorem setRow_whole {w : World} {g : Nat} {cur : Array Value} {t : TypeId} {cs : List Value} (hg : w.heap[g]? = some (.cells cur t (0, 0))) (hl : cs.length = cur.size) :
    (w.setRow g (cur.toList.take 0 ++ (cs ++ cur.toList.drop (0 + cs.length))).toArray).heap[g]? = some (.cells cs.toArray t (0, 0)) := by
  rw [setRow_heap w g cur _ t _ hg, List.take_zero, List.nil_append, List.drop_of_length_le (by simp [hl]), List.append_nil]
theorem below_row {w w' : World} {t : TypeId} {z : Array Value} {cs : Array Value} (hw : w' = (w.alloc (.cells z t)).setRow w.heap.size cs) : Below w.heap.size w w' := by
  subst hw
  exact below_setRow (below_new w _) (Nat.le_refl _) _
theorem run_makeInts (w : World) (n : Nat) (hn : n * 8 ≤ 140737488351232) : (Instr.makeSlice 23 (.int .i64 (n : Int)) (.int .i64 (n : Int))).run Try.prog w = .ok (.slice (some ⟨w.heap.size, 0, none⟩) n n) (w.alloc (.cells (madeCells #[.int .i64 0] n) 3)) := by
  obtain ⟨i0, hi, hz0, hz1, hz2⟩ := info_parts infoInt
  have := run_make (P := Try.prog) w 23 3 i0 _ Try.underlying23 hi hz0 .i64 .i64 n n (by omega) (Int.le_refl _) (by rw [hz2]; omega) (by omega)
  rw [hz1, Nat.mul_one] at this
  simp only [Int.toNat_natCast] at this
  exact this
theorem run_makeArrs (w : World) (n : Nat) (hn : n * 80 ≤ 140737488351232) : (Instr.makeSlice 24 (.int .i64 (n : Int)) (.int .i64 (n : Int))).run Try.prog w = .ok (.slice (some ⟨w.heap.size, 0, none⟩) n n) (w.alloc (.cells (madeCells #[.int .i64 0, .slice none 0 0, .slice none 0 0, .slice none 0 0] (n * 4)) 26)) := by
  obtain ⟨i0, hi, hz0, hz1, hz2⟩ := info_parts infoArr'
  have := run_make (P := Try.prog) w 24 26 i0 _ Try.underlying24 hi hz0 .i64 .i64 n n (by omega) (Int.le_refl _) (by rw [hz2]; omega) (by omega)
  rw [hz1] at this
  simp only [Int.toNat_natCast] at this
  exact this

def GiveInts (xs : List Int) (w : World) (e : Ending) (w' : World) : Prop := ∃ a c, e = .returned (.slice a xs.length c) ∧ IntsOn (Own w w') w' a c xs ∧ Below w.heap.size w w'
theorem GiveInts.nil {w : World} {e : Ending} (he : e = .returned (.slice none 0 0)) : GiveInts [] w e w := ⟨none, 0, he, ⟨⟨Nat.zero_le _, by decide, fun x hx => absurd hx (by simp), 0, 0, fun hn => absurd rfl hn, fun i hi => absurd hi (by simp)⟩, fun g => absurd rfl g⟩, Below.refl _ _⟩
theorem GiveInts.row {xs : List Int} {w w' : World} {e : Ending} {t : TypeId} {n c : Nat} (hn : n = xs.length) (hc : n ≤ c) (hc2 : c ≤ 9223372036854775807) (he : e = .returned (.slice (some ⟨w.heap.size, 0, none⟩) n c)) (hg : w'.heap[w.heap.size]? = some (.cells (xs.map (Value.int .i64)).toArray t (0, 0))) (hbd : ∀ x ∈ xs, -9223372036854775808 ≤ x ∧ x ≤ 9223372036854775807) (hb : Below w.heap.size w w') (ht : t ≠ 5 := by decide) : GiveInts xs w e w' := by
  subst hn
  refine ⟨_, c, he, ⟨⟨hc, hc2, hbd, w.heap.size, 0, fun _ => rfl, fun i hi => ?_⟩, fun _ ad e => by cases e; exact ⟨Nat.le_refl _, _, ⟨t, ht⟩, hg⟩⟩, hb⟩
  simp [World.cell?, hg, hi]

set_option maxHeartbeats 1000000 in
theorem copiedIQ (a : Option Addr) (cap : Nat) (xs : List Int) (w : World) (h : IntsAt w a cap xs) (hr : xs.length * 8 ≤ 140737488351232) :
    Calls Try.prog 63 #[.slice a xs.length cap] w (GiveInts xs w) := by
  have hl := h.len
  cases a with
  | none =>
    have hx : xs = [] := by
      obtain ⟨-, -, -, b, off, ha, -⟩ := h
      exact Classical.byContradiction fun g => by cases ha g
    subst hx
    have heq : ∀ (W : World) (n : Nat), (binOp .eql 23 (.slice none n cap) (.slice none 0 0)).run Try.prog W = .ok (.bool true) W := fun W _ => Lib.run_eql_slice_nil W _ _ _ _ _ _ _ Try.underlying23
    go_enter Try.func63, Try.ntmps63
    go_wp2_with fail
    go_ret
    exact GiveInts.nil rfl
  | some ad =>
    have hm := run_makeInts w xs.length hr
    have hsrc : ∀ W : World, Below w.heap.size w W → ∀ j v, (xs.map (Value.int .i64))[j]? = some v → W.cell? (ad.add j) = some v := by
      intro W hW j v hj
      have hjl : j < xs.length := by
        have := (List.getElem?_eq_some_iff.1 hj).1
        simpa using this
      obtain ⟨-, -, -, b, off, ha, hc⟩ := h
      have e := ha (by intro e; subst e; simp at hjl)
      cases e
      rw [add_plain, hW.cell (cell_lt (hc j hjl)), hc j hjl, ← hj, List.getElem?_map, List.getElem?_eq_getElem hjl]
      rfl
    have hbd := h.2.2.1
    clear h
    obtain ⟨W2, hW2, hg, hb⟩ : ∃ W2, (∀ ty, (Builtin.copy_ #[23, 23] ty #[.slice (some ⟨w.heap.size, 0, none⟩) xs.length xs.length, .slice (some ad) xs.length cap]).run Try.prog (w.alloc (.cells (madeCells #[.int .i64 0] xs.length) 3)) = .ok (goInt xs.length) W2) ∧ W2.heap[w.heap.size]? = some (.cells (xs.map (Value.int .i64)).toArray 3 (0, 0)) ∧ Below w.heap.size w W2 := by
      have hc := fun ty => run_copy_wide (P := Try.prog) (w.alloc (.cells (madeCells #[.int .i64 0] xs.length) 3)) 23 23 ty 3 w.heap.size 0 xs.length xs.length ad xs.length cap 1 (madeCells #[.int .i64 0] xs.length) 3 (xs.map (Value.int .i64)) Try.underlying23 sizeInt1 (heap_alloc_new w _) (by simp) (hsrc _ (below_new w _)) (by simp [size_madeCells]) (by intro u hu; obtain ⟨x, _, rfl⟩ := List.mem_map.1 hu; rfl)
      rw [show Nat.min xs.length xs.length = xs.length from Nat.min_self _] at hc
      exact ⟨_, hc, setRow_whole (heap_alloc_new w _) (by rw [size_madeCells, List.length_map]), below_row rfl⟩
    have heq : ∀ W : World, (binOp .eql 23 (.slice (some ad) xs.length cap) (.slice none 0 0)).run Try.prog W = .ok (.bool false) W := fun W => Lib.run_eql_slice_nil W _ _ _ _ _ _ _ Try.underlying23
    go_enter Try.func63, Try.ntmps63
    go_wp2_with fail
    go_ret
    exact GiveInts.row rfl (Nat.le_refl _) hl rfl hg hbd hb

/-- The cells of a list of arrays, and what each four of them are. -/
theorem arrs_quads {P : Nat → Prop} {w : World} {b : Nat} : ∀ {l : List Arr} {off : Nat}, ArrsOn P w b off l → ∃ qs : List Value, qs.length = l.length * 4 ∧ (∀ i (h : i < qs.length), w.cell? ⟨b, off + i, none⟩ = some qs[i]) ∧ Quads P w qs l ∧ ∀ u ∈ qs, u.oneCell' = true
  | [], off, _ => ⟨[], rfl, fun i h => absurd h (by simp), by rw [Quads]; trivial, by simp⟩
  | A :: r, off, h => by
    rw [ArrsOn] at h
    obtain ⟨⟨c0, c1, c2, c3, ⟨h0, h1, h2, h3⟩, hA⟩, hr⟩ := h
    obtain ⟨qs, q1, q2, q3, q4⟩ := arrs_quads hr
    refine ⟨c0 :: c1 :: c2 :: c3 :: qs, by simp only [List.length_cons, q1]; omega, fun i hi => ?_, by rw [Quads]; exact ⟨hA, q3⟩, ?_⟩
    · match i, hi with
      | 0, _ => exact h0
      | 1, _ => exact h1
      | 2, _ => exact h2
      | 3, _ => exact h3
      | i + 4, hi =>
        have := q2 i (by simpa using hi)
        rw [show off + (i + 4) = off + 4 + i by omega, this]
        rfl
    · obtain ⟨k, a1, n1, m1, a2, n2, m2, a3, n3, m3, rfl, rfl, rfl, rfl⟩ := hA.at.four
      intro u hu
      simp only [List.mem_cons] at hu
      rcases hu with rfl | rfl | rfl | rfl | hu
      · rfl
      · rfl
      · rfl
      · rfl
      · exact q4 u hu

/-- A new list whose items are still the old ones. -/
def GiveArrs (P : Nat → Prop) (l : List Arr) (w : World) (e : Ending) (w' : World) : Prop :=
  ∃ a c, e = .returned (.slice a l.length c) ∧ l.length ≤ c ∧ c ≤ 9223372036854775807 ∧ Below w.heap.size w w' ∧ (a = none → l = []) ∧
    ∀ ad, a = some ad → ∃ g qs, ad = ⟨g, 0, none⟩ ∧ w.heap.size ≤ g ∧ w'.heap[g]? = some (.cells qs.toArray 26 (0, 0)) ∧ qs.length = l.length * 4 ∧ Quads P w' qs l ∧ ∀ u ∈ qs, u.oneCell' = true

set_option maxHeartbeats 1000000 in
theorem copiedAQ (P : Nat → Prop) (a : Option Addr) (cap b off : Nat) (l : List Arr) (w : World) (hlc : l.length ≤ cap) (hc : cap ≤ 9223372036854775807) (ha : l ≠ [] → a = some ⟨b, off, none⟩) (h : ArrsOn P w b off l) (hr : l.length * 80 ≤ 140737488351232) :
    Calls Try.prog 64 #[.slice a l.length cap] w (GiveArrs P l w) := by
  have hl : l.length ≤ 9223372036854775807 := by omega
  cases a with
  | none =>
    have hx : l = [] := Classical.byContradiction fun g => by cases ha g
    subst hx
    have heq : ∀ (W : World) (n : Nat), (binOp .eql 24 (.slice none n cap) (.slice none 0 0)).run Try.prog W = .ok (.bool true) W := fun W _ => Lib.run_eql_slice_nil W _ _ _ _ _ _ _ Try.underlying24
    go_enter Try.func64, Try.ntmps64
    go_wp2_with fail
    go_ret
    exact ⟨none, 0, rfl, Nat.le_refl _, by decide, Below.refl _ _, fun _ => rfl, fun ad e => by cases e⟩
  | some ad =>
    have hm := run_makeArrs w l.length hr
    obtain ⟨qs, q1, q2, q3, q4⟩ := arrs_quads h
    have bn := below_new w (.cells (madeCells #[.int .i64 0, .slice none 0 0, .slice none 0 0, .slice none 0 0] (l.length * 4)) 26)
    have hsrc : ∀ j v, qs[j]? = some v → (w.alloc (.cells (madeCells #[.int .i64 0, .slice none 0 0, .slice none 0 0, .slice none 0 0] (l.length * 4)) 26)).cell? (ad.add j) = some v := by
      intro j v hj
      have hjl : j < qs.length := (List.getElem?_eq_some_iff.1 hj).1
      have e := ha (by intro e; subst e; simp at q1; subst q1; simp at hjl)
      cases e
      rw [add_plain, bn.cell (cell_lt (q2 j hjl)), q2 j hjl, ← hj, List.getElem?_eq_getElem hjl]
    obtain ⟨W2, hW2, hg, hb⟩ : ∃ W2, (∀ ty, (Builtin.copy_ #[24, 24] ty #[.slice (some ⟨w.heap.size, 0, none⟩) l.length l.length, .slice (some ad) l.length cap]).run Try.prog (w.alloc (.cells (madeCells #[.int .i64 0, .slice none 0 0, .slice none 0 0, .slice none 0 0] (l.length * 4)) 26)) = .ok (goInt l.length) W2) ∧ W2.heap[w.heap.size]? = some (.cells qs.toArray 26 (0, 0)) ∧ Below w.heap.size w W2 := by
      have hc := fun ty => run_copy_wide (P := Try.prog) (w.alloc (.cells (madeCells #[.int .i64 0, .slice none 0 0, .slice none 0 0, .slice none 0 0] (l.length * 4)) 26)) 24 24 ty 26 w.heap.size 0 l.length l.length ad l.length cap 4 (madeCells #[.int .i64 0, .slice none 0 0, .slice none 0 0, .slice none 0 0] (l.length * 4)) 26 qs Try.underlying24 sizeArr4 (heap_alloc_new w _) (by rw [q1]; simp) hsrc (by rw [size_madeCells, q1]; omega) q4
      rw [show Nat.min l.length l.length = l.length from Nat.min_self _] at hc
      exact ⟨_, hc, setRow_whole (heap_alloc_new w _) (by rw [size_madeCells, q1]), below_row rfl⟩
    have heq : ∀ W : World, (binOp .eql 24 (.slice (some ad) l.length cap) (.slice none 0 0)).run Try.prog W = .ok (.bool false) W := fun W => Lib.run_eql_slice_nil W _ _ _ _ _ _ _ Try.underlying24
    clear h ha hsrc bn
    go_enter Try.func64, Try.ntmps64
    go_wp2_with fail
    go_ret
    exact ⟨_, _, rfl, Nat.le_refl _, hl, hb, (fun e => by cases e), (fun ad e => by cases e; exact ⟨_, qs, rfl, Nat.le_refl _, hg, q1, q3.keep fun g hp hl => ⟨hp, fun _ => hb.cell hl⟩, q4⟩)⟩
end Go.Proofs.Ytkjbccodahleoaa.Shape

namespace Go.Proofs.Ytkjbccodahleoaa.Shape
open Go.RowKit
set_option linter.unusedVariables false

def isCl (w : World) (b : Nat) : Prop := w.cell? ⟨b, 0, none⟩ = some (.func (.func 62) #[] #[.pointer (some ⟨b, 0, none⟩)])
theorem isCl.below {w w' : World} {b : Nat} (h : isCl w b) (hb : Below w.heap.size w w') : isCl w' b := by
  unfold isCl at h ⊢
  exact (hb.cell (cell_lt h)).trans h
/-- A call that returns a new array in memory of which nothing is frozen. -/
def GiveOwn (A : Arr) (w : World) (e : Ending) (w' : World) : Prop :=
  ∃ k a1 n1 m1 a2 n2 m2 a3 n3 m3, e = .returned (.agg #[.int .i64 k, .slice a1 n1 m1, .slice a2 n2 m2, .slice a3 n3 m3]) ∧ ArrOn (Own w w') w' (.agg #[.int .i64 k, .slice a1 n1 m1, .slice a2 n2 m2, .slice a3 n3 m3]) A ∧ Below w.heap.size w w'
theorem ArrsOn.keep' {P R : Nat → Prop} {w w' : World} (hk : ∀ g, P g → g < w.heap.size → R g ∧ ∀ o, w'.cell? ⟨g, o, none⟩ = w.cell? ⟨g, o, none⟩) {b off : Nat} {l : List Arr} (hb : l ≠ [] → P b) (h : ArrsOn P w b off l) : ArrsOn R w' b off l := by
  cases l with
  | nil => rw [ArrsOn]; trivial
  | cons A r => exact h.keep hk (hb (by simp))
/-- New, not the row, and not frozen. -/
def Fresh (w : World) (G : Nat) (wr : World) (g : Nat) : Prop := w.heap.size + 2 ≤ g ∧ g ≠ G ∧ Thaw wr g
structure LInv (w wr : World) (G : Nat) (k : Int) (sh nu : List Int) (it : List Arr) (a1 a2 a3 : Option Addr) (c1 c2 c3 j : Nat) : Prop where
  par : Quad wr w.heap.size (.int .i64 k) (.slice a1 sh.length c1) (.slice a2 nu.length c2) (.slice a3 it.length c3)
  res : Quad wr (w.heap.size + 1) (.int .i64 0) (.slice none 0 0) (.slice none 0 0) (.slice none 0 0)
  i1 : IntsOn (Fresh w G wr) wr a1 c1 sh
  i2 : IntsOn (Fresh w G wr) wr a2 c2 nu
  row : it ≠ [] → ∃ done todo, wr.heap[G]? = some (.cells (done ++ todo).toArray 26 (0, 0)) ∧ done.length = j * 4 ∧ (∀ u ∈ done ++ todo, u.oneCell' = true) ∧ Quads (Fresh w G wr) wr done (it.take j) ∧ Quads (fun g => g < w.heap.size) wr todo (it.drop j)
  bel : Below w.heap.size w wr
theorem row_lt {w : World} {g : Nat} {o : Obj} (h : w.heap[g]? = some o) : g < w.heap.size := lt_of_heap h
theorem row_set {w : World} {G o : Nat} {cs : List Value} {t : TypeId} (h : w.heap[G]? = some (.cells cs.toArray t (0, 0))) (u : Value) : (w.setCell ⟨G, o, none⟩ u).heap[G]? = some (.cells (cs.set o u).toArray t (0, 0)) := by
  have hl := lt_of_heap h
  have h' : w.heap[G] = .cells cs.toArray t (0, 0) := by simpa [Array.getElem?_eq_getElem hl] using h
  show (w.heap.modify G _)[G]? = _
  rw [Array.getElem?_eq_getElem (by simpa using hl), Array.getElem_modify_self, h']
  simp
theorem row_set4 {w : World} {G p : Nat} {pre post : List Value} {d0 d1 d2 d3 : Value} {t : TypeId} (h : w.heap[G]? = some (.cells (pre ++ d0 :: d1 :: d2 :: d3 :: post).toArray t (0, 0))) (hp : pre.length = p) (e0 e1 e2 e3 : Value) :
    ((((w.setCell ⟨G, p, none⟩ e0).setCell ⟨G, p + 1, none⟩ e1).setCell ⟨G, p + 2, none⟩ e2).setCell ⟨G, p + 3, none⟩ e3).heap[G]? = some (.cells (pre ++ e0 :: e1 :: e2 :: e3 :: post).toArray t (0, 0)) := by
  subst hp
  rw [row_set (row_set (row_set (row_set h e0) e1) e2) e3]
  simp
theorem row_cells {w : World} {G p : Nat} {pre post : List Value} {d0 d1 d2 d3 : Value} {t : TypeId} (h : w.heap[G]? = some (.cells (pre ++ d0 :: d1 :: d2 :: d3 :: post).toArray t (0, 0))) (hp : pre.length = p) :
    w.cell? ⟨G, p, none⟩ = some d0 ∧ w.cell? ⟨G, p + 1, none⟩ = some d1 ∧ w.cell? ⟨G, p + 2, none⟩ = some d2 ∧ w.cell? ⟨G, p + 3, none⟩ = some d3 ∧
    w.frozen? ⟨G, p, none⟩ = false ∧ w.frozen? ⟨G, p + 1, none⟩ = false ∧ w.frozen? ⟨G, p + 2, none⟩ = false ∧ w.frozen? ⟨G, p + 3, none⟩ = false := by
  subst hp
  refine ⟨?_, ?_, ?_, ?_, ?_, ?_, ?_, ?_⟩ <;> simp [World.cell?, World.frozen?, h]
theorem quads_cons {P : Nat → Prop} {w : World} {qs : List Value} {A : Arr} {r : List Arr} (h : Quads P w qs (A :: r)) : ∃ c0 c1 c2 c3 q, qs = c0 :: c1 :: c2 :: c3 :: q ∧ ArrOn P w (.agg #[c0, c1, c2, c3]) A ∧ Quads P w q r := by
  match qs, h with
  | c0 :: c1 :: c2 :: c3 :: q, h => rw [Quads] at h; exact ⟨c0, c1, c2, c3, q, rfl, h.1, h.2⟩
  | [], h => simp [Quads] at h
  | [_], h => simp [Quads] at h
  | [_, _], h => simp [Quads] at h
  | [_, _, _], h => simp [Quads] at h
theorem quads_nil {P : Nat → Prop} {w : World} {qs : List Value} (h : Quads P w qs []) : qs = [] := by
  cases qs with
  | nil => rfl
  | cons c q => simp [Quads] at h
theorem set4_other {w : World} {G p : Nat} {e0 e1 e2 e3 : Value} (g : Nat) (h : g ≠ G) : ((((w.setCell ⟨G, p, none⟩ e0).setCell ⟨G, p + 1, none⟩ e1).setCell ⟨G, p + 2, none⟩ e2).setCell ⟨G, p + 3, none⟩ e3).heap[g]? = w.heap[g]? := by
  rw [set_other _ _ _ _ _ h, set_other _ _ _ _ _ h, set_other _ _ _ _ _ h, set_other _ _ _ _ _ h]
theorem thaw_of {w w' : World} {g : Nat} (h : Thaw w g) (e : w'.heap[g]? = w.heap[g]?) : Thaw w' g := by
  obtain ⟨cs, t, h⟩ := h
  exact ⟨cs, t, e.trans h⟩

/-- One item more. -/
theorem cl_step {w wr w3 : World} {G j : Nat} {k : Int} {sh nu : List Int} {it : List Arr} {a1 a2 a3 : Option Addr} {c1 c2 c3 : Nat} {done todo : List Value} {d0 d1 d2 d3 e0 e1 e2 e3 : Value}
    (hI : LInv w wr G k sh nu it a1 a2 a3 c1 c2 c3 j) (hG : w.heap.size + 2 ≤ G) (hj : j < it.length)
    (hrow : wr.heap[G]? = some (.cells (done ++ d0 :: d1 :: d2 :: d3 :: todo).toArray 26 (0, 0))) (hdl : done.length = j * 4) (hone : ∀ u ∈ done ++ d0 :: d1 :: d2 :: d3 :: todo, u.oneCell' = true)
    (hq1 : Quads (Fresh w G wr) wr done (it.take j)) (hq2 : Quads (fun g => g < w.heap.size) wr todo (it.drop (j + 1)))
    (hb : Below wr.heap.size wr w3) (hA : ArrOn (Own wr w3) w3 (.agg #[e0, e1, e2, e3]) it[j]) (hone' : ∀ u ∈ [e0, e1, e2, e3], u.oneCell' = true) (p : Nat) (hp : p = j * 4) :
    LInv w ((((w3.setCell ⟨G, p, none⟩ e0).setCell ⟨G, p + 1, none⟩ e1).setCell ⟨G, p + 2, none⟩ e2).setCell ⟨G, p + 3, none⟩ e3) G k sh nu it a1 a2 a3 c1 c2 c3 (j + 1) := by
  obtain ⟨par, res, i1, i2, -, bel⟩ := hI
  have hGl := lt_of_heap hrow
  have hrow3 : w3.heap[G]? = some (.cells (done ++ d0 :: d1 :: d2 :: d3 :: todo).toArray 26 (0, 0)) := (hb.block G hGl).trans hrow
  have hrow4 := row_set4 hrow3 (hdl.trans hp.symm) e0 e1 e2 e3
  have hoth := fun g (h : g ≠ G) => set4_other (w := w3) (p := p) (e0 := e0) (e1 := e1) (e2 := e2) (e3 := e3) g h
  have hbel : Below w.heap.size w ((((w3.setCell ⟨G, p, none⟩ e0).setCell ⟨G, p + 1, none⟩ e1).setCell ⟨G, p + 2, none⟩ e2).setCell ⟨G, p + 3, none⟩ e3) :=
    Below.setCell (Below.setCell (Below.setCell (Below.setCell (bel.trans (hb.mono bel.size)) (p := ⟨G, p, none⟩) (by show _ ≤ G; omega) _) (p := ⟨G, p + 1, none⟩) (by show _ ≤ G; omega) _) (p := ⟨G, p + 2, none⟩) (by show _ ≤ G; omega) _) (p := ⟨G, p + 3, none⟩) (by show _ ≤ G; omega) _
  generalize ((((w3.setCell ⟨G, p, none⟩ e0).setCell ⟨G, p + 1, none⟩ e1).setCell ⟨G, p + 2, none⟩ e2).setCell ⟨G, p + 3, none⟩ e3) = W4 at hrow4 hoth hbel ⊢
  have keepF : ∀ g, Fresh w G wr g → g < wr.heap.size → Fresh w G W4 g ∧ ∀ o, W4.cell? ⟨g, o, none⟩ = wr.cell? ⟨g, o, none⟩ := fun g hg hl =>
    have e : W4.heap[g]? = wr.heap[g]? := (hoth g hg.2.1).trans (hb.block g hl)
    ⟨⟨hg.1, hg.2.1, thaw_of hg.2.2 e⟩, fun o => World.cell?_of_block e⟩
  have keepO : ∀ g, g < w.heap.size → g < wr.heap.size → g < w.heap.size ∧ ∀ o, W4.cell? ⟨g, o, none⟩ = wr.cell? ⟨g, o, none⟩ := fun g hg hl =>
    ⟨hg, fun o => World.cell?_of_block ((hoth g (by omega)).trans (hb.block g hl))⟩
  have keepN : ∀ g, Own wr w3 g → g < w3.heap.size → Fresh w G W4 g ∧ ∀ o, W4.cell? ⟨g, o, none⟩ = w3.cell? ⟨g, o, none⟩ := fun g hg hl =>
    have h1 := hg.1
    have e : W4.heap[g]? = w3.heap[g]? := hoth g (by omega)
    ⟨⟨by omega, by omega, thaw_of hg.2 e⟩, fun o => World.cell?_of_block e⟩
  refine ⟨par.keep ((hoth _ (by omega)).trans (hb.block _ par.lt)), res.keep ((hoth _ (by omega)).trans (hb.block _ res.lt)), i1.keep keepF, i2.keep keepF, fun _ => ?_, hbel⟩
  refine ⟨done ++ [e0, e1, e2, e3], todo, ?_, by simp only [List.length_append, hdl, List.length_cons, List.length_nil]; omega, ?_, ?_, hq2.keep keepO⟩
  · rw [hrow4]; simp
  · intro u hu
    simp only [List.append_assoc, List.mem_append] at hu
    rcases hu with h | h | h
    · exact hone u (by simp [h])
    · exact hone' u h
    · exact hone u (by simp [h])
  · rw [List.take_succ_eq_append_getElem hj]
    exact (hq1.keep keepF).snoc (hA.keep keepN)

/-- The copy, whole. -/
theorem cl_end {w wr W : World} {G : Nat} {k : Int} {sh nu : List Int} {it : List Arr} {a1 a2 a3 : Option Addr} {c1 c2 c3 : Nat} (hI : LInv w wr G k sh nu it a1 a2 a3 c1 c2 c3 it.length) (hk : -9223372036854775808 ≤ k ∧ k ≤ 9223372036854775807) (hG : w.heap.size + 2 ≤ G)
    (h1 : it.length ≤ c3) (h2 : c3 ≤ 9223372036854775807) (h3 : it ≠ [] → a3 = some ⟨G, 0, none⟩) (hW : ∀ g, g ≠ w.heap.size + 1 → W.heap[g]? = wr.heap[g]?) :
    ArrOn (Own w W) W (.agg #[.int .i64 k, .slice a1 sh.length c1, .slice a2 nu.length c2, .slice a3 it.length c3]) (.mk k sh nu it) := by
  obtain ⟨par, res, i1, i2, row, bel⟩ := hI
  have keepF : ∀ g, Fresh w G wr g → g < wr.heap.size → Own w W g ∧ ∀ o, W.cell? ⟨g, o, none⟩ = wr.cell? ⟨g, o, none⟩ := fun g hg hl =>
    have h := hg.1
    have e : W.heap[g]? = wr.heap[g]? := hW g (by omega)
    ⟨⟨by omega, thaw_of hg.2.2 e⟩, fun o => World.cell?_of_block e⟩
  rw [ArrOn]
  refine ⟨a1, c1, a2, c2, a3, c3, rfl, hk, i1.keep keepF, i2.keep keepF, h1, h2, G, 0, fun hne => ?_, ?_⟩
  · obtain ⟨done, todo, hr, -⟩ := row hne
    exact ⟨h3 hne, by omega, ⟨_, ⟨_, by decide⟩, (hW G (by omega)).trans hr⟩⟩
  · cases it with
    | nil => rw [ArrsOn]; trivial
    | cons A r =>
      obtain ⟨done, todo, hr, hd, -, hq, hq2⟩ := row (by simp)
      rw [List.drop_length] at hq2
      obtain rfl := quads_nil hq2
      rw [List.take_length] at hq
      rw [List.append_nil] at hr
      refine (hq.keep keepF).arrs fun i hi => ?_
      have e : W.heap[G]? = _ := (hW G (by omega)).trans hr
      simp [World.cell?, e, hi]
theorem four_one {k : Int} {a1 a2 a3 : Option Addr} {n1 m1 n2 m2 n3 m3 : Nat} : ∀ u ∈ [Value.int .i64 k, .slice a1 n1 m1, .slice a2 n2 m2, .slice a3 n3 m3], u.oneCell' = true := by
  intro u hu
  simp only [List.mem_cons, List.not_mem_nil, or_false] at hu
  rcases hu with rfl | rfl | rfl | rfl <;> rfl

end Go.Proofs.Ytkjbccodahleoaa.Shape

namespace Go.Proofs.Ytkjbccodahleoaa.Shape
open Go.RowKit
set_option linter.unusedVariables false

set_option maxRecDepth 100000 in
set_option maxHeartbeats 4000000 in
theorem clQ_any (n : Nat) : ∀ (v : Value) (A : Arr) (w : World) (q : Nat), rk A ≤ n → ArrAt w v A → Reach A → isCl w q → Calls Try.prog 62 #[v, .pointer (some ⟨q, 0, none⟩)] w (GiveOwn A w) := by
  induction n with
  | zero =>
    intro v A w q hn _ _ _
    obtain ⟨k, sh, nu, it⟩ := A
    rw [rk] at hn; omega
  | succ n ih =>
    intro v A w q hn h hr hf
    obtain ⟨k, sh, nu, it⟩ := A
    have h' := h.on
    rw [ArrOn] at h'
    rw [Reach] at hr
    obtain ⟨r1, r2, r3, r4⟩ := hr
    obtain ⟨sa, sc, na, nc, ia, ic, rfl, hk, hs, hnn, h1, h2, b, off, ha, hc⟩ := h'
    have bw := below2 w (.cells #[.int .i64 k, .slice sa sh.length sc, .slice na nu.length nc, .slice ia it.length ic] 26) (.cells #[.int .i64 0, .slice none 0 0, .slice none 0 0, .slice none 0 0] 26)
    have q1 := (Quad.new w (.int .i64 k) (.slice sa sh.length sc) (.slice na nu.length nc) (.slice ia it.length ic)).below (below_new _ (.cells #[.int .i64 0, .slice none 0 0, .slice none 0 0, .slice none 0 0] 26))
    have q2 : Quad ((w.alloc (.cells #[.int .i64 k, .slice sa sh.length sc, .slice na nu.length nc, .slice ia it.length ic] 26)).alloc (.cells #[.int .i64 0, .slice none 0 0, .slice none 0 0, .slice none 0 0] 26)) (w.heap.size + 1) (.int .i64 0) (.slice none 0 0) (.slice none 0 0) (.slice none 0 0) := by simpa using Quad.new (w.alloc (.cells #[.int .i64 k, .slice sa sh.length sc, .slice na nu.length nc, .slice ia it.length ic] 26)) (.int .i64 0) (.slice none 0 0) (.slice none 0 0) (.slice none 0 0)
    have bz : ((w.alloc (.cells #[.int .i64 k, .slice sa sh.length sc, .slice na nu.length nc, .slice ia it.length ic] 26)).alloc (.cells #[.int .i64 0, .slice none 0 0, .slice none 0 0, .slice none 0 0] 26)).heap.size = w.heap.size + 2 := by simp
    go_enter Try.func62, Try.ntmps62
    go_upto_region 1 with fail
    generalize ((w.alloc (.cells #[.int .i64 k, .slice sa sh.length sc, .slice na nu.length nc, .slice ia it.length ic] 26)).alloc (.cells #[.int .i64 0, .slice none 0 0, .slice none 0 0, .slice none 0 0] 26)) = W0 at q1 q2 bw bz ⊢
    have BZ : Hid (W0.heap.size = w.heap.size + 2) := bz
    obtain ⟨d0, d1, d2, d3, d4, d5, d6, d7⟩ := q1.cells
    have CI := fun w' (hb : Below W0.heap.size W0 w') => copiedIQ sa sc sh w' ((hs.1.below bw).below hb) r1
    have CN := fun w' (hb : Below W0.heap.size W0 w') => copiedIQ na nc nu w' ((hnn.1.below bw).below hb) r2
    have CA := fun w' (hb : Below W0.heap.size W0 w') => copiedAQ (fun g => g < w.heap.size) ia ic b off it w' h1 h2 (fun g => (ha g).1) (hc.keep' (fun g hg _ => ⟨hg, fun _ => (Below.then bw hb).cell hg⟩) (fun g => (ha g).2)) r3
    clear bz
    go_cut [] (fun wx => ∃ (G : Nat) (a1 a2 a3 : Option Addr) (c1 c2 c3 : Nat), w.heap.size + 2 ≤ G ∧ LInv w wx G k sh nu it a1 a2 a3 c1 c2 c3 0 ∧ (it ≠ [] → a3 = some ⟨G, 0, none⟩) ∧ it.length ≤ c3 ∧ c3 ≤ 9223372036854775807)
    case first =>
      go_region_law ((first
        | (go_simp; (with_reducible refine (CI _ (Below.refl _ _).drew).mono ?_); rintro e w1 ⟨a1, c1, rfl, i1, b1⟩; (have e1 : Below W0.heap.size W0 w1 := Below.then (below_drew _) b1); (obtain ⟨f0, f1, f2, f3, f4, f5, f6, f7⟩ := (q1.below e1).cells))
        | (go_simp; (with_reducible refine (CN _ e1).mono ?_); rintro e w2 ⟨a2, c2, rfl, i2, b2⟩; (have e2 : Below W0.heap.size W0 w2 := Below.then e1 b2); (obtain ⟨g0, g1, g2, g3, g4, g5, g6, g7⟩ := (q1.below e2).cells))
        | (go_simp; (with_reducible refine (CA _ e2).mono ?_); rintro e w3 ⟨a3, c3, rfl, l1, l2, b3, n0, n1⟩; (have e3 : Below W0.heap.size W0 w3 := Below.then e2 b3); (obtain ⟨m0, m1, m2, m3, m4, m5, m6, m7⟩ := (q1.below e3).cells))))
      all_goals
        obtain ⟨G, hG, a3r⟩ : ∃ G, w2.heap.size ≤ G ∧ (it ≠ [] → a3 = some ⟨G, 0, none⟩ ∧ ∃ qs, w3.heap[G]? = some (.cells qs.toArray 26 (0, 0)) ∧ qs.length = it.length * 4 ∧ Quads (fun g => g < w.heap.size) w3 qs it ∧ ∀ u ∈ qs, u.oneCell' = true) := by
          cases a3 with
          | none => exact ⟨w2.heap.size, Nat.le_refl _, fun g => absurd (n0 rfl) g⟩
          | some ad =>
            obtain ⟨G, qs, rfl, x1, x2, x3, x4, x5⟩ := n1 ad rfl
            exact ⟨G, x1, fun _ => ⟨rfl, qs, x2, x3, x4, x5⟩⟩
        have zz := BZ.out
        have z1 := e1.size
        have z2 := b2.size
        have z3 := b3.size
        have hG2 : w.heap.size + 2 ≤ G := by omega
        have Q3 := ((((q1.below e3).set (.slice a1 sh.length c1)).2.1.set (.slice a2 nu.length c2)).2.2.1.set (.slice a3 it.length c3)).2.2.2
        have HO : ∀ g, g ≠ w.heap.size → (((w3.setCell ⟨w.heap.size, 1, none⟩ (.slice a1 sh.length c1)).setCell ⟨w.heap.size, 2, none⟩ (.slice a2 nu.length c2)).setCell ⟨w.heap.size, 3, none⟩ (.slice a3 it.length c3)).heap[g]? = w3.heap[g]? := fun g hg => by
          rw [set_other _ _ _ _ _ hg, set_other _ _ _ _ _ hg, set_other _ _ _ _ _ hg]
        have HB : Below w.heap.size w (((w3.setCell ⟨w.heap.size, 1, none⟩ (.slice a1 sh.length c1)).setCell ⟨w.heap.size, 2, none⟩ (.slice a2 nu.length c2)).setCell ⟨w.heap.size, 3, none⟩ (.slice a3 it.length c3)) :=
          Below.setCell (Below.setCell (Below.setCell (Below.then bw e3) (p := ⟨w.heap.size, 1, none⟩) (Nat.le_refl _) _) (p := ⟨w.heap.size, 2, none⟩) (Nat.le_refl _) _) (p := ⟨w.heap.size, 3, none⟩) (Nat.le_refl _) _
        generalize (((w3.setCell ⟨w.heap.size, 1, none⟩ (.slice a1 sh.length c1)).setCell ⟨w.heap.size, 2, none⟩ (.slice a2 nu.length c2)).setCell ⟨w.heap.size, 3, none⟩ (.slice a3 it.length c3)) = WA at Q3 HO HB ⊢
        have I0 : LInv w WA G k sh nu it a1 a2 a3 c1 c2 c3 0 := by
          refine ⟨Q3, (q2.below e3).keep (HO _ (by omega)), i1.keep fun g hg hl => ?_, i2.keep fun g hg hl => ?_, fun hne => ?_, HB⟩
          · have hg1 : W0.heap.size ≤ g := hg.1
            have e : WA.heap[g]? = w1.heap[g]? := (HO g (by omega)).trans ((Below.then b2 b3).block g hl)
            exact ⟨⟨by omega, by omega, thaw_of hg.2 e⟩, fun o => World.cell?_of_block e⟩
          · have hg1 := hg.1
            have e : WA.heap[g]? = w2.heap[g]? := (HO g (by omega)).trans (b3.block g hl)
            exact ⟨⟨by omega, by omega, thaw_of hg.2 e⟩, fun o => World.cell?_of_block e⟩
          · obtain ⟨-, qs, y1, y2, y3, y4⟩ := a3r hne
            exact ⟨[], qs, (HO G (by omega)).trans y1, by simp, y4, by rw [List.take_zero, Quads]; trivial, by rw [List.drop_zero]; exact y3.keep fun g hg hl => ⟨hg, fun o => World.cell?_of_block (HO g (by omega))⟩⟩
        go_wp2_with fail
        go_meet
        exact ⟨G, a1, a2, a3, c1, c2, c3, hG2, I0, (fun g => (a3r g).1), l1, l2⟩
    case rest =>
      obtain ⟨G, a1, a2, a3, c1, c2, c3, hG2, I0, ha3, l1, l2⟩ := hcut
      clear CI CN CA d0 d1 d2 d3 d4 d5 d6 d7 q1 q2
      obtain ⟨s0, s1, s2, s3, -⟩ := I0.par.cells
      go_wp2_with fail
      clear s0 s1 s2 s3
      go_loopw [21] (fun i wr => ∃ j : Nat, j ≤ it.length ∧ i = .int .i64 j ∧ LInv w wr G k sh nu it a1 a2 a3 c1 c2 c3 j) (fun i _ => it.length - (intOf i).toNat)
      case atStart => exact ⟨0, Nat.zero_le _, rfl, I0⟩
      case round =>
        obtain ⟨j, hj, rfl, hI⟩ := hrel
        clear I0
        by_cases hlt : j < it.length
        · have hne : it ≠ [] := by intro e; subst e; simp at hlt
          have hix := items_at (ic := c3) (n := it.length) rfl ha3 hlt
          obtain ⟨done, todo, hrow, hdl, hone, hq1, hq2⟩ := hI.row hne
          rw [List.drop_eq_getElem_cons hlt] at hq2
          obtain ⟨x0, x1, x2, x3, todo', rfl, hX, hq3⟩ := quads_cons hq2
          obtain ⟨ik, ia1, in1, im1, ia2, in2, im2, ia3, in3, im3, rfl, rfl, rfl, rfl⟩ := hX.at.four
          obtain ⟨y0, y1, y2, y3, -⟩ := row_cells hrow (p := j * 4) hdl
          have bI := below_new wr (.cells #[.int .i64 ik, .slice ia1 in1 im1, .slice ia2 in2 im2, .slice ia3 in3 im3] 26)
          have rI := (bI.block G (lt_of_heap hrow)).trans hrow
          have pI := hI.par.below bI
          have fI := (hf.below hI.bel).below bI
          have hK := ih _ _ (wr.alloc (.cells #[.int .i64 ik, .slice ia1 in1 im1, .slice ia2 in2 im2, .slice ia3 in3 im3] 26)).drew q (Nat.le_of_lt_succ (Nat.lt_of_lt_of_le (rk_item hlt) hn)) (hX.at.below bI).drew (r4.at hlt) fI
          unfold isCl at fI
          obtain ⟨o0, o1, o2, o3, o4⟩ := Par.new wr (.int .i64 ik) (.slice ia1 in1 im1) (.slice ia2 in2 im2) (.slice ia3 in3 im3) 26
          clear ih hne
          go_wp2_with fail
          generalize hWI : wr.alloc (.cells #[.int .i64 ik, .slice ia1 in1 im1, .slice ia2 in2 im2, .slice ia3 in3 im3] 26) = WI at bI rI pI fI hK o0 o1 o2 o3 o4 ⊢
          obtain ⟨p0, p1, p2, p3, -⟩ := pI.cells
          go_region_law ((first
            | (go_simp; (with_reducible refine hK.mono ?_); rintro e w4 ⟨ek, ea1, en1, em1, ea2, en2, em2, ea3, en3, em3, rfl, hO, b4⟩; (have b5 : Below WI.heap.size WI w4 := Below.then (below_drew _) b4); (obtain ⟨t0, t1, t2, t3, t4, t5, t6, t7⟩ := row_cells ((b5.block G (lt_of_heap rI)).trans rI) (p := j * 4) hdl); (obtain ⟨u0, u1, u2, u3, -⟩ := (pI.below b5).cells))))
          all_goals go_wp2_with fail
          all_goals go_roundw
          all_goals first
            | exact ⟨j + 1, by omega, by go_num, cl_step hI hG2 hlt hrow hdl hone hq1 hq3 (Below.then bI b5) (hO.mono fun g hg => ⟨Nat.le_trans bI.size hg.1, hg.2⟩) four_one (j * 4) rfl⟩
            | (simp [intOf]; omega)
        · obtain rfl : j = it.length := by omega
          obtain ⟨p0, p1, p2, p3, -⟩ := hI.par.cells
          obtain ⟨q0, q1, q2, q3, q4, q5, q6, q7⟩ := hI.res.cells
          go_wp2_with fail
          obtain ⟨QW, OW⟩ := set4 hI.res (.int .i64 k) (.slice a1 sh.length c1) (.slice a2 nu.length c2) (.slice a3 it.length c3)
          have BW := set4_below (w := wr) (B := w.heap.size) (b := w.heap.size + 1) (by omega) (.int .i64 k) (.slice a1 sh.length c1) (.slice a2 nu.length c2) (.slice a3 it.length c3)
          generalize ((((wr.setCell ⟨w.heap.size + 1, 0, none⟩ (.int .i64 k)).setCell ⟨w.heap.size + 1, 1, none⟩ (.slice a1 sh.length c1)).setCell ⟨w.heap.size + 1, 2, none⟩ (.slice a2 nu.length c2)).setCell ⟨w.heap.size + 1, 3, none⟩ (.slice a3 it.length c3)) = WW at QW OW BW ⊢
          obtain ⟨z0, z1, z2, z3, -⟩ := QW.cells
          exact bodyPost_ret (v := .agg #[.int .i64 k, .slice a1 sh.length c1, .slice a2 nu.length c2, .slice a3 it.length c3]) (by simp [results, Try.results62, go_sem, z0, z1, z2, z3]) rfl ⟨_, _, _, _, _, _, _, _, _, _, rfl, cl_end hI hk hG2 l1 l2 ha3 OW, hI.bel.trans BW⟩

end Go.Proofs.Ytkjbccodahleoaa.Shape

namespace Go.Proofs.Ytkjbccodahleoaa.Shape
open Go.RowKit
set_option linter.unusedVariables false

theorem isCl.new (W : World) (B : Nat) (ty : TypeId) (hB : B = W.heap.size) : isCl (W.alloc (.cells #[.func (.func 62) #[] #[.pointer (some ⟨B, 0, none⟩)]] ty)) B := by
  subst hB
  unfold isCl
  rw [World.cell?_alloc_new]
  rfl
/-- The array that the result's variable holds after its four stores, in memory of which nothing is frozen. -/
theorem own_set4 {w w1 w2 : World} {R : Nat} {A : Arr} {z0 z1 z2 z3 : Value} {k : Int} {a1 a2 a3 : Option Addr} {n1 m1 n2 m2 n3 m3 : Nat} (hR : w.heap.size ≤ R) (h1 : R < w1.heap.size) (hq : Quad w2 R z0 z1 z2 z3) (hO : ArrOn (Own w1 w2) w2 (.agg #[.int .i64 k, .slice a1 n1 m1, .slice a2 n2 m2, .slice a3 n3 m3]) A) (hb : Below w.heap.size w w2) :
    GiveOwn A w (.returned (.agg #[.int .i64 k, .slice a1 n1 m1, .slice a2 n2 m2, .slice a3 n3 m3])) ((((w2.setCell ⟨R, 0, none⟩ (.int .i64 k)).setCell ⟨R, 1, none⟩ (.slice a1 n1 m1)).setCell ⟨R, 2, none⟩ (.slice a2 n2 m2)).setCell ⟨R, 3, none⟩ (.slice a3 n3 m3)) := by
  obtain ⟨_, ho⟩ := set4 hq (.int .i64 k) (.slice a1 n1 m1) (.slice a2 n2 m2) (.slice a3 n3 m3)
  refine ⟨_, _, _, _, _, _, _, _, _, _, rfl, hO.keep fun g hp _ => ?_, hb.trans (set4_below hR _ _ _ _)⟩
  have h2 := hp.1
  have e := ho g (by omega)
  exact ⟨⟨by omega, thaw_of hp.2 e⟩, fun o => World.cell?_of_block e⟩

set_option maxRecDepth 100000 in
set_option maxHeartbeats 2000000 in
theorem cloneO (v : Value) (A : Arr) (w : World) (h : ArrAt w v A) (hr : Reach A) : Calls Try.prog 39 #[v] w (GiveOwn A w) := by
  have hmf : ∀ (fn : Fn) (first cap : Array Value) (w : World), (Instr.makeFunc fn first cap).run Try.prog w = .ok (.func fn first cap) w := fun _ _ _ _ => rfl
  have hA := h
  obtain ⟨k, sa, ls, sc, na, ln, nc, ia, li, ic, rfl⟩ : ∃ k sa ls sc na ln nc ia li ic, v = .agg #[.int .i64 k, .slice sa ls sc, .slice na ln nc, .slice ia li ic] := by
    obtain ⟨k, sh, nu, it⟩ := A
    rw [ArrAt] at h
    obtain ⟨sa, sc, na, nc, ia, ic, rfl, -⟩ := h
    exact ⟨_, _, _, _, _, _, _, _, _, _, rfl⟩
  have bw := below3 w (.cells #[.int .i64 k, .slice sa ls sc, .slice na ln nc, .slice ia li ic] 26) (.cells #[.int .i64 0, .slice none 0 0, .slice none 0 0, .slice none 0 0] 26) (.cells #[.func (.func 62) #[] #[.pointer (some ⟨w.heap.size + 1 + 1, 0, none⟩)]] 44)
  have q2 : Quad (((w.alloc (.cells #[.int .i64 k, .slice sa ls sc, .slice na ln nc, .slice ia li ic] 26)).alloc (.cells #[.int .i64 0, .slice none 0 0, .slice none 0 0, .slice none 0 0] 26)).alloc (.cells #[.func (.func 62) #[] #[.pointer (some ⟨w.heap.size + 1 + 1, 0, none⟩)]] 44)) (w.heap.size + 1) (.int .i64 0) (.slice none 0 0) (.slice none 0 0) (.slice none 0 0) :=
    Quad.below (below_new _ _) (by simpa using Quad.new (w.alloc (.cells #[.int .i64 k, .slice sa ls sc, .slice na ln nc, .slice ia li ic] 26)) (.int .i64 0) (.slice none 0 0) (.slice none 0 0) (.slice none 0 0))
  have hc := isCl.new ((w.alloc (.cells #[.int .i64 k, .slice sa ls sc, .slice na ln nc, .slice ia li ic] 26)).alloc (.cells #[.int .i64 0, .slice none 0 0, .slice none 0 0, .slice none 0 0] 26)) (w.heap.size + 1 + 1) 44 (by simp)
  have hz : Hid ((((w.alloc (.cells #[.int .i64 k, .slice sa ls sc, .slice na ln nc, .slice ia li ic] 26)).alloc (.cells #[.int .i64 0, .slice none 0 0, .slice none 0 0, .slice none 0 0] 26)).alloc (.cells #[.func (.func 62) #[] #[.pointer (some ⟨w.heap.size + 1 + 1, 0, none⟩)]] 44)).heap.size = w.heap.size + 3) := by unfold Hid; simp
  have K := clQ_any _ _ _ _ _ (Nat.le_refl _) (hA.below bw) hr hc
  go_enter Try.func39, Try.ntmps39
  go_wp2_with (go_at_call 62; refine K.mono ?_; rintro e w2 ⟨k', sa', ls', sc', na', ln', nc', ia', li', ic', rfl, hO, hb2⟩; (obtain ⟨s0, s1, s2, s3, s4, s5, s6, s7⟩ := (q2.below hb2).cells))
  have q3 := q2.below hb2
  have hb := hz.out
  have G := own_set4 (w := w) (R := w.heap.size + 1) (by omega) (by omega) q3 hO (Below.then bw hb2)
  obtain ⟨QW, -⟩ := set4 q3 (.int .i64 k') (.slice sa' ls' sc') (.slice na' ln' nc') (.slice ia' li' ic')
  generalize ((((w2.setCell ⟨w.heap.size + 1, 0, none⟩ (.int .i64 k')).setCell ⟨w.heap.size + 1, 1, none⟩ (.slice sa' ls' sc')).setCell ⟨w.heap.size + 1, 2, none⟩ (.slice na' ln' nc')).setCell ⟨w.heap.size + 1, 3, none⟩ (.slice ia' li' ic')) = WW at QW G ⊢
  obtain ⟨z0, z1, z2, z3, -⟩ := QW.cells
  exact bodyPost_ret (v := .agg #[.int .i64 k', .slice sa' ls' sc', .slice na' ln' nc', .slice ia' li' ic']) (by simp [results, Try.results39, go_sem, z0, z1, z2, z3]) rfl G
end Go.Proofs.Ytkjbccodahleoaa.Shape

namespace Go.Proofs.Ytkjbccodahleoaa.Shape
open Go.RowKit

theorem GiveOwn.new {A : Arr} {w w' : World} {e : Ending} (h : GiveOwn A w e w') : GiveNew A w e w' := by
  obtain ⟨k, a1, n1, m1, a2, n2, m2, a3, n3, m3, rfl, hO, hb⟩ := h
  exact GiveNew.mk (hO.mono fun g hg => hg.1) hb
theorem cloneN (v : Value) (A : Arr) (w : World) (h : ArrAt w v A) (hr : Reach A) : Calls Try.prog 39 #[v] w (GiveNew A w) := (cloneO v A w h hr).mono fun _ _ h => h.new
set_option maxRecDepth 100000 in
set_option maxHeartbeats 2000000 in
theorem validN (v : Value) (A : Arr) (w : World) (h : ArrAt w v A) (hr : Reach A) : Calls Try.prog 106 #[v] w (GiveNew (validA A) w) := by
  have hA := h
  obtain ⟨k, sa, ls, sc, na, ln, nc, ia, li, ic, rfl⟩ : ∃ k sa ls sc na ln nc ia li ic, v = .agg #[.int .i64 k, .slice sa ls sc, .slice na ln nc, .slice ia li ic] := by
    obtain ⟨k, sh, nu, it⟩ := A
    rw [ArrAt] at h
    obtain ⟨sa, sc, na, nc, ia, ic, rfl, -⟩ := h
    exact ⟨_, _, _, _, _, _, _, _, _, _, rfl⟩
  have bw := below_two w (.cells #[.int .i64 k, .slice sa ls sc, .slice na ln nc, .slice ia li ic] 26) (.cells #[.int .i64 0, .slice none 0 0, .slice none 0 0, .slice none 0 0] 26)
  have hA1 := hA.below bw
  have q1 := (Quad.new w (.int .i64 k) (.slice sa ls sc) (.slice na ln nc) (.slice ia li ic)).below (below_new _ (.cells #[.int .i64 0, .slice none 0 0, .slice none 0 0, .slice none 0 0] 26))
  have q2 : Quad ((w.alloc (.cells #[.int .i64 k, .slice sa ls sc, .slice na ln nc, .slice ia li ic] 26)).alloc (.cells #[.int .i64 0, .slice none 0 0, .slice none 0 0, .slice none 0 0] 26)) (w.heap.size + 1) (.int .i64 0) (.slice none 0 0) (.slice none 0 0) (.slice none 0 0) := by
    simpa using Quad.new (w.alloc (.cells #[.int .i64 k, .slice sa ls sc, .slice na ln nc, .slice ia li ic] 26)) (.int .i64 0) (.slice none 0 0) (.slice none 0 0) (.slice none 0 0)
  have bz : ((w.alloc (.cells #[.int .i64 k, .slice sa ls sc, .slice na ln nc, .slice ia li ic] 26)).alloc (.cells #[.int .i64 0, .slice none 0 0, .slice none 0 0, .slice none 0 0] 26)).heap.size = w.heap.size + 2 := by simp
  obtain ⟨x, hx⟩ : ∃ x, rightE A = x := ⟨_, rfl⟩
  have R := fun v' w' (g : ArrAt w' v' A) => rightQ v' A w' g
  rw [hx] at R
  have B := bz
  clear bz
  by_cases hz : x = 0
  · subst hz
    have HV : Hid (validA A = A) := by unfold Hid; rw [validA, if_pos hx]
    clear hx
    have HB : Hid _ := B
    clear B
    go_enter Try.func106, Try.ntmps106
    go_wp2_with (first
      | (go_at_call 34; refine (R _ _ hA1).mono ?_; rintro e w1 ⟨rfl, hb1⟩; (obtain ⟨p0, p1, p2, p3, -⟩ := (q1.below hb1).cells))
      | (go_at_call 39; refine (cloneN _ _ _ (hA1.below hb1) hr).mono ?_; intro e w2 hN; (obtain ⟨k', sa', ls', sc', na', ln', nc', ia', li', ic', rfl, hO, hb2⟩ := hN.form); (obtain ⟨s0, s1, s2, s3, s4, s5, s6, s7⟩ := ((q2.below hb1).below hb2).cells)))
    have q3 := (q2.below hb1).below hb2
    have hb := HB.out
    have hs1 := hb1.size
    have G := give_set4 (Nat.le_succ w.heap.size) q3 (hO.mono fun g hg => by omega) (Below.then (Below.then bw hb1) hb2)
    obtain ⟨QW, -⟩ := set4 q3 (.int .i64 k') (.slice sa' ls' sc') (.slice na' ln' nc') (.slice ia' li' ic')
    generalize ((((w2.setCell ⟨w.heap.size + 1, 0, none⟩ (.int .i64 k')).setCell ⟨w.heap.size + 1, 1, none⟩ (.slice sa' ls' sc')).setCell ⟨w.heap.size + 1, 2, none⟩ (.slice na' ln' nc')).setCell ⟨w.heap.size + 1, 3, none⟩ (.slice ia' li' ic')) = WW at QW G ⊢
    obtain ⟨z0, z1, z2, z3, -⟩ := QW.cells
    rw [HV.out]
    exact bodyPost_ret (v := .agg #[.int .i64 k', .slice sa' ls' sc', .slice na' ln' nc', .slice ia' li' ic']) (by simp [results, Try.results106, go_sem, z0, z1, z2, z3]) rfl G
  · have e1 : (x == 0) = false := by simpa using hz
    have e2 : (x != 0) = true := by simpa using hz
    have HV : Hid (validA A = zeroA) := by unfold Hid; rw [validA, hx, if_neg hz]
    clear hx hz B
    go_enter Try.func106, Try.ntmps106
    go_wp2_with (first
      | (go_at_call 34; refine (R _ _ hA1).mono ?_; rintro e w1 ⟨rfl, hb1⟩; (obtain ⟨s0, s1, s2, s3, s4, s5, s6, s7⟩ := (q2.below hb1).cells)))
    have q3 := q2.below hb1
    have G := give_set4 (Nat.le_succ w.heap.size) q3 (zero_on _ _) (Below.then bw hb1)
    obtain ⟨QW, -⟩ := set4 q3 (.int .i64 0) (.slice none 0 0) (.slice none 0 0) (.slice none 0 0)
    generalize ((((w1.setCell ⟨w.heap.size + 1, 0, none⟩ (.int .i64 0)).setCell ⟨w.heap.size + 1, 1, none⟩ (.slice none 0 0)).setCell ⟨w.heap.size + 1, 2, none⟩ (.slice none 0 0)).setCell ⟨w.heap.size + 1, 3, none⟩ (.slice none 0 0)) = WW at QW G ⊢
    obtain ⟨z0, z1, z2, z3, -⟩ := QW.cells
    rw [HV.out]
    exact bodyPost_ret (v := .agg #[.int .i64 0, .slice none 0 0, .slice none 0 0, .slice none 0 0]) (by simp [results, Try.results106, go_sem, z0, z1, z2, z3]) rfl G

set_option maxRecDepth 100000 in
set_option maxHeartbeats 2000000 in
theorem scalarN (n : Int) (w : World) (hn : -9223372036854775808 ≤ n ∧ n ≤ 9223372036854775807) : Calls Try.prog 102 #[.int .i64 n] w (GiveNew (validA (.mk 1 [] [n] [])) w) := by
  have bw := below_two w (.cells #[.int .i64 0, .slice none 0 0, .slice none 0 0, .slice none 0 0] 26) (.cells #[.int .i64 n] 3)
  have hr : Reach (.mk 1 [] [n] []) := reach_plain (by simp) (by simp)
  have hA1 : ArrAt ((w.alloc (.cells #[.int .i64 0, .slice none 0 0, .slice none 0 0, .slice none 0 0] 26)).alloc (.cells #[.int .i64 n] 3)) (.agg #[.int .i64 1, .slice none 0 0, .slice (some ⟨w.heap.size + 1, 0, none⟩) 1 1, .slice none 0 0]) (.mk 1 [] [n] []) :=
    arr_plain (by decide) rfl rfl (ints_nil _) (ints_one _ _ _ _ hn (by rw [World.cell?_alloc_at _ _ _ _ (by simp)]; rfl) (by decide) (by decide))
  have q2 := (Quad.new w (.int .i64 0) (.slice none 0 0) (.slice none 0 0) (.slice none 0 0)).below (below_new _ (.cells #[.int .i64 n] 3))
  have HB : Hid (((w.alloc (.cells #[.int .i64 0, .slice none 0 0, .slice none 0 0, .slice none 0 0] 26)).alloc (.cells #[.int .i64 n] 3)).heap.size = w.heap.size + 2) := by unfold Hid; simp
  go_enter Try.func102, Try.ntmps102
  go_wp2_with (go_at_call 106; refine (validN _ _ _ hA1 hr).mono ?_; intro e w2 hN; (obtain ⟨k', sa', ls', sc', na', ln', nc', ia', li', ic', rfl, hO, hb2⟩ := hN.form); (obtain ⟨s0, s1, s2, s3, s4, s5, s6, s7⟩ := (q2.below hb2).cells))
  have q3 := q2.below hb2
  have hb := HB.out
  have G := give_set4 (w := w) (R := w.heap.size) (by omega) q3 (hO.mono fun g hg => by omega) (Below.then bw hb2)
  obtain ⟨QW, -⟩ := set4 q3 (.int .i64 k') (.slice sa' ls' sc') (.slice na' ln' nc') (.slice ia' li' ic')
  generalize ((((w2.setCell ⟨w.heap.size, 0, none⟩ (.int .i64 k')).setCell ⟨w.heap.size, 1, none⟩ (.slice sa' ls' sc')).setCell ⟨w.heap.size, 2, none⟩ (.slice na' ln' nc')).setCell ⟨w.heap.size, 3, none⟩ (.slice ia' li' ic')) = WW at QW G ⊢
  obtain ⟨z0, z1, z2, z3, -⟩ := QW.cells
  exact bodyPost_ret (v := .agg #[.int .i64 k', .slice sa' ls' sc', .slice na' ln' nc', .slice ia' li' ic']) (by simp [results, Try.results102, go_sem, z0, z1, z2, z3]) rfl G



set_option maxRecDepth 100000 in
set_option maxHeartbeats 2000000 in
theorem vectorN (a : Option Addr) (c : Nat) (xs : List Int) (w : World) (h : IntsAt w a c xs) (hx : xs.length * 8 ≤ 140737488351232) :
    Calls Try.prog 104 #[.slice a xs.length c] w (GiveNew (validA (.mk 1 [(xs.length : Int)] xs [])) w) := by
  have hnb := nat_bd h.len
  have bw := below_two w (.cells #[.int .i64 0, .slice none 0 0, .slice none 0 0, .slice none 0 0] 26) (.cells #[.int .i64 (xs.length : Int)] 3)
  have hr : Reach (.mk 1 [(xs.length : Int)] xs []) := reach_plain (by simp) hx
  have hA1 : ArrAt ((w.alloc (.cells #[.int .i64 0, .slice none 0 0, .slice none 0 0, .slice none 0 0] 26)).alloc (.cells #[.int .i64 (xs.length : Int)] 3)) (.agg #[.int .i64 1, .slice (some ⟨w.heap.size + 1, 0, none⟩) 1 1, .slice a xs.length c, .slice none 0 0]) (.mk 1 [(xs.length : Int)] xs []) :=
    arr_plain (by decide) rfl rfl (ints_one _ _ _ _ hnb (by rw [World.cell?_alloc_at _ _ _ _ (by simp)]; rfl) (by decide) (by decide)) (h.below bw)
  have q2 := (Quad.new w (.int .i64 0) (.slice none 0 0) (.slice none 0 0) (.slice none 0 0)).below (below_new _ (.cells #[.int .i64 (xs.length : Int)] 3))
  have HB : Hid (((w.alloc (.cells #[.int .i64 0, .slice none 0 0, .slice none 0 0, .slice none 0 0] 26)).alloc (.cells #[.int .i64 (xs.length : Int)] 3)).heap.size = w.heap.size + 2) := by unfold Hid; simp
  go_enter Try.func104, Try.ntmps104
  go_wp2_with (go_at_call 106; refine (validN _ _ _ hA1 hr).mono ?_; intro e w2 hN; (obtain ⟨k', sa', ls', sc', na', ln', nc', ia', li', ic', rfl, hO, hb2⟩ := hN.form); (obtain ⟨s0, s1, s2, s3, s4, s5, s6, s7⟩ := (q2.below hb2).cells))
  have q3 := q2.below hb2
  have hb := HB.out
  have G := give_set4 (w := w) (R := w.heap.size) (by omega) q3 (hO.mono fun g hg => by omega) (Below.then bw hb2)
  obtain ⟨QW, -⟩ := set4 q3 (.int .i64 k') (.slice sa' ls' sc') (.slice na' ln' nc') (.slice ia' li' ic')
  generalize ((((w2.setCell ⟨w.heap.size, 0, none⟩ (.int .i64 k')).setCell ⟨w.heap.size, 1, none⟩ (.slice sa' ls' sc')).setCell ⟨w.heap.size, 2, none⟩ (.slice na' ln' nc')).setCell ⟨w.heap.size, 3, none⟩ (.slice ia' li' ic')) = WW at QW G ⊢
  obtain ⟨z0, z1, z2, z3, -⟩ := QW.cells
  exact bodyPost_ret (v := .agg #[.int .i64 k', .slice sa' ls' sc', .slice na' ln' nc', .slice ia' li' ic']) (by simp [results, Try.results104, go_sem, z0, z1, z2, z3]) rfl G



set_option maxRecDepth 100000 in
set_option maxHeartbeats 2000000 in
theorem boxN (v : Value) (A : Arr) (w : World) (h : ArrAt w v A) (hA : Reach A) : Calls Try.prog 103 #[v] w (GiveNew (validA (.mk 3 [] [] [A])) w) := by
  have h0 := h
  obtain ⟨c0, c1, c2, c3, rfl, hc0, hc1, hc2, hc3⟩ : ∃ c0 c1 c2 c3 : Value, v = .agg #[c0, c1, c2, c3] ∧ (∃ k, c0 = .int .i64 k) ∧ (∃ a n c, c1 = .slice a n c) ∧ (∃ a n c, c2 = .slice a n c) ∧ (∃ a n c, c3 = .slice a n c) := by
    obtain ⟨k, sh, nu, it⟩ := A
    rw [ArrAt] at h
    obtain ⟨sa, sc, na, nc, ia, ic, rfl, -⟩ := h
    exact ⟨_, _, _, _, rfl, ⟨_, rfl⟩, ⟨_, _, _, rfl⟩, ⟨_, _, _, rfl⟩, ⟨_, _, _, rfl⟩⟩
  clear h
  have bw := below_three w (.cells #[c0, c1, c2, c3] 26) (.cells #[.int .i64 0, .slice none 0 0, .slice none 0 0, .slice none 0 0] 26) (.cells #[c0, c1, c2, c3] 26)
  have hr : Reach (.mk 3 [] [] [A]) := by rw [Reach]; exact ⟨by simp, by simp, by simp, by rw [ReachL, ReachL]; exact ⟨hA, trivial⟩⟩
  have q9 : Quad (((w.alloc (.cells #[c0, c1, c2, c3] 26)).alloc (.cells #[.int .i64 0, .slice none 0 0, .slice none 0 0, .slice none 0 0] 26)).alloc (.cells #[c0, c1, c2, c3] 26)) (w.heap.size + 2) c0 c1 c2 c3 := by simpa using Quad.new ((w.alloc (.cells #[c0, c1, c2, c3] 26)).alloc (.cells #[.int .i64 0, .slice none 0 0, .slice none 0 0, .slice none 0 0] 26)) c0 c1 c2 c3
  obtain ⟨m0, m1, m2, m3, -⟩ := q9.cells
  have hA1 : ArrAt (((w.alloc (.cells #[c0, c1, c2, c3] 26)).alloc (.cells #[.int .i64 0, .slice none 0 0, .slice none 0 0, .slice none 0 0] 26)).alloc (.cells #[c0, c1, c2, c3] 26)) (.agg #[.int .i64 3, .slice none 0 0, .slice none 0 0, .slice (some ⟨w.heap.size + 1 + 1, 0, none⟩) 1 1]) (.mk 3 [] [] [A]) :=
    arr_boxed (c0 := c0) (c1 := c1) (c2 := c2) (c3 := c3) ⟨m0, m1, m2, m3⟩ (h0.below bw) (by decide) (by decide)
  clear q9 m0 m1 m2 m3
  have q2 : Quad (((w.alloc (.cells #[c0, c1, c2, c3] 26)).alloc (.cells #[.int .i64 0, .slice none 0 0, .slice none 0 0, .slice none 0 0] 26)).alloc (.cells #[c0, c1, c2, c3] 26)) (w.heap.size + 1) (.int .i64 0) (.slice none 0 0) (.slice none 0 0) (.slice none 0 0) := by simpa using (Quad.new (w.alloc (.cells #[c0, c1, c2, c3] 26)) (.int .i64 0) (.slice none 0 0) (.slice none 0 0) (.slice none 0 0)).below (below_new _ (.cells #[c0, c1, c2, c3] 26))
  have HB : Hid ((((w.alloc (.cells #[c0, c1, c2, c3] 26)).alloc (.cells #[.int .i64 0, .slice none 0 0, .slice none 0 0, .slice none 0 0] 26)).alloc (.cells #[c0, c1, c2, c3] 26)).heap.size = w.heap.size + 3) := by unfold Hid; simp
  obtain ⟨k, rfl⟩ := hc0
  obtain ⟨sa, ls, sc, rfl⟩ := hc1
  obtain ⟨na, ln, nc, rfl⟩ := hc2
  obtain ⟨ia, li, ic, rfl⟩ := hc3
  go_enter Try.func103, Try.ntmps103
  go_wp2_with (go_at_call 106; refine (validN _ _ _ hA1 hr).mono ?_; intro e w2 hN; (obtain ⟨k', sa', ls', sc', na', ln', nc', ia', li', ic', rfl, hO, hb2⟩ := hN.form); (obtain ⟨s0, s1, s2, s3, s4, s5, s6, s7⟩ := (q2.below hb2).cells))
  have q3 := q2.below hb2
  have hb := HB.out
  have G := give_set4 (w := w) (R := w.heap.size + 1) (by omega) q3 (hO.mono fun g hg => by omega) (Below.then bw hb2)
  obtain ⟨QW, -⟩ := set4 q3 (.int .i64 k') (.slice sa' ls' sc') (.slice na' ln' nc') (.slice ia' li' ic')
  generalize ((((w2.setCell ⟨w.heap.size + 1, 0, none⟩ (.int .i64 k')).setCell ⟨w.heap.size + 1, 1, none⟩ (.slice sa' ls' sc')).setCell ⟨w.heap.size + 1, 2, none⟩ (.slice na' ln' nc')).setCell ⟨w.heap.size + 1, 3, none⟩ (.slice ia' li' ic')) = WW at QW G ⊢
  obtain ⟨z0, z1, z2, z3, -⟩ := QW.cells
  exact bodyPost_ret (v := .agg #[.int .i64 k', .slice sa' ls' sc', .slice na' ln' nc', .slice ia' li' ic']) (by simp [results, Try.results103, go_sem, z0, z1, z2, z3]) rfl G



end Go.Proofs.Ytkjbccodahleoaa.Shape

namespace Go.Proofs.Ytkjbccodahleoaa.Shape
open Go.RowKit
set_option linter.unusedVariables false

theorem valid_0 : validA (.mk 1 [] [0] []) = .mk 1 [] [0] [] := by kernel_rfl
theorem valid_v0 : validA (.mk 1 [0] [] []) = .mk 1 [0] [] [] := by kernel_rfl
theorem valid_b0 : validA (.mk 3 [] [] [.mk 1 [0] [] []]) = .mk 3 [] [] [.mk 1 [0] [] []] := by kernel_rfl
theorem scalar_0 (w : World) : Calls Try.prog 102 #[.int .i64 0] w (GiveNew (.mk 1 [] [0] []) w) := by
  have h := scalarN 0 w (by decide)
  rw [valid_0] at h
  exact h
theorem vector_0 (w : World) : Calls Try.prog 104 #[.slice none 0 0] w (GiveNew (.mk 1 [0] [] []) w) := by
  have h := vectorN none 0 [] w (ints_nil w) (by decide)
  rw [show (Arr.mk 1 [((([] : List Int).length : Nat) : Int)] [] []) = .mk 1 [0] [] [] from rfl, valid_v0] at h
  exact h
theorem box_0 {v : Value} {w : World} (h : ArrAt w v (.mk 1 [0] [] [])) : Calls Try.prog 103 #[v] w (GiveNew (.mk 3 [] [] [.mk 1 [0] [] []]) w) := by
  have h := boxN v _ w h (reach_plain (by decide) (by decide))
  rw [valid_b0] at h
  exact h

set_option maxRecDepth 100000 in
set_option maxHeartbeats 2000000 in
theorem fillN (v : Value) (A : Arr) (w : World) (h : ArrAt w v A) : Calls Try.prog 94 #[v] w (GiveNew (fillA A.kind) w) := by
  obtain ⟨k, sh, nu, it⟩ := A
  rw [ArrAt] at h
  obtain ⟨sa, sc, na, nc, ia, ic, rfl, hk, -⟩ := h
  have bw := below_two w (.cells #[.int .i64 k, .slice sa sh.length sc, .slice na nu.length nc, .slice ia it.length ic] 26) (.cells #[.int .i64 0, .slice none 0 0, .slice none 0 0, .slice none 0 0] 26)
  have q2 : Quad ((w.alloc (.cells #[.int .i64 k, .slice sa sh.length sc, .slice na nu.length nc, .slice ia it.length ic] 26)).alloc (.cells #[.int .i64 0, .slice none 0 0, .slice none 0 0, .slice none 0 0] 26)) (w.heap.size + 1) (.int .i64 0) (.slice none 0 0) (.slice none 0 0) (.slice none 0 0) := by simpa using Quad.new (w.alloc (.cells #[.int .i64 k, .slice sa sh.length sc, .slice na nu.length nc, .slice ia it.length ic] 26)) (.int .i64 0) (.slice none 0 0) (.slice none 0 0) (.slice none 0 0)
  have bz : Hid (((w.alloc (.cells #[.int .i64 k, .slice sa sh.length sc, .slice na nu.length nc, .slice ia it.length ic] 26)).alloc (.cells #[.int .i64 0, .slice none 0 0, .slice none 0 0, .slice none 0 0] 26)).heap.size = w.heap.size + 2) := by unfold Hid; simp
  by_cases k1 : k = 1
  · subst k1
    go_enter Try.func94, Try.ntmps94
    go_wp2_with (go_at_call 102; refine (scalar_0 _).mono ?_; intro e w2 hN; (obtain ⟨k', sa', ls', sc', na', ln', nc', ia', li', ic', rfl, hO, hb2⟩ := hN.form); (obtain ⟨s0, s1, s2, s3, s4, s5, s6, s7⟩ := (q2.below hb2).cells))
    have q3 := q2.below hb2
    have hb := bz.out
    have G := give_set4 (w := w) (R := w.heap.size + 1) (by omega) q3 (hO.mono fun g hg => by omega) (Below.then bw hb2)
    obtain ⟨QW, -⟩ := set4 q3 (.int .i64 k') (.slice sa' ls' sc') (.slice na' ln' nc') (.slice ia' li' ic')
    generalize ((((w2.setCell ⟨w.heap.size + 1, 0, none⟩ (.int .i64 k')).setCell ⟨w.heap.size + 1, 1, none⟩ (.slice sa' ls' sc')).setCell ⟨w.heap.size + 1, 2, none⟩ (.slice na' ln' nc')).setCell ⟨w.heap.size + 1, 3, none⟩ (.slice ia' li' ic')) = WW at QW G ⊢
    obtain ⟨z0, z1, z2, z3, -⟩ := QW.cells
    exact bodyPost_ret (v := .agg #[.int .i64 k', .slice sa' ls' sc', .slice na' ln' nc', .slice ia' li' ic']) (by simp [results, Try.results94, go_sem, z0, z1, z2, z3]) rfl G
  · by_cases k2 : k = 2
    · subst k2
      clear bw q2 bz
      go_enter Try.func94, Try.ntmps94
      go_wp2
      refine bodyPost_ret (v := .agg #[.int .i64 2, .slice none 0 0, .slice (some ⟨w.heap.size + 1 + 1, 0, none⟩) 1 1, .slice none 0 0]) (by simp [results, Try.results94, go_sem]) rfl (GiveNew.mk (A := .mk 2 [] [32] []) (one_on (by decide) (by decide) ?_ (by omega)) ?_)
      · rw [World.cell?_alloc_at _ _ _ _ (by simp)]; rfl
      · exact Below.then (below_new _ _) (Below.then (below_new _ _) (below_new _ _))
    · by_cases k3 : k = 3
      · subst k3
        go_enter Try.func94, Try.ntmps94
        go_wp2_with (first
          | (go_at_call 104; refine (vector_0 _).mono ?_; intro e w1 hV; (obtain ⟨vk, va, vl, vc, vna, vnl, vnc, via, vil, vic, rfl, hVO, hb1⟩ := hV.form))
          | (go_at_call 103; refine (box_0 hVO.at).mono ?_; intro e w2 hN; (obtain ⟨k', sa', ls', sc', na', ln', nc', ia', li', ic', rfl, hO, hb2⟩ := hN.form); (obtain ⟨s0, s1, s2, s3, s4, s5, s6, s7⟩ := ((q2.below hb1).below hb2).cells)))
        have q3 := (q2.below hb1).below hb2
        have hb := bz.out
        have hs1 := hb1.size
        have G := give_set4 (w := w) (R := w.heap.size + 1) (by omega) q3 (hO.mono fun g hg => by omega) (Below.then (Below.then bw hb1) hb2)
        obtain ⟨QW, -⟩ := set4 q3 (.int .i64 k') (.slice sa' ls' sc') (.slice na' ln' nc') (.slice ia' li' ic')
        generalize ((((w2.setCell ⟨w.heap.size + 1, 0, none⟩ (.int .i64 k')).setCell ⟨w.heap.size + 1, 1, none⟩ (.slice sa' ls' sc')).setCell ⟨w.heap.size + 1, 2, none⟩ (.slice na' ln' nc')).setCell ⟨w.heap.size + 1, 3, none⟩ (.slice ia' li' ic')) = WW at QW G ⊢
        obtain ⟨z0, z1, z2, z3, -⟩ := QW.cells
        exact bodyPost_ret (v := .agg #[.int .i64 k', .slice sa' ls' sc', .slice na' ln' nc', .slice ia' li' ic']) (by simp [results, Try.results94, go_sem, z0, z1, z2, z3]) rfl G
      · have e1 : (k == 1) = false := by simpa using k1
        have e2 : (k == 2) = false := by simpa using k2
        have e3 : (k == 3) = false := by simpa using k3
        have HE : Hid (fillA k = zeroA) := by unfold Hid; rw [fillA, if_neg k1, if_neg k2, if_neg k3]
        clear k1 k2 k3 bw q2 bz
        go_enter Try.func94, Try.ntmps94
        go_wp2
        refine bodyPost_ret (v := .agg #[.int .i64 0, .slice none 0 0, .slice none 0 0, .slice none 0 0]) (by simp [results, Try.results94, go_sem]) rfl ?_
        rw [show (Arr.mk k sh nu it).kind = k from rfl, HE.out]
        exact GiveNew.mk (zero_on _ _) (Below.then (below_new _ _) (below_new _ _))

end Go.Proofs.Ytkjbccodahleoaa.Shape

namespace Go.Proofs.Ytkjbccodahleoaa.Shape
open Go.RowKit
set_option linter.unusedVariables false

/-- Repeated up to j, where whole copies end: one copy more, or its beginning. -/
theorem cyc_block {α : Type} (l : List α) (z : α) (j m : Nat) (h0 : 0 < l.length) (hj : j % l.length = 0) (hm : m ≤ l.length) : cyc l z (j + m) = cyc l z j ++ l.take m := by
  unfold cyc
  rw [List.range_add, List.map_append, List.map_map]
  congr 1
  apply List.ext_getElem
  · simp; omega
  · intro i h1 h2
    simp only [List.length_map, List.length_range] at h1
    simp only [List.getElem_map, List.getElem_range, Function.comp_apply, List.getElem_take]
    have e : (j + i) % l.length = i := by
      rw [Nat.add_mod, hj, Nat.zero_add, Nat.mod_mod]
      exact Nat.mod_eq_of_lt (by omega)
    rw [e, List.getD_eq_getElem?_getD, List.getElem?_eq_getElem (by omega)]
    rfl
theorem cyc_nil {α : Type} (l : List α) (z : α) : cyc l z 0 = [] := rfl
theorem cyc_map {α β : Type} (f : α → β) (l : List α) (z : α) (n : Nat) : cyc (l.map f) (f z) n = (cyc l z n).map f := by
  unfold cyc
  rw [List.map_map, List.length_map]
  apply List.map_congr_left
  intro i _
  simp [List.getD_eq_getElem?_getD]
/-- The row while it is filled: j cells, and what is still zero. -/
def Filled (w : World) (G : Nat) (t : TypeId) (qs : List Value) (z : Value) (N j : Nat) : Prop := ∃ rest : List Value, w.heap[G]? = some (.cells (cyc qs z j ++ rest).toArray t (0, 0)) ∧ rest.length + j = N
theorem filled_step {w : World} {G : Nat} {t : TypeId} {qs : List Value} {z : Value} {N j m : Nat} (h : Filled w G t qs z N j) (h0 : 0 < qs.length) (hj : j % qs.length = 0) (hm : m ≤ qs.length) (hN : j + m ≤ N) (cur : Array Value) (hc : w.heap[G]? = some (.cells cur t (0, 0))) :
    Filled (w.setRow G (cur.toList.take j ++ ((qs.take m) ++ cur.toList.drop (j + (qs.take m).length))).toArray) G t qs z N (j + m) := by
  obtain ⟨rest, hr, hl⟩ := h
  rw [hr] at hc
  simp only [Option.some.injEq, Obj.cells.injEq, and_true] at hc
  have hcl := cyc_len qs z j
  have e : cur.toList = cyc qs z j ++ rest := by rw [← hc]
  have hlen : (qs.take m).length = m := by rw [List.length_take]; omega
  refine ⟨rest.drop m, ?_, by rw [List.length_drop]; omega⟩
  rw [setRow_heap w G _ _ t _ hr, e, hlen, cyc_block qs z j m h0 hj hm]
  generalize cyc qs z j = C at hcl
  have e1 : (C ++ rest).take j = C := by rw [List.take_append_of_le_length (by omega), List.take_of_length_le (by omega)]
  have e2 : (C ++ rest).drop (j + m) = rest.drop m := by
    rw [List.drop_append, List.drop_of_length_le (by omega), List.nil_append, hcl, Nat.add_sub_cancel_left]
  rw [e1, e2, List.append_assoc]

theorem min_part (L s j : Nat) : Nat.min L (s - j) = if j + L ≤ s then L else s - j := by
  split
  · exact Nat.min_eq_left (by omega)
  · exact Nat.min_eq_right (by omega)

set_option maxHeartbeats 2000000 in
theorem cycleI_any (ad : Addr) (cap L : Nat) (qs : List Value) (n : Nat) (w : World) (hq : qs.length = L * 1) (h0 : 0 < L) (hr : L * 8 ≤ 140737488351232) (hn : n ≤ 65536)
    (hsrc : ∀ j v, qs[j]? = some v → w.cell? (ad.add j) = some v) (hadd : ∀ j, (ad.add j).block = ad.block) (h1 : ∀ u ∈ qs, u.oneCell' = true) :
    Calls Try.prog 95 #[.slice (some ad) L cap, .int .i64 (n : Int)] w fun e w' => e = .returned (.slice (some ⟨w.heap.size, 0, none⟩) n n) ∧ w'.heap[w.heap.size]? = some (.cells (cyc qs (.int .i64 0) (n * 1)).toArray 3 (0, 0)) ∧ Below w.heap.size w w' := by
  have hm := run_makeInts w n (by omega)
  have hlt0 : ad.block < w.heap.size := by
    have h2 : 0 < qs.length := by omega
    have h3 := hsrc 0 qs[0] (List.getElem?_eq_getElem h2)
    have h4 := World.cell?_spot h3
    have h5 := hadd 0
    cases hx : ad.add 0 with
    | mk b o sp =>
      rw [hx] at h3 h4 h5
      simp only at h4 h5
      subst h4
      rw [← h5]
      exact cell_lt h3
  have hsrc2 : ∀ W : World, Below w.heap.size w W → ∀ m j v, (qs.take m)[j]? = some v → W.cell? (ad.add j) = some v := by
    intro W hW m j v hj
    have hjm : j < m := by
      have := (List.getElem?_eq_some_iff.1 hj).1
      simp only [List.length_take] at this
      omega
    rw [List.getElem?_take_of_lt hjm] at hj
    rw [hW.cell (by rw [hadd]; exact hlt0)]
    exact hsrc j v hj
  have hne : ((L : Int) == 0) = false := by simp; omega
  have h0' : 0 < qs.length := by omega
  have F0 : Filled (w.alloc (.cells (madeCells #[.int .i64 0] n) 3)) w.heap.size 3 qs (.int .i64 0) (n * 1) 0 := ⟨((madeCells #[.int .i64 0] n)).toList, by rw [heap_alloc_new, cyc_nil, List.nil_append], by simp [size_madeCells]⟩
  have b0 := below_new w (.cells (madeCells #[.int .i64 0] n) 3)
  clear hsrc
  go_enter Try.func95, Try.ntmps95
  go_wp2_with fail
  go_loopw [6] (fun at' wr => ∃ j : Nat, at' = .int .i64 j ∧ Hid (j % L = 0) ∧ j < n + L ∧ Filled wr w.heap.size 3 qs (.int .i64 0) (n * 1) (min j n * 1) ∧ Below w.heap.size w wr) (fun at' _ => n - (intOf at').toNat)
  case atStart => exact ⟨0, rfl, Nat.zero_mod _, by omega, by simpa using F0, b0⟩
  case round =>
    obtain ⟨j, rfl, hj, hjn, hF, hb⟩ := hrel
    by_cases hlt : j < n
    · rw [Nat.min_eq_left (by omega)] at hF
      obtain ⟨rest, hg, hl⟩ := id hF
      obtain ⟨m, hme⟩ : ∃ m, Nat.min L (n - j) = m := ⟨_, rfl⟩
      have hm1 : m ≤ L := by rw [← hme]; exact Nat.min_le_left _ _
      have hm2 : m ≤ n - j := by rw [← hme]; exact Nat.min_le_right _ _
      have hm3 : Hid (min (j + L) n = j + m) := by unfold Hid; rw [← hme, min_part]; split <;> omega
      have hlt2 : (qs.take (m * 1)).length = m * 1 := by rw [List.length_take, hq, Nat.min_eq_left (Nat.mul_le_mul_right _ hm1)]
      have hcl := cyc_len qs (.int .i64 0) (j * 1)
      obtain ⟨W2, hcp, hF2, hb2⟩ : ∃ W2, (∀ ty, (Builtin.copy_ #[23, 23] ty #[.slice (some ⟨w.heap.size, j, none⟩) (n - j) (n - j), .slice (some ad) L cap]).run Try.prog wr = .ok (goInt m) W2) ∧ Hid (Filled W2 w.heap.size 3 qs (.int .i64 0) (n * 1) (min (j + L) n * 1)) ∧ Below w.heap.size w W2 := by
        have hc := fun ty => run_copy_wide (P := Try.prog) wr 23 23 ty 3 w.heap.size (j * 1) (n - j) (n - j) ad L cap 1 _ 3 (qs.take (m * 1)) Try.underlying23 sizeInt1 hg (by rw [hlt2, hme]) (hsrc2 _ hb _) (by rw [List.size_toArray, List.length_append, hcl, hlt2]; omega) (fun u hu => h1 u (List.mem_of_mem_take hu))
        rw [hme] at hc
        refine ⟨_, (by have hx := hc; rw [show (⟨w.heap.size, j * 1, none⟩ : Addr) = ⟨w.heap.size, j, none⟩ by rw [Nat.mul_one]] at hx; exact hx), ?_, below_setRow hb (Nat.le_refl _) _⟩
        have hst := filled_step hF h0' (by rw [hq, Nat.mul_mod_mul_right, hj.out, Nat.zero_mul]) (show m * 1 ≤ qs.length by rw [hq]; exact Nat.mul_le_mul_right _ hm1) (by rw [← Nat.add_mul]; exact Nat.mul_le_mul_right _ (by omega)) _ hg
        unfold Hid
        rw [hm3.out, Nat.add_mul]
        exact hst
      have hjL : Hid ((j + L) % L = 0) := by unfold Hid; rw [Nat.add_mod_right]; exact hj.out
      clear hF hg hl hcl hlt2 hme
      go_wp2_with fail
      go_roundw
      case rel => exact ⟨j + L, by go_num, hjL, by omega, hF2.out, hb2⟩
      case measure => simp [intOf]; omega
    · rw [Nat.min_eq_right (by omega)] at hF
      obtain ⟨rest, hg, hl⟩ := hF
      obtain rfl : rest = [] := List.eq_nil_of_length_eq_zero (by omega)
      rw [List.append_nil] at hg
      go_wp2_with fail
      go_ret
      exact ⟨rfl, hg, hb⟩

set_option maxHeartbeats 2000000 in
theorem cycleA_any (ad : Addr) (cap L : Nat) (qs : List Value) (n : Nat) (w : World) (hq : qs.length = L * 4) (h0 : 0 < L) (hr : L * 8 ≤ 140737488351232) (hn : n ≤ 65536)
    (hsrc : ∀ j v, qs[j]? = some v → w.cell? (ad.add j) = some v) (hadd : ∀ j, (ad.add j).block = ad.block) (h1 : ∀ u ∈ qs, u.oneCell' = true) :
    Calls Try.prog 96 #[.slice (some ad) L cap, .int .i64 (n : Int)] w fun e w' => e = .returned (.slice (some ⟨w.heap.size, 0, none⟩) n n) ∧ w'.heap[w.heap.size]? = some (.cells (cyc qs (.int .i64 0) (n * 4)).toArray 26 (0, 0)) ∧ Below w.heap.size w w' := by
  have hm := run_makeArrs w n (by omega)
  have hlt0 : ad.block < w.heap.size := by
    have h2 : 0 < qs.length := by omega
    have h3 := hsrc 0 qs[0] (List.getElem?_eq_getElem h2)
    have h4 := World.cell?_spot h3
    have h5 := hadd 0
    cases hx : ad.add 0 with
    | mk b o sp =>
      rw [hx] at h3 h4 h5
      simp only at h4 h5
      subst h4
      rw [← h5]
      exact cell_lt h3
  have hsrc2 : ∀ W : World, Below w.heap.size w W → ∀ m j v, (qs.take m)[j]? = some v → W.cell? (ad.add j) = some v := by
    intro W hW m j v hj
    have hjm : j < m := by
      have := (List.getElem?_eq_some_iff.1 hj).1
      simp only [List.length_take] at this
      omega
    rw [List.getElem?_take_of_lt hjm] at hj
    rw [hW.cell (by rw [hadd]; exact hlt0)]
    exact hsrc j v hj
  have hne : ((L : Int) == 0) = false := by simp; omega
  have h0' : 0 < qs.length := by omega
  have F0 : Filled (w.alloc (.cells (madeCells #[.int .i64 0, .slice none 0 0, .slice none 0 0, .slice none 0 0] (n * 4)) 26)) w.heap.size 26 qs (.int .i64 0) (n * 4) 0 := ⟨((madeCells #[.int .i64 0, .slice none 0 0, .slice none 0 0, .slice none 0 0] (n * 4))).toList, by rw [heap_alloc_new, cyc_nil, List.nil_append], by simp [size_madeCells]⟩
  have b0 := below_new w (.cells (madeCells #[.int .i64 0, .slice none 0 0, .slice none 0 0, .slice none 0 0] (n * 4)) 26)
  clear hsrc
  go_enter Try.func96, Try.ntmps96
  go_wp2_with fail
  go_loopw [6] (fun at' wr => ∃ j : Nat, at' = .int .i64 j ∧ Hid (j % L = 0) ∧ j < n + L ∧ Filled wr w.heap.size 26 qs (.int .i64 0) (n * 4) (min j n * 4) ∧ Below w.heap.size w wr) (fun at' _ => n - (intOf at').toNat)
  case atStart => exact ⟨0, rfl, Nat.zero_mod _, by omega, by simpa using F0, b0⟩
  case round =>
    obtain ⟨j, rfl, hj, hjn, hF, hb⟩ := hrel
    by_cases hlt : j < n
    · rw [Nat.min_eq_left (by omega)] at hF
      obtain ⟨rest, hg, hl⟩ := id hF
      obtain ⟨m, hme⟩ : ∃ m, Nat.min L (n - j) = m := ⟨_, rfl⟩
      have hm1 : m ≤ L := by rw [← hme]; exact Nat.min_le_left _ _
      have hm2 : m ≤ n - j := by rw [← hme]; exact Nat.min_le_right _ _
      have hm3 : Hid (min (j + L) n = j + m) := by unfold Hid; rw [← hme, min_part]; split <;> omega
      have hlt2 : (qs.take (m * 4)).length = m * 4 := by rw [List.length_take, hq, Nat.min_eq_left (Nat.mul_le_mul_right _ hm1)]
      have hcl := cyc_len qs (.int .i64 0) (j * 4)
      obtain ⟨W2, hcp, hF2, hb2⟩ : ∃ W2, (∀ ty, (Builtin.copy_ #[24, 24] ty #[.slice (some ⟨w.heap.size, j * 4, none⟩) (n - j) (n - j), .slice (some ad) L cap]).run Try.prog wr = .ok (goInt m) W2) ∧ Hid (Filled W2 w.heap.size 26 qs (.int .i64 0) (n * 4) (min (j + L) n * 4)) ∧ Below w.heap.size w W2 := by
        have hc := fun ty => run_copy_wide (P := Try.prog) wr 24 24 ty 26 w.heap.size (j * 4) (n - j) (n - j) ad L cap 4 _ 26 (qs.take (m * 4)) Try.underlying24 sizeArr4 hg (by rw [hlt2, hme]) (hsrc2 _ hb _) (by rw [List.size_toArray, List.length_append, hcl, hlt2]; omega) (fun u hu => h1 u (List.mem_of_mem_take hu))
        rw [hme] at hc
        refine ⟨_, hc, ?_, below_setRow hb (Nat.le_refl _) _⟩
        have hst := filled_step hF h0' (by rw [hq, Nat.mul_mod_mul_right, hj.out, Nat.zero_mul]) (show m * 4 ≤ qs.length by rw [hq]; exact Nat.mul_le_mul_right _ hm1) (by rw [← Nat.add_mul]; exact Nat.mul_le_mul_right _ (by omega)) _ hg
        unfold Hid
        rw [hm3.out, Nat.add_mul]
        exact hst
      have hjL : Hid ((j + L) % L = 0) := by unfold Hid; rw [Nat.add_mod_right]; exact hj.out
      clear hF hg hl hcl hlt2 hme
      go_wp2_with fail
      go_roundw
      case rel => exact ⟨j + L, by go_num, hjL, by omega, hF2.out, hb2⟩
      case measure => simp [intOf]; omega
    · rw [Nat.min_eq_right (by omega)] at hF
      obtain ⟨rest, hg, hl⟩ := hF
      obtain rfl : rest = [] := List.eq_nil_of_length_eq_zero (by omega)
      rw [List.append_nil] at hg
      go_wp2_with fail
      go_ret
      exact ⟨rfl, hg, hb⟩

end Go.Proofs.Ytkjbccodahleoaa.Shape

namespace Go.Proofs.Ytkjbccodahleoaa.Shape
open Go.RowKit
set_option linter.unusedVariables false

theorem ofN_bad (a : Option Addr) (cap : Nat) (sh : List Int) (v : Value) (F : Arr) (w : World) (h : ArrAt w v F) (hE : rightE F ≠ 0) :
    Calls Try.prog 84 #[.slice a sh.length cap, v] w (GiveNewE zeroA 1 w) := by
  have hA := h
  obtain ⟨k, sa, ls, sc, na, ln, nc, ia, li, ic, rfl⟩ : ∃ k sa ls sc na ln nc ia li ic, v = .agg #[.int .i64 k, .slice sa ls sc, .slice na ln nc, .slice ia li ic] := by
    obtain ⟨k, sh, nu, it⟩ := F
    rw [ArrAt] at h
    obtain ⟨sa, sc, na, nc, ia, ic, rfl, -⟩ := h
    exact ⟨_, _, _, _, _, _, _, _, _, _, rfl⟩
  clear h
  have bw := below_two w (.cells #[.int .i64 k, .slice sa ls sc, .slice na ln nc, .slice ia li ic] 26) (.cells #[.int .i64 0, .slice none 0 0, .slice none 0 0, .slice none 0 0] 26)
  have hA1 := hA.below bw
  have q2 : Quad ((w.alloc (.cells #[.int .i64 k, .slice sa ls sc, .slice na ln nc, .slice ia li ic] 26)).alloc (.cells #[.int .i64 0, .slice none 0 0, .slice none 0 0, .slice none 0 0] 26)) (w.heap.size + 1) (.int .i64 0) (.slice none 0 0) (.slice none 0 0) (.slice none 0 0) := by
    simpa using Quad.new (w.alloc (.cells #[.int .i64 k, .slice sa ls sc, .slice na ln nc, .slice ia li ic] 26)) (.int .i64 0) (.slice none 0 0) (.slice none 0 0) (.slice none 0 0)
  obtain ⟨x, hx⟩ : ∃ x, rightE F = x := ⟨_, rfl⟩
  have R := fun v' w' (g : ArrAt w' v' F) => rightQ v' F w' g
  rw [hx] at R hE
  have e2 : (x != 0) = true := by simpa using hE
  clear hx hE hA
  go_enter Try.func84, Try.ntmps84
  go_wp2_with (go_at_call 34; refine (R _ _ hA1).mono ?_; rintro e w1 ⟨rfl, hb1⟩; (obtain ⟨s0, s1, s2, s3, s4, s5, s6, s7⟩ := (q2.below hb1).cells))
  have q3 := q2.below hb1
  have G := give_set4 (Nat.le_succ w.heap.size) q3 (zero_on _ _) (Below.then bw hb1)
  obtain ⟨QW, -⟩ := set4 q3 (.int .i64 0) (.slice none 0 0) (.slice none 0 0) (.slice none 0 0)
  generalize ((((w1.setCell ⟨w.heap.size + 1, 0, none⟩ (.int .i64 0)).setCell ⟨w.heap.size + 1, 1, none⟩ (.slice none 0 0)).setCell ⟨w.heap.size + 1, 2, none⟩ (.slice none 0 0)).setCell ⟨w.heap.size + 1, 3, none⟩ (.slice none 0 0)) = WW at QW G ⊢
  obtain ⟨z0, z1, z2, z3, -⟩ := QW.cells
  exact bodyPost_ret (v := .tuple #[.agg #[.int .i64 0, .slice none 0 0, .slice none 0 0, .slice none 0 0], .int .i64 1]) (by simp [results, Try.results84, go_sem, z0, z1, z2, z3]) rfl (GiveNewE.mk G)


theorem ofN_dims (a : Option Addr) (cap : Nat) (sh : List Int) (v : Value) (F : Arr) (w : World) (g : IntsAt w a cap sh) (h : ArrAt w v F) (hE : rightE F = 0) (hD : dimsE sh ≠ 0) :
    Calls Try.prog 84 #[.slice a sh.length cap, v] w (GiveNewE zeroA (dimsE sh) w) := by
  have hA := h
  obtain ⟨k, sa, ls, sc, na, ln, nc, ia, li, ic, rfl⟩ : ∃ k sa ls sc na ln nc ia li ic, v = .agg #[.int .i64 k, .slice sa ls sc, .slice na ln nc, .slice ia li ic] := by
    obtain ⟨k, sh, nu, it⟩ := F
    rw [ArrAt] at h
    obtain ⟨sa, sc, na, nc, ia, ic, rfl, -⟩ := h
    exact ⟨_, _, _, _, _, _, _, _, _, _, rfl⟩
  clear h
  have bw := below_two w (.cells #[.int .i64 k, .slice sa ls sc, .slice na ln nc, .slice ia li ic] 26) (.cells #[.int .i64 0, .slice none 0 0, .slice none 0 0, .slice none 0 0] 26)
  have hA1 := hA.below bw
  have g1 := g.below bw
  have q2 : Quad ((w.alloc (.cells #[.int .i64 k, .slice sa ls sc, .slice na ln nc, .slice ia li ic] 26)).alloc (.cells #[.int .i64 0, .slice none 0 0, .slice none 0 0, .slice none 0 0] 26)) (w.heap.size + 1) (.int .i64 0) (.slice none 0 0) (.slice none 0 0) (.slice none 0 0) := by
    simpa using Quad.new (w.alloc (.cells #[.int .i64 k, .slice sa ls sc, .slice na ln nc, .slice ia li ic] 26)) (.int .i64 0) (.slice none 0 0) (.slice none 0 0) (.slice none 0 0)
  have R := fun v' w' (g : ArrAt w' v' F) => rightQ v' F w' g
  rw [hE] at R
  have D := fun w' (g : IntsAt w' a cap sh) => checkShapeQ a cap sh w' g
  simp only [shN_bad hD] at D
  generalize dimsE sh = y at D hD ⊢
  have e2 : (y != 0) = true := by simpa using hD
  clear hE hA hD
  go_enter Try.func84, Try.ntmps84
  go_wp2_with (first
    | (go_at_call 34; refine (R _ _ hA1).mono ?_; rintro e w1 ⟨rfl, hb1⟩; (obtain ⟨s0, s1, s2, s3, s4, s5, s6, s7⟩ := (q2.below hb1).cells))
    | (go_at_call 82; refine (D _ (g1.below hb1)).mono ?_; rintro e w2 ⟨rfl, rfl⟩))
  have q3 := q2.below hb1
  have G := give_set4 (Nat.le_succ w.heap.size) q3 (zero_on _ _) (Below.then bw hb1)
  obtain ⟨QW, -⟩ := set4 q3 (.int .i64 0) (.slice none 0 0) (.slice none 0 0) (.slice none 0 0)
  generalize ((((w1.setCell ⟨w.heap.size + 1, 0, none⟩ (.int .i64 0)).setCell ⟨w.heap.size + 1, 1, none⟩ (.slice none 0 0)).setCell ⟨w.heap.size + 1, 2, none⟩ (.slice none 0 0)).setCell ⟨w.heap.size + 1, 3, none⟩ (.slice none 0 0)) = WW at QW G ⊢
  obtain ⟨z0, z1, z2, z3, -⟩ := QW.cells
  exact bodyPost_ret (v := .tuple #[.agg #[.int .i64 0, .slice none 0 0, .slice none 0 0, .slice none 0 0], .int .i64 y]) (by simp [results, Try.results84, go_sem, z0, z1, z2, z3]) rfl (GiveNewE.mk G)

/-- A list repeated cyclically; an empty one stays empty. -/
def cyc0 {α : Type} (l : List α) (z : α) (n : Nat) : List α := if l = [] then [] else cyc l z n
theorem quads_len {P : Nat → Prop} {w : World} : ∀ {qs : List Value} {l : List Arr}, Quads P w qs l → qs.length = l.length * 4
  | [], [], _ => rfl
  | c0 :: c1 :: c2 :: c3 :: q, A :: r, h => by
    rw [Quads] at h
    have := quads_len h.2
    simp only [List.length_cons]; omega
  | [], _ :: _, h => by simp [Quads] at h
  | _ :: _, [], h => by simp [Quads] at h
  | [_], _ :: _, h => by simp [Quads] at h
  | [_, _], _ :: _, h => by simp [Quads] at h
  | [_, _, _], _ :: _, h => by simp [Quads] at h
theorem quads_at {P : Nat → Prop} {w : World} : ∀ {l : List Arr} {qs : List Value}, Quads P w qs l → ∀ {k : Nat} (hk : k < l.length), ∃ c0 c1 c2 c3, (qs[k * 4]? = some c0 ∧ qs[k * 4 + 1]? = some c1 ∧ qs[k * 4 + 2]? = some c2 ∧ qs[k * 4 + 3]? = some c3) ∧ ArrOn P w (.agg #[c0, c1, c2, c3]) l[k]
  | [], _, _, k, hk => absurd hk (by simp)
  | A :: r, qs, h, k, hk => by
    obtain ⟨c0, c1, c2, c3, q, rfl, hA, hq⟩ := quads_cons h
    cases k with
    | zero => exact ⟨c0, c1, c2, c3, ⟨rfl, rfl, rfl, rfl⟩, hA⟩
    | succ k =>
      obtain ⟨d0, d1, d2, d3, hd, hB⟩ := quads_at hq (k := k) (by simpa using hk)
      refine ⟨d0, d1, d2, d3, ?_, by simpa using hB⟩
      rw [show (k + 1) * 4 = k * 4 + 4 by omega]
      simpa using hd
theorem cyc_four (qs : List Value) (z : Value) (L n : Nat) (h : qs.length = L * 4) (h0 : 0 < L) {c0 c1 c2 c3 : Value} (hc : qs[n % L * 4]? = some c0 ∧ qs[n % L * 4 + 1]? = some c1 ∧ qs[n % L * 4 + 2]? = some c2 ∧ qs[n % L * 4 + 3]? = some c3) :
    cyc qs z ((n + 1) * 4) = cyc qs z (n * 4) ++ [c0, c1, c2, c3] := by
  have e : ∀ i, i < 4 → (n * 4 + i) % qs.length = n % L * 4 + i := by
    intro i hi
    rw [h]
    have h1 := Nat.div_add_mod n L
    have h2 := Nat.mod_lt n h0
    have h3 : n * 4 + i = (n % L * 4 + i) + (L * 4) * (n / L) := by
      rw [Nat.mul_right_comm]
      omega
    rw [h3, Nat.add_mul_mod_self_left]
    exact Nat.mod_eq_of_lt (by omega)
  rw [show (n + 1) * 4 = n * 4 + 1 + 1 + 1 + 1 by omega, cyc_succ, cyc_succ, cyc_succ, cyc_succ]
  rw [show n * 4 + 1 + 1 + 1 = n * 4 + 3 by omega, show n * 4 + 1 + 1 = n * 4 + 2 by omega]
  have e0 := e 0 (by decide)
  rw [Nat.add_zero, Nat.add_zero] at e0
  rw [e0, e 1 (by decide), e 2 (by decide), e 3 (by decide)]
  simp only [List.getD_eq_getElem?_getD, hc.1, hc.2.1, hc.2.2.1, hc.2.2.2, Option.getD_some, List.append_assoc, List.cons_append, List.nil_append]
theorem cyc_quads {P : Nat → Prop} {w : World} {qs : List Value} {l : List Arr} (z : Value) (h : Quads P w qs l) (h0 : 0 < l.length) : ∀ n, Quads P w (cyc qs z (n * 4)) (cyc l zeroA n)
  | 0 => by rw [Nat.zero_mul, cyc_nil, cyc_nil, Quads]; trivial
  | n + 1 => by
    have hk : n % l.length < l.length := Nat.mod_lt _ h0
    obtain ⟨c0, c1, c2, c3, hc, hA⟩ := quads_at h hk
    rw [cyc_four qs z l.length n (quads_len h) h0 hc, cyc_succ]
    have e : l.getD (n % l.length) zeroA = l[n % l.length] := by rw [List.getD_eq_getElem?_getD, List.getElem?_eq_getElem hk]; rfl
    rw [e]
    exact (cyc_quads z h h0 n).snoc hA

theorem cycleIQ (a : Option Addr) (cap : Nat) (xs : List Int) (n : Nat) (w : World) (h : IntsAt w a cap xs) (hr : xs.length * 8 ≤ 140737488351232) (hn : n ≤ 65536) :
    Calls Try.prog 95 #[.slice a xs.length cap, .int .i64 (n : Int)] w fun e w' => ∃ a' c', e = .returned (.slice a' (cyc0 xs 0 n).length c') ∧ IntsOn (fun g => w.heap.size ≤ g) w' a' c' (cyc0 xs 0 n) ∧ Below w.heap.size w w' := by
  by_cases h0 : xs = []
  · subst h0
    rw [cyc0, if_pos rfl]
    go_enter Try.func95, Try.ntmps95
    go_wp2_with fail
    go_ret
    exact ⟨none, 0, rfl, ⟨ints_nil w, fun g => absurd rfl g⟩, Below.refl _ _⟩
  · rw [cyc0, if_neg h0]
    have hl : 0 < xs.length := List.length_pos_iff.2 h0
    have hh := h
    obtain ⟨-, -, hb, b, off, ha, hc⟩ := h
    rw [ha h0] at hh ⊢
    refine (cycleI_any ⟨b, off, none⟩ cap xs.length (xs.map (Value.int .i64)) n w (by simp) hl hr hn ?_ (fun j => by rw [add_plain]) (by intro u hu; obtain ⟨x, _, rfl⟩ := List.mem_map.1 hu; rfl)).mono ?_
    · intro j v hj
      have hjl : j < xs.length := by
        have := (List.getElem?_eq_some_iff.1 hj).1
        simpa using this
      rw [add_plain, hc j hjl, ← hj, List.getElem?_map, List.getElem?_eq_getElem hjl]
      rfl
    · rintro e w' ⟨rfl, hg, hbl⟩
      rw [Nat.mul_one, show Value.int .i64 0 = (Value.int .i64) 0 from rfl, cyc_map] at hg
      refine ⟨_, n, by rw [cyc_len], ⟨⟨by rw [cyc_len]; exact Nat.le_refl _, by omega, cyc_bd hb, w.heap.size, 0, fun _ => rfl, fun i hi => ?_⟩, fun _ ad e => by cases e; exact Nat.le_refl _⟩, hbl⟩
      simp [World.cell?, hg, hi]
theorem cycleAQ (P : Nat → Prop) (a : Option Addr) (cap b off : Nat) (l : List Arr) (n : Nat) (w : World) (hc : l.length ≤ cap) (ha : l ≠ [] → a = some ⟨b, off, none⟩) (h : ArrsOn P w b off l) (hr : l.length * 80 ≤ 140737488351232) (hn : n ≤ 65536) :
    Calls Try.prog 96 #[.slice a l.length cap, .int .i64 (n : Int)] w fun e w' => ∃ a' c' b', e = .returned (.slice a' (cyc0 l zeroA n).length c') ∧ (cyc0 l zeroA n).length ≤ c' ∧ c' ≤ 9223372036854775807 ∧ (cyc0 l zeroA n ≠ [] → a' = some ⟨b', 0, none⟩) ∧ w.heap.size ≤ b' ∧ ArrsOn P w' b' 0 (cyc0 l zeroA n) ∧ Below w.heap.size w w' := by
  by_cases h0 : l = []
  · subst h0
    rw [cyc0, if_pos rfl]
    go_enter Try.func96, Try.ntmps96
    go_wp2_with fail
    go_ret
    exact ⟨none, 0, w.heap.size, rfl, Nat.le_refl _, by decide, fun g => absurd rfl g, Nat.le_refl _, by rw [ArrsOn]; trivial, Below.refl _ _⟩
  · rw [cyc0, if_neg h0]
    have hl : 0 < l.length := List.length_pos_iff.2 h0
    obtain ⟨qs, q1, q2, q3, q4⟩ := arrs_quads h
    rw [ha h0]
    refine (cycleA_any ⟨b, off, none⟩ cap l.length qs n w q1 hl (by omega) hn ?_ (fun j => by rw [add_plain]) q4).mono ?_
    · intro j v hj
      have hjl : j < qs.length := (List.getElem?_eq_some_iff.1 hj).1
      rw [add_plain, q2 j hjl, ← hj, List.getElem?_eq_getElem hjl]
    · rintro e w' ⟨rfl, hg, hbl⟩
      refine ⟨_, n, w.heap.size, by rw [cyc_len], by rw [cyc_len]; exact Nat.le_refl _, by omega, fun _ => rfl, Nat.le_refl _, ?_, hbl⟩
      have hq := (cyc_quads (.int .i64 0) q3 hl n).keep (R := P) (w' := w') (fun g hg hl => ⟨hg, fun o => hbl.cell hl⟩)
      exact hq.arrs fun i hi => by simp [World.cell?, hg, hi]
end Go.Proofs.Ytkjbccodahleoaa.Shape

namespace Go.Proofs.Ytkjbccodahleoaa.Shape
open Go.RowKit
set_option linter.unusedVariables false

/-- The effective rank. -/
def rankS (k r : Int) : Int := min (max (if k < 0 then k + max r 0 else k) 0) (max r 0)
theorem rank_bd (k r : Int) : 0 ≤ rankS k r ∧ rankS k r ≤ max r 0 := by unfold rankS; omega
theorem rank_len (k : Int) (n : Nat) : ∃ c : Nat, rankS k n = c ∧ c ≤ n := by
  have := rank_bd k n
  exact ⟨(rankS k n).toNat, by omega, by omega⟩

set_option maxHeartbeats 1000000 in
theorem rankP (k r : Int) (w : World) (hk : -9223372036854775808 ≤ k ∧ k ≤ 9223372036854775807) (hr : -9223372036854775808 ≤ r ∧ r ≤ 9223372036854775807) :
    Calls Try.prog 9 #[.int .i64 k, .int .i64 r] w fun e w' => e = .returned (.int .i64 (rankS k r)) ∧ w = w' := by
  go_enter Try.func9, Try.ntmps9
  go_wp2
  all_goals go_ret
  all_goals exact ⟨ret_int (by unfold rankS; omega), rfl⟩
set_option maxHeartbeats 1000000 in
theorem rankR (k r : Int) (w : World) (hk : -9223372036854775808 ≤ k ∧ k ≤ 9223372036854775807) (hr : -9223372036854775808 ≤ r ∧ r ≤ 9223372036854775807) :
    Calls Try.prog 10 #[.int .i64 k, .int .i64 r] w fun e w' => e = .returned (.int .i64 (rankS k r)) ∧ w = w' := by
  go_enter Try.func10, Try.ntmps10
  go_wp2
  all_goals go_ret
  all_goals exact ⟨ret_int (by unfold rankS; omega), rfl⟩
end Go.Proofs.Ytkjbccodahleoaa.Shape

namespace Go.Proofs.Ytkjbccodahleoaa.Shape
open Go.RowKit
set_option linter.unusedVariables false

/-- Where block i of the size s begins, if an element takes u cells. -/
def blkA (a : Option Addr) (i s u : Nat) : Option Addr := if s = 0 then a else a.map (·.add (i * s * u))
theorem blkA_some {b o i s u : Nat} (h : s ≠ 0) : blkA (some ⟨b, o, none⟩) i s u = some ⟨b, o + i * s * u, none⟩ := by
  rw [blkA, if_neg h, Option.map_some, add_plain]
theorem blk_bd {i s n : Nat} (hb : (i + 1) * s ≤ n) (hn : n ≤ 9223372036854775807) (hs : s ≠ 0) : i + 1 ≤ 9223372036854775807 ∧ i * s + s = (i + 1) * s ∧ i * s ≤ 9223372036854775807 := by
  have h1 : (i + 1) * 1 ≤ (i + 1) * s := Nat.mul_le_mul_left _ (by omega)
  have h2 : (i + 1) * s = i * s + s := Nat.succ_mul i s
  omega
theorem IntsAt.blk {w : World} {a : Option Addr} {cap : Nat} {xs : List Int} (h : IntsAt w a cap xs) {i s : Nat} (hb : (i + 1) * s ≤ xs.length) : IntsAt w (blkA a i s 1) s ((xs.drop (i * s)).take s) := by
  obtain ⟨h1, h2, h3, b, off, ha, hc⟩ := h
  have hm : i * s + s ≤ xs.length := by rw [Nat.succ_mul] at hb; exact hb
  have hl : ((xs.drop (i * s)).take s).length = s := by rw [List.length_take, List.length_drop]; omega
  refine ⟨by omega, by omega, fun x hx => h3 x (List.mem_of_mem_drop (List.mem_of_mem_take hx)), b, off + i * s, fun hne => ?_, fun j hj => ?_⟩
  · have hs : s ≠ 0 := fun e => hne (by rw [e, List.take_zero])
    rw [ha (fun e => by subst e; simp at hm; omega), blkA_some hs, Nat.mul_one]
  · have hj' : i * s + j < xs.length := by omega
    rw [List.getElem_take, List.getElem_drop, Nat.add_assoc]
    exact hc _ hj'
theorem elemArrsC : Try.prog.underlying 24 = some (.slice (Try.prog.elem 24)) := by kernel_rfl
theorem sizeArrsC (w : World) : (sizeOf (Try.prog.elem 24)).run Try.prog w = .ok 4 w := by kernel_rfl

theorem blockI_nil (a : Option Addr) (c : Nat) (i s : Int) (w : World) :
    Calls Try.prog 37 #[.slice a 0 c, .int .i64 i, .int .i64 s] w fun e w' => e = .returned (.slice none 0 0) ∧ w = w' := by
  go_enter Try.func37, Try.ntmps37
  go_wp2_with fail
  go_ret
  exact ⟨rfl, rfl⟩
set_option maxHeartbeats 1000000 in
theorem blockI (a : Option Addr) (n c i s : Nat) (w : World) (hn : n ≠ 0) (hnc : n ≤ c) (hc : c ≤ 9223372036854775807) (hb : (i + 1) * s ≤ n) (hi : i ≤ 1000000) :
    Calls Try.prog 37 #[.slice a n c, .int .i64 (i : Int), .int .i64 (s : Int)] w fun e w' => e = .returned (.slice (blkA a i s 1) s s) ∧ w = w' := by
  obtain ⟨p, hp⟩ : ∃ p : Nat, i * s = p := ⟨_, rfl⟩
  have hq : (i + 1) * s = p + s := by rw [Nat.succ_mul, hp]
  have m1 : (i : Int) * (s : Int) = (p : Int) := by rw [← hp]; simp
  have m2 : ((i : Int) + 1) * (s : Int) = ((p + s : Nat) : Int) := by rw [← hq]; simp
  have hsl : ∀ W : World, (Instr.slice 23 (.slice a n c) (some (.int .i64 (p : Int))) (some (.int .i64 ((p + s : Nat) : Int))) (some (.int .i64 ((p + s : Nat) : Int)))).run Try.prog W = .ok (.slice (blkA a i s 1) s s) W := by
    intro W
    rw [run_slice_lhm W 23 a n c elemInts .i64 .i64 .i64 p ((p + s : Nat) : Int) ((p + s : Nat) : Int) (by omega) (by omega) (by omega) (by omega), sizeInts]
    show Result.ok (sliced _ _ _ _ _) W = _
    unfold sliced blkA
    rw [show (p : Int).toNat = p by omega, show ((p + s : Nat) : Int).toNat = p + s by omega, Nat.add_sub_cancel_left, hp]
    by_cases h0 : s = 0
    · rw [if_pos (by omega), if_pos h0]
    · rw [if_neg (by omega), if_neg h0]
  have hn' : ((n : Int) == 0) = false := by simp; omega
  obtain ⟨z, hz⟩ : ∃ z : Int, ((p + s : Nat) : Int) = z := ⟨_, rfl⟩
  have hzb : 0 ≤ z ∧ z ≤ 9223372036854775807 := by omega
  rw [hz] at m2 hsl
  have hpb : (p : Int) ≤ 9223372036854775807 := by omega
  have hw1 : IntKind.i64.wrap ((i : Int) * (s : Int)) = (p : Int) := by rw [m1]; simp [IntKind.wrap, IntKind.signed, IntKind.bits]; omega
  have hw2 : IntKind.i64.wrap (((i : Int) + 1) * (s : Int)) = z := by rw [m2]; simp [IntKind.wrap, IntKind.signed, IntKind.bits]; omega
  clear m1 m2 hz hq hp hb
  go_enter Try.func37, Try.ntmps37
  go_wp2_with fail
  go_ret
  exact ⟨rfl, rfl⟩

theorem blockA_nil (a : Option Addr) (c : Nat) (i s : Int) (w : World) :
    Calls Try.prog 38 #[.slice a 0 c, .int .i64 i, .int .i64 s] w fun e w' => e = .returned (.slice none 0 0) ∧ w = w' := by
  go_enter Try.func38, Try.ntmps38
  go_wp2_with fail
  go_ret
  exact ⟨rfl, rfl⟩
set_option maxHeartbeats 1000000 in
theorem blockA (a : Option Addr) (n c i s : Nat) (w : World) (hn : n ≠ 0) (hnc : n ≤ c) (hc : c ≤ 9223372036854775807) (hb : (i + 1) * s ≤ n) (hi : i ≤ 1000000) :
    Calls Try.prog 38 #[.slice a n c, .int .i64 (i : Int), .int .i64 (s : Int)] w fun e w' => e = .returned (.slice (blkA a i s 4) s s) ∧ w = w' := by
  obtain ⟨p, hp⟩ : ∃ p : Nat, i * s = p := ⟨_, rfl⟩
  have hq : (i + 1) * s = p + s := by rw [Nat.succ_mul, hp]
  have m1 : (i : Int) * (s : Int) = (p : Int) := by rw [← hp]; simp
  have m2 : ((i : Int) + 1) * (s : Int) = ((p + s : Nat) : Int) := by rw [← hq]; simp
  have hsl : ∀ W : World, (Instr.slice 24 (.slice a n c) (some (.int .i64 (p : Int))) (some (.int .i64 ((p + s : Nat) : Int))) (some (.int .i64 ((p + s : Nat) : Int)))).run Try.prog W = .ok (.slice (blkA a i s 4) s s) W := by
    intro W
    rw [run_slice_lhm W 24 a n c elemArrsC .i64 .i64 .i64 p ((p + s : Nat) : Int) ((p + s : Nat) : Int) (by omega) (by omega) (by omega) (by omega), sizeArrsC]
    show Result.ok (sliced _ _ _ _ _) W = _
    unfold sliced blkA
    rw [show (p : Int).toNat = p by omega, show ((p + s : Nat) : Int).toNat = p + s by omega, Nat.add_sub_cancel_left, hp]
    by_cases h0 : s = 0
    · rw [if_pos (by omega), if_pos h0]
    · rw [if_neg (by omega), if_neg h0]
  have hn' : ((n : Int) == 0) = false := by simp; omega
  obtain ⟨z, hz⟩ : ∃ z : Int, ((p + s : Nat) : Int) = z := ⟨_, rfl⟩
  have hzb : 0 ≤ z ∧ z ≤ 9223372036854775807 := by omega
  rw [hz] at m2 hsl
  have hpb : (p : Int) ≤ 9223372036854775807 := by omega
  have hw1 : IntKind.i64.wrap ((i : Int) * (s : Int)) = (p : Int) := by rw [m1]; simp [IntKind.wrap, IntKind.signed, IntKind.bits]; omega
  have hw2 : IntKind.i64.wrap (((i : Int) + 1) * (s : Int)) = z := by rw [m2]; simp [IntKind.wrap, IntKind.signed, IntKind.bits]; omega
  clear m1 m2 hz hq hp hb
  go_enter Try.func38, Try.ntmps38
  go_wp2_with fail
  go_ret
  exact ⟨rfl, rfl⟩
end Go.Proofs.Ytkjbccodahleoaa.Shape

namespace Go.Proofs.Ytkjbccodahleoaa.Shape
open Go.RowKit
set_option linter.unusedVariables false

/-- The block b holds L1, then A, then L2, and no cell of it is frozen. -/
def AreaAt (w : World) (b : Nat) (T : TypeId) (L1 A L2 : List Value) : Prop := w.heap[b]? = some (.cells (L1 ++ (A ++ L2)).toArray T (0, 0))
/-- Elements that lie elsewhere. -/
def ElsAt (w : World) (b : Nat) (a : Option Addr) (cs : List Value) : Prop := cs ≠ [] → ∃ be oe : Nat, a = some ⟨be, oe, none⟩ ∧ be ≠ b ∧ ∀ j v, cs[j]? = some v → w.cell? ⟨be, oe + j, none⟩ = some v
theorem ElsAt.but {w w' : World} {b : Nat} {a : Option Addr} {cs : List Value} (h : ElsAt w b a cs) (hb : But b w w') : ElsAt w' b a cs := fun hne => by
  obtain ⟨be, oe, ha, hn, hc⟩ := h hne
  exact ⟨be, oe, ha, hn, fun j v hj => hb.cell hn (hc j v hj)⟩
theorem But.drewN {t : Nat} {w : World} (n : Nat) : But t w (w.drewN n) := ⟨rfl, rfl, rfl, Nat.le_refl _, fun _ _ _ => rfl⟩
theorem But.drew {t : Nat} {w : World} : But t w w.drew := ⟨rfl, rfl, rfl, Nat.le_refl _, fun _ _ _ => rfl⟩
theorem IntsOn.but {t : Nat} {w w' : World} (h : But t w w') {a : Option Addr} {c : Nat} {xs : List Int} (hx : IntsOn (fun g => g ≠ t) w a c xs) : IntsOn (fun g => g ≠ t) w' a c xs :=
  hx.keep fun g hg hl => ⟨hg, fun o => World.cell?_of_block (h.block g hg hl)⟩
/-- Units of u cells. -/
def Units (u : Nat) (els : List (List Value)) : Prop := ∀ e ∈ els, e.length = u ∧ ∀ v ∈ e, v.oneCell' = true
theorem Units.len {u : Nat} : ∀ {els : List (List Value)}, Units u els → els.flatten.length = els.length * u
  | [], _ => by simp
  | e :: r, h => by
    have := Units.len (els := r) (fun x hx => h x (by simp [hx]))
    rw [List.flatten_cons, List.length_append, this, (h e (by simp)).1, List.length_cons, Nat.succ_mul, Nat.add_comm]
theorem Units.drop {u : Nat} : ∀ {els : List (List Value)} (k : Nat), Units u els → (els.drop k).flatten = els.flatten.drop (k * u)
  | els, 0, _ => by simp
  | [], k + 1, _ => by simp
  | e :: r, k + 1, h => by
    have := Units.drop (els := r) k (fun x hx => h x (by simp [hx]))
    have hl := (h e (by simp)).1
    rw [List.drop_succ_cons, this, List.flatten_cons, Nat.succ_mul, List.drop_append, List.drop_of_length_le (l := e) (by omega), List.nil_append, hl, Nat.add_sub_cancel]
theorem Units.take {u : Nat} : ∀ {els : List (List Value)} (k : Nat), Units u els → (els.take k).flatten = els.flatten.take (k * u)
  | els, 0, _ => by simp
  | [], k + 1, _ => by simp
  | e :: r, k + 1, h => by
    have := Units.take (els := r) k (fun x hx => h x (by simp [hx]))
    have hl := (h e (by simp)).1
    rw [List.take_succ_cons, List.flatten_cons, this, List.flatten_cons, Nat.succ_mul, List.take_append, List.take_of_length_le (l := e) (by omega), hl, Nat.add_sub_cancel]
theorem Units.part {u : Nat} {els : List (List Value)} (h : Units u els) (i m : Nat) : Units u ((els.drop i).take m) := fun e he => h e (List.mem_of_mem_drop (List.mem_of_mem_take he))
theorem units_rep {u n : Nat} {z : List Value} (hz : z.length = u ∧ ∀ v ∈ z, v.oneCell' = true) : Units u (List.replicate n z) := fun e he => by rw [(List.mem_replicate.1 he).2]; exact hz
theorem rep_len {u n : Nat} {z : List Value} (hz : z.length = u ∧ ∀ v ∈ z, v.oneCell' = true) : ((List.replicate n z).flatten).length = n * u := by
  rw [(units_rep hz).len, List.length_replicate]
theorem rep_split {z : List Value} (n m : Nat) : (List.replicate (n + m) z).flatten = (List.replicate n z).flatten ++ (List.replicate m z).flatten := by
  rw [← List.replicate_append_replicate, List.flatten_append]
theorem ElsAt.blk {w : World} {b u : Nat} {a : Option Addr} {els : List (List Value)} (hu : Units u els) (h : ElsAt w b a els.flatten) (i s : Nat) (hs : s ≠ 0) : ElsAt w b (blkA a i s u) (((els.drop (i * s)).take s).flatten) := by
  intro hne
  have e : ((els.drop (i * s)).take s).flatten = (els.flatten.drop (i * s * u)).take (s * u) := by
    have h1 : Units u (els.drop (i * s)) := fun x hx => hu x (List.mem_of_mem_drop hx)
    rw [h1.take, hu.drop]
  rw [e] at hne ⊢
  obtain ⟨be, oe, ha, hn, hc⟩ := h (fun h0 => hne (by rw [h0]; simp))
  refine ⟨be, oe + i * s * u, by rw [ha, blkA_some hs], hn, fun j v hj => ?_⟩
  have hj2 : j < s * u := by
    have := (List.getElem?_eq_some_iff.1 hj).1
    rw [List.length_take] at this
    omega
  rw [List.getElem?_take_of_lt hj2, List.getElem?_drop] at hj
  rw [Nat.add_assoc]
  exact hc _ _ hj
/-- A copy into the part, from its beginning on. -/
theorem area_copy {P : Program} (w : World) (dT sT elem T : TypeId) (b N pc M ec u : Nat) (L1 L2 : List Value) (els tgt : List (List Value)) (ea : Option Addr)
    (hd : P.underlying dT = some (.slice elem)) (hs : (P.info? elem).map (·.size) = some u) (ht : Units u tgt) (hN : tgt.length = N) (hu : Units u els) (hu0 : 0 < u) (hM : M = els.length) (hM0 : M ≠ 0) (hMN : M ≤ N)
    (hT : AreaAt w b T L1 tgt.flatten L2) (hE : ElsAt w b ea els.flatten) :
    ∃ W, (∀ ty, (Builtin.copy_ #[dT, sT] ty #[.slice (some ⟨b, L1.length, none⟩) N pc, .slice ea M ec]).run P w = .ok (goInt M) W) ∧ AreaAt W b T L1 (els ++ tgt.drop M).flatten L2 ∧ But b w W := by
  subst hM
  have hl := hu.len
  have hr := ht.len
  rw [hN] at hr
  have hm : els.length * u ≤ N * u := Nat.mul_le_mul_right _ hMN
  have h1 : 1 * u ≤ els.length * u := Nat.mul_le_mul_right _ (by omega)
  obtain ⟨be, oe, ha, hn, hc⟩ := hE (fun e => by rw [e] at hl; simp at hl; omega)
  have hmin : Nat.min els.length N = els.length := Nat.min_eq_left hMN
  have hrun := fun ty => run_copy_wide (P := P) w dT sT ty elem b L1.length N pc ⟨be, oe, none⟩ els.length ec u _ T els.flatten hd hs hT (by rw [hmin, hl]) (fun j v hj => by rw [add_plain]; exact hc j v hj)
    (by rw [List.size_toArray, List.length_append, List.length_append, hr, hl]; omega) (fun v hv => by
      obtain ⟨e, he, hv⟩ := List.mem_flatten.1 hv
      exact (hu e he).2 v hv)
  rw [hmin] at hrun
  subst ha
  refine ⟨_, hrun, ?_, ⟨rfl, rfl, rfl, by simp [World.setRow], fun g hg hl => setRow_other _ _ _ _ hg⟩⟩
  unfold AreaAt
  rw [setRow_heap w b _ _ T _ hT]
  congr 3
  have e1 : (L1 ++ (tgt.flatten ++ L2)).take L1.length = L1 := by rw [List.take_append_of_le_length (Nat.le_refl _), List.take_length]
  have e2 : (L1 ++ (tgt.flatten ++ L2)).drop (L1.length + els.flatten.length) = (tgt.drop els.length).flatten ++ L2 := by
    rw [List.drop_append, List.drop_of_length_le (by omega), List.nil_append, Nat.add_sub_cancel_left, List.drop_append_of_le_length (by omega), ht.drop, hl]
  show List.take _ (L1 ++ (tgt.flatten ++ L2)) ++ (_ ++ List.drop _ (L1 ++ (tgt.flatten ++ L2))) = _
  rw [e1, e2, List.flatten_append, List.append_assoc]
/-- No axis, or one: the elements, and then what stood there. -/
theorem padT_small {α : Type} (ts fs : List Int) (els tgt : List α) (h1 : ts.length ≤ 1) (hl : fs.length ≤ ts.length) (ht : NN ts) (hf : NN fs) (hfit : fits ts (leadS fs ts.length)) (he : els.length = prN fs) (hg : tgt.length = prN ts) :
    padT ts (leadS fs ts.length) els tgt = els ++ tgt.drop els.length := by
  match ts, fs with
  | [], [] =>
    have e : tgt.drop els.length = [] := List.drop_of_length_le (by rw [he, hg]; exact Nat.le_refl _)
    rw [e, List.append_nil]; rfl
  | [], _ :: _ => simp at hl
  | [t], [] =>
    have e : leadS [] [t].length = [1] := rfl
    rw [e] at hfit ⊢
    have e2 : prN [t] = t.toNat := by simp [prN, pr]
    have e3 : els.length = 1 := he
    rw [padT_one t 1 els tgt (by decide) hfit.1 (by rw [e3]; rfl) (by rw [hg, e2]), e3]; rfl
  | [t], [f] =>
    have e : leadS [f] [t].length = [f] := rfl
    rw [e] at hfit ⊢
    have e2 : prN [t] = t.toNat := by simp [prN, pr]
    have e3 : els.length = f.toNat := by rw [he]; simp [prN, pr]
    rw [padT_one t f els tgt hf.head hfit.1 e3 (by rw [hg, e2]), e3]
  | [_], _ :: _ :: _ => simp at hl
  | _ :: _ :: _, _ => simp at h1
theorem IntsOn.from1 {P : Nat → Prop} {w : World} {a : Option Addr} {c : Nat} {x : Int} {xs : List Int} (h : IntsOn P w a c (x :: xs)) : IntsOn P w (fromAt a c 1) (c - 1) xs ∧
    (∀ w', (Instr.slice 23 (.slice a (xs.length + 1) c) (some (.int .i64 1)) none none).run Try.prog w' = .ok (.slice (fromAt a c 1) xs.length (c - 1)) w') ∧
    ∃ bb oo : Nat, (∀ w', (Instr.indexAt 23 (.slice a (xs.length + 1) c) (.int .i64 0)).run Try.prog w' = .ok (.pointer (some ⟨bb, oo, none⟩)) w') ∧ w.cell? ⟨bb, oo, none⟩ = some (.int .i64 x) ∧ P bb := by
  obtain ⟨h1, h2⟩ := h.1.from 1 (by simp)
  obtain ⟨bb, oo, h3, h4⟩ := h.1.at (k := 0) (by simp)
  have ha : a = some ⟨bb, oo, none⟩ := by
    obtain ⟨⟨-, -, -, b', o', ha', -⟩, -⟩ := h
    have e := ha' (by simp)
    subst e
    have := (h3 w).symm.trans (show _ = Result.ok (Value.pointer (some ⟨b', o', none⟩)) w by
      rw [run_indexAt_slice w _ _ _ _ .i64 _ elemInts, if_pos (by simp), sizeInts]
      show Result.ok _ w = _
      simp [add_plain])
    simpa using this.symm
  have hP : P bb := h.2 (by simp) _ ha
  refine ⟨⟨h1, fun hne ad e => ?_⟩, fun w' => h2 w', bb, oo, fun w' => h3 w', h4, hP⟩
  rw [ha, fromAt] at e
  split at e
  · cases e; exact hP
  · simp only [Option.map_some, add_plain, Option.some.injEq] at e
    subst e; exact hP
theorem quo_nat {N t s : Nat} (h : N = t * s) (ht : t ≠ 0) : ((N : Int)).tdiv (t : Int) = (s : Int) := by
  subst h
  rw [Int.tdiv_eq_ediv_of_nonneg (by omega), Int.natCast_mul]
  exact Int.mul_ediv_cancel_left _ (by omega)
theorem area_mid {w : World} {b : Nat} {T : TypeId} {L1 A B C L2 : List Value} : AreaAt w b T L1 (A ++ (B ++ C)) L2 ↔ AreaAt w b T (L1 ++ A) B (C ++ L2) := by
  unfold AreaAt
  simp only [List.append_assoc]
end Go.Proofs.Ytkjbccodahleoaa.Shape

namespace Go.Proofs.Ytkjbccodahleoaa.Shape
open Go.RowKit
set_option linter.unusedVariables false

/-- New from B on, not frozen, and not the row G. -/
def Apart (B G : Nat) (w : World) (g : Nat) : Prop := B ≤ g ∧ Thaw w g ∧ g ≠ G
/-- A new array whose parts lie apart: the shape below M, the numbers from M on, the items in the row G, and what they hold elsewhere. -/
def SplitAt (B : Nat) (w : World) (v : Value) (A : Arr) : Prop :=
  ∃ (M G : Nat) (a1 : Option Addr) (c1 : Nat) (a2 : Option Addr) (c2 : Nat) (a3 : Option Addr) (c3 : Nat), v = .agg #[.int .i64 A.kind, .slice a1 A.shape.length c1, .slice a2 A.nums.length c2, .slice a3 A.items.length c3] ∧
    (-9223372036854775808 ≤ A.kind ∧ A.kind ≤ 9223372036854775807) ∧ IntsOn (fun g => Apart B G w g ∧ g < M) w a1 c1 A.shape ∧ IntsOn (fun g => Apart B G w g ∧ M ≤ g) w a2 c2 A.nums ∧ A.items.length ≤ c3 ∧ c3 ≤ 9223372036854775807 ∧
    (A.items ≠ [] → a3 = some ⟨G, 0, none⟩ ∧ B ≤ G ∧ ∃ qs : List Value, w.heap[G]? = some (.cells qs.toArray 26 (0, 0)) ∧ (∀ u ∈ qs, u.oneCell' = true) ∧ Quads (Apart B G w) w qs A.items)
theorem SplitAt.keep {B : Nat} {w w' : World} {v : Value} {A : Arr} (h : SplitAt B w v A) (hk : ∀ g, B ≤ g → g < w.heap.size → w'.heap[g]? = w.heap[g]?) : SplitAt B w' v A := by
  obtain ⟨M, G, a1, c1, a2, c2, a3, c3, hv, hkd, i1, i2, h1, h2, row⟩ := h
  have kp : ∀ g, Apart B G w g → g < w.heap.size → Apart B G w' g ∧ ∀ o, w'.cell? ⟨g, o, none⟩ = w.cell? ⟨g, o, none⟩ := fun g hg hl =>
    ⟨⟨hg.1, thaw_of hg.2.1 (hk g hg.1 hl), hg.2.2⟩, fun o => World.cell?_of_block (hk g hg.1 hl)⟩
  refine ⟨M, G, a1, c1, a2, c2, a3, c3, hv, hkd, i1.keep fun g hg hl => ⟨⟨(kp g hg.1 hl).1, hg.2⟩, (kp g hg.1 hl).2⟩, i2.keep fun g hg hl => ⟨⟨(kp g hg.1 hl).1, hg.2⟩, (kp g hg.1 hl).2⟩, h1, h2, fun hne => ?_⟩
  obtain ⟨e, hB, qs, q1, q2, q3⟩ := row hne
  exact ⟨e, hB, qs, (hk G hB (lt_of_heap q1)).trans q1, q2, q3.keep kp⟩
theorem SplitAt.mono {B B' : Nat} {w : World} {v : Value} {A : Arr} (h : SplitAt B w v A) (hB : B' ≤ B) : SplitAt B' w v A := by
  obtain ⟨M, G, a1, c1, a2, c2, a3, c3, hv, hkd, i1, i2, h1, h2, row⟩ := h
  have kp : ∀ g, Apart B G w g → Apart B' G w g := fun g hg => ⟨Nat.le_trans hB hg.1, hg.2⟩
  refine ⟨M, G, a1, c1, a2, c2, a3, c3, hv, hkd, i1.mono fun g hg => ⟨kp g hg.1, hg.2⟩, i2.mono fun g hg => ⟨kp g hg.1, hg.2⟩, h1, h2, fun hne => ?_⟩
  obtain ⟨e, hB', qs, q1, q2, q3⟩ := row hne
  exact ⟨e, Nat.le_trans hB hB', qs, q1, q2, q3.keep fun g hg _ => ⟨kp g hg, fun _ => rfl⟩⟩
theorem SplitAt.below {B : Nat} {w w' : World} {v : Value} {A : Arr} (h : SplitAt B w v A) (hb : Below w.heap.size w w') : SplitAt B w' v A := h.keep fun g _ hl => hb.block g hl
/-- Its four cells. -/
theorem SplitAt.form {B : Nat} {w : World} {v : Value} {A : Arr} (h : SplitAt B w v A) : ∃ k sa ls sc na ln nc ia li ic, v = .agg #[.int .i64 k, .slice sa ls sc, .slice na ln nc, .slice ia li ic] := by
  obtain ⟨M, G, a1, c1, a2, c2, a3, c3, hv, -⟩ := h
  exact ⟨_, _, _, _, _, _, _, _, _, _, hv⟩
def GiveSplit (A : Arr) (w : World) (e : Ending) (w' : World) : Prop := ∃ v, e = .returned v ∧ SplitAt w.heap.size w' v A ∧ Below w.heap.size w w'
theorem GiveSplit.form {A : Arr} {w w' : World} {e : Ending} (h : GiveSplit A w e w') : ∃ k sa ls sc na ln nc ia li ic, e = .returned (.agg #[.int .i64 k, .slice sa ls sc, .slice na ln nc, .slice ia li ic]) ∧
    SplitAt w.heap.size w' (.agg #[.int .i64 k, .slice sa ls sc, .slice na ln nc, .slice ia li ic]) A ∧ Below w.heap.size w w' := by
  obtain ⟨v, rfl, hs, hb⟩ := h
  obtain ⟨k, sa, ls, sc, na, ln, nc, ia, li, ic, rfl⟩ := hs.form
  exact ⟨k, sa, ls, sc, na, ln, nc, ia, li, ic, rfl, hs, hb⟩
/-- The array that the result's variable holds after its four stores. -/
theorem split_set4 {w w1 w2 : World} {R : Nat} {A : Arr} {z0 z1 z2 z3 : Value} {k : Int} {a1 a2 a3 : Option Addr} {n1 m1 n2 m2 n3 m3 : Nat} (hR : w.heap.size ≤ R) (h1 : R < w1.heap.size) (hq : Quad w2 R z0 z1 z2 z3) (hO : SplitAt w1.heap.size w2 (.agg #[.int .i64 k, .slice a1 n1 m1, .slice a2 n2 m2, .slice a3 n3 m3]) A) (hb : Below w.heap.size w w2) :
    GiveSplit A w (.returned (.agg #[.int .i64 k, .slice a1 n1 m1, .slice a2 n2 m2, .slice a3 n3 m3])) ((((w2.setCell ⟨R, 0, none⟩ (.int .i64 k)).setCell ⟨R, 1, none⟩ (.slice a1 n1 m1)).setCell ⟨R, 2, none⟩ (.slice a2 n2 m2)).setCell ⟨R, 3, none⟩ (.slice a3 n3 m3)) := by
  obtain ⟨_, ho⟩ := set4 hq (.int .i64 k) (.slice a1 n1 m1) (.slice a2 n2 m2) (.slice a3 n3 m3)
  exact ⟨_, rfl, (hO.keep fun g hg _ => ho g (by omega)).mono (by omega), hb.trans (set4_below hR _ _ _ _)⟩
theorem split_zero (B : Nat) (w : World) : SplitAt B w (.agg #[.int .i64 0, .slice none 0 0, .slice none 0 0, .slice none 0 0]) zeroA :=
  ⟨0, 0, none, 0, none, 0, none, 0, rfl, by decide, ⟨ints_nil _, fun g => absurd rfl g⟩, ⟨ints_nil _, fun g => absurd rfl g⟩, Nat.le_refl _, by decide, fun g => absurd rfl g⟩
structure LInvM (w wr : World) (M G : Nat) (k : Int) (sh nu : List Int) (it : List Arr) (a1 a2 a3 : Option Addr) (c1 c2 c3 j : Nat) : Prop where
  par : Quad wr w.heap.size (.int .i64 k) (.slice a1 sh.length c1) (.slice a2 nu.length c2) (.slice a3 it.length c3)
  res : Quad wr (w.heap.size + 1) (.int .i64 0) (.slice none 0 0) (.slice none 0 0) (.slice none 0 0)
  i1 : IntsOn (fun g => Fresh w G wr g ∧ g < M) wr a1 c1 sh
  i2 : IntsOn (fun g => Fresh w G wr g ∧ M ≤ g) wr a2 c2 nu
  row : it ≠ [] → ∃ done todo, wr.heap[G]? = some (.cells (done ++ todo).toArray 26 (0, 0)) ∧ done.length = j * 4 ∧ (∀ u ∈ done ++ todo, u.oneCell' = true) ∧ Quads (Fresh w G wr) wr done (it.take j) ∧ Quads (fun g => g < w.heap.size) wr todo (it.drop j)
  bel : Below w.heap.size w wr
/-- One item more. -/
theorem cl_stepM {w wr w3 : World} {M G j : Nat} {k : Int} {sh nu : List Int} {it : List Arr} {a1 a2 a3 : Option Addr} {c1 c2 c3 : Nat} {done todo : List Value} {d0 d1 d2 d3 e0 e1 e2 e3 : Value}
    (hI : LInvM w wr M G k sh nu it a1 a2 a3 c1 c2 c3 j) (hG : w.heap.size + 2 ≤ G) (hj : j < it.length)
    (hrow : wr.heap[G]? = some (.cells (done ++ d0 :: d1 :: d2 :: d3 :: todo).toArray 26 (0, 0))) (hdl : done.length = j * 4) (hone : ∀ u ∈ done ++ d0 :: d1 :: d2 :: d3 :: todo, u.oneCell' = true)
    (hq1 : Quads (Fresh w G wr) wr done (it.take j)) (hq2 : Quads (fun g => g < w.heap.size) wr todo (it.drop (j + 1)))
    (hb : Below wr.heap.size wr w3) (hA : ArrOn (Own wr w3) w3 (.agg #[e0, e1, e2, e3]) it[j]) (hone' : ∀ u ∈ [e0, e1, e2, e3], u.oneCell' = true) (p : Nat) (hp : p = j * 4) :
    LInvM w ((((w3.setCell ⟨G, p, none⟩ e0).setCell ⟨G, p + 1, none⟩ e1).setCell ⟨G, p + 2, none⟩ e2).setCell ⟨G, p + 3, none⟩ e3) M G k sh nu it a1 a2 a3 c1 c2 c3 (j + 1) := by
  obtain ⟨par, res, i1, i2, -, bel⟩ := hI
  have hGl := lt_of_heap hrow
  have hrow3 : w3.heap[G]? = some (.cells (done ++ d0 :: d1 :: d2 :: d3 :: todo).toArray 26 (0, 0)) := (hb.block G hGl).trans hrow
  have hrow4 := row_set4 hrow3 (hdl.trans hp.symm) e0 e1 e2 e3
  have hoth := fun g (h : g ≠ G) => set4_other (w := w3) (p := p) (e0 := e0) (e1 := e1) (e2 := e2) (e3 := e3) g h
  have hbel : Below w.heap.size w ((((w3.setCell ⟨G, p, none⟩ e0).setCell ⟨G, p + 1, none⟩ e1).setCell ⟨G, p + 2, none⟩ e2).setCell ⟨G, p + 3, none⟩ e3) :=
    Below.setCell (Below.setCell (Below.setCell (Below.setCell (bel.trans (hb.mono bel.size)) (p := ⟨G, p, none⟩) (by show _ ≤ G; omega) _) (p := ⟨G, p + 1, none⟩) (by show _ ≤ G; omega) _) (p := ⟨G, p + 2, none⟩) (by show _ ≤ G; omega) _) (p := ⟨G, p + 3, none⟩) (by show _ ≤ G; omega) _
  generalize ((((w3.setCell ⟨G, p, none⟩ e0).setCell ⟨G, p + 1, none⟩ e1).setCell ⟨G, p + 2, none⟩ e2).setCell ⟨G, p + 3, none⟩ e3) = W4 at hrow4 hoth hbel ⊢
  have keepF : ∀ g, Fresh w G wr g → g < wr.heap.size → Fresh w G W4 g ∧ ∀ o, W4.cell? ⟨g, o, none⟩ = wr.cell? ⟨g, o, none⟩ := fun g hg hl =>
    have e : W4.heap[g]? = wr.heap[g]? := (hoth g hg.2.1).trans (hb.block g hl)
    ⟨⟨hg.1, hg.2.1, thaw_of hg.2.2 e⟩, fun o => World.cell?_of_block e⟩
  have keepO : ∀ g, g < w.heap.size → g < wr.heap.size → g < w.heap.size ∧ ∀ o, W4.cell? ⟨g, o, none⟩ = wr.cell? ⟨g, o, none⟩ := fun g hg hl =>
    ⟨hg, fun o => World.cell?_of_block ((hoth g (by omega)).trans (hb.block g hl))⟩
  have keepN : ∀ g, Own wr w3 g → g < w3.heap.size → Fresh w G W4 g ∧ ∀ o, W4.cell? ⟨g, o, none⟩ = w3.cell? ⟨g, o, none⟩ := fun g hg hl =>
    have h1 := hg.1
    have e : W4.heap[g]? = w3.heap[g]? := hoth g (by omega)
    ⟨⟨by omega, by omega, thaw_of hg.2 e⟩, fun o => World.cell?_of_block e⟩
  refine ⟨par.keep ((hoth _ (by omega)).trans (hb.block _ par.lt)), res.keep ((hoth _ (by omega)).trans (hb.block _ res.lt)), i1.keep fun g hg hl => ⟨⟨(keepF g hg.1 hl).1, hg.2⟩, (keepF g hg.1 hl).2⟩, i2.keep fun g hg hl => ⟨⟨(keepF g hg.1 hl).1, hg.2⟩, (keepF g hg.1 hl).2⟩, fun _ => ?_, hbel⟩
  refine ⟨done ++ [e0, e1, e2, e3], todo, ?_, by simp only [List.length_append, hdl, List.length_cons, List.length_nil]; omega, ?_, ?_, hq2.keep keepO⟩
  · rw [hrow4]; simp
  · intro u hu
    simp only [List.append_assoc, List.mem_append] at hu
    rcases hu with h | h | h
    · exact hone u (by simp [h])
    · exact hone' u h
    · exact hone u (by simp [h])
  · rw [List.take_succ_eq_append_getElem hj]
    exact (hq1.keep keepF).snoc (hA.keep keepN)

/-- The copy, whole. -/
theorem cl_endM {w wr W : World} {M G : Nat} {k : Int} {sh nu : List Int} {it : List Arr} {a1 a2 a3 : Option Addr} {c1 c2 c3 : Nat} (hI : LInvM w wr M G k sh nu it a1 a2 a3 c1 c2 c3 it.length) (hk : -9223372036854775808 ≤ k ∧ k ≤ 9223372036854775807) (hG : w.heap.size + 2 ≤ G)
    (h1 : it.length ≤ c3) (h2 : c3 ≤ 9223372036854775807) (h3 : it ≠ [] → a3 = some ⟨G, 0, none⟩) (hW : ∀ g, g ≠ w.heap.size + 1 → W.heap[g]? = wr.heap[g]?) :
    SplitAt w.heap.size W (.agg #[.int .i64 k, .slice a1 sh.length c1, .slice a2 nu.length c2, .slice a3 it.length c3]) (.mk k sh nu it) := by
  obtain ⟨par, res, i1, i2, row, bel⟩ := hI
  have keepF : ∀ g, Fresh w G wr g → g < wr.heap.size → Apart w.heap.size G W g ∧ ∀ o, W.cell? ⟨g, o, none⟩ = wr.cell? ⟨g, o, none⟩ := fun g hg hl =>
    have h := hg.1
    have e : W.heap[g]? = wr.heap[g]? := hW g (by omega)
    ⟨⟨by omega, thaw_of hg.2.2 e, hg.2.1⟩, fun o => World.cell?_of_block e⟩
  refine ⟨M, G, a1, c1, a2, c2, a3, c3, rfl, hk, i1.keep fun g hg hl => ⟨⟨(keepF g hg.1 hl).1, hg.2⟩, (keepF g hg.1 hl).2⟩, i2.keep fun g hg hl => ⟨⟨(keepF g hg.1 hl).1, hg.2⟩, (keepF g hg.1 hl).2⟩, h1, h2, fun hne => ⟨h3 hne, by omega, ?_⟩⟩
  obtain ⟨done, todo, hr, hd, ho, hq, hq2⟩ := row hne
  have hq2' : Quads (fun g => g < w.heap.size) wr todo ([] : List Arr) := by
    have := hq2
    rw [List.drop_length] at this
    exact this
  obtain rfl := quads_nil hq2'
  rw [List.append_nil] at hr ho
  refine ⟨done, (hW G (by omega)).trans hr, ho, ?_⟩
  have := hq
  rw [List.take_length] at this
  exact this.keep keepF
end Go.Proofs.Ytkjbccodahleoaa.Shape
