/-
  Layer 3: the program's copied: copies of lists, of ints and of arrays.
-/
import Derived.Test.YtngcahaidlgkfaaDoorArrP4
import Derived.Test.YtngcahaidlgkfaaDoorArrChg
import Derived.Laws.CopyOwn
import Derived.Laws.MakeOwn
import Derived.OwnWalk
namespace Go.Proofs.YtngcahaidlgkfaaDoor.Shape
open Go.RowKit
set_option linter.unusedVariables false

/-- copy into a row that is known whole, for elements of any number of cells. -/
theorem run_copy_wide {P : Program} (w : World) (dT sT ty elem : TypeId) (g o dLen dCap : Nat) (a : Addr) (sLen sCap sz : Nat) (cur : Array Value) (t : TypeId) (cs : List Value)
    (hu : P.underlying dT = some (.slice elem)) (hs : (P.info? elem).map (·.size) = some sz)
    (hg : w.heap[g]? = some (.cells cur t (0, 0))) (hn : cs.length = Nat.min sLen dLen * sz)
    (hsrc : ∀ j v, cs[j]? = some v → w.cell? (a.add j) = some v) (hfit : o + cs.length ≤ cur.size) (h1 : ∀ v ∈ cs, v.oneCell' = true) :
    (Builtin.copy_ #[dT, sT] ty #[.slice (some ⟨g, o, none⟩) dLen dCap, .slice (some a) sLen sCap]).run P w =
      .ok (goInt (Nat.min sLen dLen)) (w.setRow g (cur.toList.take o ++ (cs ++ cur.toList.drop (o + cs.length))).toArray) := by
  have hl := run_loadCells_list (P := P) w a cs hsrc
  have hst := run_storeCells_at P g o t cs 0 cur w hg (by simpa using hfit) h1
  cases hq : P.info? elem with
  | none => simp [hq] at hs
  | some i =>
    have hi : i.size = sz := by simpa [hq] using hs
    rw [hn] at hl hst
    simp [Builtin.copy_, run_underlying hu, Builtin.lenOf, Builtin.firstCells, sizeOf, typeInfo, hq, hi, hl, hst, hn]
theorem wpList_copy_wide {P : Program} {w : World} {ops : Array Oper} {rest : List Oper} {o : Oper} {a : Act} {Q : Exit → Act → World → Prop} (hgd : o.guard = none) (d s : Operand) (dT sT : TypeId)
    (ho : o.op = .call { callee := .builtin .copy, args := #[d, s], argTypes := #[dT, sT] }) (elem : TypeId) (sz : Nat) (hu : P.underlying dT = some (.slice elem)) (hsz : (P.info? elem).map (·.size) = some sz)
    (g off dLen dCap : Nat) (ad : Addr) (sLen sCap : Nat) (hd : a.eval d = .slice (some ⟨g, off, none⟩) dLen dCap) (hs : a.eval s = .slice (some ad) sLen sCap)
    (cur : Array Value) (t : TypeId) (hg : w.heap[g]? = some (.cells cur t (0, 0))) (cs : List Value) (hn : cs.length = Nat.min sLen dLen * sz)
    (hsrc : ∀ j v, cs[j]? = some v → w.cell? (ad.add j) = some v) (hfit : off + cs.length ≤ cur.size) (h1 : ∀ v ∈ cs, v.oneCell' = true)
    (h : wpList P ops Q rest (a.put o.dst (goInt (Nat.min sLen dLen))) (w.setRow g (cur.toList.take off ++ (cs ++ cur.toList.drop (off + cs.length))).toArray)) : wpList P ops Q (o :: rest) a w := by
  refine wpList_plain hgd fun K hK => ?_
  have hrun := run_copy_wide (P := P) w dT sT o.type elem g off dLen dCap ad sLen sCap sz cur t cs hu hsz hg hn hsrc hfit h1
  unfold Oper.wp
  simp [execOp, ho, resolve, invoke, builtin, hd, hs, hrun, Result.andThen]
  exact hK _ _ h

/-- New, and no cell of it is frozen. -/
def Own (w w' : World) (g : Nat) : Prop := w.heap.size ≤ g ∧ Thaw w' g
theorem lt_of_heap {w : World} {g : Nat} {o : Obj} (h : w.heap[g]? = some o) : g < w.heap.size := by
  rcases Nat.lt_or_ge g w.heap.size with h1 | h1
  · exact h1
  · rw [Array.getElem?_eq_none h1] at h; cases h
theorem Thaw.lt {w : World} {g : Nat} (h : Thaw w g) : g < w.heap.size := by
  obtain ⟨cs, t, h⟩ := h
  exact lt_of_heap h
theorem Thaw.below {w w' : World} {g : Nat} (h : Thaw w g) (hb : Below w.heap.size w w') : Thaw w' g := by
  have hl := h.lt
  obtain ⟨cs, t, h⟩ := h
  exact ⟨cs, t, (hb.block g hl).trans h⟩
theorem sizeInt1 : (Tryd.prog.info? 3).map (·.size) = some 1 := by kernel_rfl
theorem sizeArr4 : (Tryd.prog.info? 26).map (·.size) = some 4 := by kernel_rfl
theorem infoArr' : (Tryd.prog.info? 26).map (fun i => (i.zero, i.size, i.bytes)) = some (some (.agg #[.int .i64 0, .slice none 0 0, .slice none 0 0, .slice none 0 0]), 4, 80) := by kernel_rfl
theorem setRow_whole {w : World} {g : Nat} {cur : Array Value} {t : TypeId} {cs : List Value} (hg : w.heap[g]? = some (.cells cur t (0, 0))) (hl : cs.length = cur.size) :
    (w.setRow g (cur.toList.take 0 ++ (cs ++ cur.toList.drop (0 + cs.length))).toArray).heap[g]? = some (.cells cs.toArray t (0, 0)) := by
  rw [setRow_heap w g cur _ t _ hg, List.take_zero, List.nil_append, List.drop_of_length_le (by simp [hl]), List.append_nil]
theorem below_row {w w' : World} {t : TypeId} {z : Array Value} {cs : Array Value} (hw : w' = (w.alloc (.cells z t)).setRow w.heap.size cs) : Below w.heap.size w w' := by
  subst hw
  exact below_setRow (below_new w _) (Nat.le_refl _) _
theorem run_makeInts (w : World) (n : Nat) (hn : n * 8 ≤ 140737488351232) : (Instr.makeSlice 23 (.int .i64 (n : Int)) (.int .i64 (n : Int))).run Tryd.prog w = .ok (.slice (some ⟨w.heap.size, 0, none⟩) n n) (w.alloc (.cells (madeCells #[.int .i64 0] n) 3)) := by
  obtain ⟨i0, hi, hz0, hz1, hz2⟩ := info_parts infoInt
  have := run_make (P := Tryd.prog) w 23 3 i0 _ Tryd.underlying23 hi hz0 .i64 .i64 n n (by omega) (Int.le_refl _) (by rw [hz2]; omega) (by omega)
  rw [hz1, Nat.mul_one] at this
  simp only [Int.toNat_natCast] at this
  exact this
theorem run_makeArrs (w : World) (n : Nat) (hn : n * 80 ≤ 140737488351232) : (Instr.makeSlice 24 (.int .i64 (n : Int)) (.int .i64 (n : Int))).run Tryd.prog w = .ok (.slice (some ⟨w.heap.size, 0, none⟩) n n) (w.alloc (.cells (madeCells #[.int .i64 0, .slice none 0 0, .slice none 0 0, .slice none 0 0] (n * 4)) 26)) := by
  obtain ⟨i0, hi, hz0, hz1, hz2⟩ := info_parts infoArr'
  have := run_make (P := Tryd.prog) w 24 26 i0 _ Tryd.underlying24 hi hz0 .i64 .i64 n n (by omega) (Int.le_refl _) (by rw [hz2]; omega) (by omega)
  rw [hz1] at this
  simp only [Int.toNat_natCast] at this
  exact this

def GiveInts (xs : List Int) (w : World) (e : Ending) (w' : World) : Prop := ∃ a c, e = .returned (.slice a xs.length c) ∧ IntsOn (Own w w') w' a c xs ∧ Below w.heap.size w w'
theorem GiveInts.nil {w : World} {e : Ending} (he : e = .returned (.slice none 0 0)) : GiveInts [] w e w := ⟨none, 0, he, ⟨⟨Nat.zero_le _, by decide, fun x hx => absurd hx (by simp), 0, 0, fun hn => absurd rfl hn, fun i hi => absurd hi (by simp)⟩, fun g => absurd rfl g⟩, Below.refl _ _⟩
theorem GiveInts.row {xs : List Int} {w w' : World} {e : Ending} {t : TypeId} {n c : Nat} (hn : n = xs.length) (hc : n ≤ c) (hc2 : c ≤ 9223372036854775807) (he : e = .returned (.slice (some ⟨w.heap.size, 0, none⟩) n c)) (hg : w'.heap[w.heap.size]? = some (.cells (xs.map (Value.int .i64)).toArray t (0, 0))) (hbd : ∀ x ∈ xs, -9223372036854775808 ≤ x ∧ x ≤ 9223372036854775807) (hb : Below w.heap.size w w') (ht : t ≠ 5 := by decide) : GiveInts xs w e w' := by
  subst hn
  refine ⟨_, c, he, ⟨⟨hc, hc2, hbd, w.heap.size, 0, fun _ => rfl, fun i hi => ?_⟩, fun _ ad e => by cases e; exact ⟨Nat.le_refl _, _, ⟨t, ht⟩, hg⟩⟩, hb⟩
  simp [World.cell?, hg, hi]

set_option maxHeartbeats 1000000 in
theorem copiedIQ (a : Option Addr) (cap : Nat) (xs : List Int) (w : World) (h : IntsAt w a cap xs) (hr : xs.length * 8 ≤ 140737488351232) :
    Calls Tryd.prog 91 #[.slice a xs.length cap] w (GiveInts xs w) := by
  have hl := h.len
  cases a with
  | none =>
    have hx : xs = [] := by
      obtain ⟨-, -, -, b, off, ha, -⟩ := h
      exact Classical.byContradiction fun g => by cases ha g
    subst hx
    have heq : ∀ (W : World) (n : Nat), (binOp .eql 23 (.slice none n cap) (.slice none 0 0)).run Tryd.prog W = .ok (.bool true) W := fun W _ => Lib.run_eql_slice_nil W _ _ _ _ _ _ _ Tryd.underlying23
    go_enter Tryd.func91, Tryd.ntmps91
    go_wp2_with fail
    go_ret
    exact GiveInts.nil rfl
  | some ad =>
    have hm := run_makeInts w xs.length hr
    have hsrc : ∀ W : World, Below w.heap.size w W → ∀ j v, (xs.map (Value.int .i64))[j]? = some v → W.cell? (ad.add j) = some v := by
      intro W hW j v hj
      have hjl : j < xs.length := by
        have := (List.getElem?_eq_some_iff.1 hj).1
        simpa using this
      obtain ⟨-, -, -, b, off, ha, hc⟩ := h
      have e := ha (by intro e; subst e; simp at hjl)
      cases e
      rw [add_plain, hW.cell (cell_lt (hc j hjl)), hc j hjl, ← hj, List.getElem?_map, List.getElem?_eq_getElem hjl]
      rfl
    have hbd := h.2.2.1
    clear h
    obtain ⟨W2, hW2, hg, hb⟩ : ∃ W2, (∀ ty, (Builtin.copy_ #[23, 23] ty #[.slice (some ⟨w.heap.size, 0, none⟩) xs.length xs.length, .slice (some ad) xs.length cap]).run Tryd.prog (w.alloc (.cells (madeCells #[.int .i64 0] xs.length) 3)) = .ok (goInt xs.length) W2) ∧ W2.heap[w.heap.size]? = some (.cells (xs.map (Value.int .i64)).toArray 3 (0, 0)) ∧ Below w.heap.size w W2 := by
      have hc := fun ty => run_copy_wide (P := Tryd.prog) (w.alloc (.cells (madeCells #[.int .i64 0] xs.length) 3)) 23 23 ty 3 w.heap.size 0 xs.length xs.length ad xs.length cap 1 (madeCells #[.int .i64 0] xs.length) 3 (xs.map (Value.int .i64)) Tryd.underlying23 sizeInt1 (heap_alloc_new w _) (by simp) (hsrc _ (below_new w _)) (by simp [size_madeCells]) (by intro u hu; obtain ⟨x, _, rfl⟩ := List.mem_map.1 hu; rfl)
      rw [show Nat.min xs.length xs.length = xs.length from Nat.min_self _] at hc
      exact ⟨_, hc, setRow_whole (heap_alloc_new w _) (by rw [size_madeCells, List.length_map]), below_row rfl⟩
    have heq : ∀ W : World, (binOp .eql 23 (.slice (some ad) xs.length cap) (.slice none 0 0)).run Tryd.prog W = .ok (.bool false) W := fun W => Lib.run_eql_slice_nil W _ _ _ _ _ _ _ Tryd.underlying23
    go_enter Tryd.func91, Tryd.ntmps91
    go_wp2_with fail
    go_ret
    exact GiveInts.row rfl (Nat.le_refl _) hl rfl hg hbd hb

/-- The cells of a list of arrays, and what each four of them are. -/
theorem arrs_quads {P : Nat → Prop} {w : World} {b : Nat} : ∀ {l : List Arr} {off : Nat}, ArrsOn P w b off l → ∃ qs : List Value, qs.length = l.length * 4 ∧ (∀ i (h : i < qs.length), w.cell? ⟨b, off + i, none⟩ = some qs[i]) ∧ Quads P w qs l ∧ ∀ u ∈ qs, u.oneCell' = true
  | [], off, _ => ⟨[], rfl, fun i h => absurd h (by simp), by rw [Quads]; trivial, by simp⟩
  | A :: r, off, h => by
    rw [ArrsOn] at h
    obtain ⟨⟨c0, c1, c2, c3, ⟨h0, h1, h2, h3⟩, hA⟩, hr⟩ := h
    obtain ⟨qs, q1, q2, q3, q4⟩ := arrs_quads hr
    refine ⟨c0 :: c1 :: c2 :: c3 :: qs, by simp only [List.length_cons, q1]; omega, fun i hi => ?_, by rw [Quads]; exact ⟨hA, q3⟩, ?_⟩
    · match i, hi with
      | 0, _ => exact h0
      | 1, _ => exact h1
      | 2, _ => exact h2
      | 3, _ => exact h3
      | i + 4, hi =>
        have := q2 i (by simpa using hi)
        rw [show off + (i + 4) = off + 4 + i by omega, this]
        rfl
    · obtain ⟨k, a1, n1, m1, a2, n2, m2, a3, n3, m3, rfl, rfl, rfl, rfl⟩ := hA.at.four
      intro u hu
      simp only [List.mem_cons] at hu
      rcases hu with rfl | rfl | rfl | rfl | hu
      · rfl
      · rfl
      · rfl
      · rfl
      · exact q4 u hu

/-- A new list whose items are still the old ones. -/
def GiveArrs (P : Nat → Prop) (l : List Arr) (w : World) (e : Ending) (w' : World) : Prop :=
  ∃ a c, e = .returned (.slice a l.length c) ∧ l.length ≤ c ∧ c ≤ 9223372036854775807 ∧ Below w.heap.size w w' ∧ (a = none → l = []) ∧
    ∀ ad, a = some ad → ∃ g qs, ad = ⟨g, 0, none⟩ ∧ w.heap.size ≤ g ∧ w'.heap[g]? = some (.cells qs.toArray 26 (0, 0)) ∧ qs.length = l.length * 4 ∧ Quads P w' qs l ∧ ∀ u ∈ qs, u.oneCell' = true

set_option maxHeartbeats 1000000 in
theorem copiedAQ (P : Nat → Prop) (a : Option Addr) (cap b off : Nat) (l : List Arr) (w : World) (hlc : l.length ≤ cap) (hc : cap ≤ 9223372036854775807) (ha : l ≠ [] → a = some ⟨b, off, none⟩) (h : ArrsOn P w b off l) (hr : l.length * 80 ≤ 140737488351232) :
    Calls Tryd.prog 92 #[.slice a l.length cap] w (GiveArrs P l w) := by
  have hl : l.length ≤ 9223372036854775807 := by omega
  cases a with
  | none =>
    have hx : l = [] := Classical.byContradiction fun g => by cases ha g
    subst hx
    have heq : ∀ (W : World) (n : Nat), (binOp .eql 24 (.slice none n cap) (.slice none 0 0)).run Tryd.prog W = .ok (.bool true) W := fun W _ => Lib.run_eql_slice_nil W _ _ _ _ _ _ _ Tryd.underlying24
    go_enter Tryd.func92, Tryd.ntmps92
    go_wp2_with fail
    go_ret
    exact ⟨none, 0, rfl, Nat.le_refl _, by decide, Below.refl _ _, fun _ => rfl, fun ad e => by cases e⟩
  | some ad =>
    have hm := run_makeArrs w l.length hr
    obtain ⟨qs, q1, q2, q3, q4⟩ := arrs_quads h
    have bn := below_new w (.cells (madeCells #[.int .i64 0, .slice none 0 0, .slice none 0 0, .slice none 0 0] (l.length * 4)) 26)
    have hsrc : ∀ j v, qs[j]? = some v → (w.alloc (.cells (madeCells #[.int .i64 0, .slice none 0 0, .slice none 0 0, .slice none 0 0] (l.length * 4)) 26)).cell? (ad.add j) = some v := by
      intro j v hj
      have hjl : j < qs.length := (List.getElem?_eq_some_iff.1 hj).1
      have e := ha (by intro e; subst e; simp at q1; subst q1; simp at hjl)
      cases e
      rw [add_plain, bn.cell (cell_lt (q2 j hjl)), q2 j hjl, ← hj, List.getElem?_eq_getElem hjl]
    obtain ⟨W2, hW2, hg, hb⟩ : ∃ W2, (∀ ty, (Builtin.copy_ #[24, 24] ty #[.slice (some ⟨w.heap.size, 0, none⟩) l.length l.length, .slice (some ad) l.length cap]).run Tryd.prog (w.alloc (.cells (madeCells #[.int .i64 0, .slice none 0 0, .slice none 0 0, .slice none 0 0] (l.length * 4)) 26)) = .ok (goInt l.length) W2) ∧ W2.heap[w.heap.size]? = some (.cells qs.toArray 26 (0, 0)) ∧ Below w.heap.size w W2 := by
      have hc := fun ty => run_copy_wide (P := Tryd.prog) (w.alloc (.cells (madeCells #[.int .i64 0, .slice none 0 0, .slice none 0 0, .slice none 0 0] (l.length * 4)) 26)) 24 24 ty 26 w.heap.size 0 l.length l.length ad l.length cap 4 (madeCells #[.int .i64 0, .slice none 0 0, .slice none 0 0, .slice none 0 0] (l.length * 4)) 26 qs Tryd.underlying24 sizeArr4 (heap_alloc_new w _) (by rw [q1]; simp) hsrc (by rw [size_madeCells, q1]; omega) q4
      rw [show Nat.min l.length l.length = l.length from Nat.min_self _] at hc
      exact ⟨_, hc, setRow_whole (heap_alloc_new w _) (by rw [size_madeCells, q1]), below_row rfl⟩
    have heq : ∀ W : World, (binOp .eql 24 (.slice (some ad) l.length cap) (.slice none 0 0)).run Tryd.prog W = .ok (.bool false) W := fun W => Lib.run_eql_slice_nil W _ _ _ _ _ _ _ Tryd.underlying24
    clear h ha hsrc bn
    go_enter Tryd.func92, Tryd.ntmps92
    go_wp2_with fail
    go_ret
    exact ⟨_, _, rfl, Nat.le_refl _, hl, hb, (fun e => by cases e), (fun ad e => by cases e; exact ⟨_, qs, rfl, Nat.le_refl _, hg, q1, q3.keep fun g hp hl => ⟨hp, fun _ => hb.cell hl⟩, q4⟩)⟩
end Go.Proofs.YtngcahaidlgkfaaDoor.Shape
