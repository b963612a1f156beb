/-
  Layer 11: lists of strings in blocks of their own.
-/
import Derived.Test.YtmbljiapfbadeaaNamFind
namespace Go.Proofs.Ytmbljiapfbadeaa.Nam
open Go.RowKit Go.Maps
set_option linter.unusedVariables false

theorem heap_lt {w : World} {g : Nat} {o : Obj} (h : w.heap[g]? = some o) : g < w.heap.size := (Array.getElem?_eq_some_iff.1 h).1
theorem row_set {w : World} {G o : Nat} {cs : List Value} {t : TypeId} (h : w.heap[G]? = some (.cells cs.toArray t (0, 0))) (u : Value) : (w.setCell ⟨G, o, none⟩ u).heap[G]? = some (.cells (cs.set o u).toArray t (0, 0)) := by
  have hl := heap_lt h
  have h' : w.heap[G] = .cells cs.toArray t (0, 0) := by simpa [Array.getElem?_eq_getElem hl] using h
  show (w.heap.modify G _)[G]? = _
  rw [Array.getElem?_eq_getElem (by simpa using hl), Array.getElem_modify_self, h']
  simp
theorem add_plain (b off k : Nat) : (⟨b, off, none⟩ : Addr).add k = ⟨b, off + k, none⟩ := by unfold Addr.add; split <;> simp_all
/-- The block g holds the strings L, none of them frozen. -/
def Strs (w : World) (g : Nat) (L : List ByteArray) : Prop := w.heap[g]? = some (.cells (L.map Value.string).toArray 9 (0, 0))
theorem Strs.lt {w : World} {g : Nat} {L : List ByteArray} (h : Strs w g L) : g < w.heap.size := heap_lt h
theorem Strs.below {w w' : World} {g : Nat} {L : List ByteArray} (h : Strs w g L) (hb : Below w.heap.size w w') : Strs w' g L := (hb.block g h.lt).trans h
theorem Strs.but {w w' : World} {g b : Nat} {L : List ByteArray} (h : Strs w g L) (hb : But b w w') (hg : g ≠ b) : Strs w' g L := (hb.block g h.lt hg).trans h
theorem Strs.cell {w : World} {g : Nat} {L : List ByteArray} (h : Strs w g L) {j : Nat} (hj : j < L.length) : w.cell? ⟨g, j, none⟩ = some (.string L[j]) := by
  unfold Strs at h
  simp [World.cell?, h, hj]
theorem Strs.free {w : World} {g : Nat} {L : List ByteArray} (h : Strs w g L) (j : Nat) : w.frozen? ⟨g, j, none⟩ = false := by
  unfold Strs at h
  simp [World.frozen?, h]
theorem Strs.set {w : World} {g : Nat} {L : List ByteArray} (h : Strs w g L) (j : Nat) (s : ByteArray) : Strs (w.setCell ⟨g, j, none⟩ (.string s)) g (L.set j s) := by
  unfold Strs at h ⊢
  rw [row_set h (.string s), List.map_set]
theorem elemStrs : Try.prog.underlying 39 = some (.slice (Try.prog.elem 39)) := by kernel_rfl
theorem sizeStrs (w : World) : (sizeOf (Try.prog.elem 39)).run Try.prog w = .ok 1 w := by kernel_rfl
theorem strs_at (w' : World) (g n c k : Nat) (hk : k < n) : (Instr.indexAt 39 (.slice (some ⟨g, 0, none⟩) n c) (.int .i64 (k : Int))).run Try.prog w' = .ok (.pointer (some ⟨g, k, none⟩)) w' := by
  rw [run_indexAt_slice w' _ _ _ _ .i64 k elemStrs, if_pos (by omega), sizeStrs]
  show Result.ok _ w' = _
  rw [show ((k : Int).toNat * 1) = k by omega, add_plain, Nat.zero_add]
theorem infoStr : (Try.prog.info? 9).map (fun i => (i.zero, i.size, i.bytes)) = some (some (.string ⟨#[]⟩), 1, 16) := by kernel_rfl
theorem made_strs (n : Nat) : madeCells #[.string ⟨#[]⟩] n = ((List.replicate n (⟨#[]⟩ : ByteArray)).map Value.string).toArray := by
  apply Array.ext'
  simp only [madeCells, List.map_replicate]
  refine List.ext_getElem (by simp) fun i h1 h2 => ?_
  simp [Nat.mod_one]
theorem run_makeStrs (w : World) (n : Nat) (hn : n * 16 ≤ 140737488351232) : (Instr.makeSlice 39 (.int .i64 (n : Int)) (.int .i64 (n : Int))).run Try.prog w = .ok (.slice (some ⟨w.heap.size, 0, none⟩) n n) (w.alloc (.cells ((List.replicate n (⟨#[]⟩ : ByteArray)).map Value.string).toArray 9)) := by
  obtain ⟨i0, hi, hz0, hz1, hz2⟩ := info_parts infoStr
  have := run_make (P := Try.prog) w 39 9 i0 _ Try.underlying39 hi hz0 .i64 .i64 n n (by omega) (Int.le_refl _) (by rw [hz2]; omega) (by omega)
  rw [hz1, Nat.mul_one] at this
  simp only [Int.toNat_natCast] at this
  rw [this, show (Value.string ⟨#[]⟩).cells = #[.string ⟨#[]⟩] from rfl, made_strs]
theorem Strs.new (w : World) (L : List ByteArray) : Strs (w.alloc (.cells (L.map Value.string).toArray 9)) w.heap.size L := heap_alloc_new w _
def namesOf (ds : List Def) : List ByteArray := ds.map (·.1)
theorem key_str {key : Value} {k : Lit} (h : keyOf Try.prog 9 key = some k) : ∃ s : ByteArray, key = .string s ∧ k = kl s ∧ s.size ≤ maxLen := by
  cases key <;> simp [keyOf, Try.underlying9, mapKey] at h
  rename_i s
  obtain ⟨hs, rfl⟩ := h
  exact ⟨s, rfl, rfl, hs⟩
/-- What reads alike whatever the zero value is a name that is there. -/
theorem datTo_miss (ds : List Def) (k : Lit) (z : DataW Unit) : ∀ n, n ≤ ds.length → (∀ i (h : i < ds.length), i < n → kl ds[i].1 ≠ k) → (datTo ds n).atKey k z = z
  | 0, _, _ => rfl
  | n + 1, hn, h => by
    rw [datTo, getD_lt (by omega), atKey_put_other (fun e => h n (by omega) (by omega) e.symm)]
    exact datTo_miss ds k z n (by omega) fun i hi h2 => h i hi (by omega)
theorem dat_entry {ds : List Def} (hu : Uniq ds) {s : ByteArray} {x : Int × Int} (h : ∀ z, (dat ds).atKey (kl s) z = dE x.1 x.2) : ∃ i, ∃ hi : i < ds.length, ds[i].1 = s ∧ x.2 = (i : Int) := by
  by_cases e : ∃ i, ∃ hi : i < ds.length, ds[i].1 = s
  · obtain ⟨i, hi, h1⟩ := e
    refine ⟨i, hi, h1, ?_⟩
    have h2 := datTo_at ds hu (dE 0 0) ds.length (Nat.le_refl _) i hi hi
    rw [h1] at h2
    exact (dE_inj ((h (dE 0 0)).symm.trans h2)).2
  · have hm := fun z => datTo_miss ds (kl s) z ds.length (Nat.le_refl _) fun i hi _ q => e ⟨i, hi, kl_inj q⟩
    have h1 := (hm (dE 0 0)).symm.trans (h (dE 0 0))
    have h2 := (hm (dE 1 0)).symm.trans (h (dE 1 0))
    have := (dE_inj (h1.trans h2.symm)).1
    omega
/-- The names laid so far. -/
def Laid (ds : List Def) (left : Lit → Bool) (L : List ByteArray) : Prop := L.length = ds.length ∧ ∀ i (h : i < ds.length) (h' : i < L.length), left (kl ds[i].1) = false → L[i] = ds[i].1
theorem Laid.start (ds : List Def) : Laid ds (has (dat ds)) (List.replicate ds.length ⟨#[]⟩) :=
  ⟨by simp, fun i hi h' e => by
    rw [(datTo_has ds ds[i].1 ds.length (Nat.le_refl _)).2 ⟨i, hi, hi, rfl⟩ |> (show has (dat ds) (kl ds[i].1) = true from ·)] at e
    cases e⟩
theorem Laid.next {ds : List Def} (hu : Uniq ds) {left : Lit → Bool} {L : List ByteArray} (h : Laid ds left L) {i : Nat} (hi : i < ds.length) : Laid ds (fun z => left z && !z.sameKey (kl ds[i].1)) (L.set i ds[i].1) := by
  refine ⟨by rw [List.length_set]; exact h.1, fun j hj hj' e => ?_⟩
  by_cases q : i = j
  · subst q
    simp
  · rw [List.getElem_set_ne q]
    refine h.2 j hj (by rw [h.1]; exact hj) ?_
    have : (kl ds[j].1).sameKey (kl ds[i].1) = false := sameKey_ne fun e => q (hu j i hj hi (kl_inj e)).symm
    simpa [this] using e
theorem Laid.done {ds : List Def} {left : Lit → Bool} {L : List ByteArray} (h : Laid ds left L) (hl : ∀ k, left k = false) : L = namesOf ds := by
  refine List.ext_getElem (by rw [h.1]; simp [namesOf]) fun i h1 h2 => ?_
  rw [h.2 i (by rw [← h.1]; exact h1) h1 (hl _)]
  simp [namesOf]
end Go.Proofs.Ytmbljiapfbadeaa.Nam
