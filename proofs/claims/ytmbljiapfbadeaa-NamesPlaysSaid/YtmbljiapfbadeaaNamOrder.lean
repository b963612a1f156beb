/-
  Layer 11: the law of the order of definitions: its fold, its own list of names.
-/
import Derived.Test.YtmbljiapfbadeaaNamHides
namespace Go.Proofs.Ytmbljiapfbadeaa.Nam
open Go.RowKit Go.Maps
set_option linter.unusedVariables false

theorem addD_cases (ds : List Def) (s : ByteArray) (c : Int) : (errD ds s c = 0 ∧ addD ds s c = ds ++ [(s, c)]) ∨ (errD ds s c ≠ 0 ∧ addD ds s c = ds) := by
  by_cases h : errD ds s c = 0
  · exact Or.inl ⟨h, addD_ok h⟩
  · exact Or.inr ⟨h, addD_bad h⟩
/-- The definitions behind the first k names. -/
def foldD (L : List ByteArray) (k : Nat) : List Def := (L.take k).foldl (fun ds s => addD ds s 2) []
theorem foldD_succ {L : List ByteArray} {k : Nat} (h : k < L.length) : foldD L (k + 1) = addD (foldD L k) L[k] 2 := by
  unfold foldD
  rw [List.take_succ_eq_append_getElem h, List.foldl_append]
  rfl
theorem foldD_len (L : List ByteArray) : ∀ k, k ≤ L.length → (foldD L k).length ≤ k
  | 0, _ => by simp [foldD]
  | k + 1, h => by
    have ih := foldD_len L k (by omega)
    rw [foldD_succ (by omega)]
    rcases addD_cases (foldD L k) (L[k]'(by omega)) 2 with ⟨_, e⟩ | ⟨_, e⟩ <;> rw [e]
    · simp; omega
    · omega
/-- All names are valid. -/
def Good (ds : List Def) : Prop := ∀ x ∈ ds, okName x.1 = true ∧ x.1.size ≤ maxLen
theorem Good.add {ds : List Def} (h : Good ds) {s : ByteArray} (hs : s.size ≤ maxLen) (c : Int) : Good (addD ds s c) := by
  rcases addD_cases ds s c with ⟨e0, e⟩ | ⟨_, e⟩ <;> rw [e]
  · intro x hx
    rcases List.mem_append.1 hx with q | q
    · exact h x q
    · obtain rfl : x = (s, c) := by simpa using q
      exact ⟨(errD_zero e0).2.1, hs⟩
  · exact h
theorem foldD_good {L : List ByteArray} (hL : ∀ s ∈ L, s.size ≤ maxLen) : ∀ k, k ≤ L.length → Good (foldD L k)
  | 0, _ => fun x hx => by simp [foldD] at hx
  | k + 1, h => by
    rw [foldD_succ (by omega)]
    exact (foldD_good hL k (by omega)).add (hL _ (List.getElem_mem _)) 2
theorem pos_mem {ds : List Def} {i : Nat} (hi : i < ds.length) : (pos ds ds[i].1).isSome = true := by
  cases e : pos ds ds[i].1 with
  | some j => rfl
  | none => exact absurd rfl (pos_none e i hi)
theorem again_dup {ds : List Def} (h : Good ds) {i : Nat} (hi : i < ds.length) : errD ds ds[i].1 1 = 10 :=
  errD_dup (by decide) (h _ (List.getElem_mem hi)).1 (pos_mem hi)
theorem names_app (ds : List Def) (s : ByteArray) (c : Int) : namesOf (ds ++ [(s, c)]) = namesOf ds ++ [s] := by simp [namesOf]
theorem names_len (ds : List Def) : (namesOf ds).length = ds.length := by simp [namesOf]
theorem names_at {ds : List Def} {i : Nat} (hi : i < ds.length) : (namesOf ds)[i]'(by rw [names_len]; exact hi) = ds[i].1 := by simp [namesOf]

/-! ### A list of names that the law appends to -/
def Want (w : World) (base : Nat) (v : Value) (L : List ByteArray) : Prop := w.ownsRow base 9 1 v L.length (L.map Value.string)
theorem Want.kept {w w' : World} {base : Nat} {v : Value} {L : List ByteArray} (h : Want w base v L) (hk : ∀ g, v.ownBlock = some g → w'.heap[g]? = w.heap[g]?) : Want w' base v L := by
  obtain ⟨h1, h2⟩ := h
  refine ⟨h1, ?_⟩
  rcases h2 with h2 | ⟨g, cap, cur, hv, hg, hh, r⟩
  · exact Or.inl h2
  · exact Or.inr ⟨g, cap, cur, hv, hg, (hk g (by rw [hv]; rfl)).trans hh, r⟩
theorem Want.block {w : World} {base : Nat} {v : Value} {L : List ByteArray} (h : Want w base v L) {g : Nat} (hg : v.ownBlock = some g) : base ≤ g ∧ ∃ cur, w.heap[g]? = some (.cells cur 9 (0, 0)) := by
  obtain ⟨h1, h2⟩ := h
  rcases h2 with ⟨rfl, _⟩ | ⟨g', cap, cur, rfl, hb, hh, r⟩
  · cases hg
  · obtain rfl : g' = g := Option.some.inj hg
    exact ⟨hb, cur, hh⟩
theorem Want.below {w w' : World} {base : Nat} {v : Value} {L : List ByteArray} (h : Want w base v L) (hb : Below w.heap.size w w') : Want w' base v L := h.kept fun g hg => by
  obtain ⟨_, cur, hc⟩ := h.block hg
  exact hb.block g (heap_lt hc)
theorem Want.but {w w' : World} {base m : Nat} {v : Value} {L : List ByteArray} (h : Want w base v L) (hb : But m w w') {es : Array MapEntry} {clock : Nat} (hm : w.heap[m]? = some (.map es clock)) : Want w' base v L := h.kept fun g hg => by
  obtain ⟨_, cur, hc⟩ := h.block hg
  exact hb.block g (heap_lt hc) fun e => by rw [e, hm] at hc; cases hc
theorem Want.ne {w : World} {base g : Nat} {v : Value} {L : List ByteArray} (h : Want w base v L) (hg : v.ownBlock = some g) {b m : Nat} {out : Option Nat} {d : Nat} {ds : List Def} (hP : PSc w b m out d ds) : b ≠ g ∧ m ≠ g := by
  obtain ⟨_, cur, hc⟩ := h.block hg
  refine ⟨fun e => ?_, fun e => ?_⟩
  · rw [← e, hP.blk] at hc
    cases hc
  · obtain ⟨es, clock, hm, _⟩ := hP.map
    rw [← e, hm] at hc
    cases hc
theorem Want.made (w : World) (base : Nat) (hb : base ≤ w.heap.size) : Want (w.alloc (.cells #[] 9)) base (.slice (some ⟨w.heap.size, 0, none⟩) 0 0) [] :=
  ⟨rfl, Or.inr ⟨w.heap.size, 0, #[], rfl, hb, heap_alloc_new w _, Nat.le_refl _, Nat.zero_le _, rfl, rfl⟩⟩
theorem Want.sat {w : World} {base : Nat} {v : Value} {L : List ByteArray} (h : Want w base v L) : SAt w v L := by
  obtain ⟨h1, h2⟩ := h
  rcases h2 with ⟨rfl, h0⟩ | ⟨g, cap, cur, rfl, hg, hh, hn, hc, hs, ht⟩
  · obtain rfl : L = [] := List.eq_nil_of_length_eq_zero h0
    exact sat_nil w
  · refine ⟨_, cap, rfl, Nat.le_trans hn hc, fun w' j hj => ?_, fun j hj => ⟨_, rfl, ?_⟩⟩
    · rw [strs_at2 w' g 0 _ cap j hj]
      rfl
    · rw [Nat.zero_add]
      have hj2 : j < cur.size := by rw [hs]; omega
      have e : cur[j]? = some (.string L[j]) := by
        have e1 := congrArg (fun l => l[j]?) ht
        simp only [Nat.mul_one, List.getElem?_take, if_pos hj, List.getElem?_map, List.getElem?_eq_getElem hj, Option.map_some] at e1
        rw [← e1, Array.getElem?_toList]
      simp [World.cell?, hh, e]
theorem Want.row {w : World} {base : Nat} {v : Value} {ds : List Def} (h : Want w base v (namesOf ds)) : ∃ a2 c2, v = .slice a2 ds.length c2 ∧ (∀ (w' : World) (j : Nat), j < ds.length → (Instr.indexAt 39 (.slice a2 ds.length c2) (.int .i64 (j : Int))).run Try.prog w' = .ok (.pointer (a2.map fun p => ⟨p.block, p.off + j, none⟩)) w') ∧ ∀ (wx : World), Want wx base v (namesOf ds) → ∀ (j : Nat) (h : j < ds.length), ∃ p, a2 = some p ∧ wx.cell? ⟨p.block, p.off + j, none⟩ = some (.string ds[j].1) := by
  obtain ⟨a2, c2, e2, _, h2, h3⟩ := h.sat
  rw [names_len] at e2 h2
  refine ⟨a2, c2, e2, h2, fun wx hx j hj => ?_⟩
  obtain ⟨a3, c3, e3, _, _, h4⟩ := hx.sat
  rw [e2] at e3
  simp only [Value.slice.injEq] at e3
  obtain ⟨rfl, _, rfl⟩ := e3
  have := h4 j (by rw [names_len]; exact hj)
  rwa [names_at hj] at this
section
variable (w : World) {ops : Array Oper} {rest : List Oper} {o : Oper} {a : Act} {Q : Exit → Act → World → Prop}
/-- 'want = append(want, s)'. -/
theorem want_push (hgd : o.guard = none) (s x : Operand) (ho : o.op = .call { callee := .builtin .append, args := #[s, x], argTypes := #[39, 39] })
    (base : Nat) (v : Value) (L : List ByteArray) (hs : a.eval s = v) (hown : Want w base v L) (str : ByteArray) (hx : a.eval x = .slice (some ⟨w.heap.size, 0, none⟩) 1 1) (hL : L.length ≤ 1000) (hbase : base ≤ w.heap.size)
    (hK : ∀ v' w', Want w' base v' (L ++ [str]) → (w.alloc (.cells #[.string str] 9)).grownBy w' v.ownBlock → wpList Try.prog ops Q rest (a.put o.dst v') w') :
    wpList Try.prog ops Q (o :: rest) a (w.alloc (.cells #[.string str] 9)) := by
  obtain ⟨i0, hi, hz0, hz1, hz2⟩ := info_parts infoStr
  have h0 : (w.alloc (.cells #[.string str] 9)).ownsRow base 9 1 v L.length (L.map Value.string) := hown.below (below_new _ _)
  refine wpList_append_own_at _ hgd _ _ 39 ho base 9 i0 (.string ⟨#[]⟩) 1 16 Try.underlying39 hi hz0 hz1 hz2 rfl (by decide) v L.length (L.map Value.string) hs h0 ⟨w.heap.size, 0, none⟩ 1 1 [.string str] hx rfl (cell_one_new _ _ _) (fun u hu => by simp at hu; subst hu; rfl) (by unfold maxLen; omega) (by omega) (by simp; omega) ?_
  intro v' w' h1 h2 _ _
  refine hK v' w' ?_ h2
  unfold Want
  rw [List.map_append, List.length_append]
  exact h1
end
end Go.Proofs.Ytmbljiapfbadeaa.Nam
