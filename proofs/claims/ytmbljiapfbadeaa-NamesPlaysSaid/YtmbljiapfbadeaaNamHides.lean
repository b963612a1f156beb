/-
  Layer 11: the law of names that hide others, walked.
-/
import Derived.Test.YtmbljiapfbadeaaNamAwake
namespace Go.Proofs.Ytmbljiapfbadeaa.Nam
open Go.RowKit Go.Maps
set_option linter.unusedVariables false

theorem errD_zero {ds : List Def} {s : ByteArray} {c : Int} (h : errD ds s c = 0) : (1 ≤ c ∧ c ≤ 4) ∧ okName s = true ∧ pos ds s = none := by
  unfold errD at h
  split at h
  · cases h
  · rename_i h1
    split at h
    · cases h
    · rename_i h2
      split at h
      · cases h
      · rename_i h3
        refine ⟨by simpa using h1, by simpa using h2, ?_⟩
        cases e : pos ds s with
        | none => rfl
        | some j => rw [e] at h3; simp at h3
theorem errD_nil {s : ByteArray} {c : Int} (h : errD [] s c ≠ 0) : ¬ (1 ≤ c ∧ c ≤ 4) ∨ okName s = false := by
  unfold errD at h
  split at h
  · exact Or.inl (by assumption)
  · split at h
    · exact Or.inr (by assumption)
    · simp [pos] at h
theorem errD_bad {ds : List Def} {s : ByteArray} {c : Int} (h : ¬ (1 ≤ c ∧ c ≤ 4)) : errD ds s c = 1 := by rw [errD, if_pos h]
theorem pos_one (s t : ByteArray) (c : Int) : pos [(s, c)] t = if s = t then some 0 else none := by
  unfold pos
  rw [List.findIdx?_cons]
  by_cases h : s = t <;> simp [h]
theorem pos_two (s u t : ByteArray) (c d : Int) : pos [(s, c), (u, d)] t = if s = t then some 0 else if u = t then some 1 else none := by
  unfold pos
  rw [List.findIdx?_cons, List.findIdx?_cons]
  by_cases h : s = t <;> by_cases h2 : u = t <;> simp [h, h2]
/-- The three scopes behind the law's definitions. -/
def H5 (D0 D1 : List Def) : List Scp := [⟨none, 0, D0⟩, ⟨some 0, 1, D1⟩, ⟨some 0, 1, []⟩]
theorem wfH (D0 D1 : List Def) : Wf (H5 D0 D1) := fun i h => by
  match i, h with
  | 0, _ => rfl
  | 1, _ => exact ⟨by decide, rfl⟩
  | 2, _ => exact ⟨by decide, rfl⟩
theorem find_s (D0 D1 : List Def) (s : ByteArray) : findS (H5 D0 D1) (0 + 1) (some 0) s = match pos D0 s with
    | some j => ((D0.getD j (⟨#[]⟩, 0)).2, true)
    | none => (0, false) := rfl
theorem find_t (D0 D1 : List Def) (s : ByteArray) : findS (H5 D0 D1) (1 + 1) (some 1) s = match pos D1 s with
    | some j => ((D1.getD j (⟨#[]⟩, 0)).2, true)
    | none => findS (H5 D0 D1) (0 + 1) (some 0) s := rfl
theorem find_u (D0 D1 : List Def) (s : ByteArray) : findS (H5 D0 D1) (2 + 1) (some 2) s = findS (H5 D0 D1) (0 + 1) (some 0) s := rfl
/-- What the law asks of the answers, and holds. -/
theorem hides_math (name other : ByteArray) (c d : Int) : ∀ e f g x y z : Int, ∀ i1 i2 i3 no : Bool, ∀ D0 D1 : List Def, errD [] name c = e → errD [] name d = f → errD (addD [] name d) other d = g → D0 = addD [] name c → D1 = addD (addD [] name d) other d →
    findS (H5 D0 D1) (0 + 1) (some 0) name = (x, i1) → findS (H5 D0 D1) (1 + 1) (some 1) name = (y, i2) → findS (H5 D0 D1) (2 + 1) (some 2) name = (z, i3) → (findS (H5 D0 D1) (0 + 1) (some 0) other).2 = no →
    (e = 0 → c = x ∧ i1 = true ∧ c = z ∧ i3 = true) ∧ (e ≠ 0 → i1 = false ∧ i3 = false) ∧ (f = 0 → d = y ∧ i2 = true) ∧ (f ≠ 0 → e = 0 → c = y) ∧ (f = 0 → g = 0 → other ≠ name → no = false ∧ namesOf D1 = [name, other]) ∧ (f = 0 → other = name → g = 10) := by
  intro e f g x y z i1 i2 i3 no D0 D1 he hf hg hD0 hD1 hx hy hz hno
  rw [find_u] at hz
  rw [find_s] at hx hz
  rw [find_s] at hno
  rw [find_t, find_s] at hy
  have hD0e : e = 0 → D0 = [(name, c)] := fun h => by rw [hD0, addD_ok (he.trans h)]; rfl
  have hD0n : e ≠ 0 → D0 = [] := fun h => by rw [hD0, addD_bad (by rw [he]; exact h)]
  have hDf : f = 0 → addD [] name d = [(name, d)] := fun h => by rw [addD_ok (hf.trans h)]; rfl
  have hDn : f ≠ 0 → addD [] name d = [] := fun h => by rw [addD_bad (by rw [hf]; exact h)]
  refine ⟨fun h => ?_, fun h => ?_, fun h => ?_, fun h h0 => ?_, fun h h0 hne => ?_, fun h heq => ?_⟩
  · rw [hD0e h, pos_one, if_pos rfl] at hx hz
    simp at hx hz
    exact ⟨hx.1, hx.2, hz.1, hz.2⟩
  · rw [hD0n h] at hx hz
    simp [pos] at hx hz
    exact ⟨hx.2, hz.2⟩
  · have h1 := hDf h
    have hp : pos D1 name = some 0 ∧ (D1.getD 0 (⟨#[]⟩, 0)).2 = d := by
      rw [hD1, h1]
      by_cases q : errD [(name, d)] other d = 0
      · rw [addD_ok q]
        exact ⟨by rw [show [(name, d)] ++ [(other, d)] = [(name, d), (other, d)] from rfl, pos_two, if_pos rfl], rfl⟩
      · rw [addD_bad q]
        exact ⟨by rw [pos_one, if_pos rfl], rfl⟩
    rw [hp.1] at hy
    simp only [hp.2] at hy
    exact ⟨congrArg Prod.fst hy, (congrArg Prod.snd hy).symm⟩
  · have hc := errD_zero (he.trans h0)
    have hd : ¬ (1 ≤ d ∧ d ≤ 4) := by
      rcases errD_nil (by rw [hf]; exact h) with q | q
      · exact q
      · rw [hc.2.1] at q; cases q
    have hD1' : D1 = [] := by
      rw [hD1, hDn h, addD_bad (by rw [errD_bad hd]; decide)]
    rw [hD1', hD0e h0, pos_one, if_pos rfl] at hy
    simp [pos] at hy
    exact hy.1
  · have h1 := hDf h
    rw [h1] at hg hD1
    rw [addD_ok (hg.trans h0)] at hD1
    refine ⟨?_, by rw [hD1]; rfl⟩
    by_cases q : e = 0
    · rw [hD0e q, pos_one, if_neg (fun r => hne r.symm)] at hno
      exact hno.symm
    · rw [hD0n q] at hno
      simp [pos] at hno
      exact hno
  · have h1 := hDf h
    rw [h1, heq] at hg
    have hz := errD_zero (hf.trans h)
    rw [← hg, errD_dup (by simpa using hz.1) hz.2.1 (by rw [pos_one, if_pos rfl]; rfl)]
end Go.Proofs.Ytmbljiapfbadeaa.Nam
