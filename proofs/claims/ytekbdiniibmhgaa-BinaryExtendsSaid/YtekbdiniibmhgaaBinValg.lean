/-
  Layer 16: what a valid array is: its parts (layer 5's text, but for its literal).
-/
import Derived.Test.YtekbdiniibmhgaaArrSameg
namespace Go.Proofs.Ytekbdiniibmhgaa.Shape
open Go.RowKit
set_option linter.unusedVariables false
set_option linter.unusedSimpArgs false

theorem chkL_all : ∀ (l : List Arr) (d e : Int), chkL d l = some e → ∀ j (hj : j < l.length), (chk l[j]).1 = 0
  | [], d, e, h, j, hj => absurd hj (by simp)
  | A :: r, d, e, h, j, hj => by
    rw [chkL] at h
    split at h
    · cases h
    · rename_i h0
      cases j with
      | zero => simpa using h0
      | succ j =>
        have := chkL_all r _ e h j (by simpa using hj)
        simpa using this
/-- The parts of a valid array. -/
structure Val (k : Int) (sh nu : List Int) (it : List Arr) : Prop where
  kind : 1 ≤ k ∧ k ≤ 3
  dims : dimsE sh = 0
  size : (aSize (.mk k sh nu it) : Int) = pr sh
  plain : k ≠ 3 → it = []
  boxed : k = 3 → nu = []
  elems : ∀ x ∈ nu, elemB k x = true
  items : ∀ j (hj : j < it.length), rightE it[j] = 0
theorem val_of {k : Int} {sh nu : List Int} {it : List Arr} (h : rightE (.mk k sh nu it) = 0) : Val k sh nu it := by
  rw [rightE, chk] at h
  split at h
  · simp at h
  rename_i hk
  split at h
  · rename_i hd; exact absurd h hd
  rename_i hd
  split at h
  · simp at h
  rename_i hl
  split at h
  · simp at h
  rename_i he
  split at h
  · simp at h
  rename_i d hc
  have ho : other k nu it = 0 := by omega
  refine ⟨by omega, by simpa using hd, Classical.byContradiction fun q => hl (Or.inl q), fun q => ?_, fun q => ?_, fun x hx => ?_, fun j hj => chkL_all it 0 d hc j hj⟩
  · rw [other, if_neg q] at ho; exact List.eq_nil_of_length_eq_zero ho
  · rw [other, if_pos q] at ho; exact List.eq_nil_of_length_eq_zero ho
  · have ha : nu.all (elemB k) = true := by simpa using he
    exact List.all_eq_true.1 ha x hx
theorem dims_parts {sh : List Int} (h : dimsE sh = 0) : sh.length ≤ 8 ∧ NN sh ∧ nz sh ≤ 65536 := by
  unfold dimsE at h
  split at h
  · cases h
  split at h
  · split at h
    · exact ⟨by omega, by assumption, by assumption⟩
    · cases h
  · cases h
end Go.Proofs.Ytekbdiniibmhgaa.Shape
