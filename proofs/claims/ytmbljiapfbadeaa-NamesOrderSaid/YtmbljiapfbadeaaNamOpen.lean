/-
  Layer 11: an argument that is a list of strings, as the row's reading gives it.
-/
import Derived.Test.YtmbljiapfbadeaaNamSame
import Derived.SliceStrings
import Derived.ProofKit
import Derived.OpenShut
import Derived.ShutString
import Derived.ChangeOld
namespace Go.Proofs.Ytmbljiapfbadeaa.Nam
open Go.ChangeShapes Go.WideShapes Go.ChangeAt Go.RowKit
set_option maxRecDepth 100000
set_option linter.unusedVariables false

theorem cellsStr : Try.prog.cellsOf 9 = 1 := by kernel_rfl
theorem strs_open {H : Type} {enc : TypeId × Value → H} {W : World} {base : Nat} {v : Value} {d : DataW H} {ps : List MemPlace}
    (hok : Value.okWide Try.prog W .any base 39 v) (hj : DataW.Trod enc Try.prog W 0 (fun _ => true) true 39 v d ps) :
    ∃ L : List ByteArray, SAt W v L ∧ ∀ s ∈ L, s.size ≤ maxLen := by
  obtain ⟨a0, len0, cap0, rfl⟩ := okWide_slice Try.underlying39 hok
  obtain ⟨fuel, hf⟩ := hj
  rcases open_strings Try.underlying39 Try.underlying9 cellsStr hf with ⟨hcs, _⟩ | ⟨x, l, c, zs, hcs, _, hl, hm, hz, _, hcell, hwz⟩
  · simp [Value.cells] at hcs
    obtain ⟨rfl, rfl, rfl⟩ := hcs
    exact ⟨[], sat_nil W, fun s hs => absurd hs (by simp)⟩
  · simp [Value.cells] at hcs
    obtain ⟨rfl, rfl, rfl⟩ := hcs
    have hz' : zs.length = cap0 := by simpa using hz
    have hlen : (zs.take len0).length = len0 := by rw [List.length_take, Nat.min_eq_left (by omega)]
    obtain ⟨b, off, spot⟩ := x
    refine ⟨zs.take len0, ?_, fun s hs => hwz s (List.mem_of_mem_take hs)⟩
    refine ⟨some ⟨b, off, spot⟩, cap0, by rw [hlen], by rw [hlen]; unfold maxLen at hm; omega, fun w' j hj => ?_, fun j hj => ⟨_, rfl, ?_⟩⟩
    · rw [hlen] at hj ⊢
      have hc := hcell 0 (by omega)
      have hspot : spot = none := by simpa [Addr.add] using World.cell?_spot hc
      subst hspot
      rw [strs_at2 w' b off _ cap0 j hj]
      rfl
    · rw [hlen] at hj
      have hj' : j < zs.length := by omega
      have hc := hcell j hj'
      have hspot : spot = none := by
        have hc0 := hcell 0 (by omega)
        simpa [Addr.add] using World.cell?_spot hc0
      subst hspot
      rw [add_plain] at hc
      rw [hc, List.getElem_take]
      simp [List.getD_eq_getElem?_getD, List.getElem?_eq_getElem hj']
end Go.Proofs.Ytmbljiapfbadeaa.Nam
