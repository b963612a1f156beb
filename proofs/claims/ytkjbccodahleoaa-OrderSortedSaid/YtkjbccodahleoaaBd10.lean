/-
  An argument that is a slice of ints, as the row's reading gives it, holds numbers.
-/
import Derived.Test.YtkjbccodahleoaaBd1
import Derived.ProofKit
import Derived.OpenShut
import Derived.ShutString
import Derived.ChangeOld
import Derived.Below
namespace Go.Proofs.Ytkjbccodahleoaa.Shape
open Go.ChangeShapes Go.WideShapes Go.ChangeAt Go.RowKit
set_option maxRecDepth 100000

theorem i64_bd {n : Int} (h : (Lit.int .i64 n).wf = true) : -9223372036854775808 ≤ n ∧ n ≤ 9223372036854775807 := by
  simpa [Lit.wf, IntKind.min, IntKind.max, IntKind.signed, IntKind.bits] using h
theorem ints_open {H : Type} {enc : TypeId × Value → H} {W : World} {base : Nat} {v : Value} {d : DataW H} {ps : List MemPlace}
    (hok : Value.okWide Try.prog W .any base 23 v) (hj : DataW.Trod enc Try.prog W 0 (fun _ => true) true 23 v d ps) :
    ∃ a cap xs, v = .slice a (List.length xs) cap ∧ IntsAt W a cap xs := by
  obtain ⟨a0, len0, cap0, rfl⟩ := okWide_slice Try.underlying23 hok
  obtain ⟨fuel, hf⟩ := hj
  rcases open_ints Try.underlying23 Try.underlying3 (by kernel_rfl) hf with ⟨hcs, _⟩ | ⟨x, l, c, zs, hcs, _, hl, hm, hz, _, hcell, hwz⟩
  · simp [Value.cells] at hcs
    obtain ⟨rfl, rfl, rfl⟩ := hcs
    exact ⟨none, 0, [], rfl, Nat.zero_le _, by decide, fun x hx => absurd hx (by simp), 0, 0, fun hn => absurd rfl hn, fun i hi => absurd hi (by simp)⟩
  · simp [Value.cells] at hcs
    obtain ⟨rfl, rfl, rfl⟩ := hcs
    have hz' : zs.length = cap0 := by simpa using hz
    have hlen : (zs.take len0).length = len0 := by rw [List.length_take, Nat.min_eq_left (by omega)]
    have hb : ∀ y ∈ zs.take len0, -9223372036854775808 ≤ y ∧ y ≤ 9223372036854775807 := fun y hy => i64_bd (hwz y (List.mem_of_mem_take hy))
    obtain ⟨b, off, spot⟩ := x
    refine ⟨some ⟨b, off, spot⟩, cap0, zs.take len0, by rw [hlen], by omega, by unfold maxLen at hm; omega, hb, ?_⟩
    by_cases h0 : len0 = 0
    · subst h0
      exact ⟨0, 0, fun hn => absurd (by simp) hn, fun i hi => by simp at hi⟩
    · have hc := hcell 0 (by omega)
      have hspot : spot = none := by simpa [Addr.add] using World.cell?_spot hc
      subst hspot
      refine ⟨b, off, fun _ => rfl, fun i hi => ?_⟩
      have hi' : i < zs.length := by omega
      have := hcell i hi'
      rw [add_plain] at this
      rw [this]
      simp [hi']
end Go.Proofs.Ytkjbccodahleoaa.Shape
