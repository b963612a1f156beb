/-
  Layer 9: an argument that is a slice of int32, as the row's reading gives it, holds numbers.
-/
import Derived.Test.YtmnomkcgkjccgaaLitMath
import Derived.WalkLawsBesides
import Derived.ProofKit
import Derived.OpenShut
import Derived.ShutString
import Derived.ChangeOld
namespace Go.Proofs.Ytmnomkcgkjccgaa.Lit
open Go.ChangeShapes Go.WideShapes Go.ChangeAt Go.RowKit
set_option maxRecDepth 100000
set_option linter.unusedVariables false

def RunesAt (w : World) (a : Option Addr) (cap : Nat) (xs : List Int) : Prop :=
  xs.length ≤ cap ∧ cap ≤ 9223372036854775807 ∧ (∀ x ∈ xs, -2147483648 ≤ x ∧ x ≤ 2147483647) ∧
    ∃ b off : Nat, (xs ≠ [] → a = some ⟨b, off, none⟩) ∧ ∀ i (h : i < xs.length), w.cell? ⟨b, off + i, none⟩ = some (.int .i32 xs[i])
theorem elemRunes : Try.prog.underlying 31 = some (.slice (Try.prog.elem 31)) := by kernel_rfl
theorem sizeRunes (w : World) : (sizeOf (Try.prog.elem 31)).run Try.prog w = .ok 1 w := by kernel_rfl
theorem i32_bd {n : Int} (h : (Lit.int .i32 n).wf = true) : -2147483648 ≤ n ∧ n ≤ 2147483647 := by
  simpa [Lit.wf, IntKind.min, IntKind.max, IntKind.signed, IntKind.bits] using h
theorem addr_plain (b off k : Nat) : (⟨b, off, none⟩ : Addr).add k = ⟨b, off + k, none⟩ := by unfold Addr.add; split <;> simp_all
/-- Element k: where it lies, and what it is. -/
theorem RunesAt.at {w : World} {a : Option Addr} {cap : Nat} {xs : List Int} (h : RunesAt w a cap xs) {k : Nat} (hk : k < xs.length) :
    ∃ b off : Nat, (∀ w' : World, (Instr.indexAt 31 (.slice a xs.length cap) (.int .i64 k)).run Try.prog w' = .ok (.pointer (some ⟨b, off + k, none⟩)) w') ∧ w.cell? ⟨b, off + k, none⟩ = some (.int .i32 xs[k]) := by
  obtain ⟨h1, h2, h3, b, off, ha, hc⟩ := h
  have hne : xs ≠ [] := by intro e; subst e; simp at hk
  have e := ha hne
  subst e
  refine ⟨b, off, fun w' => ?_, hc k hk⟩
  rw [run_indexAt_slice w' _ _ _ _ .i64 k elemRunes, if_pos (by omega), sizeRunes]
  show Result.ok _ w' = _
  rw [show ((k : Int).toNat * 1) = k by omega, addr_plain]
theorem runes_open {H : Type} {enc : TypeId × Value → H} {W : World} {base : Nat} {v : Value} {d : DataW H} {ps : List MemPlace}
    (hok : Value.okWide Try.prog W .any base 31 v) (hj : DataW.Trod enc Try.prog W 0 (fun _ => true) true 31 v d ps) :
    ∃ a cap xs, v = .slice a (List.length xs) cap ∧ RunesAt W a cap xs := by
  obtain ⟨a0, len0, cap0, rfl⟩ := okWide_slice Try.underlying31 hok
  obtain ⟨fuel, hf⟩ := hj
  rcases open_ints Try.underlying31 Try.underlying21 (by kernel_rfl) hf with ⟨hcs, _⟩ | ⟨x, l, c, zs, hcs, _, hl, hm, hz, _, hcell, hwz⟩
  · simp [Value.cells] at hcs
    obtain ⟨rfl, rfl, rfl⟩ := hcs
    exact ⟨none, 0, [], rfl, Nat.zero_le _, by decide, fun x hx => absurd hx (by simp), 0, 0, fun hn => absurd rfl hn, fun i hi => absurd hi (by simp)⟩
  · simp [Value.cells] at hcs
    obtain ⟨rfl, rfl, rfl⟩ := hcs
    have hz' : zs.length = cap0 := by simpa using hz
    have hlen : (zs.take len0).length = len0 := by rw [List.length_take, Nat.min_eq_left (by omega)]
    have hb : ∀ y ∈ zs.take len0, -2147483648 ≤ y ∧ y ≤ 2147483647 := fun y hy => i32_bd (hwz y (List.mem_of_mem_take hy))
    obtain ⟨b, off, spot⟩ := x
    refine ⟨some ⟨b, off, spot⟩, cap0, zs.take len0, by rw [hlen], by omega, by unfold maxLen at hm; omega, hb, ?_⟩
    by_cases h0 : len0 = 0
    · subst h0
      exact ⟨0, 0, fun hn => absurd (by simp) hn, fun i hi => by simp at hi⟩
    · have hc := hcell 0 (by omega)
      have hspot : spot = none := by simpa [Addr.add] using World.cell?_spot hc
      subst hspot
      refine ⟨b, off, fun _ => rfl, fun i hi => ?_⟩
      have hi' : i < zs.length := by omega
      have := hcell i hi'
      rw [addr_plain] at this
      rw [this]
      simp [hi']
end Go.Proofs.Ytmnomkcgkjccgaa.Lit
