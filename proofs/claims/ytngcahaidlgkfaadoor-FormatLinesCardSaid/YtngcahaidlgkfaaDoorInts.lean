/-
  What a walk is told of a slice of ints that is only read: it holds the numbers xs.
-/
import Derived.Test.YtngcahaidlgkfaaDoorRows
import Derived.WalkKit
import Derived.WalkSpells
import Derived.WalkLawsBesides
import Derived.Deep.QuietTactic
import Derived.BigQuiet
namespace Go.Proofs.YtngcahaidlgkfaaDoor.Shape
open Go.RowKit

def IntsAt (w : World) (a : Option Addr) (cap : Nat) (xs : List Int) : Prop :=
  xs.length ≤ cap ∧ cap ≤ 9223372036854775807 ∧ (∀ x ∈ xs, -9223372036854775808 ≤ x ∧ x ≤ 9223372036854775807) ∧
    ∃ b off : Nat, (xs ≠ [] → a = some ⟨b, off, none⟩) ∧ ∀ i (h : i < xs.length), w.cell? ⟨b, off + i, none⟩ = some (.int .i64 xs[i])
theorem IntsAt.drewN {w : World} {a : Option Addr} {cap : Nat} {xs : List Int} (h : IntsAt w a cap xs) (n : Nat) : IntsAt (w.drewN n) a cap xs := h
theorem IntsAt.len {w : World} {a : Option Addr} {cap : Nat} {xs : List Int} (h : IntsAt w a cap xs) : xs.length ≤ 9223372036854775807 := Nat.le_trans h.1 h.2.1
theorem IntsAt.bd {w : World} {a : Option Addr} {cap : Nat} {xs : List Int} (h : IntsAt w a cap xs) {k : Nat} (hk : k < xs.length) : -9223372036854775808 ≤ xs[k] ∧ xs[k] ≤ 9223372036854775807 := h.2.2.1 _ (List.getElem_mem hk)
theorem elemInts : Tryd.prog.underlying 23 = some (.slice (Tryd.prog.elem 23)) := by kernel_rfl
theorem sizeInts (w : World) : (sizeOf (Tryd.prog.elem 23)).run Tryd.prog w = .ok 1 w := by kernel_rfl
theorem add_plain (b off k : Nat) : (⟨b, off, none⟩ : Addr).add k = ⟨b, off + k, none⟩ := by unfold Addr.add; split <;> simp_all
/-- Element k: where it lies, and what it is. -/
theorem IntsAt.at {w : World} {a : Option Addr} {cap : Nat} {xs : List Int} (h : IntsAt w a cap xs) {k : Nat} (hk : k < xs.length) :
    ∃ b off : Nat, (∀ w' : World, (Instr.indexAt 23 (.slice a xs.length cap) (.int .i64 k)).run Tryd.prog w' = .ok (.pointer (some ⟨b, off + k, none⟩)) w') ∧ w.cell? ⟨b, off + k, none⟩ = some (.int .i64 xs[k]) := by
  obtain ⟨h1, h2, h3, b, off, ha, hc⟩ := h
  have hne : xs ≠ [] := by intro e; subst e; simp at hk
  have e := ha hne
  subst e
  refine ⟨b, off, fun w' => ?_, hc k hk⟩
  rw [run_indexAt_slice w' _ _ _ _ .i64 k elemInts, if_pos (by omega), sizeInts]
  show Result.ok _ w' = _
  rw [show ((k : Int).toNat * 1) = k by omega, add_plain]
end Go.Proofs.YtngcahaidlgkfaaDoor.Shape
