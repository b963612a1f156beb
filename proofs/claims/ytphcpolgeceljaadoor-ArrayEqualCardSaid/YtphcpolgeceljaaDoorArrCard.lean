/-
  Layer 3: what the laws' cards share: the two tables of unicode/utf8 as they are laid, a world that holds them, and the card's own closing.
-/
import Derived.Test.YtphcpolgeceljaaDoorArrP10
import Derived.Test.YtphcpolgeceljaaDoorCards
import Derived.Test.YtphcpolgeceljaaDoorTie
import Derived.Lib.LaidIn
import Derived.Lib.LaidU8T
import Derived.PinnedBridge
import Derived.Deep.DeepHandedRow
import Derived.Deep.DeepWitnessRowRef
import Derived.SevenTiedAt
import Derived.ProofKit
import Derived.SizedLaws
namespace Go.Proofs.YtphcpolgeceljaaDoor.Shape
open Go.Shelf Go.RowKit Go.Lib
set_option linter.unusedVariables false

theorem cardOwn : ownKnob Tryd.prog.godebug = none := by kernel_rfl
theorem acc_eq : (Rows.laid_unicode_utf8_acceptRanges : DataW Unit) = Lib.acceptData := by kernel_rfl
theorem first_eq : Rows.laid_unicode_utf8_first = Lib.firstData := Pinned.utf8First_eq
/-- A settled world, the two variables holding what their initialisers lay. -/
noncomputable def laidWorld (os : Os) : World :=
  let w0 := World.holding Tryd.prog os ⟨#[], #[], []⟩
  let put (h : Array Obj) (g : Nat) (cs : Array Value) : Array Obj := h.modify g fun
    | .cells _ t frozen => .cells cs t frozen
    | o => o
  let h1 := put w0.heap 0 (Lib.firstTab.map fun z => Value.int .u8 z).toArray
  let h2 := put h1 1 ((List.range 16).flatMap fun i => [Value.int .u8 (Lib.accLo i), Value.int .u8 (Lib.accHi i)]).toArray
  { w0 with heap := h2 }
theorem laid_met (os : Os) (args : Array Value) : laidMet Tryd.prog Rows.arrayValidRow.laid ((laidWorld os).forCall (fun _ _ => 0) ⟨#[], args, []⟩).memory :=
  (LaidIn.of_run (l := Rows.arrayValidRow.laid) [1, 0] 8 (by kernel_rfl) (by kernel_rfl) (by kernel_rfl) (by kernel_rfl)).met
theorem tabs_of {W : World} (hL : laidMetH Tryd.prog Rows.arrayValidRow.laid W) : Tabs W := by
  have h3 := Lib.laidMet.reads (d := Rows.laid_unicode_utf8_first) hL (.tail _ (.head _))
  have h4 := Lib.laidMet.reads (d := (Rows.laid_unicode_utf8_acceptRanges : DataW Unit)) hL (.head _)
  rw [first_eq] at h3
  rw [acc_eq] at h4
  exact utf8Tabs_of_readsT (U8Types.of196 Tryd.laysValid) ⟨by kernel_rfl, by kernel_rfl, by kernel_rfl, by kernel_rfl, by kernel_rfl, by kernel_rfl, by kernel_rfl⟩ h3 h4
end Go.Proofs.YtphcpolgeceljaaDoor.Shape
