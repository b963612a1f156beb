/-
  The law arraylanglaw08.TokenScans holds for every input: it returns true, and each argument reads afterwards as it read before. No condition.
-/
import Derived.Test.YtljgehammocpkaaGreatDoorTokCard
import Derived.Test.YtljgehammocpkaaGreatDoorTokScansWg
import Derived.ProofKit
import Derived.OpenShut
namespace Go.Proofs.YtljgehammocpkaaGreatDoor.tokenScansProof
open Go.ChangeShapes Go.WideShapes Go.ChangeAt Go.RowKit Go.Proofs.YtljgehammocpkaaGreatDoor.Tok
open Go.WideMaps Go.WideElems
open Go.ChangeMaps (open_string shut_string)
set_option linter.unusedVariables false

theorem own : ownKnob Tryz.prog.godebug = none := by kernel_rfl
theorem laidOut : laidOutB Tryz.prog = true := by kernel_rfl

end Go.Proofs.YtljgehammocpkaaGreatDoor.tokenScansProof
