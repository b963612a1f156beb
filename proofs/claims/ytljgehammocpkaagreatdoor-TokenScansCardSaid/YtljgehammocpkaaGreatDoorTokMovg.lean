/-
  Layer 8: the reference's Moved.
-/
import Derived.Test.YtljgehammocpkaaGreatDoorTokGE
import Derived.Test.YtljgehammocpkaaGreatDoorTokScan
import Derived.Test.YtljgehammocpkaaGreatDoorTokSame
namespace Go.Proofs.YtljgehammocpkaaGreatDoor.Tok
open Go.RowKit
set_option linter.unusedVariables false
set_option linter.unusedSimpArgs false

end Go.Proofs.YtljgehammocpkaaGreatDoor.Tok
