/-
  Layer 16: the laws' examples hold.
-/
import Derived.Test.YtekbdiniibmhgaaBinP9g
import Derived.Test.YtekbdiniibmhgaaBinLv2g
namespace Go.Proofs.Ytekbdiniibmhgaa.Shape
open Go.RowKit
set_option linter.unusedVariables false

theorem livesP16 : LivesOK := fun w => lives16 applyP16 scalarP16 w
end Go.Proofs.Ytekbdiniibmhgaa.Shape
