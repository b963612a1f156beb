/-
  Layer 8: the scanner's methods that read one byte.
-/
import Derived.Test.YtljgehammocpkaaDoorTokBase
namespace Go.Proofs.YtljgehammocpkaaDoor.Tok
open Go.RowKit
set_option linter.unusedVariables false

end Go.Proofs.YtljgehammocpkaaDoor.Tok
