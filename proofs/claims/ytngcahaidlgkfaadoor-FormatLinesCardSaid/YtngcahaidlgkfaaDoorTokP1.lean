/-
  Layer 8: the scanner's methods that read one byte.
-/
import Derived.Test.YtngcahaidlgkfaaDoorTokBase
namespace Go.Proofs.YtngcahaidlgkfaaDoor.Tok
open Go.RowKit
set_option linter.unusedVariables false

end Go.Proofs.YtngcahaidlgkfaaDoor.Tok
