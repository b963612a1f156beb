/-
  Layer 2: the program's Offset.
-/
import Derived.Test.YtppdibblkaepjaaDoorShapeP2
namespace Go.Proofs.YtppdibblkaepjaaDoor.Shape
open Go.RowKit

end Go.Proofs.YtppdibblkaepjaaDoor.Shape
