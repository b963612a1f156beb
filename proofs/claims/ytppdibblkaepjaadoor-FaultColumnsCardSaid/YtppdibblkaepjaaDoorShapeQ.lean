/- Layer 2: the program's calls, each by its contract: what is made lies behind what was. -/
import Derived.Test.YtppdibblkaepjaaDoorShapeP8
namespace Go.Proofs.YtppdibblkaepjaaDoor.Shape
open Go.RowKit

theorem sameQ (a : Option Addr) (cap : Nat) (xs : List Int) (a2 : Option Addr) (cap2 : Nat) (ys : List Int) (w : World) (h : IntsAt w a cap xs) (g : IntsAt w a2 cap2 ys) :
    Calls Tryd.prog 24 #[.slice a xs.length cap, .slice a2 ys.length cap2] w fun e w' => e = .returned (.bool (sameB xs ys)) ∧ Below w.heap.size w w' := sameP a cap xs a2 cap2 ys w h g
theorem showQ (a : Option Addr) (cap : Nat) (xs : List Int) (w : World) (h : IntsAt w a cap xs) (hs : xs.length ≤ 2000000) :
    Calls Tryd.prog 30 #[.slice a xs.length cap] w fun e w' => e = .returned (.string (jS xs)) ∧ Below w.heap.size w w' := showP a cap xs w h hs
end Go.Proofs.YtppdibblkaepjaaDoor.Shape
