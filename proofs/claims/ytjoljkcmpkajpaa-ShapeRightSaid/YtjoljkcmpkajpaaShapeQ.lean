/- Layer 2: the program's calls, each by its contract: what is made lies behind what was. -/
import Derived.Test.YtjoljkcmpkajpaaShapeP8
namespace Go.Proofs.Ytjoljkcmpkajpaa.Shape
open Go.RowKit

theorem rightQ (a : Option Addr) (cap : Nat) (xs : List Int) (w : World) (h : IntsAt w a cap xs) :
    Calls Try.prog 11 #[.slice a xs.length cap] w fun e w' => e = .returned (.bool (rightB xs)) ∧ Below w.heap.size w w' :=
  (rightP a cap xs w h).mono fun _ _ ⟨he, hw⟩ => ⟨he, hw ▸ Below.refl _ _⟩
theorem sizeQ (a : Option Addr) (cap : Nat) (xs : List Int) (w : World) (h : IntsAt w a cap xs) :
    Calls Try.prog 13 #[.slice a xs.length cap] w fun e w' => e = .returned (.int .i64 (sizeS xs)) ∧ Below w.heap.size w w' :=
  (sizeP a cap xs w h).mono fun _ _ ⟨he, hw⟩ => ⟨he, hw ▸ Below.refl _ _⟩
theorem sameQ (a : Option Addr) (cap : Nat) (xs : List Int) (a2 : Option Addr) (cap2 : Nat) (ys : List Int) (w : World) (h : IntsAt w a cap xs) (g : IntsAt w a2 cap2 ys) :
    Calls Try.prog 15 #[.slice a xs.length cap, .slice a2 ys.length cap2] w fun e w' => e = .returned (.bool (sameB xs ys)) ∧ Below w.heap.size w w' := sameP a cap xs a2 cap2 ys w h g
theorem offsetQ (a : Option Addr) (cap : Nat) (xs : List Int) (a2 : Option Addr) (cap2 : Nat) (is : List Int) (w : World) (h : IntsAt w a cap xs) (g : IntsAt w a2 cap2 is) :
    Calls Try.prog 17 #[.slice a xs.length cap, .slice a2 is.length cap2] w fun e w' => e = .returned (.tuple #[.int .i64 (offS xs is).1, .bool (offS xs is).2]) ∧ Below w.heap.size w w' :=
  (offsetP a cap xs a2 cap2 is w h g).mono fun _ _ ⟨he, n, hw⟩ => ⟨he, hw ▸ below_drewN n⟩
theorem indexQ (a : Option Addr) (cap : Nat) (xs : List Int) (o : Int) (w : World) (h : IntsAt w a cap xs) :
    Calls Try.prog 19 #[.slice a xs.length cap, .int .i64 o] w (SliceBool (idxL xs o) (idxB xs o) w) := indexP a cap xs o w h
theorem agreeQ (a : Option Addr) (cap : Nat) (xs : List Int) (a2 : Option Addr) (cap2 : Nat) (ys : List Int) (w : World) (h : IntsAt w a cap xs) (g : IntsAt w a2 cap2 ys) :
    Calls Try.prog 21 #[.slice a xs.length cap, .slice a2 ys.length cap2] w (SliceBool (agL xs ys) (agB xs ys) w) := agreeP a cap xs a2 cap2 ys w h g
theorem rowQ (a : Option Addr) (cap : Nat) (xs : List Int) (f : Int) (w : World) (h : IntsAt w a cap xs) :
    Calls Try.prog 23 #[.slice a xs.length cap, .int .i64 f] w fun e w' => e = .returned (.tuple #[.int .i64 (rowS xs f).1, .int .i64 (rowS xs f).2]) ∧ Below w.heap.size w w' :=
  (rowP a cap xs f w h).mono fun _ _ ⟨he, n, hw⟩ => ⟨he, hw ▸ below_drewN n⟩
theorem showQ (a : Option Addr) (cap : Nat) (xs : List Int) (w : World) (h : IntsAt w a cap xs) (hs : xs.length ≤ 1000000) :
    Calls Try.prog 25 #[.slice a xs.length cap] w fun e w' => e = .returned (.string (jS xs)) ∧ Below w.heap.size w w' := showP a cap xs w h hs
end Go.Proofs.Ytjoljkcmpkajpaa.Shape
