/-
  Layer 10: an argument that is a node or a program, as the row's reading gives it, holds one; and how much there is in it.
  Layer 10: an argument that is a node, a list of statements or a program, as the row's reading gives it. (Written by wip/gen/syn-open2.py.)
-/
import Derived.Test.YtalkinnbfglkdaaGreatDoorPt4
import Derived.Test.YtalkinnbfglkdaaGreatDoorPt5
import Derived.Test.YtalkinnbfglkdaaGreatDoorPt14
namespace Go.Proofs.YtalkinnbfglkdaaGreatDoor.Syn
open Go.ChangeShapes Go.WideShapes Go.ChangeAt Go.RowKit Go.Joins Go.Proofs.YtalkinnbfglkdaaGreatDoor.Shape
set_option maxRecDepth 100000
theorem cellsNd:Tryz.prog.cellsOf 49=15:=by kernel_rfl
theorem cellsSt:Tryz.prog.cellsOf 53=34:=by kernel_rfl
theorem cells_of_get {W:World}{b off:Nat}{cs:List Value}(h:∀ i (hi:i<cs.length),W.cell? (((⟨b,off,none⟩:Addr)).add i)=some cs[i]):Cells W b off cs:=fun i hi=>by
 have:=h i hi
 rwa [Shape.add_plain] at this
theorem list12 {α:Type}{xs:List α}(h:xs.length=12):∃ y0 y1 y2 y3 y4 y5 y6 y7 y8 y9 y10 y11,xs=[y0,y1,y2,y3,y4,y5,y6,y7,y8,y9,y10,y11]:=by
 match xs,h with
 | [y0,y1,y2,y3,y4,y5,y6,y7,y8,y9,y10,y11],_=>exact ⟨y0,y1,y2,y3,y4,y5,y6,y7,y8,y9,y10,y11,rfl⟩
theorem list6 {α:Type}{xs:List α}(h:xs.length=6):∃ y0 y1 y2 y3 y4 y5,xs=[y0,y1,y2,y3,y4,y5]:=by
 match xs,h with
 | [y0,y1,y2,y3,y4,y5],_=>exact ⟨y0,y1,y2,y3,y4,y5,rfl⟩
theorem list34 {α:Type}{cs:List α}(h:cs.length=34):∃ c0 c1 c2 c3 t n,cs=c0::c1::c2::c3::(t++n)/\t.length=15/\n.length=15:=by
 match cs,h with
 | c0::c1::c2::c3::r,h =>
  refine ⟨c0,c1,c2,c3,r.take 15,r.drop 15,by rw [List.take_append_drop],?_,?_⟩ <;> simp at h ⊢ <;> omega
end Go.Proofs.YtalkinnbfglkdaaGreatDoor.Syn
