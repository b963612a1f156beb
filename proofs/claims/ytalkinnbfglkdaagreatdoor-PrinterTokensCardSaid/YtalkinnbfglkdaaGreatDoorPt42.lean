/-
  Layer 13: the reference's add: a node's parts put behind a list of one's own.
-/
import Derived.Test.YtalkinnbfglkdaaGreatDoorPt41
import Derived.Test.YtalkinnbfglkdaaGreatDoorPt14
namespace Go.Proofs.YtalkinnbfglkdaaGreatDoor.Syn
open Go.RowKit Go.Shelf Go.Maps Go.Proofs.YtalkinnbfglkdaaGreatDoor.Shape
set_option linter.unusedVariables false
set_option linter.unusedSimpArgs false
set_option maxRecDepth 100000
theorem OwnS.base {B B':Nat}{w:World}{v:Value}{l:List ByteArray}(h:OwnS B w v l) (hB:B'<=B):OwnS B' w v l :=
 ⟨h.1,h.2.imp id (fun ⟨g,cap,cur,hv,hb,r⟩=>⟨g,cap,cur,hv,Nat.le_trans hB hb,r⟩)⟩
theorem OwnS.none (B:Nat) (w:World):OwnS B w (.slice none 0 0) []:=World.ownsRow_nil _ _ _ _
theorem OwnS.words {B:Nat}{w:World}{v:Value}{m:List ByteArray}(h:OwnS B w v m) (hm:m≠[]):∃ g cap,v=.slice (some ⟨g,0,Option.none⟩) m.length cap/\Words w g m:=by
 have hc:=fun g (hg:v.ownBlock=some g)=>World.ownsRow.cells h hg
 rcases h.2 with ⟨rfl,h0⟩ |⟨g,cap,cur,rfl,-⟩
 ·exact absurd (List.eq_nil_of_length_eq_zero h0) hm
 ·exact ⟨g,cap,rfl,fun j u hj=>hc g rfl j u hj⟩
def BoxAt (w:World) (x:Nat) (cs:List Value):Prop:=w.heap[x]?=some (.cells cs.toArray 49 (0,0))
theorem BoxAt.cells {w:World}{x:Nat}{cs:List Value}(h:BoxAt w x cs):Cells w x 0 cs:=fun i hi=>by
 rw [Nat.zero_add,Lib.cell_of_heap h];simp [hi]
theorem BoxAt.new (w:World) (cs:List Value):BoxAt (w.alloc (.cells cs.toArray 49)) w.heap.size cs:=heap_alloc_new _ _
theorem BoxAt.lt {w:World}{x:Nat}{cs:List Value}(h:BoxAt w x cs):x<w.heap.size:=(Array.getElem?_eq_some_iff.1 h).1
theorem BoxAt.below {w w':World}{x:Nat}{cs:List Value}(h:BoxAt w x cs) (hb:Below w.heap.size w w'):BoxAt w' x cs:=(hb.block _ h.lt).trans h
theorem BoxAt.grown {w w':World}{x B:Nat}{cs:List Value}{v:Value}{l:List ByteArray}(h:BoxAt w x cs) (ho:OwnS B w v l) (hg:w.grownBy w' v.ownBlock):BoxAt w' x cs :=
 (hg.block _ h.lt (fun e=>(Lib.ownBlock_ne ho h (by decide)) e.symm)).trans h
end Go.Proofs.YtalkinnbfglkdaaGreatDoor.Syn
