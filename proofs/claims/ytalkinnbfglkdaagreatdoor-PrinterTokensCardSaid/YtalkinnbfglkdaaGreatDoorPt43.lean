/-
  Layer 13: the reference's body. (Written by wip/gen/printer-r3.py.)
  Layer 13: the reference's parts, of all kinds. (Written by wip/gen/printer-r4.py.)
-/
import Derived.Test.YtalkinnbfglkdaaGreatDoorPt42
import Derived.Test.YtalkinnbfglkdaaGreatDoorPt13
import Derived.Test.YtalkinnbfglkdaaGreatDoorPt2
import Derived.Test.YtalkinnbfglkdaaGreatDoorPt7
import Derived.Test.YtalkinnbfglkdaaGreatDoorPt40
namespace Go.Proofs.YtalkinnbfglkdaaGreatDoor.Syn
open Go.RowKit Go.Shelf Go.Maps Go.Proofs.YtalkinnbfglkdaaGreatDoor.Shape
set_option linter.unusedVariables false
set_option linter.unusedSimpArgs false
set_option maxRecDepth 100000
theorem name_okS {S:St}(h:okS S=true) (k:S.k=2):nameB S.n=true:=by
 rw [okS_eqP,if_neg (by omega),if_pos k] at h
 simp only [Bool.and_eq_true] at h
 exact h.2.1.1.1
end Go.Proofs.YtalkinnbfglkdaaGreatDoor.Syn
namespace Go.Proofs.YtalkinnbfglkdaaGreatDoor.Syn
open Go.RowKit Go.Shelf Go.Maps Go.Proofs.YtalkinnbfglkdaaGreatDoor.Shape Go.Proofs.YtalkinnbfglkdaaGreatDoor.Draw
set_option linter.unusedVariables false
set_option linter.unusedSimpArgs false
set_option maxRecDepth 100000
def CloseAt (w:World) (u:Value):Prop:=∃ b,u=.slice (some ⟨b,0,none⟩) 1 1/\w.heap[b]?=some (.cells #[.string ⟨#[125]⟩] 9 (0,0))
theorem CloseAt.words {w:World}{u:Value}(h:CloseAt w u):∃ b,u=.slice (some ⟨b,0,none⟩) 1 1/\Words w b [⟨#[125]⟩]:=by
 obtain ⟨b,h1,h2⟩:=h
 refine ⟨b,h1,fun j x hj=>?_⟩
 rw [Shape.add_plain,Nat.zero_add,Lib.cell_of_heap h2]
 simpa using hj
theorem CloseAt.below {w w':World}{u:Value}(h:CloseAt w u) (hb:Below w.heap.size w w'):CloseAt w' u:=by
 obtain ⟨b,h1,h2⟩:=h
 exact ⟨b,h1,(hb.block _ (Array.getElem?_eq_some_iff.1 h2).1).trans h2⟩
theorem CloseAt.grown {w w':World}{u v:Value}{B:Nat}{l:List ByteArray}(h:CloseAt w u) (ho:OwnS B w v (⟨#[123]⟩::l)) (hg:w.grownBy w' v.ownBlock):CloseAt w' u:=by
 obtain ⟨b,h1,h2⟩:=h
 refine ⟨b,h1,(hg.block _ (Array.getElem?_eq_some_iff.1 h2).1 (fun e=>?_)).trans h2⟩
 have c:=World.ownsRow.cells ho e.symm 0 (.string ⟨#[123]⟩) rfl
 rw [Shape.add_plain,Nat.zero_add,Lib.cell_of_heap h2] at c
 simp at c
theorem Words.below {w w':World}{b:Nat}{m:List ByteArray}(h:Words w b m) (hb:Below w.heap.size w w'):Words w' b m:=fun j u hj=>by
 have:=h j u hj
 rw [Shape.add_plain,Nat.zero_add] at this ⊢
 exact (hb.cell (cell_lt this)).trans this
def LamJ (W:World) (M:List ByteArray) (k:Nat) (g:Nat->Value) (x:Option Value) (w:World):Prop :=
 Below W.heap.size W w/\(∀ u,x=some u->CloseAt w u) /\
 (k=1->∃ b,g 140=.slice (some ⟨b,0,none⟩) 1 1/\Words w b [⟨#[123]⟩]) /\
 (k=2∨k=3->OwnS W.heap.size w (g 141) [⟨#[123]⟩]) /\
 (k=3->∃ b c,g 146=.slice (some ⟨b,0,none⟩) M.length c/\Words w b M) /\
 (k=4->OwnS W.heap.size w (g 147) ([⟨#[123]⟩]++M)) /\
 (k=5->OwnS W.heap.size w (g 149) ([⟨#[123]⟩]++M++[⟨#[125]⟩]))
theorem LamJ.below {W w w':World}{M:List ByteArray}{k:Nat}{g:Nat->Value}{x:Option Value}(h:LamJ W M k g x w) (hb:Below w.heap.size w w'):LamJ W M k g x w':=by
 obtain ⟨h0,hx,h1,h2,h3,h4,h5⟩:=h
 refine ⟨Below.then h0 hb,fun u e=>(hx u e).below hb,fun e=>?_,fun e=>(h2 e).below hb,fun e=>?_,fun e=>(h4 e).below hb,fun e=>(h5 e).below hb⟩
 ·obtain ⟨b,a1,a2⟩:=h1 e;exact ⟨b,a1,a2.below hb⟩
 ·obtain ⟨b,c,a1,a2⟩:=h3 e;exact ⟨b,c,a1,a2.below hb⟩
theorem LamJ.cong {W:World}{M:List ByteArray}{chd:List Nat}(hc:chd=[140,141,146,147,149]):∀ (k:Nat) (g g':Nat->Value) (x:Option Value) (w:World),k<=5->(∀ j,j<k->g (chd.getD j 0)=g' (chd.getD j 0))->LamJ W M k g x w->LamJ W M k g' x w:=by
 subst hc
 rintro k g g' x w - hg ⟨h0,hx,h1,h2,h3,h4,h5⟩
 refine ⟨h0,hx,fun e=>?_,fun e=>?_,fun e=>?_,fun e=>?_,fun e=>?_⟩
 ·have:=hg 0 (by omega);have t:g 140=g' 140:=this;rw [<- t];exact h1 e
 ·have:=hg 1 (by omega);have t:g 141=g' 141:=this;rw [<- t];exact h2 e
 ·have:=hg 2 (by omega);have t:g 146=g' 146:=this;rw [<- t];exact h3 e
 ·have:=hg 3 (by omega);have t:g 147=g' 147:=this;rw [<- t];exact h4 e
 ·have:=hg 4 (by omega);have t:g 149=g' 149:=this;rw [<- t];exact h5 e
end Go.Proofs.YtalkinnbfglkdaaGreatDoor.Syn
