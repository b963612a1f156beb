/-
  Layer 10: the reference's body. (Written by wip/gen/syn-r10.py.)
  Layer 10: a statement built round a node, and a slice of one statement.
-/
import Derived.Test.YtalkinnbfglkdaaGreatDoorPt13
import Derived.Test.YtalkinnbfglkdaaGreatDoorPt14
import Derived.Test.YtalkinnbfglkdaaGreatDoorPt8
namespace Go.Proofs.YtalkinnbfglkdaaGreatDoor.Syn
open Go.RowKit Go.Proofs.YtalkinnbfglkdaaGreatDoor.Shape
set_option linter.unusedVariables false
set_option linter.unusedSimpArgs false
set_option maxRecDepth 100000
def SF (w:World) (B:Nat) (S:St):Prop:=w.cell? ⟨B,0,none⟩=some (.int .i64 S.k)/\w.cell? ⟨B,1,none⟩=some (.int .i64 S.a)/\w.cell? ⟨B,2,none⟩=some (.string S.n)/\w.cell? ⟨B,3,none⟩=some (.int .i64 S.s) /\
 w.cell? ⟨B,21,none⟩=some (.int .i64 S.nd.c)/\w.cell? ⟨B,19,none⟩=some (.int .i64 S.nd.k)/\w.cell? ⟨B,6,none⟩=some (.int .i64 S.te.c)
theorem SF.below {w w':World}{B:Nat}{S:St}(h:SF w B S) (hb:Below w.heap.size w w'):SF w' B S:=by
 obtain ⟨h0,h1,h2,h3,h4,h5,h6⟩:=h
 exact ⟨(hb.cell (cell_lt h0)).trans h0,(hb.cell (cell_lt h1)).trans h1,(hb.cell (cell_lt h2)).trans h2,(hb.cell (cell_lt h3)).trans h3,(hb.cell (cell_lt h4)).trans h4,(hb.cell (cell_lt h5)).trans h5,(hb.cell (cell_lt h6)).trans h6⟩
theorem NdM.kc {w:World}{b off:Nat}{N:Nd}(h:NdM w b off N):w.cell? ⟨b,off,none⟩=some (.int .i64 N.k)/\w.cell? ⟨b,off+2,none⟩=some (.int .i64 N.c):=by
 obtain ⟨cs,h1,h2⟩:=h
 obtain ⟨v0,v1,v2,v3,ka,kc,ba,bc,kb,ko,bb,bo,O⟩:=h2.open
 have e:=O.eq
 subst e
 exact ⟨h1.cell 0 rfl,h1.cell 2 rfl⟩
theorem SF.of {w:World}{B:Nat}{S:St}(h:StM w B 0 S):SF w B S:=by
 have h1:=h.head
 have h2:=h.test.kc
 have h3:=h.node.kc
 simp only [Nat.zero_add,Nat.reduceAdd] at h1 h2 h3
 exact ⟨h1.1,h1.2.1,h1.2.2.1,h1.2.2.2,h3.2,h3.1,h2.2⟩
theorem StV.ns {w:World}{cs:List Value}{S:St}(h:StV w cs S):S.n.size<=9223372036854775807:=by
 cases S;rw [StV] at h;obtain ⟨ct,cn,-,-,h,-⟩:=h;exact h
theorem wpList_value {P:Program}{ops:Array Oper}{rest:List Oper}{o:Oper}{a:Act}{w w':World}{Q:Exit->Act->World->Prop}{v:Value}(hw:Region.wanted o (yielded ops a.tmps)=true) (hr:(execOp a.eval o).run P w=.ok (.value v) w')
  (hk:wpList P ops Q rest (a.put o.dst v) w'):wpList P ops Q (o::rest) a w :=
 wpList_step fun _ hK=>by rw [if_pos hw];unfold Oper.wp;rw [hr];exact hK _ _ hk
end Go.Proofs.YtalkinnbfglkdaaGreatDoor.Syn
