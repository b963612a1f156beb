/-
  Layer 10: a world but for some blocks; the nodes right within a node, and where they lie.
  Layer 10: the program's sameNode, sameBody, Same, SameProgram. (Written by wip/gen/syn-p1.py.)
  Layer 10: the program's within: a value that gives the nodes right within a node.
  Layer 10: sums over the nodes right within a node; what they are and where they lie; how many of a kind there are outside lambdas.
  Layer 10: the program's operatorClass, rightOperandClass, isUnnamed, hasKids.
  Layer 10: the library's EqualFunc over the kids' classes; the program's hasKids, isTrain.
-/
import Derived.Test.YtalkinnbfglkdaaGreatDoorPt14
import Derived.RangeFuncNested
import Derived.RangeFuncBound
import Derived.RangeFuncCalls
import Derived.RangeFuncLeaves
import Derived.RangeFuncBox
import Derived.Shelf.Abstract
import Derived.WalkKit
import Derived.OwnWalkIn
import Derived.TacticsInMore
import Derived.LoopNIn
import Derived.LoopIn
import Derived.Test.YtalkinnbfglkdaaGreatDoorPt8
import Derived.Test.YtalkinnbfglkdaaGreatDoorPt9
set_option maxHeartbeats 8000000
namespace Go.Proofs.YtalkinnbfglkdaaGreatDoor.Syn
open Go.RowKit Go.Proofs.YtalkinnbfglkdaaGreatDoor.Shape
set_option maxRecDepth 100000
structure But (n:Nat) (S:Nat->Prop) (w w':World):Prop where
 os:w'.os=w.os
 tape:w'.tape=w.tape
 output:w'.output=w.output
 size:w.heap.size<=w'.heap.size
 block:∀ k,k<n->¬ S k->w'.heap[k]?=w.heap[k]?
theorem But.refl (n:Nat) (S:Nat->Prop) (w:World):But n S w w:=⟨rfl,rfl,rfl,Nat.le_refl _,fun _ _ _=>rfl⟩
theorem But.trans {n:Nat}{S:Nat->Prop}{a b c:World}(h:But n S a b) (k:But n S b c):But n S a c :=
 ⟨k.os.trans h.os,k.tape.trans h.tape,k.output.trans h.output,Nat.le_trans h.size k.size,fun i hi hs=>(k.block i hi hs).trans (h.block i hi hs)⟩
theorem But.mono {n n':Nat}{S:Nat->Prop}{w w':World}(h:But n S w w') (hn:n'<=n):But n' S w w':=⟨h.os,h.tape,h.output,h.size,fun k hk hs=>h.block k (Nat.lt_of_lt_of_le hk hn) hs⟩
theorem But.of_below {n:Nat}{S:Nat->Prop}{w w':World}(h:Below n w w'):But n S w w':=⟨h.os,h.tape,h.output,h.size,fun k hk _=>h.block k hk⟩
theorem But.below {n n₀:Nat}{S:Nat->Prop}{w w':World}(h:But n S w w') (hn:n₀<=n) (hs:∀ k,S k->n₀<=k):Below n₀ w w' :=
 ⟨h.os,h.tape,h.output,h.size,fun k hk=>h.block k (by omega) (fun q=>by have:=hs k q;omega)⟩
theorem But.set {n:Nat}{S:Nat->Prop}{a w:World}(h:But n S a w) {p:Addr}(hp:S p.block) (u:Value):But n S a (w.setCell p u) :=
 h.trans ⟨rfl,rfl,rfl,by simp [World.setCell],fun k _ hs=>Below.heap_setCell _ _ _ _ (fun e=>hs (e ▸ hp))⟩
theorem But.cell {n:Nat}{S:Nat->Prop}{w w':World}(h:But n S w w') {p:Addr}(hp:p.block<n) (hs:¬ S p.block):w'.cell? p=w.cell? p:=World.cell?_of_block (h.block _ hp hs)
theorem But.put {n:Nat}{S:Nat->Prop}(W:World) (l:Nat) (o o':Obj) (hl:n<=l) (h:W.heap[l]?=some o):But n S W (W.putObj l o'):=by
 have hg:=grownBy_putObj' W l o'
 exact ⟨hg.os,hg.tape,hg.output,hg.size,fun k hk _=>hg.block k (by have:=(Array.getElem?_eq_some_iff.1 h).1;omega) (fun e=>by cases e;omega)⟩
def inK (b off:Nat):List Nd->List ((Nat × Nat) × Nd)
 | []=>[]
 | N::r=>((b,off),N)::inK b (off+15) r
def inS (b off:Nat) (S:St):List ((Nat × Nat) × Nd):=(if (S.k==3)=true then [((b,off+4),S.te)] else [])++[((b,off+19),S.nd)]
def inB (b off:Nat):List St->List ((Nat × Nat) × Nd)
 | []=>[]
 | S::r=>inS b off S++inB b (off+34) r
def inn (kb ko bb bo:Nat) (N:Nd):List ((Nat × Nat) × Nd):=inK kb ko N.ks++inB bb bo N.bd
def cntS (S:St):Nat:=if (S.k==3)=true then 2 else 1
def cntB:List St->Nat
 | []=>0
 | S::r=>cntS S+cntB r
theorem inK_len (b:Nat):∀ (off:Nat) (l:List Nd),(inK b off l).length=l.length
 | _,[]=>rfl
 | off,N::r=>by rw [inK,List.length_cons,inK_len b (off+15) r,List.length_cons]
theorem inS_len (b off:Nat) (S:St):(inS b off S).length=cntS S:=by unfold inS cntS;split <;> rfl
theorem inB_len (b:Nat):∀ (off:Nat) (l:List St),(inB b off l).length=cntB l
 | _,[]=>rfl
 | off,S::r=>by rw [inB,List.length_append,inS_len,inB_len b (off+34) r,cntB]
theorem inn_len (kb ko bb bo:Nat) (N:Nd):(inn kb ko bb bo N).length=N.ks.length+cntB N.bd:=by rw [inn,List.length_append,inK_len,inB_len]
theorem cntB_app (a b:List St):cntB (a++b)=cntB a+cntB b:=by
 induction a with
 | nil=>simp [cntB]
 | cons S r ih=>rw [List.cons_append,cntB,cntB,ih];omega
theorem cntB_step {l:List St}{j:Nat}(h:j<l.length):cntB (l.take (j+1))=cntB (l.take j)+cntS l[j]:=by
 rw [List.take_succ_eq_append_getElem h,cntB_app,cntB,cntB];omega
theorem cntB_le (l:List St) (j:Nat):cntB (l.take j)<=cntB l:=by
 have h:cntB (l.take j++l.drop j)=cntB l:=by rw [List.take_append_drop]
 rw [cntB_app] at h;omega
theorem inK_at (b:Nat):∀ (off:Nat) (l:List Nd) (j:Nat) (h:j<l.length),(inK b off l)[j]?=some ((b,off+j*15),l[j])
 | _,[],_,h=>absurd h (by simp)
 | off,N::r,0,_=>by simp [inK]
 | off,N::r,j+1,h=>by
  rw [inK,List.getElem?_cons_succ,inK_at b (off+15) r j (by simpa using h)]
  simp only [List.getElem_cons_succ,Option.some.injEq,Prod.mk.injEq,true_and,and_true]
  omega
theorem inB_at (b:Nat):∀ (off:Nat) (l:List St) (j:Nat) (h:j<l.length),((l[j].k==3)=true->(inB b off l)[cntB (l.take j)]?=some ((b,off+j*34+4),l[j].te)/\(inB b off l)[cntB (l.take j)+1]?=some ((b,off+j*34+19),l[j].nd)) /\
  ((l[j].k==3)=false->(inB b off l)[cntB (l.take j)]?=some ((b,off+j*34+19),l[j].nd))
 | _,[],_,h=>absurd h (by simp)
 | off,S::r,0,_=>by
  simp only [List.take_zero,cntB,List.getElem_cons_zero,inB,inS,Nat.zero_mul,Nat.add_zero]
  constructor
  ·intro h;rw [if_pos h];exact ⟨rfl,rfl⟩
  ·intro h;rw [if_neg (by rw [h];exact Bool.false_ne_true)];rfl
 | off,S::r,j+1,h=>by
  have ih:=inB_at b (off+34) r j (by simpa using h)
  have e:∀ i,(inB b off (S::r))[cntS S+i]? =(inB b (off+34) r)[i]?:=fun i=>by
   rw [inB,List.getElem?_append_right (by rw [inS_len];omega),inS_len,Nat.add_sub_cancel_left]
  have e2:off+(j+1)*34=off+34+j*34:=by omega
  simp only [List.take_succ_cons,cntB,List.getElem_cons_succ,e2,Nat.add_assoc]
  simp only [Nat.add_assoc] at ih
  exact ⟨fun h=>⟨(e _).trans (ih.1 h).1,(e _).trans (ih.1 h).2⟩,fun h=>(e _).trans (ih.2 h)⟩
set_option linter.unusedVariables false
set_option linter.unusedSimpArgs false
def NG (w:World) (b off:Nat) (N:Nd) (v0 v1 v2 v3:Value) (ka:Option Addr) (kc:Nat) (ba:Option Addr) (bc:Nat):Prop:=w.cell? ⟨b,off,none⟩=some (.int .i64 N.k)/\w.cell? ⟨b,off+1,none⟩=some (.int .i64 N.a)/\w.cell? ⟨b,off+2,none⟩=some (.int .i64 N.c)/\w.cell? ⟨b,off+3,none⟩=some (.string N.t)/\w.cell? ⟨b,off+4,none⟩=some (.int .i64 N.p)/\w.cell? ⟨b,off+5,none⟩=some (.int .i64 N.o)/\w.cell? ⟨b,off+6,none⟩=some (v0)/\w.cell? ⟨b,off+7,none⟩=some (v1)/\w.cell? ⟨b,off+8,none⟩=some (v2)/\w.cell? ⟨b,off+9,none⟩=some (v3)/\w.cell? ⟨b,off+10,none⟩=some (.slice ka N.ks.length kc)/\w.cell? ⟨b,off+11,none⟩=some (.slice ba N.bd.length bc)/\w.cell? ⟨b,off+12,none⟩=some (.int .i64 N.d)/\w.cell? ⟨b,off+13,none⟩=some (.int .i64 N.s)/\w.cell? ⟨b,off+14,none⟩=some (.int .i64 N.z)
theorem NG.below {w w':World}{b off:Nat}{N:Nd}{v0 v1 v2 v3:Value}{ka:Option Addr}{kc:Nat}{ba:Option Addr}{bc:Nat}(h:NG w b off N v0 v1 v2 v3 ka kc ba bc) (hb:Below w.heap.size w w'):NG w' b off N v0 v1 v2 v3 ka kc ba bc:=by
 obtain ⟨h0,h1,h2,h3,h4,h5,h6,h7,h8,h9,h10,h11,h12,h13,h14⟩:=h
 exact ⟨(hb.cell (cell_lt h0)).trans h0,(hb.cell (cell_lt h1)).trans h1,(hb.cell (cell_lt h2)).trans h2,(hb.cell (cell_lt h3)).trans h3,(hb.cell (cell_lt h4)).trans h4,(hb.cell (cell_lt h5)).trans h5,(hb.cell (cell_lt h6)).trans h6,(hb.cell (cell_lt h7)).trans h7,(hb.cell (cell_lt h8)).trans h8,(hb.cell (cell_lt h9)).trans h9,(hb.cell (cell_lt h10)).trans h10,(hb.cell (cell_lt h11)).trans h11,(hb.cell (cell_lt h12)).trans h12,(hb.cell (cell_lt h13)).trans h13,(hb.cell (cell_lt h14)).trans h14⟩
theorem Open.ng {w w':World}{cs:List Value}{N:Nd}{v0 v1 v2 v3:Value}{ka:Option Addr}{kc:Nat}{ba:Option Addr}{bc kb ko bb bo b off:Nat}(O:Open w cs N v0 v1 v2 v3 ka kc ba bc kb ko bb bo) (h:Cells w' b off cs):NG w' b off N v0 v1 v2 v3 ka kc ba bc:=by
 have e:=O.eq
 subst e
 exact ⟨h.cell 0 rfl,h.cell 1 rfl,h.cell 2 rfl,h.cell 3 rfl,h.cell 4 rfl,h.cell 5 rfl,h.cell 6 rfl,h.cell 7 rfl,h.cell 8 rfl,h.cell 9 rfl,h.cell 10 rfl,h.cell 11 rfl,h.cell 12 rfl,h.cell 13 rfl,h.cell 14 rfl⟩
def SameP (r:Nat):Prop:=∀ (b off b2 off2:Nat) (N M:Nd) (w:World),rkN N<r->NdM w b off N->NdM w b2 off2 M ->
 Calls Tryz.prog 91 #[.pointer (some ⟨b,off,none⟩),.pointer (some ⟨b2,off2,none⟩)] w fun e w'=>e=.returned (.bool (eqN N M))/\Below w.heap.size w w'
theorem sameBodyP (r:Nat) (ih:SameP r) (ba ba2:Option Addr) (bc bb bo bc2 bb2 bo2:Nat) (l l2:List St) (w:World) (hr:rkB l<r) (hl:l.length<=9223372036854775807) (hl2:l2.length<=9223372036854775807)
  (ha:l≠[]->ba=some ⟨bb,bo,none⟩) (hat:StsAt w bb bo l) (ha2:l2≠[]->ba2=some ⟨bb2,bo2,none⟩) (hat2:StsAt w bb2 bo2 l2) :
  Calls Tryz.prog 114 #[.slice ba l.length bc,.slice ba2 l2.length bc2] w fun e w'=>e=.returned (.bool (eqB l l2))/\Below w.heap.size w w':=by
 unfold SameP at ih
 by_cases hln:l.length=l2.length
 ·have hn':((l.length:Int) !=(l2.length:Int))=false:=by rw [hln];simp
  have HL:Hid (l.length=l2.length):=hln
  clear hln
  go_enter Tryz.func114,Tryz.ntmps114
  go_wp2
  clear hn'
  go_loopw [15] (fun i wr=>∃ (j:Nat),j<=l.length/\i=.int .i64 j/\Below w.heap.size w wr/\∀ i (h1:i<l.length) (h2:i<l2.length),i<j->eqS l[i] l2[i]=true) (fun i _=>l.length - (intOf i).toNat)
  case atStart=>exact ⟨0,Nat.zero_le _,rfl,Below.refl _ _,fun i _ _ hi=>absurd hi (Nat.not_lt_zero _)⟩
  case round =>
   obtain ⟨j,hj,rfl,hb,he⟩:=hrel
   have HE:Hid (∀ i (h1:i<l.length) (h2:i<l2.length),i<j->eqS l[i] l2[i]=true):=he
   clear he
   by_cases hlt:j<l.length
   ·have hlt2:j<l2.length:=by have:=HL.out;omega
    have hi:=stmts_at (ic:=bc) rfl ha hlt
    have hi2:=stmts_at (ic:=bc2) rfl ha2 hlt2
    go_wp2_with fail
    refine wp_region_sub (W:=wr) (by kernel_rfl) (by kernel_rfl) (Below.refl _ _) ?_
    repeat (go_big_quiet_step (fail))
    refine wpQuiet_nil ?_
    intro x
    have hbx:=Below.then hb x.below
    generalize x.w=w1 at *
    have hS:=(StsAt.below hbx hat).at hlt
    have hT:=(StsAt.below hbx hat2).at hlt2
    have x0:=fun x:Sub w1=>x.cell hS.head.1
    have x2:=fun x:Sub w1=>x.cell hS.head.2.2.1
    have y0:=fun x:Sub w1=>x.cell hT.head.1
    have y2:=fun x:Sub w1=>x.cell hT.head.2.2.1
    have hrk:=rkB_at hlt
    have h1:=rkN_pos l[j].te
    have h2:=rkN_pos l[j].nd
    have HQ:Hid (eqS l[j] l2[j] =(l[j].k==l2[j].k&&l[j].n==l2[j].n&&eqN l[j].te l2[j].te&&eqN l[j].nd l2[j].nd)):=eqS_eq _ _
    have HF:eqS l[j] l2[j]=false->Hid (eqB l l2=false):=fun h=>eqB_at l l2 j hlt hlt2 h
    have IH1:=fun x:Sub w1=>ih _ _ _ _ l[j].te l2[j].te x.w (by omega) (hS.test.below x.below) (hT.test.below x.below)
    have IH2:=fun x:Sub w1=>ih _ _ _ _ l[j].nd l2[j].nd x.w (by omega) (hS.node.below x.below) (hT.node.below x.below)
    clear ih
    by_cases ck:l[j].k=l2[j].k
    ·have ck':(l[j].k != l2[j].k)=false:=by simpa using ck
     have CK:(l[j].k==l2[j].k)=true:=by simpa using ck
     clear ck
     by_cases cn:l[j].n=l2[j].n
     ·have cn':=str_yes cn
      have CN:=ba_yes cn
      clear cn
      cases ct:eqN l[j].te l2[j].te with
      | false =>
       simp only [ct] at IH1
       have HG:=HF (by rw [HQ.out,CK,CN,ct];simp)
       clear HQ HF hS hT hrk
       go_wp2_with fail
       refine wp_region_sub (W:=w1) (by kernel_rfl) (by kernel_rfl) (Below.refl _ _) ?_
       repeat (go_big_quiet_step (((first |(go_at_call 91;with_reducible exact sub_call (IH1 _)) |(go_at_call 91;with_reducible exact sub_call (IH2 _))))))
       refine wpQuiet_nil ?_
       intro x
       have bx:=x.below
       generalize x.w=w2 at *
       go_wp2_with fail
       go_ret
       exact ⟨ret_bool HG.out.symm,Below.then hbx bx⟩
      | true =>
       simp only [ct] at IH1
       cases cq:eqN l[j].nd l2[j].nd with
       | false =>
        simp only [cq] at IH2
        have HG:=HF (by rw [HQ.out,cq];simp)
        clear HQ HF hS hT hrk
        go_wp2_with fail
        refine wp_region_sub (W:=w1) (by kernel_rfl) (by kernel_rfl) (Below.refl _ _) ?_
        repeat (go_big_quiet_step (((first |(go_at_call 91;with_reducible exact sub_call (IH1 _)) |(go_at_call 91;with_reducible exact sub_call (IH2 _))))))
        refine wpQuiet_nil ?_
        intro x
        have bx:=x.below
        generalize x.w=w2 at *
        go_wp2_with fail
        go_ret
        exact ⟨ret_bool HG.out.symm,Below.then hbx bx⟩
       | true =>
        simp only [cq] at IH2
        have HG:Hid (eqS l[j] l2[j]=true):=by unfold Hid;rw [HQ.out,CK,CN,ct,cq];rfl
        clear HQ HF hS hT hrk
        go_wp2_with fail
        refine wp_region_sub (W:=w1) (by kernel_rfl) (by kernel_rfl) (Below.refl _ _) ?_
        repeat (go_big_quiet_step (((first |(go_at_call 91;with_reducible exact sub_call (IH1 _)) |(go_at_call 91;with_reducible exact sub_call (IH2 _))))))
        refine wpQuiet_nil ?_
        intro x
        have bx:=x.below
        generalize x.w=w2 at *
        go_wp2_with fail
        go_roundw
        case rel=>exact ⟨j+1,by omega,by go_num,Below.then hbx bx,fun i h1 h2 hi=>by
         by_cases e:i=j
         ·subst e;exact HG.out
         ·exact HE.out i h1 h2 (by omega)⟩
        case measure=>simp [intOf];omega
     ·have cn':=str_no cn
      have CN:=ba_no cn
      clear cn
      have HG:=HF (by rw [HQ.out,CN];simp)
      clear HQ HF hS hT hrk
      go_wp2_with fail
      refine wp_region_sub (W:=w1) (by kernel_rfl) (by kernel_rfl) (Below.refl _ _) ?_
      repeat (go_big_quiet_step (((first |(go_at_call 91;with_reducible exact sub_call (IH1 _)) |(go_at_call 91;with_reducible exact sub_call (IH2 _))))))
      refine wpQuiet_nil ?_
      intro x
      have bx:=x.below
      generalize x.w=w2 at *
      go_wp2_with fail
      go_ret
      exact ⟨ret_bool HG.out.symm,Below.then hbx bx⟩
    ·have ck':(l[j].k != l2[j].k)=true:=by simpa using ck
     have CK:(l[j].k==l2[j].k)=false:=by simpa using ck
     clear ck
     have HG:=HF (by rw [HQ.out,CK];simp)
     clear HQ HF hS hT hrk
     go_wp2_with fail
     refine wp_region_sub (W:=w1) (by kernel_rfl) (by kernel_rfl) (Below.refl _ _) ?_
     repeat (go_big_quiet_step (((first |(go_at_call 91;with_reducible exact sub_call (IH1 _)) |(go_at_call 91;with_reducible exact sub_call (IH2 _))))))
     refine wpQuiet_nil ?_
     intro x
     have bx:=x.below
     generalize x.w=w2 at *
     go_wp2_with fail
     go_ret
     exact ⟨ret_bool HG.out.symm,Below.then hbx bx⟩
   ·obtain rfl:j=l.length:=by omega
    have HG:Hid (eqB l l2=true):=eqB_all l l2 HL.out (fun i h1 h2=>HE.out i h1 h2 h1)
    clear ih
    go_wp2_with fail
    go_ret
    exact ⟨ret_bool HG.out.symm,hb⟩
 ·have hn':((l.length:Int) !=(l2.length:Int))=true:=by simp;omega
  have HG:Hid (eqB l l2=false):=eqB_len l l2 hln
  clear hln ih
  go_enter Tryz.func114,Tryz.ntmps114
  go_wp2
  go_ret
  exact ⟨ret_bool HG.out.symm,Below.refl _ _⟩
theorem sameP_step (r:Nat) (ih:SameP r):SameP (r+1):=by
 intro b off b2 off2 N M w hr h g
 have BS:=fun w' ba ba2 bc bb bo bc2 bb2 bo2 hl hl2 ha hat ha2 hat2=>sameBodyP r ih ba ba2 bc bb bo bc2 bb2 bo2 N.bd M.bd w' (rkB_lt hr) hl hl2 ha hat ha2 hat2
 unfold SameP at ih
 obtain ⟨cs,hc,hN⟩:=h
 obtain ⟨ds,hd,hM⟩:=g
 obtain ⟨v0,v1,v2,v3,ka,kc,ba,bc,kb,ko,bb,bo,O⟩:=hN.open
 obtain ⟨u0,u1,u2,u3,ka2,kc2,ba2,bc2,kb2,ko2,bb2,bo2,U⟩:=hM.open
 have HN:=O.ng hc
 have HM:=U.ng hd
 have hk1:N.ks.length<=9223372036854775807:=by have:=O.kl;omega
 have hk2:M.ks.length<=9223372036854775807:=by have:=U.kl;omega
 have hb1:N.bd.length<=9223372036854775807:=by have:=O.bl;omega
 have hb2:M.bd.length<=9223372036854775807:=by have:=U.bl;omega
 have HQ:Hid (eqN N M =(N.k==M.k&&N.c==M.c&&N.t==M.t&&N.p==M.p&&N.o==M.o&&eqA N.v M.v&&eqK N.ks M.ks&&eqB N.bd M.bd)):=eqN_eq _ _
 have SA:=fun x (g:Below w.heap.size w x)=>sameQ (.agg #[v0,v1,v2,v3]) (.agg #[u0,u1,u2,u3]) N.v M.v x (O.arr.below g) (U.arr.below g)
 obtain ⟨a0,a1,a2,a3,a4,a5,a6,a7,a8,a9,a10,a11,a12,a13,a14⟩:=id HN
 obtain ⟨e0,e1,e2,e3,e4,e5,e6,e7,e8,e9,e10,e11,e12,e13,e14⟩:=id HM
 have x0:=fun x:Sub w=>x.cell a0
 have y0:=fun x:Sub w=>x.cell e0
 have x2:=fun x:Sub w=>x.cell a2
 have y2:=fun x:Sub w=>x.cell e2
 have x3:=fun x:Sub w=>x.cell a3
 have y3:=fun x:Sub w=>x.cell e3
 have x4:=fun x:Sub w=>x.cell a4
 have y4:=fun x:Sub w=>x.cell e4
 have x5:=fun x:Sub w=>x.cell a5
 have y5:=fun x:Sub w=>x.cell e5
 clear a0 a1 a2 a3 a4 a5 a6 a7 a8 a9 a10 a11 a12 a13 a14 e0 e1 e2 e3 e4 e5 e6 e7 e8 e9 e10 e11 e12 e13 e14
 by_cases c0:N.k=M.k
 ·have c0':(N.k != M.k)=false:=by simpa using c0
  have E0:Hid ((N.k==M.k)=true):=by unfold Hid;simpa using c0
  clear c0
  by_cases c1:N.c=M.c
  ·have c1':(N.c != M.c)=false:=by simpa using c1
   have E1:Hid ((N.c==M.c)=true):=by unfold Hid;simpa using c1
   clear c1
   by_cases c2:N.t=M.t
   ·have c2':=str_yes c2
    have E2:Hid ((N.t==M.t)=true):=ba_yes c2
    clear c2
    by_cases c3:N.p=M.p
    ·have c3':(N.p != M.p)=false:=by simpa using c3
     have E3:Hid ((N.p==M.p)=true):=by unfold Hid;simpa using c3
     clear c3
     by_cases c4:N.o=M.o
     ·have c4':(N.o != M.o)=false:=by simpa using c4
      have E4:Hid ((N.o==M.o)=true):=by unfold Hid;simpa using c4
      clear c4
      cases ev:eqA N.v M.v with
      | false =>
       simp only [ev] at SA
       have HG:Hid (eqN N M=false):=by unfold Hid;rw [HQ.out,ev];simp
       clear HQ ih BS O U hN hM
       go_enter Tryz.func91,Tryz.ntmps91
       go_wp2
       refine wp_region_sub (W:=w) (by kernel_rfl) (by kernel_rfl) (Below.refl _ _) ?_
       repeat (go_big_quiet_step (fail))
       refine wpQuiet_nil ?_
       intro x
       have bx:=x.below
       generalize x.w=w1 at *
       have SAx:=fun x:Sub w1=>SA x.w (Below.then bx x.below)
       obtain ⟨a0,a1,a2,a3,a4,a5,a6,a7,a8,a9,a10,a11,a12,a13,a14⟩:=HN.below bx
       obtain ⟨e0,e1,e2,e3,e4,e5,e6,e7,e8,e9,e10,e11,e12,e13,e14⟩:=HM.below bx
       have p6:=fun x:Sub w1=>x.cell a6
       have q6:=fun x:Sub w1=>x.cell e6
       have p7:=fun x:Sub w1=>x.cell a7
       have q7:=fun x:Sub w1=>x.cell e7
       have p8:=fun x:Sub w1=>x.cell a8
       have q8:=fun x:Sub w1=>x.cell e8
       have p9:=fun x:Sub w1=>x.cell a9
       have q9:=fun x:Sub w1=>x.cell e9
       have p10:=fun x:Sub w1=>x.cell a10
       have q10:=fun x:Sub w1=>x.cell e10
       clear a0 a1 a2 a3 a4 a5 a6 a7 a8 a9 a10 a11 a12 a13 a14 e0 e1 e2 e3 e4 e5 e6 e7 e8 e9 e10 e11 e12 e13 e14 x0 x2 x3 x4 x5 y0 y2 y3 y4 y5
       go_wp2_with fail
       refine wp_region_sub (W:=w1) (by kernel_rfl) (by kernel_rfl) (Below.refl _ _) ?_
       repeat (go_big_quiet_step (((go_at_call 113;with_reducible exact sub_call (SAx _)))))
       refine wpQuiet_nil ?_
       intro x
       have bx2:=Below.then bx x.below
       generalize x.w=w2 at *
       clear p6 p7 p8 p9 p10 q6 q7 q8 q9 q10 SAx SA
       go_wp2_with fail
       go_ret
       exact ⟨ret_bool HG.out.symm,bx2⟩
      | true =>
       simp only [ev] at SA
       by_cases cl:N.ks.length=M.ks.length
       ·have cl':((N.ks.length:Int) !=(M.ks.length:Int))=false:=by rw [cl];simp
        have CL:Hid (N.ks.length=M.ks.length):=cl
        clear cl
        have HK:Hid (eqN N M =(eqK N.ks M.ks&&eqB N.bd M.bd)):=by unfold Hid;rw [HQ.out,E0.out,E1.out,E2.out,E3.out,E4.out,ev];simp
        clear HQ ev
        go_enter Tryz.func91,Tryz.ntmps91
        go_wp2
        refine wp_region_sub (W:=w) (by kernel_rfl) (by kernel_rfl) (Below.refl _ _) ?_
        repeat (go_big_quiet_step (fail))
        refine wpQuiet_nil ?_
        intro x
        have bx:=x.below
        generalize x.w=w1 at *
        have SAx:=fun x:Sub w1=>SA x.w (Below.then bx x.below)
        obtain ⟨a0,a1,a2,a3,a4,a5,a6,a7,a8,a9,a10,a11,a12,a13,a14⟩:=HN.below bx
        obtain ⟨e0,e1,e2,e3,e4,e5,e6,e7,e8,e9,e10,e11,e12,e13,e14⟩:=HM.below bx
        have p6:=fun x:Sub w1=>x.cell a6
        have q6:=fun x:Sub w1=>x.cell e6
        have p7:=fun x:Sub w1=>x.cell a7
        have q7:=fun x:Sub w1=>x.cell e7
        have p8:=fun x:Sub w1=>x.cell a8
        have q8:=fun x:Sub w1=>x.cell e8
        have p9:=fun x:Sub w1=>x.cell a9
        have q9:=fun x:Sub w1=>x.cell e9
        have p10:=fun x:Sub w1=>x.cell a10
        have q10:=fun x:Sub w1=>x.cell e10
        clear a0 a1 a2 a3 a4 a5 a6 a7 a8 a9 a10 a11 a12 a13 a14 e0 e1 e2 e3 e4 e5 e6 e7 e8 e9 e10 e11 e12 e13 e14 x0 x2 x3 x4 x5 y0 y2 y3 y4 y5
        go_wp2_with fail
        refine wp_region_sub (W:=w1) (by kernel_rfl) (by kernel_rfl) (Below.refl _ _) ?_
        repeat (go_big_quiet_step (((go_at_call 113;with_reducible exact sub_call (SAx _)))))
        refine wpQuiet_nil ?_
        intro x
        have bx2:=Below.then bx x.below
        generalize x.w=w2 at *
        clear p6 p7 p8 p9 p10 q6 q7 q8 q9 q10 SAx SA
        obtain ⟨-,-,-,-,-,-,-,-,-,-,a10,a11,-,-,-⟩:=HN.below bx2
        obtain ⟨-,-,-,-,-,-,-,-,-,-,e10,e11,-,-,-⟩:=HM.below bx2
        go_wp2_with fail
        go_loopw [87] (fun i wr=>∃ j:Nat,j<=N.ks.length/\i=.int .i64 j/\Below w.heap.size w wr/\∀ i (h1:i<N.ks.length) (h2:i<M.ks.length),i<j->eqN N.ks[i] M.ks[i]=true) (fun i _=>N.ks.length - (intOf i).toNat)
        case atStart=>exact ⟨0,Nat.zero_le _,rfl,bx2,fun i _ _ hi=>absurd hi (Nat.not_lt_zero _)⟩
        case round =>
         clear a10 a11 e10 e11
         obtain ⟨j,hj,rfl,hb,he⟩:=hrel
         have HE:Hid (∀ i (h1:i<N.ks.length) (h2:i<M.ks.length),i<j->eqN N.ks[i] M.ks[i]=true):=he
         clear he
         obtain ⟨-,-,-,-,-,-,-,-,-,-,a10,a11,-,-,-⟩:=HN.below hb
         obtain ⟨-,-,-,-,-,-,-,-,-,-,e10,e11,-,-,-⟩:=HM.below hb
         by_cases hlt:j<N.ks.length
         ·have hlt2:j<M.ks.length:=by have:=CL.out;omega
          have hi:=kids_at (ic:=kc) rfl O.ka hlt
          have hi2:=kids_at (ic:=kc2) rfl U.ka hlt2
          have hV:=(NdsAt.below hb O.kat).at hlt
          have hW:=(NdsAt.below hb U.kat).at hlt2
          have hrk:=rk_kid N hlt
          have IH:=fun x:Sub wr=>ih _ _ _ _ N.ks[j] M.ks[j] x.w (by omega) (hV.below x.below) (hW.below x.below)
          have p10:=fun x:Sub wr=>x.cell a10
          have q10:=fun x:Sub wr=>x.cell e10
          cases ce:eqN N.ks[j] M.ks[j] with
          | true =>
           have HC:Hid (eqN N.ks[j] M.ks[j]=true):=ce
           simp only [ce] at IH
           clear ih BS hV hW ce O U hN hM
           go_wp2_with fail
           refine wp_region_sub (W:=wr) (by kernel_rfl) (by kernel_rfl) (Below.refl _ _) ?_
           repeat (go_big_quiet_step ((go_at_call 91;with_reducible exact sub_call (IH _))))
           refine wpQuiet_nil ?_
           intro x
           have bx3:=x.below
           generalize x.w=w3 at *
           go_wp2_with fail
           go_roundw
           case rel=>exact ⟨j+1,by omega,by go_num,Below.then hb bx3,fun i h1 h2 hi=>by
            by_cases e:i=j
            ·subst e;exact HC.out
            ·exact HE.out i h1 h2 (by omega)⟩
           case measure=>simp [intOf];omega
          | false =>
           have HF:Hid (eqN N M=false):=by unfold Hid;rw [HK.out,eqK_at N.ks M.ks j hlt hlt2 ce];rfl
           simp only [ce] at IH
           clear ih BS hV hW ce O U hN hM
           go_wp2_with fail
           refine wp_region_sub (W:=wr) (by kernel_rfl) (by kernel_rfl) (Below.refl _ _) ?_
           repeat (go_big_quiet_step ((go_at_call 91;with_reducible exact sub_call (IH _))))
           refine wpQuiet_nil ?_
           intro x
           have bx3:=x.below
           generalize x.w=w3 at *
           go_wp2_with fail
           go_ret
           exact ⟨ret_bool HF.out.symm,Below.then hb bx3⟩
         ·obtain rfl:j=N.ks.length:=by omega
          have HA:eqK N.ks M.ks=true:=eqK_all N.ks M.ks CL.out (fun i h1 h2=>HE.out i h1 h2 h1)
          have HF:Hid (eqN N M=eqB N.bd M.bd):=by unfold Hid;rw [HK.out,HA];rfl
          have BC:=fun x:Sub wr=>BS x.w ba ba2 bc bb bo bc2 bb2 bo2 hb1 hb2 O.ba (StsAt.below (Below.then hb x.below) O.bat) U.ba (StsAt.below (Below.then hb x.below) U.bat)
          have p11:=fun x:Sub wr=>x.cell a11
          have q11:=fun x:Sub wr=>x.cell e11
          clear ih BS O U hN hM HA
          go_wp2_with fail
          refine wp_region_sub (W:=wr) (by kernel_rfl) (by kernel_rfl) (Below.refl _ _) ?_
          repeat (go_big_quiet_step ((go_at_call 114;with_reducible exact sub_call (BC _))))
          refine wpQuiet_nil ?_
          intro x
          have bx3:=x.below
          generalize x.w=w3 at *
          go_wp2_with fail
          go_ret
          exact ⟨ret_bool HF.out.symm,Below.then hb bx3⟩
       ·have cl':((N.ks.length:Int) !=(M.ks.length:Int))=true:=by simp;omega
        have HG:Hid (eqN N M=false):=by unfold Hid;rw [HQ.out,eqK_len _ _ cl];simp
        clear HQ ih BS O U hN hM cl
        go_enter Tryz.func91,Tryz.ntmps91
        go_wp2
        refine wp_region_sub (W:=w) (by kernel_rfl) (by kernel_rfl) (Below.refl _ _) ?_
        repeat (go_big_quiet_step (fail))
        refine wpQuiet_nil ?_
        intro x
        have bx:=x.below
        generalize x.w=w1 at *
        have SAx:=fun x:Sub w1=>SA x.w (Below.then bx x.below)
        obtain ⟨a0,a1,a2,a3,a4,a5,a6,a7,a8,a9,a10,a11,a12,a13,a14⟩:=HN.below bx
        obtain ⟨e0,e1,e2,e3,e4,e5,e6,e7,e8,e9,e10,e11,e12,e13,e14⟩:=HM.below bx
        have p6:=fun x:Sub w1=>x.cell a6
        have q6:=fun x:Sub w1=>x.cell e6
        have p7:=fun x:Sub w1=>x.cell a7
        have q7:=fun x:Sub w1=>x.cell e7
        have p8:=fun x:Sub w1=>x.cell a8
        have q8:=fun x:Sub w1=>x.cell e8
        have p9:=fun x:Sub w1=>x.cell a9
        have q9:=fun x:Sub w1=>x.cell e9
        have p10:=fun x:Sub w1=>x.cell a10
        have q10:=fun x:Sub w1=>x.cell e10
        clear a0 a1 a2 a3 a4 a5 a6 a7 a8 a9 a10 a11 a12 a13 a14 e0 e1 e2 e3 e4 e5 e6 e7 e8 e9 e10 e11 e12 e13 e14 x0 x2 x3 x4 x5 y0 y2 y3 y4 y5
        go_wp2_with fail
        refine wp_region_sub (W:=w1) (by kernel_rfl) (by kernel_rfl) (Below.refl _ _) ?_
        repeat (go_big_quiet_step (((go_at_call 113;with_reducible exact sub_call (SAx _)))))
        refine wpQuiet_nil ?_
        intro x
        have bx2:=Below.then bx x.below
        generalize x.w=w2 at *
        clear p6 p7 p8 p9 p10 q6 q7 q8 q9 q10 SAx SA
        go_wp2_with fail
        go_ret
        exact ⟨ret_bool HG.out.symm,bx2⟩
     ·have c4':(N.o != M.o)=true:=by simpa using c4
      have HG:Hid (eqN N M=false):=by unfold Hid;rw [HQ.out,show (N.o==M.o)=false by simpa using c4];simp
      clear HQ ih BS SA O U hN hM
      go_enter Tryz.func91,Tryz.ntmps91
      go_wp2
      refine wp_region_sub (W:=w) (by kernel_rfl) (by kernel_rfl) (Below.refl _ _) ?_
      repeat (go_big_quiet_step (fail))
      refine wpQuiet_nil ?_
      intro x
      have bx:=x.below
      generalize x.w=w1 at *
      go_wp2_with fail
      go_ret
      exact ⟨ret_bool HG.out.symm,bx⟩
    ·have c3':(N.p != M.p)=true:=by simpa using c3
     have HG:Hid (eqN N M=false):=by unfold Hid;rw [HQ.out,show (N.p==M.p)=false by simpa using c3];simp
     clear HQ ih BS SA O U hN hM
     go_enter Tryz.func91,Tryz.ntmps91
     go_wp2
     refine wp_region_sub (W:=w) (by kernel_rfl) (by kernel_rfl) (Below.refl _ _) ?_
     repeat (go_big_quiet_step (fail))
     refine wpQuiet_nil ?_
     intro x
     have bx:=x.below
     generalize x.w=w1 at *
     go_wp2_with fail
     go_ret
     exact ⟨ret_bool HG.out.symm,bx⟩
   ·have c2':=str_no c2
    have HG:Hid (eqN N M=false):=by unfold Hid;rw [HQ.out,ba_no c2];simp
    clear HQ ih BS SA O U hN hM
    go_enter Tryz.func91,Tryz.ntmps91
    go_wp2
    refine wp_region_sub (W:=w) (by kernel_rfl) (by kernel_rfl) (Below.refl _ _) ?_
    repeat (go_big_quiet_step (fail))
    refine wpQuiet_nil ?_
    intro x
    have bx:=x.below
    generalize x.w=w1 at *
    go_wp2_with fail
    go_ret
    exact ⟨ret_bool HG.out.symm,bx⟩
  ·have c1':(N.c != M.c)=true:=by simpa using c1
   have HG:Hid (eqN N M=false):=by unfold Hid;rw [HQ.out,show (N.c==M.c)=false by simpa using c1];simp
   clear HQ ih BS SA O U hN hM
   go_enter Tryz.func91,Tryz.ntmps91
   go_wp2
   refine wp_region_sub (W:=w) (by kernel_rfl) (by kernel_rfl) (Below.refl _ _) ?_
   repeat (go_big_quiet_step (fail))
   refine wpQuiet_nil ?_
   intro x
   have bx:=x.below
   generalize x.w=w1 at *
   go_wp2_with fail
   go_ret
   exact ⟨ret_bool HG.out.symm,bx⟩
 ·have c0':(N.k != M.k)=true:=by simpa using c0
  have HG:Hid (eqN N M=false):=by unfold Hid;rw [HQ.out,show (N.k==M.k)=false by simpa using c0];simp
  clear HQ ih BS SA O U hN hM
  go_enter Tryz.func91,Tryz.ntmps91
  go_wp2
  refine wp_region_sub (W:=w) (by kernel_rfl) (by kernel_rfl) (Below.refl _ _) ?_
  repeat (go_big_quiet_step (fail))
  refine wpQuiet_nil ?_
  intro x
  have bx:=x.below
  generalize x.w=w1 at *
  go_wp2_with fail
  go_ret
  exact ⟨ret_bool HG.out.symm,bx⟩
theorem sameP_all:∀ r,SameP r
 | 0=>fun b off b2 off2 N M w hr=>absurd hr (Nat.not_lt_zero _)
 | r+1=>sameP_step r (sameP_all r)
theorem sameNodeP (b off b2 off2:Nat) (N M:Nd) (w:World) (h:NdM w b off N) (g:NdM w b2 off2 M) :
  Calls Tryz.prog 91 #[.pointer (some ⟨b,off,none⟩),.pointer (some ⟨b2,off2,none⟩)] w fun e w'=>e=.returned (.bool (eqN N M))/\Below w.heap.size w w' :=
 sameP_all (rkN N+1) b off b2 off2 N M w (Nat.lt_succ_self _) h g
theorem NdV.mem {w:World}{cs:List Value}{N:Nd}(h:NdV w cs N) (T:TypeId):NdM (w.alloc (.cells cs.toArray T)) w.heap.size 0 N:=⟨cs,cells_new w cs T,h.below (below_new _ _)⟩
end Go.Proofs.YtalkinnbfglkdaaGreatDoor.Syn
namespace Go.Proofs.YtalkinnbfglkdaaGreatDoor.Syn
open Go.RowKit Go.Shelf Go.Proofs.YtalkinnbfglkdaaGreatDoor.Shape
set_option linter.unusedVariables false
set_option linter.unusedSimpArgs false
set_option maxRecDepth 100000
attribute [local go_sem] Oper.semAt_some
abbrev InAt (L:List ((Nat × Nat) × Nd)):Type:={ x:(Nat × Nat) × Nd // x∈L }
def inPtr {L:List ((Nat × Nat) × Nd)}(x:InAt L):Array Value:=#[.pointer (some ⟨x.1.1.1,x.1.1.2,none⟩)]
def all (L:List ((Nat × Nat) × Nd)):List (InAt L):=L.attach
theorem all_len (L:List ((Nat × Nat) × Nd)):(all L).length=L.length:=by unfold all;exact List.length_attach
theorem all_at {L:List ((Nat × Nat) × Nd)}{m:Nat}{y:(Nat × Nat) × Nd}(h:L[m]?=some y):∃ x:InAt L,(all L)[m]?=some x/\x.1=y:=by
 obtain ⟨hm,e⟩:=List.getElem?_eq_some_iff.1 h
 refine ⟨L.attach[m]'(by rw [List.length_attach];exact hm),?_,?_⟩
 ·unfold all;exact List.getElem?_eq_getElem (by rw [List.length_attach];exact hm)
 ·rw [List.getElem_attach];exact e
theorem take_next {α:Type}{L:List α}{m:Nat}{x:α}(h:L[m]?=some x):L.take (m+1)=L.take m++[x]:=by
 obtain ⟨hm,e⟩:=List.getElem?_eq_some_iff.1 h
 rw [List.take_succ_eq_append_getElem hm,e]
structure Old (w0:World) (b off:Nat) (N:Nd) (ka:Option Addr) (kc kb ko:Nat) (ba:Option Addr) (bc bb bo:Nat):Prop where
 ck:w0.cell? ⟨b,off+10,none⟩=some (.slice ka N.ks.length kc)
 cb:w0.cell? ⟨b,off+11,none⟩=some (.slice ba N.bd.length bc)
 ka:N.ks≠[]->ka=some ⟨kb,ko,none⟩
 kat:NdsAt w0 kb ko N.ks
 ba:N.bd≠[]->ba=some ⟨bb,bo,none⟩
 bat:StsAt w0 bb bo N.bd
 kl:N.ks.length<=9223372036854775807
 bl:N.bd.length<=9223372036854775807
theorem Open.old {w0:World}{cs:List Value}{N:Nd}{v0 v1 v2 v3:Value}{ka:Option Addr}{kc:Nat}{ba:Option Addr}{bc kb ko bb bo b off:Nat}(O:Open w0 cs N v0 v1 v2 v3 ka kc ba bc kb ko bb bo) (h:Cells w0 b off cs):Old w0 b off N ka kc kb ko ba bc bb bo:=by
 have g:=O.ng h
 obtain ⟨-,-,-,-,-,-,-,-,-,-,g10,g11,-,-,-⟩:=g
 exact ⟨g10,g11,O.ka,O.kat,O.ba,O.bat,by have:=O.kl;omega,by have:=O.bl;omega⟩
theorem Old.below {w0 w:World}{b off:Nat}{N:Nd}{ka:Option Addr}{kc kb ko:Nat}{ba:Option Addr}{bc bb bo:Nat}(h:Old w0 b off N ka kc kb ko ba bc bb bo) (hb:Below w0.heap.size w0 w):Old w b off N ka kc kb ko ba bc bb bo :=
 ⟨(hb.cell (cell_lt h.ck)).trans h.ck,(hb.cell (cell_lt h.cb)).trans h.cb,h.ka,NdsAt.below hb h.kat,h.ba,StsAt.below hb h.bat,h.kl,h.bl⟩
theorem within1_in (F:Fence) (n:Nat) (h1:F.fn 90) (hro:F.round=none) (hn:1<=n) (l Bn n₂:Nat) (S:Nat->Prop) (w0:World) (b off:Nat) (N:Nd) (ka:Option Addr) (kc kb ko:Nat) (ba:Option Addr) (bc bb bo:Nat)
  (hO:Old w0 b off N ka kc kb ko ba bc bb bo) (hs:∀ k,S k->w0.heap.size<=k) (h2:w0.heap.size<=n₂) (hBn:Bn<n₂) (hBs:¬ S Bn)
  (J Jx:List (InAt (inn kb ko bb bo N))->World->Prop)
  (hY:∀ pre x W,J pre W->pre.length <(inn kb ko bb bo N).length->YieldAt F (n - 1) Tryz.prog l (inPtr x) W fun e W' =>
   (e=.returned (.bool true)/\J (pre++[x]) W'/\But n₂ S W W')∨(e=.returned (.bool false)/\Jx (pre++[x]) W'))
  (W:World) (hB:Below w0.heap.size w0 W) (hc:W.cell? ⟨Bn,0,none⟩=some (.pointer (some ⟨b,off,none⟩))) (h0:J [] W) :
  CallsIn F n Tryz.prog 90 #[.func (.yield l) #[] #[],.pointer (some ⟨Bn,0,none⟩)] W fun e W'=>(∃ v,e=.returned v) /\
   ((∃ ys,ys=all (inn kb ko bb bo N)/\J ys W')∨(∃ pre,pre <+: all (inn kb ko bb bo N)/\Jx pre W')):=by
 obtain ⟨LL,hLL⟩:∃ LL,all (inn kb ko bb bo N)=LL:=⟨_,rfl⟩
 have hlen:LL.length=N.ks.length+cntB N.bd:=by rw [<- hLL,all_len,inn_len]
 rw [hLL]
 have kl:=hO.kl
 have bl:=hO.bl
 refine callsIn_of_wp Tryz.func90 rfl h1 ?_ hro
 simp only [Tryz.ntmps90,List.size_toArray,List.length_cons,List.length_nil,Nat.reduceAdd,Nat.reduceSub,Array.replicate_succ,Array.replicate_zero,List.push_toArray,List.append_toArray,List.nil_append,List.cons_append]
 have ck:=(hO.below hB).ck
 gi_wp2
 clear ck
 gi_loopw [11] (fun i wr=>∃ j:Nat,j<=N.ks.length/\i=.int .i64 j/\J (LL.take j) wr/\Below w0.heap.size w0 wr/\wr.cell? ⟨Bn,0,none⟩=some (.pointer (some ⟨b,off,none⟩))) (fun i _=>N.ks.length - (intOf i).toNat)
 case atStart=>exact ⟨0,Nat.zero_le _,rfl,h0,hB,hc⟩
 case round =>
  obtain ⟨j,hj,rfl,hJ,hB,hc⟩:=hrel
  have hOw:=hO.below hB
  have ck:=hOw.ck
  have cb:=hOw.cb
  by_cases hlt:j<N.ks.length
  ·have hlt':(j:Int) <(N.ks.length:Int):=by omega
   have hi:=kids_at (ic:=kc) rfl hOw.ka hlt
   obtain ⟨x,hx,ex⟩:=all_at (L:=inn kb ko bb bo N) (m:=j) (y:=((kb,ko+j*15),N.ks[j])) (by rw [inn,List.getElem?_append_left (by rw [inK_len];exact hlt)];exact inK_at kb ko N.ks j hlt)
   rw [hLL] at hx
   obtain ⟨fn,tmps,assign,body,hy,hR⟩:=hY (LL.take j) x wr hJ (by rw [List.length_take,<- all_len,hLL];omega)
   unfold inPtr at hy
   rw [ex] at hy
   dsimp only at hy
   have htk:=take_next hx
   gi_wp2
   refine hR.mono ?_
   rintro e W3 (⟨rfl,hJ3,hk3⟩ |⟨rfl,hJx3⟩)
   ·gi_wp2
    go_roundw
    case rel=>exact ⟨j+1,by omega,by go_num,by rw [htk];exact hJ3,hB.trans (hk3.below h2 hs),(hk3.cell (p:=⟨Bn,0,none⟩) hBn hBs).trans hc⟩
    case measure=>simp [intOf];omega
   ·gi_wp2
    refine bodyPost_ret (results_none rfl _ _ _) rfl ?_
    exact ⟨⟨_,rfl⟩,.inr ⟨_,by rw [<- htk];exact List.take_prefix _ _,hJx3⟩⟩
  ·obtain rfl:j=N.ks.length:=by omega
   gi_wp2
   clear ck cb
   gi_loopw [29] (fun i wr=>∃ m:Nat,m<=N.bd.length/\i=.int .i64 m/\J (LL.take (N.ks.length+cntB (N.bd.take m))) wr/\Below w0.heap.size w0 wr/\wr.cell? ⟨Bn,0,none⟩=some (.pointer (some ⟨b,off,none⟩))) (fun i _=>N.bd.length - (intOf i).toNat)
   case atStart=>exact ⟨0,Nat.zero_le _,rfl,by simpa [cntB] using hJ,hB,hc⟩
   case round =>
    clear hJ hB hc hOw
    obtain ⟨m,hm,rfl,hJ,hB,hc⟩:=hrel
    have hOw:=hO.below hB
    have cb:=hOw.cb
    by_cases hlt2:m<N.bd.length
    ·have hlt2':(m:Int) <(N.bd.length:Int):=by omega
     have hi:=stmts_at (ic:=bc) rfl hOw.ba hlt2
     have hS:=hOw.bat.at hlt2
     have x0:=hS.head.1
     have hat:=inB_at bb bo N.bd m hlt2
     have hcs:=cntB_step hlt2
     have hcl:=cntB_le N.bd (m+1)
     have hgo:∀ (i:Nat) (y:(Nat × Nat) × Nd),(inB bb bo N.bd)[i]?=some y->∃ x:InAt (inn kb ko bb bo N),LL[N.ks.length+i]?=some x/\x.1=y:=by
      intro i y h
      rw [<- hLL]
      exact all_at (by rw [inn,List.getElem?_append_right (by rw [inK_len];omega),inK_len,Nat.add_sub_cancel_left];exact h)
     cases ck3:(N.bd[m].k==3) with
     | false =>
      have hk3:¬ N.bd[m].k=3:=by simpa using ck3
      have hs1:cntS N.bd[m]=1:=by unfold cntS;rw [ck3];rfl
      obtain ⟨x,hx,ex⟩:=hgo _ _ (hat.2 ck3)
      obtain ⟨fn,tmps,assign,body,hy,hR⟩:=hY (LL.take (N.ks.length+cntB (N.bd.take m))) x wr hJ (by rw [List.length_take,<- all_len,hLL];omega)
      unfold inPtr at hy
      rw [ex] at hy
      dsimp only at hy
      have htk:=take_next hx
      gi_wp2
      refine ⟨fun _ e=>(by cases e),?_⟩
      gi_wp2
      refine hR.mono ?_
      rintro e W3 (⟨rfl,hJ3,hk3'⟩ |⟨rfl,hJx3⟩)
      ·gi_wp2
       go_roundw
       case rel=>exact ⟨m+1,by omega,by go_num,by rw [hcs,hs1,<- Nat.add_assoc,htk];exact hJ3,hB.trans (hk3'.below h2 hs),(hk3'.cell (p:=⟨Bn,0,none⟩) hBn hBs).trans hc⟩
       case measure=>simp [intOf];omega
      ·gi_wp2
       refine bodyPost_ret (results_none rfl _ _ _) rfl ?_
       exact ⟨⟨_,rfl⟩,.inr ⟨_,by rw [<- htk];exact List.take_prefix _ _,hJx3⟩⟩
     | true =>
      have hk3:N.bd[m].k=3:=by simpa using ck3
      have hs1:cntS N.bd[m]=2:=by unfold cntS;rw [ck3];rfl
      obtain ⟨x1,hx1,ex1⟩:=hgo _ _ (hat.1 ck3).1
      obtain ⟨x2,hx2,ex2⟩:=hgo _ _ (hat.1 ck3).2
      rw [<- Nat.add_assoc] at hx2
      obtain ⟨fn,tmps,assign,body,hy,hR⟩:=hY (LL.take (N.ks.length+cntB (N.bd.take m))) x1 wr hJ (by rw [List.length_take,<- all_len,hLL];omega)
      unfold inPtr at hy
      rw [ex1] at hy
      dsimp only at hy
      have htk:=take_next hx1
      gi_wp2
      refine hR.mono ?_
      rintro e W3 (⟨rfl,hJ3,hk3'⟩ |⟨rfl,hJx3⟩)
      ·have hB3:=hB.trans (hk3'.below h2 hs)
       have hc3:=(hk3'.cell (p:=⟨Bn,0,none⟩) hBn hBs).trans hc
       rw [<- htk] at hJ3
       clear hJ hB hc hy hR x0 cb hS hOw hk3' htk
       obtain ⟨fn2,tmps2,assign2,body2,hy,hR⟩:=hY (LL.take (N.ks.length+cntB (N.bd.take m)+1)) x2 W3 hJ3 (by rw [List.length_take,<- all_len,hLL];omega)
       unfold inPtr at hy
       rw [ex2] at hy
       dsimp only at hy
       have htk:=take_next hx2
       gi_wp2
       refine hR.mono ?_
       rintro e W4 (⟨rfl,hJ4,hk4⟩ |⟨rfl,hJx4⟩)
       ·gi_wp2
        go_roundw
        case rel=>exact ⟨m+1,by omega,by go_num,by rw [hcs,hs1,<- Nat.add_assoc,show N.ks.length+cntB (N.bd.take m)+2=N.ks.length+cntB (N.bd.take m)+1+1 from rfl,htk];exact hJ4,hB3.trans (hk4.below h2 hs),(hk4.cell (p:=⟨Bn,0,none⟩) hBn hBs).trans hc3⟩
        case measure=>simp [intOf];omega
       ·gi_wp2
        refine bodyPost_ret (results_none rfl _ _ _) rfl ?_
        exact ⟨⟨_,rfl⟩,.inr ⟨_,by rw [<- htk];exact List.take_prefix _ _,hJx4⟩⟩
      ·gi_wp2
       refine ⟨fun _ e=>(by cases e),?_⟩
       gi_wp2
       refine bodyPost_ret (results_none rfl _ _ _) rfl ?_
       exact ⟨⟨_,rfl⟩,.inr ⟨_,by rw [<- htk];exact List.take_prefix _ _,hJx3⟩⟩
    ·obtain rfl:m=N.bd.length:=by omega
     gi_wp2
     rw [List.take_length,List.take_of_length_le (by omega)] at hJ
     go_end0
     exact ⟨⟨_,rfl⟩,.inl ⟨_,rfl,hJ⟩⟩
theorem within_in (F:Fence) (n:Nat) (h5:F.fn 67) (hro:F.round=none) (p0:Option Addr) (w:World) :
  CallsIn F n Tryz.prog 67 #[.pointer p0] w fun e w'=>e=.returned (.func (.func 90) #[] #[.pointer (some ⟨w.heap.size,0,none⟩)])/\w'=w.alloc (.cells #[.pointer p0] 92):=by
 refine callsIn_of_wp Tryz.func67 rfl h5 ?_ hro
 simp only [Tryz.ntmps67,List.size_toArray,List.length_cons,List.length_nil,Nat.reduceAdd,Nat.reduceSub,Array.replicate_succ,Array.replicate_zero,List.push_toArray,List.append_toArray,List.nil_append,List.cons_append]
 gi_wp2
 go_ret
 exact ⟨rfl,rfl⟩
theorem within_stops (F:Fence) (n:Nat) (h1:F.fn 90) (hro:F.round=none) (hn:1<=n) (Bn n₂:Nat) (S:Nat->Prop) (w0:World) (b off:Nat) (N:Nd) (ka:Option Addr) (kc kb ko:Nat) (ba:Option Addr) (bc bb bo:Nat)
  (hO:Old w0 b off N ka kc kb ko ba bc bb bo) (hs:∀ k,S k->w0.heap.size<=k) (h2:w0.heap.size<=n₂) (hBn:Bn<n₂) (hBs:¬ S Bn)
  (w:World) (hB:Below w0.heap.size w0 w) (hBw:Bn<w.heap.size) (hc:w.cell? ⟨Bn,0,none⟩=some (.pointer (some ⟨b,off,none⟩))) :
  SeqStopsK F n Tryz.prog 90 #[.pointer (some ⟨Bn,0,none⟩)] (inPtr (L:=inn kb ko bb bo N)) (But n₂ S) (fun ys=>ys=all (inn kb ko bb bo N)) (fun pre=>pre <+: all (inn kb ko bb bo N)) (inn kb ko bb bo N).length w:=fun l J Jx W hW _ _ hY h0 =>
 within1_in F n h1 hro hn l Bn n₂ S w0 b off N ka kc kb ko ba bc bb bo hO hs h2 hBn hBs J Jx hY W (hB.trans (hW.mono hB.size)) ((hW.cell (p:=⟨Bn,0,none⟩) hBw).trans hc) h0
end Go.Proofs.YtalkinnbfglkdaaGreatDoor.Syn
namespace Go.Proofs.YtalkinnbfglkdaaGreatDoor.Syn
open Go.RowKit Go.Proofs.YtalkinnbfglkdaaGreatDoor.Shape
set_option linter.unusedVariables false
set_option maxRecDepth 100000
def sumI (f:Nd->Nat) (L:List ((Nat × Nat) × Nd)):Nat:=(L.map fun y=>f y.2).sum
def sumX (f:Nd->Nat) {L:List ((Nat × Nat) × Nd)}(xs:List (InAt L)):Nat:=(xs.map fun x=>f x.1.2).sum
theorem sumX_nil (f:Nd->Nat) {L:List ((Nat × Nat) × Nd)}:sumX f (L:=L) []=0:=rfl
theorem sumX_snoc (f:Nd->Nat) {L:List ((Nat × Nat) × Nd)}(pre:List (InAt L)) (x:InAt L):sumX f (pre++[x])=sumX f pre+f x.1.2:=by
 unfold sumX;simp
theorem sumX_all (f:Nd->Nat) (L:List ((Nat × Nat) × Nd)):sumX f (all L)=sumI f L:=by
 unfold sumX all sumI
 have:(L.attach.map fun x=>f x.1.2)=L.map fun y=>f y.2:=by
  have h:=List.attach_map_subtype_val L
  have h2:(L.attach.map Subtype.val).map (fun y=>f y.2)=L.map fun y=>f y.2:=by rw [h]
  rw [List.map_map] at h2
  exact h2
 rw [this]
theorem sumX_pre (f:Nd->Nat) {L:List ((Nat × Nat) × Nd)}{pre xs:List (InAt L)}(h:pre <+: xs):sumX f pre<=sumX f xs:=by
 obtain ⟨r,rfl⟩:=h
 unfold sumX;simp
theorem sumI_app (f:Nd->Nat) (a b:List ((Nat × Nat) × Nd)):sumI f (a++b)=sumI f a+sumI f b:=by unfold sumI;simp
theorem sumI_cons (f:Nd->Nat) (y:(Nat × Nat) × Nd) (b:List ((Nat × Nat) × Nd)):sumI f (y::b)=f y.2+sumI f b:=by unfold sumI;simp
def fS (f:Nd->Nat) (S:St):Nat:=(if (S.k==3)=true then f S.te else 0)+f S.nd
theorem sumI_inS (f:Nd->Nat) (b off:Nat) (S:St):sumI f (inS b off S)=fS f S:=by
 unfold inS fS
 split <;> simp [sumI]
theorem siz_inK (b:Nat):∀ (off:Nat) (l:List Nd),sumI siz (inK b off l)=sizK l
 | _,[]=>by rw [inK,sizK];rfl
 | off,N::r=>by rw [inK,sumI_cons,sizK,siz_inK b (off+15) r]
theorem siz_inB (b:Nat):∀ (off:Nat) (l:List St),sumI siz (inB b off l)=sizB l
 | _,[]=>by rw [inB,sizB];rfl
 | off,S::r=>by rw [inB,sumI_app,sizB,siz_inB b (off+34) r,sumI_inS,fS,sizS_eq]
theorem siz_inn (kb ko bb bo:Nat) (N:Nd):siz N=sumI siz (inn kb ko bb bo N)+1:=by
 rw [inn,sumI_app,siz_inK,siz_inB,siz_eq]
mutual
def occ (x:Int):Nd->Nat
 | .mk _ _ _ _ _ _ _ ks bd _ _ _=>occK x ks+occB x bd
def occK (x:Int):List Nd->Nat
 | []=>0
 | N::r=>((if (N.k==x)=true then 1 else 0)+(if (N.k==10)=true then 0 else occ x N))+occK x r
def occS (x:Int):St->Nat
 | .mk k _ _ _ te nd=>(if (k==3)=true then ((if (te.k==x)=true then 1 else 0)+(if (te.k==10)=true then 0 else occ x te)) else 0)+((if (nd.k==x)=true then 1 else 0)+(if (nd.k==10)=true then 0 else occ x nd))
def occB (x:Int):List St->Nat
 | []=>0
 | S::r=>occS x S+occB x r
end
def occ1 (x:Int) (N:Nd):Nat:=(if (N.k==x)=true then 1 else 0)+(if (N.k==10)=true then 0 else occ x N)
theorem occ_eq (x:Int) (N:Nd):occ x N=occK x N.ks+occB x N.bd:=by cases N;rw [occ];rfl
theorem occS_eq (x:Int) (S:St):occS x S=fS (occ1 x) S:=by cases S;rw [occS];rfl
theorem occ_inK (x:Int) (b:Nat):∀ (off:Nat) (l:List Nd),sumI (occ1 x) (inK b off l)=occK x l
 | _,[]=>by rw [inK,occK];rfl
 | off,N::r=>by rw [inK,sumI_cons,occK,occ_inK x b (off+15) r];rfl
theorem occ_inB (x:Int) (b:Nat):∀ (off:Nat) (l:List St),sumI (occ1 x) (inB b off l)=occB x l
 | _,[]=>by rw [inB,occB];rfl
 | off,S::r=>by rw [inB,sumI_app,occB,occ_inB x b (off+34) r,sumI_inS,occS_eq]
theorem occ_inn (x:Int) (kb ko bb bo:Nat) (N:Nd):occ x N=sumI (occ1 x) (inn kb ko bb bo N):=by
 rw [inn,sumI_app,occ_inK,occ_inB,occ_eq]
theorem sumI_le (f g:Nd->Nat) (L:List ((Nat × Nat) × Nd)) (h:∀ y∈L,f y.2<=g y.2):sumI f L<=sumI g L:=by
 induction L with
 | nil=>exact Nat.le_refl _
 | cons y r ih =>
  rw [sumI_cons,sumI_cons]
  have h1:=h y (by simp)
  have h2:=ih (fun z hz=>h z (by simp [hz]))
  omega
theorem inK_mem {b:Nat}:∀ {off:Nat}{l:List Nd}{y:(Nat × Nat) × Nd},y∈inK b off l->∃ j,∃ h:j<l.length,y =((b,off+j*15),l[j])
 | _,[],_,h=>by rw [inK] at h;cases h
 | off,N::r,y,h=>by
  rw [inK,List.mem_cons] at h
  rcases h with rfl | h
  ·exact ⟨0,by simp,by simp⟩
  ·obtain ⟨j,hj,rfl⟩:=inK_mem h
   refine ⟨j+1,by simpa using hj,?_⟩
   simp only [List.getElem_cons_succ,Prod.mk.injEq,true_and,and_true];omega
theorem inB_mem {b:Nat}:∀ {off:Nat}{l:List St}{y:(Nat × Nat) × Nd},y∈inB b off l->∃ j,∃ h:j<l.length,((l[j].k==3)=true/\y =((b,off+j*34+4),l[j].te))∨y =((b,off+j*34+19),l[j].nd)
 | _,[],_,h=>by rw [inB] at h;cases h
 | off,S::r,y,h=>by
  rw [inB,List.mem_append] at h
  rcases h with h | h
  ·refine ⟨0,by simp,?_⟩
   unfold inS at h
   rw [List.mem_append] at h
   rcases h with h | h
   ·split at h
    ·rename_i hk
     rw [List.mem_singleton] at h
     exact .inl ⟨by simpa using hk,by simpa using h⟩
    ·cases h
   ·rw [List.mem_singleton] at h
    exact .inr (by simpa using h)
  ·obtain ⟨j,hj,g⟩:=inB_mem h
   refine ⟨j+1,by simpa using hj,?_⟩
   simp only [List.getElem_cons_succ]
   rcases g with ⟨g1,g2⟩ | g
   ·exact .inl ⟨g1,by rw [g2];simp only [Prod.mk.injEq,true_and,and_true];omega⟩
   ·exact .inr (by rw [g];simp only [Prod.mk.injEq,true_and,and_true];omega)
structure Inner (w:World) (N:Nd) (y:(Nat × Nat) × Nd):Prop where
 at_:NdM w y.1.1 y.1.2 y.2
 rk:rkN y.2<rkN N
 dp:dep y.2<dep N
 soft:w.frozen? ⟨y.1.1,y.1.2,none⟩=false
theorem depK_at:∀ {l:List Nd}{j:Nat}(h:j<l.length),dep l[j]<=depK l
 | [],_,h=>absurd h (by simp)
 | N::r,0,_=>by simp only [List.getElem_cons_zero,depK];omega
 | N::r,j+1,h=>by
  have:=depK_at (l:=r) (j:=j) (by simpa using h)
  simp only [List.getElem_cons_succ,depK];omega
theorem depB_at':∀ {l:List St}{j:Nat}(h:j<l.length),depS l[j]<=depB l
 | [],_,h=>absurd h (by simp)
 | N::r,0,_=>by simp only [List.getElem_cons_zero,depB];omega
 | N::r,j+1,h=>by
  have:=depB_at' (l:=r) (j:=j) (by simpa using h)
  simp only [List.getElem_cons_succ,depB];omega
theorem inn_mem {w0:World}{b off:Nat}{N:Nd}{ka:Option Addr}{kc kb ko:Nat}{ba:Option Addr}{bc bb bo:Nat}(hO:Old w0 b off N ka kc kb ko ba bc bb bo) {y:(Nat × Nat) × Nd}(h:y∈inn kb ko bb bo N):Inner w0 N y:=by
 rw [inn,List.mem_append] at h
 have e:=dep_eq N
 rcases h with h | h
 ·obtain ⟨j,hj,rfl⟩:=inK_mem h
  exact ⟨hO.kat.at hj,rk_kid N hj,by have:=depK_at hj;simp only;omega,hO.kat.soft hj⟩
 ·obtain ⟨j,hj,⟨hk,rfl⟩ | rfl⟩:=inB_mem h
  ·have h1:=depB_at' hj
   rw [depS_eq,if_pos hk] at h1
   exact ⟨(hO.bat.at hj).test,(rk_body N hj).1,by simp only;omega,(hO.bat.soft hj).1⟩
  ·have h1:=depB_at' hj
   rw [depS_eq] at h1
   exact ⟨(hO.bat.at hj).node,(rk_body N hj).2,by simp only;omega,(hO.bat.soft hj).2⟩
theorem NdM.old {w:World}{b off:Nat}{N:Nd}(h:NdM w b off N):∃ ka kc kb ko ba bc bb bo,Old w b off N ka kc kb ko ba bc bb bo:=by
 obtain ⟨cs,h1,h2⟩:=h
 obtain ⟨v0,v1,v2,v3,ka,kc,ba,bc,kb,ko,bb,bo,O⟩:=h2.open
 exact ⟨ka,kc,kb,ko,ba,bc,bb,bo,O.old h1⟩
theorem occ_le (x:Int):∀ (r:Nat) (N:Nd),rkN N<r->occ x N+1<=siz N/\occ1 x N<=siz N
 | 0,_,h=>absurd h (Nat.not_lt_zero _)
 | r+1,N,h=>by
  have h1:sumI (occ1 x) (inn 0 0 0 0 N)<=sumI siz (inn 0 0 0 0 N):=sumI_le _ _ _ (fun y hy=>by
   rw [inn,List.mem_append] at hy
   rcases hy with hy | hy
   ·obtain ⟨j,hj,rfl⟩:=inK_mem hy
    exact (occ_le x r N.ks[j] (by have:=rk_kid N hj;omega)).2
   ·obtain ⟨j,hj,⟨hk,rfl⟩ | rfl⟩:=inB_mem hy
    ·exact (occ_le x r N.bd[j].te (by have:=(rk_body N hj).1;omega)).2
    ·exact (occ_le x r N.bd[j].nd (by have:=(rk_body N hj).2;omega)).2)
  have h2:=siz_inn 0 0 0 0 N
  have h3:=occ_inn x 0 0 0 0 N
  have h4:occ x N+1<=siz N:=by omega
  refine ⟨h4,?_⟩
  unfold occ1
  split <;> split <;> omega
theorem ownFrom_but {β:Type}{n B:Nat}{S:Nat->Prop}{w₀:World}(hn:n<=w₀.heap.size) (hB:n<=B):OwnFrom B (fun (_:β) W=>But n S w₀ W) :=
 fun _ X Y row hs hg hr=>hs.trans ⟨hg.os,hg.tape,hg.output,hg.size,fun k hk _=>hg.block k (by have:=hs.size;omega) (fun e=>by have:=(hr k e.symm).1;omega)⟩
theorem But.keeps {n B:Nat}{S:Nat->Prop}{w w':World}(h:But n S w w') (hS:∀ k,S k->k<B) (hn:w.heap.size<=n):KeepsFrom B w w' :=
 ⟨h.size,fun k o hB hk _=>(h.block k (by have:=(Array.getElem?_eq_some_iff.1 hk).1;omega) (fun q=>by have:=hS k q;omega)).trans hk⟩
theorem But.boxed {n:Nat}{S:Nat->Prop}{w w':World}(h:But n S w w') {B:Nat}{t:TypeId}{v:Value}(hB:Boxed w B t v) (hs:¬ S B) (hn:B<n):Boxed w' B t v:=(h.block B hn hs).trans hB
theorem But.alloc {n:Nat}{S:Nat->Prop}{a w:World}(h:But n S a w) (hn:n<=w.heap.size) (o:Obj):But n S a (w.alloc o) :=
 h.trans (But.of_below ((Below.refl n w).alloc hn o))
theorem NdM.kcI {w:World}{b off:Nat}{N:Nd}(h:NdM w b off N):w.cell? ⟨b,off,none⟩=some (.int .i64 N.k)/\w.cell? ⟨b,off+2,none⟩=some (.int .i64 N.c)/\I64 N.k/\I64 N.c:=by
 obtain ⟨cs,h1,h2⟩:=h
 obtain ⟨v0,v1,v2,v3,ka,kc,ba,bc,kb,ko,bb,bo,O⟩:=h2.open
 have e:=O.eq
 subst e
 exact ⟨h1.cell 0 rfl,h1.cell 2 rfl,O.bd.1,O.bd.2.2.1⟩
set_option linter.unusedSimpArgs false
def opP (o:Int):Int:=if o=1∨o=2∨o=3∨o=4∨o=5 then 3 else 4
theorem operatorClassP (o:Int) (w:World):Calls Tryz.prog 104 #[.int .i64 o] w fun e w'=>e=.returned (.int .i64 (opP o))/\w=w':=by
 by_cases h1:o=1
 ·subst h1
  go_enter Tryz.func104,Tryz.ntmps104
  go_wp2
  go_ret
  exact ⟨rfl,rfl⟩
 by_cases h2:o=2
 ·subst h2
  go_enter Tryz.func104,Tryz.ntmps104
  go_wp2
  go_ret
  exact ⟨rfl,rfl⟩
 by_cases h3:o=3
 ·subst h3
  go_enter Tryz.func104,Tryz.ntmps104
  go_wp2
  go_ret
  exact ⟨rfl,rfl⟩
 by_cases h4:o=4
 ·subst h4
  go_enter Tryz.func104,Tryz.ntmps104
  go_wp2
  go_ret
  exact ⟨rfl,rfl⟩
 by_cases h5:o=5
 ·subst h5
  go_enter Tryz.func104,Tryz.ntmps104
  go_wp2
  go_ret
  exact ⟨rfl,rfl⟩
 have e1:(o==1)=false:=by simpa using h1
 have e2:(o==2)=false:=by simpa using h2
 have e3:(o==3)=false:=by simpa using h3
 have e4:(o==4)=false:=by simpa using h4
 have e5:(o==5)=false:=by simpa using h5
 have HG:Hid (opP o=4):=by unfold Hid opP;rw [if_neg (by omega)]
 clear h1 h2 h3 h4 h5
 go_enter Tryz.func104,Tryz.ntmps104
 go_wp2
 go_ret
 exact ⟨ret_int HG.out.symm,rfl⟩
theorem NdM.opn {w:World}{b off:Nat}{N:Nd}(h:NdM w b off N):∃ cs v0 v1 v2 v3 ka kc ba bc kb ko bb bo,Open w cs N v0 v1 v2 v3 ka kc ba bc kb ko bb bo/\Cells w b off cs/\cs.length=15/\NG w b off N v0 v1 v2 v3 ka kc ba bc:=by
 obtain ⟨cs,h1,h2⟩:=h
 obtain ⟨v0,v1,v2,v3,ka,kc,ba,bc,kb,ko,bb,bo,O⟩:=h2.open
 exact ⟨cs,v0,v1,v2,v3,ka,kc,ba,bc,kb,ko,bb,bo,O,h1,h2.len,O.ng h1⟩
def ropC (r:Bool):Int:=if r=true then 1 else 2
theorem rightOpP (N:Nd) (b off:Nat) (w:World) (h:NdM w b off N):Calls Tryz.prog 102 #[.pointer (some ⟨b,off,none⟩)] w fun e w'=>e=.returned (.int .i64 (ropC (headTakes N.ks)))/\w=w':=by
 obtain ⟨cs,v0,v1,v2,v3,ka,kc,ba,bc,kb,ko,bb,bo,O,hC,lC,G⟩:=h.opn
 obtain ⟨-,-,-,-,-,-,-,-,-,-,g10,-,-,-,-⟩:=id G
 by_cases h0:0<N.ks.length
 ·have h0':(0:Int) <(N.ks.length:Int):=by omega
  have hi:=kids_at (ic:=kc) (k:=0) rfl O.ka h0
  have hK:=O.kat.at h0
  obtain ⟨cs2,u0,u1,u2,u3,ka2,kc2,ba2,bc2,kb2,ko2,bb2,bo2,O2,hC2,lC2,G2⟩:=hK.opn
  obtain ⟨x0,-,-,-,-,x5,-,-,-,-,-,-,-,-,-⟩:=id G2
  simp only [Nat.zero_mul,Nat.add_zero] at hi x0 x5
  rw [show ((0:Nat):Int)=0 from rfl] at hi
  obtain ⟨r,hr⟩:∃ r,headTakes N.ks=r:=⟨_,rfl⟩
  have HQ:Hid (takesB N.ks[0]=r):=by unfold Hid;rw [<- hr,headTakes_cons h0]
  rw [hr]
  clear hr h O2 O hC G G2 hC2
  unfold takesB at HQ
  by_cases k17:N.ks[0].k=17
  ·have k17':(N.ks[0].k==17)=true:=by rw [k17];rfl
   rw [k17'] at HQ
   clear k17
   have key:∀ o:Int,N.ks[0].o=o->Hid ((o==7 || o==8 || o==9)=r):=fun o e=>by unfold Hid;rw [<- HQ.out,e];rfl
   clear HQ
   by_cases o7:N.ks[0].o=7
   ·have HG:Hid (r=true):=by unfold Hid;rw [<- (key 7 o7).out];rfl
    have o7':(N.ks[0].o==7)=true:=by rw [o7];rfl
    clear o7 key
    go_enter Tryz.func102,Tryz.ntmps102
    go_wp2
    go_ret
    exact ⟨ret_int (by rw [HG.out];rfl),rfl⟩
   by_cases o8:N.ks[0].o=8
   ·have HG:Hid (r=true):=by unfold Hid;rw [<- (key 8 o8).out];rfl
    have o7':(N.ks[0].o==7)=false:=by rw [o8];rfl
    have o8':(N.ks[0].o==8)=true:=by rw [o8];rfl
    clear o7 o8 key
    go_enter Tryz.func102,Tryz.ntmps102
    go_wp2
    go_ret
    exact ⟨ret_int (by rw [HG.out];rfl),rfl⟩
   by_cases o9:N.ks[0].o=9
   ·have HG:Hid (r=true):=by unfold Hid;rw [<- (key 9 o9).out];rfl
    have o7':(N.ks[0].o==7)=false:=by rw [o9];rfl
    have o8':(N.ks[0].o==8)=false:=by rw [o9];rfl
    have o9':(N.ks[0].o==9)=true:=by rw [o9];rfl
    clear o7 o8 o9 key
    go_enter Tryz.func102,Tryz.ntmps102
    go_wp2
    go_ret
    exact ⟨ret_int (by rw [HG.out];rfl),rfl⟩
   have o7':(N.ks[0].o==7)=false:=by simpa using o7
   have o8':(N.ks[0].o==8)=false:=by simpa using o8
   have o9':(N.ks[0].o==9)=false:=by simpa using o9
   have HG:Hid (r=false):=by unfold Hid;rw [<- (key _ rfl).out,o7',o8',o9'];rfl
   clear o7 o8 o9 key
   go_enter Tryz.func102,Tryz.ntmps102
   go_wp2
   go_ret
   exact ⟨ret_int (by rw [HG.out];rfl),rfl⟩
  ·have k17':(N.ks[0].k==17)=false:=by simpa using k17
   have HG:Hid (r=false):=by unfold Hid;rw [<- HQ.out,k17'];rfl
   clear k17 HQ
   go_enter Tryz.func102,Tryz.ntmps102
   go_wp2
   go_ret
   exact ⟨ret_int (by rw [HG.out];rfl),rfl⟩
 ·have h0':¬ (0:Int) <(N.ks.length:Int):=by omega
  have HG:Hid (headTakes N.ks=false):=headTakes_nil (by omega)
  clear h h0
  go_enter Tryz.func102,Tryz.ntmps102
  go_wp2
  go_ret
  exact ⟨ret_int (by rw [HG.out];rfl),rfl⟩
theorem isUnnamedP (S:St) (b off:Nat) (w:World) (h:StM w b off S):Calls Tryz.prog 69 #[.pointer (some ⟨b,off,none⟩)] w fun e w'=>e=.returned (.bool (noText S.n&&S.s==0))/\w=w':=by
 obtain ⟨-,-,x2,x3⟩:=h.head
 cases c1:noText S.n with
 | true =>
  have c1':(S.n.toList==[])=true:=c1
  cases c2:(S.s==0) <;>
  ·go_enter Tryz.func69,Tryz.ntmps69
   go_wp2
   go_ret
   exact ⟨rfl,rfl⟩
 | false =>
  have c1':(S.n.toList==[])=false:=c1
  go_enter Tryz.func69,Tryz.ntmps69
  go_wp2
  go_ret
  exact ⟨rfl,rfl⟩
theorem hasKid1P (cs:List Value) (N:Nd) (c:Int) (w:World) (h:NdV w cs N):Calls Tryz.prog 120 #[.agg cs.toArray,.int .i64 c] w fun e w'=>e=.returned (.bool (N.c==c))/\Below w.heap.size w w':=by
 have hC0:=cells_new w cs 49
 have BN:=below_new w (.cells cs.toArray 49)
 obtain ⟨v0,v1,v2,v3,ka,kc,ba,bc,kb,ko,bb,bo,O⟩:=h.open
 have hF0:=O.nf hC0
 obtain ⟨-,-,p2,-⟩:=id hF0
 clear O h hC0
 go_enter Tryz.func120,Tryz.ntmps120
 go_wp2_with fail
 go_ret
 exact ⟨rfl,BN⟩
theorem equalFuncP (l:List Nd) (ka:Option Addr) (kc kb ko:Nat) (a:Option Addr) (cap:Nat) (cl:List Int) (w:World) (hka:l≠[]->ka=some ⟨kb,ko,none⟩) (hat:NdsAt w kb ko l) (hk1:l.length<=9223372036854775807) (hl:IntsAt w a cap cl) :
  Calls Tryz.prog 119 #[.slice ka l.length kc,.slice a cl.length cap,.func (.func 120) #[] #[]] w fun e w'=>e=.returned (.bool (sameB (l.map Nd.c) cl))/\Below w.heap.size w w':=by
 have hk2:=hl.len
 by_cases hn:l.length=cl.length
 ·have hn':((l.length:Int) !=(cl.length:Int))=false:=by rw [hn];simp
  have HL:Hid (l.length=cl.length):=hn
  clear hn
  go_enter Tryz.func119,Tryz.ntmps119
  go_wp2
  clear hn'
  go_loopw [17] (fun i wr=>∃ j:Nat,j<=l.length/\i=.int .i64 j/\Below w.heap.size w wr/\∀ i (h1:i<l.length) (h2:i<cl.length),i<j->l[i].c=cl[i]) (fun i _=>l.length - (intOf i).toNat)
  case atStart=>exact ⟨0,Nat.zero_le _,rfl,Below.refl _ _,fun j _ _ hj=>absurd hj (Nat.not_lt_zero _)⟩
  case round =>
   obtain ⟨j,hj,rfl,hb,he⟩:=hrel
   have HE:Hid (∀ i (h1:i<l.length) (h2:i<cl.length),i<j->l[i].c=cl[i]):=he
   clear he
   by_cases hlt:j<l.length
   ·have hlt2:j<cl.length:=by have:=HL.out;omega
    have hi:=kids_at (ic:=kc) rfl hka hlt
    obtain ⟨cs,hc,hN⟩:=(NdsAt.below hb hat).at hlt
    have lC:=hN.len
    have oC:=hN.one
    obtain ⟨b2,off2,hi2,hc2⟩:=cls_at (hl:IntsAt w a cap cl) hlt2
    have hc3:=(hb.cell (cell_lt hc2)).trans hc2
    have BN:=below_new wr (.cells cs.toArray 49)
    have hc4:=(BN.cell (cell_lt hc3)).trans hc3
    have hC0:=cells_new wr cs 49
    have K:=hasKid1P cs l[j] cl[j] _ (hN.below BN)
    have hb2:=Below.then hb BN
    by_cases c1:l[j].c=cl[j]
    ·have c1':(l[j].c==cl[j])=true:=by simpa using c1
     have HC:Hid (l[j].c=cl[j]):=c1
     rw [c1'] at K
     clear c1 hc2 c1'
     go_wp2_with (first |((with_reducible show wpList _ _ _ ({ dst:=_,op:=Op.load 49 _,type:=_,pos:=_,after:=_,guard:=none }::_) _ _);first | refine wpList_load_node rfl rfl rfl hC0 lC ?_ | refine wpList_load_node rfl rfl rfl hc lC ?_) |((with_reducible show wpList _ _ _ ({ dst:=_,op:=Op.store 49 _ _,type:=_,pos:=_,after:=_,guard:=none }::_) _ _);refine wpList_store_whole rfl rfl rfl rfl infoNode lC rfl oC ?_) |(go_at_call 120;((with_reducible refine K.mono ?_);rintro e w3 ⟨rfl,b3⟩)))
     go_roundw
     case rel=>exact ⟨j+1,by omega,by go_num,Below.then hb2 b3,fun i h1 h2 hi=>by
      by_cases e:i=j
      ·subst e;exact HC.out
      ·exact HE.out i h1 h2 (by omega)⟩
     case measure=>simp [intOf];omega
    ·have em:Hid (sameB (l.map Nd.c) cl=false):=by
      unfold Hid
      exact same_at (by simpa using hlt) hlt2 (by simpa using c1)
     have c1':(l[j].c==cl[j])=false:=by simpa using c1
     rw [c1'] at K
     clear c1 hc2 c1'
     go_wp2_with (first |((with_reducible show wpList _ _ _ ({ dst:=_,op:=Op.load 49 _,type:=_,pos:=_,after:=_,guard:=none }::_) _ _);first | refine wpList_load_node rfl rfl rfl hC0 lC ?_ | refine wpList_load_node rfl rfl rfl hc lC ?_) |((with_reducible show wpList _ _ _ ({ dst:=_,op:=Op.store 49 _ _,type:=_,pos:=_,after:=_,guard:=none }::_) _ _);refine wpList_store_whole rfl rfl rfl rfl infoNode lC rfl oC ?_) |(go_at_call 120;((with_reducible refine K.mono ?_);rintro e w3 ⟨rfl,b3⟩)))
     go_ret
     exact ⟨ret_bool em.out.symm,Below.then hb2 b3⟩
   ·obtain rfl:j=l.length:=by omega
    have em:Hid (sameB (l.map Nd.c) cl=true):=by
     unfold Hid
     exact same_all (by simpa using HL.out) (fun i h1 h2=>by simpa using HE.out i (by simpa using h1) h2 (by simpa using h1))
    go_wp2_with fail
    go_ret
    exact ⟨ret_bool em.out.symm,hb⟩
 ·have em:Hid (sameB (l.map Nd.c) cl=false):=by unfold Hid;exact same_len (by simpa using hn)
  have hn':((l.length:Int) !=(cl.length:Int))=true:=by simp;omega
  clear hn
  go_enter Tryz.func119,Tryz.ntmps119
  go_wp2
  go_ret
  exact ⟨ret_bool em.out.symm,Below.refl _ _⟩
theorem hasKidsP (N:Nd) (b off:Nat) (a:Option Addr) (cap:Nat) (cl:List Int) (w:World) (h:NdM w b off N) (hl:IntsAt w a cap cl) :
  Calls Tryz.prog 100 #[.pointer (some ⟨b,off,none⟩),.slice a cl.length cap] w fun e w'=>e=.returned (.bool (clsB cl N))/\Below w.heap.size w w':=by
 obtain ⟨cs,v0,v1,v2,v3,ka,kc,ba,bc,kb,ko,bb,bo,O,hC,lC,G⟩:=h.opn
 obtain ⟨-,-,-,-,-,-,-,-,-,-,g10,-,-,-,-⟩:=id G
 have K:=equalFuncP N.ks ka kc kb ko a cap cl w O.ka O.kat (by have:=O.kl;omega) hl
 clear O hC G h
 go_enter Tryz.func100,Tryz.ntmps100
 go_wp2_with (go_at_call 119;((with_reducible refine K.mono ?_);rintro e w3 ⟨rfl,b3⟩))
 go_ret
 exact ⟨rfl,b3⟩
theorem cls_new (w:World) (T:TypeId) (l:List Int) (h:∀ x∈l,I64 x) (h2:l.length<=1000):IntsAt (w.alloc (.cells (l.map (Value.int .i64)).toArray T)) (some ⟨w.heap.size,0,none⟩) l.length l:=by
 refine ⟨Nat.le_refl _,by omega,fun x hx=>h x hx,w.heap.size,0,fun _=>rfl,fun i hi=>?_⟩
 rw [Nat.zero_add,World.cell?_alloc_new]
 simp [hi]
theorem i64_small {l:List Int}(h:∀ x∈l,0<=x/\x<=4):∀ x∈l,I64 x:=fun x hx=>by have:=h x hx;exact ⟨by omega,by omega⟩
theorem kids2 (N:Nd) (b off:Nat) (x y:Int) (hx:0<=x/\x<=4) (hy:0<=y/\y<=4) (w:World) (h:NdM w b off N) :
  Calls Tryz.prog 100 #[.pointer (some ⟨b,off,none⟩),.slice (some ⟨w.heap.size,0,none⟩) 2 2] (w.alloc (.cells #[.int .i64 x,.int .i64 y] 40)) fun e w'=>e=.returned (.bool (clsB [x,y] N))/\Below w.heap.size w w' :=
 (hasKidsP N b off _ 2 [x,y] _ (h.below (below_new w _)) (cls_new w _ [x,y] (i64_small (by intro z hz;simp at hz;rcases hz with rfl | rfl <;> assumption)) (by simp))).mono fun e w' ⟨he,hb⟩=>⟨he,Below.then (below_new w _) hb⟩
theorem kids3 (N:Nd) (b off:Nat) (x y z:Int) (hx:0<=x/\x<=4) (hy:0<=y/\y<=4) (hz:0<=z/\z<=4) (w:World) (h:NdM w b off N) :
  Calls Tryz.prog 100 #[.pointer (some ⟨b,off,none⟩),.slice (some ⟨w.heap.size,0,none⟩) 3 3] (w.alloc (.cells #[.int .i64 x,.int .i64 y,.int .i64 z] 40)) fun e w'=>e=.returned (.bool (clsB [x,y,z] N))/\Below w.heap.size w w' :=
 (hasKidsP N b off _ 3 [x,y,z] _ (h.below (below_new w _)) (cls_new w _ [x,y,z] (i64_small (by intro q hq;simp at hq;rcases hq with rfl | rfl | rfl <;> assumption)) (by simp))).mono fun e w' ⟨he,hb⟩=>⟨he,Below.then (below_new w _) hb⟩
theorem isTrainP (N:Nd) (b off:Nat) (w:World) (h:NdM w b off N):Calls Tryz.prog 103 #[.pointer (some ⟨b,off,none⟩)] w fun e w'=>e=.returned (.bool (clsB [2,2] N || clsB [2,2,2] N || clsB [1,2,2] N))/\Below w.heap.size w w':=by
 have K1:=kids2 N b off 2 2 (by decide) (by decide) w h
 have K2:=fun w' (g:Below w.heap.size w w')=>kids3 N b off 2 2 2 (by decide) (by decide) (by decide) w' (h.below g)
 have K3:=fun w' (g:Below w.heap.size w w')=>kids3 N b off 1 2 2 (by decide) (by decide) (by decide) w' (h.below g)
 obtain ⟨A,hA⟩:∃ A,clsB [2,2] N=A:=⟨_,rfl⟩
 obtain ⟨B,hB⟩:∃ B,clsB [2,2,2] N=B:=⟨_,rfl⟩
 obtain ⟨C,hC⟩:∃ C,clsB [1,2,2] N=C:=⟨_,rfl⟩
 rw [hA] at K1
 simp only [hB] at K2
 simp only [hC] at K3
 rw [hA,hB,hC]
 clear hA hB hC h
 cases A with
 | true =>
  go_enter Tryz.func103,Tryz.ntmps103
  go_wp2_with (go_at_call 100;((with_reducible refine K1.mono ?_);rintro e w3 ⟨rfl,b3⟩))
  go_ret
  exact ⟨rfl,b3⟩
 | false =>
  cases B with
  | true =>
   go_enter Tryz.func103,Tryz.ntmps103
   go_wp2_with (go_at_call 100;first |((with_reducible refine K1.mono ?_);rintro e w3 ⟨rfl,b3⟩) |((with_reducible refine (K2 _ b3).mono ?_);rintro e w4 ⟨rfl,b4⟩))
   go_ret
   exact ⟨rfl,Below.then b3 b4⟩
  | false =>
   go_enter Tryz.func103,Tryz.ntmps103
   go_wp2_with (go_at_call 100;first |((with_reducible refine K1.mono ?_);rintro e w3 ⟨rfl,b3⟩) |((with_reducible refine (K2 _ b3).mono ?_);rintro e w4 ⟨rfl,b4⟩) |((with_reducible refine (K3 _ (Below.then b3 b4)).mono ?_);rintro e w5 ⟨rfl,b5⟩))
   go_ret
   exact ⟨by simp,Below.then (Below.then b3 b4) b5⟩
end Go.Proofs.YtalkinnbfglkdaaGreatDoor.Syn
