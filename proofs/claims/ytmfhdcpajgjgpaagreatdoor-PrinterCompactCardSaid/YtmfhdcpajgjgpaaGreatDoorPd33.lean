/-
  Layer 13: the reference's add: a node's parts put behind a list of one's own.
  Layer 13: the reference's parts, of the nodes that have two or three kids. (Written by wip/gen/printer-r2.py.)
-/
import Derived.Test.YtmfhdcpajgjgpaaGreatDoorPd31
import Derived.Test.YtmfhdcpajgjgpaaGreatDoorPd17
import Derived.Test.YtmfhdcpajgjgpaaGreatDoorPd12
import Derived.Test.YtmfhdcpajgjgpaaGreatDoorPd2
set_option maxHeartbeats 16000000
namespace Go.Proofs.YtmfhdcpajgjgpaaGreatDoor.Syn
open Go.RowKit Go.Shelf Go.Maps Go.Proofs.YtmfhdcpajgjgpaaGreatDoor.Shape
set_option linter.unusedVariables false
set_option linter.unusedSimpArgs false
set_option maxRecDepth 100000
theorem OwnS.base {B B':Nat}{w:World}{v:Value}{l:List ByteArray}(h:OwnS B w v l) (hB:B'<=B):OwnS B' w v l :=
 ⟨h.1,h.2.imp id (fun ⟨g,cap,cur,hv,hb,r⟩=>⟨g,cap,cur,hv,Nat.le_trans hB hb,r⟩)⟩
theorem OwnS.none (B:Nat) (w:World):OwnS B w (.slice none 0 0) []:=World.ownsRow_nil _ _ _ _
theorem OwnS.words {B:Nat}{w:World}{v:Value}{m:List ByteArray}(h:OwnS B w v m) (hm:m≠[]):∃ g cap,v=.slice (some ⟨g,0,Option.none⟩) m.length cap/\Words w g m:=by
 have hc:=fun g (hg:v.ownBlock=some g)=>World.ownsRow.cells h hg
 rcases h.2 with ⟨rfl,h0⟩ |⟨g,cap,cur,rfl,-⟩
 ·exact absurd (List.eq_nil_of_length_eq_zero h0) hm
 ·exact ⟨g,cap,rfl,fun j u hj=>hc g rfl j u hj⟩
theorem zW {ops:Array Oper}{rest:List Oper}{o:Oper}{a:Act}{w:World}{Q:Exit->Act->World->Prop}(hgd:o.guard=none) (s x:Operand)
  (ho:o.op=.call { callee:=.builtin .append,args:=#[s,x],argTypes:=#[61,61] }) (B:Nat)
  (v:Value) (hs:a.eval s=v) (l:List ByteArray) (hown:OwnS B w v l) (hB:B<=w.heap.size) (b c:Nat) (m:List ByteArray) (n:Nat) (hn:n=m.length) (hx:a.eval x=.slice (some ⟨b,0,none⟩) n c) (hm:Words w b m)
  (hl:l.length+m.length<=4000000)
  (h:∀ v' w',OwnS B w' v' (l++m)->w.grownBy w' v.ownBlock->Below B w w'->wpList Tryz.prog ops Q rest (a.put o.dst v') w') :
  wpList Tryz.prog ops Q (o::rest) a w:=by
 subst hn
 obtain ⟨i0,hi,hz0,hz1,hz2⟩:=info_parts infoStrS
 refine wpList_append_own _ hgd _ _ 61 ho B 9 i0 _ 1 16 Tryz.underlying61 hi hz0 hz1 hz2 rfl (by decide) v l.length (l.map Value.string) hs hown ⟨b,0,none⟩ m.length c (m.map Value.string) hx (by simp) hm (str_one m) (by unfold maxLen;omega) (by omega) hB ?_
 intro v' w' hown' hgrow _
 refine h v' w' ?_ hgrow (hown.grown hgrow hB)
 rw [OwnS,List.length_append,List.map_append]
 exact hown'
def BoxAt (w:World) (x:Nat) (cs:List Value):Prop:=w.heap[x]?=some (.cells cs.toArray 40 (0,0))
theorem BoxAt.cells {w:World}{x:Nat}{cs:List Value}(h:BoxAt w x cs):Cells w x 0 cs:=fun i hi=>by
 rw [Nat.zero_add,Lib.cell_of_heap h];simp [hi]
theorem BoxAt.new (w:World) (cs:List Value):BoxAt (w.alloc (.cells cs.toArray 40)) w.heap.size cs:=heap_alloc_new _ _
theorem BoxAt.lt {w:World}{x:Nat}{cs:List Value}(h:BoxAt w x cs):x<w.heap.size:=(Array.getElem?_eq_some_iff.1 h).1
theorem BoxAt.below {w w':World}{x:Nat}{cs:List Value}(h:BoxAt w x cs) (hb:Below w.heap.size w w'):BoxAt w' x cs:=(hb.block _ h.lt).trans h
theorem BoxAt.grown {w w':World}{x B:Nat}{cs:List Value}{v:Value}{l:List ByteArray}(h:BoxAt w x cs) (ho:OwnS B w v l) (hg:w.grownBy w' v.ownBlock):BoxAt w' x cs :=
 (hg.block _ h.lt (fun e=>(Lib.ownBlock_ne ho h (by decide)) e.symm)).trans h
def qn (B:Nat) (w:World) (L:List ByteArray) (e:Ending) (w':World):Prop:=∃ v',e=.returned v'/\OwnS B w' v' L/\Below B w w'
theorem qi:∀ (l:List ByteArray) (lv:Nat),(pbr lv l).length=l.length
 | [],_=>rfl
 | p::r,lv=>by rw [pbr,List.length_cons,List.length_cons,qi r]
theorem pbr_par (lv:Nat) (enc:List Int) (N:Nd) (ok:okN N=true):pbr lv (par enc (N.k,shN litW N))=if hasB enc N.k=true then ⟨#[40]⟩::(pbr lv (shN litW N)++[⟨#[41]⟩]) else pbr lv (shN litW N):=by
 unfold par
 split
 ·rw [pbr,if_neg (by decide),show qA lv ⟨#[40]⟩=lv from rfl,pbr_bal (good_bal.node ok)]
  rfl
 ·rfl
theorem pbr_ne {lv:Nat}{N:Nd}(ok:okN N=true):pbr lv (shN litW N)≠[]:=by
 intro e
 have:=congrArg List.length e
 rw [qi] at this
 exact shN_ne' litW ok (List.eq_nil_of_length_eq_zero this)
def xD (r:Nat):Prop:=∀ (cs:List Value) (N:Nd) (w:World) (lv:Nat),rkN N<r->okN N=true->lv+dep N<=100000->siz N<=200000->NdV w cs N ->
 Calls Tryz.prog 56 #[.agg cs.toArray,.int .i64 lv] w (qn w.heap.size w (pbr lv (shN litW N)))
theorem addR (r:Nat) (ih:xD r) (W0:World) (B:Nat) (hWB:W0.heap.size<=B) (cs:List Value) (N:Nd) (hN:NdV W0 cs N) (hr:rkN N<r) (ok:okN N=true) (enc:List Int) (a:Option Addr) (cap n lv:Nat) (hlv:lv+dep N<=100000) (hsz:siz N<=200000)
  (w:World) (v:Value) (l:List ByteArray) (hb:Below W0.heap.size W0 w) (hB:B<=w.heap.size) (ho:OwnS B w v l) (he:IntsAt w a cap enc) (hn:n=enc.length) (hl:l.length+8*siz N+2<=4000000) :
  Calls Tryz.prog 36 #[v,.agg cs.toArray,.slice a n cap,.int .i64 lv] w (qn B w (l++pbr lv (par enc (N.k,shN litW N)))):=by
 subst hn
 have hw:=hN.below hb
 obtain ⟨v0,v1,v2,v3,ka,kc,ba,bc,kb,ko,bb,bo,O⟩:=hw.open
 have lC:=hw.len
 have X0:=BoxAt.new w cs
 have BN:=below_new w (.cells cs.toArray 40)
 have P0:=fun wr (h:Cells wr w.heap.size 0 cs)=>(O.nf h).1
 have p0:=P0 _ X0.cells
 have hk2:=he.len
 have PN:=fun w' (g:Below W0.heap.size W0 w')=>ih cs N w' lv hr ok hlv hsz (hN.below g)
 have hP:=pbr_par lv enc N ok
 have hne:=pbr_ne (lv:=lv) ok
 have hS:=qC litW _ N (Nat.lt_succ_self _) ok
 rw [<- qi _ lv] at hS
 obtain ⟨M,hM⟩:∃ M,pbr lv (shN litW N)=M:=⟨_,rfl⟩
 obtain ⟨R,hR⟩:∃ R,pbr lv (par enc (N.k,shN litW N))=R:=⟨_,rfl⟩
 simp only [hM] at PN
 rw [hM] at hP hne hS
 rw [hR] at hP ⊢
 have HP:Hid (R=if hasB enc N.k=true then ⟨#[40]⟩::(M++[⟨#[41]⟩]) else M):=hP
 have HL:Hid (l.length+M.length+2<=4000000):=by unfold Hid;omega
 obtain ⟨a2,k2,rfl⟩:=ho.form
 clear hM hR hP O hN ih hS hl hr hlv hsz ok
 go_enter Tryz.func36,Tryz.ntmps36
 go_wp2_with fail
 go_loopw [0,9] (fun v i wr=>∃ j:Nat,j<=enc.length/\v=.slice a2 l.length k2/\i=.int .i64 j/\BoxAt wr w.heap.size cs/\Below w.heap.size w wr/\∀ i (h:i<enc.length),i<j->(enc[i]==N.k)=false) (fun _ i _=>enc.length - (intOf i).toNat)
 case atStart=>exact ⟨0,Nat.zero_le _,rfl,rfl,X0,BN,fun i _ hi=>absurd hi (Nat.not_lt_zero _)⟩
 case round =>
  clear p0 X0 BN
  obtain ⟨j,hj,rfl,rfl,X1,hbr,hee⟩:=hrel
  have HE:Hid (∀ i (h:i<enc.length),i<j->(enc[i]==N.k)=false):=hee
  clear hee
  have p0:=P0 _ X1.cells
  by_cases hlt:j<enc.length
  ·obtain ⟨b2,off2,hi2,hc2⟩:=kinds_at (h:=he) hlt
   have hc3:=(hbr.cell (zD hc2)).trans hc2
   cases q:(enc[j]==N.k) with
   | true =>
    have q':(N.k==enc[j])=true:=beq_iff_eq.2 (beq_iff_eq.1 q).symm
    have HG:Hid (R =⟨#[40]⟩::(M++[⟨#[41]⟩])):=by
     have h1:hasB enc N.k=true:=by unfold hasB;rw [List.any_eq_true];exact ⟨enc[j],List.getElem_mem hlt,q⟩
     unfold Hid;rw [HP.out,if_pos h1]
    clear q hc2 HP
    go_wp2_with fail
    go_quiet (fail)
    have bq:=Shape.below_drewN (w:=wr) nq
    have Xq:=X1.below bq
    generalize wr.drewN nq=wq at *
    have bw:=Below.then hbr bq
    have oq:=ho.below bw
    have sq:=bw.size
    have szA:∀ o,B<=(wq.alloc o).heap.size:=fun o=>by simp;omega
    have oA:=fun o=>oq.below (below_new wq o)
    have XA:=fun o=>Xq.below (below_new wq o)
    have bA:=fun o=>(Below.then hb bw).trans ((below_new wq o).mono (by have:=hb.size;omega))
    have lA:l.length+[(⟨#[40]⟩:ByteArray)].length<=4000000:=by have:=HL.out;simp;omega
    have lB:(l++[(⟨#[40]⟩:ByteArray)]).length+M.length<=4000000:=by have:=HL.out;simp;omega
    have lC2:(l++[(⟨#[40]⟩:ByteArray)]++M).length+[(⟨#[41]⟩:ByteArray)].length<=4000000:=by have:=HL.out;simp;omega
    go_wp2_with (first |((with_reducible show wpList _ _ _ ({ dst:=_,op:=Op.call { callee:=Callee.builtin Builtin.append,args:=_,argTypes:=_ },type:=_,pos:=_,after:=_,guard:=none }::_) _ _);first |(refine zW rfl _ _ rfl B (.slice a2 l.length k2) rfl l (oA _) (szA _) wq.heap.size 1 [⟨#[40]⟩] 1 rfl rfl (Words.new wq [⟨#[40]⟩] 9) lA ?_;intro v3 w3 o3 g3 b3;(have X3:=(XA _).grown (oA _) g3);(have C3:=X3.cells);(have bb3:=(bA _).trans (b3.mono hWB));(have s3:=b3.size)) |(refine zW rfl _ _ rfl B v3 rfl (l++[⟨#[40]⟩]) (o3.below b4) (by have:=b4.size;have:=szA (.cells #[.string ⟨#[40]⟩] 9);omega) g4 c4 M M.length rfl rfl m4 lB ?_;intro v5 w5 o5 g5 b5) |(refine zW rfl _ _ rfl B v5 rfl (l++[⟨#[40]⟩]++M) (o5.below (below_new w5 _)) (by have:=b5.size;have:=b4.size;have:=szA (.cells #[.string ⟨#[40]⟩] 9);simp;omega) w5.heap.size 1 [⟨#[41]⟩] 1 rfl rfl (Words.new w5 [⟨#[41]⟩] 9) lC2 ?_;intro v7 w7 o7 g7 b7)) |((with_reducible show wpList _ _ _ (⟨_,Op.load 40 _,_,_,_,none⟩::_) _ _);refine zB rfl rfl rfl C3 lC ?_) |(go_at_call 56;((with_reducible refine (PN w3 bb3).mono ?_);rintro e w4 ⟨v4,rfl,o4,b4⟩;obtain ⟨g4,c4,rfl,m4⟩:=o4.words hne)))
    go_ret
    refine ⟨_,rfl,?_,?_⟩
    ·have e:l++R=l++[⟨#[40]⟩]++M++[⟨#[41]⟩]:=by rw [HG.out];simp
     rw [e];exact o7
    ·have h1:Below B w wq:=bw.mono hB
     have h2:Below B w w3:=(h1.trans ((below_new wq _).mono (by omega))).trans b3
     exact (((h2.trans (b4.mono (by have:=szA (.cells #[.string ⟨#[40]⟩] 9);omega))).trans b5).trans ((below_new w5 _).mono (by have:=b5.size;have:=b4.size;have:=szA (.cells #[.string ⟨#[40]⟩] 9);omega))).trans b7
   | false =>
    have q':(N.k==enc[j])=false:=beq_eq_false_iff_ne.2 (fun e=>(beq_eq_false_iff_ne.1 q) e.symm)
    have HC:Hid ((enc[j]==N.k)=false):=q
    clear q hc2
    go_wp2_with fail
    go_quiet (fail)
    go_wp2_with fail
    go_roundw
    case rel=>exact ⟨j+1,by omega,rfl,by go_num,X1.below (Shape.below_drewN _),Below.then hbr (Shape.below_drewN _),fun i h1 h2=>by
     by_cases e:i=j
     ·subst e;exact HC.out
     ·exact HE.out i h1 (by omega)⟩
    case measure=>simp [intOf];omega
  ·have HG:Hid (R=M):=by
    have h1:hasB enc N.k=false:=by
     unfold hasB;rw [List.any_eq_false]
     intro y hy
     obtain ⟨i,hi,rfl⟩:=List.getElem_of_mem hy
     rw [HE.out i hi (by omega)];exact Bool.false_ne_true
    unfold Hid;rw [HP.out,if_neg (by rw [h1];exact Bool.false_ne_true)]
   clear HP HE
   have C3:=X1.cells
   have oq:=ho.below hbr
   have bb3:=Below.then hb hbr
   have sq:=hbr.size
   have lB:l.length+M.length<=4000000:=by have:=HL.out;omega
   go_wp2_with (first |((with_reducible show wpList _ _ _ ({ dst:=_,op:=Op.call { callee:=Callee.builtin Builtin.append,args:=_,argTypes:=_ },type:=_,pos:=_,after:=_,guard:=none }::_) _ _);(refine zW rfl _ _ rfl B (.slice a2 l.length k2) rfl l (oq.below b4) (by have:=b4.size;omega) g4 c4 M M.length rfl rfl m4 lB ?_;intro v5 w5 o5 g5 b5)) |((with_reducible show wpList _ _ _ (⟨_,Op.load 40 _,_,_,_,none⟩::_) _ _);refine zB rfl rfl rfl C3 lC ?_) |(go_at_call 56;((with_reducible refine (PN wr bb3).mono ?_);rintro e w4 ⟨v4,rfl,o4,b4⟩;obtain ⟨g4,c4,rfl,m4⟩:=o4.words hne)))
   go_ret
   refine ⟨_,rfl,?_,?_⟩
   ·rw [HG.out];exact o5
   ·exact ((hbr.mono hB).trans (b4.mono (by omega))).trans b5
end Go.Proofs.YtmfhdcpajgjgpaaGreatDoor.Syn
namespace Go.Proofs.YtmfhdcpajgjgpaaGreatDoor.Syn
open Go.RowKit Go.Shelf Go.Maps Go.Proofs.YtmfhdcpajgjgpaaGreatDoor.Shape Go.Proofs.YtmfhdcpajgjgpaaGreatDoor.Draw
set_option linter.unusedVariables false
set_option linter.unusedSimpArgs false
set_option maxRecDepth 100000
theorem xg {enc:List Int}{N:Nd}(ok:okN N=true):Bal (par enc (N.k,shN litW N)):=by
 unfold par;split
 ·exact good_bal.par _ (good_bal.node ok)
 ·exact good_bal.node ok
theorem qX {lv:Nat}{a b:List ByteArray}(h:Bal a):pbr lv (a++b)=pbr lv a++pbr lv b:=pbr_bal h b lv
theorem kt (w:World):IntsAt w none 0 []:=⟨Nat.zero_le _,by decide,by simp,0,0,fun h=>absurd rfl h,fun k hk=>absurd hk (by simp)⟩
theorem vZ {lt:Arr->ByteArray}{N A:Nd}{j:Nat}(h:N.ks[j]?=some A):kidW (shK lt N.ks) j =(A.k,shN lt A):=by
 unfold kidW
 rw [zx,List.getD_eq_getElem?_getD,List.getElem?_map,h];rfl
theorem par_six (x:Int × List ByteArray):par [16,14,15,3,4,5] x=par [3,4,5,16,14,15] x:=by
 unfold par
 rw [show hasB [16,14,15,3,4,5] x.1=hasB [3,4,5,16,14,15] x.1 by
  unfold hasB;simp only [List.any_cons,List.any_nil,Bool.or_false];ac_rfl]
theorem par_three (x:Int × List ByteArray):par [16,4,5] x=par [4,5,16] x:=by
 unfold par
 rw [show hasB [16,4,5] x.1=hasB [4,5,16] x.1 by
  unfold hasB;simp only [List.any_cons,List.any_nil,Bool.or_false];ac_rfl]
theorem zy (lv:Nat) (enc:List Int) (N:Nd) (ok:okN N=true):(pbr lv (par enc (N.k,shN litW N))).length<=8*siz N:=by
 rw [qi]
 have h1:=zw enc (N.k,shN litW N)
 have h2:=qC litW _ N (Nat.lt_succ_self _) ok
 simp only at h1
 omega
def Chain (W:World) (Ms:List (List ByteArray)) (k:Nat) (v:Value) (w:World):Prop:=Below W.heap.size W w/\(0<k->OwnS W.heap.size w v (Ms.take k).flatten)
theorem parts_k4 (r:Nat) (ih:xD r) (cs:List Value) (N:Nd) (w:World) (lv:Nat) (hr:rkN N<r+1) (ok:okN N=true) (hlv:lv+dep N<=100000) (hsz:siz N<=200000) (h:NdV w cs N) (hk:N.k=4) :
  Calls Tryz.prog 56 #[.agg cs.toArray,.int .i64 lv] w (qn w.heap.size w (pbr lv (shN litW N))):=by
 obtain ⟨v0,v1,v2,v3,ka,kc,ba,bc,kb,ko,bb,bo,O⟩:=h.open
 have lC:=h.len
 have hk1:N.ks.length<=9223372036854775807:=by have:=O.kl;omega
 have hk2:N.bd.length<=9223372036854775807:=by have:=O.bl;omega
 have BN:=below_new w (.cells cs.toArray 40)
 have hP:=O.nf (zL w cs 40)
 have hc0:=zL w cs 40
 obtain ⟨S0,i3,i4,i5⟩:=kZ w (.cells cs.toArray 40)
 have hP4:=hP.below S0
 have hc4:=hc0.below S0
 have B4:=Below.then BN S0
 obtain ⟨W4,hW4⟩:∃ W4,((((w.alloc (.cells cs.toArray 40)).alloc (.cells #[.int .i64 4,.int .i64 5] 29)).alloc (.cells #[.int .i64 3,.int .i64 4,.int .i64 5] 29)).alloc (.cells #[.int .i64 16] 29))=W4:=⟨_,rfl⟩
 rw [hW4] at i3 i4 i5 hP4 hc4 B4
 obtain ⟨p0,-,-,-,-,-,p10,p11,-,-,-⟩:=hP4
 have h4:=h.below B4
 have z0:=qQ N
 have e3:(N.k==3)=false:=by rw [hk];rfl
 have e4:(N.k==4)=true:=by rw [hk];rfl
 have e5:(N.k==5)=false:=by rw [hk];rfl
 have e14:(N.k==14)=false:=by rw [hk];rfl
 have e15:(N.k==15)=false:=by rw [hk];rfl
 have e16:(N.k==16)=false:=by rw [hk];rfl
 have e10:(N.k==10)=false:=by rw [hk];rfl
 clear S0 hP BN hc0
 obtain ⟨A,B,e⟩:=ok_k4 ok hk
 have h0:0<N.ks.length:=by rw [e];simp
 have g0:N.ks[0]=A:=by simp [e]
 have r0:=zk N h0
 have d0:=zi N h0
 have ok0:=kE ok h0
 have ix0:=zR (ic:=kc) rfl O.ka h0
 rw [show ((0:Nat):Int)=0 from rfl] at ix0
 obtain ⟨c0,hc0,hN0⟩:=(NdsAt.below B4 O.kat).at h0
 have l0:=hN0.len
 rw [g0] at r0 hN0 d0 ok0
 have h1:1<N.ks.length:=by rw [e];simp
 have g1:N.ks[1]=B:=by simp [e]
 have r1:=zk N h1
 have d1:=zi N h1
 have ok1:=kE ok h1
 have ix1:=zR (ic:=kc) rfl O.ka h1
 rw [show ((1:Nat):Int)=1 from rfl] at ix1
 obtain ⟨c1,hc1,hN1⟩:=(NdsAt.below B4 O.kat).at h1
 have l1:=hN1.len
 rw [g1] at r1 hN1 d1 ok1
 rw [e] at z0
 simp only [sizK] at z0
 have hsh:shN litW N=par [16] (A.k,shN litW A)++(par [] (B.k,shN litW B)):=by
  rw [kC,if_neg (by omega),if_pos hk,vZ (j:=0) (show N.ks[0]?=some A by simp [e]),vZ (j:=1) (show N.ks[1]?=some B by simp [e])]
 have hwh:pbr lv (shN litW N)=pbr lv (par [16] (A.k,shN litW A))++(pbr lv (par [] (B.k,shN litW B))):=by rw [hsh,qX (xg ok0)]
 have ad0:=fun w' v l (g:Below W4.heap.size W4 w') (ho:OwnS W4.heap.size w' v l) (hl:l.length+8*siz A+2<=4000000)=>addR r ih W4 W4.heap.size (Nat.le_refl _) c0 A hN0 (by omega) ok0 [16] (some ⟨w.heap.size+1+1+1,0,none⟩) 1 1 lv (by omega) (by omega) w' v l g g.size ho (IntsAt.below i5 g) rfl hl
 have m0:=zy lv [16] A ok0
 obtain ⟨M0,hM0⟩:∃ M,pbr lv (par [16] (A.k,shN litW A))=M:=⟨_,rfl⟩
 simp only [hM0] at ad0 m0 hwh
 have ad1:=fun w' v l (g:Below W4.heap.size W4 w') (ho:OwnS W4.heap.size w' v l) (hl:l.length+8*siz B+2<=4000000)=>addR r ih W4 W4.heap.size (Nat.le_refl _) c1 B hN1 (by omega) ok1 [] none 0 0 lv (by omega) (by omega) w' v l g g.size ho (kt _) rfl hl
 have m1:=zy lv [] B ok1
 obtain ⟨M1,hM1⟩:∃ M,pbr lv (par [] (B.k,shN litW B))=M:=⟨_,rfl⟩
 simp only [hM1] at ad1 m1 hwh
 have HW:Hid (pbr lv (shN litW N)=[M0,M1].flatten):=by unfold Hid;rw [hwh];simp
 have n0:([M0,M1].take 0).flatten.length+8*siz A+2<=4000000:=by simp;omega
 have n1:([M0,M1].take 1).flatten.length+8*siz B+2<=4000000:=by simp;omega
 clear e i3 i4 i5 hc4 h4 h ih hr p11 O lC hwh hsh ok hlv hsz z0 r0 d0 ok0 hN0 g0 r1 d1 ok1 hN1 g1 hM0 m0 hM1 m1
 go_enter Tryz.func56,Tryz.ntmps56
 go_upto_region 4 with fail
 try rw [hW4]
 clear hW4
 go_wp2_with fail
 refine zq (l:=[_,_,_,_,_,_,_,_,_,_,_,_,_,_]) (last:=_) rfl (by kernel_rfl) (fun _=>0) [7,13] [49,55] 14 200 42 [.slice none 0 0,.pointer (some ⟨w.heap.size,10,none⟩),.slice ka N.ks.length kc,.pointer (some ⟨kb,ko+0*15,none⟩),.agg c0.toArray,.slice (some ⟨w.heap.size+1+1+1,0,none⟩) 1 1,.int .i64 lv,undef,.pointer (some ⟨w.heap.size,10,none⟩),.slice ka N.ks.length kc,.pointer (some ⟨kb,ko+1*15,none⟩),.agg c1.toArray,.int .i64 lv,undef] (fun g=>[.slice none 0 0,.pointer (some ⟨w.heap.size,10,none⟩),.slice ka N.ks.length kc,.pointer (some ⟨kb,ko+0*15,none⟩),.agg c0.toArray,.slice (some ⟨w.heap.size+1+1+1,0,none⟩) 1 1,.int .i64 lv,g 49,.pointer (some ⟨w.heap.size,10,none⟩),.slice ka N.ks.length kc,.pointer (some ⟨kb,ko+1*15,none⟩),.agg c1.toArray,.int .i64 lv,g 55]) (fun k g _ w'=>Chain W4 [M0,M1] k (g ([49,55].getD (k - 1) 0)) w') (fun w'=>Below W4.heap.size W4 w') (Nat.le_of_ble_eq_true (by kernel_rfl)) (by kernel_rfl) (by kernel_rfl) rfl (by kernel_rfl) (by kernel_rfl) (by kernel_rfl) rfl (by kernel_rfl) (by kernel_rfl) (fun _ _ _ _ h=>h.1) (fun k g g' _ _ _ hg h=>⟨h.1,fun hk=>(hg (k - 1) (by omega)) ▸ h.2 hk⟩) ⟨(Below.refl _ _).drew,fun g=>absurd g (by decide)⟩ ?_ (fun g=>rfl) (by kernel_rfl) (by kernel_rfl) ?_
 ·intro hch
  refine ⟨?_,?_,?_,?_,?_,?_,?_,?_,?_,?_,?_,?_,?_,?_,trivial⟩
  ·refine Step.look rfl rfl ?_
   intro a w' hS H
   have x8:a.tmps[8]?.getD undef=.slice none 0 0:=H 8 rfl rfl (by decide)
   refine ⟨trivial,fun K Q hK=>?_⟩
   go_simp
   exact hK.out
  ·refine Step.look rfl rfl ?_
   intro a w' hS H
   have x2:a.tmps[2]?.getD undef=.pointer (some ⟨w.heap.size,0,none⟩):=H 2 rfl rfl (by decide)
   refine ⟨trivial,fun K Q hK=>?_⟩
   go_simp
   exact hK.out
  ·refine Step.look rfl rfl ?_
   intro a w' hS H
   have x43:a.tmps[43]?.getD undef=.pointer (some ⟨w.heap.size,10,none⟩):=H 43 rfl rfl (by decide)
   have y10:=(hS.cell (zD p10)).trans p10
   refine ⟨trivial,fun K Q hK=>?_⟩
   go_simp
   exact hK.out
  ·refine Step.look rfl rfl ?_
   intro a w' hS H
   have x44:a.tmps[44]?.getD undef=.slice ka N.ks.length kc:=H 44 rfl rfl (by decide)
   refine ⟨trivial,fun K Q hK=>?_⟩
   go_simp
   exact hK.out
  ·refine Step.look rfl rfl ?_
   intro a w' hS H
   have x45:a.tmps[45]?.getD undef=.pointer (some ⟨kb,ko+0*15,none⟩):=H 45 rfl rfl (by decide)
   refine ⟨trivial,fun K Q hK=>?_⟩
   exact zc (hc0.below hS) l0 rfl (by rw [Array.getD_eq_getD_getElem?];exact x45) hK.out
  ·refine Step.look rfl rfl ?_
   intro a w' hS H
   have x7:a.tmps[7]?.getD undef=.slice (some ⟨w.heap.size+1+1+1,0,none⟩) 1 1:=H 7 rfl rfl (by decide)
   refine ⟨trivial,fun K Q hK=>?_⟩
   go_simp
   exact hK.out
  ·refine Step.look rfl rfl ?_
   intro a w' hS H
   have x1:a.tmps[1]?.getD undef=.int .i64 lv:=H 1 rfl rfl (by decide)
   refine ⟨trivial,fun K Q hK=>?_⟩
   go_simp
   exact hK.out
  ·refine Step.link hch 0 (by decide) rfl rfl ?_
   intro a w' x hS hx H K Q hK
   obtain ⟨hb1,ho1⟩:=hS
   have x46:a.tmps[46]?.getD undef=.agg c0.toArray:=H 46 rfl rfl (by decide)
   have x48:a.tmps[48]?.getD undef=.int .i64 lv:=H 48 rfl rfl (by decide)
   have x47:a.tmps[47]?.getD undef=.slice (some ⟨w.heap.size+1+1+1,0,none⟩) 1 1:=H 47 rfl rfl (by decide)
   have x42:a.tmps[42]?.getD undef=.slice none 0 0:=H 42 rfl rfl (by decide)
   have C:=ad0 w' _ [] hb1 (OwnS.none _ _) (by simpa using n0)
   go_simp
   go_at_call 36
   with_reducible refine C.mono ?_
   rintro e w3 ⟨v3,rfl,o3,b3⟩
   exact hK.out _ _ ⟨hb1.trans b3,fun _=>by simpa [upd] using o3⟩
  ·refine Step.look rfl rfl ?_
   intro a w' hS H
   have x2:a.tmps[2]?.getD undef=.pointer (some ⟨w.heap.size,0,none⟩):=H 2 rfl rfl (by decide)
   refine ⟨trivial,fun K Q hK=>?_⟩
   go_simp
   exact hK.out
  ·refine Step.look rfl rfl ?_
   intro a w' hS H
   have x50:a.tmps[50]?.getD undef=.pointer (some ⟨w.heap.size,10,none⟩):=H 50 rfl rfl (by decide)
   have y10:=(hS.cell (zD p10)).trans p10
   refine ⟨trivial,fun K Q hK=>?_⟩
   go_simp
   exact hK.out
  ·refine Step.look rfl rfl ?_
   intro a w' hS H
   have x51:a.tmps[51]?.getD undef=.slice ka N.ks.length kc:=H 51 rfl rfl (by decide)
   refine ⟨trivial,fun K Q hK=>?_⟩
   go_simp
   exact hK.out
  ·refine Step.look rfl rfl ?_
   intro a w' hS H
   have x52:a.tmps[52]?.getD undef=.pointer (some ⟨kb,ko+1*15,none⟩):=H 52 rfl rfl (by decide)
   refine ⟨trivial,fun K Q hK=>?_⟩
   exact zc (hc1.below hS) l1 rfl (by rw [Array.getD_eq_getD_getElem?];exact x52) hK.out
  ·refine Step.look rfl rfl ?_
   intro a w' hS H
   have x1:a.tmps[1]?.getD undef=.int .i64 lv:=H 1 rfl rfl (by decide)
   refine ⟨trivial,fun K Q hK=>?_⟩
   go_simp
   exact hK.out
  ·refine Step.link hch 1 (by decide) rfl rfl ?_
   intro a w' x hS hx H K Q hK
   obtain ⟨hb1,ho1⟩:=hS
   have x53:a.tmps[53]?.getD undef=.agg c1.toArray:=H 53 rfl rfl (by decide)
   have x54:a.tmps[54]?.getD undef=.int .i64 lv:=H 54 rfl rfl (by decide)
   have ho1:=ho1 (by decide)
   have n1:=n1
   obtain ⟨L1,hL1⟩:∃ L1,(List.take 1 [M0,M1]).flatten=L1:=⟨_,rfl⟩
   have HL:Hid ((List.take 1 [M0,M1]).flatten=L1):=hL1
   replace ho1:OwnS W4.heap.size w' (a.tmps[49]?.getD undef) L1:=hL1 ▸ ho1
   rw [hL1] at n1
   clear hL1
   obtain ⟨aa,cc,x49⟩:∃ aa cc,a.tmps[49]?.getD undef=.slice aa _ cc:=ho1.form
   replace ho1:=x49 ▸ ho1
   have C:=ad1 w' _ _ hb1 ho1 n1
   go_simp
   go_at_call 36
   with_reducible refine C.mono ?_
   rintro e w3 ⟨v3,rfl,o3,b3⟩
   exact hK.out _ _ ⟨hb1.trans b3,fun _=>by rw [<- HL.out] at o3;simpa [upd] using o3⟩
 ·intro g x w' hS
  obtain ⟨hb1,ho1⟩:=hS
  have ho1:OwnS W4.heap.size w' (g 55) [M0,M1].flatten:=ho1 (by decide)
  obtain ⟨LF,hLF⟩:∃ LF,[M0,M1].flatten=LF:=⟨_,rfl⟩
  rw [hLF] at ho1
  have HW2:Hid (pbr lv (shN litW N)=LF):=HW.out.trans hLF
  clear hLF HW
  obtain ⟨aa,cc,ev⟩:∃ aa cc,g 55=.slice aa _ cc:=ho1.form
  have ho2:=ev ▸ ho1
  simp only [ev,List.take_succ_cons,List.take_zero,List.drop_succ_cons,List.drop_zero,List.cons_append,List.nil_append,List.length_cons,List.length_nil,Nat.reduceAdd]
  have bf:=Below.then B4 hb1
  have HO:Hid (OwnS w.heap.size w' (.slice aa LF.length cc) LF):=ho2.base B4.size
  clear ho1 ho2
  go_simp
  go_wp2_with fail
  go_ret
  exact ⟨_,rfl,by rw [HW2.out];exact HO.out,bf⟩
theorem parts_k14 (r:Nat) (ih:xD r) (cs:List Value) (N:Nd) (w:World) (lv:Nat) (hr:rkN N<r+1) (ok:okN N=true) (hlv:lv+dep N<=100000) (hsz:siz N<=200000) (h:NdV w cs N) (hk:N.k=14) :
  Calls Tryz.prog 56 #[.agg cs.toArray,.int .i64 lv] w (qn w.heap.size w (pbr lv (shN litW N))):=by
 obtain ⟨v0,v1,v2,v3,ka,kc,ba,bc,kb,ko,bb,bo,O⟩:=h.open
 have lC:=h.len
 have hk1:N.ks.length<=9223372036854775807:=by have:=O.kl;omega
 have hk2:N.bd.length<=9223372036854775807:=by have:=O.bl;omega
 have BN:=below_new w (.cells cs.toArray 40)
 have hP:=O.nf (zL w cs 40)
 have hc0:=zL w cs 40
 obtain ⟨S0,i3,i4,i5⟩:=kZ w (.cells cs.toArray 40)
 have hP4:=hP.below S0
 have hc4:=hc0.below S0
 have B4:=Below.then BN S0
 obtain ⟨W4,hW4⟩:∃ W4,((((w.alloc (.cells cs.toArray 40)).alloc (.cells #[.int .i64 4,.int .i64 5] 29)).alloc (.cells #[.int .i64 3,.int .i64 4,.int .i64 5] 29)).alloc (.cells #[.int .i64 16] 29))=W4:=⟨_,rfl⟩
 rw [hW4] at i3 i4 i5 hP4 hc4 B4
 obtain ⟨p0,-,-,-,-,-,p10,p11,-,-,-⟩:=hP4
 have h4:=h.below B4
 have z0:=qQ N
 have e3:(N.k==3)=false:=by rw [hk];rfl
 have e4:(N.k==4)=false:=by rw [hk];rfl
 have e5:(N.k==5)=false:=by rw [hk];rfl
 have e14:(N.k==14)=true:=by rw [hk];rfl
 have e15:(N.k==15)=false:=by rw [hk];rfl
 have e16:(N.k==16)=false:=by rw [hk];rfl
 have e10:(N.k==10)=false:=by rw [hk];rfl
 clear S0 hP BN hc0
 obtain ⟨A,B,e⟩:=ok_k14 ok hk
 have h0:0<N.ks.length:=by rw [e];simp
 have g0:N.ks[0]=A:=by simp [e]
 have r0:=zk N h0
 have d0:=zi N h0
 have ok0:=kE ok h0
 have ix0:=zR (ic:=kc) rfl O.ka h0
 rw [show ((0:Nat):Int)=0 from rfl] at ix0
 obtain ⟨c0,hc0,hN0⟩:=(NdsAt.below B4 O.kat).at h0
 have l0:=hN0.len
 rw [g0] at r0 hN0 d0 ok0
 have h1:1<N.ks.length:=by rw [e];simp
 have g1:N.ks[1]=B:=by simp [e]
 have r1:=zk N h1
 have d1:=zi N h1
 have ok1:=kE ok h1
 have ix1:=zR (ic:=kc) rfl O.ka h1
 rw [show ((1:Nat):Int)=1 from rfl] at ix1
 obtain ⟨c1,hc1,hN1⟩:=(NdsAt.below B4 O.kat).at h1
 have l1:=hN1.len
 rw [g1] at r1 hN1 d1 ok1
 rw [e] at z0
 simp only [sizK] at z0
 have hsh:shN litW N=par [16] (B.k,shN litW B)++(par [] (A.k,shN litW A)):=by
  rw [kC,if_neg (by omega),if_neg (by omega),if_neg (by omega),if_neg (by omega),if_pos hk,vZ (j:=1) (show N.ks[1]?=some B by simp [e]),vZ (j:=0) (show N.ks[0]?=some A by simp [e])]
 have hwh:pbr lv (shN litW N)=pbr lv (par [16] (B.k,shN litW B))++(pbr lv (par [] (A.k,shN litW A))):=by rw [hsh,qX (xg ok1)]
 have ad0:=fun w' v l (g:Below W4.heap.size W4 w') (ho:OwnS W4.heap.size w' v l) (hl:l.length+8*siz B+2<=4000000)=>addR r ih W4 W4.heap.size (Nat.le_refl _) c1 B hN1 (by omega) ok1 [16] (some ⟨w.heap.size+1+1+1,0,none⟩) 1 1 lv (by omega) (by omega) w' v l g g.size ho (IntsAt.below i5 g) rfl hl
 have m0:=zy lv [16] B ok1
 obtain ⟨M0,hM0⟩:∃ M,pbr lv (par [16] (B.k,shN litW B))=M:=⟨_,rfl⟩
 simp only [hM0] at ad0 m0 hwh
 have ad1:=fun w' v l (g:Below W4.heap.size W4 w') (ho:OwnS W4.heap.size w' v l) (hl:l.length+8*siz A+2<=4000000)=>addR r ih W4 W4.heap.size (Nat.le_refl _) c0 A hN0 (by omega) ok0 [] none 0 0 lv (by omega) (by omega) w' v l g g.size ho (kt _) rfl hl
 have m1:=zy lv [] A ok0
 obtain ⟨M1,hM1⟩:∃ M,pbr lv (par [] (A.k,shN litW A))=M:=⟨_,rfl⟩
 simp only [hM1] at ad1 m1 hwh
 have HW:Hid (pbr lv (shN litW N)=[M0,M1].flatten):=by unfold Hid;rw [hwh];simp
 have n0:([M0,M1].take 0).flatten.length+8*siz B+2<=4000000:=by simp;omega
 have n1:([M0,M1].take 1).flatten.length+8*siz A+2<=4000000:=by simp;omega
 clear e i3 i4 i5 hc4 h4 h ih hr p11 O lC hwh hsh ok hlv hsz z0 r0 d0 ok0 hN0 g0 r1 d1 ok1 hN1 g1 hM0 m0 hM1 m1
 go_enter Tryz.func56,Tryz.ntmps56
 go_upto_region 4 with fail
 try rw [hW4]
 clear hW4
 go_wp2_with fail
 refine zq (l:=[_,_,_,_,_,_,_,_,_,_,_,_,_,_]) (last:=_) rfl (by kernel_rfl) (fun _=>0) [7,13] [88,94] 14 200 81 [.slice none 0 0,.pointer (some ⟨w.heap.size,10,none⟩),.slice ka N.ks.length kc,.pointer (some ⟨kb,ko+1*15,none⟩),.agg c1.toArray,.slice (some ⟨w.heap.size+1+1+1,0,none⟩) 1 1,.int .i64 lv,undef,.pointer (some ⟨w.heap.size,10,none⟩),.slice ka N.ks.length kc,.pointer (some ⟨kb,ko+0*15,none⟩),.agg c0.toArray,.int .i64 lv,undef] (fun g=>[.slice none 0 0,.pointer (some ⟨w.heap.size,10,none⟩),.slice ka N.ks.length kc,.pointer (some ⟨kb,ko+1*15,none⟩),.agg c1.toArray,.slice (some ⟨w.heap.size+1+1+1,0,none⟩) 1 1,.int .i64 lv,g 88,.pointer (some ⟨w.heap.size,10,none⟩),.slice ka N.ks.length kc,.pointer (some ⟨kb,ko+0*15,none⟩),.agg c0.toArray,.int .i64 lv,g 94]) (fun k g _ w'=>Chain W4 [M0,M1] k (g ([88,94].getD (k - 1) 0)) w') (fun w'=>Below W4.heap.size W4 w') (Nat.le_of_ble_eq_true (by kernel_rfl)) (by kernel_rfl) (by kernel_rfl) rfl (by kernel_rfl) (by kernel_rfl) (by kernel_rfl) rfl (by kernel_rfl) (by kernel_rfl) (fun _ _ _ _ h=>h.1) (fun k g g' _ _ _ hg h=>⟨h.1,fun hk=>(hg (k - 1) (by omega)) ▸ h.2 hk⟩) ⟨(Below.refl _ _).drew,fun g=>absurd g (by decide)⟩ ?_ (fun g=>rfl) (by kernel_rfl) (by kernel_rfl) ?_
 ·intro hch
  refine ⟨?_,?_,?_,?_,?_,?_,?_,?_,?_,?_,?_,?_,?_,?_,trivial⟩
  ·refine Step.look rfl rfl ?_
   intro a w' hS H
   have x8:a.tmps[8]?.getD undef=.slice none 0 0:=H 8 rfl rfl (by decide)
   refine ⟨trivial,fun K Q hK=>?_⟩
   go_simp
   exact hK.out
  ·refine Step.look rfl rfl ?_
   intro a w' hS H
   have x2:a.tmps[2]?.getD undef=.pointer (some ⟨w.heap.size,0,none⟩):=H 2 rfl rfl (by decide)
   refine ⟨trivial,fun K Q hK=>?_⟩
   go_simp
   exact hK.out
  ·refine Step.look rfl rfl ?_
   intro a w' hS H
   have x82:a.tmps[82]?.getD undef=.pointer (some ⟨w.heap.size,10,none⟩):=H 82 rfl rfl (by decide)
   have y10:=(hS.cell (zD p10)).trans p10
   refine ⟨trivial,fun K Q hK=>?_⟩
   go_simp
   exact hK.out
  ·refine Step.look rfl rfl ?_
   intro a w' hS H
   have x83:a.tmps[83]?.getD undef=.slice ka N.ks.length kc:=H 83 rfl rfl (by decide)
   refine ⟨trivial,fun K Q hK=>?_⟩
   go_simp
   exact hK.out
  ·refine Step.look rfl rfl ?_
   intro a w' hS H
   have x84:a.tmps[84]?.getD undef=.pointer (some ⟨kb,ko+1*15,none⟩):=H 84 rfl rfl (by decide)
   refine ⟨trivial,fun K Q hK=>?_⟩
   exact zc (hc1.below hS) l1 rfl (by rw [Array.getD_eq_getD_getElem?];exact x84) hK.out
  ·refine Step.look rfl rfl ?_
   intro a w' hS H
   have x7:a.tmps[7]?.getD undef=.slice (some ⟨w.heap.size+1+1+1,0,none⟩) 1 1:=H 7 rfl rfl (by decide)
   refine ⟨trivial,fun K Q hK=>?_⟩
   go_simp
   exact hK.out
  ·refine Step.look rfl rfl ?_
   intro a w' hS H
   have x1:a.tmps[1]?.getD undef=.int .i64 lv:=H 1 rfl rfl (by decide)
   refine ⟨trivial,fun K Q hK=>?_⟩
   go_simp
   exact hK.out
  ·refine Step.link hch 0 (by decide) rfl rfl ?_
   intro a w' x hS hx H K Q hK
   obtain ⟨hb1,ho1⟩:=hS
   have x85:a.tmps[85]?.getD undef=.agg c1.toArray:=H 85 rfl rfl (by decide)
   have x87:a.tmps[87]?.getD undef=.int .i64 lv:=H 87 rfl rfl (by decide)
   have x86:a.tmps[86]?.getD undef=.slice (some ⟨w.heap.size+1+1+1,0,none⟩) 1 1:=H 86 rfl rfl (by decide)
   have x81:a.tmps[81]?.getD undef=.slice none 0 0:=H 81 rfl rfl (by decide)
   have C:=ad0 w' _ [] hb1 (OwnS.none _ _) (by simpa using n0)
   go_simp
   go_at_call 36
   with_reducible refine C.mono ?_
   rintro e w3 ⟨v3,rfl,o3,b3⟩
   exact hK.out _ _ ⟨hb1.trans b3,fun _=>by simpa [upd] using o3⟩
  ·refine Step.look rfl rfl ?_
   intro a w' hS H
   have x2:a.tmps[2]?.getD undef=.pointer (some ⟨w.heap.size,0,none⟩):=H 2 rfl rfl (by decide)
   refine ⟨trivial,fun K Q hK=>?_⟩
   go_simp
   exact hK.out
  ·refine Step.look rfl rfl ?_
   intro a w' hS H
   have x89:a.tmps[89]?.getD undef=.pointer (some ⟨w.heap.size,10,none⟩):=H 89 rfl rfl (by decide)
   have y10:=(hS.cell (zD p10)).trans p10
   refine ⟨trivial,fun K Q hK=>?_⟩
   go_simp
   exact hK.out
  ·refine Step.look rfl rfl ?_
   intro a w' hS H
   have x90:a.tmps[90]?.getD undef=.slice ka N.ks.length kc:=H 90 rfl rfl (by decide)
   refine ⟨trivial,fun K Q hK=>?_⟩
   go_simp
   exact hK.out
  ·refine Step.look rfl rfl ?_
   intro a w' hS H
   have x91:a.tmps[91]?.getD undef=.pointer (some ⟨kb,ko+0*15,none⟩):=H 91 rfl rfl (by decide)
   refine ⟨trivial,fun K Q hK=>?_⟩
   exact zc (hc0.below hS) l0 rfl (by rw [Array.getD_eq_getD_getElem?];exact x91) hK.out
  ·refine Step.look rfl rfl ?_
   intro a w' hS H
   have x1:a.tmps[1]?.getD undef=.int .i64 lv:=H 1 rfl rfl (by decide)
   refine ⟨trivial,fun K Q hK=>?_⟩
   go_simp
   exact hK.out
  ·refine Step.link hch 1 (by decide) rfl rfl ?_
   intro a w' x hS hx H K Q hK
   obtain ⟨hb1,ho1⟩:=hS
   have x92:a.tmps[92]?.getD undef=.agg c0.toArray:=H 92 rfl rfl (by decide)
   have x93:a.tmps[93]?.getD undef=.int .i64 lv:=H 93 rfl rfl (by decide)
   have ho1:=ho1 (by decide)
   have n1:=n1
   obtain ⟨L1,hL1⟩:∃ L1,(List.take 1 [M0,M1]).flatten=L1:=⟨_,rfl⟩
   have HL:Hid ((List.take 1 [M0,M1]).flatten=L1):=hL1
   replace ho1:OwnS W4.heap.size w' (a.tmps[88]?.getD undef) L1:=hL1 ▸ ho1
   rw [hL1] at n1
   clear hL1
   obtain ⟨aa,cc,x88⟩:∃ aa cc,a.tmps[88]?.getD undef=.slice aa _ cc:=ho1.form
   replace ho1:=x88 ▸ ho1
   have C:=ad1 w' _ _ hb1 ho1 n1
   go_simp
   go_at_call 36
   with_reducible refine C.mono ?_
   rintro e w3 ⟨v3,rfl,o3,b3⟩
   exact hK.out _ _ ⟨hb1.trans b3,fun _=>by rw [<- HL.out] at o3;simpa [upd] using o3⟩
 ·intro g x w' hS
  obtain ⟨hb1,ho1⟩:=hS
  have ho1:OwnS W4.heap.size w' (g 94) [M0,M1].flatten:=ho1 (by decide)
  obtain ⟨LF,hLF⟩:∃ LF,[M0,M1].flatten=LF:=⟨_,rfl⟩
  rw [hLF] at ho1
  have HW2:Hid (pbr lv (shN litW N)=LF):=HW.out.trans hLF
  clear hLF HW
  obtain ⟨aa,cc,ev⟩:∃ aa cc,g 94=.slice aa _ cc:=ho1.form
  have ho2:=ev ▸ ho1
  simp only [ev,List.take_succ_cons,List.take_zero,List.drop_succ_cons,List.drop_zero,List.cons_append,List.nil_append,List.length_cons,List.length_nil,Nat.reduceAdd]
  have bf:=Below.then B4 hb1
  have HO:Hid (OwnS w.heap.size w' (.slice aa LF.length cc) LF):=ho2.base B4.size
  clear ho1 ho2
  go_simp
  go_wp2_with fail
  go_ret
  exact ⟨_,rfl,by rw [HW2.out];exact HO.out,bf⟩
theorem parts_k5 (r:Nat) (ih:xD r) (cs:List Value) (N:Nd) (w:World) (lv:Nat) (hr:rkN N<r+1) (ok:okN N=true) (hlv:lv+dep N<=100000) (hsz:siz N<=200000) (h:NdV w cs N) (hk:N.k=5) :
  Calls Tryz.prog 56 #[.agg cs.toArray,.int .i64 lv] w (qn w.heap.size w (pbr lv (shN litW N))):=by
 obtain ⟨v0,v1,v2,v3,ka,kc,ba,bc,kb,ko,bb,bo,O⟩:=h.open
 have lC:=h.len
 have hk1:N.ks.length<=9223372036854775807:=by have:=O.kl;omega
 have hk2:N.bd.length<=9223372036854775807:=by have:=O.bl;omega
 have BN:=below_new w (.cells cs.toArray 40)
 have hP:=O.nf (zL w cs 40)
 have hc0:=zL w cs 40
 obtain ⟨S0,i3,i4,i5⟩:=kZ w (.cells cs.toArray 40)
 have hP4:=hP.below S0
 have hc4:=hc0.below S0
 have B4:=Below.then BN S0
 obtain ⟨W4,hW4⟩:∃ W4,((((w.alloc (.cells cs.toArray 40)).alloc (.cells #[.int .i64 4,.int .i64 5] 29)).alloc (.cells #[.int .i64 3,.int .i64 4,.int .i64 5] 29)).alloc (.cells #[.int .i64 16] 29))=W4:=⟨_,rfl⟩
 rw [hW4] at i3 i4 i5 hP4 hc4 B4
 obtain ⟨p0,-,-,-,-,-,p10,p11,-,-,-⟩:=hP4
 have h4:=h.below B4
 have z0:=qQ N
 have e3:(N.k==3)=false:=by rw [hk];rfl
 have e4:(N.k==4)=false:=by rw [hk];rfl
 have e5:(N.k==5)=true:=by rw [hk];rfl
 have e14:(N.k==14)=false:=by rw [hk];rfl
 have e15:(N.k==15)=false:=by rw [hk];rfl
 have e16:(N.k==16)=false:=by rw [hk];rfl
 have e10:(N.k==10)=false:=by rw [hk];rfl
 clear S0 hP BN hc0
 obtain ⟨A,B,C,e⟩:=ok_k5 ok hk
 have h0:0<N.ks.length:=by rw [e];simp
 have g0:N.ks[0]=A:=by simp [e]
 have r0:=zk N h0
 have d0:=zi N h0
 have ok0:=kE ok h0
 have ix0:=zR (ic:=kc) rfl O.ka h0
 rw [show ((0:Nat):Int)=0 from rfl] at ix0
 obtain ⟨c0,hc0,hN0⟩:=(NdsAt.below B4 O.kat).at h0
 have l0:=hN0.len
 rw [g0] at r0 hN0 d0 ok0
 have h1:1<N.ks.length:=by rw [e];simp
 have g1:N.ks[1]=B:=by simp [e]
 have r1:=zk N h1
 have d1:=zi N h1
 have ok1:=kE ok h1
 have ix1:=zR (ic:=kc) rfl O.ka h1
 rw [show ((1:Nat):Int)=1 from rfl] at ix1
 obtain ⟨c1,hc1,hN1⟩:=(NdsAt.below B4 O.kat).at h1
 have l1:=hN1.len
 rw [g1] at r1 hN1 d1 ok1
 have h2:2<N.ks.length:=by rw [e];simp
 have g2:N.ks[2]=C:=by simp [e]
 have r2:=zk N h2
 have d2:=zi N h2
 have ok2:=kE ok h2
 have ix2:=zR (ic:=kc) rfl O.ka h2
 rw [show ((2:Nat):Int)=2 from rfl] at ix2
 obtain ⟨c2,hc2,hN2⟩:=(NdsAt.below B4 O.kat).at h2
 have l2:=hN2.len
 rw [g2] at r2 hN2 d2 ok2
 rw [e] at z0
 simp only [sizK] at z0
 have hsh:shN litW N=par [4,5] (B.k,shN litW B)++(par [16] (A.k,shN litW A)++(par [] (C.k,shN litW C))):=by
  rw [kC,if_neg (by omega),if_neg (by omega),if_pos hk,vZ (j:=1) (show N.ks[1]?=some B by simp [e]),vZ (j:=0) (show N.ks[0]?=some A by simp [e]),vZ (j:=2) (show N.ks[2]?=some C by simp [e])]
 have hwh:pbr lv (shN litW N)=pbr lv (par [4,5] (B.k,shN litW B))++(pbr lv (par [16] (A.k,shN litW A))++(pbr lv (par [] (C.k,shN litW C)))):=by rw [hsh,qX (xg ok1),qX (xg ok0)]
 have ad0:=fun w' v l (g:Below W4.heap.size W4 w') (ho:OwnS W4.heap.size w' v l) (hl:l.length+8*siz B+2<=4000000)=>addR r ih W4 W4.heap.size (Nat.le_refl _) c1 B hN1 (by omega) ok1 [4,5] (some ⟨w.heap.size+1,0,none⟩) 2 2 lv (by omega) (by omega) w' v l g g.size ho (IntsAt.below i3 g) rfl hl
 have m0:=zy lv [4,5] B ok1
 obtain ⟨M0,hM0⟩:∃ M,pbr lv (par [4,5] (B.k,shN litW B))=M:=⟨_,rfl⟩
 simp only [hM0] at ad0 m0 hwh
 have ad1:=fun w' v l (g:Below W4.heap.size W4 w') (ho:OwnS W4.heap.size w' v l) (hl:l.length+8*siz A+2<=4000000)=>addR r ih W4 W4.heap.size (Nat.le_refl _) c0 A hN0 (by omega) ok0 [16] (some ⟨w.heap.size+1+1+1,0,none⟩) 1 1 lv (by omega) (by omega) w' v l g g.size ho (IntsAt.below i5 g) rfl hl
 have m1:=zy lv [16] A ok0
 obtain ⟨M1,hM1⟩:∃ M,pbr lv (par [16] (A.k,shN litW A))=M:=⟨_,rfl⟩
 simp only [hM1] at ad1 m1 hwh
 have ad2:=fun w' v l (g:Below W4.heap.size W4 w') (ho:OwnS W4.heap.size w' v l) (hl:l.length+8*siz C+2<=4000000)=>addR r ih W4 W4.heap.size (Nat.le_refl _) c2 C hN2 (by omega) ok2 [] none 0 0 lv (by omega) (by omega) w' v l g g.size ho (kt _) rfl hl
 have m2:=zy lv [] C ok2
 obtain ⟨M2,hM2⟩:∃ M,pbr lv (par [] (C.k,shN litW C))=M:=⟨_,rfl⟩
 simp only [hM2] at ad2 m2 hwh
 have HW:Hid (pbr lv (shN litW N)=[M0,M1,M2].flatten):=by unfold Hid;rw [hwh];simp
 have n0:([M0,M1,M2].take 0).flatten.length+8*siz B+2<=4000000:=by simp;omega
 have n1:([M0,M1,M2].take 1).flatten.length+8*siz A+2<=4000000:=by simp;omega
 have n2:([M0,M1,M2].take 2).flatten.length+8*siz C+2<=4000000:=by simp;omega
 clear e i3 i4 i5 hc4 h4 h ih hr p11 O lC hwh hsh ok hlv hsz z0 r0 d0 ok0 hN0 g0 r1 d1 ok1 hN1 g1 r2 d2 ok2 hN2 g2 hM0 m0 hM1 m1 hM2 m2
 go_enter Tryz.func56,Tryz.ntmps56
 go_upto_region 4 with fail
 try rw [hW4]
 clear hW4
 go_wp2_with fail
 refine zq (l:=[_,_,_,_,_,_,_,_,_,_,_,_,_,_,_,_,_,_,_,_,_]) (last:=_) rfl (by kernel_rfl) (fun _=>0) [7,14,20] [65,72,78] 21 200 58 [.slice none 0 0,.pointer (some ⟨w.heap.size,10,none⟩),.slice ka N.ks.length kc,.pointer (some ⟨kb,ko+1*15,none⟩),.agg c1.toArray,.slice (some ⟨w.heap.size+1,0,none⟩) 2 2,.int .i64 lv,undef,.pointer (some ⟨w.heap.size,10,none⟩),.slice ka N.ks.length kc,.pointer (some ⟨kb,ko+0*15,none⟩),.agg c0.toArray,.slice (some ⟨w.heap.size+1+1+1,0,none⟩) 1 1,.int .i64 lv,undef,.pointer (some ⟨w.heap.size,10,none⟩),.slice ka N.ks.length kc,.pointer (some ⟨kb,ko+2*15,none⟩),.agg c2.toArray,.int .i64 lv,undef] (fun g=>[.slice none 0 0,.pointer (some ⟨w.heap.size,10,none⟩),.slice ka N.ks.length kc,.pointer (some ⟨kb,ko+1*15,none⟩),.agg c1.toArray,.slice (some ⟨w.heap.size+1,0,none⟩) 2 2,.int .i64 lv,g 65,.pointer (some ⟨w.heap.size,10,none⟩),.slice ka N.ks.length kc,.pointer (some ⟨kb,ko+0*15,none⟩),.agg c0.toArray,.slice (some ⟨w.heap.size+1+1+1,0,none⟩) 1 1,.int .i64 lv,g 72,.pointer (some ⟨w.heap.size,10,none⟩),.slice ka N.ks.length kc,.pointer (some ⟨kb,ko+2*15,none⟩),.agg c2.toArray,.int .i64 lv,g 78]) (fun k g _ w'=>Chain W4 [M0,M1,M2] k (g ([65,72,78].getD (k - 1) 0)) w') (fun w'=>Below W4.heap.size W4 w') (Nat.le_of_ble_eq_true (by kernel_rfl)) (by kernel_rfl) (by kernel_rfl) rfl (by kernel_rfl) (by kernel_rfl) (by kernel_rfl) rfl (by kernel_rfl) (by kernel_rfl) (fun _ _ _ _ h=>h.1) (fun k g g' _ _ _ hg h=>⟨h.1,fun hk=>(hg (k - 1) (by omega)) ▸ h.2 hk⟩) ⟨(Below.refl _ _).drew,fun g=>absurd g (by decide)⟩ ?_ (fun g=>rfl) (by kernel_rfl) (by kernel_rfl) ?_
 ·intro hch
  refine ⟨?_,?_,?_,?_,?_,?_,?_,?_,?_,?_,?_,?_,?_,?_,?_,?_,?_,?_,?_,?_,?_,trivial⟩
  ·refine Step.look rfl rfl ?_
   intro a w' hS H
   have x8:a.tmps[8]?.getD undef=.slice none 0 0:=H 8 rfl rfl (by decide)
   refine ⟨trivial,fun K Q hK=>?_⟩
   go_simp
   exact hK.out
  ·refine Step.look rfl rfl ?_
   intro a w' hS H
   have x2:a.tmps[2]?.getD undef=.pointer (some ⟨w.heap.size,0,none⟩):=H 2 rfl rfl (by decide)
   refine ⟨trivial,fun K Q hK=>?_⟩
   go_simp
   exact hK.out
  ·refine Step.look rfl rfl ?_
   intro a w' hS H
   have x59:a.tmps[59]?.getD undef=.pointer (some ⟨w.heap.size,10,none⟩):=H 59 rfl rfl (by decide)
   have y10:=(hS.cell (zD p10)).trans p10
   refine ⟨trivial,fun K Q hK=>?_⟩
   go_simp
   exact hK.out
  ·refine Step.look rfl rfl ?_
   intro a w' hS H
   have x60:a.tmps[60]?.getD undef=.slice ka N.ks.length kc:=H 60 rfl rfl (by decide)
   refine ⟨trivial,fun K Q hK=>?_⟩
   go_simp
   exact hK.out
  ·refine Step.look rfl rfl ?_
   intro a w' hS H
   have x61:a.tmps[61]?.getD undef=.pointer (some ⟨kb,ko+1*15,none⟩):=H 61 rfl rfl (by decide)
   refine ⟨trivial,fun K Q hK=>?_⟩
   exact zc (hc1.below hS) l1 rfl (by rw [Array.getD_eq_getD_getElem?];exact x61) hK.out
  ·refine Step.look rfl rfl ?_
   intro a w' hS H
   have x5:a.tmps[5]?.getD undef=.slice (some ⟨w.heap.size+1,0,none⟩) 2 2:=H 5 rfl rfl (by decide)
   refine ⟨trivial,fun K Q hK=>?_⟩
   go_simp
   exact hK.out
  ·refine Step.look rfl rfl ?_
   intro a w' hS H
   have x1:a.tmps[1]?.getD undef=.int .i64 lv:=H 1 rfl rfl (by decide)
   refine ⟨trivial,fun K Q hK=>?_⟩
   go_simp
   exact hK.out
  ·refine Step.link hch 0 (by decide) rfl rfl ?_
   intro a w' x hS hx H K Q hK
   obtain ⟨hb1,ho1⟩:=hS
   have x62:a.tmps[62]?.getD undef=.agg c1.toArray:=H 62 rfl rfl (by decide)
   have x64:a.tmps[64]?.getD undef=.int .i64 lv:=H 64 rfl rfl (by decide)
   have x63:a.tmps[63]?.getD undef=.slice (some ⟨w.heap.size+1,0,none⟩) 2 2:=H 63 rfl rfl (by decide)
   have x58:a.tmps[58]?.getD undef=.slice none 0 0:=H 58 rfl rfl (by decide)
   have C:=ad0 w' _ [] hb1 (OwnS.none _ _) (by simpa using n0)
   go_simp
   go_at_call 36
   with_reducible refine C.mono ?_
   rintro e w3 ⟨v3,rfl,o3,b3⟩
   exact hK.out _ _ ⟨hb1.trans b3,fun _=>by simpa [upd] using o3⟩
  ·refine Step.look rfl rfl ?_
   intro a w' hS H
   have x2:a.tmps[2]?.getD undef=.pointer (some ⟨w.heap.size,0,none⟩):=H 2 rfl rfl (by decide)
   refine ⟨trivial,fun K Q hK=>?_⟩
   go_simp
   exact hK.out
  ·refine Step.look rfl rfl ?_
   intro a w' hS H
   have x66:a.tmps[66]?.getD undef=.pointer (some ⟨w.heap.size,10,none⟩):=H 66 rfl rfl (by decide)
   have y10:=(hS.cell (zD p10)).trans p10
   refine ⟨trivial,fun K Q hK=>?_⟩
   go_simp
   exact hK.out
  ·refine Step.look rfl rfl ?_
   intro a w' hS H
   have x67:a.tmps[67]?.getD undef=.slice ka N.ks.length kc:=H 67 rfl rfl (by decide)
   refine ⟨trivial,fun K Q hK=>?_⟩
   go_simp
   exact hK.out
  ·refine Step.look rfl rfl ?_
   intro a w' hS H
   have x68:a.tmps[68]?.getD undef=.pointer (some ⟨kb,ko+0*15,none⟩):=H 68 rfl rfl (by decide)
   refine ⟨trivial,fun K Q hK=>?_⟩
   exact zc (hc0.below hS) l0 rfl (by rw [Array.getD_eq_getD_getElem?];exact x68) hK.out
  ·refine Step.look rfl rfl ?_
   intro a w' hS H
   have x7:a.tmps[7]?.getD undef=.slice (some ⟨w.heap.size+1+1+1,0,none⟩) 1 1:=H 7 rfl rfl (by decide)
   refine ⟨trivial,fun K Q hK=>?_⟩
   go_simp
   exact hK.out
  ·refine Step.look rfl rfl ?_
   intro a w' hS H
   have x1:a.tmps[1]?.getD undef=.int .i64 lv:=H 1 rfl rfl (by decide)
   refine ⟨trivial,fun K Q hK=>?_⟩
   go_simp
   exact hK.out
  ·refine Step.link hch 1 (by decide) rfl rfl ?_
   intro a w' x hS hx H K Q hK
   obtain ⟨hb1,ho1⟩:=hS
   have x69:a.tmps[69]?.getD undef=.agg c0.toArray:=H 69 rfl rfl (by decide)
   have x71:a.tmps[71]?.getD undef=.int .i64 lv:=H 71 rfl rfl (by decide)
   have x70:a.tmps[70]?.getD undef=.slice (some ⟨w.heap.size+1+1+1,0,none⟩) 1 1:=H 70 rfl rfl (by decide)
   have ho1:=ho1 (by decide)
   have n1:=n1
   obtain ⟨L1,hL1⟩:∃ L1,(List.take 1 [M0,M1,M2]).flatten=L1:=⟨_,rfl⟩
   have HL:Hid ((List.take 1 [M0,M1,M2]).flatten=L1):=hL1
   replace ho1:OwnS W4.heap.size w' (a.tmps[65]?.getD undef) L1:=hL1 ▸ ho1
   rw [hL1] at n1
   clear hL1
   obtain ⟨aa,cc,x65⟩:∃ aa cc,a.tmps[65]?.getD undef=.slice aa _ cc:=ho1.form
   replace ho1:=x65 ▸ ho1
   have C:=ad1 w' _ _ hb1 ho1 n1
   go_simp
   go_at_call 36
   with_reducible refine C.mono ?_
   rintro e w3 ⟨v3,rfl,o3,b3⟩
   exact hK.out _ _ ⟨hb1.trans b3,fun _=>by rw [<- HL.out] at o3;simpa [upd] using o3⟩
  ·refine Step.look rfl rfl ?_
   intro a w' hS H
   have x2:a.tmps[2]?.getD undef=.pointer (some ⟨w.heap.size,0,none⟩):=H 2 rfl rfl (by decide)
   refine ⟨trivial,fun K Q hK=>?_⟩
   go_simp
   exact hK.out
  ·refine Step.look rfl rfl ?_
   intro a w' hS H
   have x73:a.tmps[73]?.getD undef=.pointer (some ⟨w.heap.size,10,none⟩):=H 73 rfl rfl (by decide)
   have y10:=(hS.cell (zD p10)).trans p10
   refine ⟨trivial,fun K Q hK=>?_⟩
   go_simp
   exact hK.out
  ·refine Step.look rfl rfl ?_
   intro a w' hS H
   have x74:a.tmps[74]?.getD undef=.slice ka N.ks.length kc:=H 74 rfl rfl (by decide)
   refine ⟨trivial,fun K Q hK=>?_⟩
   go_simp
   exact hK.out
  ·refine Step.look rfl rfl ?_
   intro a w' hS H
   have x75:a.tmps[75]?.getD undef=.pointer (some ⟨kb,ko+2*15,none⟩):=H 75 rfl rfl (by decide)
   refine ⟨trivial,fun K Q hK=>?_⟩
   exact zc (hc2.below hS) l2 rfl (by rw [Array.getD_eq_getD_getElem?];exact x75) hK.out
  ·refine Step.look rfl rfl ?_
   intro a w' hS H
   have x1:a.tmps[1]?.getD undef=.int .i64 lv:=H 1 rfl rfl (by decide)
   refine ⟨trivial,fun K Q hK=>?_⟩
   go_simp
   exact hK.out
  ·refine Step.link hch 2 (by decide) rfl rfl ?_
   intro a w' x hS hx H K Q hK
   obtain ⟨hb1,ho1⟩:=hS
   have x76:a.tmps[76]?.getD undef=.agg c2.toArray:=H 76 rfl rfl (by decide)
   have x77:a.tmps[77]?.getD undef=.int .i64 lv:=H 77 rfl rfl (by decide)
   have ho1:=ho1 (by decide)
   have n2:=n2
   obtain ⟨L1,hL1⟩:∃ L1,(List.take 2 [M0,M1,M2]).flatten=L1:=⟨_,rfl⟩
   have HL:Hid ((List.take 2 [M0,M1,M2]).flatten=L1):=hL1
   replace ho1:OwnS W4.heap.size w' (a.tmps[72]?.getD undef) L1:=hL1 ▸ ho1
   rw [hL1] at n2
   clear hL1
   obtain ⟨aa,cc,x72⟩:∃ aa cc,a.tmps[72]?.getD undef=.slice aa _ cc:=ho1.form
   replace ho1:=x72 ▸ ho1
   have C:=ad2 w' _ _ hb1 ho1 n2
   go_simp
   go_at_call 36
   with_reducible refine C.mono ?_
   rintro e w3 ⟨v3,rfl,o3,b3⟩
   exact hK.out _ _ ⟨hb1.trans b3,fun _=>by rw [<- HL.out] at o3;simpa [upd] using o3⟩
 ·intro g x w' hS
  obtain ⟨hb1,ho1⟩:=hS
  have ho1:OwnS W4.heap.size w' (g 78) [M0,M1,M2].flatten:=ho1 (by decide)
  obtain ⟨LF,hLF⟩:∃ LF,[M0,M1,M2].flatten=LF:=⟨_,rfl⟩
  rw [hLF] at ho1
  have HW2:Hid (pbr lv (shN litW N)=LF):=HW.out.trans hLF
  clear hLF HW
  obtain ⟨aa,cc,ev⟩:∃ aa cc,g 78=.slice aa _ cc:=ho1.form
  have ho2:=ev ▸ ho1
  simp only [ev,List.take_succ_cons,List.take_zero,List.drop_succ_cons,List.drop_zero,List.cons_append,List.nil_append,List.length_cons,List.length_nil,Nat.reduceAdd]
  have bf:=Below.then B4 hb1
  have HO:Hid (OwnS w.heap.size w' (.slice aa LF.length cc) LF):=ho2.base B4.size
  clear ho1 ho2
  go_simp
  go_wp2_with fail
  go_ret
  exact ⟨_,rfl,by rw [HW2.out];exact HO.out,bf⟩
theorem parts_k15 (r:Nat) (ih:xD r) (cs:List Value) (N:Nd) (w:World) (lv:Nat) (hr:rkN N<r+1) (ok:okN N=true) (hlv:lv+dep N<=100000) (hsz:siz N<=200000) (h:NdV w cs N) (hk:N.k=15) :
  Calls Tryz.prog 56 #[.agg cs.toArray,.int .i64 lv] w (qn w.heap.size w (pbr lv (shN litW N))):=by
 obtain ⟨v0,v1,v2,v3,ka,kc,ba,bc,kb,ko,bb,bo,O⟩:=h.open
 have lC:=h.len
 have hk1:N.ks.length<=9223372036854775807:=by have:=O.kl;omega
 have hk2:N.bd.length<=9223372036854775807:=by have:=O.bl;omega
 have BN:=below_new w (.cells cs.toArray 40)
 have hP:=O.nf (zL w cs 40)
 have hc0:=zL w cs 40
 obtain ⟨S0,i3,i4,i5⟩:=kZ w (.cells cs.toArray 40)
 have hP4:=hP.below S0
 have hc4:=hc0.below S0
 have B4:=Below.then BN S0
 obtain ⟨W4,hW4⟩:∃ W4,((((w.alloc (.cells cs.toArray 40)).alloc (.cells #[.int .i64 4,.int .i64 5] 29)).alloc (.cells #[.int .i64 3,.int .i64 4,.int .i64 5] 29)).alloc (.cells #[.int .i64 16] 29))=W4:=⟨_,rfl⟩
 rw [hW4] at i3 i4 i5 hP4 hc4 B4
 obtain ⟨p0,-,-,-,-,-,p10,p11,-,-,-⟩:=hP4
 have h4:=h.below B4
 have z0:=qQ N
 have e3:(N.k==3)=false:=by rw [hk];rfl
 have e4:(N.k==4)=false:=by rw [hk];rfl
 have e5:(N.k==5)=false:=by rw [hk];rfl
 have e14:(N.k==14)=false:=by rw [hk];rfl
 have e15:(N.k==15)=true:=by rw [hk];rfl
 have e16:(N.k==16)=false:=by rw [hk];rfl
 have e10:(N.k==10)=false:=by rw [hk];rfl
 clear S0 hP BN hc0
 obtain ⟨A,B,C,e⟩:=ok_k15 ok hk
 have i6:=xR W4 [16,14,15,3,4,5] (by simp) (by simp)
 have S5:=below_new W4 (.cells #[.int .i64 16,.int .i64 14,.int .i64 15,.int .i64 3,.int .i64 4,.int .i64 5] 29)
 have B5:=Below.then B4 S5
 have i5:=IntsAt.below i5 S5
 have q10:=(S5.cell (zD p10)).trans p10
 have h0:0<N.ks.length:=by rw [e];simp
 have g0:N.ks[0]=A:=by simp [e]
 have r0:=zk N h0
 have d0:=zi N h0
 have ok0:=kE ok h0
 have ix0:=zR (ic:=kc) rfl O.ka h0
 rw [show ((0:Nat):Int)=0 from rfl] at ix0
 obtain ⟨c0,hc0,hN0⟩:=(NdsAt.below B5 O.kat).at h0
 have l0:=hN0.len
 rw [g0] at r0 hN0 d0 ok0
 have h1:1<N.ks.length:=by rw [e];simp
 have g1:N.ks[1]=B:=by simp [e]
 have r1:=zk N h1
 have d1:=zi N h1
 have ok1:=kE ok h1
 have ix1:=zR (ic:=kc) rfl O.ka h1
 rw [show ((1:Nat):Int)=1 from rfl] at ix1
 obtain ⟨c1,hc1,hN1⟩:=(NdsAt.below B5 O.kat).at h1
 have l1:=hN1.len
 rw [g1] at r1 hN1 d1 ok1
 have h2:2<N.ks.length:=by rw [e];simp
 have g2:N.ks[2]=C:=by simp [e]
 have r2:=zk N h2
 have d2:=zi N h2
 have ok2:=kE ok h2
 have ix2:=zR (ic:=kc) rfl O.ka h2
 rw [show ((2:Nat):Int)=2 from rfl] at ix2
 obtain ⟨c2,hc2,hN2⟩:=(NdsAt.below B5 O.kat).at h2
 have l2:=hN2.len
 rw [g2] at r2 hN2 d2 ok2
 obtain ⟨W5,hW5⟩:∃ W5,W4.alloc (.cells #[.int .i64 16,.int .i64 14,.int .i64 15,.int .i64 3,.int .i64 4,.int .i64 5] 29)=W5:=⟨_,rfl⟩
 replace i6:IntsAt W5 (some ⟨W4.heap.size,0,none⟩) 6 [16,14,15,3,4,5]:=hW5 ▸ i6
 rw [hW5] at i5 q10 B5 S5 hc0 hN0 hc1 hN1 hc2 hN2
 obtain ⟨a6,ha6⟩:∃ a6,W4.heap.size=a6:=⟨_,rfl⟩
 rw [ha6] at i6
 rw [e] at z0
 simp only [sizK] at z0
 have hsh:shN litW N=par [16] (B.k,shN litW B)++(par [] (A.k,shN litW A)++(par [3,4,5,16,14,15] (C.k,shN litW C))):=by
  rw [kC,if_neg (by omega),if_neg (by omega),if_neg (by omega),if_neg (by omega),if_neg (by omega),if_pos hk,vZ (j:=1) (show N.ks[1]?=some B by simp [e]),vZ (j:=0) (show N.ks[0]?=some A by simp [e]),vZ (j:=2) (show N.ks[2]?=some C by simp [e])]
 have hwh:pbr lv (shN litW N)=pbr lv (par [16] (B.k,shN litW B))++(pbr lv (par [] (A.k,shN litW A))++(pbr lv (par [3,4,5,16,14,15] (C.k,shN litW C)))):=by rw [hsh,qX (xg ok1),qX (xg ok0)]
 rw [<- par_six] at hwh
 have ad0:=fun w' v l (g:Below W5.heap.size W5 w') (ho:OwnS W5.heap.size w' v l) (hl:l.length+8*siz B+2<=4000000)=>addR r ih W5 W5.heap.size (Nat.le_refl _) c1 B hN1 (by omega) ok1 [16] (some ⟨w.heap.size+1+1+1,0,none⟩) 1 1 lv (by omega) (by omega) w' v l g g.size ho (IntsAt.below i5 g) rfl hl
 have m0:=zy lv [16] B ok1
 obtain ⟨M0,hM0⟩:∃ M,pbr lv (par [16] (B.k,shN litW B))=M:=⟨_,rfl⟩
 simp only [hM0] at ad0 m0 hwh
 have ad1:=fun w' v l (g:Below W5.heap.size W5 w') (ho:OwnS W5.heap.size w' v l) (hl:l.length+8*siz A+2<=4000000)=>addR r ih W5 W5.heap.size (Nat.le_refl _) c0 A hN0 (by omega) ok0 [] none 0 0 lv (by omega) (by omega) w' v l g g.size ho (kt _) rfl hl
 have m1:=zy lv [] A ok0
 obtain ⟨M1,hM1⟩:∃ M,pbr lv (par [] (A.k,shN litW A))=M:=⟨_,rfl⟩
 simp only [hM1] at ad1 m1 hwh
 have ad2:=fun w' v l (g:Below W5.heap.size W5 w') (ho:OwnS W5.heap.size w' v l) (hl:l.length+8*siz C+2<=4000000)=>addR r ih W5 W5.heap.size (Nat.le_refl _) c2 C hN2 (by omega) ok2 [16,14,15,3,4,5] (some ⟨a6,0,none⟩) 6 6 lv (by omega) (by omega) w' v l g g.size ho (IntsAt.below i6 g) rfl hl
 have m2:=zy lv [16,14,15,3,4,5] C ok2
 obtain ⟨M2,hM2⟩:∃ M,pbr lv (par [16,14,15,3,4,5] (C.k,shN litW C))=M:=⟨_,rfl⟩
 simp only [hM2] at ad2 m2 hwh
 have HW:Hid (pbr lv (shN litW N)=[M0,M1,M2].flatten):=by unfold Hid;rw [hwh];simp
 have n0:([M0,M1,M2].take 0).flatten.length+8*siz B+2<=4000000:=by simp;omega
 have n1:([M0,M1,M2].take 1).flatten.length+8*siz A+2<=4000000:=by simp;omega
 have n2:([M0,M1,M2].take 2).flatten.length+8*siz C+2<=4000000:=by simp;omega
 clear e i3 i4 i5 hc4 h4 h ih hr p11 O lC hwh hsh ok hlv hsz z0 r0 d0 ok0 hN0 g0 r1 d1 ok1 hN1 g1 r2 d2 ok2 hN2 g2 hM0 m0 hM1 m1 hM2 m2 i6 S5
 go_enter Tryz.func56,Tryz.ntmps56
 go_upto_region 4 with fail
 try rw [hW4]
 clear hW4
 go_wp2_with fail
 try rw [hW5]
 try rw [ha6]
 clear hW5 ha6
 refine zq (l:=[_,_,_,_,_,_,_,_,_,_,_,_,_,_,_,_,_,_,_,_,_]) (last:=_) rfl (by kernel_rfl) (fun _=>0) [7,13,20] [105,111,118] 21 200 98 [.slice none 0 0,.pointer (some ⟨w.heap.size,10,none⟩),.slice ka N.ks.length kc,.pointer (some ⟨kb,ko+1*15,none⟩),.agg c1.toArray,.slice (some ⟨w.heap.size+1+1+1,0,none⟩) 1 1,.int .i64 lv,undef,.pointer (some ⟨w.heap.size,10,none⟩),.slice ka N.ks.length kc,.pointer (some ⟨kb,ko+0*15,none⟩),.agg c0.toArray,.int .i64 lv,undef,.pointer (some ⟨w.heap.size,10,none⟩),.slice ka N.ks.length kc,.pointer (some ⟨kb,ko+2*15,none⟩),.agg c2.toArray,.slice (some ⟨a6,0,none⟩) 6 6,.int .i64 lv,undef] (fun g=>[.slice none 0 0,.pointer (some ⟨w.heap.size,10,none⟩),.slice ka N.ks.length kc,.pointer (some ⟨kb,ko+1*15,none⟩),.agg c1.toArray,.slice (some ⟨w.heap.size+1+1+1,0,none⟩) 1 1,.int .i64 lv,g 105,.pointer (some ⟨w.heap.size,10,none⟩),.slice ka N.ks.length kc,.pointer (some ⟨kb,ko+0*15,none⟩),.agg c0.toArray,.int .i64 lv,g 111,.pointer (some ⟨w.heap.size,10,none⟩),.slice ka N.ks.length kc,.pointer (some ⟨kb,ko+2*15,none⟩),.agg c2.toArray,.slice (some ⟨a6,0,none⟩) 6 6,.int .i64 lv,g 118]) (fun k g _ w'=>Chain W5 [M0,M1,M2] k (g ([105,111,118].getD (k - 1) 0)) w') (fun w'=>Below W5.heap.size W5 w') (Nat.le_of_ble_eq_true (by kernel_rfl)) (by kernel_rfl) (by kernel_rfl) rfl (by kernel_rfl) (by kernel_rfl) (by kernel_rfl) rfl (by kernel_rfl) (by kernel_rfl) (fun _ _ _ _ h=>h.1) (fun k g g' _ _ _ hg h=>⟨h.1,fun hk=>(hg (k - 1) (by omega)) ▸ h.2 hk⟩) ⟨(Below.refl _ _).drew,fun g=>absurd g (by decide)⟩ ?_ (fun g=>rfl) (by kernel_rfl) (by kernel_rfl) ?_
 ·intro hch
  refine ⟨?_,?_,?_,?_,?_,?_,?_,?_,?_,?_,?_,?_,?_,?_,?_,?_,?_,?_,?_,?_,?_,trivial⟩
  ·refine Step.look rfl rfl ?_
   intro a w' hS H
   have x8:a.tmps[8]?.getD undef=.slice none 0 0:=H 8 rfl rfl (by decide)
   refine ⟨trivial,fun K Q hK=>?_⟩
   go_simp
   exact hK.out
  ·refine Step.look rfl rfl ?_
   intro a w' hS H
   have x2:a.tmps[2]?.getD undef=.pointer (some ⟨w.heap.size,0,none⟩):=H 2 rfl rfl (by decide)
   refine ⟨trivial,fun K Q hK=>?_⟩
   go_simp
   exact hK.out
  ·refine Step.look rfl rfl ?_
   intro a w' hS H
   have x99:a.tmps[99]?.getD undef=.pointer (some ⟨w.heap.size,10,none⟩):=H 99 rfl rfl (by decide)
   have y10:=(hS.cell (zD q10)).trans q10
   refine ⟨trivial,fun K Q hK=>?_⟩
   go_simp
   exact hK.out
  ·refine Step.look rfl rfl ?_
   intro a w' hS H
   have x100:a.tmps[100]?.getD undef=.slice ka N.ks.length kc:=H 100 rfl rfl (by decide)
   refine ⟨trivial,fun K Q hK=>?_⟩
   go_simp
   exact hK.out
  ·refine Step.look rfl rfl ?_
   intro a w' hS H
   have x101:a.tmps[101]?.getD undef=.pointer (some ⟨kb,ko+1*15,none⟩):=H 101 rfl rfl (by decide)
   refine ⟨trivial,fun K Q hK=>?_⟩
   exact zc (hc1.below hS) l1 rfl (by rw [Array.getD_eq_getD_getElem?];exact x101) hK.out
  ·refine Step.look rfl rfl ?_
   intro a w' hS H
   have x7:a.tmps[7]?.getD undef=.slice (some ⟨w.heap.size+1+1+1,0,none⟩) 1 1:=H 7 rfl rfl (by decide)
   refine ⟨trivial,fun K Q hK=>?_⟩
   go_simp
   exact hK.out
  ·refine Step.look rfl rfl ?_
   intro a w' hS H
   have x1:a.tmps[1]?.getD undef=.int .i64 lv:=H 1 rfl rfl (by decide)
   refine ⟨trivial,fun K Q hK=>?_⟩
   go_simp
   exact hK.out
  ·refine Step.link hch 0 (by decide) rfl rfl ?_
   intro a w' x hS hx H K Q hK
   obtain ⟨hb1,ho1⟩:=hS
   have x102:a.tmps[102]?.getD undef=.agg c1.toArray:=H 102 rfl rfl (by decide)
   have x104:a.tmps[104]?.getD undef=.int .i64 lv:=H 104 rfl rfl (by decide)
   have x103:a.tmps[103]?.getD undef=.slice (some ⟨w.heap.size+1+1+1,0,none⟩) 1 1:=H 103 rfl rfl (by decide)
   have x98:a.tmps[98]?.getD undef=.slice none 0 0:=H 98 rfl rfl (by decide)
   have C:=ad0 w' _ [] hb1 (OwnS.none _ _) (by simpa using n0)
   go_simp
   go_at_call 36
   with_reducible refine C.mono ?_
   rintro e w3 ⟨v3,rfl,o3,b3⟩
   exact hK.out _ _ ⟨hb1.trans b3,fun _=>by simpa [upd] using o3⟩
  ·refine Step.look rfl rfl ?_
   intro a w' hS H
   have x2:a.tmps[2]?.getD undef=.pointer (some ⟨w.heap.size,0,none⟩):=H 2 rfl rfl (by decide)
   refine ⟨trivial,fun K Q hK=>?_⟩
   go_simp
   exact hK.out
  ·refine Step.look rfl rfl ?_
   intro a w' hS H
   have x106:a.tmps[106]?.getD undef=.pointer (some ⟨w.heap.size,10,none⟩):=H 106 rfl rfl (by decide)
   have y10:=(hS.cell (zD q10)).trans q10
   refine ⟨trivial,fun K Q hK=>?_⟩
   go_simp
   exact hK.out
  ·refine Step.look rfl rfl ?_
   intro a w' hS H
   have x107:a.tmps[107]?.getD undef=.slice ka N.ks.length kc:=H 107 rfl rfl (by decide)
   refine ⟨trivial,fun K Q hK=>?_⟩
   go_simp
   exact hK.out
  ·refine Step.look rfl rfl ?_
   intro a w' hS H
   have x108:a.tmps[108]?.getD undef=.pointer (some ⟨kb,ko+0*15,none⟩):=H 108 rfl rfl (by decide)
   refine ⟨trivial,fun K Q hK=>?_⟩
   exact zc (hc0.below hS) l0 rfl (by rw [Array.getD_eq_getD_getElem?];exact x108) hK.out
  ·refine Step.look rfl rfl ?_
   intro a w' hS H
   have x1:a.tmps[1]?.getD undef=.int .i64 lv:=H 1 rfl rfl (by decide)
   refine ⟨trivial,fun K Q hK=>?_⟩
   go_simp
   exact hK.out
  ·refine Step.link hch 1 (by decide) rfl rfl ?_
   intro a w' x hS hx H K Q hK
   obtain ⟨hb1,ho1⟩:=hS
   have x109:a.tmps[109]?.getD undef=.agg c0.toArray:=H 109 rfl rfl (by decide)
   have x110:a.tmps[110]?.getD undef=.int .i64 lv:=H 110 rfl rfl (by decide)
   have ho1:=ho1 (by decide)
   have n1:=n1
   obtain ⟨L1,hL1⟩:∃ L1,(List.take 1 [M0,M1,M2]).flatten=L1:=⟨_,rfl⟩
   have HL:Hid ((List.take 1 [M0,M1,M2]).flatten=L1):=hL1
   replace ho1:OwnS W5.heap.size w' (a.tmps[105]?.getD undef) L1:=hL1 ▸ ho1
   rw [hL1] at n1
   clear hL1
   obtain ⟨aa,cc,x105⟩:∃ aa cc,a.tmps[105]?.getD undef=.slice aa _ cc:=ho1.form
   replace ho1:=x105 ▸ ho1
   have C:=ad1 w' _ _ hb1 ho1 n1
   go_simp
   go_at_call 36
   with_reducible refine C.mono ?_
   rintro e w3 ⟨v3,rfl,o3,b3⟩
   exact hK.out _ _ ⟨hb1.trans b3,fun _=>by rw [<- HL.out] at o3;simpa [upd] using o3⟩
  ·refine Step.look rfl rfl ?_
   intro a w' hS H
   have x2:a.tmps[2]?.getD undef=.pointer (some ⟨w.heap.size,0,none⟩):=H 2 rfl rfl (by decide)
   refine ⟨trivial,fun K Q hK=>?_⟩
   go_simp
   exact hK.out
  ·refine Step.look rfl rfl ?_
   intro a w' hS H
   have x112:a.tmps[112]?.getD undef=.pointer (some ⟨w.heap.size,10,none⟩):=H 112 rfl rfl (by decide)
   have y10:=(hS.cell (zD q10)).trans q10
   refine ⟨trivial,fun K Q hK=>?_⟩
   go_simp
   exact hK.out
  ·refine Step.look rfl rfl ?_
   intro a w' hS H
   have x113:a.tmps[113]?.getD undef=.slice ka N.ks.length kc:=H 113 rfl rfl (by decide)
   refine ⟨trivial,fun K Q hK=>?_⟩
   go_simp
   exact hK.out
  ·refine Step.look rfl rfl ?_
   intro a w' hS H
   have x114:a.tmps[114]?.getD undef=.pointer (some ⟨kb,ko+2*15,none⟩):=H 114 rfl rfl (by decide)
   refine ⟨trivial,fun K Q hK=>?_⟩
   exact zc (hc2.below hS) l2 rfl (by rw [Array.getD_eq_getD_getElem?];exact x114) hK.out
  ·refine Step.look rfl rfl ?_
   intro a w' hS H
   have x10:a.tmps[10]?.getD undef=.slice (some ⟨a6,0,none⟩) 6 6:=H 10 rfl rfl (by decide)
   refine ⟨trivial,fun K Q hK=>?_⟩
   go_simp
   exact hK.out
  ·refine Step.look rfl rfl ?_
   intro a w' hS H
   have x1:a.tmps[1]?.getD undef=.int .i64 lv:=H 1 rfl rfl (by decide)
   refine ⟨trivial,fun K Q hK=>?_⟩
   go_simp
   exact hK.out
  ·refine Step.link hch 2 (by decide) rfl rfl ?_
   intro a w' x hS hx H K Q hK
   obtain ⟨hb1,ho1⟩:=hS
   have x115:a.tmps[115]?.getD undef=.agg c2.toArray:=H 115 rfl rfl (by decide)
   have x117:a.tmps[117]?.getD undef=.int .i64 lv:=H 117 rfl rfl (by decide)
   have x116:a.tmps[116]?.getD undef=.slice (some ⟨a6,0,none⟩) 6 6:=H 116 rfl rfl (by decide)
   have ho1:=ho1 (by decide)
   have n2:=n2
   obtain ⟨L1,hL1⟩:∃ L1,(List.take 2 [M0,M1,M2]).flatten=L1:=⟨_,rfl⟩
   have HL:Hid ((List.take 2 [M0,M1,M2]).flatten=L1):=hL1
   replace ho1:OwnS W5.heap.size w' (a.tmps[111]?.getD undef) L1:=hL1 ▸ ho1
   rw [hL1] at n2
   clear hL1
   obtain ⟨aa,cc,x111⟩:∃ aa cc,a.tmps[111]?.getD undef=.slice aa _ cc:=ho1.form
   replace ho1:=x111 ▸ ho1
   have C:=ad2 w' _ _ hb1 ho1 n2
   go_simp
   go_at_call 36
   with_reducible refine C.mono ?_
   rintro e w3 ⟨v3,rfl,o3,b3⟩
   exact hK.out _ _ ⟨hb1.trans b3,fun _=>by rw [<- HL.out] at o3;simpa [upd] using o3⟩
 ·intro g x w' hS
  obtain ⟨hb1,ho1⟩:=hS
  have ho1:OwnS W5.heap.size w' (g 118) [M0,M1,M2].flatten:=ho1 (by decide)
  obtain ⟨LF,hLF⟩:∃ LF,[M0,M1,M2].flatten=LF:=⟨_,rfl⟩
  rw [hLF] at ho1
  have HW2:Hid (pbr lv (shN litW N)=LF):=HW.out.trans hLF
  clear hLF HW
  obtain ⟨aa,cc,ev⟩:∃ aa cc,g 118=.slice aa _ cc:=ho1.form
  have ho2:=ev ▸ ho1
  simp only [ev,List.take_succ_cons,List.take_zero,List.drop_succ_cons,List.drop_zero,List.cons_append,List.nil_append,List.length_cons,List.length_nil,Nat.reduceAdd]
  have bf:=Below.then B5 hb1
  have HO:Hid (OwnS w.heap.size w' (.slice aa LF.length cc) LF):=ho2.base B5.size
  clear ho1 ho2
  go_simp
  go_wp2_with fail
  go_ret
  exact ⟨_,rfl,by rw [HW2.out];exact HO.out,bf⟩
end Go.Proofs.YtmfhdcpajgjgpaaGreatDoor.Syn
