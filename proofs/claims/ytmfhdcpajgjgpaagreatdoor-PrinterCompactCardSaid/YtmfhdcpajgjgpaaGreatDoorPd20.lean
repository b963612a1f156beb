/-
  Layer 10: the reference's Depth.
  Layer 10: the reference's count and counts. (Written by wip/gen/syn-r2.py.)
  Layer 10: the reference's RightNode, Right, Size. (Written by wip/gen/syn-r12.py.)
-/
import Derived.Test.YtmfhdcpajgjgpaaGreatDoorPd4
import Derived.StillTailTactics
import Derived.Test.YtmfhdcpajgjgpaaGreatDoorPd17
set_option maxHeartbeats 8000000
namespace Go.Proofs.YtmfhdcpajgjgpaaGreatDoor.Syn
open Go.RowKit Go.Proofs.YtmfhdcpajgjgpaaGreatDoor.Shape
set_option linter.unusedVariables false
set_option linter.unusedSimpArgs false
def depM (x:Nat) (m:Nat):Nat:=min x (m+1)
theorem dep_stop (x:Nat) (h:1<=x):depM x 0=1:=by unfold depM;omega
theorem dep_end {a b m:Nat}:min (max a b) (m+1)+1=depM (max a b+1) (m+1):=by unfold depM;omega
set_option maxRecDepth 100000 in
theorem depthR_any (n:Nat):∀ (cs:List Value) (N:Nd) (m:Nat) (w:World),rkN N<=n->m<=1000->NdV w cs N ->
  Calls Tryz.prog 31 #[.agg cs.toArray,.int .i64 m] w fun e w'=>e=.returned (.int .i64 (depM (dep N) m:Nat))/\Below w.heap.size w w':=by
 induction n with
 | zero=>intro cs N m w hn;have:=qL N;omega
 | succ n ih =>
  intro cs N m w hn hm h
  obtain ⟨v0,v1,v2,v3,ka,kc,ba,bc,kb,ko,bb,bo,O⟩:=h.open
  have he:=O.eq
  subst he
  have hP:=NPar.new w [.int .i64 N.k,.int .i64 N.a,.int .i64 N.c,.string N.t,.int .i64 N.p,.int .i64 N.o,v0,v1,v2,v3,.slice ka N.ks.length kc,.slice ba N.bd.length bc,.int .i64 N.d,.int .i64 N.s,.int .i64 N.z] 40
  have BN:=below_new w (.cells [.int .i64 N.k,.int .i64 N.a,.int .i64 N.c,.string N.t,.int .i64 N.p,.int .i64 N.o,v0,v1,v2,v3,.slice ka N.ks.length kc,.slice ba N.bd.length bc,.int .i64 N.d,.int .i64 N.s,.int .i64 N.z].toArray 40)
  have kl:=O.kl
  have bl:=O.bl
  cases m with
  | zero =>
   have HE:Hid (depM (dep N) 0=1):=dep_stop _ (dep_pos N)
   rw [HE.out]
   clear ih
   go_enter Tryz.func31,Tryz.ntmps31
   go_wp2
   go_ret
   exact ⟨rfl,BN⟩
  | succ m =>
   have hm1:((m+1:Nat):Int) =(m:Int)+1:=by omega
   have HE:Hid (depM (dep N) (m+1)=min (max (depK N.ks) (depB N.bd)) (m+1)+1):=by unfold Hid;rw [vD,dep_end]
   go_enter Tryz.func31,Tryz.ntmps31
   go_wp2
   go_loopw [5,6] (fun d i wr=>∃ (j D:Nat),j<=N.ks.length/\i=.int .i64 j/\d=.int .i64 D/\Hid (D=min (depK (N.ks.take j)) (m+1))/\D<=1001/\NPar wr w.heap.size [.int .i64 N.k,.int .i64 N.a,.int .i64 N.c,.string N.t,.int .i64 N.p,.int .i64 N.o,v0,v1,v2,v3,.slice ka N.ks.length kc,.slice ba N.bd.length bc,.int .i64 N.d,.int .i64 N.s,.int .i64 N.z]/\Below w.heap.size w wr) (fun _ i _=>N.ks.length - (intOf i).toNat)
   case atStart=>exact ⟨0,0,Nat.zero_le _,rfl,rfl,by unfold Hid;simp [depK],by omega,hP,BN⟩
   case round =>
    obtain ⟨j,D,hj,rfl,rfl,hD,hD1,hp,hb⟩:=hrel
    obtain ⟨p0,p1,p2,p3,p4,p5,p6,p7,p8,p9,p10,p11,p12,p13,p14⟩:=hp.fip
    by_cases hlt:j<N.ks.length
    ·have hi:=zR (ic:=kc) rfl O.ka hlt
     obtain ⟨cs,hc,hN⟩:=(NdsAt.below hb O.kat).at hlt
     obtain ⟨c0,c1,c2,c3,c4,c5,c6,c7,c8,c9,c10,c11,c12,c13,c14,rfl⟩:=kI hN.len
     obtain ⟨m0,m1,m2,m3,m4,m5,m6,m7,m8,m9,m10,m11,m12,m13,m14⟩:=hc.fif
     have hrk:rkN N.ks[j]<=n:=by have:=zk N hlt;omega
     have IH:=ih _ N.ks[j] m wr hrk (by omega) hN
     clear ih
     have HS:Hid (depK (N.ks.take (j+1))=max (depK (N.ks.take j)) (dep N.ks[j])):=depK_step hlt
     obtain ⟨X,hX,hX1⟩:∃ X,Hid (depM (dep N.ks[j]) m=X)/\X<=1001:=⟨depM (dep N.ks[j]) m,by unfold Hid;rfl,by unfold depM;omega⟩
     rw [hX.out] at IH
     go_wp2_with (go_at_call 31;refine IH.mono ?_;rintro e w2 ⟨rfl,hb2⟩)
     all_goals go_roundw
     all_goals first
      | exact ⟨j+1,by omega,by go_num,_,rfl,by have h1:=hD.out;have h2:=hX.out;unfold Hid;rw [HS.out];unfold depM at h2;omega,by omega,hp.below hb2,Below.then hb hb2⟩
      |(simp [intOf];omega)
    ·obtain rfl:j=N.ks.length:=by omega
     rw [List.take_length] at hD
     clear p0 p1 p2 p3 p4 p5 p6 p7 p8 p9 p10 p11 p12 p13 p14
     have hp':=hp.fip
     obtain ⟨-,-,-,-,-,-,-,-,-,-,p10,p11,-,-,-⟩:=hp'
     go_wp2_with fail
     go_loopw [5,7] (fun d i wr=>∃ (j D:Nat),j<=N.bd.length/\i=.int .i64 j/\d=.int .i64 D/\Hid (D=min (max (depK N.ks) (depB (N.bd.take j))) (m+1))/\D<=1001/\NPar wr w.heap.size [.int .i64 N.k,.int .i64 N.a,.int .i64 N.c,.string N.t,.int .i64 N.p,.int .i64 N.o,v0,v1,v2,v3,.slice ka N.ks.length kc,.slice ba N.bd.length bc,.int .i64 N.d,.int .i64 N.s,.int .i64 N.z]/\Below w.heap.size w wr) (fun _ i _=>N.bd.length - (intOf i).toNat)
     case atStart=>exact ⟨0,D,Nat.zero_le _,rfl,rfl,by unfold Hid;rw [hD.out];simp [depB],hD1,hp,hb⟩
     case round =>
      clear hD hD1 hp hb p10 p11
      obtain ⟨j,D,hj,rfl,rfl,hD,hD1,hp,hb⟩:=hrel
      obtain ⟨-,-,-,-,-,-,-,-,-,-,p10,p11,-,-,-⟩:=hp.fip
      by_cases hlt:j<N.bd.length
      ·have hi:=zg (ic:=bc) rfl O.ba hlt
       have hS:=(StsAt.below hb O.bat).at hlt
       have hS0:=hS.head.1
       obtain ⟨cs,hc,hN⟩:=hS.node
       obtain ⟨c0,c1,c2,c3,c4,c5,c6,c7,c8,c9,c10,c11,c12,c13,c14,rfl⟩:=kI hN.len
       obtain ⟨m0,m1,m2,m3,m4,m5,m6,m7,m8,m9,m10,m11,m12,m13,m14⟩:=hc.fif
       have hrk:=qF N hlt
       have IH:=ih _ N.bd[j].nd m wr (by omega) (by omega) hN
       have HS:Hid (depB (N.bd.take (j+1))=max (depB (N.bd.take j)) (depS N.bd[j])):=depB_step hlt
       have HT:Hid (depS N.bd[j]=max (if N.bd[j].k==3 then dep N.bd[j].te else 0) (dep N.bd[j].nd)):=vR _
       obtain ⟨X,hX,hX1⟩:∃ X,Hid (depM (dep N.bd[j].nd) m=X)/\X<=1001:=⟨depM (dep N.bd[j].nd) m,by unfold Hid;rfl,by unfold depM;omega⟩
       rw [hX.out] at IH
       by_cases k3:N.bd[j].k=3
       ·have k3':(N.bd[j].k==3)=true:=by simpa using k3
        obtain ⟨ct,ht,hT⟩:=hS.test
        obtain ⟨t0,t1,t2,t3,t4,t5,t6,t7,t8,t9,t10,t11,t12,t13,t14,rfl⟩:=kI hT.len
        obtain ⟨Y,hY,hY1⟩:∃ Y,Hid (depM (dep N.bd[j].te) m=Y)/\Y<=1001:=⟨depM (dep N.bd[j].te) m,by unfold Hid;rfl,by unfold depM;omega⟩
        have IH2:=fun w2 (g:Below wr.heap.size wr w2)=>ih _ N.bd[j].te m w2 (by omega) (by omega) (hT.below g)
        simp only [hY.out] at IH2
        clear ih
        go_wp2_with (first
         |(go_at_call 31;((with_reducible refine IH.mono ?_);rintro e w2 ⟨rfl,hb2⟩;have hp2:=hp.below hb2;have hS2:=(hS.below hb2).head.1;(obtain ⟨-,-,-,-,-,-,-,-,-,-,q10,q11,-,-,-⟩:=hp2.fip);(obtain ⟨l0,l1,l2,l3,l4,l5,l6,l7,l8,l9,l10,l11,l12,l13,l14⟩:=(ht.below hb2).fif)))
         |(go_at_call 31;((with_reducible refine (IH2 _ hb2).mono ?_);rintro e w3 ⟨rfl,hb3⟩)))
        all_goals go_roundw
        all_goals first
         | exact ⟨j+1,by omega,by go_num,_,rfl,by have h1:=hD.out;have h2:=hX.out;have h3:=HT.out;have h4:=hY.out;rw [k3',if_pos rfl] at h3;unfold Hid;rw [HS.out,h3];unfold depM at h2 h4;omega,by omega,Below.then (Below.then hb hb2) hb3⟩
         | exact ⟨j+1,by omega,by go_num,_,rfl,by have h1:=hD.out;have h2:=hX.out;have h3:=HT.out;have h4:=hY.out;rw [k3',if_pos rfl] at h3;unfold Hid;rw [HS.out,h3];unfold depM at h2 h4;omega,by omega,(hp2.below hb3),Below.then (Below.then hb hb2) hb3⟩
         |(simp [intOf];omega)
       ·have k3':(N.bd[j].k==3)=false:=by simpa using k3
        go_wp2_with (go_at_call 31;refine IH.mono ?_;rintro e w2 ⟨rfl,hb2⟩;have hp2:=hp.below hb2;have hS2:=(hS.below hb2).head.1;(obtain ⟨-,-,-,-,-,-,-,-,-,-,q10,q11,-,-,-⟩:=hp2.fip))
        all_goals go_roundw
        all_goals first
         | exact ⟨j+1,by omega,by go_num,_,rfl,by have h1:=hD.out;have h2:=hX.out;have h3:=HT.out;rw [k3',if_neg (by decide)] at h3;unfold Hid;rw [HS.out,h3];unfold depM at h2 ;omega,by omega,Below.then hb hb2⟩
         | exact ⟨j+1,by omega,by go_num,_,rfl,by have h1:=hD.out;have h2:=hX.out;have h3:=HT.out;rw [k3',if_neg (by decide)] at h3;unfold Hid;rw [HS.out,h3];unfold depM at h2 ;omega,by omega,hp2,Below.then hb hb2⟩
         |(simp [intOf];omega)
      ·obtain rfl:j=N.bd.length:=by omega
       rw [List.take_length] at hD
       have hD2:Hid (D+1=depM (dep N) (m+1)):=by unfold Hid;rw [HE.out,hD.out]
       clear ih hD HE
       go_wp2_with fail
       go_ret
       exact ⟨zH (by have:=hD2.out;omega),hb⟩
theorem depthR (cs:List Value) (N:Nd) (m:Nat) (w:World) (hm:m<=1000) (h:NdV w cs N) :
  Calls Tryz.prog 31 #[.agg cs.toArray,.int .i64 m] w fun e w'=>e=.returned (.int .i64 (depM (dep N) m:Nat))/\Below w.heap.size w w' :=
 depthR_any (rkN N) cs N m w (Nat.le_refl _) hm h
def wI (r:Nat):Prop:=∀ (cs:List Value) (N:Nd) (m:Nat) (w:World),rkN N<r->m<=16384->NdV w cs N ->
 Calls Tryz.prog 51 #[.agg cs.toArray,.int .i64 m] w fun e w'=>e=.returned (.int .i64 (min (siz N) (m+1):Nat))/\Below w.heap.size w w'
theorem min_stay {a b M S:Nat}(h:S=min a M) (hM:¬ S<M) (hab:a<=b):S=min b M:=by omega
set_option maxRecDepth 100000 in
theorem countsR (r:Nat) (ih:wI r) (ba:Option Addr) (bc bb bo:Nat) (l:List St) (M:Nat) (w:World) (hr:rkB l<r) (hM:M<=16385) (ha:l≠[]->ba=some ⟨bb,bo,none⟩) (hat:StsAt w bb bo l) (hl:l.length<=9223372036854775807) :
  Calls Tryz.prog 32 #[.slice ba l.length bc,.int .i64 ((M:Int) - 1)] w fun e w'=>e=.returned (.int .i64 (min (sizB l) M:Nat))/\Below w.heap.size w w':=by
 unfold wI at ih
 obtain ⟨mo,hmo⟩:∃ mo:Int,mo =(M:Int) - 1:=⟨_,rfl⟩
 have hmx:max mo (-1)+1 =(M:Int):=by omega
 rw [<- hmo]
 have hmo':mo+1 =(M:Int):=by omega
 clear hmo
 go_enter Tryz.func32,Tryz.ntmps32
 go_wp2
 go_loopw [5,6] (fun d i wr=>∃ (j S:Nat),j<=l.length/\i=.int .i64 j/\d=.int .i64 S/\Hid (S=min (sizB (l.take j)) M)/\S<=16385/\Below w.heap.size w wr) (fun _ i _=>l.length - (intOf i).toNat)
 case atStart=>exact ⟨0,0,Nat.zero_le _,rfl,rfl,by unfold Hid;simp [sizB],by omega,Below.refl _ _⟩
 case round =>
  obtain ⟨j,S,hj,rfl,rfl,hS,hS1,hb⟩:=hrel
  by_cases hlt:j<l.length/\S<M
  ·obtain ⟨hlt,hSM⟩:=hlt
   have hi:=zg (ic:=bc) rfl ha hlt
   have hT:=(StsAt.below hb hat).at hlt
   obtain ⟨cs,hc,hN⟩:=hT.node
   obtain ⟨c0,c1,c2,c3,c4,c5,c6,c7,c8,c9,c10,c11,c12,c13,c14,rfl⟩:=kI hN.len
   obtain ⟨m0,m1,m2,m3,m4,m5,m6,m7,m8,m9,m10,m11,m12,m13,m14⟩:=hc.fif
   have hrk:=xz hlt
   have h1:=qL l[j].te
   have h2:=qL l[j].nd
   obtain ⟨q,hq,hq2⟩:∃ q:Nat,mo - (S:Int) =(q:Int)/\q+1+S=M:=⟨M - S - 1,by omega,by omega⟩
   have IH:=ih _ l[j].nd q wr (by omega) (by omega) hN
   obtain ⟨X,hX,hX1⟩:∃ X,Hid (min (siz l[j].nd) (q+1)=X)/\X<=16385:=⟨min (siz l[j].nd) (q+1),by unfold Hid;rfl,by omega⟩
   rw [hX.out] at IH
   have HS:Hid (sizB (l.take (j+1))=sizB (l.take j)+sizS l[j]):=sizB_step hlt
   have HT:Hid (sizS l[j] =(if l[j].k==3 then siz l[j].te else 0)+siz l[j].nd):=vK _
   have hSM2:(S:Int)<=mo:=by omega
   have hSX:S+X<=M:=by have:=hX.out;omega
   by_cases k3:l[j].k=3
   ·have k3':(l[j].k==3)=true:=by simpa using k3
    obtain ⟨ct,ht,hV⟩:=hT.test
    obtain ⟨t0,t1,t2,t3,t4,t5,t6,t7,t8,t9,t10,t11,t12,t13,t14,rfl⟩:=kI hV.len
    by_cases hSX2:S+X<M
    ·obtain ⟨q',hq',hq2'⟩:∃ q':Nat,mo - ((S:Int)+(X:Int)) =(q':Int)/\q'+1+(S+X)=M:=⟨M - (S+X) - 1,by omega,by omega⟩
     have IH2:=fun w2 (g:Below wr.heap.size wr w2)=>ih _ l[j].te q' w2 (by omega) (by omega) (hV.below g)
     obtain ⟨Y,hY,hY1⟩:∃ Y,Hid (min (siz l[j].te) (q'+1)=Y)/\Y<=16385:=⟨min (siz l[j].te) (q'+1),by unfold Hid;rfl,by omega⟩
     simp only [hY.out] at IH2
     have hle:(S:Int)+(X:Int)<=mo:=by omega
     clear ih k3
     go_wp2_with (first
      |(go_at_call 51;((with_reducible refine IH.mono ?_);rintro e w2 ⟨rfl,hb2⟩;have hS2:=(hT.below hb2).head.1;(obtain ⟨l0,l1,l2,l3,l4,l5,l6,l7,l8,l9,l10,l11,l12,l13,l14⟩:=(ht.below hb2).fif)))
      |(go_at_call 51;((with_reducible refine (IH2 _ hb2).mono ?_);rintro e w3 ⟨rfl,hb3⟩)))
     go_roundw
     case rel=>exact ⟨j+1,S+X+Y,by omega,by go_num,by go_num,by have h1:=hS.out;have h2:=hX.out;have h3:=HT.out;have h4:=hY.out;rw [k3',if_pos rfl] at h3;unfold Hid;rw [HS.out,h3];omega,by have:=hY.out;omega,Below.then (Below.then hb hb2) hb3⟩
     case measure=>simp [intOf];omega
    ·have hle:¬ ((S:Int)+(X:Int)<=mo):=by omega
     clear ih k3
     go_wp2_with (first
      |(go_at_call 51;((with_reducible refine IH.mono ?_);rintro e w2 ⟨rfl,hb2⟩;have hS2:=(hT.below hb2).head.1)))
     go_roundw
     case rel=>exact ⟨j+1,S+X,by omega,by go_num,by go_num,by have h1:=hS.out;have h2:=hX.out;have h3:=HT.out;rw [k3',if_pos rfl] at h3;unfold Hid;rw [HS.out,h3];omega,by omega,Below.then hb hb2⟩
     case measure=>simp [intOf];omega
   ·have k3':(l[j].k==3)=false:=by simpa using k3
    clear ih k3
    go_wp2_with (first
     |(go_at_call 51;((with_reducible refine IH.mono ?_);rintro e w2 ⟨rfl,hb2⟩;have hS2:=(hT.below hb2).head.1)))
    go_roundw
    case rel=>exact ⟨j+1,S+X,by omega,by go_num,by go_num,by have h1:=hS.out;have h2:=hX.out;have h3:=HT.out;rw [k3',if_neg (by decide)] at h3;unfold Hid;rw [HS.out,h3];omega,by omega,Below.then hb hb2⟩
    case measure=>simp [intOf];omega
  ·have hF:Hid (S=min (sizB l) M):=by
    unfold Hid
    have h1:=hS.out
    have h2:=sizB_take l j
    by_cases hj2:j<l.length
    ·exact min_stay h1 (by omega) h2
    ·obtain rfl:j=l.length:=by omega
     rw [List.take_length] at h1;exact h1
   have hSM:S<=M:=by have:=hF.out;omega
   have hmn:min (S:Int) (M:Int) =(S:Int):=by omega
   clear ih hS
   by_cases hj2:j<l.length
   ·have hle:¬ ((S:Int)<=mo):=by omega
    clear hlt
    go_wp2_with fail
    all_goals go_ret
    all_goals exact ⟨zH (by have:=hF.out;omega),hb⟩
   ·obtain rfl:j=l.length:=by omega
    clear hlt
    go_wp2_with fail
    all_goals go_ret
    all_goals exact ⟨zH (by have:=hF.out;omega),hb⟩
set_option maxRecDepth 100000 in
theorem countR_step (r:Nat) (ih:wI r):wI (r+1):=by
 intro cs N m w hr hm h
 have CS:=countsR r ih
 unfold wI at ih
 obtain ⟨v0,v1,v2,v3,ka,kc,ba,bc,kb,ko,bb,bo,O⟩:=h.open
 have he:=O.eq
 subst he
 have hP:=NPar.new w [.int .i64 N.k,.int .i64 N.a,.int .i64 N.c,.string N.t,.int .i64 N.p,.int .i64 N.o,v0,v1,v2,v3,.slice ka N.ks.length kc,.slice ba N.bd.length bc,.int .i64 N.d,.int .i64 N.s,.int .i64 N.z] 40
 have BN:=below_new w (.cells [.int .i64 N.k,.int .i64 N.a,.int .i64 N.c,.string N.t,.int .i64 N.p,.int .i64 N.o,v0,v1,v2,v3,.slice ka N.ks.length kc,.slice ba N.bd.length bc,.int .i64 N.d,.int .i64 N.s,.int .i64 N.z].toArray 40)
 have kl:=O.kl
 have bl:=O.bl
 have HE:Hid (siz N=sizK N.ks+sizB N.bd+1):=qQ N
 have hrb:rkB N.bd<r:=by
  cases N with | mk k a c t p o v ks bd d s z =>
  rw [rkN] at hr;simp only [Nd.bd];omega
 go_enter Tryz.func51,Tryz.ntmps51
 go_wp2
 go_loopw [5,6] (fun d i wr=>∃ (j S:Nat),j<=N.ks.length/\i=.int .i64 j/\d=.int .i64 S/\Hid (S=min (1+sizK (N.ks.take j)) (m+1))/\S<=m+1/\NPar wr w.heap.size [.int .i64 N.k,.int .i64 N.a,.int .i64 N.c,.string N.t,.int .i64 N.p,.int .i64 N.o,v0,v1,v2,v3,.slice ka N.ks.length kc,.slice ba N.bd.length bc,.int .i64 N.d,.int .i64 N.s,.int .i64 N.z]/\Below w.heap.size w wr) (fun _ i _=>N.ks.length - (intOf i).toNat)
 case atStart=>exact ⟨0,1,Nat.zero_le _,rfl,rfl,by unfold Hid;simp only [List.take_zero,sizK];omega,by omega,hP,BN⟩
 case round =>
  obtain ⟨j,S,hj,rfl,rfl,hS,hS1,hp,hb⟩:=hrel
  obtain ⟨-,-,-,-,-,-,-,-,-,-,p10,p11,-,-,-⟩:=hp.fip
  by_cases hlt:j<N.ks.length/\S<=m
  ·obtain ⟨hlt,hSM⟩:=hlt
   have hi:=zR (ic:=kc) rfl O.ka hlt
   obtain ⟨cs,hc,hN⟩:=(NdsAt.below hb O.kat).at hlt
   obtain ⟨c0,c1,c2,c3,c4,c5,c6,c7,c8,c9,c10,c11,c12,c13,c14,rfl⟩:=kI hN.len
   obtain ⟨m0,m1,m2,m3,m4,m5,m6,m7,m8,m9,m10,m11,m12,m13,m14⟩:=hc.fif
   have hrk:=zk N hlt
   obtain ⟨q,hq,hq2⟩:∃ q:Nat,(m:Int) - (S:Int) =(q:Int)/\q+S=m:=⟨m - S,by omega,by omega⟩
   have IH:=ih _ N.ks[j] q wr (by omega) (by omega) hN
   obtain ⟨X,hX,hX1⟩:∃ X,Hid (min (siz N.ks[j]) (q+1)=X)/\X<=16385:=⟨min (siz N.ks[j]) (q+1),by unfold Hid;rfl,by omega⟩
   rw [hX.out] at IH
   have HS:Hid (sizK (N.ks.take (j+1))=sizK (N.ks.take j)+siz N.ks[j]):=sizK_step hlt
   have hSM2:(S:Int)<=(m:Int):=by omega
   clear ih CS
   go_wp2_with (go_at_call 51;((with_reducible refine IH.mono ?_);rintro e w2 ⟨rfl,hb2⟩))
   go_roundw
   case rel=>exact ⟨j+1,S+X,by omega,by go_num,by go_num,by have h1:=hS.out;have h2:=hX.out;unfold Hid;rw [HS.out];omega,by have:=hX.out;omega,hp.below hb2,Below.then hb hb2⟩
   case measure=>simp [intOf];omega
  ·have hF:Hid (S=min (1+sizK N.ks) (m+1)):=by
    unfold Hid
    have h1:=hS.out
    have h2:=sizK_take N.ks j
    by_cases hj2:j<N.ks.length
    ·exact min_stay h1 (by omega) (by omega)
    ·obtain rfl:j=N.ks.length:=by omega
     rw [List.take_length] at h1;exact h1
   obtain ⟨M,hM,hM2⟩:∃ M:Nat,(m:Int) - (S:Int) =(M:Int) - 1/\M+S=m+1:=⟨m+1 - S,by omega,by omega⟩
   have CS2:=CS ba bc bb bo N.bd M wr hrb (by omega) O.ba (StsAt.below hb O.bat) (by omega)
   obtain ⟨X,hX,hX1⟩:∃ X,Hid (min (sizB N.bd) M=X)/\X<=M:=⟨min (sizB N.bd) M,by unfold Hid;rfl,by omega⟩
   rw [hX.out] at CS2
   have hmn:min ((S:Int)+(X:Int)) ((m:Int)+1) =(S:Int)+(X:Int):=by omega
   have hG:Hid (S+X=min (siz N) (m+1)):=by unfold Hid;have h1:=hX.out;have h2:=hF.out;rw [HE.out];omega
   obtain ⟨mq,hmq⟩:∃ mq:Int,(M:Int) - 1=mq:=⟨_,rfl⟩
   rw [hmq] at CS2 hM
   clear ih hS CS HE hmq
   by_cases hj2:j<N.ks.length
   ·have hle:¬ ((S:Int)<=(m:Int)):=by omega
    clear hlt
    go_wp2_with (go_at_call 32;((with_reducible refine CS2.mono ?_);rintro e w2 ⟨rfl,hb2⟩))
    all_goals go_ret
    all_goals exact ⟨zH (by have:=hG.out;omega),Below.then hb hb2⟩
   ·obtain rfl:j=N.ks.length:=by omega
    clear hlt
    go_wp2_with (go_at_call 32;((with_reducible refine CS2.mono ?_);rintro e w2 ⟨rfl,hb2⟩))
    all_goals go_ret
    all_goals exact ⟨zH (by have:=hG.out;omega),Below.then hb hb2⟩
theorem vw:∀ r,wI r
 | 0=>fun cs N m w hr=>absurd hr (Nat.not_lt_zero _)
 | r+1=>countR_step r (vw r)
theorem countR (cs:List Value) (N:Nd) (m:Nat) (w:World) (hm:m<=16384) (h:NdV w cs N) :
  Calls Tryz.prog 51 #[.agg cs.toArray,.int .i64 m] w fun e w'=>e=.returned (.int .i64 (min (siz N) (m+1):Nat))/\Below w.heap.size w w' :=
 vw (rkN N+1) cs N m w (Nat.lt_succ_self _) hm h
end Go.Proofs.YtmfhdcpajgjgpaaGreatDoor.Syn
namespace Go.Proofs.YtmfhdcpajgjgpaaGreatDoor.Syn
open Go.RowKit Go.Proofs.YtmfhdcpajgjgpaaGreatDoor.Shape
set_option linter.unusedVariables false
set_option linter.unusedSimpArgs false
set_option maxRecDepth 100000
theorem dep_gt {x:Nat}(h:60<x):(60:Int) <((depM x 60:Nat):Int):=by unfold depM;omega
theorem dep_le {x:Nat}(h:¬ 60<x):¬ ((60:Int) <((depM x 60:Nat):Int)):=by unfold depM;omega
theorem siz_le {x:Nat}(h:¬ 16384<x):¬ ((16384:Int) <((min x (16384+1):Nat):Int)):=by omega
theorem depB_at {l:List St}{j:Nat}(h:j<l.length):depS l[j]<=depB l:=by
 have h1:=depB_step h
 have h2:=depB_take l (j+1)
 omega
theorem depB_all:∀ {l:List St}{m:Nat},(∀ i (h:i<l.length),depS l[i]<=m)->depB l<=m
 | [],_,_=>by rw [depB];omega
 | S::r,m,h=>by
  have h0:=h 0 (by simp)
  simp only [List.getElem_cons_zero] at h0
  have:=depB_all (l:=r) (m:=m) (fun i hi=>by simpa using h (i+1) (Nat.succ_lt_succ hi))
  rw [depB];omega
theorem refRightR (ba:Option Addr) (bc bb bo:Nat) (l:List St) (w:World) (ha:l≠[]->ba=some ⟨bb,bo,none⟩) (hat:StsAt w bb bo l) (hl:l.length<=9223372036854775807) :
  Calls Tryz.prog 18 #[.agg #[.slice ba l.length bc]] w fun e w'=>e=.returned (.int .i64 (zK l))/\Below w.heap.size w w':=by
 have BN:=below_new w (.cells #[.slice ba l.length bc] 24)
 have hp0:(w.alloc (.cells #[.slice ba l.length bc] 24)).cell? ⟨w.heap.size,0,none⟩=some (.slice ba l.length bc):=by rw [World.cell?_alloc_new];rfl
 obtain ⟨r,hr⟩:∃ r,zK l=r:=⟨_,rfl⟩
 rw [hr]
 unfold zK at hr
 by_cases c0:1000<l.length
 ·have c0':(1000:Int) <(l.length:Int):=by omega
  obtain rfl:r=2:=by rw [<- hr,if_pos c0]
  clear hr
  go_enter Tryz.func18,Tryz.ntmps18
  go_wp2
  go_ret
  exact ⟨rfl,BN⟩
 ·have c0':¬ ((1000:Int) <(l.length:Int)):=by omega
  rw [if_neg c0] at hr
  have HR:Hid ((if 60<depB l then (8:Int) else if 16384<sizB l then 21 else if okB l=true/\outB l=true then 0 else 11)=r):=hr
  clear hr
  go_enter Tryz.func18,Tryz.ntmps18
  go_wp2
  go_loopw [3] (fun i wr=>∃ j:Nat,j<=l.length/\i=.int .i64 j/\wr.cell? ⟨w.heap.size,0,none⟩=some (.slice ba l.length bc)/\Below w.heap.size w wr/\∀ i (h1:i<l.length),i<j->depS l[i]<=60) (fun i _=>l.length - (intOf i).toNat)
  case atStart=>exact ⟨0,Nat.zero_le _,rfl,hp0,BN,fun j _ hj=>absurd hj (Nat.not_lt_zero _)⟩
  case round =>
   obtain ⟨j,hj,rfl,hp,hb,he⟩:=hrel
   have HE:Hid (∀ i (h1:i<l.length),i<j->depS l[i]<=60):=he
   clear he hp0
   by_cases hlt:j<l.length
   ·have hi:=zg (ic:=bc) rfl ha hlt
    have hS:=(StsAt.below hb hat).at hlt
    have hS0:=hS.head.1
    obtain ⟨cs,hc,hN⟩:=hS.node
    obtain ⟨ct,ht,hT⟩:=hS.test
    have l1:=hN.len
    have l2:=hT.len
    have D1:=depthR cs l[j].nd 60 wr (by decide) hN
    have D2:=fun w2 (g:Below wr.heap.size wr w2)=>depthR ct l[j].te 60 w2 (by decide) (hT.below g)
    have HT:Hid (depS l[j]=max (if l[j].k==3 then dep l[j].te else 0) (dep l[j].nd)):=vR _
    have hS1:=fun w2 (g:Below wr.heap.size wr w2)=>((hS.below g).head).1
    obtain ⟨X,hX⟩:∃ X:Nat,depM (dep l[j].nd) 60=X:=⟨_,rfl⟩
    obtain ⟨Y,hY⟩:∃ Y:Nat,depM (dep l[j].te) 60=Y:=⟨_,rfl⟩
    have d1:60<dep l[j].nd->(60:Int) <(X:Int):=fun h=>hX ▸ dep_gt h
    have d2:¬ 60<dep l[j].nd->¬ ((60:Int) <(X:Int)):=fun h=>hX ▸ dep_le h
    have e1:60<dep l[j].te->(60:Int) <(Y:Int):=fun h=>hY ▸ dep_gt h
    have e2:¬ 60<dep l[j].te->¬ ((60:Int) <(Y:Int)):=fun h=>hY ▸ dep_le h
    rw [show ((60:Nat):Int)=60 from rfl,hX] at D1
    simp only [show ((60:Nat):Int)=60 from rfl,hY] at D2
    clear hX hY hS hN hT
    by_cases c1:60<dep l[j].nd
    ·have c1':=d1 c1
     have HG:Hid (r=8):=by unfold Hid;rw [<- HR.out,if_pos (by have:=depB_at hlt;have h3:=HT.out;skip;omega)]
     clear HR HE HT d1 d2 e1 e2
     go_wp2_with (first |((with_reducible show wpList _ _ _ (⟨_,Op.load 40 _,_,_,_,_⟩::_) _ _);refine zC rfl rfl rfl hc l1 ?_) |(go_at_call 31;((with_reducible refine D1.mono ?_);rintro e w2 ⟨rfl,b2⟩;(have q0:=(b2.cell (zD hp)).trans hp);(have q1:=hS1 _ b2))))
     go_ret
     exact ⟨zH HG.out.symm,Below.then hb b2⟩
    ·have c1':=d2 c1
     cases k3:(l[j].k==3) with
     | false =>
      have HC:Hid (depS l[j]<=60):=by unfold Hid;have h3:=HT.out;rw [k3,if_neg (by decide)] at h3;omega
      clear HR HT d1 d2 e1 e2
      go_wp2_with (first |((with_reducible show wpList _ _ _ (⟨_,Op.load 40 _,_,_,_,_⟩::_) _ _);refine zC rfl rfl rfl hc l1 ?_) |(go_at_call 31;((with_reducible refine D1.mono ?_);rintro e w2 ⟨rfl,b2⟩;(have q0:=(b2.cell (zD hp)).trans hp);(have q1:=hS1 _ b2))))
      go_roundw
      case rel=>exact ⟨j+1,by omega,by go_num,q0,Below.then hb b2,fun i h1 hi=>by
       by_cases e:i=j
       ·subst e;exact HC.out
       ·exact HE.out i h1 (by omega)⟩
      case measure=>simp [intOf];omega
     | true =>
      by_cases c2:60<dep l[j].te
      ·have c2':=e1 c2
       have HG:Hid (r=8):=by unfold Hid;rw [<- HR.out,if_pos (by have:=depB_at hlt;have h3:=HT.out;rw [k3,if_pos rfl] at h3;omega)]
       clear HR HE HT d1 d2 e1 e2
       go_wp2_with (first |((with_reducible show wpList _ _ _ (⟨_,Op.load 40 _,_,_,_,_⟩::_) _ _);refine zC rfl rfl rfl hc l1 ?_) |((with_reducible show wpList _ _ _ (⟨_,Op.load 40 _,_,_,_,_⟩::_) _ _);refine zC rfl rfl rfl (ht.below b2) l2 ?_) |(go_at_call 31;((with_reducible refine D1.mono ?_);rintro e w2 ⟨rfl,b2⟩;(have q0:=(b2.cell (zD hp)).trans hp);(have q1:=hS1 _ b2))) |(go_at_call 31;((with_reducible refine (D2 _ b2).mono ?_);rintro e w3 ⟨rfl,b3⟩;(have q2:=(b3.cell (zD q0)).trans q0))))
       go_ret
       exact ⟨zH HG.out.symm,Below.then (Below.then hb b2) b3⟩
      ·have c2':=e2 c2
       have HC:Hid (depS l[j]<=60):=by unfold Hid;have h3:=HT.out;rw [k3,if_pos rfl] at h3;omega
       clear HR HT d1 d2 e1 e2
       go_wp2_with (first |((with_reducible show wpList _ _ _ (⟨_,Op.load 40 _,_,_,_,_⟩::_) _ _);refine zC rfl rfl rfl hc l1 ?_) |((with_reducible show wpList _ _ _ (⟨_,Op.load 40 _,_,_,_,_⟩::_) _ _);refine zC rfl rfl rfl (ht.below b2) l2 ?_) |(go_at_call 31;((with_reducible refine D1.mono ?_);rintro e w2 ⟨rfl,b2⟩;(have q0:=(b2.cell (zD hp)).trans hp);(have q1:=hS1 _ b2))) |(go_at_call 31;((with_reducible refine (D2 _ b2).mono ?_);rintro e w3 ⟨rfl,b3⟩;(have q2:=(b3.cell (zD q0)).trans q0))))
       go_roundw
       case rel=>exact ⟨j+1,by omega,by go_num,q2,Below.then (Below.then hb b2) b3,fun i h1 hi=>by
        by_cases e:i=j
        ·subst e;exact HC.out
        ·exact HE.out i h1 (by omega)⟩
       case measure=>simp [intOf];omega
   ·obtain rfl:j=l.length:=by omega
    have HD:depB l<=60:=depB_all (fun i hi=>HE.out i hi hi)
    have HR2:Hid ((if 16384<sizB l then (21:Int) else if okB l=true/\outB l=true then 0 else 11)=r):=by have h2:=HR.out;rw [if_neg (show ¬ 60<depB l by omega)] at h2;exact h2
    have CR:=countsR (rkB l+1) (vw _) ba bc bb bo l 16385 wr (by omega) (by decide) ha (StsAt.below hb hat) hl
    rw [show ((16385:Nat):Int) - 1=16384 by decide] at CR
    have VR:=fun w' (g:Below wr.heap.size wr w')=>refBodyR ba bc bb bo l w' ha (StsAt.below g (StsAt.below hb hat)) hl
    have OR:=fun w' (g:Below wr.heap.size wr w')=>outR ba bc bb bo l w' ha (StsAt.below g (StsAt.below hb hat)) hl
    obtain ⟨V,hV⟩:∃ V,okB l=V:=⟨_,rfl⟩
    obtain ⟨U,hU⟩:∃ U,outB l=U:=⟨_,rfl⟩
    rw [hV,hU] at HR2
    simp only [hV] at VR
    simp only [hU] at OR
    obtain ⟨Z,hZ⟩:∃ Z:Nat,min (sizB l) 16385=Z:=⟨_,rfl⟩
    have z1:16384<sizB l->(16384:Int) <(Z:Int):=fun h=>by omega
    have z2:¬ 16384<sizB l->¬ ((16384:Int) <(Z:Int)):=fun h=>by omega
    rw [hZ] at CR
    clear hV hU hZ HR HE HD
    by_cases c2:16384<sizB l
    ·have c2':=z1 c2
     have HG:Hid (r=21):=by unfold Hid;rw [<- HR2.out,if_pos c2]
     clear HR2 z1 z2
     go_wp2_with (first |(go_at_call 32;((with_reducible refine CR.mono ?_);rintro e w4 ⟨rfl,b4⟩;(have q4:=(b4.cell (zD hp)).trans hp))))
     go_ret
     exact ⟨zH HG.out.symm,Below.then hb b4⟩
    ·have c2':=z2 c2
     cases V with
     | false =>
      have HG:Hid (r=11):=by unfold Hid;rw [<- HR2.out,if_neg c2,if_neg (by simp)]
      clear HR2 z1 z2
      go_wp2_with (first |(go_at_call 32;((with_reducible refine CR.mono ?_);rintro e w4 ⟨rfl,b4⟩;(have q4:=(b4.cell (zD hp)).trans hp))) |(go_at_call 33;((with_reducible refine (VR _ b4).mono ?_);rintro e w5 ⟨rfl,b5⟩;(have q5:=(b5.cell (zD q4)).trans q4))))
      go_ret
      exact ⟨zH HG.out.symm,Below.then hb (Below.then b4 b5)⟩
     | true =>
      cases U with
      | false =>
       have HG:Hid (r=11):=by unfold Hid;rw [<- HR2.out,if_neg c2,if_neg (by simp)]
       clear HR2 z1 z2
       go_wp2_with (first |(go_at_call 32;((with_reducible refine CR.mono ?_);rintro e w4 ⟨rfl,b4⟩;(have q4:=(b4.cell (zD hp)).trans hp))) |(go_at_call 33;((with_reducible refine (VR _ b4).mono ?_);rintro e w5 ⟨rfl,b5⟩;(have q5:=(b5.cell (zD q4)).trans q4))) |(go_at_call 34;((with_reducible refine (OR _ (Below.then b4 b5)).mono ?_);rintro e w6 ⟨rfl,b6⟩)))
       go_ret
       exact ⟨zH HG.out.symm,Below.then hb (Below.then (Below.then b4 b5) b6)⟩
      | true =>
       have HG:Hid (r=0):=by unfold Hid;rw [<- HR2.out,if_neg c2,if_pos (by simp)]
       clear HR2 z1 z2
       go_wp2_with (first |(go_at_call 32;((with_reducible refine CR.mono ?_);rintro e w4 ⟨rfl,b4⟩;(have q4:=(b4.cell (zD hp)).trans hp))) |(go_at_call 33;((with_reducible refine (VR _ b4).mono ?_);rintro e w5 ⟨rfl,b5⟩;(have q5:=(b5.cell (zD q4)).trans q4))) |(go_at_call 34;((with_reducible refine (OR _ (Below.then b4 b5)).mono ?_);rintro e w6 ⟨rfl,b6⟩)))
       go_ret
       exact ⟨zH HG.out.symm,Below.then hb (Below.then (Below.then b4 b5) b6)⟩
end Go.Proofs.YtmfhdcpajgjgpaaGreatDoor.Syn
