/-
  Layer 13: the law's nodes, stmts and small: what they count.
  Layer 13: an argument that is a program, as the row's reading gives it, and within the form's reach. (Written by wip/gen/printer-open.py.)
-/
import Derived.Test.YtalkinnbfglkdaaGreatDoorPt8
import Derived.StillTailTactics
import Derived.Test.YtalkinnbfglkdaaGreatDoorPt22
set_option maxHeartbeats 8000000
namespace Go.Proofs.YtalkinnbfglkdaaGreatDoor.Syn
open Go.RowKit Go.Proofs.YtalkinnbfglkdaaGreatDoor.Shape
set_option linter.unusedVariables false
set_option linter.unusedSimpArgs false
set_option maxRecDepth 100000
def arrCount:Arr->Nat
 | .mk _ sh nu it=>nu.length+sh.length+it.length
mutual
def totN:Nd->Nat
 | .mk _ _ _ t _ _ v ks bd _ _ _=>1+t.size+arrCount v+totK ks+(bd.length+totB bd)
def totK:List Nd->Nat
 | []=>0
 | N::r=>totN N+totK r
def totS:St->Nat
 | .mk _ _ n _ te nd=>n.size+totN te+totN nd
def totB:List St->Nat
 | []=>0
 | S::r=>totS S+totB r
end
mutual
def RcN:Nd->Prop
 | .mk _ _ _ t _ _ v ks bd _ _ _=>t.size<=140737488351232/\arrCount v<=140737488351232/\RcK ks/\RcB bd
def RcK:List Nd->Prop
 | []=>True
 | N::r=>RcN N/\RcK r
def RcS:St->Prop
 | .mk _ _ n _ te nd=>n.size<=140737488351232/\RcN te/\RcN nd
def RcB:List St->Prop
 | []=>True
 | S::r=>RcS S/\RcB r
end
theorem RcK.at:∀ {l:List Nd},RcK l->∀ {j:Nat}(hj:j<l.length),RcN l[j]
 | [],_,j,hj=>absurd hj (by simp)
 | A::r,h,0,_=>by rw [RcK] at h;exact h.1
 | A::r,h,k+1,hk=>by rw [RcK] at h;simpa using RcK.at h.2 (j:=k) (by simpa using hk)
theorem RcB.at:∀ {l:List St},RcB l->∀ {j:Nat}(hj:j<l.length),l[j].n.size<=140737488351232/\RcN l[j].te/\RcN l[j].nd
 | [],_,j,hj=>absurd hj (by simp)
 | .mk k a n s te nd::r,h,0,_=>by rw [RcB,RcS] at h;exact h.1
 | A::r,h,k+1,hk=>by rw [RcB] at h;simpa using RcB.at h.2 (j:=k) (by simpa using hk)
mutual
theorem siz_tot:∀ N,siz N<=totN N
 | .mk _ _ _ t _ _ v ks bd _ _ _=>by have h1:=sizK_tot ks;have h2:=sizB_tot bd;rw [siz,totN];omega
theorem sizK_tot:∀ l,sizK l<=totK l
 | []=>by rw [sizK];omega
 | N::r=>by have h1:=siz_tot N;have h2:=sizK_tot r;rw [sizK,totK];omega
theorem sizS_tot:∀ S,sizS S<=totS S
 | .mk k _ _ _ te nd=>by have h1:=siz_tot te;have h2:=siz_tot nd;rw [sizS,totS];split <;> omega
theorem sizB_tot:∀ l,sizB l<=totB l
 | []=>by rw [sizB];omega
 | S::r=>by have h1:=sizS_tot S;have h2:=sizB_tot r;rw [sizB,totB];omega
end
theorem totK_app (a b:List Nd):totK (a++b)=totK a+totK b:=by
 induction a with
 | nil=>simp [totK]
 | cons N r ih=>rw [List.cons_append,totK,totK,ih];omega
theorem totB_app (a b:List St):totB (a++b)=totB a+totB b:=by
 induction a with
 | nil=>simp [totB]
 | cons N r ih=>rw [List.cons_append,totB,totB,ih];omega
theorem totK_step {l:List Nd}{j:Nat}(h:j<l.length):totK (l.take (j+1))=totK (l.take j)+totN l[j]:=by
 rw [List.take_succ_eq_append_getElem h,totK_app,totK,totK];omega
theorem totB_step {l:List St}{j:Nat}(h:j<l.length):totB (l.take (j+1))=totB (l.take j)+totS l[j]:=by
 rw [List.take_succ_eq_append_getElem h,totB_app,totB,totB];omega
theorem totK_take (l:List Nd) (j:Nat):totK (l.take j)<=totK l:=by
 have h:totK (l.take j++l.drop j)=totK l:=by rw [List.take_append_drop]
 rw [totK_app] at h;omega
theorem totB_take (l:List St) (j:Nat):totB (l.take j)<=totB l:=by
 have h:totB (l.take j++l.drop j)=totB l:=by rw [List.take_append_drop]
 rw [totB_app] at h;omega
theorem totN_eq (N:Nd):totN N=1+N.t.size+arrCount N.v+totK N.ks+(N.bd.length+totB N.bd):=by cases N;rw [totN];rfl
theorem totS_eq (S:St):totS S=S.n.size+totN S.te+totN S.nd:=by cases S;rw [totS];rfl
theorem rcN_eq {N:Nd}(h:RcN N):N.t.size<=140737488351232/\arrCount N.v<=140737488351232/\RcK N.ks/\RcB N.bd:=by cases N;rw [RcN] at h;exact h
theorem arr_parts {w:World}{v0 v1 v2 v3:Value}{A:Arr}(h:ArrAt w (.agg #[v0,v1,v2,v3]) A):∃ sa sc na nc ia ic,∃ a b c:Nat,v1=.slice sa a sc/\v2=.slice na b nc/\v3=.slice ia c ic/\arrCount A=b+a+c:=by
 cases A with | mk k sh nu it =>
 rw [ArrAt] at h
 obtain ⟨sa,sc,na,nc,ia,ic,e,-⟩:=h
 simp only [Value.agg.injEq,Array.mk.injEq,List.cons.injEq,and_true] at e
 obtain ⟨-,e1,e2,e3⟩:=e
 exact ⟨sa,sc,na,nc,ia,ic,_,_,_,e1,e2,e3,rfl⟩
def NodesR (r:Nat):Prop:=∀ (cs:List Value) (N:Nd) (m:Nat) (w:World),rkN N<r->1<=m->m<=2000->NdV w cs N->RcN N ->
 Calls Tryz.prog 21 #[.agg cs.toArray,.int .i64 m] w fun e w'=>e=.returned (.int .i64 (min (totN N) m:Nat))/\Below w.heap.size w w'
def StmtsR (r:Nat):Prop:=∀ (ba:Option Addr) (bc bb bo:Nat) (l:List St) (m:Nat) (w:World),rkB l<r->1<=m->m<=2000->(l≠[]->ba=some ⟨bb,bo,none⟩)->StsAt w bb bo l->l.length<=9223372036854775807->RcB l ->
 Calls Tryz.prog 9 #[.slice ba l.length bc,.int .i64 m] w fun e w'=>e=.returned (.int .i64 (min (l.length+totB l) m:Nat))/\Below w.heap.size w w'
theorem stmtsR (r:Nat) (ih:NodesR r):StmtsR r:=by
 intro ba bc bb bo l m w hr hm1 hm2 ha hat hl hR
 unfold NodesR at ih
 go_enter Tryz.func9,Tryz.ntmps9
 go_wp2
 go_loopw [5,6] (fun d i wr=>∃ (j S:Nat),j<=l.length/\i=.int .i64 j/\d=.int .i64 S/\Hid (min S m=min (l.length+totB (l.take j)) m)/\S<=9223372036854775807/\Below w.heap.size w wr) (fun _ i _=>l.length - (intOf i).toNat)
 case atStart=>exact ⟨0,l.length,Nat.zero_le _,rfl,rfl,by unfold Hid;simp [totB],hl,Below.refl _ _⟩
 case round =>
  obtain ⟨j,S,hj,rfl,rfl,hS,hS1,hb⟩:=hrel
  by_cases hlt:j<l.length/\S<m
  ·obtain ⟨hlt,hSm⟩:=hlt
   have hi:=stmts_at (ic:=bc) rfl ha hlt
   have hT:=(StsAt.below hb hat).at hlt
   obtain ⟨c1,hc1,hN1⟩:=hT.test
   obtain ⟨c2,hc2,hN2⟩:=hT.node
   have q2:=hT.head.2.2.1
   have l1:=hN1.len
   have l2:=hN2.len
   obtain ⟨b1,b2,b3⟩:=hR.at hlt
   have hrk:=rkB_at hlt
   have p1:=rkN_pos l[j].te
   have p2:=rkN_pos l[j].nd
   have IH:=fun x:Sub wr=>ih c1 l[j].te m x.w (by omega) hm1 hm2 (hN1.below x.below) b2
   obtain ⟨X,hX,hX1⟩:∃ X,Hid (min (totN l[j].te) m=X)/\X<=2000:=⟨min (totN l[j].te) m,by unfold Hid;rfl,by omega⟩
   simp only [hX.out] at IH
   have z2:=fun x:Sub wr=>x.cell q2
   have HS:Hid (totB (l.take (j+1))=totB (l.take j)+totS l[j]):=totB_step hlt
   have HT:Hid (totS l[j]=l[j].n.size+totN l[j].te+totN l[j].nd):=totS_eq _
   have hSm2:(S:Int) <(m:Int):=by omega
   obtain ⟨nz,hnz⟩:∃ nz:Nat,nz=l[j].n.size:=⟨_,rfl⟩
   rw [<- hnz] at b1
   have HZ:Hid (nz=l[j].n.size):=hnz
   clear hT hN1 hnz
   by_cases hX2:S+nz+X<m
   ·obtain ⟨q,hq,hq2⟩:∃ q:Nat,(m:Int) - ((S:Int)+(nz:Int)+(X:Int)) =(q:Int)/\q+(S+nz+X)=m:=⟨m - (S+nz+X),by omega,by omega⟩
    have IH2:=fun w2 (g:Below wr.heap.size wr w2)=>ih c2 l[j].nd q w2 (by omega) (by omega) (by omega) (hN2.below g) b3
    obtain ⟨Y,hY,hY1⟩:∃ Y,Hid (min (totN l[j].nd) q=Y)/\Y<=2000:=⟨min (totN l[j].nd) q,by unfold Hid;rfl,by omega⟩
    simp only [hY.out] at IH2
    have hle:(S:Int)+(nz:Int)+(X:Int) <(m:Int):=by omega
    clear ih hN2
    obtain rfl:=HZ.out
    go_wp2_with fail
    refine wp_region_sub (W:=wr) (by kernel_rfl) (by kernel_rfl) (Below.refl _ _) ?_
    repeat (first |(go_big_quiet_want;(first | refine quiet_load_node hc1 l1 rfl rfl ?_);simp only [Act.put,List.setIfInBounds_toArray,List.set_cons_succ,List.set_cons_zero];go_big_quiet_on) | go_big_quiet_step ((go_at_call 21;with_reducible exact sub_call (IH _))))
    refine wpQuiet_nil ?_
    intro x
    have bx:=x.below
    generalize x.w=w2 at *
    have hc3:=hc2.below bx
    go_wp2_with (first |(go_at_call 21;((with_reducible refine (IH2 _ bx).mono ?_);rintro e w3 ⟨rfl,hb3⟩)) |((with_reducible show wpList _ _ _ ({ dst:=_,op:=Op.load 49 _,type:=_,pos:=_,after:=_,guard:=none }::_) _ _);refine wpList_load_node rfl rfl rfl hc3 l2 ?_))
    go_roundw
    case rel=>exact ⟨j+1,S+l[j].n.size+X+Y,by omega,by go_num,by go_num,by have h1:=hS.out;have h2:=hX.out;have h3:=HT.out;have h4:=hY.out;unfold Hid;rw [HS.out,h3];omega,by have:=hY.out;omega,Below.then (Below.then hb bx) hb3⟩
    case measure=>simp [intOf];omega
   ·have hle:¬ ((S:Int)+(nz:Int)+(X:Int) <(m:Int)):=by omega
    clear ih hN2
    obtain rfl:=HZ.out
    go_wp2_with fail
    refine wp_region_sub (W:=wr) (by kernel_rfl) (by kernel_rfl) (Below.refl _ _) ?_
    repeat (first |(go_big_quiet_want;(first | refine quiet_load_node hc1 l1 rfl rfl ?_);simp only [Act.put,List.setIfInBounds_toArray,List.set_cons_succ,List.set_cons_zero];go_big_quiet_on) | go_big_quiet_step ((go_at_call 21;with_reducible exact sub_call (IH _))))
    refine wpQuiet_nil ?_
    intro x
    have bx:=x.below
    generalize x.w=w2 at *
    go_wp2_with fail
    go_roundw
    case rel=>exact ⟨j+1,S+l[j].n.size+X,by omega,by go_num,by go_num,by have h1:=hS.out;have h2:=hX.out;have h3:=HT.out;unfold Hid;rw [HS.out,h3];omega,by omega,Below.then hb bx⟩
    case measure=>simp [intOf];omega
  ·have hF:Hid (min S m=min (l.length+totB l) m):=by
    unfold Hid
    have h1:=hS.out
    have h2:=totB_take l j
    by_cases hj2:j<l.length
    ·omega
    ·obtain rfl:j=l.length:=by omega
     rw [List.take_length] at h1;exact h1
   obtain ⟨M,hM⟩:∃ M:Nat,M=min S m:=⟨_,rfl⟩
   have hmn:min (S:Int) (m:Int) =(M:Int):=by omega
   have HM:Hid (M=min (l.length+totB l) m):=by unfold Hid;rw [hM];exact hF.out
   clear ih hS hM hF
   by_cases hj2:j<l.length
   ·have hle:¬ ((S:Int) <(m:Int)):=by omega
    clear hlt
    go_wp2_with fail
    all_goals go_ret
    all_goals exact ⟨ret_int (by have:=HM.out;omega),hb⟩
   ·obtain rfl:j=l.length:=by omega
    clear hlt
    go_wp2_with fail
    all_goals go_ret
    all_goals exact ⟨ret_int (by have:=HM.out;omega),hb⟩
theorem nodesR_step (r:Nat) (ih:NodesR r):NodesR (r+1):=by
 intro cs N m w hr hm1 hm2 h hR
 have CS:=stmtsR r ih
 unfold NodesR at ih
 unfold StmtsR at CS
 obtain ⟨v0,v1,v2,v3,ka,kc,ba,bc,kb,ko,bb,bo,O⟩:=h.open
 have he:=O.eq
 subst he
 obtain ⟨sa,sc,na,nc,ia,ic,x1,x2,x3,rfl,rfl,rfl,ec⟩:=arr_parts O.arr
 obtain ⟨r1,r2,r3,r4⟩:=rcN_eq hR
 have hP:=NPar.new w [.int .i64 N.k,.int .i64 N.a,.int .i64 N.c,.string N.t,.int .i64 N.p,.int .i64 N.o,v0,.slice sa x1 sc,.slice na x2 nc,.slice ia x3 ic,.slice ka N.ks.length kc,.slice ba N.bd.length bc,.int .i64 N.d,.int .i64 N.s,.int .i64 N.z] 49
 have BN:=below_new w (.cells [.int .i64 N.k,.int .i64 N.a,.int .i64 N.c,.string N.t,.int .i64 N.p,.int .i64 N.o,v0,.slice sa x1 sc,.slice na x2 nc,.slice ia x3 ic,.slice ka N.ks.length kc,.slice ba N.bd.length bc,.int .i64 N.d,.int .i64 N.s,.int .i64 N.z].toArray 49)
 have kl:=O.kl
 have bl:=O.bl
 have HE:Hid (totN N=1+N.t.size+arrCount N.v+totK N.ks+(N.bd.length+totB N.bd)):=totN_eq N
 have hrb:rkB N.bd<r:=by
  cases N with | mk k a c t p o v ks bd d s z =>
  rw [rkN] at hr;simp only [Nd.bd];omega
 have EC:Hid (arrCount N.v=x2+x1+x3):=ec
 have hsum:x2+x1+x3<=140737488351232:=by omega
 clear ec r2
 obtain ⟨K0,hK0⟩:∃ K0:Nat,K0=1+N.t.size+x2+x1+x3:=⟨_,rfl⟩
 have HK0:Hid (K0=1+N.t.size+x2+x1+x3):=hK0
 have hK1:K0<=562949953404928:=by omega
 clear hK0
 go_enter Tryz.func21,Tryz.ntmps21
 go_wp2
 go_loopw [5,6] (fun d i wr=>∃ (j S:Nat),j<=N.ks.length/\i=.int .i64 j/\d=.int .i64 S/\Hid (min S m=min (K0+totK (N.ks.take j)) m)/\S<=562949953404928/\NPar wr w.heap.size [.int .i64 N.k,.int .i64 N.a,.int .i64 N.c,.string N.t,.int .i64 N.p,.int .i64 N.o,v0,.slice sa x1 sc,.slice na x2 nc,.slice ia x3 ic,.slice ka N.ks.length kc,.slice ba N.bd.length bc,.int .i64 N.d,.int .i64 N.s,.int .i64 N.z]/\Below w.heap.size w wr) (fun _ i _=>N.ks.length - (intOf i).toNat)
 case atStart=>exact ⟨0,K0,Nat.zero_le _,rfl,by have:=HK0.out;go_num,by unfold Hid;simp [totK],hK1,hP,BN⟩
 case round =>
  obtain ⟨j,S,hj,rfl,rfl,hS,hS1,hp,hb⟩:=hrel
  obtain ⟨-,-,-,-,-,-,-,-,-,-,p10,p11,-,-,-⟩:=hp.fip
  by_cases hlt:j<N.ks.length/\S<m
  ·obtain ⟨hlt,hSM⟩:=hlt
   have hi:=kids_at (ic:=kc) rfl O.ka hlt
   obtain ⟨cs,hc,hN⟩:=(NdsAt.below hb O.kat).at hlt
   have l1:=hN.len
   have hrk:=rk_kid N hlt
   obtain ⟨q,hq,hq2⟩:∃ q:Nat,(m:Int) - (S:Int) =(q:Int)/\q+S=m:=⟨m - S,by omega,by omega⟩
   have IH:=ih _ N.ks[j] q wr (by omega) (by omega) (by omega) hN (r3.at hlt)
   obtain ⟨X,hX,hX1⟩:∃ X,Hid (min (totN N.ks[j]) q=X)/\X<=2000:=⟨min (totN N.ks[j]) q,by unfold Hid;rfl,by omega⟩
   rw [hX.out] at IH
   have HS:Hid (totK (N.ks.take (j+1))=totK (N.ks.take j)+totN N.ks[j]):=totK_step hlt
   have hSM2:(S:Int) <(m:Int):=by omega
   clear ih CS
   go_wp2_with (first |(go_at_call 21;((with_reducible refine IH.mono ?_);rintro e w2 ⟨rfl,hb2⟩)) |((with_reducible show wpList _ _ _ ({ dst:=_,op:=Op.load 49 _,type:=_,pos:=_,after:=_,guard:=none }::_) _ _);refine wpList_load_node rfl rfl rfl hc l1 ?_))
   go_roundw
   case rel=>exact ⟨j+1,S+X,by omega,by go_num,by go_num,by have h1:=hS.out;have h2:=hX.out;unfold Hid;rw [HS.out];omega,by have:=hX.out;omega,hp.below hb2,Below.then hb hb2⟩
   case measure=>simp [intOf];omega
  ·have hF:Hid (min S m=min (K0+totK N.ks) m):=by
    unfold Hid
    have h1:=hS.out
    have h2:=totK_take N.ks j
    by_cases hj2:j<N.ks.length
    ·omega
    ·obtain rfl:j=N.ks.length:=by omega
     rw [List.take_length] at h1;exact h1
   by_cases hSm:S<m
   ·obtain rfl:j=N.ks.length:=by omega
    obtain ⟨q,hq,hq2⟩:∃ q:Nat,(m:Int) - (S:Int) =(q:Int)/\q+S=m:=⟨m - S,by omega,by omega⟩
    have CS2:=CS ba bc bb bo N.bd q wr hrb (by omega) (by omega) O.ba (StsAt.below hb O.bat) (by omega) r4
    obtain ⟨X,hX,hX1⟩:∃ X,Hid (min (N.bd.length+totB N.bd) q=X)/\X<=q:=⟨min (N.bd.length+totB N.bd) q,by unfold Hid;rfl,by omega⟩
    rw [hX.out] at CS2
    obtain ⟨M,hM⟩:∃ M:Nat,M=min (S+X) m:=⟨_,rfl⟩
    have hmn:min ((S:Int)+(X:Int)) (m:Int) =(M:Int):=by omega
    have hG:Hid (M=min (totN N) m):=by unfold Hid;have h1:=hX.out;have h2:=hF.out;have h3:=HK0.out;have h4:=EC.out;rw [HE.out];omega
    have hSM2:(S:Int) <(m:Int):=by omega
    clear ih hS CS HE hM hlt
    go_wp2_with (go_at_call 9;((with_reducible refine CS2.mono ?_);rintro e w2 ⟨rfl,hb2⟩))
    all_goals go_ret
    all_goals exact ⟨ret_int (by have:=hG.out;omega),Below.then hb hb2⟩
   ·have hmn:min (S:Int) (m:Int) =(m:Int):=by omega
    have hG:Hid (m=min (totN N) m):=by unfold Hid;have h2:=hF.out;have h3:=HK0.out;have h4:=EC.out;rw [HE.out];omega
    have hSM2:¬ ((S:Int) <(m:Int)):=by omega
    clear ih hS CS HE
    by_cases hj2:j<N.ks.length
    ·clear hlt
     go_wp2_with fail
     all_goals go_ret
     all_goals exact ⟨ret_int (by have:=hG.out;omega),hb⟩
    ·obtain rfl:j=N.ks.length:=by omega
     clear hlt
     go_wp2_with fail
     all_goals go_ret
     all_goals exact ⟨ret_int (by have:=hG.out;omega),hb⟩
theorem nodesR_all:∀ r,NodesR r
 | 0=>fun cs N m w hr=>absurd hr (Nat.not_lt_zero _)
 | r+1=>nodesR_step r (nodesR_all r)
theorem smallL (ba:Option Addr) (bc bb bo:Nat) (l:List St) (w:World) (hl:l.length<=9223372036854775807) (ha:l≠[]->ba=some ⟨bb,bo,none⟩) (hat:StsAt w bb bo l) (hR:RcB l) :
  Calls Tryz.prog 4 #[.agg #[.slice ba l.length bc]] w fun e w'=>e=.returned (.bool (decide (l.length+totB l<2000)))/\Below w.heap.size w w':=by
 have BN:=below_new w (.cells #[.slice ba l.length bc] 24)
 have hp0:(w.alloc (.cells #[.slice ba l.length bc] 24)).cell? ⟨w.heap.size,0,none⟩=some (.slice ba l.length bc):=by rw [World.cell?_alloc_new];rfl
 have CS:=stmtsR _ (nodesR_all _) ba bc bb bo l 2000 _ (Nat.lt_succ_self _) (by decide) (by decide) ha (StsAt.below BN hat) hl hR
 obtain ⟨X,hX⟩:∃ X:Nat,min (l.length+totB l) 2000=X:=⟨_,rfl⟩
 rw [hX] at CS
 obtain ⟨d,hd⟩:∃ d:Bool,decide (l.length+totB l<2000)=d:=⟨_,rfl⟩
 have hd2:decide ((X:Int)<2000)=d:=by rw [<- hd];congr 1;simp only [eq_iff_iff];omega
 rw [hd]
 clear hd hX hat hR ha
 go_enter Tryz.func4,Tryz.ntmps4
 go_wp2_with (go_at_call 9;((with_reducible refine Calls.mono CS ?_);rintro e w2 ⟨rfl,hb2⟩))
 go_ret
 exact ⟨rfl,Below.then BN hb2⟩
end Go.Proofs.YtalkinnbfglkdaaGreatDoor.Syn
namespace Go.Proofs.YtalkinnbfglkdaaGreatDoor.Syn
open Go.ChangeShapes Go.WideShapes Go.ChangeAt Go.RowKit Go.Joins Go.Proofs.YtalkinnbfglkdaaGreatDoor.Shape
set_option maxRecDepth 100000
theorem reach_count {A:Arr}(h:Shape.Reach A):arrCount A<=140737488351232:=by
 cases A with | mk k sh nu it =>
 rw [Shape.Reach] at h
 show nu.length+sh.length+it.length<=_
 omega
theorem nds_buildR {H:Type}{W:World}{b:Nat}:∀ (es:List (DataW H × List MemPlace)) (off:Nat),(∀ i (h:i<es.length),∃ N,NdM W b (off+i*15) N/\W.frozen? ⟨b,off+i*15,none⟩=false/\(Sized 49 es[i].1->RcN N)) ->
  ∃ l:List Nd,l.length=es.length/\NdsAt W b off l/\((∀ d∈es.map (·.1),Sized 49 d)->RcK l)
 | [],off,_=>⟨[],rfl,by rw [NdsAt];trivial,fun _=>by rw [RcK];trivial⟩
 | y::es,off,g=>by
  obtain ⟨N,hc,hz,hb⟩:=g 0 (by simp)
  obtain ⟨l,hl,hr,hR⟩:=nds_buildR es (off+15) (fun i hi=>by
   have:=g (i+1) (by simp;omega)
   rwa [show off+(i+1)*15=off+15+i*15 by omega] at this)
  refine ⟨N::l,by simp [hl],?_,fun z=>?_⟩
  ·have hc0:NdM W b off N:=by simpa using hc
   rw [NdsAt];exact ⟨hc0,by simpa using hz,hr⟩
  ·rw [RcK]
   simp only [List.getElem_cons_zero] at hb
   exact ⟨hb (z _ (by simp)),hR fun d hd=>z d (by rw [List.map_cons];exact List.mem_cons_of_mem _ hd)⟩
theorem sts_buildR {H:Type}{W:World}{b:Nat}:∀ (es:List (DataW H × List MemPlace)) (off:Nat),(∀ i (h:i<es.length),∃ S,StM W b (off+i*34) S/\(W.frozen? ⟨b,off+i*34+4,none⟩=false/\W.frozen? ⟨b,off+i*34+19,none⟩=false)/\(Sized 53 es[i].1->RcS S)) ->
  ∃ l:List St,l.length=es.length/\StsAt W b off l/\((∀ d∈es.map (·.1),Sized 53 d)->RcB l)
 | [],off,_=>⟨[],rfl,by rw [StsAt];trivial,fun _=>by rw [RcB];trivial⟩
 | y::es,off,g=>by
  obtain ⟨N,hc,hz,hb⟩:=g 0 (by simp)
  obtain ⟨l,hl,hr,hR⟩:=sts_buildR es (off+34) (fun i hi=>by
   have:=g (i+1) (by simp;omega)
   rwa [show off+(i+1)*34=off+34+i*34 by omega] at this)
  refine ⟨N::l,by simp [hl],?_,fun z=>?_⟩
  ·have hc0:StM W b off N:=by simpa using hc
   rw [StsAt];exact ⟨hc0,by simpa using hz,hr⟩
  ·rw [RcB]
   simp only [List.getElem_cons_zero] at hb
   exact ⟨hb (z _ (by simp)),hR fun d hd=>z d (by rw [List.map_cons];exact List.mem_cons_of_mem _ hd)⟩
theorem kids_openR {H:Type}{enc:TypeId × Value->H}{W:World}{fuel:Nat}{c:Value}{y:DataW H × List MemPlace}
  (ih:∀ m,m<fuel->∀ {cs:List Value}{x:DataW H × List MemPlace},DataW.trod enc Tryz.prog W 0 (fun _=>true) true m 49 cs=some x->W.noneFrozen x.2->∃ N,NdV W cs N/\(Sized 49 x.1->RcN N))
  (g:DataW.trod enc Tryz.prog W 0 (fun _=>true) true fuel 47 [c]=some y) (hz:W.noneFrozen y.2) :
  ∃ (ka:Option Addr) (kc:Nat) (l:List Nd) (b off:Nat),c=.slice ka l.length kc/\l.length<=kc/\kc<=9223372036854775807/\(l≠[]->ka=some ⟨b,off,none⟩)/\NdsAt W b off l/\(Sized 47 y.1->RcK l):=by
 rcases DataW.trod_slice Tryz.underlying47 g with ⟨hcs,_⟩ |⟨a,len,cap,elems,rest,m,hfm,hcs,hy3,_,hlc,hcm,hel,hE,-⟩
 ·simp only [List.cons.injEq,and_true] at hcs
  exact ⟨none,0,[],0,0,hcs,Nat.le_refl _,by decide,fun g=>absurd rfl g,by rw [NdsAt];trivial,fun _=>by rw [RcK];trivial⟩
 ·simp only [List.cons.injEq,and_true] at hcs
  have hyb:Sized 47 y.1->∀ d∈elems.map (·.1),Sized 49 d:=fun z=>by
   have z':Sized 47 (.slice (elems.map (·.1)) (rest.map (·.1))):=by rw [hy3] at z;exact z
   exact (Sized.slice Tryz.underlying47 z').2
  obtain ⟨b,off,spot⟩:=a
  rw [hy3] at hz
  have hzr:∀ i j,i<len->j<15->W.frozen? ⟨b,off+i*15+j,none⟩=false:=fun i j hi hj=>hz b _ (List.mem_append_left _ (by
   unfold MemPlace.row
   rw [List.mem_map]
   refine ⟨i*15+j,List.mem_range.2 ?_,by rw [Nat.add_assoc]⟩
   rw [cellsNd,hel]
   have:i*15+15<=len*15:=by have:=Nat.mul_le_mul_right 15 (show i+1<=len by omega);omega
   have h3:(len+rest.length)*15=len*15+rest.length*15:=Nat.add_mul _ _ _
   omega))
  have hze:∀ i (h:i<elems.length),W.noneFrozen elems[i].2:=fun i h b' o' hm=>hz b' o' (List.mem_append_right _ (List.mem_flatMap.2 ⟨elems[i],List.mem_append_left _ (List.getElem_mem h),hm⟩))
  have each:∀ i,i<len->∃ N cs,(∀ j (hj:j<cs.length),W.cell? (((⟨b,off,spot⟩:Addr).add (i*15)).add j)=some cs[j])/\NdV W cs N/\∀ h:i<elems.length,(Sized 49 elems[i].1->RcN N):=by
   intro i hi
   have e:=hE i hi
   rw [List.getElem?_eq_getElem (by omega),cellsNd] at e
   obtain ⟨cs',hc',ht'⟩:=Option.bind_eq_some_iff.1 e
   obtain ⟨N,hN,hB⟩:=ih m (by omega) ht' (hze i (by omega))
   obtain ⟨hlen,_,hcell⟩:=World.cells?_some hc'
   refine ⟨N,cs',fun j hj=>?_,hN,fun _=>hB⟩
   rw [hcell j (by omega)]
   simp [hj]
  by_cases h0:len=0
  ·subst h0
   exact ⟨some ⟨b,off,spot⟩,cap,[],0,0,hcs,Nat.zero_le _,by unfold maxLen at hcm;omega,fun g=>absurd rfl g,by rw [NdsAt];trivial,fun _=>by rw [RcK];trivial⟩
  ·obtain ⟨N0,cs0,hc0,hN0,-⟩:=each 0 (by omega)
   have hspot:spot=none:=by
    have:=hc0 0 (by rw [hN0.len];decide)
    simpa [Addr.add] using World.cell?_spot this
   subst hspot
   obtain ⟨l,hl2,hat,hRL⟩:=nds_buildR elems off (fun i hi=>by
    obtain ⟨N,cs,hc,hN,hR⟩:=each i (by omega)
    rw [Shape.add_plain] at hc
    exact ⟨N,⟨cs,cells_of_get hc,hN⟩,by simpa using hzr i 0 (by omega) (by decide),hR hi⟩)
   rw [hel] at hl2
   subst hl2
   exact ⟨some ⟨b,off,none⟩,cap,l,b,off,hcs,hlc,by unfold maxLen at hcm;omega,fun _=>rfl,hat,fun z=>hRL (hyb z)⟩
theorem body_openR {H:Type}{enc:TypeId × Value->H}{W:World}{fuel:Nat}{c:Value}{y:DataW H × List MemPlace}
  (ih:∀ m,m<fuel->∀ {cs:List Value}{x:DataW H × List MemPlace},DataW.trod enc Tryz.prog W 0 (fun _=>true) true m 53 cs=some x->W.noneFrozen x.2->∃ N,StV W cs N/\(Sized 53 x.1->RcS N))
  (g:DataW.trod enc Tryz.prog W 0 (fun _=>true) true fuel 22 [c]=some y) (hz:W.noneFrozen y.2) :
  ∃ (ka:Option Addr) (kc:Nat) (l:List St) (b off:Nat),c=.slice ka l.length kc/\l.length<=kc/\kc<=9223372036854775807/\(l≠[]->ka=some ⟨b,off,none⟩)/\StsAt W b off l/\(Sized 22 y.1->RcB l):=by
 rcases DataW.trod_slice Tryz.underlying22 g with ⟨hcs,_⟩ |⟨a,len,cap,elems,rest,m,hfm,hcs,hy3,_,hlc,hcm,hel,hE,-⟩
 ·simp only [List.cons.injEq,and_true] at hcs
  exact ⟨none,0,[],0,0,hcs,Nat.le_refl _,by decide,fun g=>absurd rfl g,by rw [StsAt];trivial,fun _=>by rw [RcB];trivial⟩
 ·simp only [List.cons.injEq,and_true] at hcs
  have hyb:Sized 22 y.1->∀ d∈elems.map (·.1),Sized 53 d:=fun z=>by
   have z':Sized 22 (.slice (elems.map (·.1)) (rest.map (·.1))):=by rw [hy3] at z;exact z
   exact (Sized.slice Tryz.underlying22 z').2
  obtain ⟨b,off,spot⟩:=a
  rw [hy3] at hz
  have hzr:∀ i j,i<len->j<34->W.frozen? ⟨b,off+i*34+j,none⟩=false:=fun i j hi hj=>hz b _ (List.mem_append_left _ (by
   unfold MemPlace.row
   rw [List.mem_map]
   refine ⟨i*34+j,List.mem_range.2 ?_,by rw [Nat.add_assoc]⟩
   rw [cellsSt,hel]
   have:i*34+34<=len*34:=by have:=Nat.mul_le_mul_right 34 (show i+1<=len by omega);omega
   have h3:(len+rest.length)*34=len*34+rest.length*34:=Nat.add_mul _ _ _
   omega))
  have hze:∀ i (h:i<elems.length),W.noneFrozen elems[i].2:=fun i h b' o' hm=>hz b' o' (List.mem_append_right _ (List.mem_flatMap.2 ⟨elems[i],List.mem_append_left _ (List.getElem_mem h),hm⟩))
  have each:∀ i,i<len->∃ N cs,(∀ j (hj:j<cs.length),W.cell? (((⟨b,off,spot⟩:Addr).add (i*34)).add j)=some cs[j])/\StV W cs N/\∀ h:i<elems.length,(Sized 53 elems[i].1->RcS N):=by
   intro i hi
   have e:=hE i hi
   rw [List.getElem?_eq_getElem (by omega),cellsSt] at e
   obtain ⟨cs',hc',ht'⟩:=Option.bind_eq_some_iff.1 e
   obtain ⟨N,hN,hB⟩:=ih m (by omega) ht' (hze i (by omega))
   obtain ⟨hlen,_,hcell⟩:=World.cells?_some hc'
   refine ⟨N,cs',fun j hj=>?_,hN,fun _=>hB⟩
   rw [hcell j (by omega)]
   simp [hj]
  by_cases h0:len=0
  ·subst h0
   exact ⟨some ⟨b,off,spot⟩,cap,[],0,0,hcs,Nat.zero_le _,by unfold maxLen at hcm;omega,fun g=>absurd rfl g,by rw [StsAt];trivial,fun _=>by rw [RcB];trivial⟩
  ·obtain ⟨N0,cs0,hc0,hN0,-⟩:=each 0 (by omega)
   have hspot:spot=none:=by
    have:=hc0 0 (by rw [hN0.len];decide)
    simpa [Addr.add] using World.cell?_spot this
   subst hspot
   obtain ⟨l,hl2,hat,hRL⟩:=sts_buildR elems off (fun i hi=>by
    obtain ⟨N,cs,hc,hN,hR⟩:=each i (by omega)
    rw [Shape.add_plain] at hc
    exact ⟨N,⟨cs,cells_of_get hc,hN⟩,⟨hzr i 4 (by omega) (by decide),hzr i 19 (by omega) (by decide)⟩,hR hi⟩)
   rw [hel] at hl2
   subst hl2
   exact ⟨some ⟨b,off,none⟩,cap,l,b,off,hcs,hlc,by unfold maxLen at hcm;omega,fun _=>rfl,hat,fun z=>hRL (hyb z)⟩
theorem nd_ofR {H:Type}{enc:TypeId × Value->H}{W:World}{fuel:Nat}{cs:List Value}{x:DataW H × List MemPlace}
  (ihN:∀ m,m<fuel->∀ {cs:List Value}{x:DataW H × List MemPlace},DataW.trod enc Tryz.prog W 0 (fun _=>true) true m 49 cs=some x->W.noneFrozen x.2->∃ N,NdV W cs N/\(Sized 49 x.1->RcN N))
  (ihS:∀ m,m<fuel->∀ {cs:List Value}{x:DataW H × List MemPlace},DataW.trod enc Tryz.prog W 0 (fun _=>true) true m 53 cs=some x->W.noneFrozen x.2->∃ S,StV W cs S/\(Sized 53 x.1->RcS S))
  (h:DataW.trod enc Tryz.prog W 0 (fun _=>true) true fuel 49 cs=some x) (hz:W.noneFrozen x.2):∃ N,NdV W cs N/\(Sized 49 x.1->RcN N):=by
 obtain ⟨xs,n,hfu,hx,hl,hlen,hf⟩:=DataW.trod_struct Tryz.underlying49 h
 have hlen':xs.length=12:=hlen
 obtain ⟨y0,y1,y2,y3,y4,y5,y6,y7,y8,y9,y10,y11,rfl⟩:=list12 hlen'
 rw [cellsNd] at hl
 obtain ⟨c0,c1,c2,c3,c4,c5,c6,c7,c8,c9,c10,c11,c12,c13,c14,rfl⟩:=list15 hl
 have f0':DataW.trod enc Tryz.prog W 0 (fun _=>true) true n 39 (([c0,c1,c2,c3,c4,c5,c6,c7,c8,c9,c10,c11,c12,c13,c14].drop 0).take (Tryz.prog.cellsOf 39))=some y0:=hf 0 _ rfl
 have g0:DataW.trod enc Tryz.prog W 0 (fun _=>true) true n 39 [c0]=some y0:=by
  rw [show Tryz.prog.cellsOf 39=1 by kernel_rfl] at f0'
  exact f0'
 have f1':DataW.trod enc Tryz.prog W 0 (fun _=>true) true n 3 (([c0,c1,c2,c3,c4,c5,c6,c7,c8,c9,c10,c11,c12,c13,c14].drop 1).take (Tryz.prog.cellsOf 3))=some y1:=hf 1 _ rfl
 have g1:DataW.trod enc Tryz.prog W 0 (fun _=>true) true n 3 [c1]=some y1:=by
  rw [show Tryz.prog.cellsOf 3=1 by kernel_rfl] at f1'
  exact f1'
 have f2':DataW.trod enc Tryz.prog W 0 (fun _=>true) true n 40 (([c0,c1,c2,c3,c4,c5,c6,c7,c8,c9,c10,c11,c12,c13,c14].drop 2).take (Tryz.prog.cellsOf 40))=some y2:=hf 2 _ rfl
 have g2:DataW.trod enc Tryz.prog W 0 (fun _=>true) true n 40 [c2]=some y2:=by
  rw [show Tryz.prog.cellsOf 40=1 by kernel_rfl] at f2'
  exact f2'
 have f3':DataW.trod enc Tryz.prog W 0 (fun _=>true) true n 9 (([c0,c1,c2,c3,c4,c5,c6,c7,c8,c9,c10,c11,c12,c13,c14].drop 3).take (Tryz.prog.cellsOf 9))=some y3:=hf 3 _ rfl
 have g3:DataW.trod enc Tryz.prog W 0 (fun _=>true) true n 9 [c3]=some y3:=by
  rw [show Tryz.prog.cellsOf 9=1 by kernel_rfl] at f3'
  exact f3'
 have f4':DataW.trod enc Tryz.prog W 0 (fun _=>true) true n 42 (([c0,c1,c2,c3,c4,c5,c6,c7,c8,c9,c10,c11,c12,c13,c14].drop 4).take (Tryz.prog.cellsOf 42))=some y4:=hf 4 _ rfl
 have g4:DataW.trod enc Tryz.prog W 0 (fun _=>true) true n 42 [c4]=some y4:=by
  rw [show Tryz.prog.cellsOf 42=1 by kernel_rfl] at f4'
  exact f4'
 have f5':DataW.trod enc Tryz.prog W 0 (fun _=>true) true n 41 (([c0,c1,c2,c3,c4,c5,c6,c7,c8,c9,c10,c11,c12,c13,c14].drop 5).take (Tryz.prog.cellsOf 41))=some y5:=hf 5 _ rfl
 have g5:DataW.trod enc Tryz.prog W 0 (fun _=>true) true n 41 [c5]=some y5:=by
  rw [show Tryz.prog.cellsOf 41=1 by kernel_rfl] at f5'
  exact f5'
 have f6':DataW.trod enc Tryz.prog W 0 (fun _=>true) true n 46 (([c0,c1,c2,c3,c4,c5,c6,c7,c8,c9,c10,c11,c12,c13,c14].drop 6).take (Tryz.prog.cellsOf 46))=some y6:=hf 6 _ rfl
 have g6:DataW.trod enc Tryz.prog W 0 (fun _=>true) true n 46 [c6,c7,c8,c9]=some y6:=by
  rw [show Tryz.prog.cellsOf 46=4 by kernel_rfl] at f6'
  exact f6'
 have f7':DataW.trod enc Tryz.prog W 0 (fun _=>true) true n 47 (([c0,c1,c2,c3,c4,c5,c6,c7,c8,c9,c10,c11,c12,c13,c14].drop 10).take (Tryz.prog.cellsOf 47))=some y7:=hf 7 _ rfl
 have g7:DataW.trod enc Tryz.prog W 0 (fun _=>true) true n 47 [c10]=some y7:=by
  rw [show Tryz.prog.cellsOf 47=1 by kernel_rfl] at f7'
  exact f7'
 have f8':DataW.trod enc Tryz.prog W 0 (fun _=>true) true n 22 (([c0,c1,c2,c3,c4,c5,c6,c7,c8,c9,c10,c11,c12,c13,c14].drop 11).take (Tryz.prog.cellsOf 22))=some y8:=hf 8 _ rfl
 have g8:DataW.trod enc Tryz.prog W 0 (fun _=>true) true n 22 [c11]=some y8:=by
  rw [show Tryz.prog.cellsOf 22=1 by kernel_rfl] at f8'
  exact f8'
 have f9':DataW.trod enc Tryz.prog W 0 (fun _=>true) true n 3 (([c0,c1,c2,c3,c4,c5,c6,c7,c8,c9,c10,c11,c12,c13,c14].drop 12).take (Tryz.prog.cellsOf 3))=some y9:=hf 9 _ rfl
 have g9:DataW.trod enc Tryz.prog W 0 (fun _=>true) true n 3 [c12]=some y9:=by
  rw [show Tryz.prog.cellsOf 3=1 by kernel_rfl] at f9'
  exact f9'
 have f10':DataW.trod enc Tryz.prog W 0 (fun _=>true) true n 3 (([c0,c1,c2,c3,c4,c5,c6,c7,c8,c9,c10,c11,c12,c13,c14].drop 13).take (Tryz.prog.cellsOf 3))=some y10:=hf 10 _ rfl
 have g10:DataW.trod enc Tryz.prog W 0 (fun _=>true) true n 3 [c13]=some y10:=by
  rw [show Tryz.prog.cellsOf 3=1 by kernel_rfl] at f10'
  exact f10'
 have f11':DataW.trod enc Tryz.prog W 0 (fun _=>true) true n 3 (([c0,c1,c2,c3,c4,c5,c6,c7,c8,c9,c10,c11,c12,c13,c14].drop 14).take (Tryz.prog.cellsOf 3))=some y11:=hf 11 _ rfl
 have g11:DataW.trod enc Tryz.prog W 0 (fun _=>true) true n 3 [c14]=some y11:=by
  rw [show Tryz.prog.cellsOf 3=1 by kernel_rfl] at f11'
  exact f11'
 obtain ⟨k,e0,-,w0⟩:=DataW.trod_int Tryz.underlying39 g0
 obtain ⟨a,e1,-,w1⟩:=DataW.trod_int Tryz.underlying3 g1
 obtain ⟨cl,e2,-,w2⟩:=DataW.trod_int Tryz.underlying40 g2
 obtain ⟨p,e4,-,w4⟩:=DataW.trod_int Tryz.underlying42 g4
 obtain ⟨o,e5,-,w5⟩:=DataW.trod_int Tryz.underlying41 g5
 obtain ⟨d,e9,-,w9⟩:=DataW.trod_int Tryz.underlying3 g9
 obtain ⟨s,e10,-,w10⟩:=DataW.trod_int Tryz.underlying3 g10
 obtain ⟨z,e11,-,w11⟩:=DataW.trod_int Tryz.underlying3 g11
 obtain ⟨t,e3,x3,w3⟩:=DataW.trod_string Tryz.underlying9 g3
 obtain ⟨A,d0,d1,d2,d3,e6,hA,w6⟩:=arr_cells _ g6
 have hzy:∀ y,y∈[y0,y1,y2,y3,y4,y5,y6,y7,y8,y9,y10,y11]->W.noneFrozen y.2:=fun y hy b o hm=>hz b o (by rw [hx];exact List.mem_flatMap.2 ⟨y,hy,hm⟩)
 obtain ⟨ka,kc,ks,kb,ko,e7,k1,k2,k3,k4,w7⟩:=kids_openR (fun m hm=>ihN m (by omega)) g7 (hzy y7 (by simp))
 obtain ⟨ba,bc,bd,bb,bo,e8,b1,b2,b3,b4,w8⟩:=body_openR (fun m hm=>ihS m (by omega)) g8 (hzy y8 (by simp))
 simp only [List.cons.injEq,and_true] at e0 e1 e2 e3 e4 e5 e6 e9 e10 e11
 obtain ⟨rfl,rfl,rfl,rfl⟩:=e6
 subst e0 e1 e2 e3 e4 e5 e7 e8 e9 e10 e11
 have hb3:Sized 9 y3.1->t.size<=140737488351232:=fun z=>by
  rw [x3] at z
  exact z t.data.toList.length (by simp [DataW.weights])
 have z3:Sized 49 x.1->Sized 9 y3.1:=fun z=>by rw [hx] at z;exact Sized.parts Tryz.underlying49 z (j:=3) rfl rfl
 have z6:Sized 49 x.1->Sized 46 y6.1:=fun z=>by rw [hx] at z;exact Sized.parts Tryz.underlying49 z (j:=6) rfl rfl
 have z7:Sized 49 x.1->Sized 47 y7.1:=fun z=>by rw [hx] at z;exact Sized.parts Tryz.underlying49 z (j:=7) rfl rfl
 have z8:Sized 49 x.1->Sized 22 y8.1:=fun z=>by rw [hx] at z;exact Sized.parts Tryz.underlying49 z (j:=8) rfl rfl
 refine ⟨.mk k a cl t p o A ks bd d s z,?_,fun z=>by rw [RcN];exact ⟨hb3 (z3 z),reach_count (w6 (z6 z)),w7 (z7 z),w8 (z8 z)⟩⟩
 rw [NdV]
 exact ⟨_,_,_,_,ka,kc,ba,bc,rfl,⟨i64_bd w0,i64_bd w1,i64_bd w2,i64_bd w4,i64_bd w5,i64_bd w9,i64_bd w10,i64_bd w11⟩,by unfold maxLen at w3;omega,hA,⟨k1,k2⟩,⟨b1,b2⟩,⟨kb,ko,k3,k4⟩,⟨bb,bo,b3,b4⟩⟩
theorem st_ofR {H:Type}{enc:TypeId × Value->H}{W:World}{fuel:Nat}{cs:List Value}{x:DataW H × List MemPlace}
  (ihN:∀ m,m<fuel->∀ {cs:List Value}{x:DataW H × List MemPlace},DataW.trod enc Tryz.prog W 0 (fun _=>true) true m 49 cs=some x->W.noneFrozen x.2->∃ N,NdV W cs N/\(Sized 49 x.1->RcN N))
  (h:DataW.trod enc Tryz.prog W 0 (fun _=>true) true fuel 53 cs=some x) (hz:W.noneFrozen x.2):∃ S,StV W cs S/\(Sized 53 x.1->RcS S):=by
 obtain ⟨xs,n,hfu,hx,hl,hlen,hf⟩:=DataW.trod_struct Tryz.underlying53 h
 have hlen':xs.length=6:=hlen
 obtain ⟨y0,y1,y2,y3,y4,y5,rfl⟩:=list6 hlen'
 rw [cellsSt] at hl
 obtain ⟨c0,c1,c2,c3,ct,cn,rfl,l1,l2⟩:=list34 hl
 have f0':DataW.trod enc Tryz.prog W 0 (fun _=>true) true n 51 (((c0::c1::c2::c3::(ct++cn)).drop 0).take (Tryz.prog.cellsOf 51))=some y0:=hf 0 _ rfl
 have g0:DataW.trod enc Tryz.prog W 0 (fun _=>true) true n 51 [c0]=some y0:=by
  rw [show Tryz.prog.cellsOf 51=1 by kernel_rfl] at f0'
  exact f0'
 have f1':DataW.trod enc Tryz.prog W 0 (fun _=>true) true n 3 (((c0::c1::c2::c3::(ct++cn)).drop 1).take (Tryz.prog.cellsOf 3))=some y1:=hf 1 _ rfl
 have g1:DataW.trod enc Tryz.prog W 0 (fun _=>true) true n 3 [c1]=some y1:=by
  rw [show Tryz.prog.cellsOf 3=1 by kernel_rfl] at f1'
  exact f1'
 have f2':DataW.trod enc Tryz.prog W 0 (fun _=>true) true n 9 (((c0::c1::c2::c3::(ct++cn)).drop 2).take (Tryz.prog.cellsOf 9))=some y2:=hf 2 _ rfl
 have g2:DataW.trod enc Tryz.prog W 0 (fun _=>true) true n 9 [c2]=some y2:=by
  rw [show Tryz.prog.cellsOf 9=1 by kernel_rfl] at f2'
  exact f2'
 have f3':DataW.trod enc Tryz.prog W 0 (fun _=>true) true n 3 (((c0::c1::c2::c3::(ct++cn)).drop 3).take (Tryz.prog.cellsOf 3))=some y3:=hf 3 _ rfl
 have g3:DataW.trod enc Tryz.prog W 0 (fun _=>true) true n 3 [c3]=some y3:=by
  rw [show Tryz.prog.cellsOf 3=1 by kernel_rfl] at f3'
  exact f3'
 have f4':DataW.trod enc Tryz.prog W 0 (fun _=>true) true n 49 (((c0::c1::c2::c3::(ct++cn)).drop 4).take (Tryz.prog.cellsOf 49))=some y4:=hf 4 _ rfl
 have g4:DataW.trod enc Tryz.prog W 0 (fun _=>true) true n 49 ct=some y4:=by
  rw [show Tryz.prog.cellsOf 49=15 by kernel_rfl] at f4'
  simpa [List.take_append,l1] using f4'
 have f5':DataW.trod enc Tryz.prog W 0 (fun _=>true) true n 49 (((c0::c1::c2::c3::(ct++cn)).drop 19).take (Tryz.prog.cellsOf 49))=some y5:=hf 5 _ rfl
 have g5:DataW.trod enc Tryz.prog W 0 (fun _=>true) true n 49 cn=some y5:=by
  rw [show Tryz.prog.cellsOf 49=15 by kernel_rfl] at f5'
  simpa [List.drop_append,List.drop_eq_nil_of_le,l1,l2,List.take_of_length_le] using f5'
 obtain ⟨k,e0,-,w0⟩:=DataW.trod_int Tryz.underlying51 g0
 obtain ⟨a,e1,-,w1⟩:=DataW.trod_int Tryz.underlying3 g1
 obtain ⟨s,e3,-,w3⟩:=DataW.trod_int Tryz.underlying3 g3
 obtain ⟨t,e2,x2,w2⟩:=DataW.trod_string Tryz.underlying9 g2
 have hzy:∀ y,y∈[y0,y1,y2,y3,y4,y5]->W.noneFrozen y.2:=fun y hy b o hm=>hz b o (by rw [hx];exact List.mem_flatMap.2 ⟨y,hy,hm⟩)
 obtain ⟨T,hT,w4⟩:=ihN n (by omega) g4 (hzy y4 (by simp))
 obtain ⟨N,hN,w5⟩:=ihN n (by omega) g5 (hzy y5 (by simp))
 simp only [List.cons.injEq,and_true] at e0 e1 e2 e3
 subst e0 e1 e2 e3
 have hb3:Sized 9 y2.1->t.size<=140737488351232:=fun z=>by
  rw [x2] at z
  exact z t.data.toList.length (by simp [DataW.weights])
 have z2:Sized 53 x.1->Sized 9 y2.1:=fun z=>by rw [hx] at z;exact Sized.parts Tryz.underlying53 z (j:=2) rfl rfl
 have z4:Sized 53 x.1->Sized 49 y4.1:=fun z=>by rw [hx] at z;exact Sized.parts Tryz.underlying53 z (j:=4) rfl rfl
 have z5:Sized 53 x.1->Sized 49 y5.1:=fun z=>by rw [hx] at z;exact Sized.parts Tryz.underlying53 z (j:=5) rfl rfl
 refine ⟨.mk k a t s T N,?_,fun z=>by rw [RcS];exact ⟨hb3 (z2 z),w4 (z4 z),w5 (z5 z)⟩⟩
 rw [StV]
 exact ⟨ct,cn,rfl,⟨i64_bd w0,i64_bd w1,i64_bd w3⟩,by unfold maxLen at w2;omega,hT,hN⟩
theorem nd_st_cellsR {H:Type}{enc:TypeId × Value->H}{W:World}(fuel:Nat) :
  (∀ {cs:List Value}{x:DataW H × List MemPlace},DataW.trod enc Tryz.prog W 0 (fun _=>true) true fuel 49 cs=some x->W.noneFrozen x.2->∃ N,NdV W cs N/\(Sized 49 x.1->RcN N)) /\
  (∀ {cs:List Value}{x:DataW H × List MemPlace},DataW.trod enc Tryz.prog W 0 (fun _=>true) true fuel 53 cs=some x->W.noneFrozen x.2->∃ S,StV W cs S/\(Sized 53 x.1->RcS S)):=by
 induction fuel using Nat.strongRecOn with
 | ind fuel ih =>
  exact ⟨fun h hz=>nd_ofR (fun m hm=>(ih m hm).1) (fun m hm=>(ih m hm).2) h hz,fun h hz=>st_ofR (fun m hm=>(ih m hm).1) h hz⟩
theorem prog_arg {H:Type}{enc:TypeId × Value->H}{W:World}{base:Nat}{v:Value}{d:DataW H}{ps:List MemPlace}
  (hok:Value.okWide Tryz.prog W .any base 24 v) (hj:DataW.Trod enc Tryz.prog W 0 (fun _=>true) true 24 v d ps) (hz:W.noneFrozen ps) :
  ∃ (ba:Option Addr) (bc:Nat) (l:List St) (bb bo:Nat),v=.agg #[.slice ba l.length bc]/\(l.length<=bc/\bc<=9223372036854775807)/\(l≠[]->ba=some ⟨bb,bo,none⟩)/\StsAt W bb bo l/\(Sized 24 d->RcB l):=by
 obtain ⟨cs,rfl,hsz⟩:=okWide_struct Tryz.underlying24 hok
 obtain ⟨fuel,hf⟩:=hj
 obtain ⟨xs,n,hfu,hx,hl,hlen,hf⟩:=DataW.trod_struct Tryz.underlying24 hf
 have hlen':xs.length=1:=hlen
 obtain ⟨y0,rfl⟩:∃ y0,xs=[y0]:=by
  match xs,hlen' with
  | [y0],_=>exact ⟨y0,rfl⟩
 rw [show Tryz.prog.cellsOf 24=1 by kernel_rfl] at hl
 obtain ⟨cl⟩:=cs
 obtain ⟨c0,rfl⟩:∃ c0,cl=[c0]:=by
  match cl,hl with
  | [c0],_=>exact ⟨c0,rfl⟩
 have f0:DataW.trod enc Tryz.prog W 0 (fun _=>true) true n 22 (([c0].drop 0).take (Tryz.prog.cellsOf 22))=some y0:=hf 0 _ rfl
 have g0:DataW.trod enc Tryz.prog W 0 (fun _=>true) true n 22 [c0]=some y0:=by
  rw [show Tryz.prog.cellsOf 22=1 by kernel_rfl] at f0
  exact f0
 simp only [Prod.mk.injEq] at hx
 obtain ⟨hx1,hx2⟩:=hx
 obtain ⟨ba,bc,l,bb,bo,e,h1,h2,h3,h4,h5⟩:=body_openR (fun m hm=>(nd_st_cellsR m).2) g0 (fun b o hm=>hz b o (by rw [hx2];exact List.mem_flatMap.2 ⟨y0,by simp,hm⟩))
 subst e
 exact ⟨ba,bc,l,bb,bo,rfl,⟨h1,h2⟩,h3,h4,fun z=>h5 (by rw [hx1] at z;exact Sized.parts Tryz.underlying24 z (j:=0) rfl rfl)⟩
end Go.Proofs.YtalkinnbfglkdaaGreatDoor.Syn
