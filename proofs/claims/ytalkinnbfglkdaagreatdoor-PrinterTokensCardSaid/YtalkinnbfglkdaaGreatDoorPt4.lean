/-
  Layer 3: the reference's check and Right.
  Layer 3: the reference's Right, Shapes, Same, Few, Small and SmallList.
  Layer 10: syntax trees as plain data, and what is said of them: depth, size, equality.
  Layer 10: what it means that cells of a memory hold a node or a statement.
  Layer 10: depth and size, part by part; where kids and statements lie; a parameter that is a node.
  Layer 3: the reference's Fill: arrays that the call itself makes.
-/
import Derived.Test.YtalkinnbfglkdaaGreatDoorPt1
import Derived.Deep.RegionWith
import Derived.Deep.RegionHeld3
import Derived.Deep.DeepCutAuto
import Derived.StillTailTactics
namespace Go.Proofs.YtalkinnbfglkdaaGreatDoor.Shape
open Go.RowKit
theorem ArrAt.drew {w:World}{v:Value}{A:Arr}(h:ArrAt w v A):ArrAt w.drew v A:=h.below (Below.refl _ _).drew
theorem IntsAt.drew {w:World}{a:Option Addr}{cap:Nat}{xs:List Int}(h:IntsAt w a cap xs):IntsAt w.drew a cap xs:=h
theorem Par.drew {w:World}{B:Nat}{c0 c1 c2 c3:Value}(h:Par w B c0 c1 c2 c3):Par w.drew B c0 c1 c2 c3:=h
theorem below_drew (w:World):Below w.heap.size w w.drew:=(Below.refl _ _).drew
theorem below_drewN {w:World}(k:Nat):Below w.heap.size w (w.drewN k):=⟨rfl,rfl,rfl,Nat.le_refl _,fun _ _=>rfl⟩
def rightE (A:Arr):Int:=(chk A).1
def sameB (xs ys:List Int):Bool:=decide (xs=ys)
theorem same_len {xs ys:List Int}(h:¬ xs.length=ys.length):sameB xs ys=false:=by
 simp only [sameB,decide_eq_false_iff_not];intro e;exact h (by rw [e])
theorem same_at {xs ys:List Int}{k:Nat}(h1:k<xs.length) (h2:k<ys.length) (h:¬ xs[k]=ys[k]):sameB xs ys=false:=by
 simp only [sameB,decide_eq_false_iff_not];intro e;subst e;exact h rfl
theorem same_all {xs ys:List Int}(h:xs.length=ys.length) (h2:∀ i (h1:i<xs.length) (h2:i<ys.length),xs[i]=ys[i]):sameB xs ys=true:=by
 simp only [sameB,decide_eq_true_eq];exact List.ext_getElem h h2
mutual
def eqA:Arr->Arr->Bool
 | .mk k sh nu it,.mk k2 sh2 nu2 it2=>k==k2&&sameB sh sh2&&sameB nu nu2&&eqL it it2
def eqL:List Arr->List Arr->Bool
 | [],[]=>true
 | A::r,B::s=>eqA A B&&eqL r s
 | _,_=>false
end
theorem eqL_len:∀ (l m:List Arr),¬ l.length=m.length->eqL l m=false
 | [],[],h=>absurd rfl h
 | [],_::_,_=>by rw [eqL] <;> simp
 | _::_,[],_=>by rw [eqL] <;> simp
 | A::r,B::s,h=>by
  rw [eqL,eqL_len r s (fun e=>h (by simp [e]))];simp
theorem eqL_at:∀ (l m:List Arr) (j:Nat) (h1:j<l.length) (h2:j<m.length),eqA l[j] m[j]=false->eqL l m=false
 | [],_,_,h,_,_=>absurd h (by simp)
 | _::_,[],_,_,h,_=>absurd h (by simp)
 | A::r,B::s,0,_,_,h=>by rw [eqL];simp at h;rw [h];rfl
 | A::r,B::s,j+1,h1,h2,h=>by
  rw [eqL,eqL_at r s j (by simpa using h1) (by simpa using h2) (by simpa using h)];simp
theorem eqL_all:∀ (l m:List Arr),l.length=m.length->(∀ j (h1:j<l.length) (h2:j<m.length),eqA l[j] m[j]=true)->eqL l m=true
 | [],[],_,_=>by rw [eqL]
 | [],_::_,h,_=>by simp at h
 | _::_,[],h,_=>by simp at h
 | A::r,B::s,h,g=>by
  have g0:=g 0 (by simp) (by simp)
  simp only [List.getElem_cons_zero] at g0
  rw [eqL,g0,eqL_all r s (by simpa using h) (fun j h1 h2=>g (j+1) (Nat.succ_lt_succ h1) (Nat.succ_lt_succ h2))];rfl
end Go.Proofs.YtalkinnbfglkdaaGreatDoor.Shape
namespace Go.Proofs.YtalkinnbfglkdaaGreatDoor.Syn
open Go.RowKit Go.Proofs.YtalkinnbfglkdaaGreatDoor.Shape
mutual
inductive Nd where
 | mk (k a c:Int) (t:ByteArray) (p o:Int) (v:Arr) (ks:List Nd) (bd:List St) (d s z:Int)
inductive St where
 | mk (k a:Int) (n:ByteArray) (s:Int) (te nd:Nd)
end
namespace Nd
def k:Nd->Int | mk k _ _ _ _ _ _ _ _ _ _ _=>k
def a:Nd->Int | mk _ a _ _ _ _ _ _ _ _ _ _=>a
def c:Nd->Int | mk _ _ c _ _ _ _ _ _ _ _ _=>c
def t:Nd->ByteArray | mk _ _ _ t _ _ _ _ _ _ _ _=>t
def p:Nd->Int | mk _ _ _ _ p _ _ _ _ _ _ _=>p
def o:Nd->Int | mk _ _ _ _ _ o _ _ _ _ _ _=>o
def v:Nd->Arr | mk _ _ _ _ _ _ v _ _ _ _ _=>v
def ks:Nd->List Nd | mk _ _ _ _ _ _ _ ks _ _ _ _=>ks
def bd:Nd->List St | mk _ _ _ _ _ _ _ _ bd _ _ _=>bd
def d:Nd->Int | mk _ _ _ _ _ _ _ _ _ d _ _=>d
def s:Nd->Int | mk _ _ _ _ _ _ _ _ _ _ s _=>s
def z:Nd->Int | mk _ _ _ _ _ _ _ _ _ _ _ z=>z
end Nd
namespace St
def k:St->Int | mk k _ _ _ _ _=>k
def a:St->Int | mk _ a _ _ _ _=>a
def n:St->ByteArray | mk _ _ n _ _ _=>n
def s:St->Int | mk _ _ _ s _ _=>s
def te:St->Nd | mk _ _ _ _ te _=>te
def nd:St->Nd | mk _ _ _ _ _ nd=>nd
end St
def zA:Arr:=.mk 0 [] [] []
def zN:Nd:=.mk 0 0 0 ⟨#[]⟩ 0 0 zA [] [] 0 0 0
mutual
def rkN:Nd->Nat
 | .mk _ _ _ _ _ _ _ ks bd _ _ _=>rkK ks+rkB bd+1
def rkK:List Nd->Nat
 | []=>0
 | N::r=>rkN N+rkK r
def rkS:St->Nat
 | .mk _ _ _ _ te nd=>rkN te+rkN nd
def rkB:List St->Nat
 | []=>0
 | S::r=>rkS S+rkB r
end
mutual
def dep:Nd->Nat
 | .mk _ _ _ _ _ _ _ ks bd _ _ _=>max (depK ks) (depB bd)+1
def depK:List Nd->Nat
 | []=>0
 | N::r=>max (dep N) (depK r)
def depS:St->Nat
 | .mk k _ _ _ te nd=>max (if k==3 then dep te else 0) (dep nd)
def depB:List St->Nat
 | []=>0
 | S::r=>max (depS S) (depB r)
end
mutual
def siz:Nd->Nat
 | .mk _ _ _ _ _ _ _ ks bd _ _ _=>sizK ks+sizB bd+1
def sizK:List Nd->Nat
 | []=>0
 | N::r=>siz N+sizK r
def sizS:St->Nat
 | .mk k _ _ _ te nd=>(if k==3 then siz te else 0)+siz nd
def sizB:List St->Nat
 | []=>0
 | S::r=>sizS S+sizB r
end
mutual
def eqN:Nd->Nd->Bool
 | .mk k _ c t p o v ks bd _ _ _,.mk k2 _ c2 t2 p2 o2 v2 ks2 bd2 _ _ _=>k==k2&&c==c2&&t==t2&&p==p2&&o==o2&&eqA v v2&&eqK ks ks2&&eqB bd bd2
def eqK:List Nd->List Nd->Bool
 | [],[]=>true
 | N::r,M::q=>eqN N M&&eqK r q
 | _,_=>false
def eqS:St->St->Bool
 | .mk k _ n _ te nd,.mk k2 _ n2 _ te2 nd2=>k==k2&&n==n2&&eqN te te2&&eqN nd nd2
def eqB:List St->List St->Bool
 | [],[]=>true
 | S::r,T::q=>eqS S T&&eqB r q
 | _,_=>false
end
theorem rkN_pos (N:Nd):1<=rkN N:=by cases N;rw [rkN];omega
theorem rkK_at:∀ {l:List Nd}{j:Nat}(h:j<l.length),rkN l[j]<=rkK l
 | [],_,h=>absurd h (by simp)
 | N::r,0,_=>by simp only [List.getElem_cons_zero,rkK];omega
 | N::r,j+1,h=>by
  have:=rkK_at (l:=r) (j:=j) (by simpa using h)
  simp only [List.getElem_cons_succ,rkK];omega
theorem rkB_at:∀ {l:List St}{j:Nat}(h:j<l.length),rkN l[j].te+rkN l[j].nd<=rkB l
 | [],_,h=>absurd h (by simp)
 | .mk _ _ _ _ te nd::r,0,_=>by simp only [List.getElem_cons_zero,rkB,rkS,St.te,St.nd];omega
 | S::r,j+1,h=>by
  have:=rkB_at (l:=r) (j:=j) (by simpa using h)
  simp only [List.getElem_cons_succ,rkB];omega
theorem rk_kid (N:Nd) {j:Nat}(h:j<N.ks.length):rkN N.ks[j]<rkN N:=by
 cases N with | mk k a c t p o v ks bd d s z =>
 have:=rkK_at (l:=ks) h
 simp only [Nd.ks,rkN];omega
theorem rk_body (N:Nd) {j:Nat}(h:j<N.bd.length):rkN N.bd[j].te<rkN N/\rkN N.bd[j].nd<rkN N:=by
 cases N with | mk k a c t p o v ks bd d s z =>
 have:=rkB_at (l:=bd) h
 have h1:=rkN_pos bd[j].te
 have h2:=rkN_pos bd[j].nd
 simp only [Nd.bd,rkN];omega
theorem eqK_len:∀ (l m:List Nd),¬ l.length=m.length->eqK l m=false
 | [],[],h=>absurd rfl h
 | [],_::_,_=>by rw [eqK] <;> simp
 | _::_,[],_=>by rw [eqK] <;> simp
 | N::r,M::q,h=>by
  rw [eqK,eqK_len r q (fun e=>h (by simp [e]))];simp
theorem eqK_at:∀ (l m:List Nd) (j:Nat) (h1:j<l.length) (h2:j<m.length),eqN l[j] m[j]=false->eqK l m=false
 | [],_,_,h,_,_=>absurd h (by simp)
 | _::_,[],_,_,h,_=>absurd h (by simp)
 | N::r,M::q,0,_,_,h=>by rw [eqK];simp at h;rw [h];rfl
 | N::r,M::q,j+1,h1,h2,h=>by
  rw [eqK,eqK_at r q j (by simpa using h1) (by simpa using h2) (by simpa using h)];simp
theorem eqK_all:∀ (l m:List Nd),l.length=m.length->(∀ j (h1:j<l.length) (h2:j<m.length),eqN l[j] m[j]=true)->eqK l m=true
 | [],[],_,_=>by rw [eqK]
 | [],_::_,h,_=>by simp at h
 | _::_,[],h,_=>by simp at h
 | N::r,M::q,h,g=>by
  have g0:=g 0 (by simp) (by simp)
  simp only [List.getElem_cons_zero] at g0
  rw [eqK,g0,eqK_all r q (by simpa using h) (fun j h1 h2=>g (j+1) (Nat.succ_lt_succ h1) (Nat.succ_lt_succ h2))];rfl
theorem eqB_len:∀ (l m:List St),¬ l.length=m.length->eqB l m=false
 | [],[],h=>absurd rfl h
 | [],_::_,_=>by rw [eqB] <;> simp
 | _::_,[],_=>by rw [eqB] <;> simp
 | N::r,M::q,h=>by
  rw [eqB,eqB_len r q (fun e=>h (by simp [e]))];simp
theorem eqB_at:∀ (l m:List St) (j:Nat) (h1:j<l.length) (h2:j<m.length),eqS l[j] m[j]=false->eqB l m=false
 | [],_,_,h,_,_=>absurd h (by simp)
 | _::_,[],_,_,h,_=>absurd h (by simp)
 | N::r,M::q,0,_,_,h=>by rw [eqB];simp at h;rw [h];rfl
 | N::r,M::q,j+1,h1,h2,h=>by
  rw [eqB,eqB_at r q j (by simpa using h1) (by simpa using h2) (by simpa using h)];simp
theorem eqB_all:∀ (l m:List St),l.length=m.length->(∀ j (h1:j<l.length) (h2:j<m.length),eqS l[j] m[j]=true)->eqB l m=true
 | [],[],_,_=>by rw [eqB]
 | [],_::_,h,_=>by simp at h
 | _::_,[],h,_=>by simp at h
 | N::r,M::q,h,g=>by
  have g0:=g 0 (by simp) (by simp)
  simp only [List.getElem_cons_zero] at g0
  rw [eqB,g0,eqB_all r q (by simpa using h) (fun j h1 h2=>g (j+1) (Nat.succ_lt_succ h1) (Nat.succ_lt_succ h2))];rfl
theorem ba_beq (a b:ByteArray):(a==b)=decide (a=b):=by
 cases a with | mk x=>cases b with | mk y =>
 show (x==y)=_
 by_cases h:x=y
 ·subst h;simp
 ·simp [h]
theorem str_eq (a b:ByteArray):(a.toList==b.toList)=decide (a=b):=by
 rw [ByteArray.toList_eq,ByteArray.toList_eq]
 by_cases h:a=b
 ·subst h;simp
 ·have:a.data.toList≠b.data.toList:=fun e=>h (by
   cases a with | mk x=>cases b with | mk y=>exact congrArg ByteArray.mk (Array.toList_inj.1 e))
  rw [decide_eq_false h]
  exact beq_eq_false_iff_ne.2 this
theorem str_yes {a b:ByteArray}(h:a=b):(a.toList==b.toList)=true:=by rw [str_eq];simpa using h
theorem str_no {a b:ByteArray}(h:¬ a=b):(a.toList==b.toList)=false:=by rw [str_eq];simpa using h
theorem ba_yes {a b:ByteArray}(h:a=b):(a==b)=true:=by rw [ba_beq];simpa using h
theorem ba_no {a b:ByteArray}(h:¬ a=b):(a==b)=false:=by rw [ba_beq];simpa using h
end Go.Proofs.YtalkinnbfglkdaaGreatDoor.Syn
namespace Go.Proofs.YtalkinnbfglkdaaGreatDoor.Syn
open Go.RowKit Go.Proofs.YtalkinnbfglkdaaGreatDoor.Shape
set_option maxRecDepth 100000
def Cells (w:World) (b off:Nat) (cs:List Value):Prop:=∀ i (h:i<cs.length),w.cell? ⟨b,off+i,none⟩=some cs[i]
def I64 (x:Int):Prop:=-9223372036854775808<=x/\x<=9223372036854775807
mutual
def NdV (w:World) (cs:List Value):Nd->Prop
 | .mk k a c t p o v ks bd d s z=>∃ (v0 v1 v2 v3:Value) (ka:Option Addr) (kc:Nat) (ba:Option Addr) (bc:Nat),
  cs=[.int .i64 k,.int .i64 a,.int .i64 c,.string t,.int .i64 p,.int .i64 o,v0,v1,v2,v3,.slice ka (List.length ks) kc,.slice ba (List.length bd) bc,.int .i64 d,.int .i64 s,.int .i64 z] /\
  (I64 k/\I64 a/\I64 c/\I64 p/\I64 o/\I64 d/\I64 s/\I64 z)/\t.size<=9223372036854775807/\ArrAt w (.agg #[v0,v1,v2,v3]) v/\(ks.length<=kc/\kc<=9223372036854775807)/\(bd.length<=bc/\bc<=9223372036854775807) /\
  (∃ b off:Nat,(ks≠[]->ka=some ⟨b,off,none⟩)/\NdsAt w b off ks)/\(∃ b off:Nat,(bd≠[]->ba=some ⟨b,off,none⟩)/\StsAt w b off bd)
def NdsAt (w:World) (b off:Nat):List Nd->Prop
 | []=>True
 | N::r=>(∃ cs,Cells w b off cs/\NdV w cs N)/\w.frozen? ⟨b,off,none⟩=false/\NdsAt w b (off+15) r
def StV (w:World) (cs:List Value):St->Prop
 | .mk k a n s te nd=>∃ ct cn:List Value,cs=.int .i64 k::.int .i64 a::.string n::.int .i64 s::(ct++cn)/\(I64 k/\I64 a/\I64 s)/\n.size<=9223372036854775807/\NdV w ct te/\NdV w cn nd
def StsAt (w:World) (b off:Nat):List St->Prop
 | []=>True
 | S::r=>(∃ cs,Cells w b off cs/\StV w cs S)/\(w.frozen? ⟨b,off+4,none⟩=false/\w.frozen? ⟨b,off+19,none⟩=false)/\StsAt w b (off+34) r
end
theorem Cells.below {w w':World}{b off:Nat}{cs:List Value}(hb:Below w.heap.size w w') (h:Cells w b off cs):Cells w' b off cs:=fun i hi=>(hb.cell (cell_lt (h i hi))).trans (h i hi)
theorem NdV.pos {w:World}{cs:List Value}{N:Nd}(h:NdV w cs N):0<cs.length:=by
 cases N;rw [NdV] at h;obtain ⟨v0,v1,v2,v3,ka,kc,ba,bc,rfl,-⟩:=h;exact Nat.zero_lt_succ _
theorem StV.pos {w:World}{cs:List Value}{S:St}(h:StV w cs S):0<cs.length:=by
 cases S;rw [StV] at h;obtain ⟨ct,cn,rfl,-⟩:=h;exact Nat.zero_lt_succ _
theorem Cells.lt {w:World}{b off:Nat}{cs:List Value}(h:Cells w b off cs) (hl:0<cs.length):b<w.heap.size:=cell_lt (h 0 hl)
mutual
theorem NdV.below {w w':World}(hb:Below w.heap.size w w'):∀ {cs:List Value}{N:Nd},NdV w cs N->NdV w' cs N
 | _,.mk k a c t p o v ks bd d s z,h=>by
  rw [NdV] at h ⊢
  obtain ⟨v0,v1,v2,v3,ka,kc,ba,bc,e,hi,ht,hv,h1,h2,⟨b,off,h3,h4⟩,⟨b',off',h5,h6⟩⟩:=h
  exact ⟨v0,v1,v2,v3,ka,kc,ba,bc,e,hi,ht,hv.below hb,h1,h2,⟨b,off,h3,NdsAt.below hb h4⟩,⟨b',off',h5,StsAt.below hb h6⟩⟩
theorem NdsAt.below {w w':World}(hb:Below w.heap.size w w'):∀ {b off:Nat}{l:List Nd},NdsAt w b off l->NdsAt w' b off l
 | _,_,[],_=>by rw [NdsAt];trivial
 | b,off,N::r,h=>by
  rw [NdsAt] at h ⊢
  obtain ⟨⟨cs,h1,h2⟩,hf,h3⟩:=h
  exact ⟨⟨cs,h1.below hb,NdV.below hb h2⟩,(hb.frozen (p:=⟨b,off,none⟩) (h1.lt h2.pos)).trans hf,NdsAt.below hb h3⟩
theorem StV.below {w w':World}(hb:Below w.heap.size w w'):∀ {cs:List Value}{S:St},StV w cs S->StV w' cs S
 | _,.mk k a n s te nd,h=>by
  rw [StV] at h ⊢
  obtain ⟨ct,cn,e,hi,hs,h1,h2⟩:=h
  exact ⟨ct,cn,e,hi,hs,NdV.below hb h1,NdV.below hb h2⟩
theorem StsAt.below {w w':World}(hb:Below w.heap.size w w'):∀ {b off:Nat}{l:List St},StsAt w b off l->StsAt w' b off l
 | _,_,[],_=>by rw [StsAt];trivial
 | b,off,N::r,h=>by
  rw [StsAt] at h ⊢
  obtain ⟨⟨cs,h1,h2⟩,⟨hf,hg⟩,h3⟩:=h
  exact ⟨⟨cs,h1.below hb,StV.below hb h2⟩,⟨(hb.frozen (p:=⟨b,off+4,none⟩) (h1.lt h2.pos)).trans hf,(hb.frozen (p:=⟨b,off+19,none⟩) (h1.lt h2.pos)).trans hg⟩,StsAt.below hb h3⟩
end
def NdM (w:World) (b off:Nat) (N:Nd):Prop:=∃ cs,Cells w b off cs/\NdV w cs N
def StM (w:World) (b off:Nat) (S:St):Prop:=∃ cs,Cells w b off cs/\StV w cs S
theorem NdM.below {w w':World}{b off:Nat}{N:Nd}(h:NdM w b off N) (hb:Below w.heap.size w w'):NdM w' b off N:=by
 obtain ⟨cs,h1,h2⟩:=h;exact ⟨cs,h1.below hb,h2.below hb⟩
theorem StM.below {w w':World}{b off:Nat}{S:St}(h:StM w b off S) (hb:Below w.heap.size w w'):StM w' b off S:=by
 obtain ⟨cs,h1,h2⟩:=h;exact ⟨cs,h1.below hb,h2.below hb⟩
theorem NdsAt.at {w:World}:∀ {l:List Nd}{b off:Nat},NdsAt w b off l->∀ {j:Nat}(hj:j<l.length),NdM w b (off+j*15) l[j]
 | [],_,_,_,j,hj=>absurd hj (by simp)
 | N::r,b,off,h,j,hj=>by
  rw [NdsAt] at h
  cases j with
  | zero =>
   have h1:NdM w b off N:=h.1
   simpa using h1
  | succ j =>
   have:=NdsAt.at h.2.2 (j:=j) (by simpa using hj)
   have e:off+15+j*15=off+(j+1)*15:=by omega
   rw [e] at this
   simpa using this
theorem StsAt.at {w:World}:∀ {l:List St}{b off:Nat},StsAt w b off l->∀ {j:Nat}(hj:j<l.length),StM w b (off+j*34) l[j]
 | [],_,_,_,j,hj=>absurd hj (by simp)
 | N::r,b,off,h,j,hj=>by
  rw [StsAt] at h
  cases j with
  | zero =>
   have h1:StM w b off N:=h.1
   simpa using h1
  | succ j =>
   have:=StsAt.at h.2.2 (j:=j) (by simpa using hj)
   have e:off+34+j*34=off+(j+1)*34:=by omega
   rw [e] at this
   simpa using this
theorem NdsAt.soft {w:World}:∀ {l:List Nd}{b off:Nat},NdsAt w b off l->∀ {j:Nat},j<l.length->w.frozen? ⟨b,off+j*15,none⟩=false
 | [],_,_,_,j,hj=>absurd hj (by simp)
 | N::r,b,off,h,j,hj=>by
  rw [NdsAt] at h
  cases j with
  | zero=>simpa using h.2.1
  | succ j =>
   have:=NdsAt.soft h.2.2 (j:=j) (by simpa using hj)
   have e:off+15+j*15=off+(j+1)*15:=by omega
   rwa [e] at this
theorem StsAt.soft {w:World}:∀ {l:List St}{b off:Nat},StsAt w b off l->∀ {j:Nat},j<l.length->w.frozen? ⟨b,off+j*34+4,none⟩=false/\w.frozen? ⟨b,off+j*34+19,none⟩=false
 | [],_,_,_,j,hj=>absurd hj (by simp)
 | N::r,b,off,h,j,hj=>by
  rw [StsAt] at h
  cases j with
  | zero=>simpa using h.2.1
  | succ j =>
   have:=StsAt.soft h.2.2 (j:=j) (by simpa using hj)
   have e:off+34+j*34=off+(j+1)*34:=by omega
   rwa [e] at this
theorem Cells.cell {w:World}{b off:Nat}{cs:List Value}(h:Cells w b off cs) (i:Nat) {v:Value}(hv:cs[i]?=some v):w.cell? ⟨b,off+i,none⟩=some v:=by
 obtain ⟨hi,e⟩:=List.getElem?_eq_some_iff.1 hv
 rw [h i hi,e]
theorem cells_app {w:World}{b off:Nat}{xs ys:List Value}(h:Cells w b off (xs++ys)):Cells w b off xs/\Cells w b (off+xs.length) ys:=by
 constructor
 ·intro i hi
  have:=h i (by simp;omega)
  rwa [List.getElem_append_left hi] at this
 ·intro i hi
  have:=h (xs.length+i) (by simp;omega)
  rw [List.getElem_append_right (by omega)] at this
  simpa [Nat.add_assoc] using this
theorem NdV.len {w:World}{cs:List Value}{N:Nd}(h:NdV w cs N):cs.length=15:=by
 cases N;rw [NdV] at h;obtain ⟨v0,v1,v2,v3,ka,kc,ba,bc,rfl,-⟩:=h;rfl
theorem StM.test {w:World}{b off:Nat}{S:St}(h:StM w b off S):NdM w b (off+4) S.te:=by
 obtain ⟨cs,h1,h2⟩:=h
 cases S with | mk k a n s te nd =>
 rw [StV] at h2
 obtain ⟨ct,cn,rfl,-,-,h3,-⟩:=h2
 have:=cells_app (xs:=[.int .i64 k,.int .i64 a,.string n,.int .i64 s]) (ys:=ct++cn) h1
 exact ⟨ct,(cells_app this.2).1,h3⟩
theorem StM.node {w:World}{b off:Nat}{S:St}(h:StM w b off S):NdM w b (off+19) S.nd:=by
 obtain ⟨cs,h1,h2⟩:=h
 cases S with | mk k a n s te nd =>
 rw [StV] at h2
 obtain ⟨ct,cn,rfl,-,-,h3,h4⟩:=h2
 have:=cells_app (xs:=[.int .i64 k,.int .i64 a,.string n,.int .i64 s]) (ys:=ct++cn) h1
 have e:=(cells_app this.2).2
 rw [h3.len] at e
 exact ⟨cn,by simpa [Nat.add_assoc] using e,h4⟩
theorem StM.head {w:World}{b off:Nat}{S:St}(h:StM w b off S):w.cell? ⟨b,off,none⟩=some (.int .i64 S.k)/\w.cell? ⟨b,off+1,none⟩=some (.int .i64 S.a)/\w.cell? ⟨b,off+2,none⟩=some (.string S.n)/\w.cell? ⟨b,off+3,none⟩=some (.int .i64 S.s):=by
 obtain ⟨cs,h1,h2⟩:=h
 cases S with | mk k a n s te nd =>
 rw [StV] at h2
 obtain ⟨ct,cn,rfl,-⟩:=h2
 exact ⟨h1.cell 0 rfl,h1.cell 1 rfl,h1.cell 2 rfl,h1.cell 3 rfl⟩
structure Open (w:World) (cs:List Value) (N:Nd) (v0 v1 v2 v3:Value) (ka:Option Addr) (kc:Nat) (ba:Option Addr) (bc:Nat) (kb ko bb bo:Nat):Prop where
 eq:cs=[.int .i64 N.k,.int .i64 N.a,.int .i64 N.c,.string N.t,.int .i64 N.p,.int .i64 N.o,v0,v1,v2,v3,.slice ka N.ks.length kc,.slice ba N.bd.length bc,.int .i64 N.d,.int .i64 N.s,.int .i64 N.z]
 bd:I64 N.k/\I64 N.a/\I64 N.c/\I64 N.p/\I64 N.o/\I64 N.d/\I64 N.s/\I64 N.z
 ts:N.t.size<=9223372036854775807
 arr:ArrAt w (.agg #[v0,v1,v2,v3]) N.v
 kl:N.ks.length<=kc/\kc<=9223372036854775807
 bl:N.bd.length<=bc/\bc<=9223372036854775807
 ka:N.ks≠[]->ka=some ⟨kb,ko,none⟩
 kat:NdsAt w kb ko N.ks
 ba:N.bd≠[]->ba=some ⟨bb,bo,none⟩
 bat:StsAt w bb bo N.bd
theorem NdV.open {w:World}{cs:List Value}{N:Nd}(h:NdV w cs N):∃ v0 v1 v2 v3 ka kc ba bc kb ko bb bo,Open w cs N v0 v1 v2 v3 ka kc ba bc kb ko bb bo:=by
 cases N with | mk k a c t p o v ks bd d s z =>
 rw [NdV] at h
 obtain ⟨v0,v1,v2,v3,ka,kc,ba,bc,e,hi,ht,hv,h1,h2,⟨b,off,h3,h4⟩,⟨b',off',h5,h6⟩⟩:=h
 exact ⟨v0,v1,v2,v3,ka,kc,ba,bc,b,off,b',off',e,hi,ht,hv,h1,h2,h3,h4,h5,h6⟩
theorem Open.ndv {w:World}{cs:List Value}{N:Nd}{v0 v1 v2 v3:Value}{ka:Option Addr}{kc:Nat}{ba:Option Addr}{bc kb ko bb bo:Nat}(h:Open w cs N v0 v1 v2 v3 ka kc ba bc kb ko bb bo):NdV w cs N:=by
 cases N with | mk k a c t p o v ks bd d s z =>
 rw [NdV]
 exact ⟨v0,v1,v2,v3,ka,kc,ba,bc,h.eq,h.bd,h.ts,h.arr,h.kl,h.bl,⟨kb,ko,h.ka,h.kat⟩,⟨bb,bo,h.ba,h.bat⟩⟩
theorem dep_eq (N:Nd):dep N=max (depK N.ks) (depB N.bd)+1:=by cases N;rw [dep];rfl
theorem siz_eq (N:Nd):siz N=sizK N.ks+sizB N.bd+1:=by cases N;rw [siz];rfl
theorem depS_eq (S:St):depS S=max (if S.k==3 then dep S.te else 0) (dep S.nd):=by cases S;rw [depS];rfl
theorem sizS_eq (S:St):sizS S =(if S.k==3 then siz S.te else 0)+siz S.nd:=by cases S;rw [sizS];rfl
theorem dep_pos (N:Nd):1<=dep N:=by rw [dep_eq];omega
theorem siz_pos (N:Nd):1<=siz N:=by rw [siz_eq];omega
theorem eqN_eq (N M:Nd):eqN N M =(N.k==M.k&&N.c==M.c&&N.t==M.t&&N.p==M.p&&N.o==M.o&&eqA N.v M.v&&eqK N.ks M.ks&&eqB N.bd M.bd):=by cases N;cases M;rw [eqN];rfl
theorem eqS_eq (S T:St):eqS S T =(S.k==T.k&&S.n==T.n&&eqN S.te T.te&&eqN S.nd T.nd):=by cases S;cases T;rw [eqS];rfl
theorem elemNds:Tryz.prog.underlying 47=some (.slice (Tryz.prog.elem 47)):=by kernel_rfl
theorem sizeNds (w:World):(sizeOf (Tryz.prog.elem 47)).run Tryz.prog w=.ok 15 w:=by kernel_rfl
theorem elemSts:Tryz.prog.underlying 22=some (.slice (Tryz.prog.elem 22)):=by kernel_rfl
theorem sizeSts (w:World):(sizeOf (Tryz.prog.elem 22)).run Tryz.prog w=.ok 34 w:=by kernel_rfl
theorem kids_at {ia:Option Addr}{n ic b off:Nat}{l:List Nd}(hn:n=l.length) (ha:l≠[]->ia=some ⟨b,off,none⟩) {k:Nat}(hk:k<l.length) (w':World) :
  (Instr.indexAt 47 (.slice ia n ic) (.int .i64 k)).run Tryz.prog w'=.ok (.pointer (some ⟨b,off+k*15,none⟩)) w':=by
 subst hn
 have e:=ha (by intro e;subst e;simp at hk)
 subst e
 rw [run_indexAt_slice w' _ _ _ _ .i64 k elemNds,if_pos (by omega),sizeNds]
 show Result.ok _ w'=_
 rw [show (k:Int).toNat=k by omega,add_plain]
theorem stmts_at {ia:Option Addr}{n ic b off:Nat}{l:List St}(hn:n=l.length) (ha:l≠[]->ia=some ⟨b,off,none⟩) {k:Nat}(hk:k<l.length) (w':World) :
  (Instr.indexAt 22 (.slice ia n ic) (.int .i64 k)).run Tryz.prog w'=.ok (.pointer (some ⟨b,off+k*34,none⟩)) w':=by
 subst hn
 have e:=ha (by intro e;subst e;simp at hk)
 subst e
 rw [run_indexAt_slice w' _ _ _ _ .i64 k elemSts,if_pos (by omega),sizeSts]
 show Result.ok _ w'=_
 rw [show (k:Int).toNat=k by omega,add_plain]
def NPar (w:World) (B:Nat) (cs:List Value):Prop:=B<w.heap.size/\Cells w B 0 cs
theorem NPar.below {w w':World}{B:Nat}{cs:List Value}(h:NPar w B cs) (hb:Below w.heap.size w w'):NPar w' B cs:=⟨Nat.lt_of_lt_of_le h.1 hb.size,h.2.below hb⟩
theorem NPar.drew {w:World}{B:Nat}{cs:List Value}(h:NPar w B cs):NPar w.drew B cs:=h
theorem NPar.new (w:World) (cs:List Value) (t:TypeId):NPar (w.alloc (.cells cs.toArray t)) w.heap.size cs:=by
 refine ⟨by simp,fun i hi=>?_⟩
 rw [World.cell?_alloc_new]
 simp [hi]
theorem Cells.zero {w:World}{B:Nat}{cs:List Value}(h:Cells w B 0 cs) (i:Nat) {v:Value}(hv:cs[i]?=some v):w.cell? ⟨B,i,none⟩=some v:=by
 have:=h.cell i hv;rwa [Nat.zero_add] at this
def Fip (w:World) (b:Nat) (c0 c1 c2 c3 c4 c5 c6 c7 c8 c9 c10 c11 c12 c13 c14:Value):Prop :=
 w.cell? ⟨b,0,none⟩=some c0/\w.cell? ⟨b,1,none⟩=some c1/\w.cell? ⟨b,2,none⟩=some c2/\w.cell? ⟨b,3,none⟩=some c3/\w.cell? ⟨b,4,none⟩=some c4 /\
 w.cell? ⟨b,5,none⟩=some c5/\w.cell? ⟨b,6,none⟩=some c6/\w.cell? ⟨b,7,none⟩=some c7/\w.cell? ⟨b,8,none⟩=some c8/\w.cell? ⟨b,9,none⟩=some c9 /\
 w.cell? ⟨b,10,none⟩=some c10/\w.cell? ⟨b,11,none⟩=some c11/\w.cell? ⟨b,12,none⟩=some c12/\w.cell? ⟨b,13,none⟩=some c13/\w.cell? ⟨b,14,none⟩=some c14
theorem NPar.fip {w:World}{b:Nat}{c0 c1 c2 c3 c4 c5 c6 c7 c8 c9 c10 c11 c12 c13 c14:Value}(h:NPar w b [c0,c1,c2,c3,c4,c5,c6,c7,c8,c9,c10,c11,c12,c13,c14]):Fip w b c0 c1 c2 c3 c4 c5 c6 c7 c8 c9 c10 c11 c12 c13 c14 :=
 ⟨h.2.zero 0 rfl,h.2.zero 1 rfl,h.2.zero 2 rfl,h.2.zero 3 rfl,h.2.zero 4 rfl,h.2.zero 5 rfl,h.2.zero 6 rfl,h.2.zero 7 rfl,h.2.zero 8 rfl,h.2.zero 9 rfl,h.2.zero 10 rfl,h.2.zero 11 rfl,h.2.zero 12 rfl,h.2.zero 13 rfl,h.2.zero 14 rfl⟩
theorem list15 {α:Type}{xs:List α}(h:xs.length=15):∃ c0 c1 c2 c3 c4 c5 c6 c7 c8 c9 c10 c11 c12 c13 c14,xs=[c0,c1,c2,c3,c4,c5,c6,c7,c8,c9,c10,c11,c12,c13,c14]:=by
 match xs,h with
 | [c0,c1,c2,c3,c4,c5,c6,c7,c8,c9,c10,c11,c12,c13,c14],_=>exact ⟨c0,c1,c2,c3,c4,c5,c6,c7,c8,c9,c10,c11,c12,c13,c14,rfl⟩
end Go.Proofs.YtalkinnbfglkdaaGreatDoor.Syn
namespace Go.Proofs.YtalkinnbfglkdaaGreatDoor.Shape
open Go.RowKit
def GiveArr (A:Arr) (w:World) (e:Ending) (w':World):Prop:=∃ v,e=.returned v/\ArrAt w' v A/\Below w.heap.size w w'
theorem GiveArr.mk {A:Arr}{w w':World}{v:Value}(h:ArrAt w' v A) (hb:Below w.heap.size w w'):GiveArr A w (.returned v) w':=⟨v,rfl,h,hb⟩
end Go.Proofs.YtalkinnbfglkdaaGreatDoor.Shape
