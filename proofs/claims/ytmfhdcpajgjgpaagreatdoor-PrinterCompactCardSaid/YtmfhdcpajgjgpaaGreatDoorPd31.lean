/-
  Layer 13: the parts of a program's text: the text of a literal is whole.
  Layer 13: what all parts of a node's text keep; they are whole.
  Layer 13: levels and breaks: what the program's writer and the reference's loops write of a list of parts.
  Layer 13: the texts of whole programs.
-/
import Derived.Test.YtmfhdcpajgjgpaaGreatDoorPd30
import Derived.Test.YtmfhdcpajgjgpaaGreatDoorPd7
import Derived.Test.YtmfhdcpajgjgpaaGreatDoorPd29
namespace Go.Proofs.YtmfhdcpajgjgpaaGreatDoor.Syn
open Go.RowKit Go.Proofs.YtmfhdcpajgjgpaaGreatDoor.Shape
set_option maxRecDepth 100000
set_option linter.unusedVariables false
/-! ### The parts are whole -/
theorem enc_bytes (c:Int) (h:0<=c):(c<128/\enc c=[UInt8.ofNat c.toNat])∨(128<=c/\∀ y∈enc c,128<=y.toNat):=by
 unfold enc Utf8.encode
 simp only
 by_cases hc:c<128
 ·refine Or.inl ⟨hc,?_⟩
  have hv:Utf8.valid c=true:=by unfold Utf8.valid;simp;omega
  rw [if_pos hv,if_pos (by omega)]
 ·refine Or.inr ⟨by omega,?_⟩
  have key:∀ k:Nat,128<=k->k<=1114111->∀ y∈(if k<0x80 then (⟨#[UInt8.ofNat k]⟩:ByteArray) else if k<0x800 then ⟨#[UInt8.ofNat (0xC0+k / 64),UInt8.ofNat (0x80+k % 64)]⟩
    else if k<0x10000 then ⟨#[UInt8.ofNat (0xE0+k / 4096),UInt8.ofNat (0x80+k / 64 % 64),UInt8.ofNat (0x80+k % 64)]⟩
    else ⟨#[UInt8.ofNat (0xF0+k / 262144),UInt8.ofNat (0x80+k / 4096 % 64),UInt8.ofNat (0x80+k / 64 % 64),UInt8.ofNat (0x80+k % 64)]⟩).data.toList,128<=y.toNat:=by
   intro k h1 h2 y hy
   rw [if_neg (by omega)] at hy
   split at hy
   ·simp only [List.mem_cons,List.not_mem_nil,or_false] at hy
    rcases hy with rfl | rfl <;> rw [UInt8.toNat_ofNat'] <;> omega
   ·split at hy
    ·simp only [List.mem_cons,List.not_mem_nil,or_false] at hy
     rcases hy with rfl | rfl | rfl <;> rw [UInt8.toNat_ofNat'] <;> omega
    ·simp only [List.mem_cons,List.not_mem_nil,or_false] at hy
     rcases hy with rfl | rfl | rfl | rfl <;> rw [UInt8.toNat_ofNat'] <;> omega
  by_cases hv:Utf8.valid c=true
  ·rw [if_pos hv]
   have hm:c<=1114111:=by unfold Utf8.valid at hv;simp at hv;omega
   exact key c.toNat (by omega) (by omega)
  ·rw [if_neg hv]
   exact key Utf8.runeError (by decide) (by decide)
theorem hx_bytes (m:Nat):∀ y∈hx m,y≠39/\y≠34/\y≠92/\y≠32:=by
 have hdb:∀ m,hd m≠39/\hd m≠34/\hd m≠92/\hd m≠32:=by
  intro m
  rw [<- hd_mod]
  have:m % 16<16:=Nat.mod_lt _ (by decide)
  generalize m % 16=k at *
  revert k
  decide
 induction m using hx.induct with
 | case1 m h=>rw [xT h];intro y hy;obtain rfl:y=hd m:=(by simpa using hy);exact hdb m
 | case2 m h ih =>
  rw [wl h]
  intro y hy
  rcases List.mem_append.1 hy with g | g
  ·exact ih y g
  ·obtain rfl:y=hd m:=by simpa using g
   exact hdb m
theorem chS_end (c:Int) (q:UInt8) (hc:0<=c) (hq:q=39∨q=34) (r:List UInt8):qEnd q (chS c (q.toNat:Int)++r) =(chS c (q.toNat:Int)).length+qEnd q r:=by
 have q1:q≠92:=by rcases hq with rfl | rfl <;> decide
 have esc:∀ y:UInt8,qEnd q ([92,y]++r)=[92,y].length+qEnd q r:=fun y=>by rw [List.cons_append,List.cons_append,List.nil_append,yM q1];rfl
 unfold chS
 by_cases h1:c=10
 ·rw [if_pos h1];exact esc _
 rw [if_neg h1]
 by_cases h2:c=9
 ·rw [if_pos h2];exact esc _
 rw [if_neg h2]
 by_cases h3:c=13
 ·rw [if_pos h3];exact esc _
 rw [if_neg h3]
 by_cases h4:c=92∨c =(q.toNat:Int)
 ·rw [if_pos h4]
  have hqn:(q.toNat:Int)<128:=by rcases hq with rfl | rfl <;> decide
  have:c<128:=by rcases h4 with h | h <;> omega
  rcases enc_bytes c hc with ⟨-,e⟩ |⟨e,-⟩
  ·rw [e];exact esc _
  ·omega
 rw [if_neg h4]
 by_cases h5:c<32∨c=127
 ·rw [if_pos h5]
  have hp:∀ y∈(123::(hx c.toNat++[125]):List UInt8),y≠q/\y≠92:=by
   intro y hy
   have k:y≠39/\y≠34/\y≠92:=by
    rcases List.mem_cons.1 hy with rfl | hy
    ·decide
    ·rcases List.mem_append.1 hy with g | g
     ·have:=hx_bytes _ y g;exact ⟨this.1,this.2.1,this.2.2.1⟩
     ·obtain rfl:y=125:=by simpa using g
      decide
   rcases hq with rfl | rfl
   ·exact ⟨k.1,k.2.2⟩
   ·exact ⟨k.2.1,k.2.2⟩
  have e:([92,117,123]++hx c.toNat++[125]:List UInt8)=92::117::(123::(hx c.toNat++[125])):=by simp
  rw [e,List.cons_append,List.cons_append,yM q1,vj _ r hp]
  simp only [List.length_cons]
  omega
 rw [if_neg h5]
 refine vj _ r fun y hy=>?_
 rcases enc_bytes c hc with ⟨hlt,e⟩ |⟨-,e⟩
 ·rw [e] at hy
  obtain rfl:y=UInt8.ofNat c.toNat:=by simpa using hy
  have hn:(UInt8.ofNat c.toNat).toNat=c.toNat:=by rw [UInt8.toNat_ofNat'];omega
  refine ⟨fun g=>h4 (Or.inr ?_),fun g=>h4 (Or.inl ?_)⟩
  ·rw [<- g,hn];omega
  ·rw [g] at hn;simp at hn;omega
 ·have:=e y hy
  refine ⟨fun g=>?_,fun g=>?_⟩
  ·subst g;rcases hq with rfl | rfl <;> simp at this
  ·subst g;simp at this
theorem chs_end (q:UInt8) (hq:q=39∨q=34) (r:List UInt8):∀ nu:List Int,(∀ x∈nu,0<=x)->qEnd q ((nu.map fun c=>chS c (q.toNat:Int)).flatten++r) =((nu.map fun c=>chS c (q.toNat:Int)).flatten).length+qEnd q r
 | [],_=>by simp
 | c::nu,h=>by
  rw [List.map_cons,List.flatten_cons,List.append_assoc,chS_end c q (h c (by simp)) hq,chs_end q hq r nu (fun x hx=>h x (by simp [hx])),List.length_append]
  omega
theorem yY (m:Nat):∀ y∈Num.dg m,48<=y.toNat/\y.toNat<=57:=by
 induction m using Num.dg.induct with
 | case1 m h=>rw [Num.dg_last h];intro y hy;obtain rfl:y=Num.dig m:=(by simpa using hy);rw [Num.dig_nat];omega
 | case2 m h ih =>
  rw [Num.dg_more h]
  intro y hy
  rcases List.mem_append.1 hy with g | g
  ·exact ih y g
  ·obtain rfl:y=Num.dig m:=by simpa using g
   rw [Num.dig_nat];omega
theorem shut_plain {p:List UInt8}(h0:p≠[]) (h:∀ y∈p,y≠39/\y≠34/\y≠32):Shut p:=by
 cases p with
 | nil=>exact absurd rfl h0
 | cons x r =>
  rw [kh]
  have hx:=h x (by simp)
  rw [if_neg (fun g=>by rcases g with g | g;exact hx.1 g;exact hx.2.1 g)]
  exact fun y hy=>(h y hy).2.2
theorem shut_num (x:Int):Shut (Num.shL x):=by
 have hp:=num_pos x
 refine shut_plain (fun e=>by rw [e] at hp;simp at hp) fun y hy=>?_
 have k:48<=y.toNat/\y.toNat<=95:=by
  unfold Num.shL at hy
  split at hy
  ·rcases List.mem_cons.1 hy with rfl | hy
   ·decide
   ·have:=yY _ y hy;omega
  ·have:=yY _ y hy;omega
 refine ⟨?_,?_,?_⟩ <;>(intro g;subst g;simp at k)
theorem shut_lit {A:Arr}(hx:zo A=0) (hb:litB A=true):Shut (litS A):=by
 rcases kr hx hb with ⟨k,x,hk,rfl⟩ |⟨n,nu,rfl,hc,-⟩
 ·rcases hk with rfl | rfl
  ·have e:litS (.mk 1 [] [x] [])=Num.shL x:=by rw [litS];simp [litT]
   rw [e];exact shut_num x
  ·have e:litS (.mk 2 [] [x] [])=39::(chS x 39++[39]):=by rw [litS];simp [litT]
   have hx0:0<=x:=by
    have V:=val_of hx
    exact (vF V.elems x (by simp)).1
   have:=chS_end x 39 hx0 (Or.inl rfl) [39]
   rw [show ((39:UInt8).toNat:Int)=39 from rfl] at this
   rw [e]
   rw [kh,if_pos (Or.inl rfl),this,qq,List.length_append]
   rfl
 ·rw [wi]
  unfold quoS
  have:=chs_end 34 (Or.inr rfl) [34] nu (fun x hx=>(hc x hx).1)
  rw [show ((34:UInt8).toNat:Int)=34 from rfl] at this
  rw [kh,if_pos (Or.inr rfl),this,qq,List.length_append]
  rfl
structure Good (lt:Arr->ByteArray) (Q:List ByteArray->Prop):Prop where
 nil:Q []
 app:∀ a b,Q a->Q b->Q (a++b)
 par:∀ a,Q a->Q (⟨#[40]⟩::(a++[⟨#[41]⟩]))
 lam:∀ a,Q a->Q (⟨#[123]⟩::(a++[⟨#[125]⟩]))
 semi:Q [⟨#[59]⟩]
 colon:Q [⟨#[58]⟩]
 arrow:Q [⟨#[60,45]⟩]
 name:∀ s,zu s=true->Q [s]
 word:∀ N,okN N=true->zM N=true->Q [wdB lt N]
theorem okS_name {S:St}(h:okS S=true) (e:S.k=2):zu S.n=true:=by
 rw [vN] at h
 simp only [Bool.and_eq_true] at h
 have h:=h.2
 rw [if_neg (by omega),if_pos e] at h
 simp only [Bool.and_eq_true] at h
 exact h.1.1.1
theorem Good.parQ {lt:Arr->ByteArray}{Q:List ByteArray->Prop}(g:Good lt Q) (enc:List Int) (x:Int × List ByteArray) (h:Q x.2):Q (Syn.par enc x):=by
 unfold Syn.par
 split
 ·exact g.par _ h
 ·exact h
theorem Good.flat {lt:Arr->ByteArray}{Q:List ByteArray->Prop}(g:Good lt Q) (enc:List Int):∀ (l:List Nd),(∀ j (h:j<l.length),Q (shN lt l[j]))->Q ((shK lt l).flatMap (Syn.par enc))
 | [],_=>by rw [shK];exact g.nil
 | N::r,h=>by
  rw [shK,List.flatMap_cons]
  exact g.app _ _ (g.parQ enc (N.k,shN lt N) (h 0 (by simp))) (g.flat enc r (fun j hj=>h (j+1) (by simpa using hj)))
theorem Good.stmt {lt:Arr->ByteArray}{Q:List ByteArray->Prop}(g:Good lt Q) {S:St}(h:okS S=true) (h1:Q (shN lt S.nd)) (h2:S.k=3->Q (shN lt S.te)):Q (shS lt S):=by
 rw [xu]
 refine g.app _ _ ?_ h1
 split
 ·rename_i e
  exact g.app [S.n] [⟨#[60,45]⟩] (g.name _ (okS_name h e)) g.arrow
 ·split
  ·rename_i e
   exact g.app _ _ (h2 e) g.colon
  ·exact g.nil
theorem Good.more {lt:Arr->ByteArray}{Q:List ByteArray->Prop}(g:Good lt Q):∀ (l:List St),(∀ j (h:j<l.length),Q (shS lt l[j]))->Q (shC lt l)
 | [],_=>by rw [shC];exact g.nil
 | S::r,h=>by
  rw [shC]
  exact g.app [⟨#[59]⟩] _ g.semi (g.app _ _ (h 0 (by simp)) (g.more r (fun j hj=>h (j+1) (by simpa using hj))))
theorem Good.body {lt:Arr->ByteArray}{Q:List ByteArray->Prop}(g:Good lt Q):∀ (l:List St),(∀ j (h:j<l.length),Q (shS lt l[j]))->Q (shB lt l)
 | [],_=>by rw [shB];exact g.nil
 | S::r,h=>by
  rw [shB]
  exact g.app _ _ (h 0 (by simp)) (g.more r (fun j hj=>h (j+1) (by simpa using hj)))
theorem leaf_of {N:Nd}(h:okN N=true) (k3:¬ N.k=3) (k4:¬ N.k=4) (k5:¬ N.k=5) (k10:¬ N.k=10) (k14:¬ N.k=14) (k15:¬ N.k=15) (k16:¬ N.k=16):zM N=true:=by
 rw [qj,if_neg k10] at h
 simp only [Bool.and_eq_true,Bool.or_eq_true] at h
 rcases h.2 with h | h
 ·exact h
 ·have:=h.1
  unfold zO at this
  simp [k3,k4,k5,k14,k15,k16] at this
theorem Good.all {lt:Arr->ByteArray}{Q:List ByteArray->Prop}(g:Good lt Q):∀ (r:Nat) (N:Nd),rkN N<r->okN N=true->Q (shN lt N)
 | 0,_,h,_=>absurd h (Nat.not_lt_zero _)
 | r+1,N,h,ok=>by
  have hk:=okK_allP.1 (qm ok)
  have IH:=fun j (hj:j<N.ks.length)=>g.all r N.ks[j] (by have:=zk N hj;omega) (hk j hj)
  rw [kC]
  by_cases k3:N.k=3
  ·rw [if_pos k3];exact g.flat _ _ IH
  by_cases k4:N.k=4
  ·rw [if_neg k3,if_pos k4]
   obtain ⟨A,B,e⟩:=ok_k4 ok k4
   simp only [e] at IH ⊢
   have a:=IH 0 (by simp)
   have b:=IH 1 (by simp)
   rw [zx]
   exact g.app _ _ (g.parQ _ (A.k,shN lt A) a) (g.parQ _ (B.k,shN lt B) b)
  by_cases k5:N.k=5
  ·rw [if_neg k3,if_neg k4,if_pos k5]
   obtain ⟨A,B,C,e⟩:=ok_k5 ok k5
   simp only [e] at IH ⊢
   have a:=IH 0 (by simp)
   have b:=IH 1 (by simp)
   have c:=IH 2 (by simp)
   rw [zx]
   exact g.app _ _ (g.parQ _ (B.k,shN lt B) b) (g.app _ _ (g.parQ _ (A.k,shN lt A) a) (g.parQ _ (C.k,shN lt C) c))
  by_cases k10:N.k=10
  ·rw [if_neg k3,if_neg k4,if_neg k5,if_pos k10]
   have ol:=okL_allP.1 (yq ok k10)
   exact g.lam _ (g.body N.bd (fun j hj=>g.stmt (ol j hj) (g.all r _ (by have:=qF N hj;omega) (qE (ol j hj)).1) (fun e=>g.all r _ (by have:=qF N hj;omega) ((qE (ol j hj)).2.1 e))))
  by_cases k14:N.k=14
  ·rw [if_neg k3,if_neg k4,if_neg k5,if_neg k10,if_pos k14]
   obtain ⟨A,B,e⟩:=ok_k14 ok k14
   simp only [e] at IH ⊢
   have a:=IH 0 (by simp)
   have b:=IH 1 (by simp)
   rw [zx]
   exact g.app _ _ (g.parQ _ (B.k,shN lt B) b) (g.parQ _ (A.k,shN lt A) a)
  by_cases k15:N.k=15
  ·rw [if_neg k3,if_neg k4,if_neg k5,if_neg k10,if_neg k14,if_pos k15]
   obtain ⟨A,B,C,e⟩:=ok_k15 ok k15
   simp only [e] at IH ⊢
   have a:=IH 0 (by simp)
   have b:=IH 1 (by simp)
   have c:=IH 2 (by simp)
   rw [zx]
   exact g.app _ _ (g.parQ _ (B.k,shN lt B) b) (g.app _ _ (g.parQ _ (A.k,shN lt A) a) (g.parQ _ (C.k,shN lt C) c))
  by_cases k16:N.k=16
  ·rw [if_neg k3,if_neg k4,if_neg k5,if_neg k10,if_neg k14,if_neg k15,if_pos k16]
   exact g.flat _ _ IH
  rw [if_neg k3,if_neg k4,if_neg k5,if_neg k10,if_neg k14,if_neg k15,if_neg k16]
  exact g.word N ok (leaf_of ok k3 k4 k5 k10 k14 k15 k16)
theorem Good.node {lt:Arr->ByteArray}{Q:List ByteArray->Prop}(g:Good lt Q) {N:Nd}(h:okN N=true):Q (shN lt N):=g.all _ N (Nat.lt_succ_self _) h
theorem Good.stmts {lt:Arr->ByteArray}{Q:List ByteArray->Prop}(g:Good lt Q) {l:List St}(h:okL l=true):Q (shB lt l):=by
 have ol:=okL_allP.1 h
 exact g.body l (fun j hj=>g.stmt (ol j hj) (g.node (qE (ol j hj)).1) (fun e=>g.node ((qE (ol j hj)).2.1 e)))
/-! ### They are whole -/
def xe (p:ByteArray):Bool:=p.data.toList != []&&p.data.toList.all fun y=>y != 39&&y != 34&&y != 32
theorem zU {p:ByteArray}(h:xe p=true):Shut p.data.toList:=by
 unfold xe at h
 simp only [Bool.and_eq_true,bne_iff_ne,List.all_eq_true] at h
 exact shut_plain h.1 fun y hy=>by have:=h.2 y hy;exact ⟨this.1.1,this.1.2,this.2⟩
theorem prim_plain (j:Nat) (h:1<=j) (g:j<56):xe (primT.getD j ⟨#[]⟩)=true:=(by decide:∀ j<56,j=0∨xe (primT.getD j ⟨#[]⟩)=true) j g |>.resolve_left (by omega)
theorem op_plain (j:Nat) (h:1<=j) (g:j<12):xe (opT.getD j ⟨#[]⟩)=true:=(by decide:∀ j<12,j=0∨xe (opT.getD j ⟨#[]⟩)=true) j g |>.resolve_left (by omega)
theorem vn {s:ByteArray}(h:zu s=true):xe s=true:=by
 unfold zu at h
 simp only [Bool.and_eq_true,decide_eq_true_eq,List.all_eq_true,List.mem_range] at h
 have hs:s.data.toList.length=s.size:=rfl
 unfold xe
 simp only [Bool.and_eq_true,bne_iff_ne,List.all_eq_true]
 refine ⟨fun e=>by rw [e] at hs;simp at hs;omega,fun y hy=>?_⟩
 obtain ⟨i,hi,rfl⟩:=List.getElem_of_mem hy
 have hi':i<s.size:=by rw [<- hs];exact hi
 have:=h.2 i hi'
 unfold chB at this
 rw [dif_pos hi'] at this
 have e:s[i]'hi'=s.data.toList[i]:=by rw [Array.getElem_toList];rfl
 rw [e] at this
 generalize s.data.toList[i]=y at *
 unfold lowB digB at this
 simp only [Bool.or_eq_true,Bool.and_eq_true,decide_eq_true_eq] at this
 refine ⟨⟨?_,?_⟩,?_⟩ <;>(intro g;subst g;simp at this)
def ShutL (l:List ByteArray):Prop:=∀ p∈l,Shut p.data.toList
theorem shut_leaf {N:Nd}(h:zM N=true):Shut (wdB litW N).data.toList:=by
 unfold zM at h
 unfold wdB
 by_cases k1:N.k=1
 ·rw [if_pos k1] at h ⊢
  simp only [Bool.and_eq_true,beq_iff_eq] at h
  exact shut_lit h.1.2 h.2
 rw [if_neg k1] at h ⊢
 by_cases k2:N.k=2
 ·rw [if_pos k2] at h ⊢
  simp only [Bool.and_eq_true] at h
  exact zU (vn h.1.1.2)
 rw [if_neg k2] at h ⊢
 by_cases k6:N.k=6
 ·rw [if_pos k6];exact zU (by decide)
 rw [if_neg k6]
 by_cases k7:N.k=7
 ·rw [if_pos k7];exact zU (by decide)
 rw [if_neg k7]
 by_cases k8:N.k=8
 ·rw [if_pos k8];exact zU (by decide)
 rw [if_neg k8]
 rw [if_neg (by omega)] at h
 by_cases k9:N.k=9
 ·rw [if_pos k9] at h ⊢
  simp only [Bool.and_eq_true,decide_eq_true_eq] at h
  exact zU (prim_plain _ (by omega) (by omega))
 rw [if_neg k9] at h ⊢
 by_cases k11:N.k=11
 ·rw [if_pos k11];exact zU (by decide)
 rw [if_neg k11]
 by_cases k12:N.k=12
 ·rw [if_pos k12];exact zU (by decide)
 rw [if_neg k12]
 by_cases k13:N.k=13
 ·rw [if_pos k13];exact zU (by decide)
 rw [if_neg k13]
 rw [if_neg (by omega)] at h
 by_cases k17:N.k=17
 ·rw [if_pos k17] at h ⊢
  simp only [Bool.and_eq_true,bne_iff_ne] at h
  have:¬ (N.o<1∨11<N.o):=fun g=>h.1.2 (by unfold kD;rw [if_pos g])
  exact zU (op_plain _ (by omega) (by omega))
 ·rw [if_neg k17] at h;cases h
theorem kB {p:ByteArray}(h:Shut p.data.toList):ShutL [p]:=fun q hq=>by obtain rfl:q=p:=(by simpa using hq);exact h
theorem xO {a b:List ByteArray}(h:ShutL a) (g:ShutL b):ShutL (a++b):=fun p hp=>(List.mem_append.1 hp).elim (h p) (g p)
theorem good_shut:Good litW ShutL where
 nil p hp:=by cases hp
 app a b h g:=xO h g
 par a h:=xO (kB (p:=⟨#[40]⟩) (zU (by decide))) (xO h (kB (zU (by decide))))
 lam a h:=xO (kB (p:=⟨#[123]⟩) (zU (by decide))) (xO h (kB (zU (by decide))))
 semi:=kB (zU (by decide))
 colon:=kB (zU (by decide))
 arrow:=kB (zU (by decide))
 name s h:=kB (zU (vn h))
 word N _ h:=kB (shut_leaf h)
theorem shut_node {N:Nd}(h:okN N=true):ShutL (shN litW N):=good_shut.node h
def qA (lv:Nat) (p:ByteArray):Nat:=if p.data.toList=[123] then lv+1 else if p.data.toList=[125] then lv - 1 else lv
def lvl:Nat->List ByteArray->Nat
 | lv,[]=>lv
 | lv,p::r=>lvl (qA lv p) r
def pbr:Nat->List ByteArray->List ByteArray
 | _,[]=>[]
 | lv,p::r=>(if p.data.toList=[59] then gapB lv else p)::pbr (qA lv p) r
theorem lvl_app:∀ (a b:List ByteArray) (lv:Nat),lvl lv (a++b)=lvl (lvl lv a) b
 | [],_,_=>rfl
 | p::a,b,lv=>by rw [List.cons_append,lvl,lvl,lvl_app a b]
theorem pbr_app:∀ (a b:List ByteArray) (lv:Nat),pbr lv (a++b)=pbr lv a++pbr (lvl lv a) b
 | [],_,_=>rfl
 | p::a,b,lv=>by rw [List.cons_append,pbr,pbr,lvl,pbr_app a b];rfl
def Bal (l:List ByteArray):Prop:=∀ lv,lvl lv l=lv
def qg (p:ByteArray):Bool:=p.data.toList != [123]&&p.data.toList != [125]&&p.data.toList != [59]&&!brB p.data.toList
theorem bare_step {p:ByteArray}(h:qg p=true) (lv:Nat):qA lv p=lv:=by
 unfold qg at h
 simp only [Bool.and_eq_true,bne_iff_ne,Bool.not_eq_true'] at h
 unfold qA
 rw [if_neg h.1.1.1,if_neg h.1.1.2]
theorem qf {p:ByteArray}(h:qg p=true):Bal [p]:=fun lv=>by rw [lvl,lvl,bare_step h]
theorem vU {a b:List ByteArray}(h:Bal a) (g:Bal b):Bal (a++b):=fun lv=>by rw [lvl_app,h,g]
theorem pbr_bal {a:List ByteArray}(h:Bal a) (b:List ByteArray) (lv:Nat):pbr lv (a++b)=pbr lv a++pbr lv b:=by rw [pbr_app,h]
theorem bare_first {p:ByteArray}(h:∀ y,p.data.toList.head?=some y->y≠123/\y≠125/\y≠59/\y≠10):qg p=true:=by
 unfold qg
 simp only [Bool.and_eq_true,bne_iff_ne,Bool.not_eq_true']
 refine ⟨⟨⟨fun e=>?_,fun e=>?_⟩,fun e=>?_⟩,?_⟩
 ·rw [e] at h;exact (h 123 rfl).1 rfl
 ·rw [e] at h;exact (h 125 rfl).2.1 rfl
 ·rw [e] at h;exact (h 59 rfl).2.2.1 rfl
 ·unfold brB
  cases e:p.data.toList.head? with
  | none=>rfl
  | some y =>
   have:=(h y e).2.2.2
   simpa using this
theorem prim_bare (j:Nat) (g:j<56):qg (primT.getD j ⟨#[]⟩)=true:=(by decide:∀ j<56,qg (primT.getD j ⟨#[]⟩)=true) j g
theorem op_bare (j:Nat) (g:j<12):qg (opT.getD j ⟨#[]⟩)=true:=(by decide:∀ j<12,qg (opT.getD j ⟨#[]⟩)=true) j g
theorem kq {s:ByteArray}(h:zu s=true):qg s=true:=by
 refine bare_first fun y hy=>?_
 have hm:y∈s.data.toList:=by
  cases e:s.data.toList with
  | nil=>rw [e] at hy;cases hy
  | cons x r=>rw [e] at hy;simp at hy;subst hy;simp
 unfold zu at h
 simp only [Bool.and_eq_true,decide_eq_true_eq,List.all_eq_true,List.mem_range] at h
 have hs:s.data.toList.length=s.size:=rfl
 obtain ⟨i,hi,rfl⟩:=List.getElem_of_mem hm
 have hi':i<s.size:=by rw [<- hs];exact hi
 have:=h.2 i hi'
 unfold chB at this
 rw [dif_pos hi'] at this
 have e:s[i]'hi'=s.data.toList[i]:=by rw [Array.getElem_toList];rfl
 rw [e] at this
 generalize s.data.toList[i]=y at *
 unfold lowB digB at this
 simp only [Bool.or_eq_true,Bool.and_eq_true,decide_eq_true_eq] at this
 refine ⟨?_,?_,?_,?_⟩ <;>(intro g;subst g;simp at this)
theorem lit_bare {A:Arr}(hx:zo A=0) (hb:litB A=true):qg (litW A)=true:=by
 have hd:(litW A).data.toList=litS A:=rfl
 refine bare_first fun y hy=>?_
 rw [hd] at hy
 rcases kr hx hb with ⟨k,x,hk,rfl⟩ |⟨n,nu,rfl,hc,-⟩
 ·rcases hk with rfl | rfl
  ·have e:litS (.mk 1 [] [x] [])=Num.shL x:=by rw [litS];simp [litT]
   rw [e] at hy
   have hm:y∈Num.shL x:=by
    cases e:Num.shL x with
    | nil=>rw [e] at hy;cases hy
    | cons z r=>rw [e] at hy;simp at hy;subst hy;simp
   have k:(48<=y.toNat/\y.toNat<=57)∨y=95:=by
    unfold Num.shL at hm
    split at hm
    ·rcases List.mem_cons.1 hm with rfl | hm
     ·exact Or.inr rfl
     ·exact Or.inl (yY _ y hm)
    ·exact Or.inl (yY _ y hm)
   refine ⟨?_,?_,?_,?_⟩ <;>(intro g;subst g;simp at k)
  ·have e:litS (.mk 2 [] [x] [])=39::(chS x 39++[39]):=by rw [litS];simp [litT]
   rw [e] at hy
   simp at hy
   subst hy
   decide
 ·rw [wi] at hy
  unfold quoS at hy
  simp at hy
  subst hy
  decide
theorem vP {N:Nd}(h:zM N=true):qg (wdB litW N)=true:=by
 unfold zM at h
 unfold wdB
 by_cases k1:N.k=1
 ·rw [if_pos k1] at h ⊢
  simp only [Bool.and_eq_true,beq_iff_eq] at h
  exact lit_bare h.1.2 h.2
 rw [if_neg k1] at h ⊢
 by_cases k2:N.k=2
 ·rw [if_pos k2] at h ⊢
  simp only [Bool.and_eq_true] at h
  exact kq h.1.1.2
 rw [if_neg k2] at h ⊢
 by_cases k6:N.k=6
 ·rw [if_pos k6];decide
 rw [if_neg k6]
 by_cases k7:N.k=7
 ·rw [if_pos k7];decide
 rw [if_neg k7]
 by_cases k8:N.k=8
 ·rw [if_pos k8];decide
 rw [if_neg k8]
 rw [if_neg (by omega)] at h
 by_cases k9:N.k=9
 ·rw [if_pos k9] at h ⊢
  simp only [Bool.and_eq_true,decide_eq_true_eq] at h
  exact prim_bare _ (by omega)
 rw [if_neg k9] at h ⊢
 by_cases k11:N.k=11
 ·rw [if_pos k11];decide
 rw [if_neg k11]
 by_cases k12:N.k=12
 ·rw [if_pos k12];decide
 rw [if_neg k12]
 by_cases k13:N.k=13
 ·rw [if_pos k13];decide
 rw [if_neg k13]
 rw [if_neg (by omega)] at h
 by_cases k17:N.k=17
 ·rw [if_pos k17] at h ⊢
  simp only [Bool.and_eq_true,bne_iff_ne] at h
  have:¬ (N.o<1∨11<N.o):=fun g=>h.1.2 (by unfold kD;rw [if_pos g])
  exact op_bare _ (by omega)
 ·rw [if_neg k17] at h;cases h
theorem good_bal:Good litW Bal where
 nil lv:=rfl
 app a b h g:=vU h g
 par a h:=vU (a:=[⟨#[40]⟩]) (qf (by decide)) (vU h (qf (by decide)))
 lam a h lv:=by
  show lvl (qA lv ⟨#[123]⟩) (a++[⟨#[125]⟩])=lv
  rw [show qA lv ⟨#[123]⟩=lv+1 from rfl,lvl_app,h,lvl,lvl]
  rfl
 semi lv:=rfl
 colon:=qf (by decide)
 arrow:=qf (by decide)
 name s h:=qf (kq h)
 word N _ h:=qf (vP h)
/-! ### What is written -/
def outW (nb:List UInt8->List UInt8->Bool) (sep ind:List UInt8):List UInt8->Nat->List ByteArray->List UInt8
 | _,_,[]=>[]
 | bf,lv,p::r =>
  if p.data.toList=[59] then sep++((List.replicate lv ind).flatten++outW nb sep ind [] lv r)
  else (if bf != []&&nb bf p.data.toList then [32] else [])++(p.data.toList++outW nb sep ind p.data.toList (qA lv p) r)
def refJ:Option (List UInt8)->List ByteArray->List UInt8
 | _,[]=>[]
 | pv,p::r=>(if pv.isSome&&!brB p.data.toList&&!brB (pv.getD []) then [32] else [])++(p.data.toList++refJ (some p.data.toList) r)
def refC (nb:List UInt8->List UInt8->Bool):Option (List UInt8)->List ByteArray->List UInt8
 | _,[]=>[]
 | pv,p::r=>if brB p.data.toList then 59::refC nb (some p.data.toList) r
  else (if pv.isSome&&!brB (pv.getD [])&&nb (pv.getD []) p.data.toList then [32] else [])++(p.data.toList++refC nb (some p.data.toList) r)
def xX (l:List ByteArray):Prop:=∀ p∈l,p.data.toList≠[]/\brB p.data.toList=false
theorem gap_data (lv:Nat):(gapB lv).data.toList=10::List.replicate (2*lv) 32:=rfl
theorem rep_two:∀ lv:Nat,(List.replicate lv ([32,32]:List UInt8)).flatten=List.replicate (2*lv) 32
 | 0=>rfl
 | lv+1=>by rw [List.replicate_succ,List.flatten_cons,rep_two lv,show 2*(lv+1) =(2*lv+1)+1 by omega,List.replicate_succ,List.replicate_succ];rfl
theorem print_eq:∀ (l:List ByteArray) (pv:Option (List UInt8)) (bf:List UInt8) (lv:Nat),xX l->(bf=[] ↔ (pv=none∨brB (pv.getD [])=true))->refJ pv (pbr lv l)=outW (fun _ _=>true) [10] [32,32] bf lv l
 | [],_,_,_,_,_=>rfl
 | p::r,pv,bf,lv,hf,hb=>by
  have hp:=hf p (by simp)
  have hr:xX r:=fun q hq=>hf q (by simp [hq])
  rw [pbr,refJ,outW]
  by_cases e:p.data.toList=[59]
  ·rw [if_pos e,if_pos e,gap_data]
   have s:qA lv p=lv:=by unfold qA;rw [e];rfl
   rw [s,print_eq r (some (10::List.replicate (2*lv) 32)) [] lv hr (by simp [brB]),rep_two]
   have b:brB (10::List.replicate (2*lv) 32)=true:=rfl
   rw [b]
   simp
  ·rw [if_neg e,if_neg e,hp.2,print_eq r (some p.data.toList) p.data.toList (qA lv p) hr (by simp [hp.1,hp.2])]
   congr 1
   cases pv with
   | none =>
    obtain rfl:=hb.2 (Or.inl rfl)
    simp
   | some y =>
    by_cases hy:brB y=true
    ·obtain rfl:=hb.2 (Or.inr (by simpa using hy))
     simp [hy]
    ·have hn:bf≠[]:=fun g=>by
      rcases hb.1 g with g | g
      ·cases g
      ·exact hy (by simpa using g)
     simp [hy,hn]
theorem vy (nb:List UInt8->List UInt8->Bool):∀ (l:List ByteArray) (pv:Option (List UInt8)) (bf:List UInt8) (lv:Nat),xX l->(bf=[] ↔ (pv=none∨brB (pv.getD [])=true))->(bf≠[]->pv=some bf) ->
  refC nb pv (pbr lv l)=outW nb [59] [] bf lv l
 | [],_,_,_,_,_,_=>rfl
 | p::r,pv,bf,lv,hf,hb,hs=>by
  have hp:=hf p (by simp)
  have hr:xX r:=fun q hq=>hf q (by simp [hq])
  rw [pbr,refC,outW]
  by_cases e:p.data.toList=[59]
  ·rw [if_pos e,if_pos e,gap_data]
   have s:qA lv p=lv:=by unfold qA;rw [e];rfl
   have b:brB (10::List.replicate (2*lv) 32)=true:=rfl
   rw [s,if_pos b,vy nb r (some (10::List.replicate (2*lv) 32)) [] lv hr (by simp [brB]) (fun g=>absurd rfl g)]
   simp
  ·rw [if_neg e,if_neg e,if_neg (by rw [hp.2];simp),vy nb r (some p.data.toList) p.data.toList (qA lv p) hr (by simp [hp.1,hp.2]) (fun _=>rfl)]
   congr 1
   by_cases hn:bf=[]
   ·subst hn
    rcases hb.1 rfl with g | g
    ·subst g;simp
    ·simp [g]
   ·have h2:=hs hn
    subst h2
    have hy:brB bf=false:=by
     cases g:brB bf with
     | false=>rfl
     | true=>exact absurd (hb.2 (Or.inr (by simpa using g))) hn
    simp [hn,hy]
theorem vx (nb:List UInt8->List UInt8->Bool):∀ (l:List ByteArray) (bf:List UInt8) (lv:Nat),(outW nb [59] [] bf lv l).length<=(outW (fun _ _=>true) [10] [32,32] bf lv l).length
 | [],_,_=>Nat.le_refl _
 | p::r,bf,lv=>by
  rw [outW,outW]
  by_cases e:p.data.toList=[59]
  ·rw [if_pos e,if_pos e]
   have:=vx nb r [] lv
   simp only [List.length_append,List.length_cons,List.length_nil]
   have h0:((List.replicate lv ([]:List UInt8)).flatten).length=0:=by simp
   omega
  ·rw [if_neg e,if_neg e]
   have:=vx nb r p.data.toList (qA lv p)
   simp only [List.length_append]
   have h1:(if (bf != []&&nb bf p.data.toList)=true then ([32]:List UInt8) else []).length<=(if (bf != []&&true)=true then ([32]:List UInt8) else []).length:=by
    cases bf != [] <;> cases nb bf p.data.toList <;> simp
   omega
theorem fine_one {p:ByteArray}(h:Shut p.data.toList) (g:brB p.data.toList=false):xX [p]:=fun q hq=>by
 obtain rfl:q=p:=(by simpa using hq)
 exact ⟨fun e=>by rw [e] at h;exact h,g⟩
theorem bare_br {p:ByteArray}(h:qg p=true):brB p.data.toList=false:=by
 unfold qg at h
 simp only [Bool.and_eq_true,Bool.not_eq_true'] at h
 exact h.2
theorem xU {a b:List ByteArray}(h:xX a) (g:xX b):xX (a++b):=fun p hp=>(List.mem_append.1 hp).elim (h p) (g p)
theorem x9 {p:ByteArray}(h:xe p=true) (g:brB p.data.toList=false):xX [p]:=fine_one (zU h) g
theorem good_fine:Good litW xX where
 nil p hp:=by cases hp
 app a b h g:=xU h g
 par a h:=xU (x9 (p:=⟨#[40]⟩) (by decide) (by decide)) (xU h (x9 (by decide) (by decide)))
 lam a h:=xU (x9 (p:=⟨#[123]⟩) (by decide) (by decide)) (xU h (x9 (by decide) (by decide)))
 semi:=x9 (by decide) (by decide)
 colon:=x9 (by decide) (by decide)
 arrow:=x9 (by decide) (by decide)
 name s h:=fine_one (zU (vn h)) (bare_br (kq h))
 word N _ h:=fine_one (shut_leaf h) (bare_br (vP h))
theorem join_rest (p:List UInt8) (r:List (List UInt8)):(Lib.join (p::r) [32]).drop p.length=Lib.joinTail [32] r:=by
 rw [Lib.join_cons,List.drop_left]
theorem tail_trim (y:List UInt8) (r:List (List UInt8)):Lib.joinTail [32] (y::r)=32::Lib.join (y::r) [32]:=by
 rw [Lib.join_cons];simp [Lib.joinTail]
theorem prS_ne {S:St}(h:okS S=true):shS litW S≠[]:=by
 rw [xu]
 intro e
 exact shN_ne' litW (qE h).1 (List.append_eq_nil_iff.1 e).2
theorem prB_ne {l:List St}(h:okL l=true) (hl:l≠[]):shB litW l≠[]:=by
 cases l with
 | nil=>exact absurd rfl hl
 | cons S r =>
  rw [okL,Bool.and_eq_true] at h
  rw [shB]
  intro e
  exact prS_ne h.1 (List.append_eq_nil_iff.1 e).1
theorem outW_ne (nb:List UInt8->List UInt8->Bool) {sep ind bf:List UInt8}{lv:Nat}{l:List ByteArray}(h:l≠[]) (g:xX l) (hs:sep≠[]):outW nb sep ind bf lv l≠[]:=by
 cases l with
 | nil=>exact absurd rfl h
 | cons p r =>
  rw [outW]
  split
  ·intro e;exact hs (List.append_eq_nil_iff.1 e).1
  ·intro e
   have:=(List.append_eq_nil_iff.1 (List.append_eq_nil_iff.1 e).2).1
   exact (g p (by simp)).1 this
def kF (l:List St):List UInt8:=if l=[] then [] else outW (fun _ _=>true) [10] [32,32] [] 0 (shB litW l)++[10]
def qV (l:List St):List UInt8:=outW zd [59] [] [] 0 (shB litW l)
theorem long_ref {l:List St}(h:okL l=true):refJ none (pbr 0 (shB litW l))=outW (fun _ _=>true) [10] [32,32] [] 0 (shB litW l) :=
 print_eq _ none [] 0 (good_fine.stmts h) ⟨fun _=>Or.inl rfl,fun _=>rfl⟩
theorem short_ref {l:List St}(h:okL l=true):refC zd none (pbr 0 (shB litW l))=qV l :=
 vy zd _ none [] 0 (good_fine.stmts h) ⟨fun _=>Or.inl rfl,fun _=>rfl⟩ (fun g=>absurd rfl g)
theorem short_le {l:List St}:(qV l).length<=(kF l).length:=by
 unfold qV kF
 by_cases e:l=[]
 ·subst e
  rw [shB]
  exact Nat.zero_le _
 ·rw [if_neg e,List.length_append]
  have:=vx zd (shB litW l) [] 0
  omega
end Go.Proofs.YtmfhdcpajgjgpaaGreatDoor.Syn
