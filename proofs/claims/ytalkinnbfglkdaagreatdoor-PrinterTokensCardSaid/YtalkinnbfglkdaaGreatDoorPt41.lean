/-
  Layer 13: the parts of a program's text: the text of a literal is whole.
  Layer 13: what all parts of a node's text keep; they are whole.
  Layer 13: levels and breaks: what the program's writer and the reference's loops write of a list of parts.
  Layer 13: the texts of whole programs.
-/
import Derived.Test.YtalkinnbfglkdaaGreatDoorPt40
import Derived.Test.YtalkinnbfglkdaaGreatDoorPt7
import Derived.Test.YtalkinnbfglkdaaGreatDoorPt39
namespace Go.Proofs.YtalkinnbfglkdaaGreatDoor.Syn
open Go.RowKit Go.Proofs.YtalkinnbfglkdaaGreatDoor.Shape
set_option maxRecDepth 100000
set_option linter.unusedVariables false
/-! ### The parts are whole -/
theorem enc_bytes (c:Int) (h:0<=c):(c<128/\enc c=[UInt8.ofNat c.toNat])∨(128<=c/\∀ y∈enc c,128<=y.toNat):=by
 unfold enc Utf8.encode
 simp only
 by_cases hc:c<128
 ·refine Or.inl ⟨hc,?_⟩
  have hv:Utf8.valid c=true:=by unfold Utf8.valid;simp;omega
  rw [if_pos hv,if_pos (by omega)]
 ·refine Or.inr ⟨by omega,?_⟩
  have key:∀ k:Nat,128<=k->k<=1114111->∀ y∈(if k<0x80 then (⟨#[UInt8.ofNat k]⟩:ByteArray) else if k<0x800 then ⟨#[UInt8.ofNat (0xC0+k / 64),UInt8.ofNat (0x80+k % 64)]⟩
    else if k<0x10000 then ⟨#[UInt8.ofNat (0xE0+k / 4096),UInt8.ofNat (0x80+k / 64 % 64),UInt8.ofNat (0x80+k % 64)]⟩
    else ⟨#[UInt8.ofNat (0xF0+k / 262144),UInt8.ofNat (0x80+k / 4096 % 64),UInt8.ofNat (0x80+k / 64 % 64),UInt8.ofNat (0x80+k % 64)]⟩).data.toList,128<=y.toNat:=by
   intro k h1 h2 y hy
   rw [if_neg (by omega)] at hy
   split at hy
   ·simp only [List.mem_cons,List.not_mem_nil,or_false] at hy
    rcases hy with rfl | rfl <;> rw [UInt8.toNat_ofNat'] <;> omega
   ·split at hy
    ·simp only [List.mem_cons,List.not_mem_nil,or_false] at hy
     rcases hy with rfl | rfl | rfl <;> rw [UInt8.toNat_ofNat'] <;> omega
    ·simp only [List.mem_cons,List.not_mem_nil,or_false] at hy
     rcases hy with rfl | rfl | rfl | rfl <;> rw [UInt8.toNat_ofNat'] <;> omega
  by_cases hv:Utf8.valid c=true
  ·rw [if_pos hv]
   have hm:c<=1114111:=by unfold Utf8.valid at hv;simp at hv;omega
   exact key c.toNat (by omega) (by omega)
  ·rw [if_neg hv]
   exact key Utf8.runeError (by decide) (by decide)
theorem hx_bytes (m:Nat):∀ y∈hx m,y≠39/\y≠34/\y≠92/\y≠32:=by
 have hdb:∀ m,hd m≠39/\hd m≠34/\hd m≠92/\hd m≠32:=by
  intro m
  rw [<- hd_mod]
  have:m % 16<16:=Nat.mod_lt _ (by decide)
  generalize m % 16=k at *
  revert k
  decide
 induction m using hx.induct with
 | case1 m h=>rw [hx_small h];intro y hy;obtain rfl:y=hd m:=(by simpa using hy);exact hdb m
 | case2 m h ih =>
  rw [hx_more h]
  intro y hy
  rcases List.mem_append.1 hy with g | g
  ·exact ih y g
  ·obtain rfl:y=hd m:=by simpa using g
   exact hdb m
theorem chS_end (c:Int) (q:UInt8) (hc:0<=c) (hq:q=39∨q=34) (r:List UInt8):qEnd q (chS c (q.toNat:Int)++r) =(chS c (q.toNat:Int)).length+qEnd q r:=by
 have q1:q≠92:=by rcases hq with rfl | rfl <;> decide
 have esc:∀ y:UInt8,qEnd q ([92,y]++r)=[92,y].length+qEnd q r:=fun y=>by rw [List.cons_append,List.cons_append,List.nil_append,qEnd_esc q1];rfl
 unfold chS
 by_cases h1:c=10
 ·rw [if_pos h1];exact esc _
 rw [if_neg h1]
 by_cases h2:c=9
 ·rw [if_pos h2];exact esc _
 rw [if_neg h2]
 by_cases h3:c=13
 ·rw [if_pos h3];exact esc _
 rw [if_neg h3]
 by_cases h4:c=92∨c =(q.toNat:Int)
 ·rw [if_pos h4]
  have hqn:(q.toNat:Int)<128:=by rcases hq with rfl | rfl <;> decide
  have:c<128:=by rcases h4 with h | h <;> omega
  rcases enc_bytes c hc with ⟨-,e⟩ |⟨e,-⟩
  ·rw [e];exact esc _
  ·omega
 rw [if_neg h4]
 by_cases h5:c<32∨c=127
 ·rw [if_pos h5]
  have hp:∀ y∈(123::(hx c.toNat++[125]):List UInt8),y≠q/\y≠92:=by
   intro y hy
   have k:y≠39/\y≠34/\y≠92:=by
    rcases List.mem_cons.1 hy with rfl | hy
    ·decide
    ·rcases List.mem_append.1 hy with g | g
     ·have:=hx_bytes _ y g;exact ⟨this.1,this.2.1,this.2.2.1⟩
     ·obtain rfl:y=125:=by simpa using g
      decide
   rcases hq with rfl | rfl
   ·exact ⟨k.1,k.2.2⟩
   ·exact ⟨k.2.1,k.2.2⟩
  have e:([92,117,123]++hx c.toNat++[125]:List UInt8)=92::117::(123::(hx c.toNat++[125])):=by simp
  rw [e,List.cons_append,List.cons_append,qEnd_esc q1,qEnd_plain _ r hp]
  simp only [List.length_cons]
  omega
 rw [if_neg h5]
 refine qEnd_plain _ r fun y hy=>?_
 rcases enc_bytes c hc with ⟨hlt,e⟩ |⟨-,e⟩
 ·rw [e] at hy
  obtain rfl:y=UInt8.ofNat c.toNat:=by simpa using hy
  have hn:(UInt8.ofNat c.toNat).toNat=c.toNat:=by rw [UInt8.toNat_ofNat'];omega
  refine ⟨fun g=>h4 (Or.inr ?_),fun g=>h4 (Or.inl ?_)⟩
  ·rw [<- g,hn];omega
  ·rw [g] at hn;simp at hn;omega
 ·have:=e y hy
  refine ⟨fun g=>?_,fun g=>?_⟩
  ·subst g;rcases hq with rfl | rfl <;> simp at this
  ·subst g;simp at this
theorem chs_end (q:UInt8) (hq:q=39∨q=34) (r:List UInt8):∀ nu:List Int,(∀ x∈nu,0<=x)->qEnd q ((nu.map fun c=>chS c (q.toNat:Int)).flatten++r) =((nu.map fun c=>chS c (q.toNat:Int)).flatten).length+qEnd q r
 | [],_=>by simp
 | c::nu,h=>by
  rw [List.map_cons,List.flatten_cons,List.append_assoc,chS_end c q (h c (by simp)) hq,chs_end q hq r nu (fun x hx=>h x (by simp [hx])),List.length_append]
  omega
theorem dg_bytes (m:Nat):∀ y∈Num.dg m,48<=y.toNat/\y.toNat<=57:=by
 induction m using Num.dg.induct with
 | case1 m h=>rw [Num.dg_last h];intro y hy;obtain rfl:y=Num.dig m:=(by simpa using hy);rw [Num.dig_nat];omega
 | case2 m h ih =>
  rw [Num.dg_more h]
  intro y hy
  rcases List.mem_append.1 hy with g | g
  ·exact ih y g
  ·obtain rfl:y=Num.dig m:=by simpa using g
   rw [Num.dig_nat];omega
theorem shut_plain {p:List UInt8}(h0:p≠[]) (h:∀ y∈p,y≠39/\y≠34/\y≠32):Shut p:=by
 cases p with
 | nil=>exact absurd rfl h0
 | cons x r =>
  rw [shut_cons]
  have hx:=h x (by simp)
  rw [if_neg (fun g=>by rcases g with g | g;exact hx.1 g;exact hx.2.1 g)]
  exact fun y hy=>(h y hy).2.2
theorem shut_num (x:Int):Shut (Num.shL x):=by
 have hp:=num_pos x
 refine shut_plain (fun e=>by rw [e] at hp;simp at hp) fun y hy=>?_
 have k:48<=y.toNat/\y.toNat<=95:=by
  unfold Num.shL at hy
  split at hy
  ·rcases List.mem_cons.1 hy with rfl | hy
   ·decide
   ·have:=dg_bytes _ y hy;omega
  ·have:=dg_bytes _ y hy;omega
 refine ⟨?_,?_,?_⟩ <;>(intro g;subst g;simp at k)
theorem shut_lit {A:Arr}(hx:rightE A=0) (hb:litB A=true):Shut (litS A):=by
 rcases lit_forms hx hb with ⟨k,x,hk,rfl⟩ |⟨n,nu,rfl,hc,-⟩
 ·rcases hk with rfl | rfl
  ·have e:litS (.mk 1 [] [x] [])=Num.shL x:=by rw [litS];simp [litT]
   rw [e];exact shut_num x
  ·have e:litS (.mk 2 [] [x] [])=39::(chS x 39++[39]):=by rw [litS];simp [litT]
   have hx0:0<=x:=by
    have V:=val_of hx
    exact (chars_bd V.elems x (by simp)).1
   have:=chS_end x 39 hx0 (Or.inl rfl) [39]
   rw [show ((39:UInt8).toNat:Int)=39 from rfl] at this
   rw [e]
   rw [shut_cons,if_pos (Or.inl rfl),this,qEnd_stop,List.length_append]
   rfl
 ·rw [lit_vec]
  unfold quoS
  have:=chs_end 34 (Or.inr rfl) [34] nu (fun x hx=>(hc x hx).1)
  rw [show ((34:UInt8).toNat:Int)=34 from rfl] at this
  rw [shut_cons,if_pos (Or.inr rfl),this,qEnd_stop,List.length_append]
  rfl
structure Good (lt:Arr->ByteArray) (Q:List ByteArray->Prop):Prop where
 nil:Q []
 app:∀ a b,Q a->Q b->Q (a++b)
 par:∀ a,Q a->Q (⟨#[40]⟩::(a++[⟨#[41]⟩]))
 lam:∀ a,Q a->Q (⟨#[123]⟩::(a++[⟨#[125]⟩]))
 semi:Q [⟨#[59]⟩]
 colon:Q [⟨#[58]⟩]
 arrow:Q [⟨#[60,45]⟩]
 name:∀ s,nameB s=true->Q [s]
 word:∀ N,okN N=true->leafB N=true->Q [wdB lt N]
theorem okS_name {S:St}(h:okS S=true) (e:S.k=2):nameB S.n=true:=by
 rw [okS_eqP] at h
 simp only [Bool.and_eq_true] at h
 have h:=h.2
 rw [if_neg (by omega),if_pos e] at h
 simp only [Bool.and_eq_true] at h
 exact h.1.1.1
theorem Good.parQ {lt:Arr->ByteArray}{Q:List ByteArray->Prop}(g:Good lt Q) (enc:List Int) (x:Int × List ByteArray) (h:Q x.2):Q (Syn.par enc x):=by
 unfold Syn.par
 split
 ·exact g.par _ h
 ·exact h
theorem Good.flat {lt:Arr->ByteArray}{Q:List ByteArray->Prop}(g:Good lt Q) (enc:List Int):∀ (l:List Nd),(∀ j (h:j<l.length),Q (shN lt l[j]))->Q ((shK lt l).flatMap (Syn.par enc))
 | [],_=>by rw [shK];exact g.nil
 | N::r,h=>by
  rw [shK,List.flatMap_cons]
  exact g.app _ _ (g.parQ enc (N.k,shN lt N) (h 0 (by simp))) (g.flat enc r (fun j hj=>h (j+1) (by simpa using hj)))
theorem Good.stmt {lt:Arr->ByteArray}{Q:List ByteArray->Prop}(g:Good lt Q) {S:St}(h:okS S=true) (h1:Q (shN lt S.nd)) (h2:S.k=3->Q (shN lt S.te)):Q (shS lt S):=by
 rw [shS_eq]
 refine g.app _ _ ?_ h1
 split
 ·rename_i e
  exact g.app [S.n] [⟨#[60,45]⟩] (g.name _ (okS_name h e)) g.arrow
 ·split
  ·rename_i e
   exact g.app _ _ (h2 e) g.colon
  ·exact g.nil
theorem Good.more {lt:Arr->ByteArray}{Q:List ByteArray->Prop}(g:Good lt Q):∀ (l:List St),(∀ j (h:j<l.length),Q (shS lt l[j]))->Q (shC lt l)
 | [],_=>by rw [shC];exact g.nil
 | S::r,h=>by
  rw [shC]
  exact g.app [⟨#[59]⟩] _ g.semi (g.app _ _ (h 0 (by simp)) (g.more r (fun j hj=>h (j+1) (by simpa using hj))))
theorem Good.body {lt:Arr->ByteArray}{Q:List ByteArray->Prop}(g:Good lt Q):∀ (l:List St),(∀ j (h:j<l.length),Q (shS lt l[j]))->Q (shB lt l)
 | [],_=>by rw [shB];exact g.nil
 | S::r,h=>by
  rw [shB]
  exact g.app _ _ (h 0 (by simp)) (g.more r (fun j hj=>h (j+1) (by simpa using hj)))
theorem leaf_of {N:Nd}(h:okN N=true) (k3:¬ N.k=3) (k4:¬ N.k=4) (k5:¬ N.k=5) (k10:¬ N.k=10) (k14:¬ N.k=14) (k15:¬ N.k=15) (k16:¬ N.k=16):leafB N=true:=by
 rw [okN_eqP,if_neg k10] at h
 simp only [Bool.and_eq_true,Bool.or_eq_true] at h
 rcases h.2 with h | h
 ·exact h
 ·have:=h.1
  unfold innerB at this
  simp [k3,k4,k5,k14,k15,k16] at this
theorem Good.all {lt:Arr->ByteArray}{Q:List ByteArray->Prop}(g:Good lt Q):∀ (r:Nat) (N:Nd),rkN N<r->okN N=true->Q (shN lt N)
 | 0,_,h,_=>absurd h (Nat.not_lt_zero _)
 | r+1,N,h,ok=>by
  have hk:=okK_allP.1 (ok_kidsAll ok)
  have IH:=fun j (hj:j<N.ks.length)=>g.all r N.ks[j] (by have:=rk_kid N hj;omega) (hk j hj)
  rw [shN_eq]
  by_cases k3:N.k=3
  ·rw [if_pos k3];exact g.flat _ _ IH
  by_cases k4:N.k=4
  ·rw [if_neg k3,if_pos k4]
   obtain ⟨A,B,e⟩:=ok_k4 ok k4
   simp only [e] at IH ⊢
   have a:=IH 0 (by simp)
   have b:=IH 1 (by simp)
   rw [shK_map]
   exact g.app _ _ (g.parQ _ (A.k,shN lt A) a) (g.parQ _ (B.k,shN lt B) b)
  by_cases k5:N.k=5
  ·rw [if_neg k3,if_neg k4,if_pos k5]
   obtain ⟨A,B,C,e⟩:=ok_k5 ok k5
   simp only [e] at IH ⊢
   have a:=IH 0 (by simp)
   have b:=IH 1 (by simp)
   have c:=IH 2 (by simp)
   rw [shK_map]
   exact g.app _ _ (g.parQ _ (B.k,shN lt B) b) (g.app _ _ (g.parQ _ (A.k,shN lt A) a) (g.parQ _ (C.k,shN lt C) c))
  by_cases k10:N.k=10
  ·rw [if_neg k3,if_neg k4,if_neg k5,if_pos k10]
   have ol:=okL_allP.1 (ok_k10 ok k10)
   exact g.lam _ (g.body N.bd (fun j hj=>g.stmt (ol j hj) (g.all r _ (by have:=rk_body N hj;omega) (okS_nd (ol j hj)).1) (fun e=>g.all r _ (by have:=rk_body N hj;omega) ((okS_nd (ol j hj)).2.1 e))))
  by_cases k14:N.k=14
  ·rw [if_neg k3,if_neg k4,if_neg k5,if_neg k10,if_pos k14]
   obtain ⟨A,B,e⟩:=ok_k14 ok k14
   simp only [e] at IH ⊢
   have a:=IH 0 (by simp)
   have b:=IH 1 (by simp)
   rw [shK_map]
   exact g.app _ _ (g.parQ _ (B.k,shN lt B) b) (g.parQ _ (A.k,shN lt A) a)
  by_cases k15:N.k=15
  ·rw [if_neg k3,if_neg k4,if_neg k5,if_neg k10,if_neg k14,if_pos k15]
   obtain ⟨A,B,C,e⟩:=ok_k15 ok k15
   simp only [e] at IH ⊢
   have a:=IH 0 (by simp)
   have b:=IH 1 (by simp)
   have c:=IH 2 (by simp)
   rw [shK_map]
   exact g.app _ _ (g.parQ _ (B.k,shN lt B) b) (g.app _ _ (g.parQ _ (A.k,shN lt A) a) (g.parQ _ (C.k,shN lt C) c))
  by_cases k16:N.k=16
  ·rw [if_neg k3,if_neg k4,if_neg k5,if_neg k10,if_neg k14,if_neg k15,if_pos k16]
   exact g.flat _ _ IH
  rw [if_neg k3,if_neg k4,if_neg k5,if_neg k10,if_neg k14,if_neg k15,if_neg k16]
  exact g.word N ok (leaf_of ok k3 k4 k5 k10 k14 k15 k16)
theorem Good.node {lt:Arr->ByteArray}{Q:List ByteArray->Prop}(g:Good lt Q) {N:Nd}(h:okN N=true):Q (shN lt N):=g.all _ N (Nat.lt_succ_self _) h
theorem Good.stmts {lt:Arr->ByteArray}{Q:List ByteArray->Prop}(g:Good lt Q) {l:List St}(h:okL l=true):Q (shB lt l):=by
 have ol:=okL_allP.1 h
 exact g.body l (fun j hj=>g.stmt (ol j hj) (g.node (okS_nd (ol j hj)).1) (fun e=>g.node ((okS_nd (ol j hj)).2.1 e)))
/-! ### They are whole -/
def plainB (p:ByteArray):Bool:=p.data.toList != []&&p.data.toList.all fun y=>y != 39&&y != 34&&y != 32
theorem shut_plainB {p:ByteArray}(h:plainB p=true):Shut p.data.toList:=by
 unfold plainB at h
 simp only [Bool.and_eq_true,bne_iff_ne,List.all_eq_true] at h
 exact shut_plain h.1 fun y hy=>by have:=h.2 y hy;exact ⟨this.1.1,this.1.2,this.2⟩
theorem prim_plain (j:Nat) (h:1<=j) (g:j<56):plainB (primT.getD j ⟨#[]⟩)=true:=(by decide:∀ j<56,j=0∨plainB (primT.getD j ⟨#[]⟩)=true) j g |>.resolve_left (by omega)
theorem op_plain (j:Nat) (h:1<=j) (g:j<12):plainB (opT.getD j ⟨#[]⟩)=true:=(by decide:∀ j<12,j=0∨plainB (opT.getD j ⟨#[]⟩)=true) j g |>.resolve_left (by omega)
theorem name_plain {s:ByteArray}(h:nameB s=true):plainB s=true:=by
 unfold nameB at h
 simp only [Bool.and_eq_true,decide_eq_true_eq,List.all_eq_true,List.mem_range] at h
 have hs:s.data.toList.length=s.size:=rfl
 unfold plainB
 simp only [Bool.and_eq_true,bne_iff_ne,List.all_eq_true]
 refine ⟨fun e=>by rw [e] at hs;simp at hs;omega,fun y hy=>?_⟩
 obtain ⟨i,hi,rfl⟩:=List.getElem_of_mem hy
 have hi':i<s.size:=by rw [<- hs];exact hi
 have:=h.2 i hi'
 unfold chB at this
 rw [dif_pos hi'] at this
 have e:s[i]'hi'=s.data.toList[i]:=by rw [Array.getElem_toList];rfl
 rw [e] at this
 generalize s.data.toList[i]=y at *
 unfold lowB digB at this
 simp only [Bool.or_eq_true,Bool.and_eq_true,decide_eq_true_eq] at this
 refine ⟨⟨?_,?_⟩,?_⟩ <;>(intro g;subst g;simp at this)
def ShutL (l:List ByteArray):Prop:=∀ p∈l,Shut p.data.toList
theorem shut_leaf {N:Nd}(h:leafB N=true):Shut (wdB litW N).data.toList:=by
 unfold leafB at h
 unfold wdB
 by_cases k1:N.k=1
 ·rw [if_pos k1] at h ⊢
  simp only [Bool.and_eq_true,beq_iff_eq] at h
  exact shut_lit h.1.2 h.2
 rw [if_neg k1] at h ⊢
 by_cases k2:N.k=2
 ·rw [if_pos k2] at h ⊢
  simp only [Bool.and_eq_true] at h
  exact shut_plainB (name_plain h.1.1.2)
 rw [if_neg k2] at h ⊢
 by_cases k6:N.k=6
 ·rw [if_pos k6];exact shut_plainB (by decide)
 rw [if_neg k6]
 by_cases k7:N.k=7
 ·rw [if_pos k7];exact shut_plainB (by decide)
 rw [if_neg k7]
 by_cases k8:N.k=8
 ·rw [if_pos k8];exact shut_plainB (by decide)
 rw [if_neg k8]
 rw [if_neg (by omega)] at h
 by_cases k9:N.k=9
 ·rw [if_pos k9] at h ⊢
  simp only [Bool.and_eq_true,decide_eq_true_eq] at h
  exact shut_plainB (prim_plain _ (by omega) (by omega))
 rw [if_neg k9] at h ⊢
 by_cases k11:N.k=11
 ·rw [if_pos k11];exact shut_plainB (by decide)
 rw [if_neg k11]
 by_cases k12:N.k=12
 ·rw [if_pos k12];exact shut_plainB (by decide)
 rw [if_neg k12]
 by_cases k13:N.k=13
 ·rw [if_pos k13];exact shut_plainB (by decide)
 rw [if_neg k13]
 rw [if_neg (by omega)] at h
 by_cases k17:N.k=17
 ·rw [if_pos k17] at h ⊢
  simp only [Bool.and_eq_true,bne_iff_ne] at h
  have:¬ (N.o<1∨11<N.o):=fun g=>h.1.2 (by unfold opCls;rw [if_pos g])
  exact shut_plainB (op_plain _ (by omega) (by omega))
 ·rw [if_neg k17] at h;cases h
theorem shut_one {p:ByteArray}(h:Shut p.data.toList):ShutL [p]:=fun q hq=>by obtain rfl:q=p:=(by simpa using hq);exact h
theorem shutL_app {a b:List ByteArray}(h:ShutL a) (g:ShutL b):ShutL (a++b):=fun p hp=>(List.mem_append.1 hp).elim (h p) (g p)
theorem good_shut:Good litW ShutL where
 nil p hp:=by cases hp
 app a b h g:=shutL_app h g
 par a h:=shutL_app (shut_one (p:=⟨#[40]⟩) (shut_plainB (by decide))) (shutL_app h (shut_one (shut_plainB (by decide))))
 lam a h:=shutL_app (shut_one (p:=⟨#[123]⟩) (shut_plainB (by decide))) (shutL_app h (shut_one (shut_plainB (by decide))))
 semi:=shut_one (shut_plainB (by decide))
 colon:=shut_one (shut_plainB (by decide))
 arrow:=shut_one (shut_plainB (by decide))
 name s h:=shut_one (shut_plainB (name_plain h))
 word N _ h:=shut_one (shut_leaf h)
theorem shut_node {N:Nd}(h:okN N=true):ShutL (shN litW N):=good_shut.node h
def stepL (lv:Nat) (p:ByteArray):Nat:=if p.data.toList=[123] then lv+1 else if p.data.toList=[125] then lv - 1 else lv
def lvl:Nat->List ByteArray->Nat
 | lv,[]=>lv
 | lv,p::r=>lvl (stepL lv p) r
theorem lvl_app:∀ (a b:List ByteArray) (lv:Nat),lvl lv (a++b)=lvl (lvl lv a) b
 | [],_,_=>rfl
 | p::a,b,lv=>by rw [List.cons_append,lvl,lvl,lvl_app a b]
def Bal (l:List ByteArray):Prop:=∀ lv,lvl lv l=lv
def bareB (p:ByteArray):Bool:=p.data.toList != [123]&&p.data.toList != [125]&&p.data.toList != [59]&&!brB p.data.toList
theorem bare_step {p:ByteArray}(h:bareB p=true) (lv:Nat):stepL lv p=lv:=by
 unfold bareB at h
 simp only [Bool.and_eq_true,bne_iff_ne,Bool.not_eq_true'] at h
 unfold stepL
 rw [if_neg h.1.1.1,if_neg h.1.1.2]
theorem bare_bal {p:ByteArray}(h:bareB p=true):Bal [p]:=fun lv=>by rw [lvl,lvl,bare_step h]
theorem bal_app {a b:List ByteArray}(h:Bal a) (g:Bal b):Bal (a++b):=fun lv=>by rw [lvl_app,h,g]
theorem bare_first {p:ByteArray}(h:∀ y,p.data.toList.head?=some y->y≠123/\y≠125/\y≠59/\y≠10):bareB p=true:=by
 unfold bareB
 simp only [Bool.and_eq_true,bne_iff_ne,Bool.not_eq_true']
 refine ⟨⟨⟨fun e=>?_,fun e=>?_⟩,fun e=>?_⟩,?_⟩
 ·rw [e] at h;exact (h 123 rfl).1 rfl
 ·rw [e] at h;exact (h 125 rfl).2.1 rfl
 ·rw [e] at h;exact (h 59 rfl).2.2.1 rfl
 ·unfold brB
  cases e:p.data.toList.head? with
  | none=>rfl
  | some y =>
   have:=(h y e).2.2.2
   simpa using this
theorem prim_bare (j:Nat) (g:j<56):bareB (primT.getD j ⟨#[]⟩)=true:=(by decide:∀ j<56,bareB (primT.getD j ⟨#[]⟩)=true) j g
theorem op_bare (j:Nat) (g:j<12):bareB (opT.getD j ⟨#[]⟩)=true:=(by decide:∀ j<12,bareB (opT.getD j ⟨#[]⟩)=true) j g
theorem name_bare {s:ByteArray}(h:nameB s=true):bareB s=true:=by
 refine bare_first fun y hy=>?_
 have hm:y∈s.data.toList:=by
  cases e:s.data.toList with
  | nil=>rw [e] at hy;cases hy
  | cons x r=>rw [e] at hy;simp at hy;subst hy;simp
 unfold nameB at h
 simp only [Bool.and_eq_true,decide_eq_true_eq,List.all_eq_true,List.mem_range] at h
 have hs:s.data.toList.length=s.size:=rfl
 obtain ⟨i,hi,rfl⟩:=List.getElem_of_mem hm
 have hi':i<s.size:=by rw [<- hs];exact hi
 have:=h.2 i hi'
 unfold chB at this
 rw [dif_pos hi'] at this
 have e:s[i]'hi'=s.data.toList[i]:=by rw [Array.getElem_toList];rfl
 rw [e] at this
 generalize s.data.toList[i]=y at *
 unfold lowB digB at this
 simp only [Bool.or_eq_true,Bool.and_eq_true,decide_eq_true_eq] at this
 refine ⟨?_,?_,?_,?_⟩ <;>(intro g;subst g;simp at this)
theorem lit_bare {A:Arr}(hx:rightE A=0) (hb:litB A=true):bareB (litW A)=true:=by
 have hd:(litW A).data.toList=litS A:=rfl
 refine bare_first fun y hy=>?_
 rw [hd] at hy
 rcases lit_forms hx hb with ⟨k,x,hk,rfl⟩ |⟨n,nu,rfl,hc,-⟩
 ·rcases hk with rfl | rfl
  ·have e:litS (.mk 1 [] [x] [])=Num.shL x:=by rw [litS];simp [litT]
   rw [e] at hy
   have hm:y∈Num.shL x:=by
    cases e:Num.shL x with
    | nil=>rw [e] at hy;cases hy
    | cons z r=>rw [e] at hy;simp at hy;subst hy;simp
   have k:(48<=y.toNat/\y.toNat<=57)∨y=95:=by
    unfold Num.shL at hm
    split at hm
    ·rcases List.mem_cons.1 hm with rfl | hm
     ·exact Or.inr rfl
     ·exact Or.inl (dg_bytes _ y hm)
    ·exact Or.inl (dg_bytes _ y hm)
   refine ⟨?_,?_,?_,?_⟩ <;>(intro g;subst g;simp at k)
  ·have e:litS (.mk 2 [] [x] [])=39::(chS x 39++[39]):=by rw [litS];simp [litT]
   rw [e] at hy
   simp at hy
   subst hy
   decide
 ·rw [lit_vec] at hy
  unfold quoS at hy
  simp at hy
  subst hy
  decide
theorem leaf_bare {N:Nd}(h:leafB N=true):bareB (wdB litW N)=true:=by
 unfold leafB at h
 unfold wdB
 by_cases k1:N.k=1
 ·rw [if_pos k1] at h ⊢
  simp only [Bool.and_eq_true,beq_iff_eq] at h
  exact lit_bare h.1.2 h.2
 rw [if_neg k1] at h ⊢
 by_cases k2:N.k=2
 ·rw [if_pos k2] at h ⊢
  simp only [Bool.and_eq_true] at h
  exact name_bare h.1.1.2
 rw [if_neg k2] at h ⊢
 by_cases k6:N.k=6
 ·rw [if_pos k6];decide
 rw [if_neg k6]
 by_cases k7:N.k=7
 ·rw [if_pos k7];decide
 rw [if_neg k7]
 by_cases k8:N.k=8
 ·rw [if_pos k8];decide
 rw [if_neg k8]
 rw [if_neg (by omega)] at h
 by_cases k9:N.k=9
 ·rw [if_pos k9] at h ⊢
  simp only [Bool.and_eq_true,decide_eq_true_eq] at h
  exact prim_bare _ (by omega)
 rw [if_neg k9] at h ⊢
 by_cases k11:N.k=11
 ·rw [if_pos k11];decide
 rw [if_neg k11]
 by_cases k12:N.k=12
 ·rw [if_pos k12];decide
 rw [if_neg k12]
 by_cases k13:N.k=13
 ·rw [if_pos k13];decide
 rw [if_neg k13]
 rw [if_neg (by omega)] at h
 by_cases k17:N.k=17
 ·rw [if_pos k17] at h ⊢
  simp only [Bool.and_eq_true,bne_iff_ne] at h
  have:¬ (N.o<1∨11<N.o):=fun g=>h.1.2 (by unfold opCls;rw [if_pos g])
  exact op_bare _ (by omega)
 ·rw [if_neg k17] at h;cases h
theorem good_bal:Good litW Bal where
 nil lv:=rfl
 app a b h g:=bal_app h g
 par a h:=bal_app (a:=[⟨#[40]⟩]) (bare_bal (by decide)) (bal_app h (bare_bal (by decide)))
 lam a h lv:=by
  show lvl (stepL lv ⟨#[123]⟩) (a++[⟨#[125]⟩])=lv
  rw [show stepL lv ⟨#[123]⟩=lv+1 from rfl,lvl_app,h,lvl,lvl]
  rfl
 semi lv:=rfl
 colon:=bare_bal (by decide)
 arrow:=bare_bal (by decide)
 name s h:=bare_bal (name_bare h)
 word N _ h:=bare_bal (leaf_bare h)
/-! ### What is written -/
def outW (nb:List UInt8->List UInt8->Bool) (sep ind:List UInt8):List UInt8->Nat->List ByteArray->List UInt8
 | _,_,[]=>[]
 | bf,lv,p::r =>
  if p.data.toList=[59] then sep++((List.replicate lv ind).flatten++outW nb sep ind [] lv r)
  else (if bf != []&&nb bf p.data.toList then [32] else [])++(p.data.toList++outW nb sep ind p.data.toList (stepL lv p) r)
def FineL (l:List ByteArray):Prop:=∀ p∈l,p.data.toList≠[]/\brB p.data.toList=false
theorem fine_one {p:ByteArray}(h:Shut p.data.toList) (g:brB p.data.toList=false):FineL [p]:=fun q hq=>by
 obtain rfl:q=p:=(by simpa using hq)
 exact ⟨fun e=>by rw [e] at h;exact h,g⟩
theorem bare_br {p:ByteArray}(h:bareB p=true):brB p.data.toList=false:=by
 unfold bareB at h
 simp only [Bool.and_eq_true,Bool.not_eq_true'] at h
 exact h.2
theorem fineL_app {a b:List ByteArray}(h:FineL a) (g:FineL b):FineL (a++b):=fun p hp=>(List.mem_append.1 hp).elim (h p) (g p)
theorem fine_lit {p:ByteArray}(h:plainB p=true) (g:brB p.data.toList=false):FineL [p]:=fine_one (shut_plainB h) g
theorem good_fine:Good litW FineL where
 nil p hp:=by cases hp
 app a b h g:=fineL_app h g
 par a h:=fineL_app (fine_lit (p:=⟨#[40]⟩) (by decide) (by decide)) (fineL_app h (fine_lit (by decide) (by decide)))
 lam a h:=fineL_app (fine_lit (p:=⟨#[123]⟩) (by decide) (by decide)) (fineL_app h (fine_lit (by decide) (by decide)))
 semi:=fine_lit (by decide) (by decide)
 colon:=fine_lit (by decide) (by decide)
 arrow:=fine_lit (by decide) (by decide)
 name s h:=fine_one (shut_plainB (name_plain h)) (bare_br (name_bare h))
 word N _ h:=fine_one (shut_leaf h) (bare_br (leaf_bare h))
theorem join_rest (p:List UInt8) (r:List (List UInt8)):(Lib.join (p::r) [32]).drop p.length=Lib.joinTail [32] r:=by
 rw [Lib.join_cons,List.drop_left]
theorem tail_trim (y:List UInt8) (r:List (List UInt8)):Lib.joinTail [32] (y::r)=32::Lib.join (y::r) [32]:=by
 rw [Lib.join_cons];simp [Lib.joinTail]
theorem prS_ne {S:St}(h:okS S=true):shS litW S≠[]:=by
 rw [shS_eq]
 intro e
 exact shN_ne' litW (okS_nd h).1 (List.append_eq_nil_iff.1 e).2
theorem prB_ne {l:List St}(h:okL l=true) (hl:l≠[]):shB litW l≠[]:=by
 cases l with
 | nil=>exact absurd rfl hl
 | cons S r =>
  rw [okL,Bool.and_eq_true] at h
  rw [shB]
  intro e
  exact prS_ne h.1 (List.append_eq_nil_iff.1 e).1
theorem outW_ne (nb:List UInt8->List UInt8->Bool) {sep ind bf:List UInt8}{lv:Nat}{l:List ByteArray}(h:l≠[]) (g:FineL l) (hs:sep≠[]):outW nb sep ind bf lv l≠[]:=by
 cases l with
 | nil=>exact absurd rfl h
 | cons p r =>
  rw [outW]
  split
  ·intro e;exact hs (List.append_eq_nil_iff.1 e).1
  ·intro e
   have:=(List.append_eq_nil_iff.1 (List.append_eq_nil_iff.1 e).2).1
   exact (g p (by simp)).1 this
def longT (l:List St):List UInt8:=if l=[] then [] else outW (fun _ _=>true) [10] [32,32] [] 0 (shB litW l)++[10]
def shortT (l:List St):List UInt8:=outW blankB [59] [] [] 0 (shB litW l)
end Go.Proofs.YtalkinnbfglkdaaGreatDoor.Syn
