/-
  Layer 13: the tokens of a text of parts: a part is read back if what follows does not prolong it.
  Layer 13: the parts of a program's text are tokens; the tokens of both texts.
  Layer 13: Scan of any text; the tokens of both texts.
-/
import Derived.Test.YtalkinnbfglkdaaGreatDoorPt37
import Derived.Test.YtalkinnbfglkdaaGreatDoorPt41
import Derived.Test.YtalkinnbfglkdaaGreatDoorPt35
import Derived.Test.YtalkinnbfglkdaaGreatDoorPt33
import Derived.Test.YtalkinnbfglkdaaGreatDoorPt44
set_option maxHeartbeats 400000
namespace Go.Proofs.YtalkinnbfglkdaaGreatDoor.Tok
open Go.RowKit
set_option linter.unusedVariables false
structure Stop (p R:List UInt8):Prop where
 word:Syn.wordB (p.getLastD 0)=true->hdDig R=false/\hdLet R=false/\hdIn R 95 95=false
 less:p=[60]->hdIn R 61 61=false/\hdIn R 45 45=false
 more:p=[62]->hdIn R 61 61=false
theorem stop_cons {p R:List UInt8}{y:UInt8}(h1:Syn.wordB y=false) (h2:y≠61) (h3:y≠45):Stop p (y::R):=by
 unfold Syn.wordB at h1
 rw [decide_eq_false_iff_not] at h1
 have hne:∀ z:UInt8,y≠z->hdIn (y::R) (z.toNat:Int) (z.toNat:Int)=false:=fun z hz=>decide_eq_false fun q=>hz (UInt8.toNat_inj.1 (by omega))
 refine ⟨fun _=>⟨?_,?_,hne 95 (fun e=>h1 (by simp [e]))⟩,fun _=>⟨hne 61 h2,hne 45 h3⟩,fun _=>hne 61 h2⟩
 ·refine decide_eq_false fun q=>h1 ?_;left;omega
 ·unfold hdLet
  rw [Bool.or_eq_false_iff]
  refine ⟨decide_eq_false fun q=>h1 ?_,decide_eq_false fun q=>h1 ?_⟩
  ·right;left;omega
  ·right;right;left;omega
theorem stop_nil {p:List UInt8}:Stop p []:=⟨fun _=>⟨rfl,rfl,rfl⟩,fun _=>⟨rfl,rfl⟩,fun _=>rfl⟩
theorem stop_sep {p R sep:List UInt8}(h:sep=[10]∨sep=[59]):Stop p (sep++R):=by
 rcases h with rfl | rfl <;> exact stop_cons (by decide) (by decide) (by decide)
theorem stop_blank {p R:List UInt8}:Stop p (32::R):=stop_cons (by decide) (by decide) (by decide)
theorem lastD_mem:∀ {l:List UInt8},l≠[]->l.getLastD 0∈l
 | [],h=>absurd rfl h
 | a::l,_=>by
  rw [List.getLastD_eq_getLast?,List.getLast?_eq_some_getLast (by simp)]
  exact List.getLast_mem _
theorem stop_short (p q R:List UInt8) (hq:q≠[]) (h:Syn.blankB p q=false):Stop p (q++R):=by
 obtain ⟨y,r,rfl⟩:∃ y r,q=y::r:=by
  cases q with
  | nil=>exact absurd rfl hq
  | cons y r=>exact ⟨y,r,rfl⟩
 unfold Syn.blankB at h
 simp only [List.headD_cons,Bool.or_eq_false_iff,Bool.and_eq_false_iff,beq_eq_false_iff_ne] at h
 obtain ⟨⟨h1,h2⟩,h3⟩:=h
 have hne:∀ z:UInt8,y≠z->hdIn (y::(r++R)) (z.toNat:Int) (z.toNat:Int)=false:=fun z hz=>decide_eq_false fun q=>hz (UInt8.toNat_inj.1 (by omega))
 refine ⟨fun hw=>?_,fun e=>?_,fun e=>?_⟩
 ·have h4:Syn.wordB y=false:=h1.resolve_left (by rw [hw];decide)
  unfold Syn.wordB at h4
  rw [decide_eq_false_iff_not] at h4
  refine ⟨?_,?_,hne 95 (fun e=>h4 (by simp [e]))⟩
  ·refine decide_eq_false fun q=>h4 ?_;left;omega
  ·unfold hdLet
   rw [Bool.or_eq_false_iff]
   refine ⟨decide_eq_false fun q=>h4 ?_,decide_eq_false fun q=>h4 ?_⟩
   ·right;left;omega
   ·right;right;left;omega
 ·subst e
  have h4:=h2.resolve_left (fun g=>g rfl)
  exact ⟨hne 61 h4.1,hne 45 h4.2⟩
 ·subst e
  exact hne 61 (h3.resolve_left (fun g=>g rfl))
/-! ### A token is read back -/
theorem numS_stop {s:ByteArray}{i:Nat}{x:UInt8}{D R:List UInt8}{n:Int}(h:Sfx s i (x::D++R)) (hD:∀ c∈D,48<=c.toNat/\c.toNat<=57) (hr:Num.rdS (x::D) =(n,0)) (hR:hdDig R=false/\hdLet R=false/\hdIn R 95 95=false):numS s i (i+1)=.tok 1 n ⟨#[]⟩ (i+(x::D).length):=by
 have h1:Sfx s (i+1) (D++R):=Sfx.next h
 have hm:manyTo (one (isDig s)) (s.size - (i+1)) (i+1)=i+1+D.length:=many_sfx (fun i L=>Sfx.isDig) D (i+1) _ h1 (fun c hc L=>by have:=hD c hc;simp only [hdDig,hdIn,decide_eq_true_eq];omega) hR.1 (by have:=h1.len;rw [List.length_append] at this;omega)
 have e:i+1+D.length=i+(x::D).length:=by rw [List.length_cons];omega
 have ha:=Sfx.app (A:=x::D) h
 unfold numS
 rw [hm,e]
 unfold numAt
 rw [Sfx.cut (A:=x::D) h,arr_of,hr,if_neg]
 rw [ha.isLet,ha.inB,hR.2.1,hR.2.2]
 simp
theorem word_dig {c:UInt8}(h:48<=c.toNat/\c.toNat<=57):Syn.wordB c=true:=by
 unfold Syn.wordB;rw [decide_eq_true_eq];left;exact h
theorem num_last (n:Int):Syn.wordB ((Num.shL n).getLastD 0)=true:=by
 have hd:=dg_dig n.natAbs
 obtain ⟨c,r,e,hc⟩:=Num.dg_head n.natAbs
 have hne:Num.dg n.natAbs≠[]:=by rw [e];simp
 by_cases hn:n<0
 ·rw [Num.shL_neg hn]
  have e2:(95::Num.dg n.natAbs).getLastD 0 =(Num.dg n.natAbs).getLastD 0:=by
   rw [e];simp [List.getLastD]
  rw [e2]
  exact word_dig (hd _ (lastD_mem hne))
 ·rw [Num.shL_pos hn]
  exact word_dig (hd _ (lastD_mem hne))
theorem num_stop {s:ByteArray}{i:Nat}{n:Int}{R:List UInt8}(hf:Num.fitsB n=true) (h:Sfx s i (Num.shL n++R)) (hS:Stop (Num.shL n) R):tokenS s i=.tok 1 n ⟨#[]⟩ (i+(Num.shL n).length):=by
 have hR:=hS.word (num_last n)
 have hr:=Num.rdS_shL n
 rw [if_pos hf] at hr
 rw [tokenS_sfx h]
 by_cases hn:n<0
 ·rw [Num.shL_neg hn] at h hr ⊢
  rw [if_pos (by rfl)]
  exact numS_stop h (dg_dig _) hr hR
 ·rw [Num.shL_pos hn] at h hr ⊢
  have hd:=dg_dig n.natAbs
  obtain ⟨c,r,e,hc⟩:=Num.dg_head n.natAbs
  rw [e] at h hr hd ⊢
  have h1:=hd c (by simp)
  rw [if_neg (by simp only [List.cons_append,hdIn,decide_eq_true_eq];omega),if_pos (by simp only [List.cons_append,hdDig,hdIn,decide_eq_true_eq];omega)]
  exact numS_stop h (fun c hc=>hd c (List.mem_cons_of_mem _ hc)) hr hR
theorem wordS_stop {s:ByteArray}{i:Nat}{x:UInt8}{D R:List UInt8}(h:Sfx s i (x::D++R)) (hD:∀ c∈D,hdLD [c]=true) (hR:hdLD R=false):wordS s i (i+1)=wordAt ⟨(x::D).toArray⟩ i (i+(x::D).length):=by
 have h1:Sfx s (i+1) (D++R):=Sfx.next h
 have hm:manyTo (one (isLD s)) (s.size - (i+1)) (i+1)=i+1+D.length:=many_sfx (fun i L=>Sfx.isLD) D (i+1) _ h1 (fun c hc L=>hD c hc) hR (by have:=h1.len;rw [List.length_append] at this;omega)
 have e:i+1+D.length=i+(x::D).length:=by rw [List.length_cons];omega
 unfold wordS
 rw [hm,e,Sfx.cut (A:=x::D) h]
theorem stop_LD {R:List UInt8}(h:hdDig R=false/\hdLet R=false/\hdIn R 95 95=false):hdLD R=false:=by unfold hdLD;rw [h.1,h.2.1];rfl
theorem word_LD {c:UInt8}(h:hdLD [c]=true):Syn.wordB c=true:=by
 simp only [hdLD,hdLet,hdDig,hdIn,Bool.or_eq_true,decide_eq_true_eq] at h
 unfold Syn.wordB;rw [decide_eq_true_eq];omega
theorem name_stop {s:ByteArray}{i:Nat}{t:ByteArray}{R:List UInt8}(hN:Named t) (h:Sfx s i (t.data.toList++R)) (hS:Stop t.data.toList R):tokenS s i=.tok 4 0 t (i+t.data.toList.length):=by
 have hm:=hN.mem
 have hp:=hN.pos
 have hf:∀ x D,t.data.toList=x::D->lowC x:=fun x D e=>by
  have q:=hN.first hp
  have e2:t[0]=t.data.toList[0]'(by rw [<- Lib.size_eq];exact hp):=rfl
  rw [e2] at q
  simp only [e,List.getElem_cons_zero] at q
  exact q
 have hz:=hN.small
 have hres:=hN.free
 have hb:=arr_list t
 rw [Lib.size_eq] at hp
 have hz2:=hz
 rw [ByteArray.toList_eq] at hres
 cases hl:t.data.toList with
 | nil=>rw [hl] at hp;simp at hp
 | cons x D =>
  rw [hl] at h hm hb hres hS
  have hx:=hf x D hl
  unfold lowC at hx
  have hR:=stop_LD (hS.word (by
   have:=hm _ (lastD_mem (l:=x::D) (by simp))
   unfold lowC digC at this
   unfold Syn.wordB;rw [decide_eq_true_eq];omega))
  rw [tokenS_sfx h,if_neg (by simp only [List.cons_append,hdIn,decide_eq_true_eq];omega),if_neg (by simp only [List.cons_append,hdDig,hdIn,decide_eq_true_eq];omega),
   if_pos (by simp only [List.cons_append,hdLet,hdIn,Bool.or_eq_true,decide_eq_true_eq];omega)]
  rw [wordS_stop h (fun c hc=>by
   have:=hm c (List.mem_cons_of_mem _ hc)
   unfold lowC digC at this
   simp only [hdLD,hdLet,hdDig,hdIn,Bool.or_eq_true,decide_eq_true_eq]
   omega) hR,hb]
  unfold wordAt
  have hu:¬ upB t.toList=true:=by
   rw [ByteArray.toList_eq,hl]
   intro q
   obtain ⟨c,c1,c2⟩:=List.any_eq_true.1 q
   have:=hm c c1
   unfold lowC digC at this
   rw [decide_eq_true_eq] at c2
   omega
  rw [if_neg (by rw [ByteArray.toList_eq,hl,hres];decide),if_neg hu,if_neg (by omega)]
def twoOk (l:List UInt8):Bool:=match l with
 | [c,y]=>hdLet [c] || !(signB [c] || resB [c]) ||(c==60&&(y==61 || y==45)) ||(c==62&&y==61)
 | _=>true
theorem twoOk_all:(signWords++resWords).all twoOk=true:=by decide +kernel
theorem twoOk_of {l:List UInt8}(h:(signB l || resB l)=true):twoOk l=true:=by
 refine List.all_eq_true.1 twoOk_all l ?_
 rw [Bool.or_eq_true] at h
 rw [List.mem_append]
 rcases h with h | h
 ·obtain ⟨c,h1,h2⟩:=List.any_eq_true.1 h
  rw [eq_of_beq h2];exact Or.inl h1
 ·obtain ⟨c,h1,h2⟩:=List.any_eq_true.1 h
  rw [eq_of_beq h2];exact Or.inr h1
theorem sym_stop {s:ByteArray}{i:Nat}{t R:List UInt8}(hS:(signB t || resB t)=true) (h:Sfx s i (t++R)) (hR:Stop t R):tokenS s i=.tok 5 0 ⟨t.toArray⟩ (i+t.length):=by
 have hk:=okSym_of hS
 cases t with
 | nil=>cases hk
 | cons c r =>
  have hh:∀ lo hi,hdIn (c::r++R) lo hi=hdIn (c::r) lo hi:=fun _ _=>rfl
  rw [tokenS_sfx h,hh,hh,hh,hh,hh,show hdDig (c::r++R)=hdDig (c::r) from rfl,show hdLet (c::r++R)=hdLet (c::r) from rfl]
  simp only [okSym] at hk
  by_cases hl:hdLet (c::r)=true
  ·rw [if_pos hl,Bool.and_eq_true] at hk
   have hl2:=hl
   simp only [hdLet,hdIn,Bool.or_eq_true,decide_eq_true_eq] at hl2
   have hall:∀ x∈c::r,Syn.wordB x=true:=fun x hx=>by
    rcases List.mem_cons.1 hx with rfl | hx
    ·refine word_LD ?_
     unfold hdLD
     rw [Bool.or_eq_true]
     exact Or.inl hl
    ·exact word_LD (List.all_eq_true.1 hk.2 x hx)
   have hLD:=stop_LD (hR.word (hall _ (lastD_mem (by simp))))
   rw [if_neg (by simp only [hdIn,decide_eq_true_eq];omega),if_neg (by simp only [hdDig,hdIn,decide_eq_true_eq];omega),if_pos hl,wordS_stop h (fun x hx=>List.all_eq_true.1 hk.2 x hx) hLD]
   unfold wordAt
   rw [toList_of,if_pos hk.1]
  ·rw [if_neg hl] at hk
   simp only [Bool.and_eq_true,Bool.not_eq_true',Bool.or_eq_true,decide_eq_true_eq] at hk
   obtain ⟨⟨⟨⟨⟨⟨k1,k2⟩,k3⟩,k4⟩,k5⟩,k6⟩,k7⟩:=hk
   rw [if_neg (by rw [k1];decide),if_neg (by rw [k2];decide),if_neg hl,if_neg (by rw [k3];decide),if_neg (by rw [k4];decide),if_neg (by rw [k5];decide)]
   unfold symS
   rcases k6 with k6 |⟨k6,k8⟩
   ·obtain ⟨d,rfl⟩:∃ d,r=[d]:=by
     cases r with
     | nil=>cases k6
     | cons d r'=>cases r' with
      | nil=>exact ⟨d,rfl⟩
      | cons _ _=>simp at k6
    have hc:=Sfx.cut (A:=[c,d]) h
    have hz:=h.len
    simp only [List.length_append,List.length_cons,List.length_nil] at hc hz
    rw [hc,toList_of,if_pos ⟨by omega,hS⟩]
    rfl
   ·subst k6
    have hc1:=Sfx.cut (A:=[c]) h
    simp only [List.length_cons,List.length_nil] at hc1
    rw [if_neg,hc1,toList_of,if_pos hS]
    ·rfl
    ·rintro ⟨q1,q2⟩
     cases R with
     | nil =>
      have hz:=h.len
      simp only [List.length_append,List.length_cons,List.length_nil] at hz
      omega
     | cons y R' =>
      have hc:=Sfx.cut (A:=[c,y]) (L:=R') h
      simp only [List.length_cons,List.length_nil] at hc
      rw [hc,toList_of] at q2
      have h2:=twoOk_of q2
      unfold twoOk at h2
      simp only [Bool.or_eq_true,Bool.and_eq_true,beq_iff_eq] at h2
      rcases h2 with ((h2 | h2) |⟨h2,h3⟩) |⟨h2,h3⟩
      ·exact hl h2
      ·rw [hS] at h2;cases h2
      ·have:=hR.less (by rw [h2])
       rcases h3 with rfl | rfl
       ·exact absurd this.1 (by simp [hdIn])
       ·exact absurd this.2 (by simp [hdIn])
      ·have:=hR.more (by rw [h2])
       subst h3
       exact absurd this (by simp [hdIn])
theorem tok_stop {k n:Int}{t:ByteArray}(hg:Gd k n t) {s:ByteArray}{i:Nat}{R:List UInt8}(hR:Stop (oneW k n t) R) (h:Sfx s i (oneW k n t++R)):tokenS s i=.tok k n t (i+(oneW k n t).length):=by
 cases hg with
 | num n hf=>rw [one_num hf] at h hR ⊢;exact num_stop hf h hR
 | chr c hc =>
  rw [one_chr hc] at h ⊢
  have e2:(39::(chW 39 c++[39]))++R=39::(chW 39 c++39::R):=by simp
  rw [e2] at h
  exact char_back hc h
 | str cs hc =>
  rw [one_str hc] at h ⊢
  have e2:(34::(cs.flatMap (chW 34)++[34]))++R=34::(cs.flatMap (chW 34)++34::R):=by simp
  rw [e2] at h
  exact str_back hc (chW_pos (Or.inr rfl) hc) h
 | name t hN=>rw [one_text 4 (Or.inl rfl)] at h hR ⊢;exact name_stop hN h hR
 | sym t hS =>
  rw [one_text 5 (Or.inr rfl)] at h hR ⊢
  have:=sym_stop hS h hR
  rw [arr_list] at this
  exact this
 | brk =>
  rw [one_brk] at h ⊢
  rw [tokenS_sfx h,if_neg (by exact fls rfl),if_neg (by exact fls rfl),if_neg (by exact fls rfl),if_neg (by exact fls rfl),if_neg (by exact fls rfl),if_pos (by rfl)]
  rfl
theorem brk_tok {s:ByteArray}{i:Nat}{sep R:List UInt8}(hs:sep=[10]∨sep=[59]) (h:Sfx s i (sep++R)):tokenS s i=.tok 6 0 ⟨#[]⟩ (i+1):=by
 rcases hs with rfl | rfl <;> rw [tokenS_sfx h,if_neg (by exact fls rfl),if_neg (by exact fls rfl),if_neg (by exact fls rfl),if_neg (by exact fls rfl),if_neg (by exact fls rfl),if_pos (by rfl)]
theorem brk_only {k n:Int}{t:ByteArray}(hg:Gd k n t) (h:oneW k n t=[59]):k=6/\n=0/\t =⟨#[]⟩:=by
 have S:Sfx ⟨(#[59]:Array UInt8)⟩ 0 ([59]++[]):=⟨Nat.zero_le _,rfl⟩
 have h1:=brk_tok (Or.inr rfl) S
 have h2:=tok_stop hg (R:=[]) stop_nil (s:=⟨#[59]⟩) (i:=0) (by rw [h];exact S)
 rw [h1] at h2
 injection h2 with a b c d
 exact ⟨a.symm,b.symm,c.symm⟩
/-! ### The tokens of a text -/
theorem sep_step {s:ByteArray}{i:Nat}{L:List UInt8}(h:Sfx s i (32::L)):sepTo s i=sepTo s (i+1):=by
 have e:sepS s i =(true,i+1):=by
  rw [sepS_eq,h.inB,h.inB,h.inB,h.inB,if_neg (by exact fls rfl),if_pos (by rfl)]
 unfold sepTo
 rw [manyTo_step (goes_sep s) h.le (by rw [e]),e]
theorem sep_steps {s:ByteArray}:∀ (B:List UInt8) (i:Nat) {L:List UInt8},(∀ x∈B,x=32)->Sfx s i (B++L)->sepTo s i=sepTo s (i+B.length)
 | [],i,L,_,h=>rfl
 | x::B,i,L,hx,h=>by
  obtain rfl:x=32:=hx x (by simp)
  have h':Sfx s i (32::(B++L)):=h
  rw [sep_step h',sep_steps B (i+1) (fun y hy=>hx y (List.mem_cons_of_mem _ hy)) h'.next,List.length_cons]
  congr 1
  omega
def wd (x:Int × Int × ByteArray):ByteArray:=⟨(oneW x.1 x.2.1 x.2.2).toArray⟩
theorem wd_data (x:Int × Int × ByteArray):(wd x).data.toList=oneW x.1 x.2.1 x.2.2:=arr_of _
def Out (s:ByteArray) (f i:Nat) (acc:List T5) (L:List (Int × Int × ByteArray)):Prop :=
 (acc.length+L.length<=16384->∃ m,scanGo s f i acc=.ok (acc++m)/\m.map key=L)/\(16384<acc.length+L.length->∃ a,scanGo s f i acc=.bad 21 a)
theorem out_step {s:ByteArray}{f j j':Nat}{acc:List T5}{k n:Int}{t:ByteArray}{L:List (Int × Int × ByteArray)}(hlt:j<s.size) (ht:tokenS s j=.tok k n t j') (ha:acc.length<=16384)
  (ih:acc.length+1<=16384->Out s f (sepTo s j') (acc++[⟨k,j,(j':Int) - j,n,t⟩]) L):Out s (f+1) j acc ((k,n,t)::L):=by
 unfold Out
 rw [scanGo,if_pos hlt,ht,List.length_cons]
 simp only
 by_cases he:acc.length=16384
 ·rw [if_pos he]
  exact ⟨fun h=>by omega,fun _=>⟨_,rfl⟩⟩
 ·rw [if_neg he]
  obtain ⟨i1,i2⟩:=ih (by omega)
  rw [List.length_append,List.length_singleton] at i1 i2
  refine ⟨fun h=>?_,fun h=>i2 (by omega)⟩
  obtain ⟨m,m1,m2⟩:=i1 (by omega)
  exact ⟨⟨k,j,(j':Int) - j,n,t⟩::m,by rw [m1,List.append_assoc];rfl,by rw [List.map_cons,m2];rfl⟩
theorem flat_blank {ind:List UInt8}(h:∀ x∈ind,x=32) (lv:Nat):∀ x∈(List.replicate lv ind).flatten,x=32:=by
 intro x hx
 obtain ⟨l,hl,hx⟩:=List.mem_flatten.1 hx
 rw [List.mem_replicate] at hl
 rw [hl.2] at hx
 exact h x hx
theorem scan_out {nb:List UInt8->List UInt8->Bool}{sep ind:List UInt8}(hsep:sep=[10]∨sep=[59]) (hind:∀ x∈ind,x=32) (hnb:∀ p q R,q≠[]->nb p q=false->Stop p (q++R)) {s:ByteArray} :
  ∀ (L:List (Int × Int × ByteArray)) (bf:List UInt8) (lv f i:Nat) (acc:List T5),(∀ x∈L,Gd x.1 x.2.1 x.2.2)->Sfx s i (Syn.outW nb sep ind bf lv (L.map wd))->s.size - i<f->acc.length<=16384->Out s f (sepTo s i) acc L
 | L,bf,lv,0,i,acc,hg,h,hf,ha=>by omega
 | [],bf,lv,f+1,i,acc,hg,h,hf,ha=>by
  have h':Sfx s i []:=h
  have hz:=h'.len
  rw [List.length_nil] at hz
  rw [sep_end h']
  unfold Out
  rw [scanGo,if_neg (by omega)]
  refine ⟨fun _=>⟨[],by rw [List.append_nil],rfl⟩,fun q=>?_⟩
  rw [List.length_nil] at q
  omega
 | x::L,bf,lv,f+1,i,acc,hg,h,hf,ha=>by
  have hx:=hg x (by simp)
  have hL:∀ y∈L,Gd y.1 y.2.1 y.2.2:=fun y hy=>hg y (List.mem_cons_of_mem _ hy)
  have hne:=(hdOk_no (one_head hx)).1
  rw [List.map_cons,Syn.outW,wd_data] at h
  by_cases he:oneW x.1 x.2.1 x.2.2=[59]
  ·rw [if_pos he] at h
   obtain ⟨b1,b2,b3⟩:=brk_only hx he
   have hlen:sep.length=1:=by rcases hsep with rfl | rfl <;> rfl
   have hok:hdOk (sep++((List.replicate lv ind).flatten++Syn.outW nb sep ind [] lv (L.map wd)))=true:=by rcases hsep with rfl | rfl <;> rfl
   have hsz:=h.len
   rw [List.length_append,hlen] at hsz
   have ht:=brk_tok hsep h
   have h1:=h.app
   rw [hlen] at h1
   have h2:=h1.app
   rw [sep_ok h hok]
   obtain ⟨k,n,t⟩:=x
   simp only at b1 b2 b3
   subst b1;subst b2;subst b3
   refine out_step (by omega) ht ha fun hc=>?_
   rw [sep_steps _ _ (flat_blank hind lv) h1]
   exact scan_out hsep hind hnb L [] lv f _ _ hL h2 (by omega) (by rw [List.length_append,List.length_singleton];omega)
  ·rw [if_neg he] at h
   obtain ⟨p,hp⟩:∃ p,oneW x.1 x.2.1 x.2.2=p:=⟨_,rfl⟩
   obtain ⟨R,hR⟩:∃ R,Syn.outW nb sep ind p (Syn.stepL lv (wd x)) (L.map wd)=R:=⟨_,rfl⟩
   rw [hp,hR] at h
   have hst:Stop p R:=by
    rw [<- hR]
    cases L with
    | nil=>exact stop_nil
    | cons y L' =>
     rw [List.map_cons,Syn.outW,wd_data]
     split
     ·exact stop_sep hsep
     ·have hy:=(hdOk_no (one_head (hL y (by simp)))).1
      by_cases hb:nb p (oneW y.1 y.2.1 y.2.2)=true
      ·have:(p != []&&nb p (oneW y.1 y.2.1 y.2.2))=true:=by
        rw [hb,Bool.and_true,bne_iff_ne,<- hp];exact hne
       rw [if_pos this]
       exact stop_blank
      ·rw [Bool.not_eq_true] at hb
       have:¬ (p != []&&nb p (oneW y.1 y.2.1 y.2.2))=true:=by rw [hb,Bool.and_false];decide
       rw [if_neg this]
       exact hnb p (oneW y.1 y.2.1 y.2.2) _ hy hb
   have hh:hdOk (p++R)=true:=by rw [<- hp];exact hdOk_app (one_head hx)
   have go:∀ j,Sfx s j (p++R)->i<=j->sepTo s i=j->Out s (f+1) (sepTo s i) acc (x::L):=fun j hj hij e=>by
    rw [e]
    have hz:=hj.len
    have hpl:0<p.length:=List.length_pos_iff.2 (by rw [<- hp];exact hne)
    rw [List.length_append] at hz
    have ht:=tok_stop hx (by rw [hp];exact hst) (by rw [hp];exact hj)
    rw [hp] at ht
    have h2:=hj.app
    rw [<- hR] at h2
    obtain ⟨k,n,t⟩:=x
    refine out_step (by omega) ht ha fun hc=>?_
    exact scan_out hsep hind hnb L p _ f _ _ hL h2 (by omega) (by rw [List.length_append,List.length_singleton];omega)
   by_cases hb:(bf != []&&nb bf p)=true
   ·rw [if_pos hb] at h
    have h':Sfx s i (32::(p++R)):=h
    exact go (i+1) h'.next (by omega) (sep_blank h' hh)
   ·rw [if_neg hb] at h
    have h':Sfx s i (p++R):=h
    exact go i h' (Nat.le_refl _) (sep_ok h' hh)
theorem scan_parts {nb:List UInt8->List UInt8->Bool}{sep ind:List UInt8}(hsep:sep=[10]∨sep=[59]) (hind:∀ x∈ind,x=32) (hnb:∀ p q R,q≠[]->nb p q=false->Stop p (q++R)) (L:List (Int × Int × ByteArray)) (hg:∀ x∈L,Gd x.1 x.2.1 x.2.2)
  {s:ByteArray}(hs:s.data.toList=Syn.outW nb sep ind [] 0 (L.map wd)):(L.length<=16384->∃ m,scanS s=.ok m/\m.map key=L)/\(16384<L.length->∃ a,scanS s=.bad 21 a):=by
 have h:Sfx s 0 (Syn.outW nb sep ind [] 0 (L.map wd)):=⟨Nat.zero_le _,by rw [List.drop_zero,hs]⟩
 have o:=scan_out hsep hind hnb L [] 0 (s.size+1) 0 [] hg h (by omega) (Nat.zero_le _)
 unfold Out at o
 simp only [List.length_nil,Nat.zero_add,List.nil_append] at o
 exact o
end Go.Proofs.YtalkinnbfglkdaaGreatDoor.Tok
namespace Go.Proofs.YtalkinnbfglkdaaGreatDoor.Syn
open Go.RowKit Go.Proofs.YtalkinnbfglkdaaGreatDoor.Shape
set_option linter.unusedVariables false
set_option maxRecDepth 100000
theorem ba_same {a b:ByteArray}(h:a.data.toList=b.data.toList):a=b:=by
 cases a;cases b;simpa using h
def Toks (l:List ByteArray):Prop:=∃ L:List (Int × Int × ByteArray),l=L.map Tok.wd/\∀ x∈L,Tok.Gd x.1 x.2.1 x.2.2
theorem toks_app {a b:List ByteArray}(h:Toks a) (g:Toks b):Toks (a++b):=by
 obtain ⟨L,rfl,h⟩:=h
 obtain ⟨M,rfl,g⟩:=g
 exact ⟨L++M,by rw [List.map_append],fun x hx=>(List.mem_append.1 hx).elim (h x) (g x)⟩
theorem toks_one {p:ByteArray}{k n:Int}{t:ByteArray}(hg:Tok.Gd k n t) (h:p.data.toList=Tok.oneW k n t):Toks [p]:=by
 refine ⟨[(k,n,t)],?_,fun x hx=>?_⟩
 ·rw [List.map_cons,List.map_nil]
  congr 1
  exact ba_same (by rw [Tok.wd_data];exact h)
 ·obtain rfl:x =(k,n,t):=(by simpa using hx)
  exact hg
theorem toks_sym {p:ByteArray}(h:(Tok.signB p.data.toList || Tok.resB p.data.toList)=true):Toks [p]:=toks_one (Tok.Gd.sym p h) (Tok.one_text 5 (Or.inr rfl) 0 p).symm
theorem named_of {s:ByteArray}(h:nameB s=true):Tok.Named s:=by
 unfold nameB at h
 simp only [Bool.and_eq_true,decide_eq_true_eq,List.all_eq_true,List.mem_range,Bool.not_eq_true'] at h
 obtain ⟨⟨⟨h1,h2⟩,h3⟩,h4⟩:=h
 have hc:∀ i (hi:i<s.size),lowB s[i]=true∨(digB s[i]=true/\i≠0):=fun i hi=>by
  have:=h4 i hi
  unfold chB at this
  rw [dif_pos hi] at this
  simpa using this
 refine ⟨h1,h2,fun h=>?_,fun i hi=>?_,by rw [ByteArray.toList_eq,Tok.res_same];exact h3⟩
 ·rcases hc 0 h with g |⟨_,g⟩
  ·unfold lowB at g;rw [decide_eq_true_eq] at g;exact g
  ·exact absurd rfl g
 ·rcases hc i hi with g |⟨g,_⟩
  ·left;unfold lowB at g;rw [decide_eq_true_eq] at g;exact g
  ·right;unfold digB at g;rw [decide_eq_true_eq] at g;exact g
/-! ### Literals -/
theorem hx_hex {c:Nat}(h:c<128):hx c=Tok.hexL c:=by
 have h1:∀ c<128,hd (c / 16)=Tok.hx1 (c / 16)/\hd c=Tok.hx1 (c % 16)/\(c<16->hd c=Tok.hx1 c):=by decide +kernel
 obtain ⟨a1,a2,a3⟩:=h1 c h
 unfold Tok.hexL
 by_cases g:c<16
 ·rw [hx_small g,if_pos g,a3 g]
 ·rw [hx_more g,if_neg g,hx_small (by omega),a1,a2];rfl
theorem enc_tok {c:Nat}(h:Tok.okC c):enc (c:Int)=Lib.encodeRune (c:Int):=by
 show (Utf8.encode (c:Int)).data.toList=_
 rw [Tok.bk_enc c h]
theorem chS_tok {q c:Nat}(hc:Tok.okC c) (hq:q=39∨q=34):chS (c:Int) (q:Int)=Tok.chW q c:=by
 unfold chS Tok.chW
 by_cases h1:c=10
 ·subst h1;rfl
 rw [if_neg (by omega),if_neg h1]
 by_cases h2:c=9
 ·subst h2;rfl
 rw [if_neg (by omega),if_neg h2]
 by_cases h3:c=13
 ·subst h3;rfl
 rw [if_neg (by omega),if_neg h3]
 by_cases h4:c=q∨c=92
 ·rw [if_pos (by omega),if_neg (by omega),if_pos h4,enc_tok hc];rfl
 rw [if_neg (by omega)]
 by_cases h5:c<32∨c=127
 ·rw [if_pos (by omega),if_pos h5,Int.toNat_natCast,hx_hex (by omega)]
 ·rw [if_neg (by omega),if_neg h5,if_neg h4,enc_tok hc]
theorem rune_ok {x:Int}(h:elemB 2 x=true):∃ c:Nat,x =(c:Int)/\Tok.okC c:=by
 unfold elemB runeB at h
 simp at h
 refine ⟨x.toNat,by omega,?_⟩
 unfold Tok.okC;omega
theorem runes_ok:∀ (nu:List Int),(∀ x∈nu,elemB 2 x=true)->∃ cs:List Nat,nu=cs.map (fun c:Nat=>(c:Int))/\∀ c∈cs,Tok.okC c
 | [],_=>⟨[],rfl,fun c hc=>by cases hc⟩
 | x::r,h=>by
  obtain ⟨c,rfl,hc⟩:=rune_ok (h x (by simp))
  obtain ⟨cs,rfl,hcs⟩:=runes_ok r (fun y hy=>h y (List.mem_cons_of_mem _ hy))
  exact ⟨c::cs,rfl,fun d hd=>(List.mem_cons.1 hd).elim (fun e=>e ▸ hc) (hcs d)⟩
theorem chs_tok:∀ (cs:List Nat),(∀ c∈cs,Tok.okC c)->(cs.map (fun c:Nat=>(c:Int)) |>.map fun c=>chS c 34).flatten=cs.flatMap (Tok.chW 34)
 | [],_=>rfl
 | c::cs,h=>by
  rw [List.map_cons,List.map_cons,List.flatten_cons,List.flatMap_cons,chs_tok cs (fun d hd=>h d (List.mem_cons_of_mem _ hd)),<- chS_tok (q:=34) (h c (by simp)) (Or.inr rfl)]
  rfl
theorem lit_toks {A:Arr}(hx:rightE A=0) (hb:litB A=true):Toks [litW A]:=by
 have hd:(litW A).data.toList=litS A:=rfl
 rcases lit_forms hx hb with ⟨k,x,hk,rfl⟩ |⟨n,nu,rfl,hc,-⟩
 ·have V:=(val_of hx).elems x (by simp)
  rcases hk with rfl | rfl
  ·have e:litS (.mk 1 [] [x] [])=Num.shL x:=by rw [litS];simp [litT]
   have hf:Num.fitsB x=true:=by
    unfold elemB numB at V
    simp at V
    exact Num.fits_mk (by omega)
   exact toks_one (Tok.Gd.num x hf) (by rw [hd,e,Tok.one_num hf])
  ·have e:litS (.mk 2 [] [x] [])=39::(chS x 39++[39]):=by rw [litS];simp [litT]
   obtain ⟨c,rfl,ho⟩:=rune_ok V
   exact toks_one (Tok.Gd.chr c ho) (by rw [hd,e,Tok.one_chr ho,<- chS_tok (q:=39) ho (Or.inl rfl)];rfl)
 ·obtain ⟨cs,rfl,ho⟩:=runes_ok nu (val_of hx).elems
  refine toks_one (Tok.Gd.str cs ho) ?_
  rw [hd,lit_vec,Tok.one_str ho,quoS,chs_tok cs ho]
/-! ### All parts -/
theorem prim_toks (j:Nat) (h:1<=j) (g:j<56):Toks [primT.getD j ⟨#[]⟩]:=toks_sym ((by decide +kernel:∀ j<56,1<=j->(Tok.signB (primT.getD j ⟨#[]⟩).data.toList || Tok.resB (primT.getD j ⟨#[]⟩).data.toList)=true) j g h)
theorem op_toks (j:Nat) (h:1<=j) (g:j<12):Toks [opT.getD j ⟨#[]⟩]:=toks_sym ((by decide +kernel:∀ j<12,1<=j->(Tok.signB (opT.getD j ⟨#[]⟩).data.toList || Tok.resB (opT.getD j ⟨#[]⟩).data.toList)=true) j g h)
theorem leaf_toks {N:Nd}(h:leafB N=true):Toks [wdB litW N]:=by
 unfold leafB at h
 unfold wdB
 by_cases k1:N.k=1
 ·rw [if_pos k1] at h ⊢
  simp only [Bool.and_eq_true,beq_iff_eq] at h
  exact lit_toks h.1.2 h.2
 rw [if_neg k1] at h ⊢
 by_cases k2:N.k=2
 ·rw [if_pos k2] at h ⊢
  simp only [Bool.and_eq_true] at h
  exact toks_one (Tok.Gd.name _ (named_of h.1.1.2)) (Tok.one_text 4 (Or.inl rfl) 0 _).symm
 rw [if_neg k2] at h ⊢
 by_cases k6:N.k=6
 ·rw [if_pos k6];exact toks_sym (by decide +kernel)
 rw [if_neg k6]
 by_cases k7:N.k=7
 ·rw [if_pos k7];exact toks_sym (by decide +kernel)
 rw [if_neg k7]
 by_cases k8:N.k=8
 ·rw [if_pos k8];exact toks_sym (by decide +kernel)
 rw [if_neg k8]
 rw [if_neg (by omega)] at h
 by_cases k9:N.k=9
 ·rw [if_pos k9] at h ⊢
  simp only [Bool.and_eq_true,decide_eq_true_eq] at h
  exact prim_toks _ (by omega) (by omega)
 rw [if_neg k9] at h ⊢
 by_cases k11:N.k=11
 ·rw [if_pos k11];exact toks_sym (by decide +kernel)
 rw [if_neg k11]
 by_cases k12:N.k=12
 ·rw [if_pos k12];exact toks_sym (by decide +kernel)
 rw [if_neg k12]
 by_cases k13:N.k=13
 ·rw [if_pos k13];exact toks_sym (by decide +kernel)
 rw [if_neg k13]
 rw [if_neg (by omega)] at h
 by_cases k17:N.k=17
 ·rw [if_pos k17] at h ⊢
  simp only [Bool.and_eq_true,bne_iff_ne] at h
  have:¬ (N.o<1∨11<N.o):=fun g=>h.1.2 (by unfold opCls;rw [if_pos g])
  exact op_toks _ (by omega) (by omega)
 ·rw [if_neg k17] at h;cases h
theorem good_toks:Good litW Toks where
 nil:=⟨[],rfl,fun x hx=>by cases hx⟩
 app a b h g:=toks_app h g
 par a h:=toks_app (a:=[⟨#[40]⟩]) (toks_sym (by decide +kernel)) (toks_app h (toks_sym (by decide +kernel)))
 lam a h:=toks_app (a:=[⟨#[123]⟩]) (toks_sym (by decide +kernel)) (toks_app h (toks_sym (by decide +kernel)))
 semi:=toks_one Tok.Gd.brk (Tok.one_brk 0 ⟨#[]⟩).symm
 colon:=toks_sym (by decide +kernel)
 arrow:=toks_sym (by decide +kernel)
 name s h:=toks_one (Tok.Gd.name s (named_of h)) (Tok.one_text 4 (Or.inl rfl) 0 s).symm
 word N _ h:=leaf_toks h
/-! ### Both texts -/
theorem outW_last (nb:List UInt8->List UInt8->Bool) (sep ind:List UInt8):∀ (a:List ByteArray) (bf:List UInt8) (lv:Nat),lvl lv a=0->outW nb sep ind bf lv (a++[⟨#[59]⟩])=outW nb sep ind bf lv a++sep
 | [],bf,lv,h=>by
  obtain rfl:lv=0:=h
  show outW nb sep ind bf 0 [⟨#[59]⟩]=[]++sep
  rw [outW,if_pos rfl]
  simp [outW]
 | p::a,bf,lv,h=>by
  rw [List.cons_append,outW,outW]
  rw [lvl] at h
  split
  ·rename_i e
   have s:stepL lv p=lv:=by unfold stepL;rw [e];rfl
   rw [s] at h
   rw [outW_last nb sep ind a [] lv h];simp only [List.append_assoc]
  ·rw [outW_last nb sep ind a p.data.toList (stepL lv p) h];simp only [List.append_assoc]
theorem tokens_of {l:List St}(ok:okL l=true):∃ L:List (Int × Int × ByteArray),
  (∀ s:ByteArray,s.data.toList=shortT l->(L.length<=16384->∃ m,Tok.scanS s=.ok m/\m.map Tok.key=L)/\(16384<L.length->∃ a,Tok.scanS s=.bad 21 a)) /\
  (∀ s:ByteArray,s.data.toList=longT l->(l=[]/\L=[]/\Tok.scanS s=.ok [])∨((L.length+1<=16384->∃ m,Tok.scanS s=.ok m/\m.map Tok.key=L++[(6,0,⟨#[]⟩)])/\(16384<L.length+1->∃ a,Tok.scanS s=.bad 21 a))):=by
 obtain ⟨L,hL,hg⟩:=good_toks.stmts ok
 have hb:=good_bal.stmts ok 0
 refine ⟨L,fun s hs=>?_,fun s hs=>?_⟩
 ·unfold shortT at hs
  rw [hL] at hs
  exact Tok.scan_parts (Or.inr rfl) (fun x hx=>by cases hx) Tok.stop_short L hg hs
 ·by_cases hn:l=[]
  ·left
   subst hn
   have e:L=[]:=by
    rw [shB] at hL
    exact List.map_eq_nil_iff.1 hL.symm
   refine ⟨rfl,e,?_⟩
   have hs0:s.data.toList=outW (fun _ _=>true) [10] [32,32] [] 0 (([]:List (Int × Int × ByteArray)).map Tok.wd):=by rw [hs];rfl
   obtain ⟨m,h1,h2⟩:=(Tok.scan_parts (Or.inl rfl) (by simp) (fun p q R _ h=>by cases h) [] (fun x hx=>by cases hx) hs0).1 (by decide)
   rw [h1,List.map_eq_nil_iff.1 h2]
  ·right
   unfold longT at hs
   rw [if_neg hn,<- outW_last _ _ _ _ _ _ hb,hL] at hs
   have hs1:s.data.toList=outW (fun _ _=>true) [10] [32,32] [] 0 ((L++[((6:Int),(0:Int),(⟨#[]⟩:ByteArray))]).map Tok.wd):=by
    rw [hs,List.map_append]
    rfl
   have o:=Tok.scan_parts (Or.inl rfl) (by simp) (fun p q R _ h=>by cases h) (L++[((6:Int),(0:Int),(⟨#[]⟩:ByteArray))]) (fun x hx=>by
    rcases List.mem_append.1 hx with h | h
    ·exact hg x h
    ·obtain rfl:x =((6:Int),(0:Int),(⟨#[]⟩:ByteArray)):=(by simpa using h)
     exact Tok.Gd.brk) hs1
   rw [List.length_append,List.length_singleton] at o
   exact o
end Go.Proofs.YtalkinnbfglkdaaGreatDoor.Syn
namespace Go.Proofs.YtalkinnbfglkdaaGreatDoor.Tok
open Go.RowKit
set_option linter.unusedVariables false
set_option linter.unusedSimpArgs false
theorem cellsT_at:∀ (l:List T5) (j:Nat) (hj:j<l.length) (i:Nat),i<5->(cellsT l)[j*5+i]? =(cells5 l[j])[i]?
 | x::r,0,hj,i,hi=>by
  rw [cellsT,List.map_cons,List.flatten_cons,List.getElem?_append_left (by simp [cells5];omega)]
  simp
 | x::r,j+1,hj,i,hi=>by
  have ih:=cellsT_at r j (by simpa using hj) i hi
  have e:(j+1)*5+i=5+(j*5+i):=by omega
  rw [cellsT,List.map_cons,List.flatten_cons,e,List.getElem?_append_right (by simp [cells5])]
  have e2:5+(j*5+i) - (cells5 x).length=j*5+i:=by simp [cells5]
  rw [e2]
  exact ih
theorem Own.toks {B n c:Nat}{w:World}{a:Option Addr}{l:List T5}(h:Own B w (.slice a n c) l):n=l.length/\ToksAt w a c l:=by
 have hcell:=fun g=>World.ownsRow.cells (g:=g) h
 rcases h.2 with ⟨e,hn⟩ |⟨g,cap,cur,e,-,-,hcap,-⟩
 ·simp only [Value.slice.injEq] at e
  obtain ⟨rfl,rfl,rfl⟩:=e
  refine ⟨hn.symm,by omega,0,0,fun q=>absurd (List.length_eq_zero_iff.1 hn) q,fun j hj=>absurd hj (by omega)⟩
 ·simp only [Value.slice.injEq] at e
  obtain ⟨rfl,rfl,rfl⟩:=e
  refine ⟨rfl,hcap,g,0,fun _=>rfl,fun j hj=>?_⟩
  have go:∀ i u,i<5->(cells5 l[j])[i]?=some u->w.cell? ⟨g,0+j*5+i,none⟩=some u:=fun i u hi hu=>by
   have:=hcell g rfl (j*5+i) u (by rw [cellsT_at l j hj i hi];exact hu)
   rw [add_plain] at this
   rw [Nat.zero_add] at this ⊢
   exact this
  exact ⟨go 0 _ (by decide) rfl,go 1 _ (by decide) rfl,go 2 _ (by decide) rfl,go 3 _ (by decide) rfl,go 4 _ (by decide) rfl⟩
def scE (s:ByteArray):Int:=if 65536<s.size then 2 else match scanS s with | .ok _=>0 | .bad e _=>e
def scA (s:ByteArray):Int:=if 65536<s.size then 0 else match scanS s with | .ok _=>0 | .bad _ a=>(a:Int)
def scL (s:ByteArray):List T5:=if 65536<s.size then [] else match scanS s with | .ok l=>l | .bad _ _=>[]
theorem new5d (w:World) (c0 c1 c2 c3 c4:Value) (T:TypeId):(w.alloc (.cells #[c0,c1,c2,c3,c4] T)).cell? ⟨w.heap.size,0,none⟩=some c0/\(w.alloc (.cells #[c0,c1,c2,c3,c4] T)).cell? ⟨w.heap.size,1,none⟩=some c1/\(w.alloc (.cells #[c0,c1,c2,c3,c4] T)).cell? ⟨w.heap.size,2,none⟩=some c2/\(w.alloc (.cells #[c0,c1,c2,c3,c4] T)).cell? ⟨w.heap.size,3,none⟩=some c3/\(w.alloc (.cells #[c0,c1,c2,c3,c4] T)).cell? ⟨w.heap.size,4,none⟩=some c4:=by
 refine ⟨?_,?_,?_,?_,?_⟩ <;>(rw [World.cell?_alloc_new];rfl)
set_option maxRecDepth 100000 in
theorem scanBig (s:ByteArray) (hs:65536<s.size) (hm:s.size<=1099511627776) (w:World) :
  Calls Tryz.prog 6 #[.string s] w fun e w'=>e=.returned (.tuple #[.slice none 0 0,.agg #[.int .i64 2,.int .i64 0,.slice none 0 0,.slice none 0 0,.string ⟨#[]⟩]])/\Below w.heap.size w w':=by
 have hs':(65536:Int) <(s.size:Int):=by omega
 obtain ⟨k0,k1,k2,k3,k4⟩:=new5d w (.int .i64 2) (.int .i64 0) (.slice none 0 0) (.slice none 0 0) (.string ⟨#[]⟩) 31
 go_enter Tryz.func6,Tryz.ntmps6
 go_wp2_with fail
 refine bodyPost_ret (by simp [results,Tryz.results6,go_sem,k0,k1,k2,k3,k4];try rfl) rfl ?_
 exact ⟨rfl,below_new _ _⟩
theorem scanAny (s:ByteArray) (hm:s.size<=1099511627776) (w:World) (h1:6<w.heap.size) (h2:Tabs w) :
  Calls Tryz.prog 6 #[.string s] w fun r w'=>∃ p c,r=.returned (.tuple #[.slice p (scL s).length c,.agg #[.int .i64 (scE s),.int .i64 (scA s),.slice none 0 0,.slice none 0 0,.string ⟨#[]⟩]])/\ToksAt w' p c (scL s)/\Below w.heap.size w w':=by
 have nil:∀ w':World,ToksAt w' none 0 []:=fun w'=>⟨Nat.le_refl _,0,0,fun g=>absurd rfl g,fun j hj=>absurd hj (Nat.not_lt_zero _)⟩
 unfold scE scA scL
 by_cases hs:65536<s.size
 ·rw [if_pos hs,if_pos hs,if_pos hs]
  refine (scanBig s hs hm w).mono ?_
  rintro r w' ⟨rfl,hb⟩
  exact ⟨none,0,rfl,nil _,hb⟩
 ·rw [if_neg hs,if_neg hs,if_neg hs]
  refine (scanQ s (by omega) (escOK s (by omega)) w h1 h2).mono ?_
  intro r w' q
  obtain ⟨hb,q⟩:=q
  cases hr:scanS s with
  | ok l =>
   rw [hr] at q
   obtain ⟨v,rfl,ho⟩:=q
   obtain ⟨p,c,rfl⟩:=ho.form
   exact ⟨p,c,rfl,ho.toks.2,hb⟩
  | bad e a =>
   rw [hr] at q
   exact ⟨none,0,q,nil _,hb⟩
end Go.Proofs.YtalkinnbfglkdaaGreatDoor.Tok
namespace Go.Proofs.YtalkinnbfglkdaaGreatDoor.Syn
open Go.RowKit Go.Proofs.YtalkinnbfglkdaaGreatDoor.Shape
set_option linter.unusedVariables false
def Kin (R S:ByteArray):Prop :=
 (Tok.scE R=21∨Tok.scE R=2∨Tok.scE S=21∨Tok.scE S=2) ∨
 (Tok.scE R=0/\Tok.scE S=0/\((Tok.scL R=[]/\Tok.scL S=[])∨∃ a x,Tok.scL R=a++[x]/\x.k=6/\a.length<=16384/\a.map Tok.key =(Tok.scL S).map Tok.key))
theorem sc_ok {s:ByteArray}{l:List Tok.T5}(h:Tok.scanS s=.ok l):Tok.scE s=2∨(Tok.scE s=0/\Tok.scL s=l):=by
 unfold Tok.scE Tok.scL
 by_cases hs:65536<s.size
 ·left;rw [if_pos hs]
 ·right;rw [if_neg hs,if_neg hs,h];exact ⟨rfl,rfl⟩
theorem sc_bad {s:ByteArray}{a:Nat}(h:Tok.scanS s=.bad 21 a):Tok.scE s=2∨Tok.scE s=21:=by
 unfold Tok.scE
 by_cases hs:65536<s.size
 ·left;rw [if_pos hs]
 ·right;rw [if_neg hs,h]
theorem kin_of {l:List St}(ok:okL l=true) {R S:ByteArray}(hR:R.data.toList=longT l) (hS:S.data.toList=shortT l):Kin R S:=by
 obtain ⟨L,hs,hl⟩:=tokens_of ok
 obtain ⟨s1,s2⟩:=hs S hS
 unfold Kin
 rcases hl R hR with ⟨-,rfl,h0⟩ |⟨l1,l2⟩
 ·obtain ⟨m,m1,m2⟩:=s1 (by decide)
  have hm:m=[]:=List.map_eq_nil_iff.1 m2
  subst hm
  rcases sc_ok h0 with e |⟨e,e'⟩
  ·left;right;left;exact e
  rcases sc_ok m1 with f |⟨f,f'⟩
  ·left;right;right;right;exact f
  ·right;exact ⟨e,f,Or.inl ⟨e',f'⟩⟩
 ·by_cases hL:16384<L.length+1
  ·obtain ⟨a,ha⟩:=l2 hL
   rcases sc_bad ha with e | e
   ·left;right;left;exact e
   ·left;left;exact e
  ·obtain ⟨m,m1,m2⟩:=l1 (by omega)
   obtain ⟨n,n1,n2⟩:=s1 (by omega)
   rcases sc_ok m1 with e |⟨e,e'⟩
   ·left;right;left;exact e
   rcases sc_ok n1 with f |⟨f,f'⟩
   ·left;right;right;right;exact f
   ·right
    refine ⟨e,f,Or.inr ?_⟩
    rw [List.map_eq_append_iff] at m2
    obtain ⟨a,b,rfl,ha,hb⟩:=m2
    obtain ⟨x,rfl⟩:∃ x,b=[x]:=by
     cases b with
     | nil=>cases hb
     | cons x r =>
      cases r with
      | nil=>exact ⟨x,rfl⟩
      | cons y r=>simp at hb
    refine ⟨a,x,e',?_,?_,?_⟩
    ·simp [Tok.key] at hb;exact hb.1
    ·have:=congrArg List.length ha
     rw [List.length_map] at this
     omega
    ·rw [f',ha,n2]
theorem kin_law (l:List St) {R S:ByteArray}(hR:R.data.toList=if rightBE l=0 then longT l else []) (hS:S.data.toList=if rightBE l=0 then shortT l else []):Kin R S:=by
 by_cases h:rightBE l=0
 ·rw [if_pos h] at hR hS
  exact kin_of (right_parts h).1 hR hS
 ·rw [if_neg h] at hR hS
  exact kin_of (l:=[]) (by rw [okL]) (by rw [hR];rfl) (by rw [hS];unfold shortT;rw [shB];rfl)
end Go.Proofs.YtalkinnbfglkdaaGreatDoor.Syn
