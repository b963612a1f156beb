/-
  Layer 13: the reference's Print and Compact. (Written by wip/gen/printer-r5.py.)
  Layer 13: the reference's Compact. (Written by wip/gen/printer-r6.py.)
-/
import Derived.Test.YtmfhdcpajgjgpaaGreatDoorPd34
import Derived.Test.YtmfhdcpajgjgpaaGreatDoorPd15
set_option maxHeartbeats 16000000
namespace Go.Proofs.YtmfhdcpajgjgpaaGreatDoor.Syn
open Go.RowKit Go.Shelf Go.Maps Go.Proofs.YtmfhdcpajgjgpaaGreatDoor.Shape
set_option linter.unusedVariables false
set_option linter.unusedSimpArgs false
set_option maxRecDepth 100000
theorem good_small:Good litW (fun l=>∀ s∈l,s.size<=1000000) where
 nil s hs:=by cases hs
 app a b h g:=zX h g
 par a h:=zX (a:=[⟨#[40]⟩]) (zh (by decide)) (zX h (zh (by decide)))
 lam a h:=zX (a:=[⟨#[123]⟩]) (zh (by decide)) (zX h (zh (by decide)))
 semi:=zh (by decide)
 colon:=zh (by decide)
 arrow:=zh (by decide)
 name s h:=zh (by have:=kw h;omega)
 word N ok h:=zh (wd_small litW ok (fun k1=>by
  unfold zM at h
  rw [if_pos k1] at h
  simp only [Bool.and_eq_true,beq_iff_eq] at h
  exact (yy h.1.2 h.2).2))
theorem step_le (lv:Nat) (p:ByteArray):qA lv p<=lv+1:=by unfold qA;split;omega;split <;> omega
theorem outW_len (nb:List UInt8->List UInt8->Bool) (sep ind:List UInt8) (hs:sep.length<=1) (hi:ind.length<=2):∀ (Q:List ByteArray) (bf:List UInt8) (lv:Nat),(∀ p∈Q,p.size<=1000000)->lv+Q.length<=400000->(outW nb sep ind bf lv Q).length<=Q.length*1000001
 | [],_,_,_,_=>Nat.zero_le _
 | p::r,bf,lv,h,hl=>by
  have hp:=h p (by simp)
  have hr:∀ q∈r,q.size<=1000000:=fun q hq=>h q (by simp [hq])
  simp only [List.length_cons] at hl ⊢
  have st:=step_le lv p
  rw [outW,Nat.add_mul]
  have hpl:p.data.toList.length=p.size:=rfl
  split
  ·have ih:=outW_len nb sep ind hs hi r [] lv hr (by omega)
   have e:((List.replicate lv ind).flatten).length<=2*lv:=by
    rw [List.length_flatten,List.map_replicate,List.sum_replicate_nat]
    calc lv*ind.length<=lv*2:=Nat.mul_le_mul_left _ hi
     _=2*lv:=Nat.mul_comm _ _
   simp only [List.length_append]
   omega
  ·have ih:=outW_len nb sep ind hs hi r p.data.toList (qA lv p) hr (by omega)
   have e:(if (bf != []&&nb bf p.data.toList)=true then ([32]:List UInt8) else []).length<=1:=by split <;> simp
   simp only [List.length_append]
   omega
theorem vL {l:List St}(ok:okL l=true):(shB litW l).length<=8*sizB l:=wb litW l (fun i hi=>yG litW (okL_allP.1 ok i hi) (qC litW _ _ (Nat.lt_succ_self _) (qE (okL_allP.1 ok i hi)).1) (fun k=>qC litW _ _ (Nat.lt_succ_self _) ((qE (okL_allP.1 ok i hi)).2.1 k)))
theorem kP {l:List St}(h:zK l=0):okL l=true/\depB l<=60/\sizB l<=16384/\l.length<=1000/\∀ S∈l,¬ S.k=3:=by
 unfold zK at h
 by_cases a:1000<l.length
 ·rw [if_pos a] at h;cases h
 rw [if_neg a] at h
 by_cases b:60<depB l
 ·rw [if_pos b] at h;cases h
 rw [if_neg b] at h
 by_cases c:16384<sizB l
 ·rw [if_pos c] at h;cases h
 rw [if_neg c] at h
 by_cases d:okB l=true/\outB l=true
 ·obtain ⟨d1,d2⟩:=d
  unfold okB at d1
  unfold outB at d2
  simp only [Bool.and_eq_true,Bool.not_eq_true'] at d1 d2
  refine ⟨d1.1.2,by omega,by omega,by omega,fun S hS e=>?_⟩
  have:=d2.1.1.1.1.1
  rw [List.any_eq_false] at this
  exact this S hS (by rw [e];rfl)
 ·rw [if_neg d] at h;cases h
theorem yD {l:List St}(h:zK l=0) (nb:List UInt8->List UInt8->Bool) {sep ind:List UInt8}(hs:sep.length<=1) (hi:ind.length<=2):(outW nb sep ind [] 0 (shB litW l)).length<=200000000000:=by
 obtain ⟨ok,-,sz,-,-⟩:=kP h
 have h1:=vL ok
 have h2:=outW_len nb sep ind hs hi (shB litW l) [] 0 (good_small.stmts ok) (by omega)
 have h3:(shB litW l).length*1000001<=131072*1000001:=Nat.mul_le_mul_right _ (by omega)
 omega
theorem fine_pbr {l:List ByteArray}(h:xX l):∀ (lv:Nat),∀ p∈pbr lv l,p.data.toList≠[]:=by
 induction l with
 | nil=>intro lv p hp;cases hp
 | cons q r ih =>
  intro lv p hp
  rw [pbr,List.mem_cons] at hp
  rcases hp with rfl | hp
  ·split
   ·intro e;rw [gap_data] at e;cases e
   ·exact (h q (by simp)).1
  ·exact ih (fun x hx=>h x (by simp [hx])) _ p hp
theorem strs_ix (g n c i:Nat) (hi:i<n) (w:World):(Instr.indexAt 61 (.slice (some ⟨g,0,none⟩) n c) (.int .i64 (i:Int))).run Tryz.prog w=.ok (.pointer (some ⟨g,i,none⟩)) w:=by
 rw [run_indexAt_slice w _ _ _ _ .i64 i elemStr2,if_pos (by omega),sizeStr2]
 show Result.ok _ w=_
 rw [show ((i:Int).toNat*1)=i by omega,Shape.add_plain,Nat.zero_add]
theorem ve {w:World}{g:Nat}{L:List ByteArray}(h:Words w g L) {i:Nat}(hi:i<L.length):w.cell? ⟨g,i,none⟩=some (.string L[i]):=by
 have:=h i (.string L[i]) (by simp [hi])
 rw [Shape.add_plain,Nat.zero_add] at this
 exact this
def xF (L:List ByteArray) (i:Nat):Option (List UInt8):=if i=0 then none else some (L.getD (i - 1) ⟨#[]⟩).data.toList
theorem prev_at {L:List ByteArray}{i:Nat}(h0:0<i) (h:i - 1<L.length):xF L i=some L[i - 1].data.toList:=by
 unfold xF;rw [if_neg (by omega),List.getD_eq_getElem?_getD,List.getElem?_eq_getElem h];rfl
theorem prev_next {L:List ByteArray}{i:Nat}(h:i<L.length):xF L (i+1)=some L[i].data.toList:=prev_at (Nat.succ_pos i) h
theorem ba_eq {a b:ByteArray}(h:a.data.toList=b.data.toList):a=b:=by apply ByteArray.ext;exact Array.ext' h
theorem refPrint (ba:Option Addr) (bc bb bo:Nat) (l:List St) (w:World) (hl:l.length<=9223372036854775807) (ha:l≠[]->ba=some ⟨bb,bo,none⟩) (hat:StsAt w bb bo l) :
  Calls Tryz.prog 8 #[.agg #[.slice ba l.length bc]] w fun e w'=>e=.returned (.string ⟨(if zK l=0 then kF l else []).toArray⟩)/\Below w.heap.size w w':=by
 have BN:=below_new w (.cells #[.slice ba l.length bc] 24)
 have hp0:(w.alloc (.cells #[.slice ba l.length bc] 24)).cell? ⟨w.heap.size,0,none⟩=some (.slice ba l.length bc):=by rw [World.cell?_alloc_new];rfl
 have RR:=refRightR ba bc bb bo l _ ha (StsAt.below BN hat) hl
 obtain ⟨R,hR⟩:∃ R:ByteArray,(⟨(if zK l=0 then kF l else []).toArray⟩:ByteArray)=R:=⟨_,rfl⟩
 have HR:Hid (R.data.toList=if zK l=0 then kF l else []):=by unfold Hid;rw [<- hR]
 rw [hR]
 clear hR
 by_cases hz:zK l=0
 ·obtain ⟨ok,dp,sz,ln,-⟩:=kP hz
  have HR1:Hid (R.data.toList=kF l):=by have:=HR.out;rw [if_pos hz] at this;exact this
  have hw:=yD hz (fun _ _=>true) (sep:=[10]) (ind:=[32,32]) (by simp) (by simp)
  rw [hz] at RR
  clear HR
  by_cases hnil:l=[]
  ·subst hnil
   have HR2:Hid (R =⟨#[]⟩):=by unfold Hid;exact ba_eq (by rw [HR1.out];unfold kF;rw [if_pos rfl])
   simp only [List.length_nil] at *
   clear ha
   go_enter Tryz.func8,Tryz.ntmps8
   go_wp2_with (first |(go_at_call 18;((with_reducible refine RR.mono ?_);rintro e w1 ⟨rfl,b1⟩;(have q1:=(b1.cell (zD hp0)).trans hp0))))
   go_ret
   exact ⟨by rw [HR2.out];rfl,Below.then BN b1⟩
  ·have hlen:((l.length:Int)==0)=false:=by
    have:=List.length_pos_iff.2 hnil
    simp only [beq_eq_false_iff_ne,ne_eq];omega
   have BA:=fun w' (g:Below w.heap.size w w')=>bodyAll ba bc bb bo l w' 0 ok (by omega) (by omega) hl ha (StsAt.below g hat)
   have hne:pbr 0 (shB litW l)≠[]:=fun e=>by
    have:=congrArg List.length e
    rw [qi] at this
    exact prB_ne ok hnil (List.eq_nil_of_length_eq_zero this)
   have hfp:=fine_pbr (good_fine.stmts ok) 0
   have HT0:=long_ref ok
   have hcl:(pbr 0 (shB litW l)).length<=200000:=by rw [qi];have:=vL ok;omega
   have HT:Hid (R.data.toList=refJ none (pbr 0 (shB litW l))++[10]):=by unfold Hid;rw [HR1.out,HT0];unfold kF;rw [if_neg hnil]
   rw [<- HT0] at hw
   obtain ⟨L,hL⟩:∃ L,pbr 0 (shB litW l)=L:=⟨_,rfl⟩
   simp only [hL] at BA
   rw [hL] at hne hfp hw HT hcl
   clear HT0 hL HR1
   have BA:∀ w' (g:Below w.heap.size w w'),Calls Tryz.prog 19 #[.slice ba l.length bc,.int .i64 0] w' (qn w'.heap.size w' L):=fun w' g=>BA w' g
   clear ha
   go_enter Tryz.func8,Tryz.ntmps8
   go_wp2_with (first |(go_at_call 18;((with_reducible refine RR.mono ?_);rintro e w1 ⟨rfl,b1⟩;(have q1:=(b1.cell (zD hp0)).trans hp0))) |(go_at_call 19;((with_reducible refine (BA w1 (Below.then BN b1)).mono ?_);rintro e w2 ⟨v2,rfl,o2,b2⟩;obtain ⟨g2,c2,rfl,m2⟩:=o2.words hne)))
   have bw:=Below.then (Below.then BN b1) b2
   obtain ⟨wo,rfl⟩:∃ wo,wo=w2:=⟨_,rfl⟩
   go_loopw [4,5] (fun s v wr=>∃ (i:Nat) (out:ByteArray),i<=L.length/\s=.string out/\v=.int .i64 (i:Int)/\Hid (out.data.toList++refJ (xF L i) (L.drop i)=refJ none L)/\wr=wo) (fun _ v _=>L.length - (intOf v).toNat)
   case atStart=>exact ⟨0,⟨#[]⟩,Nat.zero_le _,rfl,rfl,rfl,rfl⟩
   case round =>
    obtain ⟨i,out,hi,rfl,rfl,HO,rfl⟩:=hrel
    by_cases hlt:i<L.length
    ·have ix:=strs_ix g2 L.length c2 i hlt
     have cx:=ve m2 hlt
     have hd:L.drop i=L[i]::L.drop (i+1):=List.drop_eq_getElem_cons hlt
     have BP:=fun w=>wz L[i] w (hfp _ (List.getElem_mem hlt))
     have h1:=HO.out
     rw [hd,refJ] at h1
     have hlen1:=congrArg List.length h1
     simp only [List.length_append] at hlen1
     have eo:out.data.toList.length=out.size:=rfl
     have ep:L[i].data.toList.length=L[i].size:=rfl
     rw [eo,ep] at hlen1
     have a1:=fun w=>run_string_add_sum (P:=Tryz.prog) w out L[i] (by omega)
     have a2:=fun w=>run_string_add_sum (P:=Tryz.prog) w out ⟨#[32]⟩ (by show out.size+1<=_;omega)
     have a3:=fun w=>run_string_add_sum (P:=Tryz.prog) w (out++⟨#[32]⟩) L[i] (by rw [ByteArray.size_append];show out.size+1+_<=_;omega)
     have hpn:=prev_next hlt
     clear hlen1 eo ep hd
     by_cases h0:0<i
     ·have hi0:(0:Int) <(i:Int):=by omega
      have hlq:i - 1<L.length:=by omega
      have iy:=strs_ix g2 L.length c2 (i - 1) hlq
      rw [show ((i - 1:Nat):Int) =(i:Int) - 1 by omega] at iy
      have W1:IntKind.i64.wrap ((i:Int) - 1) =(i:Int) - 1:=by rw [IntWalk.i64_left];exact IntWalk.wrap64_in _ (by omega)
      have cy:=ve m2 hlq
      have BQ:=fun w=>wz L[i - 1] w (hfp _ (List.getElem_mem hlq))
      rw [prev_at h0 hlq] at h1
      obtain ⟨p,hp⟩:∃ p,L[i]=p:=⟨_,rfl⟩
      obtain ⟨q,hq⟩:∃ q,L[i - 1]=q:=⟨_,rfl⟩
      rw [hp] at cx h1 hpn
      rw [hq] at cy h1
      simp only [hp] at BP a1 a3
      simp only [hq] at BQ
      have HPN:Hid (xF L (i+1)=some p.data.toList):=hpn
      clear hpn
      cases e1:brB p.data.toList with
      | true =>
       have H2:Hid (out.data.toList++(p.data.toList++refJ (some p.data.toList) (L.drop (i+1)))=refJ none L):=by unfold Hid;rw [e1] at h1;simpa using h1
       rw [e1] at BP
       clear h1 HO hp hq hfp e1
       go_wp2_with (first |(go_at_call 20;((with_reducible refine (BP _).mono ?_);rintro e w9 ⟨rfl,rfl⟩)))
       go_roundw
       case rel=>exact ⟨i+1,out++p,by omega,rfl,by go_num,by unfold Hid;rw [kX,HPN.out,List.append_assoc];exact H2.out,trivial⟩
       case measure=>simp [intOf];omega
      | false =>
       rw [e1] at BP
       cases e2:brB q.data.toList with
       | true =>
        have H2:Hid (out.data.toList++(p.data.toList++refJ (some p.data.toList) (L.drop (i+1)))=refJ none L):=by unfold Hid;rw [e1] at h1;simpa [e2] using h1
        rw [e2] at BQ
        clear h1 HO hp hq hfp e1 e2
        go_wp2_with (first |(go_at_call 20;((with_reducible refine (BP _).mono ?_);rintro e w9 ⟨rfl,rfl⟩)) |(go_at_call 20;((with_reducible refine (BQ _).mono ?_);rintro e w9 ⟨rfl,rfl⟩)))
        go_roundw
        case rel=>exact ⟨i+1,out++p,by omega,rfl,by go_num,by unfold Hid;rw [kX,HPN.out,List.append_assoc];exact H2.out,trivial⟩
        case measure=>simp [intOf];omega
       | false =>
        have H2:Hid (out.data.toList++([32]++(p.data.toList++refJ (some p.data.toList) (L.drop (i+1))))=refJ none L):=by unfold Hid;rw [e1] at h1;simpa [e2] using h1
        rw [e2] at BQ
        clear h1 HO hp hq hfp e1 e2
        go_wp2_with (first |(go_at_call 20;((with_reducible refine (BP _).mono ?_);rintro e w9 ⟨rfl,rfl⟩)) |(go_at_call 20;((with_reducible refine (BQ _).mono ?_);rintro e w9 ⟨rfl,rfl⟩)))
        go_roundw
        case rel=>exact ⟨i+1,(out++⟨#[32]⟩)++p,by omega,rfl,by go_num,by unfold Hid;rw [kX,kX,HPN.out,List.append_assoc,List.append_assoc];exact H2.out,trivial⟩
        case measure=>simp [intOf];omega
     ·obtain rfl:i=0:=by omega
      have HPN:Hid (xF L (0+1)=some L[0].data.toList):=hpn
      have H2:Hid (out.data.toList++(L[0].data.toList++refJ (some L[0].data.toList) (L.drop (0+1)))=refJ none L):=by unfold Hid;rw [show xF L 0=none from rfl] at h1;simpa using h1
      clear h1 HO hfp hpn BP
      go_wp2_with fail
      go_roundw
      case rel=>exact ⟨1,out++L[0],by omega,rfl,by go_num,by have:=H2.out;have h3:=HPN.out;unfold Hid;rw [kX];rw [show (0+1:Nat)=1 from rfl] at h3 this;rw [h3,List.append_assoc];exact this,trivial⟩
      case measure=>simp [intOf];omega
    ·obtain rfl:i=L.length:=by omega
     have h1:=HO.out
     rw [List.drop_length,show refJ (xF L L.length) []=[] from rfl,List.append_nil] at h1
     have HE:Hid (R=out++⟨#[10]⟩):=by unfold Hid;exact ba_eq (by rw [HT.out,kX,h1])
     have hos:out.size<=200000000000:=by have e:out.data.toList.length=out.size:=rfl;rw [<- e,h1];exact hw
     have a4:=fun w=>run_string_add_sum (P:=Tryz.prog) w out ⟨#[10]⟩ (by show out.size+1<=_;omega)
     clear h1 HO HT hfp hw hos
     go_wp2_with fail
     go_ret
     exact ⟨by rw [HE.out];rfl,bw⟩
 ·have HR2:Hid (R =⟨#[]⟩):=by unfold Hid;exact ba_eq (by rw [HR.out,if_neg hz])
  have hz':(zK l != 0)=true:=by simpa using hz
  clear HR hz
  clear ha
  go_enter Tryz.func8,Tryz.ntmps8
  go_wp2_with (first |(go_at_call 18;((with_reducible refine RR.mono ?_);rintro e w1 ⟨rfl,b1⟩;(have q1:=(b1.cell (zD hp0)).trans hp0))))
  go_ret
  exact ⟨by rw [HR2.out];rfl,Below.then BN b1⟩
theorem refCompact (ba:Option Addr) (bc bb bo:Nat) (l:List St) (w:World) (hl:l.length<=9223372036854775807) (ha:l≠[]->ba=some ⟨bb,bo,none⟩) (hat:StsAt w bb bo l) :
  Calls Tryz.prog 10 #[.agg #[.slice ba l.length bc]] w fun e w'=>e=.returned (.string ⟨(if zK l=0 then qV l else []).toArray⟩)/\Below w.heap.size w w':=by
 have BN:=below_new w (.cells #[.slice ba l.length bc] 24)
 have hp0:(w.alloc (.cells #[.slice ba l.length bc] 24)).cell? ⟨w.heap.size,0,none⟩=some (.slice ba l.length bc):=by rw [World.cell?_alloc_new];rfl
 have RR:=refRightR ba bc bb bo l _ ha (StsAt.below BN hat) hl
 obtain ⟨R,hR⟩:∃ R:ByteArray,(⟨(if zK l=0 then qV l else []).toArray⟩:ByteArray)=R:=⟨_,rfl⟩
 have HR:Hid (R.data.toList=if zK l=0 then qV l else []):=by unfold Hid;rw [<- hR]
 rw [hR]
 clear hR
 by_cases hz:zK l=0
 ·obtain ⟨ok,dp,sz,ln,-⟩:=kP hz
  have HR1:Hid (R.data.toList=qV l):=by have:=HR.out;rw [if_pos hz] at this;exact this
  have hw:=yD hz zd (sep:=[59]) (ind:=[]) (by simp) (by simp)
  rw [hz] at RR
  clear HR
  have BA:=fun w' (g:Below w.heap.size w w')=>bodyAll ba bc bb bo l w' 0 ok (by omega) (by omega) hl ha (StsAt.below g hat)
  have hfp:=fine_pbr (good_fine.stmts ok) 0
  have HT0:=short_ref ok
  have hcl:(pbr 0 (shB litW l)).length<=200000:=by rw [qi];have:=vL ok;omega
  have hsm:∀ p∈pbr 0 (shB litW l),p.size<=1099511627776:=by
   have gs:∀ (Q:List ByteArray) (lv:Nat),(∀ p∈Q,p.size<=1000000)->lv+Q.length<=400000->∀ p∈pbr lv Q,p.size<=1099511627776:=by
    intro Q
    induction Q with
    | nil=>intro lv _ _ p hp;cases hp
    | cons q r ih =>
     intro lv h hl p hp
     simp only [List.length_cons] at hl
     have st:=step_le lv q
     rw [pbr,List.mem_cons] at hp
     rcases hp with rfl | hp
     ·split
      ·have e:(gapB lv).size=2*lv+1:=by unfold gapB;simp [ByteArray.size]
       omega
      ·have:=h q (by simp);omega
     ·exact ih _ (fun x hx=>h x (by simp [hx])) (by omega) p hp
   exact gs _ 0 (good_small.stmts ok) (by have:=vL ok;omega)
  have HT:Hid (R.data.toList=refC zd none (pbr 0 (shB litW l))):=by unfold Hid;rw [HR1.out,HT0]
  have hw:(refC zd none (pbr 0 (shB litW l))).length<=200000000000:=by rw [HT0];exact hw
  obtain ⟨L,hL⟩:∃ L,pbr 0 (shB litW l)=L:=⟨_,rfl⟩
  simp only [hL] at BA
  rw [hL] at hfp hw HT hcl hsm
  clear HT0 hL HR1
  have BA:∀ w' (g:Below w.heap.size w w'),Calls Tryz.prog 19 #[.slice ba l.length bc,.int .i64 0] w' (qn w'.heap.size w' L):=fun w' g=>BA w' g
  clear ha
  go_enter Tryz.func10,Tryz.ntmps10
  go_wp2_with (first |(go_at_call 18;((with_reducible refine RR.mono ?_);rintro e w1 ⟨rfl,b1⟩;(have q1:=(b1.cell (zD hp0)).trans hp0))) |(go_at_call 19;((with_reducible refine (BA w1 (Below.then BN b1)).mono ?_);rintro e w2 ⟨v2,rfl,o2,b2⟩;obtain ⟨ad,c2,rfl⟩:=o2.form)))
  have bw:=Below.then (Below.then BN b1) b2
  obtain ⟨wo,rfl⟩:∃ wo,wo=w2:=⟨_,rfl⟩
  obtain ⟨g2,hix,hcx⟩:∃ g2,(∀ i,i<L.length->∀ w,(Instr.indexAt 61 (.slice ad L.length c2) (.int .i64 (i:Int))).run Tryz.prog w=.ok (.pointer (some ⟨g2,i,none⟩)) w)/\∀ i (h:i<L.length),wo.cell? ⟨g2,i,none⟩=some (.string L[i]):=by
   by_cases hnil:L=[]
   ·exact ⟨0,fun i h=>absurd h (by rw [hnil];simp),fun i h=>absurd h (by rw [hnil];simp)⟩
   ·obtain ⟨g,c,e,m⟩:=o2.words hnil
    cases e
    exact ⟨g,fun i h w=>strs_ix g L.length c2 i h w,fun i h=>ve m h⟩
  go_loopw [4,5] (fun s v wr=>∃ (i:Nat) (out:ByteArray),i<=L.length/\s=.string out/\v=.int .i64 (i:Int)/\Hid (out.data.toList++refC zd (xF L i) (L.drop i)=refC zd none L)/\Below wo.heap.size wo wr) (fun _ v _=>L.length - (intOf v).toNat)
  case atStart=>exact ⟨0,⟨#[]⟩,Nat.zero_le _,rfl,rfl,rfl,Below.refl _ _⟩
  case round =>
   obtain ⟨i,out,hi,rfl,rfl,HO,hbr⟩:=hrel
   by_cases hlt:i<L.length
   ·have ix:=hix i hlt
    have cx0:=hcx i hlt
    have cx:=(hbr.cell (zD cx0)).trans cx0
    have hd:L.drop i=L[i]::L.drop (i+1):=List.drop_eq_getElem_cons hlt
    have BP:=fun w=>wz L[i] w (hfp _ (List.getElem_mem hlt))
    have h1:=HO.out
    rw [hd,refC] at h1
    have eo:out.data.toList.length=out.size:=rfl
    have ep:L[i].data.toList.length=L[i].size:=rfl
    have hos:out.size+L[i].size+1<=2000000000000:=by
     have hlen1:=congrArg List.length h1
     have:=hsm _ (List.getElem_mem hlt)
     rw [List.length_append,eo] at hlen1
     omega
    have a1:=fun w=>run_string_add_sum (P:=Tryz.prog) w out L[i] (by omega)
    have a0:=fun w=>run_string_add_sum (P:=Tryz.prog) w out ⟨#[59]⟩ (by show out.size+1<=_;omega)
    have a2:=fun w=>run_string_add_sum (P:=Tryz.prog) w out ⟨#[32]⟩ (by show out.size+1<=_;omega)
    have a3:=fun w=>run_string_add_sum (P:=Tryz.prog) w (out++⟨#[32]⟩) L[i] (by rw [ByteArray.size_append];show out.size+1+_<=_;omega)
    have hpn:=prev_next hlt
    clear eo ep hd hos
    cases e1:brB L[i].data.toList with
    | true =>
     have HPN:Hid (xF L (i+1)=some L[i].data.toList):=hpn
     have H2:Hid (out.data.toList++([59]++refC zd (some L[i].data.toList) (L.drop (i+1)))=refC zd none L):=by unfold Hid;rw [if_pos e1] at h1;simpa using h1
     rw [e1] at BP
     clear h1 HO hfp e1 hsm hpn
     go_wp2_with (first |(go_at_call 20;((with_reducible refine (BP _).mono ?_);rintro e w9 ⟨rfl,rfl⟩)))
     go_roundw
     case rel=>exact ⟨i+1,out++⟨#[59]⟩,by omega,rfl,by go_num,by unfold Hid;rw [kX,HPN.out,List.append_assoc];exact H2.out,hbr⟩
     case measure=>simp [intOf];omega
    | false =>
     rw [if_neg (by rw [e1];exact Bool.false_ne_true)] at h1
     rw [e1] at BP
     by_cases h0:0<i
     ·have hi0:(0:Int) <(i:Int):=by omega
      have hlq:i - 1<L.length:=by omega
      have iy:=hix (i - 1) hlq
      rw [show ((i - 1:Nat):Int) =(i:Int) - 1 by omega] at iy
      have W1:IntKind.i64.wrap ((i:Int) - 1) =(i:Int) - 1:=by rw [IntWalk.i64_left];exact IntWalk.wrap64_in _ (by omega)
      have cy0:=hcx (i - 1) hlq
      have cy:=(hbr.cell (zD cy0)).trans cy0
      have BQ:=fun x:Sub wr=>(wz L[i - 1] x.w (hfp _ (List.getElem_mem hlq))).mono (R':=fun e w'=>e=.returned (.bool (brB L[i - 1].data.toList))/\Below x.w.heap.size x.w w') (fun e w' ⟨h1,h2⟩=>⟨h1,h2 ▸ Below.refl _ _⟩)
      have ND:=fun x:Sub wr=>nbR_compact L[i - 1] L[i] x.w (hfp _ (List.getElem_mem hlq)) (hfp _ (List.getElem_mem hlt)) (hsm _ (List.getElem_mem hlq))
      rw [prev_at h0 hlq] at h1
      obtain ⟨p,hp⟩:∃ p,L[i]=p:=⟨_,rfl⟩
      obtain ⟨q,hq⟩:∃ q,L[i - 1]=q:=⟨_,rfl⟩
      rw [hp] at cx h1 hpn e1
      rw [hq] at cy h1
      simp only [hp] at BP a1 a3
      simp only [hq] at BQ
      simp only [hp,hq] at ND
      have HPN:Hid (xF L (i+1)=some p.data.toList):=hpn
      have y1:=fun x:Sub wr=>x.cell cx
      have y2:=fun x:Sub wr=>x.cell cy
      clear hpn
      cases e2:brB q.data.toList with
      | true =>
       have H2:Hid (out.data.toList++(p.data.toList++refC zd (some p.data.toList) (L.drop (i+1)))=refC zd none L):=by unfold Hid;simpa [e2] using h1
       rw [e2] at BQ
       clear h1 HO hp hq hfp e1 e2 hsm hcx hix cx0 cy0
       go_wp2_with (first |(go_at_call 20;((with_reducible refine (BP _).mono ?_);rintro e w9 ⟨rfl,rfl⟩)))
       refine zE (W:=wr) (by kernel_rfl) (by kernel_rfl) (Below.refl _ _) ?_
       repeat (go_big_quiet_step ((first |(go_at_call 20;with_reducible exact zI (BQ _)) |(go_at_call 23;with_reducible exact zI (ND _)))))
       refine wpQuiet_nil ?_
       intro x
       have bx:=x.below
       have cz:=y1 x
       generalize x.w=wx at *
       clear BQ ND y1 y2
       go_wp2_with fail
       go_roundw
       case rel=>exact ⟨i+1,out++p,by omega,rfl,by go_num,by unfold Hid;rw [kX,HPN.out,List.append_assoc];exact H2.out,Below.then hbr bx⟩
       case measure=>simp [intOf];omega
      | false =>
       rw [e2] at BQ
       cases e3:zd q.data.toList p.data.toList with
       | true =>
        have H2:Hid (out.data.toList++([32]++(p.data.toList++refC zd (some p.data.toList) (L.drop (i+1))))=refC zd none L):=by unfold Hid;simpa [e2,e3] using h1
        rw [e3] at ND
        clear h1 HO hp hq hfp e1 e2 e3 hsm hcx hix cx0 cy0
        go_wp2_with (first |(go_at_call 20;((with_reducible refine (BP _).mono ?_);rintro e w9 ⟨rfl,rfl⟩)))
        refine zE (W:=wr) (by kernel_rfl) (by kernel_rfl) (Below.refl _ _) ?_
        repeat (go_big_quiet_step ((first |(go_at_call 20;with_reducible exact zI (BQ _)) |(go_at_call 23;with_reducible exact zI (ND _)))))
        refine wpQuiet_nil ?_
        intro x
        have bx:=x.below
        have cz:=y1 x
        generalize x.w=wx at *
        clear BQ ND y1 y2
        go_wp2_with fail
        go_roundw
        case rel=>exact ⟨i+1,(out++⟨#[32]⟩)++p,by omega,rfl,by go_num,by unfold Hid;rw [kX,kX,HPN.out,List.append_assoc,List.append_assoc];exact H2.out,Below.then hbr bx⟩
        case measure=>simp [intOf];omega
       | false =>
        have H2:Hid (out.data.toList++(p.data.toList++refC zd (some p.data.toList) (L.drop (i+1)))=refC zd none L):=by unfold Hid;simpa [e2,e3] using h1
        rw [e3] at ND
        clear h1 HO hp hq hfp e1 e2 e3 hsm hcx hix cx0 cy0
        go_wp2_with (first |(go_at_call 20;((with_reducible refine (BP _).mono ?_);rintro e w9 ⟨rfl,rfl⟩)))
        refine zE (W:=wr) (by kernel_rfl) (by kernel_rfl) (Below.refl _ _) ?_
        repeat (go_big_quiet_step ((first |(go_at_call 20;with_reducible exact zI (BQ _)) |(go_at_call 23;with_reducible exact zI (ND _)))))
        refine wpQuiet_nil ?_
        intro x
        have bx:=x.below
        have cz:=y1 x
        generalize x.w=wx at *
        clear BQ ND y1 y2
        go_wp2_with fail
        go_roundw
        case rel=>exact ⟨i+1,out++p,by omega,rfl,by go_num,by unfold Hid;rw [kX,HPN.out,List.append_assoc];exact H2.out,Below.then hbr bx⟩
        case measure=>simp [intOf];omega
     ·obtain rfl:i=0:=by omega
      have HPN:Hid (xF L (0+1)=some L[0].data.toList):=hpn
      have H2:Hid (out.data.toList++(L[0].data.toList++refC zd (some L[0].data.toList) (L.drop (0+1)))=refC zd none L):=by unfold Hid;rw [show xF L 0=none from rfl] at h1;simpa using h1
      have y1:=fun x:Sub wr=>x.cell cx
      have ix:∀ w,(Instr.indexAt 61 (.slice ad L.length c2) (.int .i64 0)).run Tryz.prog w=.ok (.pointer (some ⟨g2,0,none⟩)) w:=ix
      clear h1 HO hfp hpn e1 hsm hcx hix cx0
      go_wp2_with (first |(go_at_call 20;((with_reducible refine (BP _).mono ?_);rintro e w9 ⟨rfl,rfl⟩)))
      refine zE (W:=wr) (by kernel_rfl) (by kernel_rfl) (Below.refl _ _) ?_
      repeat (go_big_quiet_step (fail))
      refine wpQuiet_nil ?_
      intro x
      have bx:=x.below
      have cz:=y1 x
      generalize x.w=wx at *
      clear y1
      go_wp2_with fail
      go_roundw
      case rel=>exact ⟨1,out++L[0],by omega,rfl,by go_num,by have:=H2.out;have h3:=HPN.out;unfold Hid;rw [kX];rw [show (0+1:Nat)=1 from rfl] at h3 this;rw [h3,List.append_assoc];exact this,Below.then hbr bx⟩
      case measure=>simp [intOf];omega
   ·obtain rfl:i=L.length:=by omega
    have h1:=HO.out
    rw [List.drop_length,show refC zd (xF L L.length) []=[] from rfl,List.append_nil] at h1
    have HE:Hid (R=out):=by unfold Hid;exact ba_eq (by rw [HT.out,h1])
    clear h1 HO HT hfp hw hsm hcx hix
    go_wp2_with fail
    go_ret
    exact ⟨by rw [HE.out];rfl,Below.then bw hbr⟩
 ·have HR2:Hid (R =⟨#[]⟩):=by unfold Hid;exact ba_eq (by rw [HR.out,if_neg hz])
  have hz':(zK l != 0)=true:=by simpa using hz
  clear HR hz
  clear ha
  go_enter Tryz.func10,Tryz.ntmps10
  go_wp2_with (first |(go_at_call 18;((with_reducible refine RR.mono ?_);rintro e w1 ⟨rfl,b1⟩;(have q1:=(b1.cell (zD hp0)).trans hp0))))
  go_ret
  exact ⟨by rw [HR2.out];rfl,Below.then BN b1⟩
end Go.Proofs.YtmfhdcpajgjgpaaGreatDoor.Syn
