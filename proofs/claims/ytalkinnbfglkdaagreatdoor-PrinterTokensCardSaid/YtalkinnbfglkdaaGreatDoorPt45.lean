/-
  Layer 13: the program's shown.
  Layer 13: the program's writer: program; the text that it has written.
  Layer 13: the program's Print and Compact.
-/
import Derived.Test.YtalkinnbfglkdaaGreatDoorPt44
set_option maxHeartbeats 16000000
namespace Go.Proofs.YtalkinnbfglkdaaGreatDoor.Syn
open Go.RowKit Go.Shelf Go.Maps Go.Proofs.YtalkinnbfglkdaaGreatDoor.Shape
set_option linter.unusedVariables false
set_option linter.unusedSimpArgs false
set_option maxRecDepth 100000
def PartOK (f:FuncId) (nb:List UInt8->List UInt8->Bool):Prop:=∀ (B b:Nat) (w:World) (bs:List UInt8) (s:PSt),PW B b w bs s->B<=w.heap.size->s.nb=.func (.func f) #[] #[]->(0<=s.lv/\s.lv<=1000000)->∀ (p:ByteArray),p.data.toList≠[]->s.bf.size<=1099511627776->bs.length+1+p.size<=10000000000000 ->
 Calls Tryz.prog 33 #[.pointer (some ⟨b,0,none⟩),.string p] w fun e w'=>e=.returned (.tuple #[])/\PW B b w' (bs++((if s.bf.data.toList != []&&nb s.bf.data.toList p.data.toList then [32] else [])++p.data.toList)) { s with bf:=p,lv:=lvI s.lv p }/\BX B b w w'
theorem part_long:PartOK 14 (fun _ _=>true):=partLong
theorem part_short:PartOK 19 blankB:=partShort
def okLv:Nat->List ByteArray->Prop
 | _,[]=>True
 | lv,p::r=>(p.data.toList=[125]->1<=lv)/\okLv (stepL lv p) r
theorem okLv_app:∀ (a b:List ByteArray) (lv:Nat),okLv lv a->okLv (lvl lv a) b->okLv lv (a++b)
 | [],_,_,_,h=>h
 | p::a,b,lv,h,g=>⟨h.1,okLv_app a b _ h.2 g⟩
def LvOK (l:List ByteArray):Prop:=Bal l/\∀ lv,okLv lv l
theorem lv_app {a b:List ByteArray}(h:LvOK a) (g:LvOK b):LvOK (a++b):=⟨bal_app h.1 g.1,fun lv=>okLv_app a b lv (h.2 lv) (by rw [h.1];exact g.2 lv)⟩
theorem lv_bare {p:ByteArray}(h:bareB p=true):LvOK [p]:=⟨bare_bal h,fun lv=>⟨fun e=>by
 unfold bareB at h
 simp only [Bool.and_eq_true,bne_iff_ne] at h
 exact absurd e h.1.1.2,trivial⟩⟩
theorem good_lv:Good litW LvOK where
 nil:=⟨fun lv=>rfl,fun lv=>trivial⟩
 app a b h g:=lv_app h g
 par a h:=lv_app (a:=[⟨#[40]⟩]) (lv_bare (by decide)) (lv_app h (lv_bare (by decide)))
 lam a h:=⟨good_bal.lam a h.1,fun lv=>⟨fun e=>absurd e (by decide),okLv_app a [⟨#[125]⟩] _ (h.2 _) (by rw [h.1];exact ⟨fun _=>by show 1<=lv+1;omega,trivial⟩)⟩⟩
 semi:=⟨fun lv=>rfl,fun lv=>⟨fun e=>absurd e (by decide),trivial⟩⟩
 colon:=lv_bare (by decide)
 arrow:=lv_bare (by decide)
 name s h:=lv_bare (name_bare h)
 word N _ h:=lv_bare (leaf_bare h)
theorem lvI_step {lv:Nat}{p:ByteArray}(h:p.data.toList=[125]->1<=lv):lvI (lv:Int) p =((stepL lv p:Nat):Int):=by
 unfold lvI stepL
 split
 ·omega
 ·split
  ·rename_i e;have:=h e;omega
  ·rfl
structure PartsOK (lv:Nat) (Q:List ByteArray):Prop where
 fine:FineL Q
 shut:∀ p∈Q,Shut p.data.toList
 small:∀ p∈Q,p.size<=1000000
 lvl:okLv lv Q
 len:lv+Q.length<=400000
theorem PartsOK.tail {lv:Nat}{p:ByteArray}{r:List ByteArray}(h:PartsOK lv (p::r)):PartsOK (stepL lv p) r :=
 ⟨fun q hq=>h.fine q (by simp [hq]),fun q hq=>h.shut q (by simp [hq]),fun q hq=>h.small q (by simp [hq]),h.lvl.2,by have h2:=h.len;have:=step_le lv p;simp only [List.length_cons] at h2;omega⟩
theorem joinW_data (R:List ByteArray):(joinW R).data.toList=Lib.join (R.map (·.data.toList)) [32]:=rfl
theorem joinW_small {lv:Nat}{R:List ByteArray}(h:PartsOK lv R):(joinW R).size<=1099511627776:=by
 have e:(joinW R).size =(Lib.join (R.map (·.data.toList)) [32]).length:=by rw [<- joinW_data];rfl
 have:=join_len [32] 1000000 (R.map (·.data.toList)) (by
  intro x hx
  obtain ⟨s,hs,rfl⟩:=List.mem_map.1 hx
  exact h.small s hs)
 rw [List.length_map] at this
 have h2:R.length*(([32]:List UInt8).length+1000000)<=400000*1000001:=Nat.mul_le_mul (by have:=h.len;omega) (Nat.le_refl _)
 rw [e];omega
theorem ext_drop (s:ByteArray) (n:Nat):(s.extract n s.size).data.toList=s.data.toList.drop n:=by
 have hl:s.data.toList.length=s.size:=rfl
 rw [ByteArray.data_extract]
 simp only [Array.toList_extract,List.extract_eq_take_drop]
 rw [List.take_of_length_le (by rw [List.length_drop,hl];exact Nat.le_refl _)]
theorem trim_rest (p:ByteArray) (r:List ByteArray):(⟨(Lib.trimPrefix ((joinW (p::r)).extract p.size (joinW (p::r)).size).data.toList [32]).toArray⟩:ByteArray)=joinW r:=by
 refine ba_eq ?_
 have hl:p.size=p.data.toList.length:=rfl
 rw [ext_drop,joinW_data,joinW_data,List.map_cons,hl,join_rest]
 cases r with
 | nil=>exact trim_nil
 | cons q r=>rw [List.map_cons,tail_trim];exact trim_blank _
theorem shownW (f:FuncId) (nb:List UInt8->List UInt8->Bool) (PO:PartOK f nb) (B b:Nat) (Q:List ByteArray) (w:World) (bs:List UInt8) (s:PSt) (lv:Nat) (h:PW B b w bs s) (hB:B<=w.heap.size) (hnb:s.nb=.func (.func f) #[] #[]) (hlv:s.lv =(lv:Int)) (hQ:PartsOK lv Q)
  (hbf:s.bf.size<=1000000) (htot:bs.length+(outW nb s.sep.data.toList s.ind.data.toList s.bf.data.toList lv Q).length<=5000000000000) :
  Calls Tryz.prog 34 #[.pointer (some ⟨b,0,none⟩),.string (joinW Q)] w fun e w'=>e=.returned (.tuple #[])/\(∃ bf:ByteArray,PW B b w' (bs++outW nb s.sep.data.toList s.ind.data.toList s.bf.data.toList lv Q) { s with bf:=bf,lv:=(lvl lv Q:Nat) }/\bf.size<=1000000)/\BX B b w w':=by
 obtain ⟨TT,hTT⟩:∃ TT,bs++outW nb s.sep.data.toList s.ind.data.toList s.bf.data.toList lv Q=TT:=⟨_,rfl⟩
 have HT0:Hid (bs++outW nb s.sep.data.toList s.ind.data.toList s.bf.data.toList lv Q=TT):=hTT
 have HTL:Hid (TT.length<=5000000000000):=by unfold Hid;rw [<- hTT,List.length_append];exact htot
 obtain ⟨LV,hLV⟩:∃ LV,lvl lv Q=LV:=⟨_,rfl⟩
 have HLV0:Hid (lvl lv Q=LV):=hLV
 rw [hTT,hLV]
 clear hTT htot hLV
 go_enter Tryz.func34,Tryz.ntmps34
 go_wp2_with fail
 go_loopw [1] (fun v wr=>∃ (R:List ByteArray) (acc:List UInt8) (s':PSt) (lv':Nat),v=.string (joinW R)/\PW B b wr acc s'/\BX B b w wr/\Hid (s'.sep=s.sep/\s'.ind=s.ind/\s'.nb=s.nb/\s'.lv =(lv':Int)/\s'.bf.size<=1000000/\acc++outW nb s.sep.data.toList s.ind.data.toList s'.bf.data.toList lv' R=TT/\lvl lv' R=LV/\PartsOK lv' R)) (fun v _=>match v with | .string t=>t.size | _=>0)
 case atStart=>exact ⟨Q,bs,s,lv,rfl,h,BX.refl _ _ _,rfl,rfl,rfl,hlv,hbf,HT0.out,HLV0.out,hQ⟩
 case round =>
  obtain ⟨R,acc,s',lv',rfl,h',hbr,HH⟩:=hrel
  have hB':B<=wr.heap.size:=Nat.le_trans hB hbr.bel.size
  cases R with
  | nil =>
   obtain ⟨e1,e2,e3,e4,e5,e6,e7,e8⟩:=HH.out
   have ej:joinW [] =⟨#[]⟩:=rfl
   have es:s'={ s with bf:=s'.bf,lv:=(LV:Nat) }:=by
    cases s';cases s
    simp only at e1 e2 e3 e4
    have:lv'=LV:=e7
    subst this
    simp only [e1,e2,e3,e4]
   have ea:acc=TT:=by rw [<- e6,outW,List.append_nil]
   have HF:Hid (∃ bf:ByteArray,PW B b wr TT { s with bf:=bf,lv:=(LV:Nat) }/\bf.size<=1000000):=⟨s'.bf,es ▸ ea ▸ h',e5⟩
   rw [ej]
   clear HH h' e1 e2 e3 e4 e5 e6 e7 e8 es ea HT0 HTL HLV0 h hQ
   go_wp2_with fail
   go_end0
   exact ⟨rfl,HF.out,hbr⟩
  | cons p r =>
   obtain ⟨e1,e2,e3,e4,e5,e6,e7,e8⟩:=HH.out
   have hpne:p.data.toList≠[]:=(e8.fine p (by simp)).1
   have hsz:=joinW_small e8
   have hpd:(joinW (p::r)).data.toList=p.data.toList++Lib.joinTail [32] (r.map (·.data.toList)):=by rw [joinW_data,List.map_cons,Lib.join_cons]
   have hps:p.size<=(joinW (p::r)).size:=by
    have:=congrArg List.length hpd
    rw [List.length_append] at this
    have a:(joinW (p::r)).data.toList.length =(joinW (p::r)).size:=rfl
    have c:p.data.toList.length=p.size:=rfl
    omega
   have n0:(joinW (p::r)).data.toList≠[]:=by rw [hpd];intro e;exact hpne (List.append_eq_nil_iff.1 e).1
   have n1:¬ (joinW (p::r)).toList=[]:=by rw [tl_data];exact n0
   have n2:(joinW (p::r)).toList.isEmpty=false:=by cases e:(joinW (p::r)).toList with | nil=>exact absurd e n1 | cons=>rfl
   have FP:=fun w'=>firstP (joinW (p::r)) p.data.toList (r.map (·.data.toList)) w' (by rw [joinW_data,List.map_cons]) (e8.shut p (by simp)) hsz
   rw [show (⟨p.data.toList.toArray⟩:ByteArray)=p from ba_eq (by simp)] at FP
   have SL:=fun w'=>run_slice_string_l (P:=Tryz.prog) w' 9 (joinW (p::r)) Tryz.underlying9 .i64 (p.size:Int) (by omega) (by omega)
   rw [show ((p.size:Nat):Int).toNat=p.size by omega] at SL
   have TP:=fun w'=>Tryz.strings_TrimPrefix ((joinW (p::r)).extract p.size (joinW (p::r)).size) ⟨#[32]⟩ w'
   rw [show (⟨#[32]⟩:ByteArray).data.toList=[32] from rfl,trim_rest] at TP
   have hms:(joinW r).size <(joinW (p::r)).size:=by
    have a:(joinW (p::r)).data.toList.length =(joinW (p::r)).size:=rfl
    have c:(joinW r).data.toList.length =(joinW r).size:=rfl
    have d:=congrArg List.length hpd
    have hp1:0<p.data.toList.length:=List.length_pos_iff.2 hpne
    rw [List.length_append] at d
    rw [<- a,<- c,d,joinW_data]
    cases r with
    | nil=>rw [List.map_nil,Lib.join_nil,List.length_nil];omega
    | cons q r=>rw [List.map_cons,tail_trim,List.length_cons];omega
   have q1:=str_is p 59
   obtain ⟨tx,htx⟩:∃ tx,joinW (p::r)=tx:=⟨_,rfl⟩
   obtain ⟨ty,hty⟩:∃ ty,(joinW (p::r)).extract p.size (joinW (p::r)).size=ty:=⟨_,rfl⟩
   obtain ⟨tz,htz⟩:∃ tz,joinW r=tz:=⟨_,rfl⟩
   rw [htx] at n1 n2 hms hty
   simp only [htx] at FP SL
   simp only [htx,hty] at TP
   simp only [hty] at SL
   rw [htz] at hms
   simp only [htz] at TP
   have HZ:Hid (joinW r=tz):=htz
   rw [htx]
   have HM:Hid (tz.size<tx.size):=hms
   have ht8:=e8.tail
   rw [outW] at e6
   have hb1:lv'+r.length+1<=400000:=by have:=e8.len;simpa [Nat.add_assoc] using this
   have hok:=e8.lvl.1
   have hpz:=e8.small p (by simp)
   by_cases k:p.data.toList=[59]
   ·rw [decide_eq_true k] at q1
    rw [if_pos k] at e6
    have hT:=HTL.out
    rw [<- e6] at hT
    simp only [List.length_append,List.length_flatten,List.map_replicate,List.sum_replicate_nat] at hT
    have BW:=breakW B b wr.drew acc s' lv'
    have BK:=fun w' (g:PW B b w' acc s') (hb:B<=w'.heap.size)=>breakW B b w' acc s' lv' g hb e4 (by omega) (by
     rw [e1,e2]
     have x1:s.sep.data.toList.length=s.sep.size:=rfl
     have x2:s.ind.data.toList.length=s.ind.size:=rfl
     rw [x1,x2,Nat.mul_comm] at hT
     omega)
    have HN:Hid (∀ w',PW B b w' (acc++s'.sep.data.toList++(List.replicate lv' s'.ind.data.toList).flatten) { s' with bf:=⟨#[]⟩ }->∃ (acc2:List UInt8) (s2:PSt) (lv2:Nat),PW B b w' acc2 s2/\Hid (s2.sep=s.sep/\s2.ind=s.ind/\s2.nb=s.nb/\s2.lv =(lv2:Int)/\s2.bf.size<=1000000/\acc2++outW nb s.sep.data.toList s.ind.data.toList s2.bf.data.toList lv2 r=TT/\lvl lv2 r=LV/\PartsOK lv2 r)):=fun w' g=>by
     refine ⟨_,_,lv',g,e1,e2,e3,e4,Nat.zero_le _,?_,?_,?_⟩
     ·rw [e1,e2,<- e6];simp only [List.append_assoc]
     ·rw [lvl] at e7
      rw [show stepL lv' p=lv' by unfold stepL;rw [k];rfl] at e7
      exact e7
     ·rw [show stepL lv' p=lv' by unfold stepL;rw [k];rfl] at ht8
      exact ht8
    clear e1 e2 e3 e4 e5 e6 e7 e8 hT HH hpne hpd hps n0 hms htz hty htx hok hpz ht8 hQ h k BW HT0 HTL HLV0
    go_wp2_with (first |(go_at_call 54;((with_reducible refine (FP _).mono ?_);rintro e w1 ⟨rfl,b1⟩;(have h1:=h'.below b1);(have s1:B<=w1.heap.size:=Nat.le_trans hB' b1.size))) |(go_at_call 32;((with_reducible refine (BK w1 h1 s1).mono ?_);rintro e w2 ⟨rfl,h2,b2⟩)) |(go_at_call 55;((with_reducible refine (TP _).mono ?_);rintro e w3 ⟨rfl,rfl⟩)))
    go_roundw
    case rel =>
     obtain ⟨acc2,s2,lv2,g2,g3⟩:=HN.out _ h2
     exact ⟨r,acc2,s2,lv2,by rw [HZ.out],g2,(hbr.trans (BX.of b1 hB')).trans b2,g3⟩
    case measure=>exact HM.out
   ·rw [decide_eq_false k] at q1
    rw [if_neg k] at e6
    have hT:=HTL.out
    rw [<- e6] at hT
    simp only [List.length_append] at hT
    have PK:=fun w' (g:PW B b w' acc s') (hb:B<=w'.heap.size)=>PO B b w' acc s' g hb (e3.trans hnb) (by rw [e4];omega) p hpne (by omega) (by
     have x1:p.data.toList.length=p.size:=rfl
     omega)
    have HN:Hid (∀ w',PW B b w' (acc++((if s'.bf.data.toList != []&&nb s'.bf.data.toList p.data.toList then [32] else [])++p.data.toList)) { s' with bf:=p,lv:=lvI s'.lv p }->∃ (acc2:List UInt8) (s2:PSt) (lv2:Nat),PW B b w' acc2 s2/\Hid (s2.sep=s.sep/\s2.ind=s.ind/\s2.nb=s.nb/\s2.lv =(lv2:Int)/\s2.bf.size<=1000000/\acc2++outW nb s.sep.data.toList s.ind.data.toList s2.bf.data.toList lv2 r=TT/\lvl lv2 r=LV/\PartsOK lv2 r)):=fun w' g=>by
     refine ⟨_,_,stepL lv' p,g,e1,e2,e3,?_,hpz,?_,?_,ht8⟩
     ·show lvI s'.lv p=_
      rw [e4,lvI_step hok]
     ·rw [<- e6];simp only [List.append_assoc]
     ·rw [lvl] at e7;exact e7
    obtain ⟨NX,hNX⟩:∃ NX,acc++((if s'.bf.data.toList != []&&nb s'.bf.data.toList p.data.toList then [32] else [])++p.data.toList)=NX:=⟨_,rfl⟩
    simp only [hNX] at PK HN
    clear e1 e2 e3 e4 e5 e6 e7 e8 hT HH hpne hpd hps n0 hms htz hty htx hok hpz ht8 hQ h k HT0 HTL HLV0 hNX
    go_wp2_with (first |(go_at_call 54;((with_reducible refine (FP _).mono ?_);rintro e w1 ⟨rfl,b1⟩;(have h1:=h'.below b1);(have s1:B<=w1.heap.size:=Nat.le_trans hB' b1.size))) |(go_at_call 33;((with_reducible refine (PK w1 h1 s1).mono ?_);rintro e w2 ⟨rfl,h2,b2⟩)) |(go_at_call 55;((with_reducible refine (TP _).mono ?_);rintro e w3 ⟨rfl,rfl⟩)))
    go_roundw
    case rel =>
     obtain ⟨acc2,s2,lv2,g2,g3⟩:=HN.out _ h2
     exact ⟨r,acc2,s2,lv2,by rw [HZ.out],g2,(hbr.trans (BX.of b1 hB')).trans b2,g3⟩
    case measure=>exact HM.out
theorem cellsByte:Tryz.prog.cellsOf 5=1:=by kernel_rfl
theorem stringW (B b:Nat) (bs:List UInt8) (s:PSt) (w:World) (h:PW B b w bs s) (h0:bs≠[]) :
  Calls Tryz.prog 18 #[.pointer (some ⟨b,0,none⟩)] w fun e w'=>e=.returned (.string ⟨bs.toArray⟩)/\Below B w w':=by
 obtain ⟨hB,p,v,hp,hbk,hown,hne,hz⟩:=h
 have hl0:bs.length≠0:=by simpa using h0
 obtain ⟨g,cap,cur,rfl,hbg,hg,hnc,hcm,hcs,htake⟩:∃ g cap cur,v=.slice (some ⟨g,0,none⟩) bs.length cap/\B<=g/\w.heap[g]?=some (.cells cur 5 (0,0))/\bs.length<=cap/\cap<=maxLen/\cur.size=cap*1/\cur.toList.take (bs.length*1)=Lib.byteCells bs:=by
  rcases hown.2 with ⟨_,hz⟩ |⟨g,cap,cur,hv,r⟩
  ·exact absurd hz hl0
  ·exact ⟨g,cap,cur,hv,r⟩
 have c1:w.drew.cell? ⟨b,1,none⟩=some (.slice (some ⟨g,0,none⟩) bs.length cap):=by
  have:w.drew.heap[b]?=some (.cells (wrCells p (.slice (some ⟨g,0,none⟩) bs.length cap) s) 66 (0,0)):=hbk
  rw [Lib.cell_of_heap this];rfl
 have hSD:(Builtin.unsafeSliceData_ #[61] 81 #[.slice (some ⟨g,0,none⟩) bs.length cap]).run Tryz.prog w.drew=.ok (.pointer (some ⟨g,0,none⟩)) w.drew :=
  Lib.run_unsafeSliceData_row _ _ _ _ _ _ (by omega)
 have hUS:(Builtin.unsafeString_ #[81,3] 9 #[.pointer (some ⟨g,0,none⟩),.int .i64 bs.length]).run Tryz.prog w.drew=.ok (.string ⟨bs.toArray⟩) (w.drew.freeze ⟨g,0,none⟩ bs.length):=by
  refine Lib.run_unsafeString_row w.drew 81 3 9 5 Tryz.underlying81 cellsByte g cur.size (by have hg':w.drew.heap[g]?=some (.cells cur 5 (0,0)):=hg;simp [World.shape?,hg']) bs h0 (by omega) (by unfold maxLen at hcm;omega) ?_
  intro j x hx
  exact hown.cells (g:=g) rfl j (.int .u8 x.toNat) (by simp [Lib.byteCells,hx])
 have mixed:Tryz.prog.follows .mixedOrders=true:=by kernel_rfl
 clear hown hz hne htake hcs
 go_enter Tryz.func18,Tryz.ntmps18
 go_wp2
 go_region_o
 all_goals (go_wp2;go_ret;exact ⟨rfl,Lib.below_freeze (Below.drew (Below.refl B w)) (p:=⟨g,0,none⟩) hbg _⟩)
theorem stringW0 (B b:Nat) (s:PSt) (w:World) (h:PW B b w [] s) :
  Calls Tryz.prog 18 #[.pointer (some ⟨b,0,none⟩)] w fun e w'=>e=.returned (.string ⟨#[]⟩)/\Below B w w':=by
 obtain ⟨hB,p,v,hp,hbk,hown,hne,hz⟩:=h
 obtain rfl:=hz.1 rfl
 have hUS:=fun (W:World) (q:Option Addr)=>Lib.run_unsafeString_none (P:=Tryz.prog) W 81 3 9 q
 have c1:w.drew.cell? ⟨b,1,none⟩=some (.slice none 0 0):=by
  have:w.drew.heap[b]?=some (.cells (wrCells p (.slice none 0 0) s) 66 (0,0)):=hbk
  rw [Lib.cell_of_heap this];rfl
 have hSD:(Builtin.unsafeSliceData_ #[61] 81 #[.slice none 0 0]).run Tryz.prog w.drew=.ok (.pointer none) w.drew:=rfl
 have mixed:Tryz.prog.follows .mixedOrders=true:=by kernel_rfl
 clear hown hz hne hp hbk
 go_enter Tryz.func18,Tryz.ntmps18
 go_wp2
 go_region_o
 all_goals (go_wp2;go_ret;exact ⟨rfl,Below.drew (Below.refl B w)⟩)
theorem stv_parts {w:World}{cs:List Value}{S:St}(h:StV w cs S):∃ v1 v3 ct cn,cs=.int .i64 S.k::v1::.string S.n::v3::(ct++cn)/\ct.length=15/\cn.length=15/\NdV w cn S.nd:=by
 cases S with | mk k a n s te nd =>
 rw [StV] at h
 obtain ⟨ct,cn,rfl,-,-,h3,h4⟩:=h
 exact ⟨_,_,ct,cn,rfl,h3.len,h4.len,h4⟩
def StBox (w:World) (x:Nat) (cs:List Value):Prop:=w.heap[x]?=some (.cells cs.toArray 53 (0,0))
theorem StBox.bx {B b:Nat}{w w':World}{x:Nat}{cs:List Value}(h:StBox w x cs) (hb:BX B b w w') (hx:x≠b):StBox w' x cs :=
 (hb.oth x (Array.getElem?_eq_some_iff.1 h).1 hx (fun cur fr e=>by
  have:=h.symm.trans e
  simp only [Option.some.injEq,Obj.cells.injEq] at this
  exact absurd this.2.1 (by decide))).trans h
theorem StBox.below {w w':World}{x:Nat}{cs:List Value}(h:StBox w x cs) (hb:Below w.heap.size w w'):StBox w' x cs:=(hb.block _ (Array.getElem?_eq_some_iff.1 h).1).trans h
theorem StBox.cells {w:World}{x:Nat}{S:St}{v1 v3:Value}{ct cn:List Value}(h:StBox w x (.int .i64 S.k::v1::.string S.n::v3::(ct++cn))) (h1:ct.length=15) :
  w.cell? ⟨x,0,none⟩=some (.int .i64 S.k)/\w.cell? ⟨x,2,none⟩=some (.string S.n)/\Cells w x 19 cn:=by
 refine ⟨by rw [Lib.cell_of_heap h];rfl,by rw [Lib.cell_of_heap h];rfl,fun i hi=>?_⟩
 rw [Lib.cell_of_heap h]
 have e:(.int .i64 S.k::v1::.string S.n::v3::(ct++cn):List Value)[19+i]?=cn[i]?:=by
  rw [show 19+i =(15+i)+1+1+1+1 by omega]
  simp only [List.getElem?_cons_succ]
  rw [List.getElem?_append_right (by omega),h1]
  congr 1;omega
 rw [List.getElem?_toArray,e,List.getElem?_eq_getElem hi]
theorem outW_app (nb:List UInt8->List UInt8->Bool) (sep ind:List UInt8) (c:List ByteArray) (hc:c=[]∨∃ r,c =⟨#[59]⟩::r):∀ (a:List ByteArray) (bf bf2:List UInt8) (lv:Nat),outW nb sep ind bf lv (a++c)=outW nb sep ind bf lv a++outW nb sep ind bf2 (lvl lv a) c
 | [],bf,bf2,lv=>by
  rcases hc with rfl |⟨r,rfl⟩
  ·rfl
  ·have e:∀ bb,outW nb sep ind bb lv (⟨#[59]⟩::r)=sep++((List.replicate lv ind).flatten++outW nb sep ind [] lv r):=fun bb=>by rw [outW,if_pos rfl]
   show outW nb sep ind bf lv (⟨#[59]⟩::r)=[]++outW nb sep ind bf2 lv (⟨#[59]⟩::r)
   rw [e,e];rfl
 | p::a,bf,bf2,lv=>by
  rw [List.cons_append,outW,outW,lvl]
  split
  ·rename_i e
   have s:stepL lv p=lv:=by unfold stepL;rw [e];rfl
   rw [s,outW_app nb sep ind c hc a [] bf2 lv];simp only [List.append_assoc]
  ·rw [outW_app nb sep ind c hc a p.data.toList bf2 (stepL lv p)];simp only [List.append_assoc]
theorem shC_head (lt:Arr->ByteArray):∀ l:List St,shC lt l=[]∨∃ r,shC lt l =⟨#[59]⟩::r
 | []=>Or.inl (by rw [shC])
 | S::r=>Or.inr ⟨_,by rw [shC]⟩
theorem parts_node {N:Nd}(ok:okN N=true) (sz:siz N<=16384):PartsOK 0 (shN litW N) :=
 ⟨good_fine.node ok,shut_node ok,good_small.node ok,(good_lv.node ok).2 0,by have:=shN_len litW _ N (Nat.lt_succ_self _) ok;omega⟩
theorem show_of {N:Nd}(ok:okN N=true) (sz:siz N<=16384) (dp:dep N<=60):showT litW N=joinW (shN litW N):=by unfold showT;rw [if_pos ⟨dp,sz,ok⟩]
def restW (l:List St) (j:Nat):List ByteArray:=if j=0 then shB litW l else shC litW (l.drop j)
theorem rest_last (l:List St):restW l l.length=[]:=by
 unfold restW
 split
 ·rename_i e
  rw [List.eq_nil_of_length_eq_zero e,shB]
 ·rw [List.drop_length,shC]
theorem rest_step {l:List St}{j:Nat}(hj:j<l.length):restW l j =(if j=0 then [] else [⟨#[59]⟩])++(shS litW l[j]++restW l (j+1)):=by
 have e1:restW l (j+1)=shC litW (l.drop (j+1)):=by unfold restW;rw [if_neg (Nat.succ_ne_zero j)]
 rw [e1]
 by_cases h:j=0
 ·subst h
  rw [if_pos rfl]
  unfold restW
  rw [if_pos rfl]
  cases l with
  | nil=>simp at hj
  | cons S r=>rw [shB];rfl
 ·rw [if_neg h]
  unfold restW
  rw [if_neg h,List.drop_eq_getElem_cons hj,shC];rfl
theorem progShow2 (cs:List Value) (N:Nd) (w:World) (h:NdV w cs N) (hT:Tab w) (hZ:Tok.TZ w) (hg:10<w.heap.size) (ok:okN N=true) (sz:siz N<=16384) (dp:dep N<=60) :
  Calls Tryz.prog 35 #[.agg cs.toArray] w fun e w'=>e=.returned (.string (joinW (shN litW N)))/\Below w.heap.size w w':=by
 have:=showP litW cs N w h hT (by omega) (lq_prog w hZ hg N ok)
 rw [show_of ok sz dp] at this
 exact this
theorem round_end {nb:List UInt8->List UInt8->Bool}{sep ind:List UInt8}{TT acc:List UInt8}{bf:List UInt8}{N:Nd}{c:List ByteArray}(ok:okN N=true) (hc:c=[]∨∃ r,c =⟨#[59]⟩::r) (h:acc++outW nb sep ind bf 0 (shN litW N++c)=TT) (bf2:List UInt8) :
  (acc++outW nb sep ind bf 0 (shN litW N))++outW nb sep ind bf2 0 c=TT:=by
 rw [outW_app nb sep ind c hc _ bf bf2,good_bal.node ok] at h
 rw [List.append_assoc];exact h
def Inv (nb:List UInt8->List UInt8->Bool) (s:PSt) (TT:List UInt8) (B b:Nat) (Q:List ByteArray) (w:World):Prop :=
 ∃ acc s',PW B b w acc s'/\Hid (s'.sep=s.sep/\s'.ind=s.ind/\s'.nb=s.nb/\s'.lv=0/\s'.bf.size<=1000000/\acc++outW nb s.sep.data.toList s.ind.data.toList s'.bf.data.toList 0 Q=TT)
theorem Inv.below {nb:List UInt8->List UInt8->Bool}{s:PSt}{TT:List UInt8}{B b:Nat}{Q:List ByteArray}{w w':World}(h:Inv nb s TT B b Q w) (hb:Below w.heap.size w w'):Inv nb s TT B b Q w':=by
 obtain ⟨acc,s',h1,h2⟩:=h;exact ⟨acc,s',h1.below hb,h2⟩
theorem invBreak {nb:List UInt8->List UInt8->Bool}{s:PSt}{TT:List UInt8}{B b:Nat}{Q:List ByteArray}{w:World}(h:Inv nb s TT B b (⟨#[59]⟩::Q) w) (hB:B<=w.heap.size) (hT:TT.length<=200000000000) :
  Calls Tryz.prog 32 #[.pointer (some ⟨b,0,none⟩)] w fun e w'=>e=.returned (.tuple #[])/\Inv nb s TT B b Q w'/\BX B b w w':=by
 obtain ⟨acc,s',h1,h2⟩:=h
 obtain ⟨e1,e2,e3,e4,e5,e6⟩:=h2.out
 rw [outW,if_pos rfl] at e6
 have hl:=congrArg List.length e6
 simp only [List.length_append] at hl
 have x1:s.sep.data.toList.length=s.sep.size:=rfl
 refine (breakW B b w acc s' 0 h1 hB e4 (by omega) (by rw [e1];omega)).mono ?_
 rintro e w' ⟨rfl,h3,b3⟩
 refine ⟨rfl,⟨_,_,h3,e1,e2,e3,e4,Nat.zero_le _,?_⟩,b3⟩
 rw [e1,e2,<- e6]
 simp only [List.append_assoc]
theorem invPart {f:FuncId}{nb:List UInt8->List UInt8->Bool}(PO:PartOK f nb) {s:PSt}{TT:List UInt8}{B b:Nat}{Q:List ByteArray}{w:World}{p:ByteArray}(hp:bareB p=true) (hn:p.data.toList≠[]) (hz:p.size<=1000000) (hnb:s.nb=.func (.func f) #[] #[]) (h:Inv nb s TT B b (p::Q) w) (hB:B<=w.heap.size) (hT:TT.length<=200000000000) :
  Calls Tryz.prog 33 #[.pointer (some ⟨b,0,none⟩),.string p] w fun e w'=>e=.returned (.tuple #[])/\Inv nb s TT B b Q w'/\BX B b w w':=by
 obtain ⟨acc,s',h1,h2⟩:=h
 obtain ⟨e1,e2,e3,e4,e5,e6⟩:=h2.out
 have st:=bare_step hp 0
 have hb:=hp
 unfold bareB at hb
 simp only [Bool.and_eq_true,bne_iff_ne] at hb
 rw [outW,if_neg hb.1.2,st] at e6
 have hl:=congrArg List.length e6
 simp only [List.length_append] at hl
 have x1:p.data.toList.length=p.size:=rfl
 refine (PO B b w acc s' h1 hB (e3.trans hnb) (by rw [e4];omega) p hn (by omega) (by omega)).mono ?_
 rintro e w' ⟨rfl,h3,b3⟩
 refine ⟨rfl,⟨_,_,h3,e1,e2,e3,?_,hz,?_⟩,b3⟩
 ·show lvI s'.lv p=0
  unfold lvI
  rw [if_neg hb.1.1.1,if_neg hb.1.1.2,e4]
 ·rw [<- e6];simp only [List.append_assoc]
theorem invShown {f:FuncId}{nb:List UInt8->List UInt8->Bool}(PO:PartOK f nb) {s:PSt}{TT:List UInt8}{B b:Nat}{c:List ByteArray}{w:World}{N:Nd}(ok:okN N=true) (sz:siz N<=16384) (hc:c=[]∨∃ r,c =⟨#[59]⟩::r) (hnb:s.nb=.func (.func f) #[] #[]) (h:Inv nb s TT B b (shN litW N++c) w) (hB:B<=w.heap.size) (hT:TT.length<=200000000000) :
  Calls Tryz.prog 34 #[.pointer (some ⟨b,0,none⟩),.string (joinW (shN litW N))] w fun e w'=>e=.returned (.tuple #[])/\Inv nb s TT B b c w'/\BX B b w w':=by
 obtain ⟨acc,s',h1,h2⟩:=h
 obtain ⟨e1,e2,e3,e4,e5,e6⟩:=h2.out
 have re:=fun bf2=>round_end ok hc e6 bf2
 have hl:=congrArg List.length (re [])
 simp only [List.length_append] at hl
 refine (shownW f nb PO B b (shN litW N) w acc s' 0 h1 hB (e3.trans hnb) e4 (parts_node ok sz) e5 (by rw [e1,e2];omega)).mono ?_
 rintro e w' ⟨rfl,⟨bf,h3,hz⟩,b3⟩
 refine ⟨rfl,⟨_,_,h3,e1,e2,e3,?_,hz,?_⟩,b3⟩
 ·show ((lvl 0 (shN litW N):Nat):Int)=0
  rw [good_bal.node ok];rfl
 ·rw [e1,e2];exact re _
theorem programW (f:FuncId) (nb:List UInt8->List UInt8->Bool) (PO:PartOK f nb) (B b:Nat) (W0:World) (ba:Option Addr) (bc bb bo:Nat) (l:List St) (w:World) (s:PSt) (h:PW B b w [] s) (hWB:W0.heap.size<=B) (hW:Below W0.heap.size W0 w) (hB:B<=w.heap.size) (hnb:s.nb=.func (.func f) #[] #[]) (hlv:s.lv=0) (hbf:s.bf =⟨#[]⟩) (hsep:s.sep.data.toList.length<=1) (hind:s.ind.data.toList.length<=2)
  (hl:l.length<=bc/\bc<=9223372036854775807) (ha:l≠[]->ba=some ⟨bb,bo,none⟩) (hat:StsAt W0 bb bo l) (hT:Tab W0) (hZ:Tok.TZ W0) (hg:10<W0.heap.size) (hs:sizB l<=2000000) :
  Calls Tryz.prog 15 #[.pointer (some ⟨b,0,none⟩),.agg #[.slice ba l.length bc]] w fun e w'=>e=.returned (.tuple #[])/\(∃ s',PW B b w' (if rightBE l=0 then outW nb s.sep.data.toList s.ind.data.toList [] 0 (shB litW l) else []) s'/\s'.sep=s.sep)/\BX B b w w':=by
 have BN:=below_new w (.cells #[.slice ba l.length bc] 24)
 have hp0:(w.alloc (.cells #[.slice ba l.length bc] 24)).cell? ⟨w.heap.size,0,none⟩=some (.slice ba l.length bc):=by rw [World.cell?_alloc_new];rfl
 have RP:=rightP ba bc bb bo l _ hl ha (StsAt.below (Below.then hW BN) hat) (hT.below (Below.then hW BN)) hs
 have X0:=BX.of (B:=B) (b:=b) BN hB
 by_cases hz:rightBE l=0
 ·obtain ⟨ok,dp,sz,ln,ng⟩:=right_parts hz
  obtain ⟨TT,hTT0⟩:∃ TT,outW nb s.sep.data.toList s.ind.data.toList [] 0 (shB litW l)=TT:=⟨_,rfl⟩
  have hTT:TT.length<=200000000000:=by rw [<- hTT0];exact wide_len hz nb hsep hind
  have I0:Inv nb s TT B b (restW l 0) w:=⟨[],s,h,rfl,rfl,rfl,hlv,by rw [hbf];exact Nat.zero_le _,by rw [hbf,List.nil_append];exact hTT0⟩
  have HZ:Hid (rightBE l=0):=hz
  rw [hTT0]
  have ols:=okL_allP.1 ok
  have RS:=fun j (hj:j<l.length)=>rest_step hj
  have RL:=rest_last l
  have oba:=ha
  have HA:Hid (l≠[]->ba=some ⟨bb,bo,none⟩):=ha
  have HS:Hid (TT.length<=200000000000/\l.length<=1000):=⟨hTT,ln⟩
  have HLB:Hid (l.length<=bc/\bc<=9223372036854775807):=hl
  have FIN:Hid (∀ w',Inv nb s TT B b [] w'->∃ s',PW B b w' (if rightBE l=0 then TT else []) s'/\s'.sep=s.sep):=fun w' hi=>by
   obtain ⟨acc,s',h1,h2⟩:=hi
   obtain ⟨e1,-,-,-,-,e6⟩:=h2.out
   rw [outW,List.append_nil] at e6
   subst e6
   exact ⟨s',by rw [if_pos HZ.out];exact h1,e1⟩
  clear h hz hlv hbf hTT0 ha oba hs hsep hind
  go_enter Tryz.func15,Tryz.ntmps15
  go_wp2_with (first |(go_at_call 31;((with_reducible refine RP.mono ?_);rintro e w1 ⟨x,rfl,hx,b1⟩;(have x0:x=0:=hx.1.2 HZ.out);subst x0;(have q1:=(b1.cell (cell_lt hp0)).trans hp0);(have I1:=(I0.below BN).below b1);(have X1:=X0.trans (BX.of b1 (Nat.le_trans hB BN.size))))))
  obtain ⟨wo,rfl⟩:∃ wo,wo=w1:=⟨_,rfl⟩
  go_loopw [12] (fun i wr=>∃ j:Nat,j<=l.length/\i=.int .i64 (j:Int)/\Inv nb s TT B b (restW l j) wr/\BX B b w wr) (fun i _=>l.length - (intOf i).toNat)
  case atStart=>exact ⟨0,Nat.zero_le _,rfl,I1,X1⟩
  case round =>
   obtain ⟨j,hj,rfl,iv,hbr⟩:=hrel
   clear I0 I1 X0 X1 RP q1 hp0
   have ln:=HS.out.2
   by_cases hlt:j<l.length
   ·have hi1:=stmts_at (ic:=bc) rfl HA.out hlt
    obtain ⟨cs,hC0,hV⟩:=hat.at hlt
    obtain ⟨v1,v3,ct,cn,ecs,lct,lcn,hN⟩:=stv_parts hV
    have l34:=hV.len
    have hone:=hV.one
    have bel0:=hW.trans (hbr.bel.mono hWB)
    have hCw:=hC0.below bel0
    have hok:=ols j hlt
    have okn:=(okS_nd hok).1
    have smn:=stmt_small hlt
    have szn:siz l[j].nd<=16384:=Nat.le_trans smn.1 sz
    have dpn:dep l[j].nd<=60:=Nat.le_trans smn.2.1 dp
    have ln15:=hN.len
    have SH:=fun w' (g:BX B b w w')=>progShow2 cn l[j].nd w' (hN.below (hW.trans (g.bel.mono hWB))) (hT.below (hW.trans (g.bel.mono hWB))) (Tok.TZ.below hZ (hW.trans (g.bel.mono hWB))) (Nat.lt_of_lt_of_le hg (hW.trans (g.bel.mono hWB)).size) okn szn dpn
    have hkk:=okS_k hok
    have hk3:=ng l[j] (List.getElem_mem hlt)
    have sr:B<=wr.heap.size:=Nat.le_trans hB hbr.bel.size
    have bn:=below_new wr (.cells cs.toArray 53)
    have i3:=iv.below bn
    have s3:B<=(wr.alloc (.cells cs.toArray 53)).heap.size:=Nat.le_trans sr bn.size
    have B3:=hbr.trans (BX.of bn sr)
    have hxb:wr.heap.size≠b:=by
     obtain ⟨acc,s',hpw,-⟩:=iv
     exact Nat.ne_of_gt hpw.lt
    have x3:StBox (wr.alloc (.cells cs.toArray 53)) wr.heap.size cs:=heap_alloc_new _ _
    have hc:=shC_head litW (l.drop (j+1))
    rw [show shC litW (l.drop (j+1))=restW l (j+1) by unfold restW;rw [if_neg (Nat.succ_ne_zero j)]] at hc
    rw [RS j hlt,shS_eq] at i3
    rw [ecs] at x3
    obtain ⟨y0,y2,hdN⟩:=x3.cells lct
    rw [<- ecs] at x3 y0 y2 hdN
    have CX0:∀ (x':Nat) (w':World),StBox w' x' cs->w'.cell? ⟨x',0,none⟩=some (.int .i64 l[j].k)/\w'.cell? ⟨x',2,none⟩=some (.string l[j].n)/\Cells w' x' 19 cn:=fun x' w' hb=>by rw [ecs] at hb;exact hb.cells lct
    have nmS:=fun k=>name_okS hok k
    clear RS ols ecs hV hN hC0 hok hat hT hZ hg RL iv dpn smn
    rcases hkk with k | k | k
    ·rw [k] at y0
     have CX:∀ (x':Nat) (w':World),StBox w' x' cs->w'.cell? ⟨x',0,none⟩=some (.int .i64 1)/\w'.cell? ⟨x',2,none⟩=some (.string l[j].n)/\Cells w' x' 19 cn:=fun x' w' hb=>by have:=CX0 x' w' hb;rw [k] at this;exact this
     rw [if_neg (show ¬ l[j].k=2 by omega),if_neg (show ¬ l[j].k=3 by omega),List.nil_append] at i3
     clear nmS hk3 k CX0
     by_cases h0:j=0
     ·rw [if_pos (show j=0 from h0)] at i3
      have hj0:¬ (0:Int) <(j:Int):=by omega
      clear h0
      rw [List.nil_append] at i3
      go_wp2_with (first |((with_reducible show wpList _ _ _ ({ dst:=_,op:=Op.load 53 _,type:=_,pos:=_,after:=_,guard:=none }::_) _ _);refine wpList_load_stmt rfl rfl rfl hCw l34 ?_) |((with_reducible show wpList _ _ _ ({ dst:=_,op:=Op.store 53 _ _,type:=_,pos:=_,after:=_,guard:=none }::_) _ _);refine wpList_store_whole rfl rfl rfl rfl infoStmt l34 rfl hone ?_) |(go_at_call 35;((with_reducible refine (SH _ B3).mono ?_);rintro e w7 ⟨rfl,b7⟩;(have i7:=i3.below b7);(have s7:B<=w7.heap.size:=Nat.le_trans s3 b7.size))) |(go_at_call 34;((with_reducible refine (invShown PO okn szn hc hnb i7 s7 hTT).mono ?_);rintro e w8 ⟨rfl,i8,b8⟩)) |((with_reducible show wpList _ _ _ ({ dst:=_,op:=Op.load 49 _,type:=_,pos:=_,after:=_,guard:=none }::_) _ _);refine wpList_load_node rfl rfl rfl hdN ln15 ?_))
      go_roundw
      case rel=>exact ⟨j+1,by omega,by go_num,i8,(B3.trans (BX.of b7 s3)).trans b8⟩
      case measure=>simp [intOf];omega
     ·rw [if_neg (show ¬ j=0 from h0)] at i3
      have hj0:(0:Int) <(j:Int):=by omega
      simp only [List.nil_append,List.cons_append] at i3
      go_wp2_with (first |((with_reducible show wpList _ _ _ ({ dst:=_,op:=Op.load 53 _,type:=_,pos:=_,after:=_,guard:=none }::_) _ _);refine wpList_load_stmt rfl rfl rfl hCw l34 ?_) |((with_reducible show wpList _ _ _ ({ dst:=_,op:=Op.store 53 _ _,type:=_,pos:=_,after:=_,guard:=none }::_) _ _);refine wpList_store_whole rfl rfl rfl rfl infoStmt l34 rfl hone ?_) |(go_at_call 32;((with_reducible refine (invBreak i3 s3 hTT).mono ?_);rintro e w4 ⟨rfl,i4,b4⟩;(have x4:=x3.bx b4 hxb);(obtain ⟨y0,y2,hdN⟩:=CX _ _ x4);(have s4:B<=w4.heap.size:=Nat.le_trans s3 b4.bel.size);(have B4:=B3.trans b4))) |(go_at_call 35;((with_reducible refine (SH _ B4).mono ?_);rintro e w7 ⟨rfl,b7⟩;(have i7:=i4.below b7);(have s7:B<=w7.heap.size:=Nat.le_trans s4 b7.size))) |(go_at_call 34;((with_reducible refine (invShown PO okn szn hc hnb i7 s7 hTT).mono ?_);rintro e w8 ⟨rfl,i8,b8⟩)) |((with_reducible show wpList _ _ _ ({ dst:=_,op:=Op.load 49 _,type:=_,pos:=_,after:=_,guard:=none }::_) _ _);refine wpList_load_node rfl rfl rfl hdN ln15 ?_))
      go_roundw
      case rel=>exact ⟨j+1,by omega,by go_num,i8,(B4.trans (BX.of b7 s4)).trans b8⟩
      case measure=>simp [intOf];omega
    ·rw [k] at y0
     have CX:∀ (x':Nat) (w':World),StBox w' x' cs->w'.cell? ⟨x',0,none⟩=some (.int .i64 2)/\w'.cell? ⟨x',2,none⟩=some (.string l[j].n)/\Cells w' x' 19 cn:=fun x' w' hb=>by have:=CX0 x' w' hb;rw [k] at this;exact this
     rw [if_pos (show l[j].k=2 from k)] at i3
     have nmk:=nmS k
     have nb1:=name_bare nmk
     have nz1:l[j].n.size<=1000000:=by have:=name_small nmk;omega
     have nn1:l[j].n.data.toList≠[]:=(good_fine.name _ nmk _ (List.mem_singleton.2 rfl)).1
     have nb2:bareB ⟨#[60,45]⟩=true:=by decide
     have nn2:(⟨#[60,45]⟩:ByteArray).data.toList≠[]:=by decide
     have nz2:(⟨#[60,45]⟩:ByteArray).size<=1000000:=by decide
     clear nmS hk3 k CX0
     by_cases h0:j=0
     ·rw [if_pos (show j=0 from h0)] at i3
      have hj0:¬ (0:Int) <(j:Int):=by omega
      clear h0
      simp only [List.nil_append,List.cons_append] at i3
      go_wp2_with (first |((with_reducible show wpList _ _ _ ({ dst:=_,op:=Op.load 53 _,type:=_,pos:=_,after:=_,guard:=none }::_) _ _);refine wpList_load_stmt rfl rfl rfl hCw l34 ?_) |((with_reducible show wpList _ _ _ ({ dst:=_,op:=Op.store 53 _ _,type:=_,pos:=_,after:=_,guard:=none }::_) _ _);refine wpList_store_whole rfl rfl rfl rfl infoStmt l34 rfl hone ?_) |(go_at_call 33;((with_reducible refine (invPart PO nb1 nn1 nz1 hnb i3 s3 hTT).mono ?_);rintro e w5 ⟨rfl,i5,b5⟩;(have x5:=x3.bx b5 hxb);(obtain ⟨y0,y2,hdN⟩:=CX _ _ x5);(have s5:B<=w5.heap.size:=Nat.le_trans s3 b5.bel.size);(have B5:=B3.trans b5))) |(go_at_call 33;((with_reducible refine (invPart PO nb2 nn2 nz2 hnb i5 s5 hTT).mono ?_);rintro e w6 ⟨rfl,i6,b6⟩;(have x6:=x5.bx b6 hxb);(obtain ⟨y0,y2,hdN⟩:=CX _ _ x6);(have s6:B<=w6.heap.size:=Nat.le_trans s5 b6.bel.size);(have B6:=B5.trans b6))) |(go_at_call 35;((with_reducible refine (SH _ B6).mono ?_);rintro e w7 ⟨rfl,b7⟩;(have i7:=i6.below b7);(have s7:B<=w7.heap.size:=Nat.le_trans s6 b7.size))) |(go_at_call 34;((with_reducible refine (invShown PO okn szn hc hnb i7 s7 hTT).mono ?_);rintro e w8 ⟨rfl,i8,b8⟩)) |((with_reducible show wpList _ _ _ ({ dst:=_,op:=Op.load 49 _,type:=_,pos:=_,after:=_,guard:=none }::_) _ _);refine wpList_load_node rfl rfl rfl hdN ln15 ?_))
      go_roundw
      case rel=>exact ⟨j+1,by omega,by go_num,i8,(B6.trans (BX.of b7 s6)).trans b8⟩
      case measure=>simp [intOf];omega
     ·rw [if_neg (show ¬ j=0 from h0)] at i3
      have hj0:(0:Int) <(j:Int):=by omega
      simp only [List.nil_append,List.cons_append] at i3
      go_wp2_with (first |((with_reducible show wpList _ _ _ ({ dst:=_,op:=Op.load 53 _,type:=_,pos:=_,after:=_,guard:=none }::_) _ _);refine wpList_load_stmt rfl rfl rfl hCw l34 ?_) |((with_reducible show wpList _ _ _ ({ dst:=_,op:=Op.store 53 _ _,type:=_,pos:=_,after:=_,guard:=none }::_) _ _);refine wpList_store_whole rfl rfl rfl rfl infoStmt l34 rfl hone ?_) |(go_at_call 32;((with_reducible refine (invBreak i3 s3 hTT).mono ?_);rintro e w4 ⟨rfl,i4,b4⟩;(have x4:=x3.bx b4 hxb);(obtain ⟨y0,y2,hdN⟩:=CX _ _ x4);(have s4:B<=w4.heap.size:=Nat.le_trans s3 b4.bel.size);(have B4:=B3.trans b4))) |(go_at_call 33;((with_reducible refine (invPart PO nb1 nn1 nz1 hnb i4 s4 hTT).mono ?_);rintro e w5 ⟨rfl,i5,b5⟩;(have x5:=x4.bx b5 hxb);(obtain ⟨y0,y2,hdN⟩:=CX _ _ x5);(have s5:B<=w5.heap.size:=Nat.le_trans s4 b5.bel.size);(have B5:=B4.trans b5))) |(go_at_call 33;((with_reducible refine (invPart PO nb2 nn2 nz2 hnb i5 s5 hTT).mono ?_);rintro e w6 ⟨rfl,i6,b6⟩;(have x6:=x5.bx b6 hxb);(obtain ⟨y0,y2,hdN⟩:=CX _ _ x6);(have s6:B<=w6.heap.size:=Nat.le_trans s5 b6.bel.size);(have B6:=B5.trans b6))) |(go_at_call 35;((with_reducible refine (SH _ B6).mono ?_);rintro e w7 ⟨rfl,b7⟩;(have i7:=i6.below b7);(have s7:B<=w7.heap.size:=Nat.le_trans s6 b7.size))) |(go_at_call 34;((with_reducible refine (invShown PO okn szn hc hnb i7 s7 hTT).mono ?_);rintro e w8 ⟨rfl,i8,b8⟩)) |((with_reducible show wpList _ _ _ ({ dst:=_,op:=Op.load 49 _,type:=_,pos:=_,after:=_,guard:=none }::_) _ _);refine wpList_load_node rfl rfl rfl hdN ln15 ?_))
      go_roundw
      case rel=>exact ⟨j+1,by omega,by go_num,i8,(B6.trans (BX.of b7 s6)).trans b8⟩
      case measure=>simp [intOf];omega
    ·exact absurd k hk3
   ·obtain rfl:j=l.length:=by omega
    rw [RL] at iv
    clear RS ols hat hT hZ hg RL
    go_wp2_with fail
    go_end0
    exact ⟨rfl,by have:=FIN.out _ iv;rw [if_pos HZ.out] at this;exact this,hbr⟩
 ·have FIN:Hid (∀ w',PW B b w' [] s->∃ s',PW B b w' (if rightBE l=0 then outW nb s.sep.data.toList s.ind.data.toList [] 0 (shB litW l) else []) s'/\s'.sep=s.sep):=fun w' hi=>⟨s,by rw [if_neg hz];exact hi,rfl⟩
  have hzn:∀ x,RpR l x->(x != 0)=true:=fun x hx=>by
   have:¬ x=0:=fun e=>hz (hx.1.1 e)
   simpa using this
  obtain ⟨PP,hPP⟩:∃ PP:World->Prop,(fun w'=>∃ s',PW B b w' (if rightBE l=0 then outW nb s.sep.data.toList s.ind.data.toList [] 0 (shB litW l) else []) s'/\s'.sep=s.sep)=PP:=⟨_,rfl⟩
  have FIN2:Hid (∀ w',PW B b w' [] s->PP w'):=fun w' hi=>by rw [<- hPP];exact FIN.out w' hi
  suffices HH:Calls Tryz.prog 15 #[.pointer (some ⟨b,0,none⟩),.agg #[.slice ba l.length bc]] w fun e w'=>e=.returned (.tuple #[])/\PP w'/\BX B b w w' by
   rw [<- hPP] at HH;exact HH
  clear hPP hz ha FIN hsep hind hbf hlv
  go_enter Tryz.func15,Tryz.ntmps15
  go_wp2_with (first |(go_at_call 31;((with_reducible refine RP.mono ?_);rintro e w1 ⟨x,rfl,hx,b1⟩;(have x0:=hzn x hx))))
  refine bodyPost_ret (results_none rfl _ _ _) rfl ?_
  exact ⟨rfl,FIN2.out _ ((h.below BN).below b1),X0.trans (BX.of b1 (Nat.le_trans hB BN.size))⟩
def bareT (l:List St):List UInt8:=if rightBE l=0 then outW (fun _ _=>true) [10] [32,32] [] 0 (shB litW l) else []
theorem bare_long (l:List St):(if bareT l=[] then [] else bareT l++[10])=if rightBE l=0 then longT l else []:=by
 unfold bareT
 by_cases h:rightBE l=0
 ·rw [if_pos h,if_pos h]
  unfold longT
  by_cases h0:l=[]
  ·subst h0
   rw [if_pos rfl,shB,outW,if_pos rfl]
  ·have ok:=(right_parts h).1
   rw [if_neg h0,if_neg (outW_ne _ (prB_ne ok h0) (good_fine.stmts ok) (sep:=[10]) (by decide))]
 ·rw [if_neg h,if_neg h,if_pos rfl]
theorem pw_new {B:Nat}{w:World}(hB:B<=w.heap.size) (s:PSt):PW B w.heap.size (w.alloc (.cells (wrCells (.pointer none) (.slice none 0 0) s) 66)) [] s :=
 ⟨hB,.pointer none,.slice none 0 0,Or.inl rfl,heap_alloc_new _ _,⟨rfl,Or.inl ⟨rfl,rfl⟩⟩,by simp [Value.ownBlock],by simp⟩
theorem bare_len (l:List St):(bareT l).length<=200000000000:=by
 unfold bareT
 split
 ·rename_i h;exact wide_len h _ (by decide) (by decide)
 ·exact Nat.zero_le _
theorem printW (ba:Option Addr) (bc bb bo:Nat) (l:List St) (w:World) (hl:l.length<=bc/\bc<=9223372036854775807) (ha:l≠[]->ba=some ⟨bb,bo,none⟩) (hat:StsAt w bb bo l) (hT:Tab w) (hZ:Tok.TZ w) (hg:10<w.heap.size) (hs:sizB l<=2000000) :
  Calls Tryz.prog 7 #[.agg #[.slice ba l.length bc]] w fun e w'=>e=.returned (.string ⟨(if rightBE l=0 then longT l else []).toArray⟩)/\Below w.heap.size w w':=by
 have BN:=below_new w (.cells #[.slice ba l.length bc] 24)
 have hp0:(w.alloc (.cells #[.slice ba l.length bc] 24)).cell? ⟨w.heap.size,0,none⟩=some (.slice ba l.length bc):=by rw [World.cell?_alloc_new];rfl
 obtain ⟨w0,hw0⟩:∃ w0,w.alloc (.cells #[.slice ba l.length bc] 24)=w0:=⟨_,rfl⟩
 have hz0:w0.heap.size=w.heap.size+1:=by rw [<- hw0];exact Array.size_push _
 have BW:=below_new w0 (.cells (wrCells (.pointer none) (.slice none 0 0) ⟨⟨#[10]⟩,⟨#[32,32]⟩,.func (.func 14) #[] #[],⟨#[]⟩,0⟩) 66)
 have BB:Below w.heap.size w (w0.alloc (.cells (wrCells (.pointer none) (.slice none 0 0) ⟨⟨#[10]⟩,⟨#[32,32]⟩,.func (.func 14) #[] #[],⟨#[]⟩,0⟩) 66)):=Below.then (by rw [<- hw0];exact BN) BW
 have NW:=pw_new (B:=w.heap.size) (w:=w0) (by omega) ⟨⟨#[10]⟩,⟨#[32,32]⟩,.func (.func 14) #[] #[],⟨#[]⟩,0⟩
 have PR0:=programW _ _ part_long w.heap.size w0.heap.size w ba bc bb bo l _ _ NW (Nat.le_refl _) BB BB.size rfl rfl rfl (by decide) (by decide) hl ha hat hT hZ hg hs
 have PR:Calls Tryz.prog 15 #[.pointer (some ⟨w.heap.size+1,0,none⟩),.agg #[.slice ba l.length bc]] (w0.alloc (.cells (wrCells (.pointer none) (.slice none 0 0) ⟨⟨#[10]⟩,⟨#[32,32]⟩,.func (.func 14) #[] #[],⟨#[]⟩,0⟩) 66)) fun e w'=>e=.returned (.tuple #[])/\(∃ s',PW w.heap.size (w.heap.size+1) w' (bareT l) s'/\s'.sep =⟨#[10]⟩)/\Below w.heap.size w w':=by
  rw [hz0] at PR0
  exact PR0.mono fun e w' ⟨a,b,c⟩=>⟨a,b,BB.trans c.bel⟩
 have HX:=bare_long l
 have HB:=bare_len l
 rw [<- HX]
 generalize bareT l=bt at *
 subst hw0
 unfold wrCells at PR
 clear PR0 NW BW hz0 HX hat hT hZ hg ha hs
 by_cases h0:bt=[]
 ·subst h0
  rw [if_pos rfl]
  have SR:=fun w' s' h=>stringW0 w.heap.size (w.heap.size+1) s' w' h
  have LR:=fun w' s' h=>lenW w.heap.size (w.heap.size+1) [] s' w' h
  go_enter Tryz.func7,Tryz.ntmps7
  go_wp2_with (first |(go_at_call 15;((with_reducible refine Calls.mono PR ?_);rintro e w1 ⟨rfl,⟨s1,p1,e1⟩,b1⟩)) |(go_at_call 16;((with_reducible refine Calls.mono (LR _ _ p1) ?_);rintro e w2 ⟨rfl,rfl⟩)) |(go_at_call 18;((with_reducible refine Calls.mono (SR _ _ p1) ?_);rintro e w3 ⟨rfl,b3⟩)))
  go_ret
  exact ⟨rfl,b1.trans b3⟩
 ·rw [if_neg h0]
  have hgt:(0:Int) <(bt.length:Int):=by have:=List.length_pos_iff.2 h0;omega
  have SR:=fun w' s' h=>stringW w.heap.size (w.heap.size+1) (bt++[10]) s' w' h (by simp)
  have LR:=fun w' s' h=>lenW w.heap.size (w.heap.size+1) bt s' w' h
  have WR:=fun w' s' h (hB:w.heap.size<=w'.heap.size)=>writeStringW w.heap.size (w.heap.size+1) bt s' ⟨#[10]⟩ w' h (by show bt.length+1<=_;omega) hB
  clear h0
  go_enter Tryz.func7,Tryz.ntmps7
  go_wp2_with (first |(go_at_call 15;((with_reducible refine Calls.mono PR ?_);rintro e w1 ⟨rfl,⟨s1,p1,e1⟩,b1⟩;(have c1:=p1.cells.1);rw [e1] at c1)) |(go_at_call 16;((with_reducible refine Calls.mono (LR _ _ p1) ?_);rintro e w2 ⟨rfl,rfl⟩)) |(go_at_call 17;((with_reducible refine Calls.mono (WR _ _ p1 b1.size) ?_);rintro e w3 ⟨rfl,p3,b3⟩)) |(go_at_call 18;((with_reducible refine Calls.mono (SR _ _ p3) ?_);rintro e w4 ⟨rfl,b4⟩)))
  go_ret
  exact ⟨rfl,b1.trans (b3.bel.trans b4)⟩
theorem short_len (l:List St):(if rightBE l=0 then shortT l else []).length<=200000000000:=by
 split
 ·rename_i h;exact wide_len h _ (by decide) (by decide)
 ·exact Nat.zero_le _
theorem compactW (ba:Option Addr) (bc bb bo:Nat) (l:List St) (w:World) (hl:l.length<=bc/\bc<=9223372036854775807) (ha:l≠[]->ba=some ⟨bb,bo,none⟩) (hat:StsAt w bb bo l) (hT:Tab w) (hZ:Tok.TZ w) (hg:10<w.heap.size) (hs:sizB l<=2000000) :
  Calls Tryz.prog 8 #[.agg #[.slice ba l.length bc]] w fun e w'=>e=.returned (.string ⟨(if rightBE l=0 then shortT l else []).toArray⟩)/\Below w.heap.size w w':=by
 have BN:=below_new w (.cells #[.slice ba l.length bc] 24)
 have hp0:(w.alloc (.cells #[.slice ba l.length bc] 24)).cell? ⟨w.heap.size,0,none⟩=some (.slice ba l.length bc):=by rw [World.cell?_alloc_new];rfl
 obtain ⟨w0,hw0⟩:∃ w0,w.alloc (.cells #[.slice ba l.length bc] 24)=w0:=⟨_,rfl⟩
 have hz0:w0.heap.size=w.heap.size+1:=by rw [<- hw0];exact Array.size_push _
 have BW:=below_new w0 (.cells (wrCells (.pointer none) (.slice none 0 0) ⟨⟨#[59]⟩,⟨#[]⟩,.func (.func 19) #[] #[],⟨#[]⟩,0⟩) 66)
 have BB:Below w.heap.size w (w0.alloc (.cells (wrCells (.pointer none) (.slice none 0 0) ⟨⟨#[59]⟩,⟨#[]⟩,.func (.func 19) #[] #[],⟨#[]⟩,0⟩) 66)):=Below.then (by rw [<- hw0];exact BN) BW
 have NW:=pw_new (B:=w.heap.size) (w:=w0) (by omega) ⟨⟨#[59]⟩,⟨#[]⟩,.func (.func 19) #[] #[],⟨#[]⟩,0⟩
 have PR0:=programW _ _ part_short w.heap.size w0.heap.size w ba bc bb bo l _ _ NW (Nat.le_refl _) BB BB.size rfl rfl rfl (by decide) (by decide) hl ha hat hT hZ hg hs
 have PR:Calls Tryz.prog 15 #[.pointer (some ⟨w.heap.size+1,0,none⟩),.agg #[.slice ba l.length bc]] (w0.alloc (.cells (wrCells (.pointer none) (.slice none 0 0) ⟨⟨#[59]⟩,⟨#[]⟩,.func (.func 19) #[] #[],⟨#[]⟩,0⟩) 66)) fun e w'=>e=.returned (.tuple #[])/\(∃ s',PW w.heap.size (w.heap.size+1) w' (if rightBE l=0 then shortT l else []) s')/\Below w.heap.size w w':=by
  rw [hz0] at PR0
  exact PR0.mono fun e w' ⟨a,⟨s',b,_⟩,c⟩=>⟨a,⟨s',b⟩,BB.trans c.bel⟩
 generalize (if rightBE l=0 then shortT l else [])=bt at *
 subst hw0
 unfold wrCells at PR
 clear PR0 NW BW hz0 hat hT hZ hg ha hs
 have SR:∀ w' s',PW w.heap.size (w.heap.size+1) w' bt s'->Calls Tryz.prog 18 #[.pointer (some ⟨w.heap.size+1,0,none⟩)] w' fun e w''=>e=.returned (.string ⟨bt.toArray⟩)/\Below w.heap.size w' w'':=fun w' s' h=>by
  by_cases h0:bt=[]
  ·subst h0;exact stringW0 w.heap.size (w.heap.size+1) s' w' h
  ·exact stringW w.heap.size (w.heap.size+1) bt s' w' h h0
 go_enter Tryz.func8,Tryz.ntmps8
 go_wp2_with (first |(go_at_call 15;((with_reducible refine Calls.mono PR ?_);rintro e w1 ⟨rfl,⟨s1,p1⟩,b1⟩)) |(go_at_call 18;((with_reducible refine Calls.mono (SR _ _ p1) ?_);rintro e w3 ⟨rfl,b3⟩)))
 go_ret
 exact ⟨rfl,b1.trans b3⟩
end Go.Proofs.YtalkinnbfglkdaaGreatDoor.Syn
