/-
  Layer 13: the program's writer: a break, a part. (Written by wip/gen/printer-wr.py.)
-/
import Derived.Test.YtalkinnbfglkdaaGreatDoorPt7
import Derived.Test.YtalkinnbfglkdaaGreatDoorPt8
import Derived.Test.YtalkinnbfglkdaaGreatDoorPt2
import Derived.BigQuiet
set_option maxHeartbeats 16000000
namespace Go.Proofs.YtalkinnbfglkdaaGreatDoor.Syn
open Go.RowKit Go.Shelf Go.Proofs.YtalkinnbfglkdaaGreatDoor.Shape Go.Proofs.YtalkinnbfglkdaaGreatDoor.Draw
set_option linter.unusedVariables false
set_option linter.unusedSimpArgs false
set_option maxRecDepth 100000
theorem drew_below (w:World):Below w.heap.size w w.drew:=⟨rfl,rfl,rfl,Nat.le_refl _,fun _ _=>rfl⟩
def NB (f:FuncId) (nb:List UInt8->List UInt8->Bool):Prop:=∀ (x y:ByteArray) (w:World),x.data.toList≠[]->y.data.toList≠[]->x.size<=1099511627776 ->
 Calls Tryz.prog f #[.string x,.string y] w fun e w'=>e=.returned (.bool (nb x.data.toList y.data.toList))/\Below w.heap.size w w'
theorem nb_print:NB 14 (fun _ _=>true):=by
 intro x y w _ _ _
 go_enter Tryz.func14,Tryz.ntmps14
 go_wp2_with fail
 go_ret
 exact ⟨rfl,Below.refl _ _⟩
theorem need_blank (x y:UInt8):needI (x.toNat:Int) (y.toNat:Int) =((wordB x&&wordB y) ||(x==60&&(y==61 || y==45)) ||(x==62&&y==61)):=by
 have w:∀ z:UInt8,wordI (z.toNat:Int)=wordB z:=fun z=>by
  unfold wordI wordB
  have e:(z=95) ↔ z.toNat=95:=⟨fun h=>by rw [h];rfl,fun h=>UInt8.toNat_inj.1 h⟩
  rw [decide_eq_decide,e]
  omega
 have q:∀ (z:UInt8) (n:Nat) (hn:n<256),((z.toNat:Int)==(n:Int)) =(z==UInt8.ofNat n):=fun z n hn=>by
  rw [Bool.eq_iff_iff,beq_iff_eq,beq_iff_eq]
  constructor
  ·intro h;apply UInt8.toNat_inj.1;rw [UInt8.toNat_ofNat_of_lt' hn];omega
  ·intro h;rw [h,UInt8.toNat_ofNat_of_lt' hn]
 unfold needI
 rw [w,w]
 have a:=q x 60 (by decide);have b:=q y 61 (by decide);have c:=q y 45 (by decide);have d:=q x 62 (by decide)
 simp only [show ((60:Nat):Int)=60 from rfl,show ((61:Nat):Int)=61 from rfl,show ((45:Nat):Int)=45 from rfl,show ((62:Nat):Int)=62 from rfl] at a b c d
 rw [a,b,c,d]
 rfl
theorem str_last (s:ByteArray) (h:s.data.toList≠[]) (w:World):(Instr.index 9 (.string s) (.int .i64 ((s.size:Int) - 1))).run Tryz.prog w=.ok (.int .u8 ((s.data.toList.getLastD 0).toNat:Int)) w:=by
 have hl:s.data.toList.length=s.size:=rfl
 have hp:0<s.size:=by rw [<- hl];exact List.length_pos_iff.2 h
 have:=str_at s (s.size - 1) (s.data.toList.getLastD 0) (by omega) (by
  rw [List.getLastD_eq_getLast?,List.getLast?_eq_getElem?,hl]
  have:s.size - 1<s.data.toList.length:=by omega
  rw [List.getElem?_eq_getElem this];rfl) w
 rw [show ((s.size - 1:Nat):Int) =(s.size:Int) - 1 by omega] at this
 exact this
theorem str_first (s:ByteArray) (h:s.data.toList≠[]) (w:World):(Instr.index 9 (.string s) (.int .i64 0)).run Tryz.prog w=.ok (.int .u8 ((s.data.toList.headD 0).toNat:Int)) w:=by
 have hl:s.data.toList.length=s.size:=rfl
 have hp:0<s.size:=by rw [<- hl];exact List.length_pos_iff.2 h
 exact str_at s 0 (s.data.toList.headD 0) hp (by
  cases e:s.data.toList with
  | nil=>exact absurd e h
  | cons x r=>rfl) w
theorem nb_compact:NB 19 blankB:=by
 intro x y w hx hy hs
 have hp:0<x.size:=by have hl:x.data.toList.length=x.size:=rfl;rw [<- hl];exact List.length_pos_iff.2 hx
 have:=needsP x y _ _ w hp hs (fun w=>str_last x hx w) (fun w=>str_first y hy w)
 rw [need_blank] at this
 exact this
theorem rep_flat (l:List UInt8):∀ n,Lib.repeatL l n =(List.replicate n l).flatten
 | 0=>rfl
 | n+1=>by rw [Lib.repeatL,rep_flat l n,List.replicate_succ,List.flatten_cons]
theorem breakW (B b:Nat) (w:World) (bs:List UInt8) (s:PSt) (lv:Nat) (h:PW B b w bs s) (hB:B<=w.heap.size) (hl:s.lv =(lv:Int)) (hlv:lv<=1000000) (hlen:bs.length+s.sep.size+s.ind.size*lv<=10000000000000) :
  Calls Tryz.prog 32 #[.pointer (some ⟨b,0,none⟩)] w fun e w'=>e=.returned (.tuple #[])/\PW B b w' (bs++s.sep.data.toList++(List.replicate lv s.ind.data.toList).flatten) { s with bf:=⟨#[]⟩ }/\BX B b w w':=by
 obtain ⟨c2,-,-,-,-,-⟩:=(h.below (drew_below w)).cells
 have C0:=writeStringW B b bs s s.sep w.drew (h.below (drew_below w)) (by omega) hB
 have R:=fun w'=>Tryz.strings_Repeat s.ind lv w' (by omega) (by omega)
 have C1:=fun w' (g:PW B b w' (bs++s.sep.data.toList) s) (hb:B<=w'.heap.size)=>writeStringW B b (bs++s.sep.data.toList) s ⟨(Lib.repeatL s.ind.data.toList lv).toArray⟩ w' g (by
  rw [List.length_append]
  have e1:s.sep.data.toList.length=s.sep.size:=rfl
  have e2:(⟨(Lib.repeatL s.ind.data.toList lv).toArray⟩:ByteArray).size=lv*s.ind.size:=by
   show (Lib.repeatL s.ind.data.toList lv).toArray.size=_
   rw [List.size_toArray,Lib.repeatL_length];rfl
  rw [e1,e2,Nat.mul_comm];omega) hb
 obtain ⟨rp,hrp⟩:∃ rp:ByteArray,(⟨(Lib.repeatL s.ind.data.toList lv).toArray⟩:ByteArray)=rp:=⟨_,rfl⟩
 simp only [hrp] at R C1
 clear hrp hlen
 go_enter Tryz.func32,Tryz.ntmps32
 go_wp2_with fail
 refine wp_region_chainS (l:=[_,_,_,_,_,_,_]) (last:=_) rfl (by kernel_rfl) (fun _=>0) [] [] 7 100 2 [.pointer (some ⟨b,0,none⟩),.pointer (some ⟨b,0,none⟩),.pointer (some ⟨b,0,none⟩),.pointer (some ⟨b,0,none⟩),.pointer (some ⟨b,0,none⟩),.pointer (some ⟨b,2,none⟩),.string s.sep] (fun g=>[.pointer (some ⟨b,0,none⟩),.pointer (some ⟨b,0,none⟩),.pointer (some ⟨b,0,none⟩),.pointer (some ⟨b,0,none⟩),.pointer (some ⟨b,0,none⟩),.pointer (some ⟨b,2,none⟩),.string s.sep]) (fun _ _ _ w'=>w'=w.drew) (fun w'=>w'=w.drew) (Nat.le_of_ble_eq_true (by kernel_rfl)) (by kernel_rfl) (by kernel_rfl) rfl (by kernel_rfl) (by kernel_rfl) (by kernel_rfl) rfl rfl (by kernel_rfl) (fun _ _ _ _ h=>h) (fun _ _ _ _ _ _ _ h=>h) rfl ?_ (fun g=>rfl) rfl (by kernel_rfl) ?_
 ·intro hch
  refine ⟨?_,?_,?_,?_,?_,?_,?_,trivial⟩
  ·refine Step.look rfl rfl ?_
   intro a w' hS H
   have hS:w'=w.drew:=hS
   subst hS
   have x0:a.tmps[0]?.getD undef=.pointer (some ⟨b,0,none⟩):=H 0 rfl rfl (by decide)
   refine ⟨trivial,fun K Q hK=>?_⟩
   go_simp
   exact hK.out
  ·refine Step.look rfl rfl ?_
   intro a w' hS H
   have hS:w'=w.drew:=hS
   subst hS
   have x2:a.tmps[2]?.getD undef=.pointer (some ⟨b,0,none⟩):=H 2 rfl rfl (by decide)
   refine ⟨trivial,fun K Q hK=>?_⟩
   go_simp
   exact hK.out
  ·refine Step.look rfl rfl ?_
   intro a w' hS H
   have hS:w'=w.drew:=hS
   subst hS
   have x3:a.tmps[3]?.getD undef=.pointer (some ⟨b,0,none⟩):=H 3 rfl rfl (by decide)
   refine ⟨trivial,fun K Q hK=>?_⟩
   go_simp
   exact hK.out
  ·refine Step.look rfl rfl ?_
   intro a w' hS H
   have hS:w'=w.drew:=hS
   subst hS
   have x0:a.tmps[0]?.getD undef=.pointer (some ⟨b,0,none⟩):=H 0 rfl rfl (by decide)
   refine ⟨trivial,fun K Q hK=>?_⟩
   go_simp
   exact hK.out
  ·refine Step.look rfl rfl ?_
   intro a w' hS H
   have hS:w'=w.drew:=hS
   subst hS
   have x5:a.tmps[5]?.getD undef=.pointer (some ⟨b,0,none⟩):=H 5 rfl rfl (by decide)
   refine ⟨trivial,fun K Q hK=>?_⟩
   go_simp
   exact hK.out
  ·refine Step.look rfl rfl ?_
   intro a w' hS H
   have hS:w'=w.drew:=hS
   subst hS
   have x6:a.tmps[6]?.getD undef=.pointer (some ⟨b,0,none⟩):=H 6 rfl rfl (by decide)
   refine ⟨trivial,fun K Q hK=>?_⟩
   go_simp
   exact hK.out
  ·refine Step.look rfl rfl ?_
   intro a w' hS H
   have hS:w'=w.drew:=hS
   subst hS
   have x7:a.tmps[7]?.getD undef=.pointer (some ⟨b,2,none⟩):=H 7 rfl rfl (by decide)
   have y:=c2
   refine ⟨trivial,fun K Q hK=>?_⟩
   go_simp
   exact hK.out
 ·intro g x w' hS
  subst hS
  simp only [List.take_succ_cons,List.take_zero,List.drop_succ_cons,List.drop_zero,List.cons_append,List.nil_append,List.length_cons,List.length_nil,Nat.reduceAdd]
  go_simp
  go_at_call 17
  with_reducible refine C0.mono ?_
  rintro e w1 ⟨rfl,h1,b1⟩
  have s1:B<=w1.heap.size:=Nat.le_trans hB b1.bel.size
  have h1d:=h1.below (drew_below w1)
  obtain ⟨-,d3,-,-,d6,-⟩:=h1d.cells
  rw [hl] at d6
  clear c2 C0
  go_wp2_with fail
  refine wp_region_chainS (l:=[_,_,_,_,_,_,_,_,_,_,_,_]) (last:=_) rfl (by kernel_rfl) (fun _=>0) [11] [21] 12 100 10 [.pointer (some ⟨b,0,none⟩),.pointer (some ⟨b,0,none⟩),.pointer (some ⟨b,0,none⟩),.pointer (some ⟨b,0,none⟩),.pointer (some ⟨b,0,none⟩),.pointer (some ⟨b,3,none⟩),.string s.ind,.pointer (some ⟨b,0,none⟩),.pointer (some ⟨b,0,none⟩),.pointer (some ⟨b,6,none⟩),.int .i64 lv,undef] (fun g=>[.pointer (some ⟨b,0,none⟩),.pointer (some ⟨b,0,none⟩),.pointer (some ⟨b,0,none⟩),.pointer (some ⟨b,0,none⟩),.pointer (some ⟨b,0,none⟩),.pointer (some ⟨b,3,none⟩),.string s.ind,.pointer (some ⟨b,0,none⟩),.pointer (some ⟨b,0,none⟩),.pointer (some ⟨b,6,none⟩),.int .i64 lv,g 21]) (fun k g _ w'=>(k=0->w'=w1.drew)/\(k=1->g 21=.string rp)/\Below w1.drew.heap.size w1.drew w') (fun w'=>Below w1.drew.heap.size w1.drew w') (Nat.le_of_ble_eq_true (by kernel_rfl)) (by kernel_rfl) (by kernel_rfl) rfl (by kernel_rfl) (by kernel_rfl) (by kernel_rfl) rfl rfl (by kernel_rfl) (fun _ _ _ _ h=>h.2.2) (fun k g g' _ _ _ hg h=>⟨h.1,fun e=>(hg 0 (by omega)) ▸ h.2.1 e,h.2.2⟩) ⟨fun _=>rfl,fun e=>absurd e (by decide),Below.refl _ _⟩ ?_ (fun g=>rfl) (by kernel_rfl) (by kernel_rfl) ?_
  ·intro hch
   refine ⟨?_,?_,?_,?_,?_,?_,?_,?_,?_,?_,?_,?_,trivial⟩
   ·refine Step.look rfl rfl ?_
    intro a w' hS H
    have x0:a.tmps[0]?.getD undef=.pointer (some ⟨b,0,none⟩):=H 0 rfl rfl (by decide)
    refine ⟨trivial,fun K Q hK=>?_⟩
    go_simp
    exact hK.out
   ·refine Step.look rfl rfl ?_
    intro a w' hS H
    have x10:a.tmps[10]?.getD undef=.pointer (some ⟨b,0,none⟩):=H 10 rfl rfl (by decide)
    refine ⟨trivial,fun K Q hK=>?_⟩
    go_simp
    exact hK.out
   ·refine Step.look rfl rfl ?_
    intro a w' hS H
    have x11:a.tmps[11]?.getD undef=.pointer (some ⟨b,0,none⟩):=H 11 rfl rfl (by decide)
    refine ⟨trivial,fun K Q hK=>?_⟩
    go_simp
    exact hK.out
   ·refine Step.look rfl rfl ?_
    intro a w' hS H
    have x0:a.tmps[0]?.getD undef=.pointer (some ⟨b,0,none⟩):=H 0 rfl rfl (by decide)
    refine ⟨trivial,fun K Q hK=>?_⟩
    go_simp
    exact hK.out
   ·refine Step.look rfl rfl ?_
    intro a w' hS H
    have x13:a.tmps[13]?.getD undef=.pointer (some ⟨b,0,none⟩):=H 13 rfl rfl (by decide)
    refine ⟨trivial,fun K Q hK=>?_⟩
    go_simp
    exact hK.out
   ·refine Step.look rfl rfl ?_
    intro a w' hS H
    have x14:a.tmps[14]?.getD undef=.pointer (some ⟨b,0,none⟩):=H 14 rfl rfl (by decide)
    refine ⟨trivial,fun K Q hK=>?_⟩
    go_simp
    exact hK.out
   ·refine Step.look rfl rfl ?_
    intro a w' hS H
    have x15:a.tmps[15]?.getD undef=.pointer (some ⟨b,3,none⟩):=H 15 rfl rfl (by decide)
    have y:=(hS.cell (cell_lt d3)).trans d3
    refine ⟨trivial,fun K Q hK=>?_⟩
    go_simp
    exact hK.out
   ·refine Step.look rfl rfl ?_
    intro a w' hS H
    have x0:a.tmps[0]?.getD undef=.pointer (some ⟨b,0,none⟩):=H 0 rfl rfl (by decide)
    refine ⟨trivial,fun K Q hK=>?_⟩
    go_simp
    exact hK.out
   ·refine Step.look rfl rfl ?_
    intro a w' hS H
    have x17:a.tmps[17]?.getD undef=.pointer (some ⟨b,0,none⟩):=H 17 rfl rfl (by decide)
    refine ⟨trivial,fun K Q hK=>?_⟩
    go_simp
    exact hK.out
   ·refine Step.look rfl rfl ?_
    intro a w' hS H
    have x18:a.tmps[18]?.getD undef=.pointer (some ⟨b,0,none⟩):=H 18 rfl rfl (by decide)
    refine ⟨trivial,fun K Q hK=>?_⟩
    go_simp
    exact hK.out
   ·refine Step.look rfl rfl ?_
    intro a w' hS H
    have x19:a.tmps[19]?.getD undef=.pointer (some ⟨b,6,none⟩):=H 19 rfl rfl (by decide)
    have y:=(hS.cell (cell_lt d6)).trans d6
    refine ⟨trivial,fun K Q hK=>?_⟩
    go_simp
    exact hK.out
   ·refine Step.link hch 0 (by decide) rfl rfl ?_
    intro a w' x hS hx H K Q hK
    obtain ⟨-,-,hbb⟩:=hS
    have x16:a.tmps[16]?.getD undef=.string s.ind:=H 16 rfl rfl (by decide)
    have x20:a.tmps[20]?.getD undef=.int .i64 lv:=H 20 rfl rfl (by decide)
    go_simp
    go_at_call 52
    with_reducible refine (R w').mono ?_
    rintro e w3 ⟨rfl,b3⟩
    exact hK.out _ _ ⟨fun e=>absurd e (by decide),fun _=>rfl,Below.then hbb b3⟩
  ·intro g x w' hS
   have e21:g 21=.string rp:=hS.2.1 rfl
   have bb:Below w1.drew.heap.size w1.drew w':=hS.2.2
   have h2:=h1d.below bb
   have s2:B<=w'.heap.size:=Nat.le_trans s1 bb.size
   have C2:=C1 w' h2 s2
   simp only [e21,List.take_succ_cons,List.take_zero,List.drop_succ_cons,List.drop_zero,List.cons_append,List.nil_append,List.length_cons,List.length_nil,Nat.reduceAdd]
   clear hS C1 R d3 d6
   go_simp
   go_at_call 17
   with_reducible refine C2.mono ?_
   rintro e w3 ⟨rfl,h3,b3⟩
   obtain ⟨-,-,-,f5,-,fz⟩:=h3.cells
   have z5:=fz 5
   go_wp2_with fail
   go_end0
   refine ⟨rfl,?_,?_⟩
   ·have h4:=h3.store (s':={ s with bf:=⟨#[]⟩ }) 5 (.string ⟨#[]⟩) (fun p v=>rfl)
    rw [rep_flat] at h4
    exact h4
   ·exact (((((BX.of (drew_below w) hB).trans b1).trans (BX.of (drew_below w1) s1)).trans (BX.of bb s1)).trans b3).setCell 5 _ h.1
def lvI (lv:Int) (p:ByteArray):Int:=if p.data.toList=[123] then lv+1 else if p.data.toList=[125] then lv - 1 else lv
theorem tl_data (s:ByteArray):s.toList=s.data.toList:=ByteArray.toList_eq s
theorem ba_of {s:ByteArray}{l:List UInt8}(h:s.data.toList=l):s =⟨l.toArray⟩:=by
 apply ByteArray.ext;rw [<- h]
theorem str_is (p:ByteArray) (c:UInt8):(p.toList==[c])=decide (p.data.toList=[c]):=by
 rw [tl_data,Bool.eq_iff_iff];simp
theorem partLong (B b:Nat) (w:World) (bs:List UInt8) (s:PSt) (h:PW B b w bs s) (hB:B<=w.heap.size) (hnb:s.nb=.func (.func 14) #[] #[]) (hl:0<=s.lv/\s.lv<=1000000) (p:ByteArray) (hp:p.data.toList≠[]) (hbf:s.bf.size<=1099511627776) (hlen:bs.length+1+p.size<=10000000000000) :
  Calls Tryz.prog 33 #[.pointer (some ⟨b,0,none⟩),.string p] w fun e w'=>e=.returned (.tuple #[])/\PW B b w' (bs++((if s.bf.data.toList != []&&(fun _ _=>true) s.bf.data.toList p.data.toList then [32] else [])++p.data.toList)) { s with bf:=p,lv:=lvI s.lv p }/\BX B b w w':=by
 obtain ⟨c2,c3,c4,c5,c6,cz⟩:=h.cells
 rw [hnb] at c4
 have hWB:=fun (x:World) (g:PW B b x bs s) (hx:B<=x.heap.size)=>(show Calls Tryz.prog 53 #[.pointer (some ⟨b,0,none⟩),.int .u8 32] x fun e w'=>e=.returned .nilIface/\PW B b w' (bs++[32]) s/\BX B b x w' from writeByteW B b bs s 32 x g (by omega) hx)
 have hWS:=fun (l:List UInt8) (hl:l.length<=bs.length+1) (x:World) (g:PW B b x l s) (hx:B<=x.heap.size)=>writeStringW B b l s p x g (by omega) hx
 have W1:IntKind.i64.wrap (s.lv+1)=s.lv+1:=by rw [IntWalk.i64_left];exact IntWalk.wrap64_in _ (by omega)
 have W2:IntKind.i64.wrap (s.lv - 1)=s.lv - 1:=by rw [IntWalk.i64_left];exact IntWalk.wrap64_in _ (by omega)
 have q1:=str_is p 123
 have q2:=str_is p 125
 have NC:=fun x:Sub w=>nb_print s.bf p x.w
 obtain ⟨ST,hST⟩:∃ ST,({ s with bf:=p,lv:=lvI s.lv p }:PSt)=ST:=⟨_,rfl⟩
 have HS:Hid (ST={ s with bf:=p,lv:=lvI s.lv p }):=hST.symm
 obtain ⟨RB,hRB⟩:∃ RB,bs++((if s.bf.data.toList != []&&(fun _ _=>true) s.bf.data.toList p.data.toList then ([32]:List UInt8) else [])++p.data.toList)=RB:=⟨_,rfl⟩
 have HR:Hid (RB=bs++((if s.bf.data.toList != []&&(fun _ _=>true) s.bf.data.toList p.data.toList then ([32]:List UInt8) else [])++p.data.toList)):=hRB.symm
 rw [hST,hRB]
 clear c2 c3 hlen hST hRB
 by_cases he:s.bf.data.toList=[]
 ·have hb0:s.bf =⟨#[]⟩:=ba_of he
  rw [hb0] at c5
  have y5:=fun x:Sub w=>x.cell c5
  have HO:Hid ((if s.bf.data.toList != []&&(fun _ _=>true) s.bf.data.toList p.data.toList then ([32]:List UInt8) else [])=[]):=by unfold Hid;rw [he];rfl
  clear hbf NC
  have NC:True:=trivial
  go_enter Tryz.func33,Tryz.ntmps33
  go_wp2_with fail
  refine wp_region_sub (W:=w) (by kernel_rfl) (by kernel_rfl) (Below.refl _ _) ?_
  repeat (go_big_quiet_step (fail))
  refine wpQuiet_nil ?_
  intro x
  have bx:=x.below
  have hx:=h.below bx
  have sx:B<=x.w.heap.size:=Nat.le_trans hB bx.size
  have bw:BX B b w x.w:=BX.of bx hB
  generalize x.w=wx at *
  clear y5
  have fin:∀ (w3:World) (h3:PW B b w3 (bs++p.data.toList) s),(PW B b (w3.setCell ⟨b,5,none⟩ (.string p)) (bs++p.data.toList) { s with bf:=p })/\(∀ j,w3.frozen? ⟨b,j,none⟩=false)/\w3.cell? ⟨b,6,none⟩=some (.int .i64 s.lv)/\w3.cell? ⟨b,5,none⟩=some (.string s.bf):=fun w3 h3=>⟨h3.store 5 (.string p) (fun _ _=>rfl),h3.cells.2.2.2.2.2,h3.cells.2.2.2.2.1,h3.cells.2.2.2.1⟩
  by_cases k1:p.data.toList=[123]
  ·have hv:Hid (lvI s.lv p=s.lv+1):=by unfold Hid lvI;rw [if_pos k1]
   rw [decide_eq_true k1] at q1
   clear NC
   clear k1
   go_wp2_with (first |(go_at_call 17;((with_reducible refine (hWS bs (by omega) wx hx sx).mono ?_);rintro e w3 ⟨rfl,h3,b3⟩;(obtain ⟨h4,hz,d6,d5⟩:=fin w3 h3);(have z5:=hz 5);(have z6:=hz 6))))
   go_end0
   refine ⟨rfl,?_,?_⟩
   ·have h5:=h4.store (s':={ s with bf:=p,lv:=s.lv+1 }) 6 (.int .i64 (s.lv+1)) (fun _ _=>rfl)
    rw [HR.out,HO.out,HS.out,hv.out];simpa using h5
   ·exact (((bw).trans b3).setCell 5 _ h.1).setCell 6 _ h.1
  ·rw [decide_eq_false k1] at q1
   by_cases k2:p.data.toList=[125]
   ·have hv:Hid (lvI s.lv p=s.lv - 1):=by unfold Hid lvI;rw [if_neg k1,if_pos k2]
    rw [decide_eq_true k2] at q2
    clear NC
    clear k1
    clear k2
    go_wp2_with (first |(go_at_call 17;((with_reducible refine (hWS bs (by omega) wx hx sx).mono ?_);rintro e w3 ⟨rfl,h3,b3⟩;(obtain ⟨h4,hz,d6,d5⟩:=fin w3 h3);(have z5:=hz 5);(have z6:=hz 6))))
    go_end0
    refine ⟨rfl,?_,?_⟩
    ·have h5:=h4.store (s':={ s with bf:=p,lv:=s.lv - 1 }) 6 (.int .i64 (s.lv - 1)) (fun _ _=>rfl)
     rw [HR.out,HO.out,HS.out,hv.out];simpa using h5
    ·exact (((bw).trans b3).setCell 5 _ h.1).setCell 6 _ h.1
   ·have hv:Hid (lvI s.lv p=s.lv):=by unfold Hid lvI;rw [if_neg k1,if_neg k2]
    rw [decide_eq_false k2] at q2
    clear NC
    clear k1
    clear k2
    go_wp2_with (first |(go_at_call 17;((with_reducible refine (hWS bs (by omega) wx hx sx).mono ?_);rintro e w3 ⟨rfl,h3,b3⟩;(obtain ⟨h4,hz,d6,d5⟩:=fin w3 h3);(have z5:=hz 5);(have z6:=hz 6))))
    go_end0
    refine ⟨rfl,?_,?_⟩
    ·rw [HR.out,HO.out,HS.out,hv.out];simpa using h4
    ·exact ((bw).trans b3).setCell 5 _ h.1
 ·have NC:=fun x:Sub w=>NC x he hp hbf
  have n1:¬ s.bf.toList=[]:=by rw [tl_data];exact he
  have n2:s.bf.toList.isEmpty=false:=by cases e:s.bf.toList with | nil=>exact absurd e n1 | cons=>rfl
  have n3:(s.bf.data.toList != [])=true:=by cases e:s.bf.data.toList with | nil=>exact absurd e he | cons=>rfl
  have y5:=fun x:Sub w=>x.cell c5
  have y4:=fun x:Sub w=>x.cell c4
  have HO:Hid ((if s.bf.data.toList != []&&(fun _ _=>true) s.bf.data.toList p.data.toList then ([32]:List UInt8) else [])=[32]):=by unfold Hid;rw [n3];rfl
  go_enter Tryz.func33,Tryz.ntmps33
  go_wp2_with fail
  refine wp_region_sub (W:=w) (by kernel_rfl) (by kernel_rfl) (Below.refl _ _) ?_
  repeat (go_big_quiet_step ((go_at_call 14;with_reducible exact sub_call (NC _))))
  refine wpQuiet_nil ?_
  intro x
  have bx:=x.below
  have hx:=h.below bx
  have sx:B<=x.w.heap.size:=Nat.le_trans hB bx.size
  have bw:BX B b w x.w:=BX.of bx hB
  generalize x.w=wx at *
  clear y5 y4
  have fin:∀ (w3:World) (h3:PW B b w3 ((bs++[32])++p.data.toList) s),(PW B b (w3.setCell ⟨b,5,none⟩ (.string p)) ((bs++[32])++p.data.toList) { s with bf:=p })/\(∀ j,w3.frozen? ⟨b,j,none⟩=false)/\w3.cell? ⟨b,6,none⟩=some (.int .i64 s.lv)/\w3.cell? ⟨b,5,none⟩=some (.string s.bf):=fun w3 h3=>⟨h3.store 5 (.string p) (fun _ _=>rfl),h3.cells.2.2.2.2.2,h3.cells.2.2.2.2.1,h3.cells.2.2.2.1⟩
  by_cases k1:p.data.toList=[123]
  ·have hv:Hid (lvI s.lv p=s.lv+1):=by unfold Hid lvI;rw [if_pos k1]
   rw [decide_eq_true k1] at q1
   clear NC
   clear k1
   go_wp2_with (first |(go_at_call 53;((with_reducible refine (hWB wx hx sx).mono ?_);rintro e w1 ⟨rfl,h1,b1⟩;(have s1:B<=w1.heap.size:=Nat.le_trans sx b1.bel.size))) |(go_at_call 17;((with_reducible refine (hWS (bs++[32]) (by simp) w1 h1 s1).mono ?_);rintro e w3 ⟨rfl,h3,b3⟩;(obtain ⟨h4,hz,d6,d5⟩:=fin w3 h3);(have z5:=hz 5);(have z6:=hz 6))))
   go_end0
   refine ⟨rfl,?_,?_⟩
   ·have h5:=h4.store (s':={ s with bf:=p,lv:=s.lv+1 }) 6 (.int .i64 (s.lv+1)) (fun _ _=>rfl)
    rw [HR.out,HO.out,HS.out,hv.out];simpa using h5
   ·exact (((bw.trans b1).trans b3).setCell 5 _ h.1).setCell 6 _ h.1
  ·rw [decide_eq_false k1] at q1
   by_cases k2:p.data.toList=[125]
   ·have hv:Hid (lvI s.lv p=s.lv - 1):=by unfold Hid lvI;rw [if_neg k1,if_pos k2]
    rw [decide_eq_true k2] at q2
    clear NC
    clear k1
    clear k2
    go_wp2_with (first |(go_at_call 53;((with_reducible refine (hWB wx hx sx).mono ?_);rintro e w1 ⟨rfl,h1,b1⟩;(have s1:B<=w1.heap.size:=Nat.le_trans sx b1.bel.size))) |(go_at_call 17;((with_reducible refine (hWS (bs++[32]) (by simp) w1 h1 s1).mono ?_);rintro e w3 ⟨rfl,h3,b3⟩;(obtain ⟨h4,hz,d6,d5⟩:=fin w3 h3);(have z5:=hz 5);(have z6:=hz 6))))
    go_end0
    refine ⟨rfl,?_,?_⟩
    ·have h5:=h4.store (s':={ s with bf:=p,lv:=s.lv - 1 }) 6 (.int .i64 (s.lv - 1)) (fun _ _=>rfl)
     rw [HR.out,HO.out,HS.out,hv.out];simpa using h5
    ·exact (((bw.trans b1).trans b3).setCell 5 _ h.1).setCell 6 _ h.1
   ·have hv:Hid (lvI s.lv p=s.lv):=by unfold Hid lvI;rw [if_neg k1,if_neg k2]
    rw [decide_eq_false k2] at q2
    clear NC
    clear k1
    clear k2
    go_wp2_with (first |(go_at_call 53;((with_reducible refine (hWB wx hx sx).mono ?_);rintro e w1 ⟨rfl,h1,b1⟩;(have s1:B<=w1.heap.size:=Nat.le_trans sx b1.bel.size))) |(go_at_call 17;((with_reducible refine (hWS (bs++[32]) (by simp) w1 h1 s1).mono ?_);rintro e w3 ⟨rfl,h3,b3⟩;(obtain ⟨h4,hz,d6,d5⟩:=fin w3 h3);(have z5:=hz 5);(have z6:=hz 6))))
    go_end0
    refine ⟨rfl,?_,?_⟩
    ·rw [HR.out,HO.out,HS.out,hv.out];simpa using h4
    ·exact ((bw.trans b1).trans b3).setCell 5 _ h.1
theorem partShort (B b:Nat) (w:World) (bs:List UInt8) (s:PSt) (h:PW B b w bs s) (hB:B<=w.heap.size) (hnb:s.nb=.func (.func 19) #[] #[]) (hl:0<=s.lv/\s.lv<=1000000) (p:ByteArray) (hp:p.data.toList≠[]) (hbf:s.bf.size<=1099511627776) (hlen:bs.length+1+p.size<=10000000000000) :
  Calls Tryz.prog 33 #[.pointer (some ⟨b,0,none⟩),.string p] w fun e w'=>e=.returned (.tuple #[])/\PW B b w' (bs++((if s.bf.data.toList != []&&blankB s.bf.data.toList p.data.toList then [32] else [])++p.data.toList)) { s with bf:=p,lv:=lvI s.lv p }/\BX B b w w':=by
 obtain ⟨c2,c3,c4,c5,c6,cz⟩:=h.cells
 rw [hnb] at c4
 have hWB:=fun (x:World) (g:PW B b x bs s) (hx:B<=x.heap.size)=>(show Calls Tryz.prog 53 #[.pointer (some ⟨b,0,none⟩),.int .u8 32] x fun e w'=>e=.returned .nilIface/\PW B b w' (bs++[32]) s/\BX B b x w' from writeByteW B b bs s 32 x g (by omega) hx)
 have hWS:=fun (l:List UInt8) (hl:l.length<=bs.length+1) (x:World) (g:PW B b x l s) (hx:B<=x.heap.size)=>writeStringW B b l s p x g (by omega) hx
 have W1:IntKind.i64.wrap (s.lv+1)=s.lv+1:=by rw [IntWalk.i64_left];exact IntWalk.wrap64_in _ (by omega)
 have W2:IntKind.i64.wrap (s.lv - 1)=s.lv - 1:=by rw [IntWalk.i64_left];exact IntWalk.wrap64_in _ (by omega)
 have q1:=str_is p 123
 have q2:=str_is p 125
 have NC:=fun x:Sub w=>nb_compact s.bf p x.w
 obtain ⟨ST,hST⟩:∃ ST,({ s with bf:=p,lv:=lvI s.lv p }:PSt)=ST:=⟨_,rfl⟩
 have HS:Hid (ST={ s with bf:=p,lv:=lvI s.lv p }):=hST.symm
 obtain ⟨RB,hRB⟩:∃ RB,bs++((if s.bf.data.toList != []&&blankB s.bf.data.toList p.data.toList then ([32]:List UInt8) else [])++p.data.toList)=RB:=⟨_,rfl⟩
 have HR:Hid (RB=bs++((if s.bf.data.toList != []&&blankB s.bf.data.toList p.data.toList then ([32]:List UInt8) else [])++p.data.toList)):=hRB.symm
 rw [hST,hRB]
 clear c2 c3 hlen hST hRB
 by_cases he:s.bf.data.toList=[]
 ·have hb0:s.bf =⟨#[]⟩:=ba_of he
  rw [hb0] at c5
  have y5:=fun x:Sub w=>x.cell c5
  have HO:Hid ((if s.bf.data.toList != []&&blankB s.bf.data.toList p.data.toList then ([32]:List UInt8) else [])=[]):=by unfold Hid;rw [he];rfl
  clear hbf NC
  have NC:True:=trivial
  go_enter Tryz.func33,Tryz.ntmps33
  go_wp2_with fail
  refine wp_region_sub (W:=w) (by kernel_rfl) (by kernel_rfl) (Below.refl _ _) ?_
  repeat (go_big_quiet_step (fail))
  refine wpQuiet_nil ?_
  intro x
  have bx:=x.below
  have hx:=h.below bx
  have sx:B<=x.w.heap.size:=Nat.le_trans hB bx.size
  have bw:BX B b w x.w:=BX.of bx hB
  generalize x.w=wx at *
  clear y5
  have fin:∀ (w3:World) (h3:PW B b w3 (bs++p.data.toList) s),(PW B b (w3.setCell ⟨b,5,none⟩ (.string p)) (bs++p.data.toList) { s with bf:=p })/\(∀ j,w3.frozen? ⟨b,j,none⟩=false)/\w3.cell? ⟨b,6,none⟩=some (.int .i64 s.lv)/\w3.cell? ⟨b,5,none⟩=some (.string s.bf):=fun w3 h3=>⟨h3.store 5 (.string p) (fun _ _=>rfl),h3.cells.2.2.2.2.2,h3.cells.2.2.2.2.1,h3.cells.2.2.2.1⟩
  by_cases k1:p.data.toList=[123]
  ·have hv:Hid (lvI s.lv p=s.lv+1):=by unfold Hid lvI;rw [if_pos k1]
   rw [decide_eq_true k1] at q1
   clear NC
   clear k1
   go_wp2_with (first |(go_at_call 17;((with_reducible refine (hWS bs (by omega) wx hx sx).mono ?_);rintro e w3 ⟨rfl,h3,b3⟩;(obtain ⟨h4,hz,d6,d5⟩:=fin w3 h3);(have z5:=hz 5);(have z6:=hz 6))))
   go_end0
   refine ⟨rfl,?_,?_⟩
   ·have h5:=h4.store (s':={ s with bf:=p,lv:=s.lv+1 }) 6 (.int .i64 (s.lv+1)) (fun _ _=>rfl)
    rw [HR.out,HO.out,HS.out,hv.out];simpa using h5
   ·exact (((bw).trans b3).setCell 5 _ h.1).setCell 6 _ h.1
  ·rw [decide_eq_false k1] at q1
   by_cases k2:p.data.toList=[125]
   ·have hv:Hid (lvI s.lv p=s.lv - 1):=by unfold Hid lvI;rw [if_neg k1,if_pos k2]
    rw [decide_eq_true k2] at q2
    clear NC
    clear k1
    clear k2
    go_wp2_with (first |(go_at_call 17;((with_reducible refine (hWS bs (by omega) wx hx sx).mono ?_);rintro e w3 ⟨rfl,h3,b3⟩;(obtain ⟨h4,hz,d6,d5⟩:=fin w3 h3);(have z5:=hz 5);(have z6:=hz 6))))
    go_end0
    refine ⟨rfl,?_,?_⟩
    ·have h5:=h4.store (s':={ s with bf:=p,lv:=s.lv - 1 }) 6 (.int .i64 (s.lv - 1)) (fun _ _=>rfl)
     rw [HR.out,HO.out,HS.out,hv.out];simpa using h5
    ·exact (((bw).trans b3).setCell 5 _ h.1).setCell 6 _ h.1
   ·have hv:Hid (lvI s.lv p=s.lv):=by unfold Hid lvI;rw [if_neg k1,if_neg k2]
    rw [decide_eq_false k2] at q2
    clear NC
    clear k1
    clear k2
    go_wp2_with (first |(go_at_call 17;((with_reducible refine (hWS bs (by omega) wx hx sx).mono ?_);rintro e w3 ⟨rfl,h3,b3⟩;(obtain ⟨h4,hz,d6,d5⟩:=fin w3 h3);(have z5:=hz 5);(have z6:=hz 6))))
    go_end0
    refine ⟨rfl,?_,?_⟩
    ·rw [HR.out,HO.out,HS.out,hv.out];simpa using h4
    ·exact ((bw).trans b3).setCell 5 _ h.1
 ·have NC:=fun x:Sub w=>NC x he hp hbf
  have n1:¬ s.bf.toList=[]:=by rw [tl_data];exact he
  have n2:s.bf.toList.isEmpty=false:=by cases e:s.bf.toList with | nil=>exact absurd e n1 | cons=>rfl
  have n3:(s.bf.data.toList != [])=true:=by cases e:s.bf.data.toList with | nil=>exact absurd e he | cons=>rfl
  have y5:=fun x:Sub w=>x.cell c5
  have y4:=fun x:Sub w=>x.cell c4
  cases hn:blankB s.bf.data.toList p.data.toList with
  | true =>
   have HO:Hid ((if s.bf.data.toList != []&&blankB s.bf.data.toList p.data.toList then ([32]:List UInt8) else [])=[32]):=by unfold Hid;rw [n3,hn];rfl
   rw [hn] at NC
   go_enter Tryz.func33,Tryz.ntmps33
   go_wp2_with fail
   refine wp_region_sub (W:=w) (by kernel_rfl) (by kernel_rfl) (Below.refl _ _) ?_
   repeat (go_big_quiet_step ((go_at_call 19;with_reducible exact sub_call (NC _))))
   refine wpQuiet_nil ?_
   intro x
   have bx:=x.below
   have hx:=h.below bx
   have sx:B<=x.w.heap.size:=Nat.le_trans hB bx.size
   have bw:BX B b w x.w:=BX.of bx hB
   generalize x.w=wx at *
   clear y5 y4
   have fin:∀ (w3:World) (h3:PW B b w3 ((bs++[32])++p.data.toList) s),(PW B b (w3.setCell ⟨b,5,none⟩ (.string p)) ((bs++[32])++p.data.toList) { s with bf:=p })/\(∀ j,w3.frozen? ⟨b,j,none⟩=false)/\w3.cell? ⟨b,6,none⟩=some (.int .i64 s.lv)/\w3.cell? ⟨b,5,none⟩=some (.string s.bf):=fun w3 h3=>⟨h3.store 5 (.string p) (fun _ _=>rfl),h3.cells.2.2.2.2.2,h3.cells.2.2.2.2.1,h3.cells.2.2.2.1⟩
   by_cases k1:p.data.toList=[123]
   ·have hv:Hid (lvI s.lv p=s.lv+1):=by unfold Hid lvI;rw [if_pos k1]
    rw [decide_eq_true k1] at q1
    clear NC
    clear k1
    go_wp2_with (first |(go_at_call 53;((with_reducible refine (hWB wx hx sx).mono ?_);rintro e w1 ⟨rfl,h1,b1⟩;(have s1:B<=w1.heap.size:=Nat.le_trans sx b1.bel.size))) |(go_at_call 17;((with_reducible refine (hWS (bs++[32]) (by simp) w1 h1 s1).mono ?_);rintro e w3 ⟨rfl,h3,b3⟩;(obtain ⟨h4,hz,d6,d5⟩:=fin w3 h3);(have z5:=hz 5);(have z6:=hz 6))))
    go_end0
    refine ⟨rfl,?_,?_⟩
    ·have h5:=h4.store (s':={ s with bf:=p,lv:=s.lv+1 }) 6 (.int .i64 (s.lv+1)) (fun _ _=>rfl)
     rw [HR.out,HO.out,HS.out,hv.out];simpa using h5
    ·exact (((bw.trans b1).trans b3).setCell 5 _ h.1).setCell 6 _ h.1
   ·rw [decide_eq_false k1] at q1
    by_cases k2:p.data.toList=[125]
    ·have hv:Hid (lvI s.lv p=s.lv - 1):=by unfold Hid lvI;rw [if_neg k1,if_pos k2]
     rw [decide_eq_true k2] at q2
     clear NC
     clear k1
     clear k2
     go_wp2_with (first |(go_at_call 53;((with_reducible refine (hWB wx hx sx).mono ?_);rintro e w1 ⟨rfl,h1,b1⟩;(have s1:B<=w1.heap.size:=Nat.le_trans sx b1.bel.size))) |(go_at_call 17;((with_reducible refine (hWS (bs++[32]) (by simp) w1 h1 s1).mono ?_);rintro e w3 ⟨rfl,h3,b3⟩;(obtain ⟨h4,hz,d6,d5⟩:=fin w3 h3);(have z5:=hz 5);(have z6:=hz 6))))
     go_end0
     refine ⟨rfl,?_,?_⟩
     ·have h5:=h4.store (s':={ s with bf:=p,lv:=s.lv - 1 }) 6 (.int .i64 (s.lv - 1)) (fun _ _=>rfl)
      rw [HR.out,HO.out,HS.out,hv.out];simpa using h5
     ·exact (((bw.trans b1).trans b3).setCell 5 _ h.1).setCell 6 _ h.1
    ·have hv:Hid (lvI s.lv p=s.lv):=by unfold Hid lvI;rw [if_neg k1,if_neg k2]
     rw [decide_eq_false k2] at q2
     clear NC
     clear k1
     clear k2
     go_wp2_with (first |(go_at_call 53;((with_reducible refine (hWB wx hx sx).mono ?_);rintro e w1 ⟨rfl,h1,b1⟩;(have s1:B<=w1.heap.size:=Nat.le_trans sx b1.bel.size))) |(go_at_call 17;((with_reducible refine (hWS (bs++[32]) (by simp) w1 h1 s1).mono ?_);rintro e w3 ⟨rfl,h3,b3⟩;(obtain ⟨h4,hz,d6,d5⟩:=fin w3 h3);(have z5:=hz 5);(have z6:=hz 6))))
     go_end0
     refine ⟨rfl,?_,?_⟩
     ·rw [HR.out,HO.out,HS.out,hv.out];simpa using h4
     ·exact ((bw.trans b1).trans b3).setCell 5 _ h.1
  | false =>
   have HO:Hid ((if s.bf.data.toList != []&&blankB s.bf.data.toList p.data.toList then ([32]:List UInt8) else [])=[]):=by unfold Hid;rw [n3,hn];rfl
   rw [hn] at NC
   go_enter Tryz.func33,Tryz.ntmps33
   go_wp2_with fail
   refine wp_region_sub (W:=w) (by kernel_rfl) (by kernel_rfl) (Below.refl _ _) ?_
   repeat (go_big_quiet_step ((go_at_call 19;with_reducible exact sub_call (NC _))))
   refine wpQuiet_nil ?_
   intro x
   have bx:=x.below
   have hx:=h.below bx
   have sx:B<=x.w.heap.size:=Nat.le_trans hB bx.size
   have bw:BX B b w x.w:=BX.of bx hB
   generalize x.w=wx at *
   clear y5 y4
   have fin:∀ (w3:World) (h3:PW B b w3 (bs++p.data.toList) s),(PW B b (w3.setCell ⟨b,5,none⟩ (.string p)) (bs++p.data.toList) { s with bf:=p })/\(∀ j,w3.frozen? ⟨b,j,none⟩=false)/\w3.cell? ⟨b,6,none⟩=some (.int .i64 s.lv)/\w3.cell? ⟨b,5,none⟩=some (.string s.bf):=fun w3 h3=>⟨h3.store 5 (.string p) (fun _ _=>rfl),h3.cells.2.2.2.2.2,h3.cells.2.2.2.2.1,h3.cells.2.2.2.1⟩
   by_cases k1:p.data.toList=[123]
   ·have hv:Hid (lvI s.lv p=s.lv+1):=by unfold Hid lvI;rw [if_pos k1]
    rw [decide_eq_true k1] at q1
    clear NC
    clear k1
    go_wp2_with (first |(go_at_call 17;((with_reducible refine (hWS bs (by omega) wx hx sx).mono ?_);rintro e w3 ⟨rfl,h3,b3⟩;(obtain ⟨h4,hz,d6,d5⟩:=fin w3 h3);(have z5:=hz 5);(have z6:=hz 6))))
    go_end0
    refine ⟨rfl,?_,?_⟩
    ·have h5:=h4.store (s':={ s with bf:=p,lv:=s.lv+1 }) 6 (.int .i64 (s.lv+1)) (fun _ _=>rfl)
     rw [HR.out,HO.out,HS.out,hv.out];simpa using h5
    ·exact (((bw).trans b3).setCell 5 _ h.1).setCell 6 _ h.1
   ·rw [decide_eq_false k1] at q1
    by_cases k2:p.data.toList=[125]
    ·have hv:Hid (lvI s.lv p=s.lv - 1):=by unfold Hid lvI;rw [if_neg k1,if_pos k2]
     rw [decide_eq_true k2] at q2
     clear NC
     clear k1
     clear k2
     go_wp2_with (first |(go_at_call 17;((with_reducible refine (hWS bs (by omega) wx hx sx).mono ?_);rintro e w3 ⟨rfl,h3,b3⟩;(obtain ⟨h4,hz,d6,d5⟩:=fin w3 h3);(have z5:=hz 5);(have z6:=hz 6))))
     go_end0
     refine ⟨rfl,?_,?_⟩
     ·have h5:=h4.store (s':={ s with bf:=p,lv:=s.lv - 1 }) 6 (.int .i64 (s.lv - 1)) (fun _ _=>rfl)
      rw [HR.out,HO.out,HS.out,hv.out];simpa using h5
     ·exact (((bw).trans b3).setCell 5 _ h.1).setCell 6 _ h.1
    ·have hv:Hid (lvI s.lv p=s.lv):=by unfold Hid lvI;rw [if_neg k1,if_neg k2]
     rw [decide_eq_false k2] at q2
     clear NC
     clear k1
     clear k2
     go_wp2_with (first |(go_at_call 17;((with_reducible refine (hWS bs (by omega) wx hx sx).mono ?_);rintro e w3 ⟨rfl,h3,b3⟩;(obtain ⟨h4,hz,d6,d5⟩:=fin w3 h3);(have z5:=hz 5);(have z6:=hz 6))))
     go_end0
     refine ⟨rfl,?_,?_⟩
     ·rw [HR.out,HO.out,HS.out,hv.out];simpa using h4
     ·exact ((bw).trans b3).setCell 5 _ h.1
end Go.Proofs.YtalkinnbfglkdaaGreatDoor.Syn
