/-
  Layer 13: the reference's body. (Written by wip/gen/printer-r3.py.)
  Layer 13: the reference's parts, of all kinds. (Written by wip/gen/printer-r4.py.)
-/
import Derived.Test.YtmfhdcpajgjgpaaGreatDoorPd33
import Derived.Test.YtmfhdcpajgjgpaaGreatDoorPd7
import Derived.Test.YtmfhdcpajgjgpaaGreatDoorPd32
set_option maxHeartbeats 16000000
namespace Go.Proofs.YtmfhdcpajgjgpaaGreatDoor.Syn
open Go.RowKit Go.Shelf Go.Maps Go.Proofs.YtmfhdcpajgjgpaaGreatDoor.Shape
set_option linter.unusedVariables false
set_option linter.unusedSimpArgs false
set_option maxRecDepth 100000
theorem okL_take {l:List St}(h:okL l=true) (j:Nat):okL (l.take j)=true:=okL_allP.2 fun i hi=>by
 have hi2:i<l.length:=by have:=hi;simp at this;omega
 have e:(l.take j)[i]=l[i]:=by simp
 rw [e];exact okL_allP.1 h i hi2
def stmtP (lv:Nat) (S:St):List ByteArray:=(if S.k=2 then [S.n,⟨#[60,45]⟩] else if S.k=3 then pbr lv (shN litW S.te)++[⟨#[58]⟩] else [])++pbr lv (shN litW S.nd)
theorem yf {p:ByteArray}(h:qg p=true) (lv:Nat):pbr lv [p]=[p]:=by
 have h2:=h
 unfold qg at h2
 simp only [Bool.and_eq_true,bne_iff_ne] at h2
 rw [pbr,if_neg h2.1.2,pbr]
theorem name_okS {S:St}(h:okS S=true) (k:S.k=2):zu S.n=true:=by
 rw [vN,if_neg (by omega),if_pos k] at h
 simp only [Bool.and_eq_true] at h
 exact h.2.1.1.1
theorem pbr_stmt {S:St}(h:okS S=true) (lv:Nat):pbr lv (shS litW S)=stmtP lv S:=by
 rw [xu]
 unfold stmtP
 by_cases k2:S.k=2
 ·rw [if_pos k2,if_pos k2]
  have b:=kq (name_okS h k2)
  have e:[S.n,(⟨#[60,45]⟩:ByteArray)]++shN litW S.nd=[S.n]++([⟨#[60,45]⟩]++shN litW S.nd):=rfl
  rw [e,qX (qf b),qX (qf (by decide)),yf b,yf (by decide)]
  rfl
 ·rw [if_neg k2,if_neg k2]
  by_cases k3:S.k=3
  ·rw [if_pos k3,if_pos k3]
   have t:=good_bal.node ((qE h).2.1 k3)
   rw [qX (vU t (qf (by decide))),qX t,yf (by decide)]
  ·rw [if_neg k3,if_neg k3];rfl
theorem pbr_step {l:List St}(h:okL l=true) (lv:Nat) {j:Nat}(hj:j<l.length):pbr lv (shB litW (l.take (j+1)))=pbr lv (shB litW (l.take j))++((if 0<j then [gapB lv] else [])++stmtP lv l[j]):=by
 rw [shB_step litW hj,qX (good_bal.stmts (okL_take h j)),<- pbr_stmt (okL_allP.1 h j hj)]
 unfold sepW
 split
 ·rw [List.singleton_append,pbr]
  rfl
 ·rfl
theorem bodyG (r:Nat) (ih:xD r) (ba:Option Addr) (bc bb bo:Nat) (l:List St) (w:World) (lv:Nat) (hr:∀ i (h:i<l.length),rkN l[i].te<r/\rkN l[i].nd<r) (ok:okL l=true) (hlv:lv+depB l<=100000) (hz:sizB l<=200000)
  (hl:l.length<=9223372036854775807) (ha:l≠[]->ba=some ⟨bb,bo,none⟩) (hat:StsAt w bb bo l) :
  Calls Tryz.prog 19 #[.slice ba l.length bc,.int .i64 lv] w (qn w.heap.size w (pbr lv (shB litW l))):=by
 have HS:=fun j (hj:j<l.length)=>pbr_step ok lv hj
 have ols:=okL_allP.1 ok
 have LB:∀ j,j<=l.length->(shB litW (l.take j)).length<=8*sizB (l.take j):=fun j hj=>wb litW _ (fun i hi=>by
  have hi2:i<l.length:=by have:=hi;simp at this;omega
  have e:(l.take j)[i]=l[i]:=by simp
  rw [e]
  exact yG litW (ols i hi2) (qC litW _ _ (Nat.lt_succ_self _) (qE (ols i hi2)).1) (fun k=>qC litW _ _ (Nat.lt_succ_self _) ((qE (ols i hi2)).2.1 k)))
 clear ok
 have HLV:lv<=1000000:=by omega
 go_enter Tryz.func19,Tryz.ntmps19
 go_wp2_with fail
 go_loopw [5,6] (fun v i wr=>∃ j:Nat,j<=l.length/\i=.int .i64 j/\OwnS w.heap.size wr v (pbr lv (shB litW (l.take j)))/\Below w.heap.size w wr) (fun _ i _=>l.length - (intOf i).toNat)
 case atStart=>exact ⟨0,Nat.zero_le _,rfl,OwnS.none _ _,Below.refl _ _⟩
 case round =>
  obtain ⟨j,hj,rfl,o0,hbr⟩:=hrel
  obtain ⟨a0,k0,rfl⟩:=o0.form
  by_cases hlt:j<l.length
  ·have hi1:=zg (ic:=bc) rfl ha hlt
   have hS:=hat.at hlt
   obtain ⟨m0',-,m2',-⟩:=hS.head
   obtain ⟨ds,hd0,hM⟩:=hS.node
   have l2:=hM.len
   have hok:=ols j hlt
   have okn:=qE hok
   have hst:=HS j hlt
   have T1:=LB j hj
   rw [<- qi _ lv] at T1
   have T2:=sizB_takeS hlt
   have T6:=vK l[j]
   have T7:=kv hlt
   have hk:=okS_k hok
   have gap:=fun w'=>gapR lv w' HLV
   have AN:=fun w' v L (g:Below w.heap.size w w') (ho:OwnS w.heap.size w' v L) (hL:L.length+8*siz l[j].nd+2<=4000000)=>addR r ih w w.heap.size (Nat.le_refl _) ds l[j].nd hM (hr j hlt).2 okn.1 [] none 0 0 lv (by have:=T7.2.1;omega) (by have:=T7.1;omega) w' v L g g.size ho (kt _) rfl hL
   have AT:=fun (k:l[j].k=3) (es:List Value) (he:NdV w es l[j].te) w' v L (g:Below w.heap.size w w') (ho:OwnS w.heap.size w' v L) (hL:L.length+8*siz l[j].te+2<=4000000)=>addR r ih w w.heap.size (Nat.le_refl _) es l[j].te he (hr j hlt).1 (okn.2.1 k) [] none 0 0 lv (by have:=(T7.2.2 k).2;omega) (by have:=(T7.2.2 k).1;omega) w' v L g g.size ho (kt _) rfl hL
   have LT:=fun (k:l[j].k=3)=>qC litW _ l[j].te (Nat.lt_succ_self _) (okn.2.1 k)
   have ep0:∀ N:Nd,par [] (N.k,shN litW N)=shN litW N:=fun N=>by unfold par hasB;rfl
   simp only [ep0] at AN AT
   have hte:=hS.test
   have m0:=(hbr.cell (zD m0')).trans m0'
   have hd:=hd0.below hbr
   obtain ⟨A,hA⟩:∃ A,pbr lv (shB litW (l.take j))=A:=⟨_,rfl⟩
   rw [hA] at hst o0 T1
   try rw [hA]
   unfold stmtP at hst
   obtain ⟨Q,hQ⟩:∃ Q,pbr lv (shN litW l[j].nd)=Q:=⟨_,rfl⟩
   rw [hQ] at hst
   simp only [hQ] at AN
   have s0:=hbr.size
   clear hA hQ HS LB ih hr hat ols hok okn hM hS
   rcases hk with k | k | k
   ·have e2:(l[j].k==2)=false:=by rw [k];rfl
    have e3:(l[j].k==3)=false:=by rw [k];rfl
    by_cases h0:0<j
    ·have hj0:(0:Int) <(j:Int):=by omega
     have HU:Hid (pbr lv (shB litW (l.take (j+1)))=A++[gapB lv]++Q):=by unfold Hid;rw [hst,if_pos h0,if_neg (by omega),if_neg (by omega)];simp
     have ln1:(A).length+[(gapB lv:ByteArray)].length<=4000000:=by simp;omega
     have ln2:(A++[gapB lv]).length+8*siz l[j].nd+2<=4000000:=by simp;omega
     clear hst T1 T2 T6 T7
     go_wp2_with (first |(go_at_call 35;((with_reducible refine (gap _).mono ?_);rintro e w9 ⟨rfl,rfl⟩)) |((with_reducible show wpList _ _ _ ({ dst:=_,op:=Op.call { callee:=Callee.builtin Builtin.append,args:=_,argTypes:=_ },type:=_,pos:=_,after:=_,guard:=none }::_) _ _);refine zW rfl _ _ rfl w.heap.size (.slice a0 A.length k0) rfl (A) (o0.below (below_new wr _)) (by have:=s0;simp;omega) wr.heap.size 1 [gapB lv] 1 rfl rfl (Words.new wr [gapB lv] 9) ln1 ?_;intro v1 w1 o1 g1 b1;(have s1:w.heap.size<=w1.heap.size:=by have:=b1.size;have:=s0;simp at *;omega);(have B1:Below w.heap.size w w1:=(hbr.trans ((below_new wr _).mono (by have:=s0;omega))).trans b1);(have hd:=hd0.below B1);(have m0:=(B1.cell (zD m0')).trans m0');(have m2:=(B1.cell (zD m2')).trans m2');(obtain ⟨A1,hA1⟩:∃ A1,A++[gapB lv]=A1:=⟨_,rfl⟩);(have HA1:Hid (A++[gapB lv]=A1):=hA1);(rw [hA1] at o1);(try simp only [hA1] at ln2);(try simp only [hA1] at ln3);(try simp only [hA1] at ln4);(try simp only [hA1] at ln5);(try simp only [hA1] at ln6);(try simp only [hA1] at ln7);clear hA1;(obtain ⟨p1,q1,rfl⟩:=o1.form)) |(go_at_call 36;((with_reducible refine (AN w1 _ _ B1 o1 ln2).mono ?_);rintro e w2 ⟨v2,rfl,o2,b2⟩;(have s2:w.heap.size<=w2.heap.size:=Nat.le_trans s1 b2.size);(have B2:Below w.heap.size w w2:=B1.trans b2);(have hd:=hd0.below B2);(have m0:=(B2.cell (zD m0')).trans m0');(obtain ⟨A2,hA2⟩:∃ A2,A1++Q=A2:=⟨_,rfl⟩);(have HA2:Hid (A1++Q=A2):=hA2);(rw [hA2] at o2);(try simp only [hA2] at ln3);(try simp only [hA2] at ln4);(try simp only [hA2] at ln5);(try simp only [hA2] at ln6);(try simp only [hA2] at ln7);clear hA2;(obtain ⟨p2,q2,rfl⟩:=o2.form))) |((with_reducible show wpList _ _ _ (⟨_,Op.load 40 _,_,_,_,none⟩::_) _ _);refine zB rfl rfl rfl hd l2 ?_))
     go_roundw
     case rel=>exact ⟨j+1,by omega,by go_num,by rw [HU.out,HA1.out,HA2.out];exact o2,B2⟩
     case measure=>simp [intOf];omega
    ·have hj0:¬ (0:Int) <(j:Int):=by omega
     have HU:Hid (pbr lv (shB litW (l.take (j+1)))=A++Q):=by unfold Hid;rw [hst,if_neg h0,if_neg (by omega),if_neg (by omega)];simp
     have ln1:(A).length+8*siz l[j].nd+2<=4000000:=by simp;omega
     clear hst T1 T2 T6 T7
     go_wp2_with (first |(go_at_call 36;((with_reducible refine (AN wr _ _ hbr o0 ln1).mono ?_);rintro e w1 ⟨v1,rfl,o1,b1⟩;(have s1:w.heap.size<=w1.heap.size:=Nat.le_trans s0 b1.size);(have B1:Below w.heap.size w w1:=hbr.trans b1);(have hd:=hd0.below B1);(have m0:=(B1.cell (zD m0')).trans m0');(obtain ⟨A1,hA1⟩:∃ A1,A++Q=A1:=⟨_,rfl⟩);(have HA1:Hid (A++Q=A1):=hA1);(rw [hA1] at o1);(try simp only [hA1] at ln2);(try simp only [hA1] at ln3);(try simp only [hA1] at ln4);(try simp only [hA1] at ln5);(try simp only [hA1] at ln6);(try simp only [hA1] at ln7);clear hA1;(obtain ⟨p1,q1,rfl⟩:=o1.form))) |((with_reducible show wpList _ _ _ (⟨_,Op.load 40 _,_,_,_,none⟩::_) _ _);refine zB rfl rfl rfl hd l2 ?_))
     go_roundw
     case rel=>exact ⟨j+1,by omega,by go_num,by rw [HU.out,HA1.out];exact o1,B1⟩
     case measure=>simp [intOf];omega
   ·have e2:(l[j].k==2)=true:=by rw [k];rfl
    have e3:(l[j].k==3)=false:=by rw [k];rfl
    have m2:=(hbr.cell (zD m2')).trans m2'
    by_cases h0:0<j
    ·have hj0:(0:Int) <(j:Int):=by omega
     have HU:Hid (pbr lv (shB litW (l.take (j+1)))=A++[gapB lv]++[l[j].n]++[(⟨#[60,45]⟩:ByteArray)]++Q):=by unfold Hid;rw [hst,if_pos h0,if_pos k];simp
     have ln1:(A).length+[(gapB lv:ByteArray)].length<=4000000:=by simp;omega
     have ln2:(A++[gapB lv]).length+[(l[j].n:ByteArray)].length<=4000000:=by simp;omega
     have ln3:(A++[gapB lv]++[l[j].n]).length+[((⟨#[60,45]⟩:ByteArray):ByteArray)].length<=4000000:=by simp;omega
     have ln4:(A++[gapB lv]++[l[j].n]++[(⟨#[60,45]⟩:ByteArray)]).length+8*siz l[j].nd+2<=4000000:=by simp;omega
     clear hst T1 T2 T6 T7
     go_wp2_with (first |(go_at_call 35;((with_reducible refine (gap _).mono ?_);rintro e w9 ⟨rfl,rfl⟩)) |((with_reducible show wpList _ _ _ ({ dst:=_,op:=Op.call { callee:=Callee.builtin Builtin.append,args:=_,argTypes:=_ },type:=_,pos:=_,after:=_,guard:=none }::_) _ _);refine zW rfl _ _ rfl w.heap.size (.slice a0 A.length k0) rfl (A) (o0.below (below_new wr _)) (by have:=s0;simp;omega) wr.heap.size 1 [gapB lv] 1 rfl rfl (Words.new wr [gapB lv] 9) ln1 ?_;intro v1 w1 o1 g1 b1;(have s1:w.heap.size<=w1.heap.size:=by have:=b1.size;have:=s0;simp at *;omega);(have B1:Below w.heap.size w w1:=(hbr.trans ((below_new wr _).mono (by have:=s0;omega))).trans b1);(have hd:=hd0.below B1);(have m0:=(B1.cell (zD m0')).trans m0');(have m2:=(B1.cell (zD m2')).trans m2');(obtain ⟨A1,hA1⟩:∃ A1,A++[gapB lv]=A1:=⟨_,rfl⟩);(have HA1:Hid (A++[gapB lv]=A1):=hA1);(rw [hA1] at o1);(try simp only [hA1] at ln2);(try simp only [hA1] at ln3);(try simp only [hA1] at ln4);(try simp only [hA1] at ln5);(try simp only [hA1] at ln6);(try simp only [hA1] at ln7);clear hA1;(obtain ⟨p1,q1,rfl⟩:=o1.form)) |((with_reducible show wpList _ _ _ ({ dst:=_,op:=Op.call { callee:=Callee.builtin Builtin.append,args:=_,argTypes:=_ },type:=_,pos:=_,after:=_,guard:=none }::_) _ _);refine zW rfl _ _ rfl w.heap.size (.slice p1 A1.length q1) rfl (A1) (o1.below (below_new w1 _)) (by have:=s1;simp;omega) w1.heap.size 1 [l[j].n] 1 rfl rfl (Words.new w1 [l[j].n] 9) ln2 ?_;intro v2 w2 o2 g2 b2;(have s2:w.heap.size<=w2.heap.size:=by have:=b2.size;have:=s1;simp at *;omega);(have B2:Below w.heap.size w w2:=(B1.trans ((below_new w1 _).mono (by have:=s1;omega))).trans b2);(have hd:=hd0.below B2);(have m0:=(B2.cell (zD m0')).trans m0');(have m2:=(B2.cell (zD m2')).trans m2');(obtain ⟨A2,hA2⟩:∃ A2,A1++[l[j].n]=A2:=⟨_,rfl⟩);(have HA2:Hid (A1++[l[j].n]=A2):=hA2);(rw [hA2] at o2);(try simp only [hA2] at ln3);(try simp only [hA2] at ln4);(try simp only [hA2] at ln5);(try simp only [hA2] at ln6);(try simp only [hA2] at ln7);clear hA2;(obtain ⟨p2,q2,rfl⟩:=o2.form)) |((with_reducible show wpList _ _ _ ({ dst:=_,op:=Op.call { callee:=Callee.builtin Builtin.append,args:=_,argTypes:=_ },type:=_,pos:=_,after:=_,guard:=none }::_) _ _);refine zW rfl _ _ rfl w.heap.size (.slice p2 A2.length q2) rfl (A2) (o2.below (below_new w2 _)) (by have:=s2;simp;omega) w2.heap.size 1 [(⟨#[60,45]⟩:ByteArray)] 1 rfl rfl (Words.new w2 [(⟨#[60,45]⟩:ByteArray)] 9) ln3 ?_;intro v3 w3 o3 g3 b3;(have s3:w.heap.size<=w3.heap.size:=by have:=b3.size;have:=s2;simp at *;omega);(have B3:Below w.heap.size w w3:=(B2.trans ((below_new w2 _).mono (by have:=s2;omega))).trans b3);(have hd:=hd0.below B3);(have m0:=(B3.cell (zD m0')).trans m0');(have m2:=(B3.cell (zD m2')).trans m2');(obtain ⟨A3,hA3⟩:∃ A3,A2++[(⟨#[60,45]⟩:ByteArray)]=A3:=⟨_,rfl⟩);(have HA3:Hid (A2++[(⟨#[60,45]⟩:ByteArray)]=A3):=hA3);(rw [hA3] at o3);(try simp only [hA3] at ln4);(try simp only [hA3] at ln5);(try simp only [hA3] at ln6);(try simp only [hA3] at ln7);clear hA3;(obtain ⟨p3,q3,rfl⟩:=o3.form)) |(go_at_call 36;((with_reducible refine (AN w3 _ _ B3 o3 ln4).mono ?_);rintro e w4 ⟨v4,rfl,o4,b4⟩;(have s4:w.heap.size<=w4.heap.size:=Nat.le_trans s3 b4.size);(have B4:Below w.heap.size w w4:=B3.trans b4);(have hd:=hd0.below B4);(have m0:=(B4.cell (zD m0')).trans m0');(obtain ⟨A4,hA4⟩:∃ A4,A3++Q=A4:=⟨_,rfl⟩);(have HA4:Hid (A3++Q=A4):=hA4);(rw [hA4] at o4);(try simp only [hA4] at ln5);(try simp only [hA4] at ln6);(try simp only [hA4] at ln7);clear hA4;(obtain ⟨p4,q4,rfl⟩:=o4.form))) |((with_reducible show wpList _ _ _ (⟨_,Op.load 40 _,_,_,_,none⟩::_) _ _);refine zB rfl rfl rfl hd l2 ?_))
     go_roundw
     case rel=>exact ⟨j+1,by omega,by go_num,by rw [HU.out,HA1.out,HA2.out,HA3.out,HA4.out];exact o4,B4⟩
     case measure=>simp [intOf];omega
    ·have hj0:¬ (0:Int) <(j:Int):=by omega
     have HU:Hid (pbr lv (shB litW (l.take (j+1)))=A++[l[j].n]++[(⟨#[60,45]⟩:ByteArray)]++Q):=by unfold Hid;rw [hst,if_neg h0,if_pos k];simp
     have ln1:(A).length+[(l[j].n:ByteArray)].length<=4000000:=by simp;omega
     have ln2:(A++[l[j].n]).length+[((⟨#[60,45]⟩:ByteArray):ByteArray)].length<=4000000:=by simp;omega
     have ln3:(A++[l[j].n]++[(⟨#[60,45]⟩:ByteArray)]).length+8*siz l[j].nd+2<=4000000:=by simp;omega
     clear hst T1 T2 T6 T7
     go_wp2_with (first |((with_reducible show wpList _ _ _ ({ dst:=_,op:=Op.call { callee:=Callee.builtin Builtin.append,args:=_,argTypes:=_ },type:=_,pos:=_,after:=_,guard:=none }::_) _ _);refine zW rfl _ _ rfl w.heap.size (.slice a0 A.length k0) rfl (A) (o0.below (below_new wr _)) (by have:=s0;simp;omega) wr.heap.size 1 [l[j].n] 1 rfl rfl (Words.new wr [l[j].n] 9) ln1 ?_;intro v1 w1 o1 g1 b1;(have s1:w.heap.size<=w1.heap.size:=by have:=b1.size;have:=s0;simp at *;omega);(have B1:Below w.heap.size w w1:=(hbr.trans ((below_new wr _).mono (by have:=s0;omega))).trans b1);(have hd:=hd0.below B1);(have m0:=(B1.cell (zD m0')).trans m0');(have m2:=(B1.cell (zD m2')).trans m2');(obtain ⟨A1,hA1⟩:∃ A1,A++[l[j].n]=A1:=⟨_,rfl⟩);(have HA1:Hid (A++[l[j].n]=A1):=hA1);(rw [hA1] at o1);(try simp only [hA1] at ln2);(try simp only [hA1] at ln3);(try simp only [hA1] at ln4);(try simp only [hA1] at ln5);(try simp only [hA1] at ln6);(try simp only [hA1] at ln7);clear hA1;(obtain ⟨p1,q1,rfl⟩:=o1.form)) |((with_reducible show wpList _ _ _ ({ dst:=_,op:=Op.call { callee:=Callee.builtin Builtin.append,args:=_,argTypes:=_ },type:=_,pos:=_,after:=_,guard:=none }::_) _ _);refine zW rfl _ _ rfl w.heap.size (.slice p1 A1.length q1) rfl (A1) (o1.below (below_new w1 _)) (by have:=s1;simp;omega) w1.heap.size 1 [(⟨#[60,45]⟩:ByteArray)] 1 rfl rfl (Words.new w1 [(⟨#[60,45]⟩:ByteArray)] 9) ln2 ?_;intro v2 w2 o2 g2 b2;(have s2:w.heap.size<=w2.heap.size:=by have:=b2.size;have:=s1;simp at *;omega);(have B2:Below w.heap.size w w2:=(B1.trans ((below_new w1 _).mono (by have:=s1;omega))).trans b2);(have hd:=hd0.below B2);(have m0:=(B2.cell (zD m0')).trans m0');(have m2:=(B2.cell (zD m2')).trans m2');(obtain ⟨A2,hA2⟩:∃ A2,A1++[(⟨#[60,45]⟩:ByteArray)]=A2:=⟨_,rfl⟩);(have HA2:Hid (A1++[(⟨#[60,45]⟩:ByteArray)]=A2):=hA2);(rw [hA2] at o2);(try simp only [hA2] at ln3);(try simp only [hA2] at ln4);(try simp only [hA2] at ln5);(try simp only [hA2] at ln6);(try simp only [hA2] at ln7);clear hA2;(obtain ⟨p2,q2,rfl⟩:=o2.form)) |(go_at_call 36;((with_reducible refine (AN w2 _ _ B2 o2 ln3).mono ?_);rintro e w3 ⟨v3,rfl,o3,b3⟩;(have s3:w.heap.size<=w3.heap.size:=Nat.le_trans s2 b3.size);(have B3:Below w.heap.size w w3:=B2.trans b3);(have hd:=hd0.below B3);(have m0:=(B3.cell (zD m0')).trans m0');(obtain ⟨A3,hA3⟩:∃ A3,A2++Q=A3:=⟨_,rfl⟩);(have HA3:Hid (A2++Q=A3):=hA3);(rw [hA3] at o3);(try simp only [hA3] at ln4);(try simp only [hA3] at ln5);(try simp only [hA3] at ln6);(try simp only [hA3] at ln7);clear hA3;(obtain ⟨p3,q3,rfl⟩:=o3.form))) |((with_reducible show wpList _ _ _ (⟨_,Op.load 40 _,_,_,_,none⟩::_) _ _);refine zB rfl rfl rfl hd l2 ?_))
     go_roundw
     case rel=>exact ⟨j+1,by omega,by go_num,by rw [HU.out,HA1.out,HA2.out,HA3.out];exact o3,B3⟩
     case measure=>simp [intOf];omega
   ·have e2:(l[j].k==2)=false:=by rw [k];rfl
    have e3:(l[j].k==3)=true:=by rw [k];rfl
    obtain ⟨es,he0,hN⟩:=hte
    have l3:=hN.len
    have LT:=LT k
    rw [<- qi _ lv] at LT
    have AT:=AT k
    obtain ⟨R,hR⟩:∃ R,pbr lv (shN litW l[j].te)=R:=⟨_,rfl⟩
    rw [hR] at hst LT
    simp only [hR] at AT
    rw [e3,if_pos rfl] at T6
    by_cases h0:0<j
    ·have hj0:(0:Int) <(j:Int):=by omega
     have HU:Hid (pbr lv (shB litW (l.take (j+1)))=A++[gapB lv]++R++[(⟨#[58]⟩:ByteArray)]++Q):=by unfold Hid;rw [hst,if_pos h0,if_neg (by omega),if_pos k];simp
     have ln1:(A).length+[(gapB lv:ByteArray)].length<=4000000:=by simp;omega
     have ln2:(A++[gapB lv]).length+8*siz l[j].te+2<=4000000:=by simp;omega
     have ln3:(A++[gapB lv]++R).length+[((⟨#[58]⟩:ByteArray):ByteArray)].length<=4000000:=by simp;omega
     have ln4:(A++[gapB lv]++R++[(⟨#[58]⟩:ByteArray)]).length+8*siz l[j].nd+2<=4000000:=by simp;omega
     clear hst T1 T2 T6 T7
     go_wp2_with (first |(go_at_call 35;((with_reducible refine (gap _).mono ?_);rintro e w9 ⟨rfl,rfl⟩)) |((with_reducible show wpList _ _ _ ({ dst:=_,op:=Op.call { callee:=Callee.builtin Builtin.append,args:=_,argTypes:=_ },type:=_,pos:=_,after:=_,guard:=none }::_) _ _);refine zW rfl _ _ rfl w.heap.size (.slice a0 A.length k0) rfl (A) (o0.below (below_new wr _)) (by have:=s0;simp;omega) wr.heap.size 1 [gapB lv] 1 rfl rfl (Words.new wr [gapB lv] 9) ln1 ?_;intro v1 w1 o1 g1 b1;(have s1:w.heap.size<=w1.heap.size:=by have:=b1.size;have:=s0;simp at *;omega);(have B1:Below w.heap.size w w1:=(hbr.trans ((below_new wr _).mono (by have:=s0;omega))).trans b1);(have hd:=hd0.below B1);(have m0:=(B1.cell (zD m0')).trans m0');(have m2:=(B1.cell (zD m2')).trans m2');(obtain ⟨A1,hA1⟩:∃ A1,A++[gapB lv]=A1:=⟨_,rfl⟩);(have HA1:Hid (A++[gapB lv]=A1):=hA1);(rw [hA1] at o1);(try simp only [hA1] at ln2);(try simp only [hA1] at ln3);(try simp only [hA1] at ln4);(try simp only [hA1] at ln5);(try simp only [hA1] at ln6);(try simp only [hA1] at ln7);clear hA1;(obtain ⟨p1,q1,rfl⟩:=o1.form)) |(go_at_call 36;((with_reducible refine (AT es hN w1 _ _ B1 o1 ln2).mono ?_);rintro e w2 ⟨v2,rfl,o2,b2⟩;(have s2:w.heap.size<=w2.heap.size:=Nat.le_trans s1 b2.size);(have B2:Below w.heap.size w w2:=B1.trans b2);(have hd:=hd0.below B2);(have m0:=(B2.cell (zD m0')).trans m0');(obtain ⟨A2,hA2⟩:∃ A2,A1++R=A2:=⟨_,rfl⟩);(have HA2:Hid (A1++R=A2):=hA2);(rw [hA2] at o2);(try simp only [hA2] at ln3);(try simp only [hA2] at ln4);(try simp only [hA2] at ln5);(try simp only [hA2] at ln6);(try simp only [hA2] at ln7);clear hA2;(obtain ⟨p2,q2,rfl⟩:=o2.form))) |((with_reducible show wpList _ _ _ ({ dst:=_,op:=Op.call { callee:=Callee.builtin Builtin.append,args:=_,argTypes:=_ },type:=_,pos:=_,after:=_,guard:=none }::_) _ _);refine zW rfl _ _ rfl w.heap.size (.slice p2 A2.length q2) rfl (A2) (o2.below (below_new w2 _)) (by have:=s2;simp;omega) w2.heap.size 1 [(⟨#[58]⟩:ByteArray)] 1 rfl rfl (Words.new w2 [(⟨#[58]⟩:ByteArray)] 9) ln3 ?_;intro v3 w3 o3 g3 b3;(have s3:w.heap.size<=w3.heap.size:=by have:=b3.size;have:=s2;simp at *;omega);(have B3:Below w.heap.size w w3:=(B2.trans ((below_new w2 _).mono (by have:=s2;omega))).trans b3);(have hd:=hd0.below B3);(have m0:=(B3.cell (zD m0')).trans m0');(have m2:=(B3.cell (zD m2')).trans m2');(obtain ⟨A3,hA3⟩:∃ A3,A2++[(⟨#[58]⟩:ByteArray)]=A3:=⟨_,rfl⟩);(have HA3:Hid (A2++[(⟨#[58]⟩:ByteArray)]=A3):=hA3);(rw [hA3] at o3);(try simp only [hA3] at ln4);(try simp only [hA3] at ln5);(try simp only [hA3] at ln6);(try simp only [hA3] at ln7);clear hA3;(obtain ⟨p3,q3,rfl⟩:=o3.form)) |(go_at_call 36;((with_reducible refine (AN w3 _ _ B3 o3 ln4).mono ?_);rintro e w4 ⟨v4,rfl,o4,b4⟩;(have s4:w.heap.size<=w4.heap.size:=Nat.le_trans s3 b4.size);(have B4:Below w.heap.size w w4:=B3.trans b4);(have hd:=hd0.below B4);(have m0:=(B4.cell (zD m0')).trans m0');(obtain ⟨A4,hA4⟩:∃ A4,A3++Q=A4:=⟨_,rfl⟩);(have HA4:Hid (A3++Q=A4):=hA4);(rw [hA4] at o4);(try simp only [hA4] at ln5);(try simp only [hA4] at ln6);(try simp only [hA4] at ln7);clear hA4;(obtain ⟨p4,q4,rfl⟩:=o4.form))) |((with_reducible show wpList _ _ _ (⟨_,Op.load 40 _,_,_,_,none⟩::_) _ _);first | refine zB rfl rfl rfl hd l2 ?_ | refine zB rfl rfl rfl (he0.below B1) l3 ?_))
     go_roundw
     case rel=>exact ⟨j+1,by omega,by go_num,by rw [HU.out,HA1.out,HA2.out,HA3.out,HA4.out];exact o4,B4⟩
     case measure=>simp [intOf];omega
    ·have hj0:¬ (0:Int) <(j:Int):=by omega
     have HU:Hid (pbr lv (shB litW (l.take (j+1)))=A++R++[(⟨#[58]⟩:ByteArray)]++Q):=by unfold Hid;rw [hst,if_neg h0,if_neg (by omega),if_pos k];simp
     have ln1:(A).length+8*siz l[j].te+2<=4000000:=by simp;omega
     have ln2:(A++R).length+[((⟨#[58]⟩:ByteArray):ByteArray)].length<=4000000:=by simp;omega
     have ln3:(A++R++[(⟨#[58]⟩:ByteArray)]).length+8*siz l[j].nd+2<=4000000:=by simp;omega
     clear hst T1 T2 T6 T7
     go_wp2_with (first |(go_at_call 36;((with_reducible refine (AT es hN wr _ _ hbr o0 ln1).mono ?_);rintro e w1 ⟨v1,rfl,o1,b1⟩;(have s1:w.heap.size<=w1.heap.size:=Nat.le_trans s0 b1.size);(have B1:Below w.heap.size w w1:=hbr.trans b1);(have hd:=hd0.below B1);(have m0:=(B1.cell (zD m0')).trans m0');(obtain ⟨A1,hA1⟩:∃ A1,A++R=A1:=⟨_,rfl⟩);(have HA1:Hid (A++R=A1):=hA1);(rw [hA1] at o1);(try simp only [hA1] at ln2);(try simp only [hA1] at ln3);(try simp only [hA1] at ln4);(try simp only [hA1] at ln5);(try simp only [hA1] at ln6);(try simp only [hA1] at ln7);clear hA1;(obtain ⟨p1,q1,rfl⟩:=o1.form))) |((with_reducible show wpList _ _ _ ({ dst:=_,op:=Op.call { callee:=Callee.builtin Builtin.append,args:=_,argTypes:=_ },type:=_,pos:=_,after:=_,guard:=none }::_) _ _);refine zW rfl _ _ rfl w.heap.size (.slice p1 A1.length q1) rfl (A1) (o1.below (below_new w1 _)) (by have:=s1;simp;omega) w1.heap.size 1 [(⟨#[58]⟩:ByteArray)] 1 rfl rfl (Words.new w1 [(⟨#[58]⟩:ByteArray)] 9) ln2 ?_;intro v2 w2 o2 g2 b2;(have s2:w.heap.size<=w2.heap.size:=by have:=b2.size;have:=s1;simp at *;omega);(have B2:Below w.heap.size w w2:=(B1.trans ((below_new w1 _).mono (by have:=s1;omega))).trans b2);(have hd:=hd0.below B2);(have m0:=(B2.cell (zD m0')).trans m0');(have m2:=(B2.cell (zD m2')).trans m2');(obtain ⟨A2,hA2⟩:∃ A2,A1++[(⟨#[58]⟩:ByteArray)]=A2:=⟨_,rfl⟩);(have HA2:Hid (A1++[(⟨#[58]⟩:ByteArray)]=A2):=hA2);(rw [hA2] at o2);(try simp only [hA2] at ln3);(try simp only [hA2] at ln4);(try simp only [hA2] at ln5);(try simp only [hA2] at ln6);(try simp only [hA2] at ln7);clear hA2;(obtain ⟨p2,q2,rfl⟩:=o2.form)) |(go_at_call 36;((with_reducible refine (AN w2 _ _ B2 o2 ln3).mono ?_);rintro e w3 ⟨v3,rfl,o3,b3⟩;(have s3:w.heap.size<=w3.heap.size:=Nat.le_trans s2 b3.size);(have B3:Below w.heap.size w w3:=B2.trans b3);(have hd:=hd0.below B3);(have m0:=(B3.cell (zD m0')).trans m0');(obtain ⟨A3,hA3⟩:∃ A3,A2++Q=A3:=⟨_,rfl⟩);(have HA3:Hid (A2++Q=A3):=hA3);(rw [hA3] at o3);(try simp only [hA3] at ln4);(try simp only [hA3] at ln5);(try simp only [hA3] at ln6);(try simp only [hA3] at ln7);clear hA3;(obtain ⟨p3,q3,rfl⟩:=o3.form))) |((with_reducible show wpList _ _ _ (⟨_,Op.load 40 _,_,_,_,none⟩::_) _ _);first | refine zB rfl rfl rfl hd l2 ?_ | refine zB rfl rfl rfl (he0.below hbr) l3 ?_))
     go_roundw
     case rel=>exact ⟨j+1,by omega,by go_num,by rw [HU.out,HA1.out,HA2.out,HA3.out];exact o3,B3⟩
     case measure=>simp [intOf];omega
  ·have hjl:j=l.length:=by omega
   subst hjl
   rw [List.take_length] at o0
   clear HS LB hat ih
   go_wp2_with fail
   go_ret
   refine ⟨_,rfl,?_,hbr⟩
   rw [List.take_length]
   exact o0
end Go.Proofs.YtmfhdcpajgjgpaaGreatDoor.Syn
namespace Go.Proofs.YtmfhdcpajgjgpaaGreatDoor.Syn
open Go.RowKit Go.Shelf Go.Maps Go.Proofs.YtmfhdcpajgjgpaaGreatDoor.Shape Go.Proofs.YtmfhdcpajgjgpaaGreatDoor.Draw
set_option linter.unusedVariables false
set_option linter.unusedSimpArgs false
set_option maxRecDepth 100000
theorem okK_take {l:List Nd}(h:okK l=true) (j:Nat):okK (l.take j)=true:=okK_allP.2 fun i hi=>by
 have hi2:i<l.length:=by have:=hi;simp at this;omega
 have e:(l.take j)[i]=l[i]:=by simp
 rw [e];exact okK_allP.1 h i hi2
theorem bal_flat (enc:List Int):∀ {l:List Nd},okK l=true->Bal ((shK litW l).flatMap (par enc))
 | [],_=>fun lv=>by rw [shK];rfl
 | N::r,h=>by
  rw [okK,Bool.and_eq_true] at h
  rw [shK,List.flatMap_cons]
  exact vU (xg h.1) (bal_flat enc h.2)
theorem vX {l:List Nd}(h:okK l=true) (enc:List Int) (lv:Nat) {j:Nat}(hj:j<l.length) :
  pbr lv ((shK litW (l.take (j+1))).flatMap (par enc))=pbr lv ((shK litW (l.take j)).flatMap (par enc))++pbr lv (par enc (l[j].k,shN litW l[j])):=by
 rw [vt litW enc hj,qX (bal_flat enc (okK_take h j))]
theorem vc {l:List Nd}(h:okK l=true) (enc:List Int) (lv:Nat) (j:Nat):(pbr lv ((shK litW (l.take j)).flatMap (par enc))).length<=8*sizK (l.take j):=by
 rw [qi]
 exact flat_len litW enc _ (fun i hi=>qC litW _ _ (Nat.lt_succ_self _) (okK_allP.1 (okK_take h j) i hi))
theorem parts_k3 (r:Nat) (ih:xD r) (cs:List Value) (N:Nd) (w:World) (lv:Nat) (hr:rkN N<r+1) (ok:okN N=true) (hlv:lv+dep N<=100000) (hsz:siz N<=200000) (h:NdV w cs N) (hk:N.k=3) :
  Calls Tryz.prog 56 #[.agg cs.toArray,.int .i64 lv] w (qn w.heap.size w (pbr lv (shN litW N))):=by
 obtain ⟨v0,v1,v2,v3,ka,kc,ba,bc,kb,ko,bb,bo,O⟩:=h.open
 have lC:=h.len
 have hk1:N.ks.length<=9223372036854775807:=by have:=O.kl;omega
 have hk2:N.bd.length<=9223372036854775807:=by have:=O.bl;omega
 have BN:=below_new w (.cells cs.toArray 40)
 have hP:=O.nf (zL w cs 40)
 have hc0:=zL w cs 40
 obtain ⟨S0,i3,i4,i5⟩:=kZ w (.cells cs.toArray 40)
 have hP4:=hP.below S0
 have hc4:=hc0.below S0
 have B4:=Below.then BN S0
 obtain ⟨W4,hW4⟩:∃ W4,((((w.alloc (.cells cs.toArray 40)).alloc (.cells #[.int .i64 4,.int .i64 5] 29)).alloc (.cells #[.int .i64 3,.int .i64 4,.int .i64 5] 29)).alloc (.cells #[.int .i64 16] 29))=W4:=⟨_,rfl⟩
 rw [hW4] at i3 i4 i5 hP4 hc4 B4
 obtain ⟨p0,-,-,-,-,-,p10,p11,-,-,-⟩:=hP4
 have h4:=h.below B4
 have z0:=qQ N
 have e3:(N.k==3)=true:=by rw [hk];rfl
 have e4:(N.k==4)=false:=by rw [hk];rfl
 have e5:(N.k==5)=false:=by rw [hk];rfl
 have e14:(N.k==14)=false:=by rw [hk];rfl
 have e15:(N.k==15)=false:=by rw [hk];rfl
 have e16:(N.k==16)=false:=by rw [hk];rfl
 have e10:(N.k==10)=false:=by rw [hk];rfl
 clear S0 hP BN hc0
 have hsh:shN litW N =(shK litW N.ks).flatMap (par [3,4,5]):=by
  rw [kC,if_pos hk]
 have okk:=qm ok
 have HS:=fun j (hj:j<N.ks.length)=>vX okk [3,4,5] lv hj
 have LB:=fun j=>vc okk [3,4,5] lv j
 have ZT:=fun j (hj:j<N.ks.length)=>xb hj
 have AD:=fun j (hj:j<N.ks.length) (cs:List Value) (hN:NdV W4 cs N.ks[j]) w' v l (g:Below W4.heap.size W4 w') (ho:OwnS W4.heap.size w' v l) a2 (he:IntsAt w' a2 3 [3,4,5]) (hl:l.length+8*siz N.ks[j]+2<=4000000)=>addR r ih W4 W4.heap.size (Nat.le_refl _) cs N.ks[j] hN (by have:=zk N hj;omega) (kE ok hj) [3,4,5] a2 3 3 lv (by have:=(zi N hj).2;omega) (by have:=(zi N hj).1;omega) w' v l g g.size ho he rfl hl
 have KC:=(NdsAt.below B4 O.kat)
 have oka:=O.ka
 have HW:Hid (pbr lv (shN litW N)=pbr lv ((shK litW N.ks).flatMap (par [3,4,5]))):=by unfold Hid;rw [hsh]
 clear i3  i5 hc4 h4 h ih hr p11 O lC hsh ok okk hlv
 go_enter Tryz.func56,Tryz.ntmps56
 go_upto_region 4 with fail
 try rw [hW4]
 clear hW4
 go_wp2_with fail
 go_loopw [8,9] (fun v i wr=>∃ j:Nat,j<=N.ks.length/\i=.int .i64 j/\OwnS W4.heap.size wr v (pbr lv ((shK litW (N.ks.take j)).flatMap (par [3,4,5])))/\Below W4.heap.size W4 wr) (fun _ i _=>N.ks.length - (intOf i).toNat)
 case atStart=>exact ⟨0,Nat.zero_le _,rfl,OwnS.none _ _,Below.refl _ _⟩
 case round =>
  obtain ⟨j,hj,rfl,o0,hbr⟩:=hrel
  obtain ⟨a0,k0,rfl⟩:=o0.form
  have y10:=(hbr.cell (zD p10)).trans p10
  clear p10
  by_cases hlt:j<N.ks.length
  ·have hix:=zR (ic:=kc) rfl oka hlt
   obtain ⟨ds,hd0,hM⟩:=KC.at hlt
   have l2:=hM.len
   have hst:=HS j hlt
   have T1:=LB j
   have T2:=ZT j hlt
   have ad:=fun w' v l g ho a2 he hl=>AD j hlt ds hM w' v l g ho a2 he hl
   have hd:=hd0.below hbr
   obtain ⟨A,hA⟩:∃ A,pbr lv ((shK litW (N.ks.take j)).flatMap (par [3,4,5]))=A:=⟨_,rfl⟩
   rw [hA] at hst o0 T1
   try rw [hA]
   have ln:A.length+8*siz N.ks[j]+2<=4000000:=by omega
   have HU:Hid (pbr lv ((shK litW (N.ks.take (j+1))).flatMap (par [3,4,5]))=A++pbr lv (par [3,4,5] (N.ks[j].k,shN litW N.ks[j]))):=hst
   obtain ⟨M,hM2⟩:∃ M,pbr lv (par [3,4,5] (N.ks[j].k,shN litW N.ks[j]))=M:=⟨_,rfl⟩
   rw [hM2] at HU
   simp only [hM2] at ad
   clear hA hst HS LB ZT AD KC T1 T2 hM2 z0 hsz
   have C:=ad wr _ _ hbr o0 _ (IntsAt.below i4 hbr) ln
   go_wp2_with (first |((with_reducible show wpList _ _ _ (⟨_,Op.load 40 _,_,_,_,none⟩::_) _ _);first | refine zB rfl rfl rfl hd l2 ?_) |(go_at_call 36;((with_reducible refine C.mono ?_);rintro e w5 ⟨v5,rfl,o5,b5⟩;obtain ⟨p5,q5,rfl⟩:=o5.form)))
   go_roundw
   case rel=>exact ⟨j+1,by omega,by go_num,by rw [HU.out];rw [List.length_append] at o5;exact o5,hbr.trans b5⟩
   case measure=>simp [intOf];omega
  ·obtain rfl:j=N.ks.length:=by omega
   rw [List.take_length] at o0
   clear HS LB ZT AD KC
   go_wp2_with fail
   go_ret
   refine ⟨_,rfl,?_,Below.then B4 hbr⟩
   rw [HW.out,List.take_length]
   exact o0.base B4.size
theorem parts_k16 (r:Nat) (ih:xD r) (cs:List Value) (N:Nd) (w:World) (lv:Nat) (hr:rkN N<r+1) (ok:okN N=true) (hlv:lv+dep N<=100000) (hsz:siz N<=200000) (h:NdV w cs N) (hk:N.k=16) :
  Calls Tryz.prog 56 #[.agg cs.toArray,.int .i64 lv] w (qn w.heap.size w (pbr lv (shN litW N))):=by
 obtain ⟨v0,v1,v2,v3,ka,kc,ba,bc,kb,ko,bb,bo,O⟩:=h.open
 have lC:=h.len
 have hk1:N.ks.length<=9223372036854775807:=by have:=O.kl;omega
 have hk2:N.bd.length<=9223372036854775807:=by have:=O.bl;omega
 have BN:=below_new w (.cells cs.toArray 40)
 have hP:=O.nf (zL w cs 40)
 have hc0:=zL w cs 40
 obtain ⟨S0,i3,i4,i5⟩:=kZ w (.cells cs.toArray 40)
 have hP4:=hP.below S0
 have hc4:=hc0.below S0
 have B4:=Below.then BN S0
 obtain ⟨W4,hW4⟩:∃ W4,((((w.alloc (.cells cs.toArray 40)).alloc (.cells #[.int .i64 4,.int .i64 5] 29)).alloc (.cells #[.int .i64 3,.int .i64 4,.int .i64 5] 29)).alloc (.cells #[.int .i64 16] 29))=W4:=⟨_,rfl⟩
 rw [hW4] at i3 i4 i5 hP4 hc4 B4
 obtain ⟨p0,-,-,-,-,-,p10,p11,-,-,-⟩:=hP4
 have h4:=h.below B4
 have z0:=qQ N
 have e3:(N.k==3)=false:=by rw [hk];rfl
 have e4:(N.k==4)=false:=by rw [hk];rfl
 have e5:(N.k==5)=false:=by rw [hk];rfl
 have e14:(N.k==14)=false:=by rw [hk];rfl
 have e15:(N.k==15)=false:=by rw [hk];rfl
 have e16:(N.k==16)=true:=by rw [hk];rfl
 have e10:(N.k==10)=false:=by rw [hk];rfl
 clear S0 hP BN hc0
 have hsh:shN litW N =(shK litW N.ks).flatMap (par [16,4,5]):=by
  rw [kC,if_neg (by omega),if_neg (by omega),if_neg (by omega),if_neg (by omega),if_neg (by omega),if_neg (by omega),if_pos hk]
  congr 1
  funext x
  exact (par_three x).symm
 have okk:=qm ok
 have HS:=fun j (hj:j<N.ks.length)=>vX okk [16,4,5] lv hj
 have LB:=fun j=>vc okk [16,4,5] lv j
 have ZT:=fun j (hj:j<N.ks.length)=>xb hj
 have AD:=fun j (hj:j<N.ks.length) (cs:List Value) (hN:NdV W4 cs N.ks[j]) w' v l (g:Below W4.heap.size W4 w') (ho:OwnS W4.heap.size w' v l) a2 (he:IntsAt w' a2 3 [16,4,5]) (hl:l.length+8*siz N.ks[j]+2<=4000000)=>addR r ih W4 W4.heap.size (Nat.le_refl _) cs N.ks[j] hN (by have:=zk N hj;omega) (kE ok hj) [16,4,5] a2 3 3 lv (by have:=(zi N hj).2;omega) (by have:=(zi N hj).1;omega) w' v l g g.size ho he rfl hl
 have KC:=(NdsAt.below B4 O.kat)
 have oka:=O.ka
 have HW:Hid (pbr lv (shN litW N)=pbr lv ((shK litW N.ks).flatMap (par [16,4,5]))):=by unfold Hid;rw [hsh]
 clear i3 i4 i5 hc4 h4 h ih hr p11 O lC hsh ok okk hlv
 go_enter Tryz.func56,Tryz.ntmps56
 go_upto_region 4 with fail
 try rw [hW4]
 clear hW4
 go_wp2_with fail
 go_loopw [8,11] (fun v i wr=>∃ j:Nat,j<=N.ks.length/\i=.int .i64 j/\OwnS W4.heap.size wr v (pbr lv ((shK litW (N.ks.take j)).flatMap (par [16,4,5])))/\Below W4.heap.size W4 wr) (fun _ i _=>N.ks.length - (intOf i).toNat)
 case atStart=>exact ⟨0,Nat.zero_le _,rfl,OwnS.none _ _,Below.refl _ _⟩
 case round =>
  obtain ⟨j,hj,rfl,o0,hbr⟩:=hrel
  obtain ⟨a0,k0,rfl⟩:=o0.form
  have y10:=(hbr.cell (zD p10)).trans p10
  clear p10
  by_cases hlt:j<N.ks.length
  ·have hix:=zR (ic:=kc) rfl oka hlt
   obtain ⟨ds,hd0,hM⟩:=KC.at hlt
   have l2:=hM.len
   have hst:=HS j hlt
   have T1:=LB j
   have T2:=ZT j hlt
   have ad:=fun w' v l g ho a2 he hl=>AD j hlt ds hM w' v l g ho a2 he hl
   have hd:=hd0.below hbr
   obtain ⟨A,hA⟩:∃ A,pbr lv ((shK litW (N.ks.take j)).flatMap (par [16,4,5]))=A:=⟨_,rfl⟩
   rw [hA] at hst o0 T1
   try rw [hA]
   have ln:A.length+8*siz N.ks[j]+2<=4000000:=by omega
   have HU:Hid (pbr lv ((shK litW (N.ks.take (j+1))).flatMap (par [16,4,5]))=A++pbr lv (par [16,4,5] (N.ks[j].k,shN litW N.ks[j]))):=hst
   obtain ⟨M,hM2⟩:∃ M,pbr lv (par [16,4,5] (N.ks[j].k,shN litW N.ks[j]))=M:=⟨_,rfl⟩
   rw [hM2] at HU
   simp only [hM2] at ad
   clear hA hst HS LB ZT AD KC T1 T2 hM2 z0 hsz
   have ik:=xR wr [16,4,5] (by simp) (by simp)
   have bn:=below_new wr (.cells #[.int .i64 16,.int .i64 4,.int .i64 5] 29)
   have C:=ad _ _ _ (Below.then hbr bn) (o0.below bn) _ ik ln
   have y10b:=(bn.cell (zD y10)).trans y10
   have hdb:=hd.below bn
   have sB:W4.heap.size<=wr.heap.size:=hbr.size
   have hbb:=hbr.trans (bn.mono sB)
   go_wp2_with (first |((with_reducible show wpList _ _ _ (⟨_,Op.load 40 _,_,_,_,none⟩::_) _ _);first | refine zB rfl rfl rfl hd l2 ?_ | refine zB rfl rfl rfl hdb l2 ?_) |(go_at_call 36;((with_reducible refine C.mono ?_);rintro e w5 ⟨v5,rfl,o5,b5⟩;obtain ⟨p5,q5,rfl⟩:=o5.form)))
   go_roundw
   case rel=>exact ⟨j+1,by omega,by go_num,by rw [HU.out];rw [List.length_append] at o5;exact o5,hbb.trans b5⟩
   case measure=>simp [intOf];omega
  ·obtain rfl:j=N.ks.length:=by omega
   rw [List.take_length] at o0
   clear HS LB ZT AD KC
   go_wp2_with fail
   go_ret
   refine ⟨_,rfl,?_,Below.then B4 hbr⟩
   rw [HW.out,List.take_length]
   exact o0.base B4.size
theorem show_word {N:Nd}(h:okN N=true) (hk:¬ N.k=3/\¬ N.k=4/\¬ N.k=5/\¬ N.k=10/\¬ N.k=14/\¬ N.k=15/\¬ N.k=16):(dep N<=60/\siz N<=16384)/\shN litW N=[wdB litW N]:=by
 have e:shN litW N=[wdB litW N]:=by rw [kC,if_neg hk.1,if_neg hk.2.1,if_neg hk.2.2.1,if_neg hk.2.2.2.1,if_neg hk.2.2.2.2.1,if_neg hk.2.2.2.2.2.1,if_neg hk.2.2.2.2.2.2]
 refine ⟨?_,e⟩
 have hl:=leaf_of h hk.1 hk.2.1 hk.2.2.1 hk.2.2.2.1 hk.2.2.2.2.1 hk.2.2.2.2.2.1 hk.2.2.2.2.2.2
 have k:=leaf_ks hl
 have b:=ok_bd h hk.2.2.2.1
 exact ⟨by rw [vD,k,b,depK,depB];decide,by rw [qQ,k,b,sizK,sizB];decide⟩
theorem parts_leaf (r:Nat) (ih:xD r) (cs:List Value) (N:Nd) (w:World) (lv:Nat) (hr:rkN N<r+1) (ok:okN N=true) (hlv:lv+dep N<=100000) (hsz:siz N<=200000) (h:NdV w cs N) (hk:¬ N.k=3/\¬ N.k=4/\¬ N.k=5/\¬ N.k=10/\¬ N.k=14/\¬ N.k=15/\¬ N.k=16) :
  Calls Tryz.prog 56 #[.agg cs.toArray,.int .i64 lv] w (qn w.heap.size w (pbr lv (shN litW N))):=by
 obtain ⟨v0,v1,v2,v3,ka,kc,ba,bc,kb,ko,bb,bo,O⟩:=h.open
 have lC:=h.len
 have hk1:N.ks.length<=9223372036854775807:=by have:=O.kl;omega
 have hk2:N.bd.length<=9223372036854775807:=by have:=O.bl;omega
 have BN:=below_new w (.cells cs.toArray 40)
 have hP:=O.nf (zL w cs 40)
 have hc0:=zL w cs 40
 obtain ⟨S0,i3,i4,i5⟩:=kZ w (.cells cs.toArray 40)
 have hP4:=hP.below S0
 have hc4:=hc0.below S0
 have B4:=Below.then BN S0
 obtain ⟨W4,hW4⟩:∃ W4,((((w.alloc (.cells cs.toArray 40)).alloc (.cells #[.int .i64 4,.int .i64 5] 29)).alloc (.cells #[.int .i64 3,.int .i64 4,.int .i64 5] 29)).alloc (.cells #[.int .i64 16] 29))=W4:=⟨_,rfl⟩
 rw [hW4] at i3 i4 i5 hP4 hc4 B4
 obtain ⟨p0,-,-,-,-,-,p10,p11,-,-,-⟩:=hP4
 have h4:=h.below B4
 have z0:=qQ N
 have e3:(N.k==3)=false:=by simp;omega
 have e4:(N.k==4)=false:=by simp;omega
 have e5:(N.k==5)=false:=by simp;omega
 have e14:(N.k==14)=false:=by simp;omega
 have e15:(N.k==15)=false:=by simp;omega
 have e16:(N.k==16)=false:=by simp;omega
 have e10:(N.k==10)=false:=by simp;omega
 clear S0 hP BN hc0
 obtain ⟨sw,sn⟩:=show_word ok hk
 have SH:=refShowLeaf cs N W4 h4 ok sw.1 sw.2 hk
 have lb:=vP (leaf_of ok hk.1 hk.2.1 hk.2.2.1 hk.2.2.2.1 hk.2.2.2.2.1 hk.2.2.2.2.2.1 hk.2.2.2.2.2.2)
 have HW:Hid (pbr lv (shN litW N)=[wdB litW N]):=by unfold Hid;rw [sn,yf lb]
 obtain ⟨s,hs⟩:∃ s,wdB litW N=s:=⟨_,rfl⟩
 rw [hs] at SH HW
 clear i3 i4 i5 h4 h ih hr p10 p11 O hk sw sn lb hs ok hlv
 go_enter Tryz.func56,Tryz.ntmps56
 go_upto_region 4 with fail
 try rw [hW4]
 clear hW4
 go_wp2_with (first |((with_reducible show wpList _ _ _ (⟨_,Op.load 40 _,_,_,_,none⟩::_) _ _);refine zB rfl rfl rfl hc4 lC ?_) |(go_at_call 81;((with_reducible refine SH.mono ?_);rintro e w3 ⟨rfl,b3⟩;(have bb:=Below.then B4 b3))) |((with_reducible show wpList _ _ _ ({ dst:=_,op:=Op.call { callee:=Callee.builtin Builtin.append,args:=_,argTypes:=_ },type:=_,pos:=_,after:=_,guard:=none }::_) _ _);refine zW rfl _ _ rfl w.heap.size (.slice none 0 0) rfl [] (OwnS.none _ _) (by have:=bb.size;simp;omega) w3.heap.size 1 [s] 1 rfl rfl (Words.new w3 [s] 9) (by simp) ?_;intro v5 w5 o5 g5 b5;(have bf:=(bb.trans ((below_new w3 _).mono bb.size)).trans b5);(obtain ⟨p5,q5,rfl⟩:=o5.form)))
 go_ret
 exact ⟨_,rfl,by rw [HW.out];exact o5,bf⟩
theorem wp_words {o:Oper}{a:Act}{w:World}{K:Act->World->Prop}{Q:Exit->Act->World->Prop}{s x:Nat}(ho:o.op=.call { callee:=.builtin .append,args:=#[.tmp s,.tmp x],argTypes:=#[61,61] }) (B:Nat)
  (v:Value) (hs:a.tmps[s]?.getD undef=v) (l:List ByteArray) (hown:OwnS B w v l) (hB:B<=w.heap.size) (b c:Nat) (m:List ByteArray) (n:Nat) (hn:n=m.length) (hx:a.tmps[x]?.getD undef=.slice (some ⟨b,0,none⟩) n c) (hm:Words w b m)
  (hl:l.length+m.length<=4000000) (h:∀ v' w',OwnS B w' v' (l++m)->w.grownBy w' v.ownBlock->Below B w w'->K (a.put o.dst v') w'):o.wp Tryz.prog a w K Q:=by
 subst hn
 obtain ⟨i0,hi,hz0,hz1,hz2⟩:=info_parts infoStrS
 refine wp_append_own w _ _ 61 ho B 9 i0 _ 1 16 Tryz.underlying61 hi hz0 hz1 hz2 rfl (by decide) v l.length (l.map Value.string) (by rw [<- hs];simp [Act.eval]) hown ⟨b,0,none⟩ m.length c (m.map Value.string) (by rw [<- hx];simp [Act.eval]) (by simp) hm (str_one m) (by unfold maxLen;omega) (by omega) hB ?_
 intro v' w' hown' hgrow _
 refine h v' w' ?_ hgrow (hown.grown hgrow hB)
 rw [OwnS,List.length_append,List.map_append]
 exact hown'
def CloseAt (w:World) (u:Value):Prop:=∃ b,u=.slice (some ⟨b,0,none⟩) 1 1/\w.heap[b]?=some (.cells #[.string ⟨#[125]⟩] 9 (0,0))
theorem CloseAt.words {w:World}{u:Value}(h:CloseAt w u):∃ b,u=.slice (some ⟨b,0,none⟩) 1 1/\Words w b [⟨#[125]⟩]:=by
 obtain ⟨b,h1,h2⟩:=h
 refine ⟨b,h1,fun j x hj=>?_⟩
 rw [Shape.add_plain,Nat.zero_add,Lib.cell_of_heap h2]
 simpa using hj
theorem CloseAt.below {w w':World}{u:Value}(h:CloseAt w u) (hb:Below w.heap.size w w'):CloseAt w' u:=by
 obtain ⟨b,h1,h2⟩:=h
 exact ⟨b,h1,(hb.block _ (Array.getElem?_eq_some_iff.1 h2).1).trans h2⟩
theorem CloseAt.grown {w w':World}{u v:Value}{B:Nat}{l:List ByteArray}(h:CloseAt w u) (ho:OwnS B w v (⟨#[123]⟩::l)) (hg:w.grownBy w' v.ownBlock):CloseAt w' u:=by
 obtain ⟨b,h1,h2⟩:=h
 refine ⟨b,h1,(hg.block _ (Array.getElem?_eq_some_iff.1 h2).1 (fun e=>?_)).trans h2⟩
 have c:=World.ownsRow.cells ho e.symm 0 (.string ⟨#[123]⟩) rfl
 rw [Shape.add_plain,Nat.zero_add,Lib.cell_of_heap h2] at c
 simp at c
theorem Words.below {w w':World}{b:Nat}{m:List ByteArray}(h:Words w b m) (hb:Below w.heap.size w w'):Words w' b m:=fun j u hj=>by
 have:=h j u hj
 rw [Shape.add_plain,Nat.zero_add] at this ⊢
 exact (hb.cell (zD this)).trans this
def LamJ (W:World) (M:List ByteArray) (k:Nat) (g:Nat->Value) (x:Option Value) (w:World):Prop :=
 Below W.heap.size W w/\(∀ u,x=some u->CloseAt w u) /\
 (k=1->∃ b,g 140=.slice (some ⟨b,0,none⟩) 1 1/\Words w b [⟨#[123]⟩]) /\
 (k=2∨k=3->OwnS W.heap.size w (g 141) [⟨#[123]⟩]) /\
 (k=3->∃ b c,g 146=.slice (some ⟨b,0,none⟩) M.length c/\Words w b M) /\
 (k=4->OwnS W.heap.size w (g 147) ([⟨#[123]⟩]++M)) /\
 (k=5->OwnS W.heap.size w (g 149) ([⟨#[123]⟩]++M++[⟨#[125]⟩]))
theorem LamJ.below {W w w':World}{M:List ByteArray}{k:Nat}{g:Nat->Value}{x:Option Value}(h:LamJ W M k g x w) (hb:Below w.heap.size w w'):LamJ W M k g x w':=by
 obtain ⟨h0,hx,h1,h2,h3,h4,h5⟩:=h
 refine ⟨Below.then h0 hb,fun u e=>(hx u e).below hb,fun e=>?_,fun e=>(h2 e).below hb,fun e=>?_,fun e=>(h4 e).below hb,fun e=>(h5 e).below hb⟩
 ·obtain ⟨b,a1,a2⟩:=h1 e;exact ⟨b,a1,a2.below hb⟩
 ·obtain ⟨b,c,a1,a2⟩:=h3 e;exact ⟨b,c,a1,a2.below hb⟩
theorem LamJ.cong {W:World}{M:List ByteArray}{chd:List Nat}(hc:chd=[140,141,146,147,149]):∀ (k:Nat) (g g':Nat->Value) (x:Option Value) (w:World),k<=5->(∀ j,j<k->g (chd.getD j 0)=g' (chd.getD j 0))->LamJ W M k g x w->LamJ W M k g' x w:=by
 subst hc
 rintro k g g' x w - hg ⟨h0,hx,h1,h2,h3,h4,h5⟩
 refine ⟨h0,hx,fun e=>?_,fun e=>?_,fun e=>?_,fun e=>?_,fun e=>?_⟩
 ·have:=hg 0 (by omega);have t:g 140=g' 140:=this;rw [<- t];exact h1 e
 ·have:=hg 1 (by omega);have t:g 141=g' 141:=this;rw [<- t];exact h2 e
 ·have:=hg 2 (by omega);have t:g 146=g' 146:=this;rw [<- t];exact h3 e
 ·have:=hg 3 (by omega);have t:g 147=g' 147:=this;rw [<- t];exact h4 e
 ·have:=hg 4 (by omega);have t:g 149=g' 149:=this;rw [<- t];exact h5 e
theorem parts_k10 (r:Nat) (ih:xD r) (cs:List Value) (N:Nd) (w:World) (lv:Nat) (hr:rkN N<r+1) (ok:okN N=true) (hlv:lv+dep N<=100000) (hsz:siz N<=200000) (h:NdV w cs N) (hk:N.k=10) :
  Calls Tryz.prog 56 #[.agg cs.toArray,.int .i64 lv] w (qn w.heap.size w (pbr lv (shN litW N))):=by
 obtain ⟨v0,v1,v2,v3,ka,kc,ba,bc,kb,ko,bb,bo,O⟩:=h.open
 have lC:=h.len
 have hk1:N.ks.length<=9223372036854775807:=by have:=O.kl;omega
 have hk2:N.bd.length<=9223372036854775807:=by have:=O.bl;omega
 have BN:=below_new w (.cells cs.toArray 40)
 have hP:=O.nf (zL w cs 40)
 have hc0:=zL w cs 40
 obtain ⟨S0,i3,i4,i5⟩:=kZ w (.cells cs.toArray 40)
 have hP4:=hP.below S0
 have hc4:=hc0.below S0
 have B4:=Below.then BN S0
 obtain ⟨W4,hW4⟩:∃ W4,((((w.alloc (.cells cs.toArray 40)).alloc (.cells #[.int .i64 4,.int .i64 5] 29)).alloc (.cells #[.int .i64 3,.int .i64 4,.int .i64 5] 29)).alloc (.cells #[.int .i64 16] 29))=W4:=⟨_,rfl⟩
 rw [hW4] at i3 i4 i5 hP4 hc4 B4
 obtain ⟨p0,-,-,-,-,-,p10,p11,-,-,-⟩:=hP4
 have h4:=h.below B4
 have z0:=qQ N
 have e3:(N.k==3)=false:=by rw [hk];rfl
 have e4:(N.k==4)=false:=by rw [hk];rfl
 have e5:(N.k==5)=false:=by rw [hk];rfl
 have e14:(N.k==14)=false:=by rw [hk];rfl
 have e15:(N.k==15)=false:=by rw [hk];rfl
 have e16:(N.k==16)=false:=by rw [hk];rfl
 have e10:(N.k==10)=true:=by rw [hk];rfl
 clear S0 hP BN hc0
 have okl:=yq ok hk
 have hbd:=ok_bd10 ok hk
 have hdp:depB N.bd<dep N:=by rw [vD];omega
 have BR:=fun w' (g:Below W4.heap.size W4 w')=>bodyG r ih ba bc bb bo N.bd w' (lv+1) (fun i hi=>by have:=qF N hi;omega) okl (by omega) (by omega) hk2 O.ba (StsAt.below g (StsAt.below B4 O.bat))
 have hwh:pbr lv (shN litW N)=[⟨#[123]⟩]++pbr (lv+1) (shB litW N.bd)++[⟨#[125]⟩]:=by
  rw [kC,if_neg (by omega),if_neg (by omega),if_neg (by omega),if_pos hk,pbr,if_neg (by decide),show qA lv ⟨#[123]⟩=lv+1 from rfl,qX (good_bal.stmts okl)]
  rfl
 have hne:pbr (lv+1) (shB litW N.bd)≠[]:=fun e=>by
  have:=congrArg List.length e
  rw [qi] at this
  exact prB_ne okl hbd (List.eq_nil_of_length_eq_zero this)
 have ml:(pbr (lv+1) (shB litW N.bd)).length<=8*siz N:=by
  rw [qi]
  have:=qC litW _ N (Nat.lt_succ_self _) ok
  rw [kC,if_neg (by omega),if_neg (by omega),if_neg (by omega),if_pos hk] at this
  simp only [List.length_cons,List.length_append] at this
  omega
 obtain ⟨M,hM⟩:∃ M,pbr (lv+1) (shB litW N.bd)=M:=⟨_,rfl⟩
 simp only [hM] at BR
 rw [hM] at hwh hne ml
 have HW:Hid (pbr lv (shN litW N)=[⟨#[123]⟩]++M++[⟨#[125]⟩]):=hwh
 have W1:IntKind.i64.wrap ((lv:Int)+1) =(lv:Int)+1:=by rw [IntWalk.i64_left];exact IntWalk.wrap64_in _ (by omega)
 have lM:([⟨#[123]⟩]:List ByteArray).length+M.length<=4000000:=by simp;omega
 have lM2:([⟨#[123]⟩]++M:List ByteArray).length+([⟨#[125]⟩]:List ByteArray).length<=4000000:=by simp;omega
 have HK:Hid (N.bd.length<=9223372036854775807):=hk2
 have BR:∀ w' (g:Below W4.heap.size W4 w'),Calls Tryz.prog 19 #[.slice ba N.bd.length bc,.int .i64 ((lv:Int)+1)] w' (qn w'.heap.size w' M):=fun w' g=>by have:=BR w' g;rw [show ((lv+1:Nat):Int) =(lv:Int)+1 by omega] at this;exact this
 clear i3 i4 i5 hc4 h4 h ih hr p10 O lC hwh ok okl hbd hdp hM ml hlv hsz z0
 go_enter Tryz.func56,Tryz.ntmps56
 go_upto_region 4 with fail
 try rw [hW4]
 clear hW4
 go_wp2_with fail
 refine zq (l:=[_,_,_,_,_,_,_,_,_,_,_]) (last:=_) rfl (by kernel_rfl) (fun _=>0) [1,2,7,8,10] [140,141,146,147,149] 9 148 139 [.slice none 0 0,undef,undef,.pointer (some ⟨w.heap.size,11,none⟩),.slice ba N.bd.length bc,.int .i64 lv,.int .i64 ((lv:Int)+1),undef,undef,undef,undef] (fun g=>[.slice none 0 0,g 140,g 141,.pointer (some ⟨w.heap.size,11,none⟩),.slice ba N.bd.length bc,.int .i64 lv,.int .i64 ((lv:Int)+1),g 146,g 147,g 148,g 149]) (LamJ W4 M) (fun w'=>Below W4.heap.size W4 w') (Nat.le_of_ble_eq_true (by kernel_rfl)) (by kernel_rfl) (by kernel_rfl) rfl (by kernel_rfl) (by kernel_rfl) (by kernel_rfl) rfl (by kernel_rfl) (by kernel_rfl) (fun _ _ _ _ h=>h.1) (LamJ.cong rfl) ⟨(Below.refl _ _).drew,fun u e=>(by cases e),fun e=>absurd e (by decide),fun e=>absurd e (by decide),fun e=>absurd e (by decide),fun e=>absurd e (by decide),fun e=>absurd e (by decide)⟩ ?_ (fun g=>rfl) (by kernel_rfl) (by kernel_rfl) ?_
 ·intro hch
  refine ⟨?_,?_,?_,?_,?_,?_,?_,?_,?_,?_,?_,trivial⟩
  ·refine Step.look rfl rfl ?_
   intro a w' hS H
   have x8:a.tmps[8]?.getD undef=.slice none 0 0:=H 8 rfl rfl (by decide)
   refine ⟨trivial,fun K Q hK=>?_⟩
   go_simp
   exact hK.out
  ·refine Step.link hch 0 (by decide) rfl rfl ?_
   intro a w' x hS hx H K Q hK
   go_simp
   have bn:=below_new w' (.cells #[.string ⟨#[123]⟩] 9)
   exact hK.out _ _ ⟨Below.then hS.1 bn,fun u e=>(hS.2.1 u e).below bn,fun _=>⟨w'.heap.size,rfl,Words.new w' [⟨#[123]⟩] 9⟩,fun e=>absurd e (by decide),fun e=>absurd e (by decide),fun e=>absurd e (by decide),fun e=>absurd e (by decide)⟩
  ·refine Step.link hch 1 (by decide) rfl rfl ?_
   intro a w' x hS hx H K Q hK
   obtain ⟨h0,hx1,h1,-⟩:=hS
   obtain ⟨b,e1,m1⟩:=h1 rfl
   have x139:a.tmps[139]?.getD undef=.slice none 0 0:=H 139 rfl rfl (by decide)
   refine wp_words (s:=139) (x:=140) rfl W4.heap.size (.slice none 0 0) x139 [] (OwnS.none _ _) h0.size b 1 [⟨#[123]⟩] 1 rfl e1 m1 (by decide) ?_
   intro v' w2 o2 g2 b2
   have bg:Below w'.heap.size w' w2:=⟨g2.os,g2.tape,g2.output,g2.size,fun k hk=>g2.block k hk (by simp [Value.ownBlock])⟩
   exact hK.out _ _ ⟨h0.trans b2,fun u e=>(hx1 u e).below bg,fun e=>absurd e (by decide),fun _=>o2,fun e=>absurd e (by decide),fun e=>absurd e (by decide),fun e=>absurd e (by decide)⟩
  ·refine Step.look rfl rfl ?_
   intro a w' hS H
   have x2:a.tmps[2]?.getD undef=.pointer (some ⟨w.heap.size,0,none⟩):=H 2 rfl rfl (by decide)
   refine ⟨trivial,fun K Q hK=>?_⟩
   go_simp
   exact hK.out
  ·refine Step.look rfl rfl ?_
   intro a w' hS H
   have x142:a.tmps[142]?.getD undef=.pointer (some ⟨w.heap.size,11,none⟩):=H 142 rfl rfl (by decide)
   have y11:=(hS.cell (zD p11)).trans p11
   refine ⟨trivial,fun K Q hK=>?_⟩
   go_simp
   exact hK.out
  ·refine Step.look rfl rfl ?_
   intro a w' hS H
   have x1:a.tmps[1]?.getD undef=.int .i64 lv:=H 1 rfl rfl (by decide)
   refine ⟨trivial,fun K Q hK=>?_⟩
   go_simp
   exact hK.out
  ·refine Step.look rfl rfl ?_
   intro a w' hS H
   have x144:a.tmps[144]?.getD undef=.int .i64 lv:=H 144 rfl rfl (by decide)
   refine ⟨trivial,fun K Q hK=>?_⟩
   go_simp
   exact hK.out
  ·refine Step.link hch 2 (by decide) rfl rfl ?_
   intro a w' x hS hx H K Q hK
   obtain ⟨h0,hx1,-,h2,-⟩:=hS
   have x143:a.tmps[143]?.getD undef=.slice ba N.bd.length bc:=H 143 rfl rfl (by decide)
   have x145:a.tmps[145]?.getD undef=.int .i64 ((lv:Int)+1):=H 145 rfl rfl (by decide)
   have C:=BR w' h0
   go_simp
   go_at_call 19
   with_reducible refine C.mono ?_
   rintro e w3 ⟨v3,rfl,o3,b3⟩
   obtain ⟨g4,c4,rfl,m4⟩:=o3.words hne
   exact hK.out _ _ ⟨Below.then h0 b3,fun u e=>(hx1 u e).below b3,fun e=>absurd e (by decide),fun _=>(h2 (Or.inl rfl)).below b3,fun _=>⟨g4,c4,rfl,m4⟩,fun e=>absurd e (by decide),fun e=>absurd e (by decide)⟩
  ·refine Step.link hch 3 (by decide) rfl rfl ?_
   intro a w' x hS hx H K Q hK
   obtain ⟨h0,hx1,-,h2,h3,-⟩:=hS
   obtain ⟨b,c,e3,m3⟩:=h3 rfl
   have o2:=h2 (Or.inr rfl)
   refine wp_words (s:=141) (x:=146) rfl W4.heap.size _ rfl [⟨#[123]⟩] o2 h0.size b c M M.length rfl e3 m3 lM ?_
   intro v' w2 o3 g3 b3
   exact hK.out _ _ ⟨h0.trans b3,fun u e=>(hx1 u e).grown o2 g3,fun e=>absurd e (by decide),fun e=>absurd e (by decide),fun e=>absurd e (by decide),fun _=>o3,fun e=>absurd e (by decide)⟩
  ·refine Step.free rfl rfl ?_
   intro a w' k g hS H K Q hK
   go_simp
   have bn:=below_new w' (.cells #[.string ⟨#[125]⟩] 9)
   obtain ⟨h0,-,h1,h2,h3,h4,h5⟩:=hS.below bn
   exact hK.out _ _ ⟨h0,fun u e=>⟨w'.heap.size,(Option.some.inj e).symm,heap_alloc_new _ _⟩,h1,h2,h3,h4,h5⟩
  ·refine Step.link hch 4 (by decide) rfl rfl ?_
   intro a w' x hS hx H K Q hK
   obtain ⟨h0,hx1,-,-,-,h4,-⟩:=hS
   have o4:=h4 rfl
   have hc:=hx1 _ (hx rfl)
   obtain ⟨b,e4,m4⟩:=hc.words
   refine wp_words (s:=147) (x:=148) rfl W4.heap.size _ rfl _ o4 h0.size b 1 [⟨#[125]⟩] 1 rfl e4 m4 lM2 ?_
   intro v' w2 o5 g5 b5
   exact hK.out _ _ ⟨h0.trans b5,fun u e=>(hx1 u e).grown o4 g5,fun e=>absurd e (by decide),fun e=>absurd e (by decide),fun e=>absurd e (by decide),fun e=>absurd e (by decide),fun _=>o5⟩
 ·intro g x w' hS
  have hb1:=hS.1
  have ho1:OwnS W4.heap.size w' (g 149) ([⟨#[123]⟩]++M++[⟨#[125]⟩]):=hS.2.2.2.2.2.2 rfl
  obtain ⟨LF,hLF⟩:∃ LF,[⟨#[123]⟩]++M++[⟨#[125]⟩]=LF:=⟨_,rfl⟩
  rw [hLF] at ho1
  have HW2:Hid (pbr lv (shN litW N)=LF):=HW.out.trans hLF
  clear hLF HW hS
  obtain ⟨aa,cc,ev⟩:∃ aa cc,g 149=.slice aa _ cc:=ho1.form
  have ho2:=ev ▸ ho1
  simp only [ev,List.take_succ_cons,List.take_zero,List.drop_succ_cons,List.drop_zero,List.cons_append,List.nil_append,List.length_cons,List.length_nil,Nat.reduceAdd]
  have bf:=Below.then B4 hb1
  have HO:Hid (OwnS w.heap.size w' (.slice aa LF.length cc) LF):=ho2.base B4.size
  clear ho1 ho2
  go_simp
  go_wp2_with fail
  go_ret
  exact ⟨_,rfl,by rw [HW2.out];exact HO.out,bf⟩
theorem parts_all:∀ r,xD r
 | 0=>fun _ _ _ _ h=>absurd h (Nat.not_lt_zero _)
 | r+1=>fun cs N w lv hr ok hlv hsz h=>by
  have ih:=parts_all r
  by_cases k3:N.k=3
  ·exact parts_k3 r ih cs N w lv hr ok hlv hsz h k3
  by_cases k4:N.k=4
  ·exact parts_k4 r ih cs N w lv hr ok hlv hsz h k4
  by_cases k5:N.k=5
  ·exact parts_k5 r ih cs N w lv hr ok hlv hsz h k5
  by_cases k10:N.k=10
  ·exact parts_k10 r ih cs N w lv hr ok hlv hsz h k10
  by_cases k14:N.k=14
  ·exact parts_k14 r ih cs N w lv hr ok hlv hsz h k14
  by_cases k15:N.k=15
  ·exact parts_k15 r ih cs N w lv hr ok hlv hsz h k15
  by_cases k16:N.k=16
  ·exact parts_k16 r ih cs N w lv hr ok hlv hsz h k16
  exact parts_leaf r ih cs N w lv hr ok hlv hsz h ⟨k3,k4,k5,k10,k14,k15,k16⟩
theorem bodyAll (ba:Option Addr) (bc bb bo:Nat) (l:List St) (w:World) (lv:Nat) (ok:okL l=true) (hlv:lv+depB l<=100000) (hz:sizB l<=200000) (hl:l.length<=9223372036854775807) (ha:l≠[]->ba=some ⟨bb,bo,none⟩) (hat:StsAt w bb bo l) :
  Calls Tryz.prog 19 #[.slice ba l.length bc,.int .i64 lv] w (qn w.heap.size w (pbr lv (shB litW l))):=by
 obtain ⟨r,hr⟩:∃ r,∀ i (h:i<l.length),rkN l[i].te<r/\rkN l[i].nd<r:=by
  clear ok hlv hz hl ha hat
  induction l with
  | nil=>exact ⟨0,fun i h=>absurd h (by simp)⟩
  | cons S q ih =>
   obtain ⟨r,hr⟩:=ih
   refine ⟨max r (max (rkN S.te) (rkN S.nd)+1),fun i h=>?_⟩
   cases i with
   | zero=>simp only [List.getElem_cons_zero];omega
   | succ i=>have:=hr i (by simpa using h);simp only [List.getElem_cons_succ];omega
 exact bodyG r (parts_all r) ba bc bb bo l w lv hr ok hlv hz hl ha hat
end Go.Proofs.YtmfhdcpajgjgpaaGreatDoor.Syn
