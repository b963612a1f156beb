/-
  Layer 10: the program's hasOnlyItsFields. (Written by wip/gen/syn-p11.py.)
-/
import Derived.Test.YtalkinnbfglkdaaGreatDoorPt31
set_option maxHeartbeats 8000000
namespace Go.Proofs.YtalkinnbfglkdaaGreatDoor.Syn
open Go.RowKit Go.Proofs.YtalkinnbfglkdaaGreatDoor.Shape
set_option linter.unusedVariables false
set_option linter.unusedSimpArgs false
set_option maxRecDepth 100000
theorem Cells.put {w:World}{b:Nat}{cs:List Value}(h:Cells w b 0 cs) (i:Nat) (v:Value):Cells (w.setCell ⟨b,i,none⟩ v) b 0 (cs.set i v):=by
 intro j hj
 have hj':j<cs.length:=by simpa using hj
 have hc:=h j hj'
 simp only [Nat.zero_add] at hc ⊢
 by_cases e:i=j
 ·subst e
  rw [World.cell?_setCell_same _ _ _ hc];simp
 ·rw [World.cell?_setCell_other _ _ _ _ (by intro q;injection q with _ q2;exact e q2),hc]
  simp [e]
theorem eqK_nil (l:List Nd):eqK l [] =((l.length:Int)==0):=by
 cases l with
 | nil=>simp [eqK]
 | cons A r =>
  have:(((A::r).length:Int)==0)=false:=by simp;omega
  rw [this,eqK] <;> intros <;> simp_all
theorem eqB_nil (l:List St):eqB l [] =((l.length:Int)==0):=by
 cases l with
 | nil=>simp [eqB]
 | cons A r =>
  have:(((A::r).length:Int)==0)=false:=by simp;omega
  rw [this,eqB] <;> intros <;> simp_all
theorem text_nil (t:ByteArray):(t==(⟨#[]⟩:ByteArray))=noText t:=by
 have h:(⟨#[]⟩:ByteArray).toList=[]:=by rw [ByteArray.toList_eq]
 unfold noText
 rw [ba_beq,<- str_eq,h]
theorem eqA_zA:eqA zA zA=true:=by decide
theorem eq_empty (a:Int) (t:ByteArray) (p o:Int) (v:Arr) (ks:List Nd) (bd:List St) (d s z:Int):eqN (.mk 0 a 0 t p o v ks bd d s z) zN =(noText t&&p==0&&o==0&&eqA v zA&&(ks.length:Int)==0&&(bd.length:Int)==0):=by
 unfold zN
 rw [eqN,eqK_nil,eqB_nil,text_nil];simp
def stV (N:Nd):Nd:=.mk 0 N.a 0 N.t N.p N.o zA N.ks N.bd N.d N.s N.z
def ceV (cs:List Value):List Value:=(((((cs.set 0 (.int .i64 0)).set 2 (.int .i64 0)).set 6 (.int .i64 0)).set 7 (.slice none 0 0)).set 8 (.slice none 0 0)).set 9 (.slice none 0 0)
theorem eq_stV (N:Nd):eqN (stV N) zN=emptyB false false false true false false N:=by
 unfold stV emptyB
 rw [eq_empty]
 simp [eqA_zA,noText]
theorem nd_stV {w:World}{cs:List Value}{N:Nd}{v0 v1 v2 v3:Value}{ka:Option Addr}{kc:Nat}{ba:Option Addr}{bc kb ko bb bo:Nat}(O:Open w cs N v0 v1 v2 v3 ka kc ba bc kb ko bb bo):NdV w (ceV cs) (stV N):=by
 have e:=O.eq
 subst e
 obtain ⟨b0,b1,b2,b3,b4,b5,b6,b7⟩:=O.bd
 have z:I64 0:=⟨by decide,by decide⟩
 unfold stV
 rw [NdV]
 exact ⟨_,_,_,_,ka,kc,ba,bc,rfl,⟨z,b1,z,b3,b4,b5,b6,b7⟩,O.ts,zA_at w,O.kl,O.bl,⟨kb,ko,O.ka,O.kat⟩,⟨bb,bo,O.ba,O.bat⟩⟩
def stT (N:Nd):Nd:=.mk 0 N.a 0 ⟨#[]⟩ N.p N.o N.v N.ks N.bd N.d N.s N.z
def ceT (cs:List Value):List Value:=((cs.set 0 (.int .i64 0)).set 2 (.int .i64 0)).set 3 (.string ⟨#[]⟩)
theorem eq_stT (N:Nd):eqN (stT N) zN=emptyB true false false false false false N:=by
 unfold stT emptyB
 rw [eq_empty]
 simp [eqA_zA,noText]
theorem nd_stT {w:World}{cs:List Value}{N:Nd}{v0 v1 v2 v3:Value}{ka:Option Addr}{kc:Nat}{ba:Option Addr}{bc kb ko bb bo:Nat}(O:Open w cs N v0 v1 v2 v3 ka kc ba bc kb ko bb bo):NdV w (ceT cs) (stT N):=by
 have e:=O.eq
 subst e
 obtain ⟨b0,b1,b2,b3,b4,b5,b6,b7⟩:=O.bd
 have z:I64 0:=⟨by decide,by decide⟩
 unfold stT
 rw [NdV]
 exact ⟨v0,v1,v2,v3,ka,kc,ba,bc,rfl,⟨z,b1,z,b3,b4,b5,b6,b7⟩,by decide,O.arr,O.kl,O.bl,⟨kb,ko,O.ka,O.kat⟩,⟨bb,bo,O.ba,O.bat⟩⟩
def stK (N:Nd):Nd:=.mk 0 N.a 0 N.t N.p N.o N.v [] N.bd N.d N.s N.z
def ceK (cs:List Value):List Value:=((cs.set 0 (.int .i64 0)).set 2 (.int .i64 0)).set 10 (.slice none 0 0)
theorem eq_stK (N:Nd):eqN (stK N) zN=emptyB false false false false true false N:=by
 unfold stK emptyB
 rw [eq_empty]
 simp [eqA_zA,noText]
theorem nd_stK {w:World}{cs:List Value}{N:Nd}{v0 v1 v2 v3:Value}{ka:Option Addr}{kc:Nat}{ba:Option Addr}{bc kb ko bb bo:Nat}(O:Open w cs N v0 v1 v2 v3 ka kc ba bc kb ko bb bo):NdV w (ceK cs) (stK N):=by
 have e:=O.eq
 subst e
 obtain ⟨b0,b1,b2,b3,b4,b5,b6,b7⟩:=O.bd
 have z:I64 0:=⟨by decide,by decide⟩
 unfold stK
 rw [NdV]
 exact ⟨v0,v1,v2,v3,none,0,ba,bc,rfl,⟨z,b1,z,b3,b4,b5,b6,b7⟩,O.ts,O.arr,⟨Nat.zero_le _,by decide⟩,O.bl,⟨0,0,fun h=>absurd rfl h,by rw [NdsAt];trivial⟩,⟨bb,bo,O.ba,O.bat⟩⟩
def stP (N:Nd):Nd:=.mk 0 N.a 0 N.t 0 N.o N.v N.ks N.bd N.d N.s N.z
def ceP (cs:List Value):List Value:=((cs.set 0 (.int .i64 0)).set 2 (.int .i64 0)).set 4 (.int .i64 0)
theorem eq_stP (N:Nd):eqN (stP N) zN=emptyB false true false false false false N:=by
 unfold stP emptyB
 rw [eq_empty]
 simp [eqA_zA,noText]
theorem nd_stP {w:World}{cs:List Value}{N:Nd}{v0 v1 v2 v3:Value}{ka:Option Addr}{kc:Nat}{ba:Option Addr}{bc kb ko bb bo:Nat}(O:Open w cs N v0 v1 v2 v3 ka kc ba bc kb ko bb bo):NdV w (ceP cs) (stP N):=by
 have e:=O.eq
 subst e
 obtain ⟨b0,b1,b2,b3,b4,b5,b6,b7⟩:=O.bd
 have z:I64 0:=⟨by decide,by decide⟩
 unfold stP
 rw [NdV]
 exact ⟨v0,v1,v2,v3,ka,kc,ba,bc,rfl,⟨z,b1,z,z,b4,b5,b6,b7⟩,O.ts,O.arr,O.kl,O.bl,⟨kb,ko,O.ka,O.kat⟩,⟨bb,bo,O.ba,O.bat⟩⟩
def stB (N:Nd):Nd:=.mk 0 N.a 0 N.t N.p N.o N.v N.ks [] N.d N.s N.z
def ceB (cs:List Value):List Value:=((cs.set 0 (.int .i64 0)).set 2 (.int .i64 0)).set 11 (.slice none 0 0)
theorem eq_stB (N:Nd):eqN (stB N) zN=emptyB false false false false false true N:=by
 unfold stB emptyB
 rw [eq_empty]
 simp [eqA_zA,noText]
theorem nd_stB {w:World}{cs:List Value}{N:Nd}{v0 v1 v2 v3:Value}{ka:Option Addr}{kc:Nat}{ba:Option Addr}{bc kb ko bb bo:Nat}(O:Open w cs N v0 v1 v2 v3 ka kc ba bc kb ko bb bo):NdV w (ceB cs) (stB N):=by
 have e:=O.eq
 subst e
 obtain ⟨b0,b1,b2,b3,b4,b5,b6,b7⟩:=O.bd
 have z:I64 0:=⟨by decide,by decide⟩
 unfold stB
 rw [NdV]
 exact ⟨v0,v1,v2,v3,ka,kc,none,0,rfl,⟨z,b1,z,b3,b4,b5,b6,b7⟩,O.ts,O.arr,O.kl,⟨Nat.zero_le _,by decide⟩,⟨kb,ko,O.ka,O.kat⟩,⟨0,0,fun h=>absurd rfl h,by rw [StsAt];trivial⟩⟩
def stO (N:Nd):Nd:=.mk 0 N.a 0 N.t N.p 0 N.v N.ks N.bd N.d N.s N.z
def ceO (cs:List Value):List Value:=((cs.set 0 (.int .i64 0)).set 2 (.int .i64 0)).set 5 (.int .i64 0)
theorem eq_stO (N:Nd):eqN (stO N) zN=emptyB false false true false false false N:=by
 unfold stO emptyB
 rw [eq_empty]
 simp [eqA_zA,noText]
theorem nd_stO {w:World}{cs:List Value}{N:Nd}{v0 v1 v2 v3:Value}{ka:Option Addr}{kc:Nat}{ba:Option Addr}{bc kb ko bb bo:Nat}(O:Open w cs N v0 v1 v2 v3 ka kc ba bc kb ko bb bo):NdV w (ceO cs) (stO N):=by
 have e:=O.eq
 subst e
 obtain ⟨b0,b1,b2,b3,b4,b5,b6,b7⟩:=O.bd
 have z:I64 0:=⟨by decide,by decide⟩
 unfold stO
 rw [NdV]
 exact ⟨v0,v1,v2,v3,ka,kc,ba,bc,rfl,⟨z,b1,z,b3,z,b5,b6,b7⟩,O.ts,O.arr,O.kl,O.bl,⟨kb,ko,O.ka,O.kat⟩,⟨bb,bo,O.ba,O.bat⟩⟩
def stE (N:Nd):Nd:=.mk 0 N.a 0 N.t N.p N.o N.v N.ks N.bd N.d N.s N.z
def ceE (cs:List Value):List Value:=(cs.set 0 (.int .i64 0)).set 2 (.int .i64 0)
theorem eq_stE (N:Nd):eqN (stE N) zN=emptyB false false false false false false N:=by
 unfold stE emptyB
 rw [eq_empty]
 simp [eqA_zA,noText]
theorem nd_stE {w:World}{cs:List Value}{N:Nd}{v0 v1 v2 v3:Value}{ka:Option Addr}{kc:Nat}{ba:Option Addr}{bc kb ko bb bo:Nat}(O:Open w cs N v0 v1 v2 v3 ka kc ba bc kb ko bb bo):NdV w (ceE cs) (stE N):=by
 have e:=O.eq
 subst e
 obtain ⟨b0,b1,b2,b3,b4,b5,b6,b7⟩:=O.bd
 have z:I64 0:=⟨by decide,by decide⟩
 unfold stE
 rw [NdV]
 exact ⟨v0,v1,v2,v3,ka,kc,ba,bc,rfl,⟨z,b1,z,b3,b4,b5,b6,b7⟩,O.ts,O.arr,O.kl,O.bl,⟨kb,ko,O.ka,O.kat⟩,⟨bb,bo,O.ba,O.bat⟩⟩
def kindB (N:Nd):Bool :=
 if N.k=1 then emptyB false false false true false false N else if N.k=2 then emptyB true false false false false false N
 else if N.k=3∨N.k=4∨N.k=5∨N.k=14∨N.k=15∨N.k=16 then emptyB false false false false true false N
 else if N.k=9 then emptyB false true false false false false N else if N.k=10 then emptyB false false false false false true N else if N.k=17 then emptyB false false true false false false N else emptyB false false false false false false N
def onlyB (N:Nd):Bool:=nonNeg N&&kindB N
theorem call_stV {w:World}{cs:List Value}{N:Nd}{v0 v1 v2 v3:Value}{ka:Option Addr}{kc:Nat}{ba:Option Addr}{bc kb ko bb bo:Nat}(O:Open w cs N v0 v1 v2 v3 ka kc ba bc kb ko bb bo) :
  Calls Tryz.prog 91 #[.pointer (some ⟨w.heap.size,0,none⟩),.pointer (some ⟨w.heap.size+1,0,none⟩)] ((w.alloc (.cells (ceV cs).toArray 49)).alloc (.cells zNv.toArray 49)) fun e w'=>e=.returned (.bool (emptyB false false false true false false N))/\Below w.heap.size w w':=by
 have B:=below_new w (.cells (ceV cs).toArray 49)
 have M:NdM (w.alloc (.cells (ceV cs).toArray 49)) w.heap.size 0 (stV N):=(nd_stV O).mem _
 have hs:(w.alloc (.cells (ceV cs).toArray 49)).heap.size=w.heap.size+1:=by simp
 have C:=sameNodeP _ 0 _ 0 (stV N) zN _ (M.below (below_new _ (.cells zNv.toArray 49))) (zN_mem _)
 rw [hs,eq_stV] at C
 exact C.mono (fun e w' ⟨h1,h2⟩=>⟨h1,Below.then (Below.then B (below_new _ _)) h2⟩)
theorem call_stT {w:World}{cs:List Value}{N:Nd}{v0 v1 v2 v3:Value}{ka:Option Addr}{kc:Nat}{ba:Option Addr}{bc kb ko bb bo:Nat}(O:Open w cs N v0 v1 v2 v3 ka kc ba bc kb ko bb bo) :
  Calls Tryz.prog 91 #[.pointer (some ⟨w.heap.size,0,none⟩),.pointer (some ⟨w.heap.size+1,0,none⟩)] ((w.alloc (.cells (ceT cs).toArray 49)).alloc (.cells zNv.toArray 49)) fun e w'=>e=.returned (.bool (emptyB true false false false false false N))/\Below w.heap.size w w':=by
 have B:=below_new w (.cells (ceT cs).toArray 49)
 have M:NdM (w.alloc (.cells (ceT cs).toArray 49)) w.heap.size 0 (stT N):=(nd_stT O).mem _
 have hs:(w.alloc (.cells (ceT cs).toArray 49)).heap.size=w.heap.size+1:=by simp
 have C:=sameNodeP _ 0 _ 0 (stT N) zN _ (M.below (below_new _ (.cells zNv.toArray 49))) (zN_mem _)
 rw [hs,eq_stT] at C
 exact C.mono (fun e w' ⟨h1,h2⟩=>⟨h1,Below.then (Below.then B (below_new _ _)) h2⟩)
theorem call_stK {w:World}{cs:List Value}{N:Nd}{v0 v1 v2 v3:Value}{ka:Option Addr}{kc:Nat}{ba:Option Addr}{bc kb ko bb bo:Nat}(O:Open w cs N v0 v1 v2 v3 ka kc ba bc kb ko bb bo) :
  Calls Tryz.prog 91 #[.pointer (some ⟨w.heap.size,0,none⟩),.pointer (some ⟨w.heap.size+1,0,none⟩)] ((w.alloc (.cells (ceK cs).toArray 49)).alloc (.cells zNv.toArray 49)) fun e w'=>e=.returned (.bool (emptyB false false false false true false N))/\Below w.heap.size w w':=by
 have B:=below_new w (.cells (ceK cs).toArray 49)
 have M:NdM (w.alloc (.cells (ceK cs).toArray 49)) w.heap.size 0 (stK N):=(nd_stK O).mem _
 have hs:(w.alloc (.cells (ceK cs).toArray 49)).heap.size=w.heap.size+1:=by simp
 have C:=sameNodeP _ 0 _ 0 (stK N) zN _ (M.below (below_new _ (.cells zNv.toArray 49))) (zN_mem _)
 rw [hs,eq_stK] at C
 exact C.mono (fun e w' ⟨h1,h2⟩=>⟨h1,Below.then (Below.then B (below_new _ _)) h2⟩)
theorem call_stP {w:World}{cs:List Value}{N:Nd}{v0 v1 v2 v3:Value}{ka:Option Addr}{kc:Nat}{ba:Option Addr}{bc kb ko bb bo:Nat}(O:Open w cs N v0 v1 v2 v3 ka kc ba bc kb ko bb bo) :
  Calls Tryz.prog 91 #[.pointer (some ⟨w.heap.size,0,none⟩),.pointer (some ⟨w.heap.size+1,0,none⟩)] ((w.alloc (.cells (ceP cs).toArray 49)).alloc (.cells zNv.toArray 49)) fun e w'=>e=.returned (.bool (emptyB false true false false false false N))/\Below w.heap.size w w':=by
 have B:=below_new w (.cells (ceP cs).toArray 49)
 have M:NdM (w.alloc (.cells (ceP cs).toArray 49)) w.heap.size 0 (stP N):=(nd_stP O).mem _
 have hs:(w.alloc (.cells (ceP cs).toArray 49)).heap.size=w.heap.size+1:=by simp
 have C:=sameNodeP _ 0 _ 0 (stP N) zN _ (M.below (below_new _ (.cells zNv.toArray 49))) (zN_mem _)
 rw [hs,eq_stP] at C
 exact C.mono (fun e w' ⟨h1,h2⟩=>⟨h1,Below.then (Below.then B (below_new _ _)) h2⟩)
theorem call_stB {w:World}{cs:List Value}{N:Nd}{v0 v1 v2 v3:Value}{ka:Option Addr}{kc:Nat}{ba:Option Addr}{bc kb ko bb bo:Nat}(O:Open w cs N v0 v1 v2 v3 ka kc ba bc kb ko bb bo) :
  Calls Tryz.prog 91 #[.pointer (some ⟨w.heap.size,0,none⟩),.pointer (some ⟨w.heap.size+1,0,none⟩)] ((w.alloc (.cells (ceB cs).toArray 49)).alloc (.cells zNv.toArray 49)) fun e w'=>e=.returned (.bool (emptyB false false false false false true N))/\Below w.heap.size w w':=by
 have B:=below_new w (.cells (ceB cs).toArray 49)
 have M:NdM (w.alloc (.cells (ceB cs).toArray 49)) w.heap.size 0 (stB N):=(nd_stB O).mem _
 have hs:(w.alloc (.cells (ceB cs).toArray 49)).heap.size=w.heap.size+1:=by simp
 have C:=sameNodeP _ 0 _ 0 (stB N) zN _ (M.below (below_new _ (.cells zNv.toArray 49))) (zN_mem _)
 rw [hs,eq_stB] at C
 exact C.mono (fun e w' ⟨h1,h2⟩=>⟨h1,Below.then (Below.then B (below_new _ _)) h2⟩)
theorem call_stO {w:World}{cs:List Value}{N:Nd}{v0 v1 v2 v3:Value}{ka:Option Addr}{kc:Nat}{ba:Option Addr}{bc kb ko bb bo:Nat}(O:Open w cs N v0 v1 v2 v3 ka kc ba bc kb ko bb bo) :
  Calls Tryz.prog 91 #[.pointer (some ⟨w.heap.size,0,none⟩),.pointer (some ⟨w.heap.size+1,0,none⟩)] ((w.alloc (.cells (ceO cs).toArray 49)).alloc (.cells zNv.toArray 49)) fun e w'=>e=.returned (.bool (emptyB false false true false false false N))/\Below w.heap.size w w':=by
 have B:=below_new w (.cells (ceO cs).toArray 49)
 have M:NdM (w.alloc (.cells (ceO cs).toArray 49)) w.heap.size 0 (stO N):=(nd_stO O).mem _
 have hs:(w.alloc (.cells (ceO cs).toArray 49)).heap.size=w.heap.size+1:=by simp
 have C:=sameNodeP _ 0 _ 0 (stO N) zN _ (M.below (below_new _ (.cells zNv.toArray 49))) (zN_mem _)
 rw [hs,eq_stO] at C
 exact C.mono (fun e w' ⟨h1,h2⟩=>⟨h1,Below.then (Below.then B (below_new _ _)) h2⟩)
theorem call_stE {w:World}{cs:List Value}{N:Nd}{v0 v1 v2 v3:Value}{ka:Option Addr}{kc:Nat}{ba:Option Addr}{bc kb ko bb bo:Nat}(O:Open w cs N v0 v1 v2 v3 ka kc ba bc kb ko bb bo) :
  Calls Tryz.prog 91 #[.pointer (some ⟨w.heap.size,0,none⟩),.pointer (some ⟨w.heap.size+1,0,none⟩)] ((w.alloc (.cells (ceE cs).toArray 49)).alloc (.cells zNv.toArray 49)) fun e w'=>e=.returned (.bool (emptyB false false false false false false N))/\Below w.heap.size w w':=by
 have B:=below_new w (.cells (ceE cs).toArray 49)
 have M:NdM (w.alloc (.cells (ceE cs).toArray 49)) w.heap.size 0 (stE N):=(nd_stE O).mem _
 have hs:(w.alloc (.cells (ceE cs).toArray 49)).heap.size=w.heap.size+1:=by simp
 have C:=sameNodeP _ 0 _ 0 (stE N) zN _ (M.below (below_new _ (.cells zNv.toArray 49))) (zN_mem _)
 rw [hs,eq_stE] at C
 exact C.mono (fun e w' ⟨h1,h2⟩=>⟨h1,Below.then (Below.then B (below_new _ _)) h2⟩)
theorem onlyP (N:Nd) (b off:Nat) (w:World) (h:NdM w b off N):Calls Tryz.prog 77 #[.pointer (some ⟨b,off,none⟩)] w fun e w'=>e=.returned (.bool (onlyB N))/\Below w.heap.size w w':=by
 obtain ⟨cs,v0,v1,v2,v3,ka,kc,ba,bc,kb,ko,bb,bo,O,hC,lC,G⟩:=h.opn
 obtain ⟨g0,g1,-,-,-,-,-,-,-,-,-,-,g12,g13,g14⟩:=id G
 have oC:=O.ndv.one
 have hC0:=cells_new w cs 49
 have F:=O.nf hC0
 obtain ⟨r,hr⟩:∃ r,onlyB N=r:=⟨_,rfl⟩
 rw [hr]
 have HQ:Hid ((nonNeg N&&kindB N)=r):=hr
 clear hr h
 unfold nonNeg at HQ
 by_cases na:N.a<0
 ·have HG:Hid (r=false):=by unfold Hid;rw [<- HQ.out,decide_eq_true na];simp
  clear HQ O hC G F oC
  go_enter Tryz.func77,Tryz.ntmps77
  go_wp2_with fail
  go_ret
  exact ⟨ret_bool HG.out.symm,Below.refl _ _⟩
 by_cases nd:N.d<0
 ·have HG:Hid (r=false):=by unfold Hid;rw [<- HQ.out,decide_eq_true nd];simp
  clear HQ O hC G F oC
  go_enter Tryz.func77,Tryz.ntmps77
  go_wp2_with fail
  go_ret
  exact ⟨ret_bool HG.out.symm,Below.refl _ _⟩
 by_cases ns:N.s<0
 ·have HG:Hid (r=false):=by unfold Hid;rw [<- HQ.out,decide_eq_true ns];simp
  clear HQ O hC G F oC
  go_enter Tryz.func77,Tryz.ntmps77
  go_wp2_with fail
  go_ret
  exact ⟨ret_bool HG.out.symm,Below.refl _ _⟩
 by_cases nz:N.z<0
 ·have HG:Hid (r=false):=by unfold Hid;rw [<- HQ.out,decide_eq_true nz];simp
  clear HQ O hC G F oC
  go_enter Tryz.func77,Tryz.ntmps77
  go_wp2_with fail
  go_ret
  exact ⟨ret_bool HG.out.symm,Below.refl _ _⟩
 have HK:Hid (kindB N=r):=by unfold Hid;rw [<- HQ.out,decide_eq_false na,decide_eq_false nd,decide_eq_false ns,decide_eq_false nz];simp
 clear HQ G
 unfold kindB at HK
 obtain ⟨p0,p1,p2,p3,p4,p5,p10,p11,p12,p13,p14⟩:=id F
 have B0:=below_new w (.cells cs.toArray 49)
 have hne:¬ w.heap.size=b:=by have:=cell_lt g0;intro e;subst e;exact absurd this (Nat.lt_irrefl _)
 have k0:=((below_new w (.cells ((cs.set 0 (.int .i64 0)).set 2 (.int .i64 0)).toArray 49)).cell (cell_lt g0)).trans g0
 by_cases k1:N.k=1
 ·rw [k1] at g0 k0 p0
  simp only [k1] at HK
  have HK:=(show Hid (emptyB false false false true false false N=r) from HK)
  clear k1
  have C:=call_stV O
  unfold zNv ceV at C
  obtain ⟨q,hq⟩:∃ q,emptyB false false false true false false N=q:=⟨_,rfl⟩
  rw [hq] at C HK
  clear hq O F
  go_enter Tryz.func77,Tryz.ntmps77
  go_wp2_with (first |((with_reducible show wpList _ _ _ ({ dst:=_,op:=Op.load 49 _,type:=_,pos:=_,after:=_,guard:=none }::_) _ _);refine wpList_load_node rfl rfl rfl hC lC ?_) |((with_reducible show wpList _ _ _ ({ dst:=_,op:=Op.store 49 _ _,type:=_,pos:=_,after:=_,guard:=none }::_) _ _);refine wpList_store_whole rfl rfl rfl rfl infoNode lC rfl oC ?_) |(go_at_call 91;((with_reducible refine C.mono ?_);rintro e w3 ⟨rfl,b3⟩)))
  go_ret
  exact ⟨ret_bool HK.out,b3⟩
 by_cases k2:N.k=2
 ·rw [k2] at g0 k0 p0
  simp only [k2] at HK
  have HK:=(show Hid (emptyB true false false false false false N=r) from HK)
  clear k2 k1
  have C:=call_stT O
  unfold zNv ceT at C
  obtain ⟨q,hq⟩:∃ q,emptyB true false false false false false N=q:=⟨_,rfl⟩
  rw [hq] at C HK
  clear hq O F
  go_enter Tryz.func77,Tryz.ntmps77
  go_wp2_with (first |((with_reducible show wpList _ _ _ ({ dst:=_,op:=Op.load 49 _,type:=_,pos:=_,after:=_,guard:=none }::_) _ _);refine wpList_load_node rfl rfl rfl hC lC ?_) |((with_reducible show wpList _ _ _ ({ dst:=_,op:=Op.store 49 _ _,type:=_,pos:=_,after:=_,guard:=none }::_) _ _);refine wpList_store_whole rfl rfl rfl rfl infoNode lC rfl oC ?_) |(go_at_call 91;((with_reducible refine C.mono ?_);rintro e w3 ⟨rfl,b3⟩)))
  go_ret
  exact ⟨ret_bool HK.out,b3⟩
 by_cases k3:N.k=3
 ·rw [k3] at g0 k0 p0
  simp only [k3] at HK
  have HK:=(show Hid (emptyB false false false false true false N=r) from HK)
  clear k3 k1 k2
  have C:=call_stK O
  unfold zNv ceK at C
  obtain ⟨q,hq⟩:∃ q,emptyB false false false false true false N=q:=⟨_,rfl⟩
  rw [hq] at C HK
  clear hq O F
  go_enter Tryz.func77,Tryz.ntmps77
  go_wp2_with (first |((with_reducible show wpList _ _ _ ({ dst:=_,op:=Op.load 49 _,type:=_,pos:=_,after:=_,guard:=none }::_) _ _);refine wpList_load_node rfl rfl rfl hC lC ?_) |((with_reducible show wpList _ _ _ ({ dst:=_,op:=Op.store 49 _ _,type:=_,pos:=_,after:=_,guard:=none }::_) _ _);refine wpList_store_whole rfl rfl rfl rfl infoNode lC rfl oC ?_) |(go_at_call 91;((with_reducible refine C.mono ?_);rintro e w3 ⟨rfl,b3⟩)))
  go_ret
  exact ⟨ret_bool HK.out,b3⟩
 by_cases k4:N.k=4
 ·rw [k4] at g0 k0 p0
  simp only [k4] at HK
  have HK:=(show Hid (emptyB false false false false true false N=r) from HK)
  clear k4 k1 k2 k3
  have C:=call_stK O
  unfold zNv ceK at C
  obtain ⟨q,hq⟩:∃ q,emptyB false false false false true false N=q:=⟨_,rfl⟩
  rw [hq] at C HK
  clear hq O F
  go_enter Tryz.func77,Tryz.ntmps77
  go_wp2_with (first |((with_reducible show wpList _ _ _ ({ dst:=_,op:=Op.load 49 _,type:=_,pos:=_,after:=_,guard:=none }::_) _ _);refine wpList_load_node rfl rfl rfl hC lC ?_) |((with_reducible show wpList _ _ _ ({ dst:=_,op:=Op.store 49 _ _,type:=_,pos:=_,after:=_,guard:=none }::_) _ _);refine wpList_store_whole rfl rfl rfl rfl infoNode lC rfl oC ?_) |(go_at_call 91;((with_reducible refine C.mono ?_);rintro e w3 ⟨rfl,b3⟩)))
  go_ret
  exact ⟨ret_bool HK.out,b3⟩
 by_cases k5:N.k=5
 ·rw [k5] at g0 k0 p0
  simp only [k5] at HK
  have HK:=(show Hid (emptyB false false false false true false N=r) from HK)
  clear k5 k1 k2 k3 k4
  have C:=call_stK O
  unfold zNv ceK at C
  obtain ⟨q,hq⟩:∃ q,emptyB false false false false true false N=q:=⟨_,rfl⟩
  rw [hq] at C HK
  clear hq O F
  go_enter Tryz.func77,Tryz.ntmps77
  go_wp2_with (first |((with_reducible show wpList _ _ _ ({ dst:=_,op:=Op.load 49 _,type:=_,pos:=_,after:=_,guard:=none }::_) _ _);refine wpList_load_node rfl rfl rfl hC lC ?_) |((with_reducible show wpList _ _ _ ({ dst:=_,op:=Op.store 49 _ _,type:=_,pos:=_,after:=_,guard:=none }::_) _ _);refine wpList_store_whole rfl rfl rfl rfl infoNode lC rfl oC ?_) |(go_at_call 91;((with_reducible refine C.mono ?_);rintro e w3 ⟨rfl,b3⟩)))
  go_ret
  exact ⟨ret_bool HK.out,b3⟩
 by_cases k14:N.k=14
 ·rw [k14] at g0 k0 p0
  simp only [k14] at HK
  have HK:=(show Hid (emptyB false false false false true false N=r) from HK)
  clear k14 k1 k2 k3 k4 k5
  have C:=call_stK O
  unfold zNv ceK at C
  obtain ⟨q,hq⟩:∃ q,emptyB false false false false true false N=q:=⟨_,rfl⟩
  rw [hq] at C HK
  clear hq O F
  go_enter Tryz.func77,Tryz.ntmps77
  go_wp2_with (first |((with_reducible show wpList _ _ _ ({ dst:=_,op:=Op.load 49 _,type:=_,pos:=_,after:=_,guard:=none }::_) _ _);refine wpList_load_node rfl rfl rfl hC lC ?_) |((with_reducible show wpList _ _ _ ({ dst:=_,op:=Op.store 49 _ _,type:=_,pos:=_,after:=_,guard:=none }::_) _ _);refine wpList_store_whole rfl rfl rfl rfl infoNode lC rfl oC ?_) |(go_at_call 91;((with_reducible refine C.mono ?_);rintro e w3 ⟨rfl,b3⟩)))
  go_ret
  exact ⟨ret_bool HK.out,b3⟩
 by_cases k15:N.k=15
 ·rw [k15] at g0 k0 p0
  simp only [k15] at HK
  have HK:=(show Hid (emptyB false false false false true false N=r) from HK)
  clear k15 k1 k2 k3 k4 k5 k14
  have C:=call_stK O
  unfold zNv ceK at C
  obtain ⟨q,hq⟩:∃ q,emptyB false false false false true false N=q:=⟨_,rfl⟩
  rw [hq] at C HK
  clear hq O F
  go_enter Tryz.func77,Tryz.ntmps77
  go_wp2_with (first |((with_reducible show wpList _ _ _ ({ dst:=_,op:=Op.load 49 _,type:=_,pos:=_,after:=_,guard:=none }::_) _ _);refine wpList_load_node rfl rfl rfl hC lC ?_) |((with_reducible show wpList _ _ _ ({ dst:=_,op:=Op.store 49 _ _,type:=_,pos:=_,after:=_,guard:=none }::_) _ _);refine wpList_store_whole rfl rfl rfl rfl infoNode lC rfl oC ?_) |(go_at_call 91;((with_reducible refine C.mono ?_);rintro e w3 ⟨rfl,b3⟩)))
  go_ret
  exact ⟨ret_bool HK.out,b3⟩
 by_cases k16:N.k=16
 ·rw [k16] at g0 k0 p0
  simp only [k16] at HK
  have HK:=(show Hid (emptyB false false false false true false N=r) from HK)
  clear k16 k1 k2 k3 k4 k5 k14 k15
  have C:=call_stK O
  unfold zNv ceK at C
  obtain ⟨q,hq⟩:∃ q,emptyB false false false false true false N=q:=⟨_,rfl⟩
  rw [hq] at C HK
  clear hq O F
  go_enter Tryz.func77,Tryz.ntmps77
  go_wp2_with (first |((with_reducible show wpList _ _ _ ({ dst:=_,op:=Op.load 49 _,type:=_,pos:=_,after:=_,guard:=none }::_) _ _);refine wpList_load_node rfl rfl rfl hC lC ?_) |((with_reducible show wpList _ _ _ ({ dst:=_,op:=Op.store 49 _ _,type:=_,pos:=_,after:=_,guard:=none }::_) _ _);refine wpList_store_whole rfl rfl rfl rfl infoNode lC rfl oC ?_) |(go_at_call 91;((with_reducible refine C.mono ?_);rintro e w3 ⟨rfl,b3⟩)))
  go_ret
  exact ⟨ret_bool HK.out,b3⟩
 by_cases k9:N.k=9
 ·rw [k9] at g0 k0 p0
  simp only [k9] at HK
  have HK:=(show Hid (emptyB false true false false false false N=r) from HK)
  clear k9 k1 k2 k3 k4 k5 k14 k15 k16
  have C:=call_stP O
  unfold zNv ceP at C
  obtain ⟨q,hq⟩:∃ q,emptyB false true false false false false N=q:=⟨_,rfl⟩
  rw [hq] at C HK
  clear hq O F
  go_enter Tryz.func77,Tryz.ntmps77
  go_wp2_with (first |((with_reducible show wpList _ _ _ ({ dst:=_,op:=Op.load 49 _,type:=_,pos:=_,after:=_,guard:=none }::_) _ _);refine wpList_load_node rfl rfl rfl hC lC ?_) |((with_reducible show wpList _ _ _ ({ dst:=_,op:=Op.store 49 _ _,type:=_,pos:=_,after:=_,guard:=none }::_) _ _);refine wpList_store_whole rfl rfl rfl rfl infoNode lC rfl oC ?_) |(go_at_call 91;((with_reducible refine C.mono ?_);rintro e w3 ⟨rfl,b3⟩)))
  go_ret
  exact ⟨ret_bool HK.out,b3⟩
 by_cases k10:N.k=10
 ·rw [k10] at g0 k0 p0
  simp only [k10] at HK
  have HK:=(show Hid (emptyB false false false false false true N=r) from HK)
  clear k10 k1 k2 k3 k4 k5 k14 k15 k16 k9
  have C:=call_stB O
  unfold zNv ceB at C
  obtain ⟨q,hq⟩:∃ q,emptyB false false false false false true N=q:=⟨_,rfl⟩
  rw [hq] at C HK
  clear hq O F
  go_enter Tryz.func77,Tryz.ntmps77
  go_wp2_with (first |((with_reducible show wpList _ _ _ ({ dst:=_,op:=Op.load 49 _,type:=_,pos:=_,after:=_,guard:=none }::_) _ _);refine wpList_load_node rfl rfl rfl hC lC ?_) |((with_reducible show wpList _ _ _ ({ dst:=_,op:=Op.store 49 _ _,type:=_,pos:=_,after:=_,guard:=none }::_) _ _);refine wpList_store_whole rfl rfl rfl rfl infoNode lC rfl oC ?_) |(go_at_call 91;((with_reducible refine C.mono ?_);rintro e w3 ⟨rfl,b3⟩)))
  go_ret
  exact ⟨ret_bool HK.out,b3⟩
 by_cases k17:N.k=17
 ·rw [k17] at g0 k0 p0
  simp only [k17] at HK
  have HK:=(show Hid (emptyB false false true false false false N=r) from HK)
  clear k17 k1 k2 k3 k4 k5 k14 k15 k16 k9 k10
  have C:=call_stO O
  unfold zNv ceO at C
  obtain ⟨q,hq⟩:∃ q,emptyB false false true false false false N=q:=⟨_,rfl⟩
  rw [hq] at C HK
  clear hq O F
  go_enter Tryz.func77,Tryz.ntmps77
  go_wp2_with (first |((with_reducible show wpList _ _ _ ({ dst:=_,op:=Op.load 49 _,type:=_,pos:=_,after:=_,guard:=none }::_) _ _);refine wpList_load_node rfl rfl rfl hC lC ?_) |((with_reducible show wpList _ _ _ ({ dst:=_,op:=Op.store 49 _ _,type:=_,pos:=_,after:=_,guard:=none }::_) _ _);refine wpList_store_whole rfl rfl rfl rfl infoNode lC rfl oC ?_) |(go_at_call 91;((with_reducible refine C.mono ?_);rintro e w3 ⟨rfl,b3⟩)))
  go_ret
  exact ⟨ret_bool HK.out,b3⟩
 have HK:Hid (emptyB false false false false false false N=r):=by unfold Hid;rw [<- HK.out];simp [k1,k2,k3,k4,k5,k14,k15,k16,k9,k10,k17]
 have e1:(N.k==1)=false:=by simpa using k1
 have e2:(N.k==2)=false:=by simpa using k2
 have e3:(N.k==3)=false:=by simpa using k3
 have e4:(N.k==4)=false:=by simpa using k4
 have e5:(N.k==5)=false:=by simpa using k5
 have e14:(N.k==14)=false:=by simpa using k14
 have e15:(N.k==15)=false:=by simpa using k15
 have e16:(N.k==16)=false:=by simpa using k16
 have e9:(N.k==9)=false:=by simpa using k9
 have e10:(N.k==10)=false:=by simpa using k10
 have e17:(N.k==17)=false:=by simpa using k17
 clear k1 k2 k3 k4 k5 k14 k15 k16 k9 k10 k17
 have C:=call_stE O
 unfold zNv ceE at C
 obtain ⟨q,hq⟩:∃ q,emptyB false false false false false false N=q:=⟨_,rfl⟩
 rw [hq] at C HK
 clear hq O F
 go_enter Tryz.func77,Tryz.ntmps77
 go_wp2_with (first |((with_reducible show wpList _ _ _ ({ dst:=_,op:=Op.load 49 _,type:=_,pos:=_,after:=_,guard:=none }::_) _ _);refine wpList_load_node rfl rfl rfl hC lC ?_) |((with_reducible show wpList _ _ _ ({ dst:=_,op:=Op.store 49 _ _,type:=_,pos:=_,after:=_,guard:=none }::_) _ _);refine wpList_store_whole rfl rfl rfl rfl infoNode lC rfl oC ?_) |(go_at_call 91;((with_reducible refine C.mono ?_);rintro e w3 ⟨rfl,b3⟩)))
 go_ret
 exact ⟨ret_bool HK.out,b3⟩
end Go.Proofs.YtalkinnbfglkdaaGreatDoor.Syn
