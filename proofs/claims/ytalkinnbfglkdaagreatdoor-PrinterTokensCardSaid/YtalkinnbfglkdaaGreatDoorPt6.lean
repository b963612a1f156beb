/-
  Layer 1: what the small functions do: Fits, both, checked, checkDivision, abs and the law's own 'is', of the program and of the reference.
  Layer 1: Show of the program: it writes the digits from the last one on into an array of its own.
  Layer 1: Show of the reference: it calls itself.
-/
import Derived.Test.YtalkinnbfglkdaaGreatDoorRows
import Derived.Test.YtalkinnbfglkdaaGreatDoorPt1
import Derived.WalkKit
import Derived.WalkSpells
import Derived.WalkLawsBesides
import Derived.Laws.IdiomStrings
import Derived.Deep.QuietTactic
import Derived.BigQuiet
set_option maxHeartbeats 1000000
namespace Go.Proofs.YtalkinnbfglkdaaGreatDoor.Num
open Go.RowKit
theorem ret_bool {x y:Bool}(h:x=y):Ending.returned (.bool x)=.returned (.bool y):=by rw [h]
theorem pair_mk {p:Int × Int}{x y:Int}(h:p =(x,y)):Ending.returned (.tuple #[.int .i64 x,.int .i64 y])=.returned (.tuple #[.int .i64 p.1,.int .i64 p.2]):=by rw [h]
end Go.Proofs.YtalkinnbfglkdaaGreatDoor.Num
namespace Go.Proofs.YtalkinnbfglkdaaGreatDoor.Num
open Go.RowKit
set_option maxRecDepth 100000
def Text (wr:World) (B A:Nat) (D:List UInt8):Prop :=
 A<=20/\D.length=20 - A/\(∀ i,i<20->∃ u,wr.cell? ⟨B,i,none⟩=some (.int .u8 u))/\(∀ i,i<20->wr.frozen? ⟨B,i,none⟩=false) /\
  ∀ j (h:j<D.length),wr.cell? ⟨B,A+j,none⟩=some (.int .u8 (D[j].toNat:Int))
theorem Text.push {wr:World}{B A:Nat}{D:List UInt8}(h:Text wr B A D) (hA:1<=A) (c:UInt8) (v:Int) (hv:v=c.toNat) :
  Text (wr.setCell ⟨B,A - 1,none⟩ (.int .u8 v)) B (A - 1) (c::D):=by
 obtain ⟨h1,h2,h3,h4,h5⟩:=h
 obtain ⟨u0,hu0⟩:=h3 (A - 1) (by omega)
 refine ⟨by omega,by simp only [List.length_cons];omega,fun i hi=>?_,fun i hi=>(World.frozen?_setCell _ _ _ _).trans (h4 i hi),fun j hj=>?_⟩
 ·by_cases e:i=A - 1
  ·exact ⟨v,by rw [e];exact World.cell?_setCell_same _ _ _ hu0⟩
  ·obtain ⟨u,hu⟩:=h3 i hi
   exact ⟨u,(World.cell?_setCell_other _ _ _ _ (by simp <;> omega)).trans hu⟩
 ·cases j with
  | zero=>rw [Nat.add_zero,World.cell?_setCell_same _ _ _ hu0,hv];rfl
  | succ j =>
   have hj':j<D.length:=by simp only [List.length_cons] at hj;omega
   rw [World.cell?_setCell_other _ _ _ _ (by simp <;> omega),show A - 1+(j+1)=A+j by omega,h5 j hj'];rfl
theorem Text.cell {wr:World}{B A:Nat}{D:List UInt8}(h:Text wr B A D) (hA:1<=A):∃ u,wr.cell? ⟨B,A - 1,none⟩=some (.int .u8 u):=h.2.2.1 (A - 1) (by have:=h.1;omega)
theorem Text.free {wr:World}{B A:Nat}{D:List UInt8}(h:Text wr B A D) (hA:1<=A):wr.frozen? ⟨B,A - 1,none⟩=false:=h.2.2.2.1 (A - 1) (by have:=h.1;omega)
theorem Text.new (w:World) (c:Array Value) (t:TypeId) (hc:c =(List.replicate 20 (.int .u8 0)).toArray):Text (w.alloc (.cells c t)) w.heap.size 20 []:=by
 subst hc
 refine ⟨by omega,rfl,fun i hi=>⟨0,?_⟩,fun i _=>World.frozen?_alloc_new w _ t i,fun j h=>absurd h (by simp)⟩
 rw [World.cell?_alloc_new,List.getElem?_toArray,List.getElem?_replicate,if_pos hi]
theorem Text.str {wr:World}{B A:Nat}{D:List UInt8}(h:Text wr B A D) (k c:Nat) (hk:k=D.length) (dst src e:TypeId) (hs:Tryz.prog.underlying src=some (.slice e)) (he:Tryz.prog.underlying e=some (.int .u8)) (hd:Tryz.prog.underlying dst=some .string) :
  (convert src dst (.slice (some ⟨B,A,none⟩) k c)).run Tryz.prog wr=.ok (.string ⟨D.toArray⟩) wr:=by
 subst hk
 refine run_convert_bytes_back wr src dst e ⟨B,A,none⟩ c D hs he hd (fun j hj=>?_)
 have hplain:(⟨B,A,none⟩:Addr).add j =⟨B,A+j,none⟩:=by unfold Addr.add;split <;> simp_all
 rw [hplain]
 exact h.2.2.2.2 j hj
theorem elem39:Tryz.prog.underlying 217=some (.array (Tryz.prog.arrayLen 217) (Tryz.prog.elem 217)):=by kernel_rfl
theorem len39:Tryz.prog.arrayLen 217=20:=by kernel_rfl
theorem size39 (w:World):(sizeOf (Tryz.prog.elem 217)).run Tryz.prog w=.ok 1 w:=by kernel_rfl
theorem slice39 (w:World) (B A:Nat) (i:Int) (hi:i=A) (hA:A<20) :
  (Instr.sliceAt 217 (.pointer (some ⟨B,0,none⟩)) (some (.int .i64 i)) none none).run Tryz.prog w=.ok (.slice (some ⟨B,A,none⟩) (20 - A) (20 - A)) w:=by
 subst hi
 rw [run_sliceAt_array_l w _ _ elem39 .i64 A (by omega) (by rw [len39];omega),size39,len39]
 show Result.ok (slicedAt _ _ _ _ _) w=_
 unfold slicedAt
 rw [if_neg (by omega)]
 have hplain:(⟨B,0,none⟩:Addr).add ((A:Int).toNat*1) =⟨B,A,none⟩:=by unfold Addr.add;simp;omega
 rw [hplain]
 simp
theorem showP_pos (n:Int) (w:World) (h0:0<=n) (h2:n<=9223372036854775807) :
  Calls Tryz.prog 160 #[.int .i64 n] w fun e w'=>e=.returned (.string ⟨(dg n.toNat).toArray⟩)/\Below w.heap.size w w':=by
 go_enter Tryz.func160,Tryz.ntmps160
 go_wp2
 go_loopw [3,5] (fun r i wr=>∃ (R A:Nat) (D:List UInt8),(R:Int)<=9223372036854775807/\2<=A/\R<10 ^ (A - 1)/\r=.int .u64 R/\i=.int .i64 A/\Text wr w.heap.size A D/\Below w.heap.size w wr/\dg n.toNat=dg R++D) (fun r _ _=>(intOf r).toNat)
 case atStart=>exact ⟨n.toNat,20,[],by omega,by omega,by omega,by congr 1;omega,rfl,Text.new w _ _ rfl,(Below.refl _ _).alloc (Nat.le_refl _) _,by simp⟩
 case round =>
  obtain ⟨R,A,D,hR,hA,hp,rfl,rfl,ht,hb,hd⟩:=hrel
  obtain ⟨u,hcs⟩:=ht.cell (by omega)
  have hfs:=ht.free (by omega)
  have ht2:=ht.push (by omega) (dig R) (48+(R:Int) % 10) (dig_int R).symm
  have hA2:A<=20:=ht.1
  have hr1:(R:Int) % 10<=9:=by omega
  have hr2:0<=(R:Int) % 10:=by omega
  have hb2:Below w.heap.size w (wr.setCell ⟨w.heap.size,A - 1,none⟩ (.int .u8 (48+(R:Int) % 10))):=hb.setCell (Nat.le_refl _) _
  by_cases hz:R<10
  ·have hzb:((R:Int) / 10==0)=true:=by simp;omega
   have hd2:=loop_last hd hz
   have hsl:=slice39 (wr.setCell ⟨w.heap.size,A - 1,none⟩ (.int .u8 (48+(R:Int) % 10))) w.heap.size (A - 1) ((A:Int) - 1) (by omega) (by omega)
   have hcv:=ht2.str (20 - (A - 1)) (20 - (A - 1)) ht2.2.1.symm 9 61 5 Tryz.underlying61 Tryz.underlying5 Tryz.underlying9
   rw [<- hd2] at hcv
   clear ht ht2 hd hd2 hz hp
   go_wp2
   go_ret
   exact ⟨rfl,hb2⟩
  ·have hzb:((R:Int) / 10==0)=false:=by simp;omega
   have hd2:=loop_next hd hz
   obtain ⟨h3,hp2⟩:=room_next hp hz
   have h10:10<=R:=by omega
   clear ht hd hz hp
   go_wp2
   go_roundw
   case rel=>exact ⟨R / 10,A - 1,dig R::D,by omega,by omega,hp2,by congr 1,by congr 1;omega,ht2,hb2,hd2⟩
   case measure=>simp [intOf];omega
theorem neg_u64 (n:Int) (h1:-9223372036854775808<=n) (h0:n<0):IntKind.u64.wrap (-IntKind.u64.wrap n) =(n.natAbs:Int):=by
 simp only [IntKind.wrap,IntKind.signed,IntKind.bits]
 simp
 omega
theorem showP_neg (n:Int) (w:World) (h1:-9223372036854775808<=n) (h0:n<0) :
  Calls Tryz.prog 160 #[.int .i64 n] w fun e w'=>e=.returned (.string ⟨(95::dg n.natAbs).toArray⟩)/\Below w.heap.size w w':=by
 go_enter Tryz.func160,Tryz.ntmps160
 go_wp2
 go_loopw [3,5] (fun r i wr=>∃ (R A:Nat) (D:List UInt8),(R:Int)<=9223372036854775808/\2<=A/\R<10 ^ (A - 1)/\r=.int .u64 R/\i=.int .i64 A/\Text wr w.heap.size A D/\Below w.heap.size w wr/\dg n.natAbs=dg R++D) (fun r _ _=>(intOf r).toNat)
 case atStart=>exact ⟨n.natAbs,20,[],by omega,by omega,by omega,by rw [neg_u64 n h1 h0],rfl,Text.new w _ _ rfl,(Below.refl _ _).alloc (Nat.le_refl _) _,by simp⟩
 case round =>
  obtain ⟨R,A,D,hR,hA,hp,rfl,rfl,ht,hb,hd⟩:=hrel
  obtain ⟨u,hcs⟩:=ht.cell (by omega)
  have hfs:=ht.free (by omega)
  have ht2:=ht.push (by omega) (dig R) (48+(R:Int) % 10) (dig_int R).symm
  have hA2:A<=20:=ht.1
  have hr1:(R:Int) % 10<=9:=by omega
  have hr2:0<=(R:Int) % 10:=by omega
  have hb2:Below w.heap.size w (wr.setCell ⟨w.heap.size,A - 1,none⟩ (.int .u8 (48+(R:Int) % 10))):=hb.setCell (Nat.le_refl _) _
  by_cases hz:R<10
  ·have hzb:((R:Int) / 10==0)=true:=by simp;omega
   have hd2:=loop_last hd hz
   have ht3:=ht2.push (by omega) 95 95 rfl
   obtain ⟨u2,hcs2⟩:=ht2.cell (by omega)
   have hfs2:=ht2.free (by omega)
   have hb3:Below w.heap.size w ((wr.setCell ⟨w.heap.size,A - 1,none⟩ (.int .u8 (48+(R:Int) % 10))).setCell ⟨w.heap.size,A - 1 - 1,none⟩ (.int .u8 95)):=hb2.setCell (Nat.le_refl _) _
   have hsl:=slice39 ((wr.setCell ⟨w.heap.size,A - 1,none⟩ (.int .u8 (48+(R:Int) % 10))).setCell ⟨w.heap.size,A - 1 - 1,none⟩ (.int .u8 95)) w.heap.size (A - 1 - 1) ((A:Int) - 1 - 1) (by omega) (by omega)
   have hcv:=ht3.str (20 - (A - 1 - 1)) (20 - (A - 1 - 1)) ht3.2.1.symm 9 61 5 Tryz.underlying61 Tryz.underlying5 Tryz.underlying9
   rw [<- hd2] at hcv
   clear ht ht2 ht3 hd hd2 hz hp
   go_wp2
   go_ret
   exact ⟨rfl,hb3⟩
  ·have hzb:((R:Int) / 10==0)=false:=by simp;omega
   have hd2:=loop_next hd hz
   obtain ⟨h3,hp2⟩:=room_next hp hz
   have h10:10<=R:=by omega
   clear ht hd hz hp
   go_wp2
   go_roundw
   case rel=>exact ⟨R / 10,A - 1,dig R::D,by omega,by omega,hp2,by congr 1,by congr 1;omega,ht2,hb2,hd2⟩
   case measure=>simp [intOf];omega
def shS (n:Int):ByteArray:=⟨(shL n).toArray⟩
theorem showP (n:Int) (w:World) (h1:-9223372036854775808<=n) (h2:n<=9223372036854775807) :
  Calls Tryz.prog 160 #[.int .i64 n] w fun e w'=>e=.returned (.string (shS n))/\Below w.heap.size w w':=by
 by_cases h0:n<0
 ·have e:shS n =⟨(95::dg n.natAbs).toArray⟩:=by rw [shS,shL_neg h0]
  rw [e];exact showP_neg n w h1 h0
 ·have e:shS n =⟨(dg n.toNat).toArray⟩:=by rw [shS,shL_pos h0,show n.natAbs=n.toNat by omega]
  rw [e];exact showP_pos n w (by omega) h2
theorem shS_size (n:Int) (h1:-9223372036854775808<=n) (h2:n<=9223372036854775807):(shS n).size<=20:=by
 have h:=dg_len 18 n.natAbs (by omega)
 show (shL n).toArray.size<=20
 unfold shL
 split <;> simp <;> omega
theorem below_drewN {w:World}(k:Nat):Below w.heap.size w (w.drewN k):=⟨rfl,rfl,rfl,Nat.le_refl _,fun _ _=>rfl⟩
end Go.Proofs.YtalkinnbfglkdaaGreatDoor.Num
