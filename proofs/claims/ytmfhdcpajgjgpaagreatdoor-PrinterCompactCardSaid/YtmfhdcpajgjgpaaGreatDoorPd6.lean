/-
  Layer 1: what the small functions do: Fits, both, checked, checkDivision, abs and the law's own 'is', of the program and of the reference.
  Layer 1: Show of the program: it writes the digits from the last one on into an array of its own.
  Layer 1: Mul of the program and of the reference.
  Layer 1: Show of the reference: it calls itself.
-/
import Derived.Test.YtmfhdcpajgjgpaaGreatDoorRows
import Derived.Test.YtmfhdcpajgjgpaaGreatDoorPd1
import Derived.WalkKit
import Derived.WalkSpells
import Derived.WalkLawsBesides
import Derived.Laws.IdiomStrings
import Derived.Deep.QuietTactic
import Derived.BigQuiet
set_option maxHeartbeats 1000000
namespace Go.Proofs.YtmfhdcpajgjgpaaGreatDoor.Num
open Go.RowKit
theorem ret_bool {x y:Bool}(h:x=y):Ending.returned (.bool x)=.returned (.bool y):=by rw [h]
def absI (a:Int):Int:=if a<0 then -a else a
theorem absR (a:Int) (w:World) (h1:-4611686018427387903<=a) (h2:a<=4611686018427387903) :
  Calls Tryz.prog 180 #[.int .i64 a] w fun e w'=>e=.returned (.int .i64 (absI a))/\w=w':=by
 by_cases h:a<0
 ·go_enter Tryz.func180,Tryz.ntmps180
  go_wp2
  go_ret
  exact ⟨by simp [absI];omega,rfl⟩
 ·go_enter Tryz.func180,Tryz.ntmps180
  go_wp2
  go_ret
  exact ⟨by simp [absI];omega,rfl⟩
end Go.Proofs.YtmfhdcpajgjgpaaGreatDoor.Num
namespace Go.Proofs.YtmfhdcpajgjgpaaGreatDoor.Num
open Go.RowKit
set_option maxRecDepth 100000
def Text (wr:World) (B A:Nat) (D:List UInt8):Prop :=
 A<=20/\D.length=20 - A/\(∀ i,i<20->∃ u,wr.cell? ⟨B,i,none⟩=some (.int .u8 u))/\(∀ i,i<20->wr.frozen? ⟨B,i,none⟩=false) /\
  ∀ j (h:j<D.length),wr.cell? ⟨B,A+j,none⟩=some (.int .u8 (D[j].toNat:Int))
theorem Text.push {wr:World}{B A:Nat}{D:List UInt8}(h:Text wr B A D) (hA:1<=A) (c:UInt8) (v:Int) (hv:v=c.toNat) :
  Text (wr.setCell ⟨B,A - 1,none⟩ (.int .u8 v)) B (A - 1) (c::D):=by
 obtain ⟨h1,h2,h3,h4,h5⟩:=h
 obtain ⟨u0,hu0⟩:=h3 (A - 1) (by omega)
 refine ⟨by omega,by simp only [List.length_cons];omega,fun i hi=>?_,fun i hi=>(World.frozen?_setCell _ _ _ _).trans (h4 i hi),fun j hj=>?_⟩
 ·by_cases e:i=A - 1
  ·exact ⟨v,by rw [e];exact World.cell?_setCell_same _ _ _ hu0⟩
  ·obtain ⟨u,hu⟩:=h3 i hi
   exact ⟨u,(World.cell?_setCell_other _ _ _ _ (by simp <;> omega)).trans hu⟩
 ·cases j with
  | zero=>rw [Nat.add_zero,World.cell?_setCell_same _ _ _ hu0,hv];rfl
  | succ j =>
   have hj':j<D.length:=by simp only [List.length_cons] at hj;omega
   rw [World.cell?_setCell_other _ _ _ _ (by simp <;> omega),show A - 1+(j+1)=A+j by omega,h5 j hj'];rfl
theorem Text.cell {wr:World}{B A:Nat}{D:List UInt8}(h:Text wr B A D) (hA:1<=A):∃ u,wr.cell? ⟨B,A - 1,none⟩=some (.int .u8 u):=h.2.2.1 (A - 1) (by have:=h.1;omega)
theorem Text.free {wr:World}{B A:Nat}{D:List UInt8}(h:Text wr B A D) (hA:1<=A):wr.frozen? ⟨B,A - 1,none⟩=false:=h.2.2.2.1 (A - 1) (by have:=h.1;omega)
theorem Text.new (w:World) (c:Array Value) (t:TypeId) (hc:c =(List.replicate 20 (.int .u8 0)).toArray):Text (w.alloc (.cells c t)) w.heap.size 20 []:=by
 subst hc
 refine ⟨by omega,rfl,fun i hi=>⟨0,?_⟩,fun i _=>World.frozen?_alloc_new w _ t i,fun j h=>absurd h (by simp)⟩
 rw [World.cell?_alloc_new,List.getElem?_toArray,List.getElem?_replicate,if_pos hi]
theorem Text.str {wr:World}{B A:Nat}{D:List UInt8}(h:Text wr B A D) (k c:Nat) (hk:k=D.length) (dst src e:TypeId) (hs:Tryz.prog.underlying src=some (.slice e)) (he:Tryz.prog.underlying e=some (.int .u8)) (hd:Tryz.prog.underlying dst=some .string) :
  (convert src dst (.slice (some ⟨B,A,none⟩) k c)).run Tryz.prog wr=.ok (.string ⟨D.toArray⟩) wr:=by
 subst hk
 refine run_convert_bytes_back wr src dst e ⟨B,A,none⟩ c D hs he hd (fun j hj=>?_)
 have hplain:(⟨B,A,none⟩:Addr).add j =⟨B,A+j,none⟩:=by unfold Addr.add;split <;> simp_all
 rw [hplain]
 exact h.2.2.2.2 j hj
theorem elem39:Tryz.prog.underlying 178=some (.array (Tryz.prog.arrayLen 178) (Tryz.prog.elem 178)):=by kernel_rfl
theorem len39:Tryz.prog.arrayLen 178=20:=by kernel_rfl
theorem size39 (w:World):(sizeOf (Tryz.prog.elem 178)).run Tryz.prog w=.ok 1 w:=by kernel_rfl
theorem slice39 (w:World) (B A:Nat) (i:Int) (hi:i=A) (hA:A<20) :
  (Instr.sliceAt 178 (.pointer (some ⟨B,0,none⟩)) (some (.int .i64 i)) none none).run Tryz.prog w=.ok (.slice (some ⟨B,A,none⟩) (20 - A) (20 - A)) w:=by
 subst hi
 rw [run_sliceAt_array_l w _ _ elem39 .i64 A (by omega) (by rw [len39];omega),size39,len39]
 show Result.ok (slicedAt _ _ _ _ _) w=_
 unfold slicedAt
 rw [if_neg (by omega)]
 have hplain:(⟨B,0,none⟩:Addr).add ((A:Int).toNat*1) =⟨B,A,none⟩:=by unfold Addr.add;simp;omega
 rw [hplain]
 simp
theorem showP_pos (n:Int) (w:World) (h0:0<=n) (h2:n<=9223372036854775807) :
  Calls Tryz.prog 161 #[.int .i64 n] w fun e w'=>e=.returned (.string ⟨(dg n.toNat).toArray⟩)/\Below w.heap.size w w':=by
 go_enter Tryz.func161,Tryz.ntmps161
 go_wp2
 go_loopw [3,5] (fun r i wr=>∃ (R A:Nat) (D:List UInt8),(R:Int)<=9223372036854775807/\2<=A/\R<10 ^ (A - 1)/\r=.int .u64 R/\i=.int .i64 A/\Text wr w.heap.size A D/\Below w.heap.size w wr/\dg n.toNat=dg R++D) (fun r _ _=>(intOf r).toNat)
 case atStart=>exact ⟨n.toNat,20,[],by omega,by omega,by omega,by congr 1;omega,rfl,Text.new w _ _ rfl,(Below.refl _ _).alloc (Nat.le_refl _) _,by simp⟩
 case round =>
  obtain ⟨R,A,D,hR,hA,hp,rfl,rfl,ht,hb,hd⟩:=hrel
  obtain ⟨u,hcs⟩:=ht.cell (by omega)
  have hfs:=ht.free (by omega)
  have ht2:=ht.push (by omega) (dig R) (48+(R:Int) % 10) (dig_int R).symm
  have hA2:A<=20:=ht.1
  have hr1:(R:Int) % 10<=9:=by omega
  have hr2:0<=(R:Int) % 10:=by omega
  have hb2:Below w.heap.size w (wr.setCell ⟨w.heap.size,A - 1,none⟩ (.int .u8 (48+(R:Int) % 10))):=hb.setCell (Nat.le_refl _) _
  by_cases hz:R<10
  ·have hzb:((R:Int) / 10==0)=true:=by simp;omega
   have hd2:=loop_last hd hz
   have hsl:=slice39 (wr.setCell ⟨w.heap.size,A - 1,none⟩ (.int .u8 (48+(R:Int) % 10))) w.heap.size (A - 1) ((A:Int) - 1) (by omega) (by omega)
   have hcv:=ht2.str (20 - (A - 1)) (20 - (A - 1)) ht2.2.1.symm 9 46 5 Tryz.underlying46 Tryz.underlying5 Tryz.underlying9
   rw [<- hd2] at hcv
   clear ht ht2 hd hd2 hz hp
   go_wp2
   go_ret
   exact ⟨rfl,hb2⟩
  ·have hzb:((R:Int) / 10==0)=false:=by simp;omega
   have hd2:=loop_next hd hz
   obtain ⟨h3,hp2⟩:=room_next hp hz
   have h10:10<=R:=by omega
   clear ht hd hz hp
   go_wp2
   go_roundw
   case rel=>exact ⟨R / 10,A - 1,dig R::D,by omega,by omega,hp2,by congr 1,by congr 1;omega,ht2,hb2,hd2⟩
   case measure=>simp [intOf];omega
theorem neg_u64 (n:Int) (h1:-9223372036854775808<=n) (h0:n<0):IntKind.u64.wrap (-IntKind.u64.wrap n) =(n.natAbs:Int):=by
 simp only [IntKind.wrap,IntKind.signed,IntKind.bits]
 simp
 omega
theorem showP_neg (n:Int) (w:World) (h1:-9223372036854775808<=n) (h0:n<0) :
  Calls Tryz.prog 161 #[.int .i64 n] w fun e w'=>e=.returned (.string ⟨(95::dg n.natAbs).toArray⟩)/\Below w.heap.size w w':=by
 go_enter Tryz.func161,Tryz.ntmps161
 go_wp2
 go_loopw [3,5] (fun r i wr=>∃ (R A:Nat) (D:List UInt8),(R:Int)<=9223372036854775808/\2<=A/\R<10 ^ (A - 1)/\r=.int .u64 R/\i=.int .i64 A/\Text wr w.heap.size A D/\Below w.heap.size w wr/\dg n.natAbs=dg R++D) (fun r _ _=>(intOf r).toNat)
 case atStart=>exact ⟨n.natAbs,20,[],by omega,by omega,by omega,by rw [neg_u64 n h1 h0],rfl,Text.new w _ _ rfl,(Below.refl _ _).alloc (Nat.le_refl _) _,by simp⟩
 case round =>
  obtain ⟨R,A,D,hR,hA,hp,rfl,rfl,ht,hb,hd⟩:=hrel
  obtain ⟨u,hcs⟩:=ht.cell (by omega)
  have hfs:=ht.free (by omega)
  have ht2:=ht.push (by omega) (dig R) (48+(R:Int) % 10) (dig_int R).symm
  have hA2:A<=20:=ht.1
  have hr1:(R:Int) % 10<=9:=by omega
  have hr2:0<=(R:Int) % 10:=by omega
  have hb2:Below w.heap.size w (wr.setCell ⟨w.heap.size,A - 1,none⟩ (.int .u8 (48+(R:Int) % 10))):=hb.setCell (Nat.le_refl _) _
  by_cases hz:R<10
  ·have hzb:((R:Int) / 10==0)=true:=by simp;omega
   have hd2:=loop_last hd hz
   have ht3:=ht2.push (by omega) 95 95 rfl
   obtain ⟨u2,hcs2⟩:=ht2.cell (by omega)
   have hfs2:=ht2.free (by omega)
   have hb3:Below w.heap.size w ((wr.setCell ⟨w.heap.size,A - 1,none⟩ (.int .u8 (48+(R:Int) % 10))).setCell ⟨w.heap.size,A - 1 - 1,none⟩ (.int .u8 95)):=hb2.setCell (Nat.le_refl _) _
   have hsl:=slice39 ((wr.setCell ⟨w.heap.size,A - 1,none⟩ (.int .u8 (48+(R:Int) % 10))).setCell ⟨w.heap.size,A - 1 - 1,none⟩ (.int .u8 95)) w.heap.size (A - 1 - 1) ((A:Int) - 1 - 1) (by omega) (by omega)
   have hcv:=ht3.str (20 - (A - 1 - 1)) (20 - (A - 1 - 1)) ht3.2.1.symm 9 46 5 Tryz.underlying46 Tryz.underlying5 Tryz.underlying9
   rw [<- hd2] at hcv
   clear ht ht2 ht3 hd hd2 hz hp
   go_wp2
   go_ret
   exact ⟨rfl,hb3⟩
  ·have hzb:((R:Int) / 10==0)=false:=by simp;omega
   have hd2:=loop_next hd hz
   obtain ⟨h3,hp2⟩:=room_next hp hz
   have h10:10<=R:=by omega
   clear ht hd hz hp
   go_wp2
   go_roundw
   case rel=>exact ⟨R / 10,A - 1,dig R::D,by omega,by omega,hp2,by congr 1,by congr 1;omega,ht2,hb2,hd2⟩
   case measure=>simp [intOf];omega
def shS (n:Int):ByteArray:=⟨(shL n).toArray⟩
theorem showP (n:Int) (w:World) (h1:-9223372036854775808<=n) (h2:n<=9223372036854775807) :
  Calls Tryz.prog 161 #[.int .i64 n] w fun e w'=>e=.returned (.string (shS n))/\Below w.heap.size w w':=by
 by_cases h0:n<0
 ·have e:shS n =⟨(95::dg n.natAbs).toArray⟩:=by rw [shS,shL_neg h0]
  rw [e];exact showP_neg n w h1 h0
 ·have e:shS n =⟨(dg n.toNat).toArray⟩:=by rw [shS,shL_pos h0,show n.natAbs=n.toNat by omega]
  rw [e];exact showP_pos n w (by omega) h2
end Go.Proofs.YtmfhdcpajgjgpaaGreatDoor.Num
namespace Go.Proofs.YtmfhdcpajgjgpaaGreatDoor.Num
open Go.RowKit
theorem abs_natAbs (a:Int):absI a=a.natAbs:=by unfold absI;omega
end Go.Proofs.YtmfhdcpajgjgpaaGreatDoor.Num
namespace Go.Proofs.YtmfhdcpajgjgpaaGreatDoor.Num
open Go.RowKit
set_option maxRecDepth 100000
def digits:ByteArray:=⟨#[48,49,50,51,52,53,54,55,56,57]⟩
theorem digits_at (k:Nat) (h:k<10):digits.extract k (k+1) =⟨#[dig k]⟩:=by
 have:k=0∨k=1∨k=2∨k=3∨k=4∨k=5∨k=6∨k=7∨k=8∨k=9:=by omega
 rcases this with rfl | rfl | rfl | rfl | rfl | rfl | rfl | rfl | rfl | rfl <;> rfl
theorem shS_small {n:Int}(h0:0<=n) (h:n<10):shS n =⟨#[dig n.toNat]⟩:=by
 rw [shS,shL_pos (by omega),dg_last (by omega),show n.natAbs=n.toNat by omega]
theorem shS_low {n:Int}(h0:n<0) (h:-10<n):shS n =⟨#[95]⟩++⟨#[dig n.natAbs]⟩:=by
 rw [shS,shL_neg h0,dg_last (by omega)];rfl
theorem shL_step {n:Int}(h:n<=-10∨10<=n):shL n=shL (n.tdiv 10)++[dig n.natAbs]:=by
 have e:(n.tdiv 10).natAbs=n.natAbs / 10:=by rw [Int.natAbs_tdiv];rfl
 have e2:10*n.tdiv 10+n.tmod 10=n:=Int.mul_tdiv_add_tmod n 10
 have l:=wJ n 10 (by decide)
 have s:=tmod_sign n 10
 rcases h with h | h
 ·rw [shL_neg (by omega),shL_neg (by omega),e,dg_more (by omega)];rfl
 ·rw [shL_pos (by omega),shL_pos (by omega),e,dg_more (by omega)]
theorem shS_step {n:Int}(h:n<=-10∨10<=n):shS n=shS (n.tdiv 10)++⟨#[dig n.natAbs]⟩:=by
 unfold shS
 rw [shL_step h]
 apply ByteArray.ext
 simp [ByteArray.data_append]
theorem ext_low {n:Int}(h0:n<0) (h:-10<n):(ByteArray.mk #[48,49,50,51,52,53,54,55,56,57]).extract (-n).toNat (1 - n).toNat =⟨#[dig n.natAbs]⟩:=by
 rw [show (1 - n).toNat=n.natAbs+1 by omega,show (-n).toNat=n.natAbs by omega]
 exact digits_at _ (by omega)
theorem ext_small {n:Int}(h0:0<=n) (h:n<10):(ByteArray.mk #[48,49,50,51,52,53,54,55,56,57]).extract n.toNat (n+1).toNat =⟨#[dig n.toNat]⟩:=by
 rw [show (n+1).toNat=n.toNat+1 by omega]
 exact digits_at _ (by omega)
theorem dig_mod (m:Nat):dig (m % 10)=dig m:=by
 unfold dig
 rw [Nat.mod_mod]
theorem parts_of (n:Int) (h1:-9223372036854775808<=n) (h2:n<=9223372036854775807) (h:n<=-10∨10<=n):∃ q r:Int,∃ K:Nat,n.tdiv 10=q/\n.tmod 10=r/\IntKind.i64.wrap q=q/\(0<=n->n / 10=q/\n % 10=r) /\
  -922337203685477580<=q/\q<=922337203685477580/\q.natAbs<n.natAbs/\-9<=r/\r<=9/\K<=9/\absI r =(K:Int)/\dig n.natAbs=dig K/\shS n=shS q++⟨#[dig K]⟩:=by
 have e:(n.tdiv 10).natAbs=n.natAbs / 10:=by rw [Int.natAbs_tdiv];rfl
 have l:=wJ n 10 (by decide)
 refine ⟨n.tdiv 10,n.tmod 10,n.natAbs % 10,rfl,rfl,IntWalk.i64_in _ (by omega),fun h0=>⟨(Int.tdiv_eq_ediv_of_nonneg h0).symm,(Int.tmod_eq_emod_of_nonneg h0).symm⟩,by omega,by omega,by omega,by omega,by omega,by omega,?_,(dig_mod _).symm,?_⟩
 ·rw [abs_natAbs,Int.natAbs_tmod];rfl
 ·rw [shS_step h,dig_mod]
theorem wL (K:Nat) (h:K<=9) (w:World):(Instr.slice 9 (.string ⟨#[48,49,50,51,52,53,54,55,56,57]⟩) (some (.int .i64 (K:Int))) (some (.int .i64 ((K:Int)+1))) none).run Tryz.prog w=.ok (.string ⟨#[dig K]⟩) w:=by
 rw [run_slice_string w 9 _ .i64 .i64 K (K+1) Tryz.underlying9 (by omega) (by omega) (by show (K:Int)+1<=((10:Nat):Int);omega)]
 have:=digits_at K (by omega)
 unfold digits at this
 rw [show ((K:Int)+1).toNat=K+1 by omega,show ((K:Int)).toNat=K by omega,this]
theorem shS_size (n:Int) (h1:-9223372036854775808<=n) (h2:n<=9223372036854775807):(shS n).size<=20:=by
 have h:=dg_len 18 n.natAbs (by omega)
 show (shL n).toArray.size<=20
 unfold shL
 split <;> simp <;> omega
theorem showR_big (n q r:Int) (K:Nat) (w:World) (h1:-9223372036854775808<=n) (h2:n<=9223372036854775807) (hb:10<=n)
  (e1:n.tdiv 10=q) (e2:n.tmod 10=r) (e3:IntKind.i64.wrap q=q) (e5:n / 10=q) (e6:n % 10=r) (q1:-922337203685477580<=q) (q2:q<=922337203685477580) (r1:-9<=r) (r2:r<=9) (hK:K<=9) (hL:absI r =(K:Int)) (hs:shS n=shS q++⟨#[dig K]⟩)
  (ic:∀ w:World,Calls Tryz.prog 174 #[.int .i64 q] w fun e w'=>e=.returned (.string (shS q))/\∃ k,w'=w.drewN k) :
  Calls Tryz.prog 174 #[.int .i64 n] w fun e w'=>e=.returned (.string (shS n))/\∃ k,w'=w.drewN k:=by
 have hk:IntKind.i64.wrap ((K:Int)+1)=K+1:=IntWalk.i64_in _ (by omega)
 have hx:=wL K hK
 have hz:=shS_size q (by omega) (by omega)
 have ha:=fun w=>run_string_add (P:=Tryz.prog) w (shS q) ⟨#[dig K]⟩ (by omega) (by show ((1:Nat):Int)<=8388608;omega)
 go_enter Tryz.func174,Tryz.ntmps174
 go_wp2_with (go_at_call 180;refine (absR _ _ (by omega) (by omega)).mono ?_;rintro e w' ⟨rfl,rfl⟩)
 go_quiet ((go_at_call 174;with_reducible exact Calls.quiet_of (ic _)))
 go_wp2_with fail
 go_ret
 first | exact ⟨rfl,_,rfl⟩ | exact ⟨by rw [hs];rfl,_,rfl⟩
theorem showR_neg (n q r:Int) (K:Nat) (w:World) (h1:-9223372036854775808<=n) (h2:n<=9223372036854775807) (hb:n<=-10)
  (e1:n.tdiv 10=q) (e2:n.tmod 10=r) (e3:IntKind.i64.wrap q=q) (q1:-922337203685477580<=q) (q2:q<=922337203685477580) (r1:-9<=r) (r2:r<=9) (hK:K<=9) (hL:absI r =(K:Int)) (hs:shS n=shS q++⟨#[dig K]⟩)
  (ic:∀ w:World,Calls Tryz.prog 174 #[.int .i64 q] w fun e w'=>e=.returned (.string (shS q))/\∃ k,w'=w.drewN k) :
  Calls Tryz.prog 174 #[.int .i64 n] w fun e w'=>e=.returned (.string (shS n))/\∃ k,w'=w.drewN k:=by
 have hk:IntKind.i64.wrap ((K:Int)+1)=K+1:=IntWalk.i64_in _ (by omega)
 have hx:=wL K hK
 have hz:=shS_size q (by omega) (by omega)
 have ha:=fun w=>run_string_add (P:=Tryz.prog) w (shS q) ⟨#[dig K]⟩ (by omega) (by show ((1:Nat):Int)<=8388608;omega)
 go_enter Tryz.func174,Tryz.ntmps174
 go_wp2_with (go_at_call 180;refine (absR _ _ (by omega) (by omega)).mono ?_;rintro e w' ⟨rfl,rfl⟩)
 go_quiet ((go_at_call 174;with_reducible exact Calls.quiet_of (ic _)))
 go_wp2_with fail
 go_ret
 first | exact ⟨rfl,_,rfl⟩ | exact ⟨by rw [hs];rfl,_,rfl⟩
theorem showR_any (m:Nat):∀ (n:Int) (w:World),n.natAbs<=m->-9223372036854775808<=n->n<=9223372036854775807 ->
  Calls Tryz.prog 174 #[.int .i64 n] w fun e w'=>e=.returned (.string (shS n))/\∃ k,w'=w.drewN k:=by
 induction m with
 | zero =>
  intro n w hm _ _
  obtain rfl:n=0:=by omega
  have hs:=shS_small (n:=0) (by decide) (by decide)
  have he:=ext_small (n:=0) (by decide) (by decide)
  go_enter Tryz.func174,Tryz.ntmps174
  go_wp2_with fail
  go_ret
  exact ⟨by rw [hs];rfl,0,rfl⟩
 | succ m ih =>
  intro n w hm h1 h2
  by_cases ha:-10<n
  ·by_cases hn:n<0
   ·have hs:=shS_low hn ha
    have he:=ext_low hn ha
    go_enter Tryz.func174,Tryz.ntmps174
    go_wp2_with fail
    go_ret
    first | exact ⟨rfl,0,rfl⟩ | exact ⟨by rw [hs];rfl,0,rfl⟩
   ·by_cases hb:n<10
    ·have hs:=shS_small (by omega) hb
     have he:=ext_small (by omega) hb
     go_enter Tryz.func174,Tryz.ntmps174
     go_wp2_with fail
     go_ret
     first | exact ⟨rfl,0,rfl⟩ | exact ⟨by rw [hs];rfl,0,rfl⟩
    ·obtain ⟨q,r,K,e1,e2,e3,e4,q1,q2,q3,r1,r2,hK,hL,hd,hs⟩:=parts_of n h1 h2 (Or.inr (by omega))
     obtain ⟨e5,e6⟩:=e4 (by omega)
     exact showR_big n q r K w h1 h2 (by omega) e1 e2 e3 e5 e6 q1 q2 r1 r2 hK hL hs (fun w=>ih q w (by omega) (by omega) (by omega))
  ·obtain ⟨q,r,K,e1,e2,e3,e4,q1,q2,q3,r1,r2,hK,hL,hd,hs⟩:=parts_of n h1 h2 (Or.inl (by omega))
   exact showR_neg n q r K w h1 h2 (by omega) e1 e2 e3 q1 q2 r1 r2 hK hL hs (fun w=>ih q w (by omega) (by omega) (by omega))
theorem below_drewN {w:World}(k:Nat):Below w.heap.size w (w.drewN k):=⟨rfl,rfl,rfl,Nat.le_refl _,fun _ _=>rfl⟩
theorem showR (n:Int) (w:World) (h1:-9223372036854775808<=n) (h2:n<=9223372036854775807) :
  Calls Tryz.prog 174 #[.int .i64 n] w fun e w'=>e=.returned (.string (shS n))/\Below w.heap.size w w' :=
 (showR_any n.natAbs n w (Nat.le_refl _) h1 h2).mono fun _ _ ⟨he,k,hk⟩=>⟨he,by rw [hk];exact below_drewN k⟩
end Go.Proofs.YtmfhdcpajgjgpaaGreatDoor.Num
