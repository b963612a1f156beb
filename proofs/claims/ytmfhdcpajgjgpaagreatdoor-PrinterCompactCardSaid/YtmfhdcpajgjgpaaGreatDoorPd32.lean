/-
  Layer 13: the reference's Show of a leaf.
-/
import Derived.Test.YtmfhdcpajgjgpaaGreatDoorPd30
set_option maxHeartbeats 8000000
namespace Go.Proofs.YtmfhdcpajgjgpaaGreatDoor.Syn
open Go.RowKit Go.Shelf Go.Maps Go.Proofs.YtmfhdcpajgjgpaaGreatDoor.Shape
set_option linter.unusedVariables false
set_option linter.unusedSimpArgs false
set_option maxRecDepth 100000
theorem show_leaf1 (lt:Arr->ByteArray) (W0:World) (cs:List Value) (N:Nd) (w:World) (ok:okN N=true) (lq:lqN (fun A=>LitR W0 A (lt A)/\(lt A).size<=1000000) N) (hb:Below W0.heap.size W0 w) (h:NdV w cs N) (hk:¬ N.k=3/\¬ N.k=4/\¬ N.k=5/\¬ N.k=10/\¬ N.k=14/\¬ N.k=15/\¬ N.k=16) :
  Calls Tryz.prog 108 #[.agg cs.toArray] w fun e w'=>e=.returned (.string (wdB lt N))/\Below w.heap.size w w':=by
 obtain ⟨v0,v1,v2,v3,ka,kc,ba,bc,kb,ko,bb,bo,O⟩:=h.open
 have lC:=h.len
 have hk1:N.ks.length<=9223372036854775807:=by have:=O.kl;omega
 have hk2:N.bd.length<=9223372036854775807:=by have:=O.bl;omega
 have BN:=below_new w (.cells cs.toArray 40)
 have hP:=O.nf (zL w cs 40)
 have hc0:=zL w cs 40
 obtain ⟨S0,i3,i4,i5⟩:=kZ w (.cells cs.toArray 40)
 have hP4:=hP.below S0
 have hc4:=hc0.below S0
 have B4:=Below.then BN S0
 obtain ⟨W4,hW4⟩:∃ W4,((((w.alloc (.cells cs.toArray 40)).alloc (.cells #[.int .i64 4,.int .i64 5] 29)).alloc (.cells #[.int .i64 3,.int .i64 4,.int .i64 5] 29)).alloc (.cells #[.int .i64 16] 29))=W4:=⟨_,rfl⟩
 rw [hW4] at i3 i4 i5 hP4 hc4 B4
 obtain ⟨p0,-,-,-,-,-,p10,p11,-,-,-⟩:=hP4
 have hb4:=Below.then hb B4
 have h4:=h.below B4
 have e3:(N.k==3)=false:=by simp;omega
 have e4:(N.k==4)=false:=by simp;omega
 have e5:(N.k==5)=false:=by simp;omega
 have e14:(N.k==14)=false:=by simp;omega
 have e15:(N.k==15)=false:=by simp;omega
 have e16:(N.k==16)=false:=by simp;omega
 have e10:(N.k==10)=false:=by simp;omega
 clear S0 hP BN hc0
 rw [vp] at lq
 have WR:=wordR lt cs N W0 W4 hb4 h4 ok (fun k=>(lq.1 k).1) hk
 clear i3 i4 i5 h4 hb4 hb h ok p10 p11 O lq hk
 go_enter Tryz.func108,Tryz.ntmps108
 go_upto_region 4 with fail
 try rw [hW4]
 clear hW4
 go_wp2_with (first |((with_reducible show wpList _ _ _ (⟨_,Op.load 40 _,_,_,_,none⟩::_) _ _);refine zB rfl rfl rfl hc4 lC ?_) |(go_at_call 126;((with_reducible refine WR.mono ?_);rintro e w3 ⟨rfl,b3⟩)))
 go_ret
 exact ⟨rfl,Below.then B4 b3⟩
theorem refShowLeaf (cs:List Value) (N:Nd) (w:World) (h:NdV w cs N) (ok:okN N=true) (dp:dep N<=60) (sz:siz N<=16384) (hk:¬ N.k=3/\¬ N.k=4/\¬ N.k=5/\¬ N.k=10/\¬ N.k=14/\¬ N.k=15/\¬ N.k=16) :
  Calls Tryz.prog 81 #[.agg cs.toArray] w fun e w'=>e=.returned (.string (wdB litW N))/\Below w.heap.size w w':=by
 have hN:=h
 have lC:=h.len
 have hC0:=zL w cs 40
 have BN:=below_new w (.cells cs.toArray 40)
 have DR:=depthR cs N 60 _ (by decide) (hN.below BN)
 rw [show ((60:Nat):Int)=60 from rfl] at DR
 have CR:=fun w' (g:Below w.heap.size w w')=>countR cs N 16384 w' (by decide) (hN.below g)
 simp only [show ((16384:Nat):Int)=16384 from rfl] at CR
 have VR:=fun w' (g:Below w.heap.size w w')=>validR cs N w' (hN.below g)
 have SH:=fun w' (g:Below w.heap.size w w')=>show_leaf1 litW w cs N w' ok (lq_ref w N ok) g (hN.below g) hk
 obtain ⟨s,hs⟩:∃ s,wdB litW N=s:=⟨_,rfl⟩
 simp only [hs] at SH ⊢
 simp only [ok] at VR
 obtain ⟨D,hD⟩:∃ D:Nat,depM (dep N) 60=D:=⟨_,rfl⟩
 obtain ⟨Z,hZ⟩:∃ Z:Nat,min (siz N) (16384+1)=Z:=⟨_,rfl⟩
 have c1':=decide_eq_false (show ¬ ((60:Int) <(D:Int)) from hD ▸ dep_le (by omega))
 have c2':=decide_eq_false (show ¬ ((16384:Int) <(Z:Int)) from hZ ▸ siz_le (by omega))
 rw [hD] at DR
 simp only [hZ] at CR
 clear hD hZ hs h hN ok dp sz hk
 go_enter Tryz.func81,Tryz.ntmps81
 go_wp2_with (first |((with_reducible show wpList _ _ _ (⟨_,Op.load 40 _,_,_,_,_⟩::_) _ _);first | refine zC rfl rfl rfl hC0 lC ?_ | refine zC rfl rfl rfl hC3 lC ?_ | refine zC rfl rfl rfl hC4 lC ?_ | refine zC rfl rfl rfl hC5 lC ?_) |(go_at_call 31;((with_reducible refine DR.mono ?_);rintro e w3 ⟨rfl,b3⟩;(have B3:=Below.then BN b3);(have hC3:=hC0.below b3))) |(go_at_call 51;((with_reducible refine (CR _ B3).mono ?_);rintro e w4 ⟨rfl,b4⟩;(have B4:=Below.then B3 b4);(have hC4:=hC3.below b4))) |(go_at_call 52;((with_reducible refine (VR _ B4).mono ?_);rintro e w5 ⟨rfl,b5⟩;(have B5:=Below.then B4 b5);(have hC5:=hC4.below b5))) |(go_at_call 108;((with_reducible refine (SH _ B5).mono ?_);rintro e w6 ⟨rfl,b6⟩)))
 go_ret
 exact ⟨rfl,Below.then B5 b6⟩
end Go.Proofs.YtmfhdcpajgjgpaaGreatDoor.Syn
