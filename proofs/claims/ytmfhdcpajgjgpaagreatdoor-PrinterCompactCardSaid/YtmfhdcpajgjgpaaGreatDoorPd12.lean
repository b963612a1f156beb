/-
  Layer 10: the reference's empty and zero. (Written by wip/gen/syn-r6.py.)
  Layer 10: the reference's leaf. (Written by wip/gen/syn-r7.py.)
  Layer 10: the reference's inner. (Written by wip/gen/syn-r8.py.)
-/
import Derived.Test.YtmfhdcpajgjgpaaGreatDoorPd8
set_option maxHeartbeats 8000000
namespace Go.Proofs.YtmfhdcpajgjgpaaGreatDoor.Syn
open Go.RowKit Go.Proofs.YtmfhdcpajgjgpaaGreatDoor.Shape
set_option linter.unusedVariables false
set_option linter.unusedSimpArgs false
set_option maxRecDepth 100000
theorem xK (w:World):ArrAt w (.agg #[.int .i64 0,.slice none 0 0,.slice none 0 0,.slice none 0 0]) zA:=by
 unfold zA
 rw [ArrAt]
 have hi:IntsAt w none 0 []:=⟨Nat.zero_le _,by decide,fun x hx=>absurd hx (by simp),0,0,fun h=>absurd rfl h,fun i hi=>absurd hi (by simp)⟩
 exact ⟨none,0,none,0,none,0,rfl,⟨by decide,by decide⟩,hi,hi,by simp,by decide,0,0,fun h=>absurd rfl h,by rw [ArrsAt];trivial⟩
def zNv:List Value:=[.int .i64 0,.int .i64 0,.int .i64 0,.string ⟨#[]⟩,.int .i64 0,.int .i64 0,.int .i64 0,.slice none 0 0,.slice none 0 0,.slice none 0 0,.slice none 0 0,.slice none 0 0,.int .i64 0,.int .i64 0,.int .i64 0]
theorem zN_at (w:World):NdV w zNv zN:=by
 unfold zN
 rw [NdV]
 have z:I64 0:=⟨by decide,by decide⟩
 exact ⟨_,_,_,_,none,0,none,0,rfl,⟨z,z,z,z,z,z,z,z⟩,by decide,xK w,⟨Nat.zero_le _,by decide⟩,⟨Nat.zero_le _,by decide⟩,⟨0,0,fun h=>absurd rfl h,by rw [NdsAt];trivial⟩,⟨0,0,fun h=>absurd rfl h,by rw [StsAt];trivial⟩⟩
theorem vQ (cs:List Value) (N:Nd) (w:World) (h:NdV w cs N):Calls Tryz.prog 100 #[.agg cs.toArray,.bool false,.bool false,.bool false,.bool false,.bool false,.bool false] w fun e w'=>e=.returned (.bool (zF false false false false false false N))/\Below w.heap.size w w':=by
 obtain ⟨v0,v1,v2,v3,ka,kc,ba,bc,kb,ko,bb,bo,O⟩:=h.open
 have he:=O.eq
 subst he
 have hP:=NPar.new w [.int .i64 N.k,.int .i64 N.a,.int .i64 N.c,.string N.t,.int .i64 N.p,.int .i64 N.o,v0,v1,v2,v3,.slice ka N.ks.length kc,.slice ba N.bd.length bc,.int .i64 N.d,.int .i64 N.s,.int .i64 N.z] 40
 have BN:=below_new w (.cells [.int .i64 N.k,.int .i64 N.a,.int .i64 N.c,.string N.t,.int .i64 N.p,.int .i64 N.o,v0,v1,v2,v3,.slice ka N.ks.length kc,.slice ba N.bd.length bc,.int .i64 N.d,.int .i64 N.s,.int .i64 N.z].toArray 40)
 obtain ⟨p0,p1,p2,p3,p4,p5,p6,p7,p8,p9,p10,p11,p12,p13,p14⟩:=hP.fip
 have hk1:N.ks.length<=9223372036854775807:=by have:=O.kl;omega
 have hk2:N.bd.length<=9223372036854775807:=by have:=O.bl;omega
 have SA:=xw (.agg #[v0,v1,v2,v3]) (.agg #[.int .i64 0,.slice none 0 0,.slice none 0 0,.slice none 0 0]) N.v zA _ (O.arr.below BN) (xK _)
 obtain ⟨r,hr⟩:∃ r,zF false false false false false false N=r:=⟨_,rfl⟩
 rw [hr]
 unfold zF at hr
 clear O h
 cases e0:(zQ N.t) with
 | false =>
  obtain rfl:r=false:=by rw [<- hr,e0];simp
  unfold zQ at e0
  clear hr
  go_enter Tryz.func100,Tryz.ntmps100
  go_wp2
  go_ret
  exact ⟨rfl,BN⟩
 | true =>
  have e0':=e0
  unfold zQ at e0'
  cases e1:(N.p==0) with
  | false =>
   obtain rfl:r=false:=by rw [<- hr,e0,e1];simp
   clear hr
   go_enter Tryz.func100,Tryz.ntmps100
   go_wp2
   go_ret
   exact ⟨rfl,BN⟩
  | true =>
   cases e2:(N.o==0) with
   | false =>
    obtain rfl:r=false:=by rw [<- hr,e0,e1,e2];simp
    clear hr
    go_enter Tryz.func100,Tryz.ntmps100
    go_wp2
    go_ret
    exact ⟨rfl,BN⟩
   | true =>
    cases e3:(eqA N.v zA) with
    | false =>
     obtain rfl:r=false:=by rw [<- hr,e0,e1,e2,e3];simp
     rw [e3] at SA
     clear hr
     go_enter Tryz.func100,Tryz.ntmps100
     go_wp2_with (first |(go_at_call 105;((with_reducible refine SA.mono ?_);rintro e w3 ⟨rfl,b3⟩;(obtain ⟨-,-,-,-,-,-,-,-,-,-,s10,s11,-,-,-⟩:=(hP.below b3).fip))) | fail)
     go_ret
     exact ⟨rfl,Below.then BN b3⟩
    | true =>
     rw [e3] at SA
     cases e4:((N.ks.length:Int)==0) with
     | false =>
      obtain rfl:r=false:=by rw [<- hr,e0,e1,e2,e3,e4];simp
      clear hr
      go_enter Tryz.func100,Tryz.ntmps100
      go_wp2_with (first |(go_at_call 105;((with_reducible refine SA.mono ?_);rintro e w3 ⟨rfl,b3⟩;(obtain ⟨-,-,-,-,-,-,-,-,-,-,s10,s11,-,-,-⟩:=(hP.below b3).fip))) | fail)
      go_ret
      exact ⟨rfl,Below.then BN b3⟩
     | true =>
      cases e5:((N.bd.length:Int)==0) with
      | false =>
       obtain rfl:r=false:=by rw [<- hr,e0,e1,e2,e3,e4,e5];simp
       clear hr
       go_enter Tryz.func100,Tryz.ntmps100
       go_wp2_with (first |(go_at_call 105;((with_reducible refine SA.mono ?_);rintro e w3 ⟨rfl,b3⟩;(obtain ⟨-,-,-,-,-,-,-,-,-,-,s10,s11,-,-,-⟩:=(hP.below b3).fip))) | fail)
       go_ret
       exact ⟨rfl,Below.then BN b3⟩
      | true =>
       obtain rfl:r=true:=by rw [<- hr,e0,e1,e2,e3,e4,e5];simp
       clear hr
       go_enter Tryz.func100,Tryz.ntmps100
       go_wp2_with (first |(go_at_call 105;((with_reducible refine SA.mono ?_);rintro e w3 ⟨rfl,b3⟩;(obtain ⟨-,-,-,-,-,-,-,-,-,-,s10,s11,-,-,-⟩:=(hP.below b3).fip))) | fail)
       go_ret
       exact ⟨rfl,Below.then BN b3⟩
theorem emptyEv (cs:List Value) (N:Nd) (w:World) (h:NdV w cs N):Calls Tryz.prog 100 #[.agg cs.toArray,.bool false,.bool false,.bool false,.bool true,.bool false,.bool false] w fun e w'=>e=.returned (.bool (zF false false false true false false N))/\Below w.heap.size w w':=by
 obtain ⟨v0,v1,v2,v3,ka,kc,ba,bc,kb,ko,bb,bo,O⟩:=h.open
 have he:=O.eq
 subst he
 have hP:=NPar.new w [.int .i64 N.k,.int .i64 N.a,.int .i64 N.c,.string N.t,.int .i64 N.p,.int .i64 N.o,v0,v1,v2,v3,.slice ka N.ks.length kc,.slice ba N.bd.length bc,.int .i64 N.d,.int .i64 N.s,.int .i64 N.z] 40
 have BN:=below_new w (.cells [.int .i64 N.k,.int .i64 N.a,.int .i64 N.c,.string N.t,.int .i64 N.p,.int .i64 N.o,v0,v1,v2,v3,.slice ka N.ks.length kc,.slice ba N.bd.length bc,.int .i64 N.d,.int .i64 N.s,.int .i64 N.z].toArray 40)
 obtain ⟨p0,p1,p2,p3,p4,p5,p6,p7,p8,p9,p10,p11,p12,p13,p14⟩:=hP.fip
 have hk1:N.ks.length<=9223372036854775807:=by have:=O.kl;omega
 have hk2:N.bd.length<=9223372036854775807:=by have:=O.bl;omega
 have SA:=xw (.agg #[v0,v1,v2,v3]) (.agg #[.int .i64 0,.slice none 0 0,.slice none 0 0,.slice none 0 0]) N.v zA _ (O.arr.below BN) (xK _)
 obtain ⟨r,hr⟩:∃ r,zF false false false true false false N=r:=⟨_,rfl⟩
 rw [hr]
 unfold zF at hr
 clear O h
 cases e0:(zQ N.t) with
 | false =>
  obtain rfl:r=false:=by rw [<- hr,e0];simp
  unfold zQ at e0
  clear hr
  go_enter Tryz.func100,Tryz.ntmps100
  go_wp2
  go_ret
  exact ⟨rfl,BN⟩
 | true =>
  have e0':=e0
  unfold zQ at e0'
  cases e1:(N.p==0) with
  | false =>
   obtain rfl:r=false:=by rw [<- hr,e0,e1];simp
   clear hr
   go_enter Tryz.func100,Tryz.ntmps100
   go_wp2
   go_ret
   exact ⟨rfl,BN⟩
  | true =>
   cases e2:(N.o==0) with
   | false =>
    obtain rfl:r=false:=by rw [<- hr,e0,e1,e2];simp
    clear hr
    go_enter Tryz.func100,Tryz.ntmps100
    go_wp2
    go_ret
    exact ⟨rfl,BN⟩
   | true =>
    cases e3:((N.ks.length:Int)==0) with
    | false =>
     obtain rfl:r=false:=by rw [<- hr,e0,e1,e2,e3];simp
     clear hr
     go_enter Tryz.func100,Tryz.ntmps100
     go_wp2
     go_ret
     exact ⟨rfl,BN⟩
    | true =>
     cases e4:((N.bd.length:Int)==0) with
     | false =>
      obtain rfl:r=false:=by rw [<- hr,e0,e1,e2,e3,e4];simp
      clear hr
      go_enter Tryz.func100,Tryz.ntmps100
      go_wp2
      go_ret
      exact ⟨rfl,BN⟩
     | true =>
      obtain rfl:r=true:=by rw [<- hr,e0,e1,e2,e3,e4];simp
      clear hr
      go_enter Tryz.func100,Tryz.ntmps100
      go_wp2
      go_ret
      exact ⟨rfl,BN⟩
theorem emptyEt (cs:List Value) (N:Nd) (w:World) (h:NdV w cs N):Calls Tryz.prog 100 #[.agg cs.toArray,.bool true,.bool false,.bool false,.bool false,.bool false,.bool false] w fun e w'=>e=.returned (.bool (zF true false false false false false N))/\Below w.heap.size w w':=by
 obtain ⟨v0,v1,v2,v3,ka,kc,ba,bc,kb,ko,bb,bo,O⟩:=h.open
 have he:=O.eq
 subst he
 have hP:=NPar.new w [.int .i64 N.k,.int .i64 N.a,.int .i64 N.c,.string N.t,.int .i64 N.p,.int .i64 N.o,v0,v1,v2,v3,.slice ka N.ks.length kc,.slice ba N.bd.length bc,.int .i64 N.d,.int .i64 N.s,.int .i64 N.z] 40
 have BN:=below_new w (.cells [.int .i64 N.k,.int .i64 N.a,.int .i64 N.c,.string N.t,.int .i64 N.p,.int .i64 N.o,v0,v1,v2,v3,.slice ka N.ks.length kc,.slice ba N.bd.length bc,.int .i64 N.d,.int .i64 N.s,.int .i64 N.z].toArray 40)
 obtain ⟨p0,p1,p2,p3,p4,p5,p6,p7,p8,p9,p10,p11,p12,p13,p14⟩:=hP.fip
 have hk1:N.ks.length<=9223372036854775807:=by have:=O.kl;omega
 have hk2:N.bd.length<=9223372036854775807:=by have:=O.bl;omega
 have SA:=xw (.agg #[v0,v1,v2,v3]) (.agg #[.int .i64 0,.slice none 0 0,.slice none 0 0,.slice none 0 0]) N.v zA _ (O.arr.below BN) (xK _)
 obtain ⟨r,hr⟩:∃ r,zF true false false false false false N=r:=⟨_,rfl⟩
 rw [hr]
 unfold zF at hr
 clear O h
 cases e0:(N.p==0) with
 | false =>
  obtain rfl:r=false:=by rw [<- hr,e0];simp
  clear hr
  go_enter Tryz.func100,Tryz.ntmps100
  go_wp2
  go_ret
  exact ⟨rfl,BN⟩
 | true =>
  cases e1:(N.o==0) with
  | false =>
   obtain rfl:r=false:=by rw [<- hr,e0,e1];simp
   clear hr
   go_enter Tryz.func100,Tryz.ntmps100
   go_wp2
   go_ret
   exact ⟨rfl,BN⟩
  | true =>
   cases e2:(eqA N.v zA) with
   | false =>
    obtain rfl:r=false:=by rw [<- hr,e0,e1,e2];simp
    rw [e2] at SA
    clear hr
    go_enter Tryz.func100,Tryz.ntmps100
    go_wp2_with (first |(go_at_call 105;((with_reducible refine SA.mono ?_);rintro e w3 ⟨rfl,b3⟩;(obtain ⟨-,-,-,-,-,-,-,-,-,-,s10,s11,-,-,-⟩:=(hP.below b3).fip))) | fail)
    go_ret
    exact ⟨rfl,Below.then BN b3⟩
   | true =>
    rw [e2] at SA
    cases e3:((N.ks.length:Int)==0) with
    | false =>
     obtain rfl:r=false:=by rw [<- hr,e0,e1,e2,e3];simp
     clear hr
     go_enter Tryz.func100,Tryz.ntmps100
     go_wp2_with (first |(go_at_call 105;((with_reducible refine SA.mono ?_);rintro e w3 ⟨rfl,b3⟩;(obtain ⟨-,-,-,-,-,-,-,-,-,-,s10,s11,-,-,-⟩:=(hP.below b3).fip))) | fail)
     go_ret
     exact ⟨rfl,Below.then BN b3⟩
    | true =>
     cases e4:((N.bd.length:Int)==0) with
     | false =>
      obtain rfl:r=false:=by rw [<- hr,e0,e1,e2,e3,e4];simp
      clear hr
      go_enter Tryz.func100,Tryz.ntmps100
      go_wp2_with (first |(go_at_call 105;((with_reducible refine SA.mono ?_);rintro e w3 ⟨rfl,b3⟩;(obtain ⟨-,-,-,-,-,-,-,-,-,-,s10,s11,-,-,-⟩:=(hP.below b3).fip))) | fail)
      go_ret
      exact ⟨rfl,Below.then BN b3⟩
     | true =>
      obtain rfl:r=true:=by rw [<- hr,e0,e1,e2,e3,e4];simp
      clear hr
      go_enter Tryz.func100,Tryz.ntmps100
      go_wp2_with (first |(go_at_call 105;((with_reducible refine SA.mono ?_);rintro e w3 ⟨rfl,b3⟩;(obtain ⟨-,-,-,-,-,-,-,-,-,-,s10,s11,-,-,-⟩:=(hP.below b3).fip))) | fail)
      go_ret
      exact ⟨rfl,Below.then BN b3⟩
theorem emptyEp (cs:List Value) (N:Nd) (w:World) (h:NdV w cs N):Calls Tryz.prog 100 #[.agg cs.toArray,.bool false,.bool true,.bool false,.bool false,.bool false,.bool false] w fun e w'=>e=.returned (.bool (zF false true false false false false N))/\Below w.heap.size w w':=by
 obtain ⟨v0,v1,v2,v3,ka,kc,ba,bc,kb,ko,bb,bo,O⟩:=h.open
 have he:=O.eq
 subst he
 have hP:=NPar.new w [.int .i64 N.k,.int .i64 N.a,.int .i64 N.c,.string N.t,.int .i64 N.p,.int .i64 N.o,v0,v1,v2,v3,.slice ka N.ks.length kc,.slice ba N.bd.length bc,.int .i64 N.d,.int .i64 N.s,.int .i64 N.z] 40
 have BN:=below_new w (.cells [.int .i64 N.k,.int .i64 N.a,.int .i64 N.c,.string N.t,.int .i64 N.p,.int .i64 N.o,v0,v1,v2,v3,.slice ka N.ks.length kc,.slice ba N.bd.length bc,.int .i64 N.d,.int .i64 N.s,.int .i64 N.z].toArray 40)
 obtain ⟨p0,p1,p2,p3,p4,p5,p6,p7,p8,p9,p10,p11,p12,p13,p14⟩:=hP.fip
 have hk1:N.ks.length<=9223372036854775807:=by have:=O.kl;omega
 have hk2:N.bd.length<=9223372036854775807:=by have:=O.bl;omega
 have SA:=xw (.agg #[v0,v1,v2,v3]) (.agg #[.int .i64 0,.slice none 0 0,.slice none 0 0,.slice none 0 0]) N.v zA _ (O.arr.below BN) (xK _)
 obtain ⟨r,hr⟩:∃ r,zF false true false false false false N=r:=⟨_,rfl⟩
 rw [hr]
 unfold zF at hr
 clear O h
 cases e0:(zQ N.t) with
 | false =>
  obtain rfl:r=false:=by rw [<- hr,e0];simp
  unfold zQ at e0
  clear hr
  go_enter Tryz.func100,Tryz.ntmps100
  go_wp2
  go_ret
  exact ⟨rfl,BN⟩
 | true =>
  have e0':=e0
  unfold zQ at e0'
  cases e1:(N.o==0) with
  | false =>
   obtain rfl:r=false:=by rw [<- hr,e0,e1];simp
   clear hr
   go_enter Tryz.func100,Tryz.ntmps100
   go_wp2
   go_ret
   exact ⟨rfl,BN⟩
  | true =>
   cases e2:(eqA N.v zA) with
   | false =>
    obtain rfl:r=false:=by rw [<- hr,e0,e1,e2];simp
    rw [e2] at SA
    clear hr
    go_enter Tryz.func100,Tryz.ntmps100
    go_wp2_with (first |(go_at_call 105;((with_reducible refine SA.mono ?_);rintro e w3 ⟨rfl,b3⟩;(obtain ⟨-,-,-,-,-,-,-,-,-,-,s10,s11,-,-,-⟩:=(hP.below b3).fip))) | fail)
    go_ret
    exact ⟨rfl,Below.then BN b3⟩
   | true =>
    rw [e2] at SA
    cases e3:((N.ks.length:Int)==0) with
    | false =>
     obtain rfl:r=false:=by rw [<- hr,e0,e1,e2,e3];simp
     clear hr
     go_enter Tryz.func100,Tryz.ntmps100
     go_wp2_with (first |(go_at_call 105;((with_reducible refine SA.mono ?_);rintro e w3 ⟨rfl,b3⟩;(obtain ⟨-,-,-,-,-,-,-,-,-,-,s10,s11,-,-,-⟩:=(hP.below b3).fip))) | fail)
     go_ret
     exact ⟨rfl,Below.then BN b3⟩
    | true =>
     cases e4:((N.bd.length:Int)==0) with
     | false =>
      obtain rfl:r=false:=by rw [<- hr,e0,e1,e2,e3,e4];simp
      clear hr
      go_enter Tryz.func100,Tryz.ntmps100
      go_wp2_with (first |(go_at_call 105;((with_reducible refine SA.mono ?_);rintro e w3 ⟨rfl,b3⟩;(obtain ⟨-,-,-,-,-,-,-,-,-,-,s10,s11,-,-,-⟩:=(hP.below b3).fip))) | fail)
      go_ret
      exact ⟨rfl,Below.then BN b3⟩
     | true =>
      obtain rfl:r=true:=by rw [<- hr,e0,e1,e2,e3,e4];simp
      clear hr
      go_enter Tryz.func100,Tryz.ntmps100
      go_wp2_with (first |(go_at_call 105;((with_reducible refine SA.mono ?_);rintro e w3 ⟨rfl,b3⟩;(obtain ⟨-,-,-,-,-,-,-,-,-,-,s10,s11,-,-,-⟩:=(hP.below b3).fip))) | fail)
      go_ret
      exact ⟨rfl,Below.then BN b3⟩
theorem emptyEo (cs:List Value) (N:Nd) (w:World) (h:NdV w cs N):Calls Tryz.prog 100 #[.agg cs.toArray,.bool false,.bool false,.bool true,.bool false,.bool false,.bool false] w fun e w'=>e=.returned (.bool (zF false false true false false false N))/\Below w.heap.size w w':=by
 obtain ⟨v0,v1,v2,v3,ka,kc,ba,bc,kb,ko,bb,bo,O⟩:=h.open
 have he:=O.eq
 subst he
 have hP:=NPar.new w [.int .i64 N.k,.int .i64 N.a,.int .i64 N.c,.string N.t,.int .i64 N.p,.int .i64 N.o,v0,v1,v2,v3,.slice ka N.ks.length kc,.slice ba N.bd.length bc,.int .i64 N.d,.int .i64 N.s,.int .i64 N.z] 40
 have BN:=below_new w (.cells [.int .i64 N.k,.int .i64 N.a,.int .i64 N.c,.string N.t,.int .i64 N.p,.int .i64 N.o,v0,v1,v2,v3,.slice ka N.ks.length kc,.slice ba N.bd.length bc,.int .i64 N.d,.int .i64 N.s,.int .i64 N.z].toArray 40)
 obtain ⟨p0,p1,p2,p3,p4,p5,p6,p7,p8,p9,p10,p11,p12,p13,p14⟩:=hP.fip
 have hk1:N.ks.length<=9223372036854775807:=by have:=O.kl;omega
 have hk2:N.bd.length<=9223372036854775807:=by have:=O.bl;omega
 have SA:=xw (.agg #[v0,v1,v2,v3]) (.agg #[.int .i64 0,.slice none 0 0,.slice none 0 0,.slice none 0 0]) N.v zA _ (O.arr.below BN) (xK _)
 obtain ⟨r,hr⟩:∃ r,zF false false true false false false N=r:=⟨_,rfl⟩
 rw [hr]
 unfold zF at hr
 clear O h
 cases e0:(zQ N.t) with
 | false =>
  obtain rfl:r=false:=by rw [<- hr,e0];simp
  unfold zQ at e0
  clear hr
  go_enter Tryz.func100,Tryz.ntmps100
  go_wp2
  go_ret
  exact ⟨rfl,BN⟩
 | true =>
  have e0':=e0
  unfold zQ at e0'
  cases e1:(N.p==0) with
  | false =>
   obtain rfl:r=false:=by rw [<- hr,e0,e1];simp
   clear hr
   go_enter Tryz.func100,Tryz.ntmps100
   go_wp2
   go_ret
   exact ⟨rfl,BN⟩
  | true =>
   cases e2:(eqA N.v zA) with
   | false =>
    obtain rfl:r=false:=by rw [<- hr,e0,e1,e2];simp
    rw [e2] at SA
    clear hr
    go_enter Tryz.func100,Tryz.ntmps100
    go_wp2_with (first |(go_at_call 105;((with_reducible refine SA.mono ?_);rintro e w3 ⟨rfl,b3⟩;(obtain ⟨-,-,-,-,-,-,-,-,-,-,s10,s11,-,-,-⟩:=(hP.below b3).fip))) | fail)
    go_ret
    exact ⟨rfl,Below.then BN b3⟩
   | true =>
    rw [e2] at SA
    cases e3:((N.ks.length:Int)==0) with
    | false =>
     obtain rfl:r=false:=by rw [<- hr,e0,e1,e2,e3];simp
     clear hr
     go_enter Tryz.func100,Tryz.ntmps100
     go_wp2_with (first |(go_at_call 105;((with_reducible refine SA.mono ?_);rintro e w3 ⟨rfl,b3⟩;(obtain ⟨-,-,-,-,-,-,-,-,-,-,s10,s11,-,-,-⟩:=(hP.below b3).fip))) | fail)
     go_ret
     exact ⟨rfl,Below.then BN b3⟩
    | true =>
     cases e4:((N.bd.length:Int)==0) with
     | false =>
      obtain rfl:r=false:=by rw [<- hr,e0,e1,e2,e3,e4];simp
      clear hr
      go_enter Tryz.func100,Tryz.ntmps100
      go_wp2_with (first |(go_at_call 105;((with_reducible refine SA.mono ?_);rintro e w3 ⟨rfl,b3⟩;(obtain ⟨-,-,-,-,-,-,-,-,-,-,s10,s11,-,-,-⟩:=(hP.below b3).fip))) | fail)
      go_ret
      exact ⟨rfl,Below.then BN b3⟩
     | true =>
      obtain rfl:r=true:=by rw [<- hr,e0,e1,e2,e3,e4];simp
      clear hr
      go_enter Tryz.func100,Tryz.ntmps100
      go_wp2_with (first |(go_at_call 105;((with_reducible refine SA.mono ?_);rintro e w3 ⟨rfl,b3⟩;(obtain ⟨-,-,-,-,-,-,-,-,-,-,s10,s11,-,-,-⟩:=(hP.below b3).fip))) | fail)
      go_ret
      exact ⟨rfl,Below.then BN b3⟩
theorem xf (cs:List Value) (N:Nd) (w:World) (h:NdV w cs N):Calls Tryz.prog 100 #[.agg cs.toArray,.bool false,.bool false,.bool false,.bool false,.bool true,.bool false] w fun e w'=>e=.returned (.bool (zF false false false false true false N))/\Below w.heap.size w w':=by
 obtain ⟨v0,v1,v2,v3,ka,kc,ba,bc,kb,ko,bb,bo,O⟩:=h.open
 have he:=O.eq
 subst he
 have hP:=NPar.new w [.int .i64 N.k,.int .i64 N.a,.int .i64 N.c,.string N.t,.int .i64 N.p,.int .i64 N.o,v0,v1,v2,v3,.slice ka N.ks.length kc,.slice ba N.bd.length bc,.int .i64 N.d,.int .i64 N.s,.int .i64 N.z] 40
 have BN:=below_new w (.cells [.int .i64 N.k,.int .i64 N.a,.int .i64 N.c,.string N.t,.int .i64 N.p,.int .i64 N.o,v0,v1,v2,v3,.slice ka N.ks.length kc,.slice ba N.bd.length bc,.int .i64 N.d,.int .i64 N.s,.int .i64 N.z].toArray 40)
 obtain ⟨p0,p1,p2,p3,p4,p5,p6,p7,p8,p9,p10,p11,p12,p13,p14⟩:=hP.fip
 have hk1:N.ks.length<=9223372036854775807:=by have:=O.kl;omega
 have hk2:N.bd.length<=9223372036854775807:=by have:=O.bl;omega
 have SA:=xw (.agg #[v0,v1,v2,v3]) (.agg #[.int .i64 0,.slice none 0 0,.slice none 0 0,.slice none 0 0]) N.v zA _ (O.arr.below BN) (xK _)
 obtain ⟨r,hr⟩:∃ r,zF false false false false true false N=r:=⟨_,rfl⟩
 rw [hr]
 unfold zF at hr
 clear O h
 cases e0:(zQ N.t) with
 | false =>
  obtain rfl:r=false:=by rw [<- hr,e0];simp
  unfold zQ at e0
  clear hr
  go_enter Tryz.func100,Tryz.ntmps100
  go_wp2
  go_ret
  exact ⟨rfl,BN⟩
 | true =>
  have e0':=e0
  unfold zQ at e0'
  cases e1:(N.p==0) with
  | false =>
   obtain rfl:r=false:=by rw [<- hr,e0,e1];simp
   clear hr
   go_enter Tryz.func100,Tryz.ntmps100
   go_wp2
   go_ret
   exact ⟨rfl,BN⟩
  | true =>
   cases e2:(N.o==0) with
   | false =>
    obtain rfl:r=false:=by rw [<- hr,e0,e1,e2];simp
    clear hr
    go_enter Tryz.func100,Tryz.ntmps100
    go_wp2
    go_ret
    exact ⟨rfl,BN⟩
   | true =>
    cases e3:(eqA N.v zA) with
    | false =>
     obtain rfl:r=false:=by rw [<- hr,e0,e1,e2,e3];simp
     rw [e3] at SA
     clear hr
     go_enter Tryz.func100,Tryz.ntmps100
     go_wp2_with (first |(go_at_call 105;((with_reducible refine SA.mono ?_);rintro e w3 ⟨rfl,b3⟩;(obtain ⟨-,-,-,-,-,-,-,-,-,-,s10,s11,-,-,-⟩:=(hP.below b3).fip))) | fail)
     go_ret
     exact ⟨rfl,Below.then BN b3⟩
    | true =>
     rw [e3] at SA
     cases e4:((N.bd.length:Int)==0) with
     | false =>
      obtain rfl:r=false:=by rw [<- hr,e0,e1,e2,e3,e4];simp
      clear hr
      go_enter Tryz.func100,Tryz.ntmps100
      go_wp2_with (first |(go_at_call 105;((with_reducible refine SA.mono ?_);rintro e w3 ⟨rfl,b3⟩;(obtain ⟨-,-,-,-,-,-,-,-,-,-,s10,s11,-,-,-⟩:=(hP.below b3).fip))) | fail)
      go_ret
      exact ⟨rfl,Below.then BN b3⟩
     | true =>
      obtain rfl:r=true:=by rw [<- hr,e0,e1,e2,e3,e4];simp
      clear hr
      go_enter Tryz.func100,Tryz.ntmps100
      go_wp2_with (first |(go_at_call 105;((with_reducible refine SA.mono ?_);rintro e w3 ⟨rfl,b3⟩;(obtain ⟨-,-,-,-,-,-,-,-,-,-,s10,s11,-,-,-⟩:=(hP.below b3).fip))) | fail)
      go_ret
      exact ⟨rfl,Below.then BN b3⟩
theorem emptyEb (cs:List Value) (N:Nd) (w:World) (h:NdV w cs N):Calls Tryz.prog 100 #[.agg cs.toArray,.bool false,.bool false,.bool false,.bool false,.bool false,.bool true] w fun e w'=>e=.returned (.bool (zF false false false false false true N))/\Below w.heap.size w w':=by
 obtain ⟨v0,v1,v2,v3,ka,kc,ba,bc,kb,ko,bb,bo,O⟩:=h.open
 have he:=O.eq
 subst he
 have hP:=NPar.new w [.int .i64 N.k,.int .i64 N.a,.int .i64 N.c,.string N.t,.int .i64 N.p,.int .i64 N.o,v0,v1,v2,v3,.slice ka N.ks.length kc,.slice ba N.bd.length bc,.int .i64 N.d,.int .i64 N.s,.int .i64 N.z] 40
 have BN:=below_new w (.cells [.int .i64 N.k,.int .i64 N.a,.int .i64 N.c,.string N.t,.int .i64 N.p,.int .i64 N.o,v0,v1,v2,v3,.slice ka N.ks.length kc,.slice ba N.bd.length bc,.int .i64 N.d,.int .i64 N.s,.int .i64 N.z].toArray 40)
 obtain ⟨p0,p1,p2,p3,p4,p5,p6,p7,p8,p9,p10,p11,p12,p13,p14⟩:=hP.fip
 have hk1:N.ks.length<=9223372036854775807:=by have:=O.kl;omega
 have hk2:N.bd.length<=9223372036854775807:=by have:=O.bl;omega
 have SA:=xw (.agg #[v0,v1,v2,v3]) (.agg #[.int .i64 0,.slice none 0 0,.slice none 0 0,.slice none 0 0]) N.v zA _ (O.arr.below BN) (xK _)
 obtain ⟨r,hr⟩:∃ r,zF false false false false false true N=r:=⟨_,rfl⟩
 rw [hr]
 unfold zF at hr
 clear O h
 cases e0:(zQ N.t) with
 | false =>
  obtain rfl:r=false:=by rw [<- hr,e0];simp
  unfold zQ at e0
  clear hr
  go_enter Tryz.func100,Tryz.ntmps100
  go_wp2
  go_ret
  exact ⟨rfl,BN⟩
 | true =>
  have e0':=e0
  unfold zQ at e0'
  cases e1:(N.p==0) with
  | false =>
   obtain rfl:r=false:=by rw [<- hr,e0,e1];simp
   clear hr
   go_enter Tryz.func100,Tryz.ntmps100
   go_wp2
   go_ret
   exact ⟨rfl,BN⟩
  | true =>
   cases e2:(N.o==0) with
   | false =>
    obtain rfl:r=false:=by rw [<- hr,e0,e1,e2];simp
    clear hr
    go_enter Tryz.func100,Tryz.ntmps100
    go_wp2
    go_ret
    exact ⟨rfl,BN⟩
   | true =>
    cases e3:(eqA N.v zA) with
    | false =>
     obtain rfl:r=false:=by rw [<- hr,e0,e1,e2,e3];simp
     rw [e3] at SA
     clear hr
     go_enter Tryz.func100,Tryz.ntmps100
     go_wp2_with (first |(go_at_call 105;((with_reducible refine SA.mono ?_);rintro e w3 ⟨rfl,b3⟩;(obtain ⟨-,-,-,-,-,-,-,-,-,-,s10,s11,-,-,-⟩:=(hP.below b3).fip))) | fail)
     go_ret
     exact ⟨rfl,Below.then BN b3⟩
    | true =>
     rw [e3] at SA
     cases e4:((N.ks.length:Int)==0) with
     | false =>
      obtain rfl:r=false:=by rw [<- hr,e0,e1,e2,e3,e4];simp
      clear hr
      go_enter Tryz.func100,Tryz.ntmps100
      go_wp2_with (first |(go_at_call 105;((with_reducible refine SA.mono ?_);rintro e w3 ⟨rfl,b3⟩;(obtain ⟨-,-,-,-,-,-,-,-,-,-,s10,s11,-,-,-⟩:=(hP.below b3).fip))) | fail)
      go_ret
      exact ⟨rfl,Below.then BN b3⟩
     | true =>
      obtain rfl:r=true:=by rw [<- hr,e0,e1,e2,e3,e4];simp
      clear hr
      go_enter Tryz.func100,Tryz.ntmps100
      go_wp2_with (first |(go_at_call 105;((with_reducible refine SA.mono ?_);rintro e w3 ⟨rfl,b3⟩;(obtain ⟨-,-,-,-,-,-,-,-,-,-,s10,s11,-,-,-⟩:=(hP.below b3).fip))) | fail)
      go_ret
      exact ⟨rfl,Below.then BN b3⟩
theorem zeroR (cs:List Value) (N:Nd) (w:World) (h:NdV w cs N):Calls Tryz.prog 53 #[.agg cs.toArray] w fun e w'=>e=.returned (.bool (qH N))/\Below w.heap.size w w':=by
 have hN:=h
 obtain ⟨v0,v1,v2,v3,ka,kc,ba,bc,kb,ko,bb,bo,O⟩:=h.open
 have he:=O.eq
 subst he
 have hP:=NPar.new w [.int .i64 N.k,.int .i64 N.a,.int .i64 N.c,.string N.t,.int .i64 N.p,.int .i64 N.o,v0,v1,v2,v3,.slice ka N.ks.length kc,.slice ba N.bd.length bc,.int .i64 N.d,.int .i64 N.s,.int .i64 N.z] 40
 have BN:=below_new w (.cells [.int .i64 N.k,.int .i64 N.a,.int .i64 N.c,.string N.t,.int .i64 N.p,.int .i64 N.o,v0,v1,v2,v3,.slice ka N.ks.length kc,.slice ba N.bd.length bc,.int .i64 N.d,.int .i64 N.s,.int .i64 N.z].toArray 40)
 obtain ⟨p0,p1,p2,p3,p4,p5,p6,p7,p8,p9,p10,p11,p12,p13,p14⟩:=hP.fip
 have SA:=sameR [.int .i64 N.k,.int .i64 N.a,.int .i64 N.c,.string N.t,.int .i64 N.p,.int .i64 N.o,v0,v1,v2,v3,.slice ka N.ks.length kc,.slice ba N.bd.length bc,.int .i64 N.d,.int .i64 N.s,.int .i64 N.z] zNv N zN _ (hN.below BN) (zN_at _)
 unfold zNv at SA
 obtain ⟨r,hr⟩:∃ r,qH N=r:=⟨_,rfl⟩
 rw [hr]
 unfold qH at hr
 clear O h hN
 cases e0:(eqN N zN) with
 | false =>
  obtain rfl:r=false:=by rw [<- hr,e0];simp
  rw [e0] at SA
  clear hr
  go_enter Tryz.func53,Tryz.ntmps53
  go_wp2_with (first |(go_at_call 78;((with_reducible refine SA.mono ?_);rintro e w3 ⟨rfl,b3⟩;(obtain ⟨s0,s1,s2,s3,s4,s5,s6,s7,s8,s9,s10,s11,s12,s13,s14⟩:=(hP.below b3).fip))) | fail)
  go_ret
  exact ⟨rfl,Below.then BN b3⟩
 | true =>
  rw [e0] at SA
  cases e1:(N.a==0) with
  | false =>
   obtain rfl:r=false:=by rw [<- hr,e0,e1];simp
   clear hr
   go_enter Tryz.func53,Tryz.ntmps53
   go_wp2_with (first |(go_at_call 78;((with_reducible refine SA.mono ?_);rintro e w3 ⟨rfl,b3⟩;(obtain ⟨s0,s1,s2,s3,s4,s5,s6,s7,s8,s9,s10,s11,s12,s13,s14⟩:=(hP.below b3).fip))) | fail)
   go_ret
   exact ⟨rfl,Below.then BN b3⟩
  | true =>
   cases e2:(N.d==0) with
   | false =>
    obtain rfl:r=false:=by rw [<- hr,e0,e1,e2];simp
    clear hr
    go_enter Tryz.func53,Tryz.ntmps53
    go_wp2_with (first |(go_at_call 78;((with_reducible refine SA.mono ?_);rintro e w3 ⟨rfl,b3⟩;(obtain ⟨s0,s1,s2,s3,s4,s5,s6,s7,s8,s9,s10,s11,s12,s13,s14⟩:=(hP.below b3).fip))) | fail)
    go_ret
    exact ⟨rfl,Below.then BN b3⟩
   | true =>
    cases e3:(N.s==0) with
    | false =>
     obtain rfl:r=false:=by rw [<- hr,e0,e1,e2,e3];simp
     clear hr
     go_enter Tryz.func53,Tryz.ntmps53
     go_wp2_with (first |(go_at_call 78;((with_reducible refine SA.mono ?_);rintro e w3 ⟨rfl,b3⟩;(obtain ⟨s0,s1,s2,s3,s4,s5,s6,s7,s8,s9,s10,s11,s12,s13,s14⟩:=(hP.below b3).fip))) | fail)
     go_ret
     exact ⟨rfl,Below.then BN b3⟩
    | true =>
     cases e4:(N.z==0) with
     | false =>
      obtain rfl:r=false:=by rw [<- hr,e0,e1,e2,e3,e4];simp
      clear hr
      go_enter Tryz.func53,Tryz.ntmps53
      go_wp2_with (first |(go_at_call 78;((with_reducible refine SA.mono ?_);rintro e w3 ⟨rfl,b3⟩;(obtain ⟨s0,s1,s2,s3,s4,s5,s6,s7,s8,s9,s10,s11,s12,s13,s14⟩:=(hP.below b3).fip))) | fail)
      go_ret
      exact ⟨rfl,Below.then BN b3⟩
     | true =>
      obtain rfl:r=true:=by rw [<- hr,e0,e1,e2,e3,e4];simp
      clear hr
      go_enter Tryz.func53,Tryz.ntmps53
      go_wp2_with (first |(go_at_call 78;((with_reducible refine SA.mono ?_);rintro e w3 ⟨rfl,b3⟩;(obtain ⟨s0,s1,s2,s3,s4,s5,s6,s7,s8,s9,s10,s11,s12,s13,s14⟩:=(hP.below b3).fip))) | fail)
      go_ret
      exact ⟨rfl,Below.then BN b3⟩
theorem arr_form {w:World}{v0 v1 v2 v3:Value}{A:Arr}(h:ArrAt w (.agg #[v0,v1,v2,v3]) A):∃ sa sc na nc ia ic,v0=.int .i64 A.kind/\v1=.slice sa A.shape.length sc/\v2=.slice na A.nums.length nc/\v3=.slice ia A.items.length ic:=by
 cases A with | mk k sh nu it =>
 rw [ArrAt] at h
 obtain ⟨sa,sc,na,nc,ia,ic,e,-⟩:=h
 have e':[v0,v1,v2,v3]=[Value.int .i64 k,.slice sa sh.length sc,.slice na nu.length nc,.slice ia it.length ic]:=by simpa using e
 simp only [List.cons.injEq,and_true] at e'
 exact ⟨sa,sc,na,nc,ia,ic,e'.1,e'.2.1,e'.2.2.1,e'.2.2.2⟩
theorem leafK2 (cs:List Value) (N:Nd) (w:World) (h:NdV w cs N) (hk:N.k=2):Calls Tryz.prog 76 #[.agg cs.toArray] w fun e w'=>e=.returned (.bool (zM N))/\Below w.heap.size w w':=by
 have hN:=h
 obtain ⟨v0,v1,v2,v3,ka,kc,ba,bc,kb,ko,bb,bo,O⟩:=h.open
 have he:=O.eq
 subst he
 have hP:=NPar.new w [.int .i64 N.k,.int .i64 N.a,.int .i64 N.c,.string N.t,.int .i64 N.p,.int .i64 N.o,v0,v1,v2,v3,.slice ka N.ks.length kc,.slice ba N.bd.length bc,.int .i64 N.d,.int .i64 N.s,.int .i64 N.z] 40
 have BN:=below_new w (.cells [.int .i64 N.k,.int .i64 N.a,.int .i64 N.c,.string N.t,.int .i64 N.p,.int .i64 N.o,v0,v1,v2,v3,.slice ka N.ks.length kc,.slice ba N.bd.length bc,.int .i64 N.d,.int .i64 N.s,.int .i64 N.z].toArray 40)
 obtain ⟨p0,p1,p2,p3,p4,p5,p6,p7,p8,p9,p10,p11,p12,p13,p14⟩:=hP.fip
 have hk1:N.ks.length<=9223372036854775807:=by have:=O.kl;omega
 have hk2:N.bd.length<=9223372036854775807:=by have:=O.bl;omega
 have k1:(N.k==1)=false:=by rw [hk];rfl
 have k2:(N.k==2)=true:=by rw [hk];rfl
 have k6:(N.k==6)=false:=by rw [hk];rfl
 have k7:(N.k==7)=false:=by rw [hk];rfl
 have k8:(N.k==8)=false:=by rw [hk];rfl
 have k9:(N.k==9)=false:=by rw [hk];rfl
 have k11:(N.k==11)=false:=by rw [hk];rfl
 have k12:(N.k==12)=false:=by rw [hk];rfl
 have k13:(N.k==13)=false:=by rw [hk];rfl
 have k17:(N.k==17)=false:=by rw [hk];rfl
 have SE:=emptyEt [.int .i64 N.k,.int .i64 N.a,.int .i64 N.c,.string N.t,.int .i64 N.p,.int .i64 N.o,v0,v1,v2,v3,.slice ka N.ks.length kc,.slice ba N.bd.length bc,.int .i64 N.d,.int .i64 N.s,.int .i64 N.z] N _ (hN.below BN)
 have NR:=fun w'=>nameR N.t w' O.ts
 obtain ⟨r,hr⟩:∃ r,zM N=r:=⟨_,rfl⟩
 rw [hr]
 rw [zM,if_neg (by simp [hk]),if_pos (by simp [hk])] at hr
 clear O h hN hk
 obtain ⟨E,hE⟩:∃ E,zF true false false false false false N=E:=⟨_,rfl⟩
 rw [hE] at SE hr
 clear hE
 obtain ⟨M,hM⟩:∃ M,zu N.t=M:=⟨_,rfl⟩
 rw [hM] at hr
 simp only [hM] at NR
 clear hM
 cases e0:(E) with
 | false =>
  obtain rfl:r=false:=by rw [<- hr,e0];simp
  rw [e0] at SE
  clear hr
  go_enter Tryz.func76,Tryz.ntmps76
  go_wp2_with (first |(go_at_call 100;((with_reducible refine SE.mono ?_);rintro e w3 ⟨rfl,b3⟩;(obtain ⟨s0,s1,s2,s3,s4,s5,s6,s7,s8,s9,s10,s11,s12,s13,s14⟩:=(hP.below b3).fip))) |(go_at_call 54;((with_reducible refine (NR _).mono ?_);rintro e w4 ⟨rfl,rfl⟩)) | fail)
  go_ret
  exact ⟨rfl,Below.then BN b3⟩
 | true =>
  rw [e0] at SE
  cases e1:(M) with
  | false =>
   obtain rfl:r=false:=by rw [<- hr,e0,e1];simp
   simp only [e1] at NR
   clear hr
   go_enter Tryz.func76,Tryz.ntmps76
   go_wp2_with (first |(go_at_call 100;((with_reducible refine SE.mono ?_);rintro e w3 ⟨rfl,b3⟩;(obtain ⟨s0,s1,s2,s3,s4,s5,s6,s7,s8,s9,s10,s11,s12,s13,s14⟩:=(hP.below b3).fip))) |(go_at_call 54;((with_reducible refine (NR _).mono ?_);rintro e w4 ⟨rfl,rfl⟩)) | fail)
   go_ret
   exact ⟨rfl,Below.then BN b3⟩
  | true =>
   simp only [e1] at NR
   cases e2:(decide (1<=N.c)) with
   | false =>
    obtain rfl:r=false:=by rw [<- hr,e0,e1,e2];simp
    clear hr
    go_enter Tryz.func76,Tryz.ntmps76
    go_wp2_with (first |(go_at_call 100;((with_reducible refine SE.mono ?_);rintro e w3 ⟨rfl,b3⟩;(obtain ⟨s0,s1,s2,s3,s4,s5,s6,s7,s8,s9,s10,s11,s12,s13,s14⟩:=(hP.below b3).fip))) |(go_at_call 54;((with_reducible refine (NR _).mono ?_);rintro e w4 ⟨rfl,rfl⟩)) | fail)
    go_ret
    exact ⟨rfl,Below.then BN b3⟩
   | true =>
    cases e3:(decide (N.c<=4)) with
    | false =>
     obtain rfl:r=false:=by rw [<- hr,e0,e1,e2,e3];simp
     clear hr
     go_enter Tryz.func76,Tryz.ntmps76
     go_wp2_with (first |(go_at_call 100;((with_reducible refine SE.mono ?_);rintro e w3 ⟨rfl,b3⟩;(obtain ⟨s0,s1,s2,s3,s4,s5,s6,s7,s8,s9,s10,s11,s12,s13,s14⟩:=(hP.below b3).fip))) |(go_at_call 54;((with_reducible refine (NR _).mono ?_);rintro e w4 ⟨rfl,rfl⟩)) | fail)
     go_ret
     exact ⟨rfl,Below.then BN b3⟩
    | true =>
     obtain rfl:r=true:=by rw [<- hr,e0,e1,e2,e3];simp
     clear hr
     go_enter Tryz.func76,Tryz.ntmps76
     go_wp2_with (first |(go_at_call 100;((with_reducible refine SE.mono ?_);rintro e w3 ⟨rfl,b3⟩;(obtain ⟨s0,s1,s2,s3,s4,s5,s6,s7,s8,s9,s10,s11,s12,s13,s14⟩:=(hP.below b3).fip))) |(go_at_call 54;((with_reducible refine (NR _).mono ?_);rintro e w4 ⟨rfl,rfl⟩)) | fail)
     go_ret
     exact ⟨rfl,Below.then BN b3⟩
theorem leafK6 (cs:List Value) (N:Nd) (w:World) (h:NdV w cs N) (hk:N.k=6):Calls Tryz.prog 76 #[.agg cs.toArray] w fun e w'=>e=.returned (.bool (zM N))/\Below w.heap.size w w':=by
 have hN:=h
 obtain ⟨v0,v1,v2,v3,ka,kc,ba,bc,kb,ko,bb,bo,O⟩:=h.open
 have he:=O.eq
 subst he
 have hP:=NPar.new w [.int .i64 N.k,.int .i64 N.a,.int .i64 N.c,.string N.t,.int .i64 N.p,.int .i64 N.o,v0,v1,v2,v3,.slice ka N.ks.length kc,.slice ba N.bd.length bc,.int .i64 N.d,.int .i64 N.s,.int .i64 N.z] 40
 have BN:=below_new w (.cells [.int .i64 N.k,.int .i64 N.a,.int .i64 N.c,.string N.t,.int .i64 N.p,.int .i64 N.o,v0,v1,v2,v3,.slice ka N.ks.length kc,.slice ba N.bd.length bc,.int .i64 N.d,.int .i64 N.s,.int .i64 N.z].toArray 40)
 obtain ⟨p0,p1,p2,p3,p4,p5,p6,p7,p8,p9,p10,p11,p12,p13,p14⟩:=hP.fip
 have hk1:N.ks.length<=9223372036854775807:=by have:=O.kl;omega
 have hk2:N.bd.length<=9223372036854775807:=by have:=O.bl;omega
 have k1:(N.k==1)=false:=by rw [hk];rfl
 have k2:(N.k==2)=false:=by rw [hk];rfl
 have k6:(N.k==6)=true:=by rw [hk];rfl
 have k7:(N.k==7)=false:=by rw [hk];rfl
 have k8:(N.k==8)=false:=by rw [hk];rfl
 have k9:(N.k==9)=false:=by rw [hk];rfl
 have k11:(N.k==11)=false:=by rw [hk];rfl
 have k12:(N.k==12)=false:=by rw [hk];rfl
 have k13:(N.k==13)=false:=by rw [hk];rfl
 have k17:(N.k==17)=false:=by rw [hk];rfl
 have SE:=vQ [.int .i64 N.k,.int .i64 N.a,.int .i64 N.c,.string N.t,.int .i64 N.p,.int .i64 N.o,v0,v1,v2,v3,.slice ka N.ks.length kc,.slice ba N.bd.length bc,.int .i64 N.d,.int .i64 N.s,.int .i64 N.z] N _ (hN.below BN)
 obtain ⟨r,hr⟩:∃ r,zM N=r:=⟨_,rfl⟩
 rw [hr]
 rw [zM,if_neg (by simp [hk]),if_neg (by simp [hk]),if_pos (by simp [hk])] at hr
 clear O h hN hk
 obtain ⟨E,hE⟩:∃ E,zF false false false false false false N=E:=⟨_,rfl⟩
 rw [hE] at SE hr
 clear hE
 cases e0:(E) with
 | false =>
  obtain rfl:r=false:=by rw [<- hr,e0];simp
  rw [e0] at SE
  clear hr
  go_enter Tryz.func76,Tryz.ntmps76
  go_wp2_with (first |(go_at_call 100;((with_reducible refine SE.mono ?_);rintro e w3 ⟨rfl,b3⟩;(obtain ⟨s0,s1,s2,s3,s4,s5,s6,s7,s8,s9,s10,s11,s12,s13,s14⟩:=(hP.below b3).fip))) | fail)
  go_ret
  exact ⟨rfl,Below.then BN b3⟩
 | true =>
  rw [e0] at SE
  cases e1:(N.c==1) with
  | false =>
   obtain rfl:r=false:=by rw [<- hr,e0,e1];simp
   clear hr
   go_enter Tryz.func76,Tryz.ntmps76
   go_wp2_with (first |(go_at_call 100;((with_reducible refine SE.mono ?_);rintro e w3 ⟨rfl,b3⟩;(obtain ⟨s0,s1,s2,s3,s4,s5,s6,s7,s8,s9,s10,s11,s12,s13,s14⟩:=(hP.below b3).fip))) | fail)
   go_ret
   exact ⟨rfl,Below.then BN b3⟩
  | true =>
   obtain rfl:r=true:=by rw [<- hr,e0,e1];simp
   clear hr
   go_enter Tryz.func76,Tryz.ntmps76
   go_wp2_with (first |(go_at_call 100;((with_reducible refine SE.mono ?_);rintro e w3 ⟨rfl,b3⟩;(obtain ⟨s0,s1,s2,s3,s4,s5,s6,s7,s8,s9,s10,s11,s12,s13,s14⟩:=(hP.below b3).fip))) | fail)
   go_ret
   exact ⟨rfl,Below.then BN b3⟩
theorem leafK7 (cs:List Value) (N:Nd) (w:World) (h:NdV w cs N) (hk:N.k=7):Calls Tryz.prog 76 #[.agg cs.toArray] w fun e w'=>e=.returned (.bool (zM N))/\Below w.heap.size w w':=by
 have hN:=h
 obtain ⟨v0,v1,v2,v3,ka,kc,ba,bc,kb,ko,bb,bo,O⟩:=h.open
 have he:=O.eq
 subst he
 have hP:=NPar.new w [.int .i64 N.k,.int .i64 N.a,.int .i64 N.c,.string N.t,.int .i64 N.p,.int .i64 N.o,v0,v1,v2,v3,.slice ka N.ks.length kc,.slice ba N.bd.length bc,.int .i64 N.d,.int .i64 N.s,.int .i64 N.z] 40
 have BN:=below_new w (.cells [.int .i64 N.k,.int .i64 N.a,.int .i64 N.c,.string N.t,.int .i64 N.p,.int .i64 N.o,v0,v1,v2,v3,.slice ka N.ks.length kc,.slice ba N.bd.length bc,.int .i64 N.d,.int .i64 N.s,.int .i64 N.z].toArray 40)
 obtain ⟨p0,p1,p2,p3,p4,p5,p6,p7,p8,p9,p10,p11,p12,p13,p14⟩:=hP.fip
 have hk1:N.ks.length<=9223372036854775807:=by have:=O.kl;omega
 have hk2:N.bd.length<=9223372036854775807:=by have:=O.bl;omega
 have k1:(N.k==1)=false:=by rw [hk];rfl
 have k2:(N.k==2)=false:=by rw [hk];rfl
 have k6:(N.k==6)=false:=by rw [hk];rfl
 have k7:(N.k==7)=true:=by rw [hk];rfl
 have k8:(N.k==8)=false:=by rw [hk];rfl
 have k9:(N.k==9)=false:=by rw [hk];rfl
 have k11:(N.k==11)=false:=by rw [hk];rfl
 have k12:(N.k==12)=false:=by rw [hk];rfl
 have k13:(N.k==13)=false:=by rw [hk];rfl
 have k17:(N.k==17)=false:=by rw [hk];rfl
 have SE:=vQ [.int .i64 N.k,.int .i64 N.a,.int .i64 N.c,.string N.t,.int .i64 N.p,.int .i64 N.o,v0,v1,v2,v3,.slice ka N.ks.length kc,.slice ba N.bd.length bc,.int .i64 N.d,.int .i64 N.s,.int .i64 N.z] N _ (hN.below BN)
 obtain ⟨r,hr⟩:∃ r,zM N=r:=⟨_,rfl⟩
 rw [hr]
 rw [zM,if_neg (by simp [hk]),if_neg (by simp [hk]),if_pos (by simp [hk])] at hr
 clear O h hN hk
 obtain ⟨E,hE⟩:∃ E,zF false false false false false false N=E:=⟨_,rfl⟩
 rw [hE] at SE hr
 clear hE
 cases e0:(E) with
 | false =>
  obtain rfl:r=false:=by rw [<- hr,e0];simp
  rw [e0] at SE
  clear hr
  go_enter Tryz.func76,Tryz.ntmps76
  go_wp2_with (first |(go_at_call 100;((with_reducible refine SE.mono ?_);rintro e w3 ⟨rfl,b3⟩;(obtain ⟨s0,s1,s2,s3,s4,s5,s6,s7,s8,s9,s10,s11,s12,s13,s14⟩:=(hP.below b3).fip))) | fail)
  go_ret
  exact ⟨rfl,Below.then BN b3⟩
 | true =>
  rw [e0] at SE
  cases e1:(N.c==1) with
  | false =>
   obtain rfl:r=false:=by rw [<- hr,e0,e1];simp
   clear hr
   go_enter Tryz.func76,Tryz.ntmps76
   go_wp2_with (first |(go_at_call 100;((with_reducible refine SE.mono ?_);rintro e w3 ⟨rfl,b3⟩;(obtain ⟨s0,s1,s2,s3,s4,s5,s6,s7,s8,s9,s10,s11,s12,s13,s14⟩:=(hP.below b3).fip))) | fail)
   go_ret
   exact ⟨rfl,Below.then BN b3⟩
  | true =>
   obtain rfl:r=true:=by rw [<- hr,e0,e1];simp
   clear hr
   go_enter Tryz.func76,Tryz.ntmps76
   go_wp2_with (first |(go_at_call 100;((with_reducible refine SE.mono ?_);rintro e w3 ⟨rfl,b3⟩;(obtain ⟨s0,s1,s2,s3,s4,s5,s6,s7,s8,s9,s10,s11,s12,s13,s14⟩:=(hP.below b3).fip))) | fail)
   go_ret
   exact ⟨rfl,Below.then BN b3⟩
theorem leafK8 (cs:List Value) (N:Nd) (w:World) (h:NdV w cs N) (hk:N.k=8):Calls Tryz.prog 76 #[.agg cs.toArray] w fun e w'=>e=.returned (.bool (zM N))/\Below w.heap.size w w':=by
 have hN:=h
 obtain ⟨v0,v1,v2,v3,ka,kc,ba,bc,kb,ko,bb,bo,O⟩:=h.open
 have he:=O.eq
 subst he
 have hP:=NPar.new w [.int .i64 N.k,.int .i64 N.a,.int .i64 N.c,.string N.t,.int .i64 N.p,.int .i64 N.o,v0,v1,v2,v3,.slice ka N.ks.length kc,.slice ba N.bd.length bc,.int .i64 N.d,.int .i64 N.s,.int .i64 N.z] 40
 have BN:=below_new w (.cells [.int .i64 N.k,.int .i64 N.a,.int .i64 N.c,.string N.t,.int .i64 N.p,.int .i64 N.o,v0,v1,v2,v3,.slice ka N.ks.length kc,.slice ba N.bd.length bc,.int .i64 N.d,.int .i64 N.s,.int .i64 N.z].toArray 40)
 obtain ⟨p0,p1,p2,p3,p4,p5,p6,p7,p8,p9,p10,p11,p12,p13,p14⟩:=hP.fip
 have hk1:N.ks.length<=9223372036854775807:=by have:=O.kl;omega
 have hk2:N.bd.length<=9223372036854775807:=by have:=O.bl;omega
 have k1:(N.k==1)=false:=by rw [hk];rfl
 have k2:(N.k==2)=false:=by rw [hk];rfl
 have k6:(N.k==6)=false:=by rw [hk];rfl
 have k7:(N.k==7)=false:=by rw [hk];rfl
 have k8:(N.k==8)=true:=by rw [hk];rfl
 have k9:(N.k==9)=false:=by rw [hk];rfl
 have k11:(N.k==11)=false:=by rw [hk];rfl
 have k12:(N.k==12)=false:=by rw [hk];rfl
 have k13:(N.k==13)=false:=by rw [hk];rfl
 have k17:(N.k==17)=false:=by rw [hk];rfl
 have SE:=vQ [.int .i64 N.k,.int .i64 N.a,.int .i64 N.c,.string N.t,.int .i64 N.p,.int .i64 N.o,v0,v1,v2,v3,.slice ka N.ks.length kc,.slice ba N.bd.length bc,.int .i64 N.d,.int .i64 N.s,.int .i64 N.z] N _ (hN.below BN)
 obtain ⟨r,hr⟩:∃ r,zM N=r:=⟨_,rfl⟩
 rw [hr]
 rw [zM,if_neg (by simp [hk]),if_neg (by simp [hk]),if_pos (by simp [hk])] at hr
 clear O h hN hk
 obtain ⟨E,hE⟩:∃ E,zF false false false false false false N=E:=⟨_,rfl⟩
 rw [hE] at SE hr
 clear hE
 cases e0:(E) with
 | false =>
  obtain rfl:r=false:=by rw [<- hr,e0];simp
  rw [e0] at SE
  clear hr
  go_enter Tryz.func76,Tryz.ntmps76
  go_wp2_with (first |(go_at_call 100;((with_reducible refine SE.mono ?_);rintro e w3 ⟨rfl,b3⟩;(obtain ⟨s0,s1,s2,s3,s4,s5,s6,s7,s8,s9,s10,s11,s12,s13,s14⟩:=(hP.below b3).fip))) | fail)
  go_ret
  exact ⟨rfl,Below.then BN b3⟩
 | true =>
  rw [e0] at SE
  cases e1:(N.c==1) with
  | false =>
   obtain rfl:r=false:=by rw [<- hr,e0,e1];simp
   clear hr
   go_enter Tryz.func76,Tryz.ntmps76
   go_wp2_with (first |(go_at_call 100;((with_reducible refine SE.mono ?_);rintro e w3 ⟨rfl,b3⟩;(obtain ⟨s0,s1,s2,s3,s4,s5,s6,s7,s8,s9,s10,s11,s12,s13,s14⟩:=(hP.below b3).fip))) | fail)
   go_ret
   exact ⟨rfl,Below.then BN b3⟩
  | true =>
   obtain rfl:r=true:=by rw [<- hr,e0,e1];simp
   clear hr
   go_enter Tryz.func76,Tryz.ntmps76
   go_wp2_with (first |(go_at_call 100;((with_reducible refine SE.mono ?_);rintro e w3 ⟨rfl,b3⟩;(obtain ⟨s0,s1,s2,s3,s4,s5,s6,s7,s8,s9,s10,s11,s12,s13,s14⟩:=(hP.below b3).fip))) | fail)
   go_ret
   exact ⟨rfl,Below.then BN b3⟩
theorem leafK9 (cs:List Value) (N:Nd) (w:World) (h:NdV w cs N) (hk:N.k=9):Calls Tryz.prog 76 #[.agg cs.toArray] w fun e w'=>e=.returned (.bool (zM N))/\Below w.heap.size w w':=by
 have hN:=h
 obtain ⟨v0,v1,v2,v3,ka,kc,ba,bc,kb,ko,bb,bo,O⟩:=h.open
 have he:=O.eq
 subst he
 have hP:=NPar.new w [.int .i64 N.k,.int .i64 N.a,.int .i64 N.c,.string N.t,.int .i64 N.p,.int .i64 N.o,v0,v1,v2,v3,.slice ka N.ks.length kc,.slice ba N.bd.length bc,.int .i64 N.d,.int .i64 N.s,.int .i64 N.z] 40
 have BN:=below_new w (.cells [.int .i64 N.k,.int .i64 N.a,.int .i64 N.c,.string N.t,.int .i64 N.p,.int .i64 N.o,v0,v1,v2,v3,.slice ka N.ks.length kc,.slice ba N.bd.length bc,.int .i64 N.d,.int .i64 N.s,.int .i64 N.z].toArray 40)
 obtain ⟨p0,p1,p2,p3,p4,p5,p6,p7,p8,p9,p10,p11,p12,p13,p14⟩:=hP.fip
 have hk1:N.ks.length<=9223372036854775807:=by have:=O.kl;omega
 have hk2:N.bd.length<=9223372036854775807:=by have:=O.bl;omega
 have k1:(N.k==1)=false:=by rw [hk];rfl
 have k2:(N.k==2)=false:=by rw [hk];rfl
 have k6:(N.k==6)=false:=by rw [hk];rfl
 have k7:(N.k==7)=false:=by rw [hk];rfl
 have k8:(N.k==8)=false:=by rw [hk];rfl
 have k9:(N.k==9)=true:=by rw [hk];rfl
 have k11:(N.k==11)=false:=by rw [hk];rfl
 have k12:(N.k==12)=false:=by rw [hk];rfl
 have k13:(N.k==13)=false:=by rw [hk];rfl
 have k17:(N.k==17)=false:=by rw [hk];rfl
 have SE:=emptyEp [.int .i64 N.k,.int .i64 N.a,.int .i64 N.c,.string N.t,.int .i64 N.p,.int .i64 N.o,v0,v1,v2,v3,.slice ka N.ks.length kc,.slice ba N.bd.length bc,.int .i64 N.d,.int .i64 N.s,.int .i64 N.z] N _ (hN.below BN)
 obtain ⟨r,hr⟩:∃ r,zM N=r:=⟨_,rfl⟩
 rw [hr]
 rw [zM,if_neg (by simp [hk]),if_neg (by simp [hk]),if_neg (by simp [hk]),if_pos (by simp [hk])] at hr
 clear O h hN hk
 obtain ⟨E,hE⟩:∃ E,zF false true false false false false N=E:=⟨_,rfl⟩
 rw [hE] at SE hr
 clear hE
 cases e0:(E) with
 | false =>
  obtain rfl:r=false:=by rw [<- hr,e0];simp
  rw [e0] at SE
  clear hr
  go_enter Tryz.func76,Tryz.ntmps76
  go_wp2_with (first |(go_at_call 100;((with_reducible refine SE.mono ?_);rintro e w3 ⟨rfl,b3⟩;(obtain ⟨s0,s1,s2,s3,s4,s5,s6,s7,s8,s9,s10,s11,s12,s13,s14⟩:=(hP.below b3).fip))) | fail)
  go_ret
  exact ⟨rfl,Below.then BN b3⟩
 | true =>
  rw [e0] at SE
  cases e1:(N.c==2) with
  | false =>
   obtain rfl:r=false:=by rw [<- hr,e0,e1];simp
   clear hr
   go_enter Tryz.func76,Tryz.ntmps76
   go_wp2_with (first |(go_at_call 100;((with_reducible refine SE.mono ?_);rintro e w3 ⟨rfl,b3⟩;(obtain ⟨s0,s1,s2,s3,s4,s5,s6,s7,s8,s9,s10,s11,s12,s13,s14⟩:=(hP.below b3).fip))) | fail)
   go_ret
   exact ⟨rfl,Below.then BN b3⟩
  | true =>
   cases e2:(decide (1<=N.p)) with
   | false =>
    obtain rfl:r=false:=by rw [<- hr,e0,e1,e2];simp
    clear hr
    go_enter Tryz.func76,Tryz.ntmps76
    go_wp2_with (first |(go_at_call 100;((with_reducible refine SE.mono ?_);rintro e w3 ⟨rfl,b3⟩;(obtain ⟨s0,s1,s2,s3,s4,s5,s6,s7,s8,s9,s10,s11,s12,s13,s14⟩:=(hP.below b3).fip))) | fail)
    go_ret
    exact ⟨rfl,Below.then BN b3⟩
   | true =>
    cases e3:(decide (N.p<=55)) with
    | false =>
     obtain rfl:r=false:=by rw [<- hr,e0,e1,e2,e3];simp
     clear hr
     go_enter Tryz.func76,Tryz.ntmps76
     go_wp2_with (first |(go_at_call 100;((with_reducible refine SE.mono ?_);rintro e w3 ⟨rfl,b3⟩;(obtain ⟨s0,s1,s2,s3,s4,s5,s6,s7,s8,s9,s10,s11,s12,s13,s14⟩:=(hP.below b3).fip))) | fail)
     go_ret
     exact ⟨rfl,Below.then BN b3⟩
    | true =>
     obtain rfl:r=true:=by rw [<- hr,e0,e1,e2,e3];simp
     clear hr
     go_enter Tryz.func76,Tryz.ntmps76
     go_wp2_with (first |(go_at_call 100;((with_reducible refine SE.mono ?_);rintro e w3 ⟨rfl,b3⟩;(obtain ⟨s0,s1,s2,s3,s4,s5,s6,s7,s8,s9,s10,s11,s12,s13,s14⟩:=(hP.below b3).fip))) | fail)
     go_ret
     exact ⟨rfl,Below.then BN b3⟩
theorem leafK17 (cs:List Value) (N:Nd) (w:World) (h:NdV w cs N) (hk:N.k=17):Calls Tryz.prog 76 #[.agg cs.toArray] w fun e w'=>e=.returned (.bool (zM N))/\Below w.heap.size w w':=by
 have hN:=h
 obtain ⟨v0,v1,v2,v3,ka,kc,ba,bc,kb,ko,bb,bo,O⟩:=h.open
 have he:=O.eq
 subst he
 have hP:=NPar.new w [.int .i64 N.k,.int .i64 N.a,.int .i64 N.c,.string N.t,.int .i64 N.p,.int .i64 N.o,v0,v1,v2,v3,.slice ka N.ks.length kc,.slice ba N.bd.length bc,.int .i64 N.d,.int .i64 N.s,.int .i64 N.z] 40
 have BN:=below_new w (.cells [.int .i64 N.k,.int .i64 N.a,.int .i64 N.c,.string N.t,.int .i64 N.p,.int .i64 N.o,v0,v1,v2,v3,.slice ka N.ks.length kc,.slice ba N.bd.length bc,.int .i64 N.d,.int .i64 N.s,.int .i64 N.z].toArray 40)
 obtain ⟨p0,p1,p2,p3,p4,p5,p6,p7,p8,p9,p10,p11,p12,p13,p14⟩:=hP.fip
 have hk1:N.ks.length<=9223372036854775807:=by have:=O.kl;omega
 have hk2:N.bd.length<=9223372036854775807:=by have:=O.bl;omega
 have k1:(N.k==1)=false:=by rw [hk];rfl
 have k2:(N.k==2)=false:=by rw [hk];rfl
 have k6:(N.k==6)=false:=by rw [hk];rfl
 have k7:(N.k==7)=false:=by rw [hk];rfl
 have k8:(N.k==8)=false:=by rw [hk];rfl
 have k9:(N.k==9)=false:=by rw [hk];rfl
 have k11:(N.k==11)=false:=by rw [hk];rfl
 have k12:(N.k==12)=false:=by rw [hk];rfl
 have k13:(N.k==13)=false:=by rw [hk];rfl
 have k17:(N.k==17)=true:=by rw [hk];rfl
 have SE:=emptyEo [.int .i64 N.k,.int .i64 N.a,.int .i64 N.c,.string N.t,.int .i64 N.p,.int .i64 N.o,v0,v1,v2,v3,.slice ka N.ks.length kc,.slice ba N.bd.length bc,.int .i64 N.d,.int .i64 N.s,.int .i64 N.z] N _ (hN.below BN)
 have SEx:=fun x:Sub (w.alloc (.cells #[.int .i64 N.k,.int .i64 N.a,.int .i64 N.c,.string N.t,.int .i64 N.p,.int .i64 N.o,v0,v1,v2,v3,.slice ka N.ks.length kc,.slice ba N.bd.length bc,.int .i64 N.d,.int .i64 N.s,.int .i64 N.z] 40))=>emptyEo [.int .i64 N.k,.int .i64 N.a,.int .i64 N.c,.string N.t,.int .i64 N.p,.int .i64 N.o,v0,v1,v2,v3,.slice ka N.ks.length kc,.slice ba N.bd.length bc,.int .i64 N.d,.int .i64 N.s,.int .i64 N.z] N x.w (hN.below (Below.then BN x.below))
 have OCx:=fun x:Sub (w.alloc (.cells #[.int .i64 N.k,.int .i64 N.a,.int .i64 N.c,.string N.t,.int .i64 N.p,.int .i64 N.o,v0,v1,v2,v3,.slice ka N.ks.length kc,.slice ba N.bd.length bc,.int .i64 N.d,.int .i64 N.s,.int .i64 N.z] 40))=>(opClassR N.o x.w).mono (fun e w' (h:e=.returned (.int .i64 (kD N.o))/\x.w=w')=>(⟨h.1,h.2 ▸ Below.refl _ _⟩:e=.returned (.int .i64 (kD N.o))/\Below x.w.heap.size x.w w'))
 have y5:=fun x:Sub (w.alloc (.cells #[.int .i64 N.k,.int .i64 N.a,.int .i64 N.c,.string N.t,.int .i64 N.p,.int .i64 N.o,v0,v1,v2,v3,.slice ka N.ks.length kc,.slice ba N.bd.length bc,.int .i64 N.d,.int .i64 N.s,.int .i64 N.z] 40))=>x.cell p5
 have y2:=fun x:Sub (w.alloc (.cells #[.int .i64 N.k,.int .i64 N.a,.int .i64 N.c,.string N.t,.int .i64 N.p,.int .i64 N.o,v0,v1,v2,v3,.slice ka N.ks.length kc,.slice ba N.bd.length bc,.int .i64 N.d,.int .i64 N.s,.int .i64 N.z] 40))=>x.cell p2
 obtain ⟨r,hr⟩:∃ r,zM N=r:=⟨_,rfl⟩
 rw [hr]
 rw [zM,if_neg (by simp [hk]),if_neg (by simp [hk]),if_neg (by simp [hk]),if_neg (by simp [hk]),if_neg (by simp [hk]),if_pos (by simp [hk])] at hr
 clear O h hN hk
 obtain ⟨E,hE⟩:∃ E,zF false false true false false false N=E:=⟨_,rfl⟩
 rw [hE] at SE hr
 simp only [hE] at SEx
 clear hE
 obtain ⟨C,hC⟩:∃ C,kD N.o=C:=⟨_,rfl⟩
 rw [hC] at hr
 simp only [hC] at OCx
 clear hC
 cases e0:(E) with
 | false =>
  obtain rfl:r=false:=by rw [<- hr,e0];simp
  simp only [e0] at SEx
  clear hr
  go_enter Tryz.func76,Tryz.ntmps76
  go_wp2_with fail
  refine zE (W:=w.alloc (.cells [.int .i64 N.k,.int .i64 N.a,.int .i64 N.c,.string N.t,.int .i64 N.p,.int .i64 N.o,v0,v1,v2,v3,.slice ka N.ks.length kc,.slice ba N.bd.length bc,.int .i64 N.d,.int .i64 N.s,.int .i64 N.z].toArray 40)) (by kernel_rfl) (by kernel_rfl) (Below.refl _ _) ?_
  repeat (first |(go_big_quiet_want;refine zJ hP.2 rfl rfl rfl ?_;simp only [Act.put,List.setIfInBounds_toArray,List.set_cons_succ,List.set_cons_zero];go_big_quiet_on) | go_big_quiet_step ((first |(go_at_call 100;with_reducible exact zI (SEx _)) |(go_at_call 102;with_reducible exact zI (OCx _)))))
  refine wpQuiet_nil ?_
  intro x
  have bx:=x.below
  generalize x.w=w2 at *
  go_wp2_with fail
  go_ret
  exact ⟨rfl,Below.then BN bx⟩
 | true =>
  simp only [e0] at SEx
  cases e1:(C != 0) with
  | false =>
   obtain rfl:r=false:=by rw [<- hr,e0,e1];simp
   clear hr
   go_enter Tryz.func76,Tryz.ntmps76
   go_wp2_with fail
   refine zE (W:=w.alloc (.cells [.int .i64 N.k,.int .i64 N.a,.int .i64 N.c,.string N.t,.int .i64 N.p,.int .i64 N.o,v0,v1,v2,v3,.slice ka N.ks.length kc,.slice ba N.bd.length bc,.int .i64 N.d,.int .i64 N.s,.int .i64 N.z].toArray 40)) (by kernel_rfl) (by kernel_rfl) (Below.refl _ _) ?_
   repeat (first |(go_big_quiet_want;refine zJ hP.2 rfl rfl rfl ?_;simp only [Act.put,List.setIfInBounds_toArray,List.set_cons_succ,List.set_cons_zero];go_big_quiet_on) | go_big_quiet_step ((first |(go_at_call 100;with_reducible exact zI (SEx _)) |(go_at_call 102;with_reducible exact zI (OCx _)))))
   refine wpQuiet_nil ?_
   intro x
   have bx:=x.below
   generalize x.w=w2 at *
   go_wp2_with fail
   go_ret
   exact ⟨rfl,Below.then BN bx⟩
  | true =>
   cases e2:(N.c==C) with
   | false =>
    obtain rfl:r=false:=by rw [<- hr,e0,e1,e2];simp
    clear hr
    go_enter Tryz.func76,Tryz.ntmps76
    go_wp2_with fail
    refine zE (W:=w.alloc (.cells [.int .i64 N.k,.int .i64 N.a,.int .i64 N.c,.string N.t,.int .i64 N.p,.int .i64 N.o,v0,v1,v2,v3,.slice ka N.ks.length kc,.slice ba N.bd.length bc,.int .i64 N.d,.int .i64 N.s,.int .i64 N.z].toArray 40)) (by kernel_rfl) (by kernel_rfl) (Below.refl _ _) ?_
    repeat (first |(go_big_quiet_want;refine zJ hP.2 rfl rfl rfl ?_;simp only [Act.put,List.setIfInBounds_toArray,List.set_cons_succ,List.set_cons_zero];go_big_quiet_on) | go_big_quiet_step ((first |(go_at_call 100;with_reducible exact zI (SEx _)) |(go_at_call 102;with_reducible exact zI (OCx _)))))
    refine wpQuiet_nil ?_
    intro x
    have bx:=x.below
    generalize x.w=w2 at *
    go_wp2_with fail
    go_ret
    exact ⟨rfl,Below.then BN bx⟩
   | true =>
    obtain rfl:r=true:=by rw [<- hr,e0,e1,e2];simp
    clear hr
    go_enter Tryz.func76,Tryz.ntmps76
    go_wp2_with fail
    refine zE (W:=w.alloc (.cells [.int .i64 N.k,.int .i64 N.a,.int .i64 N.c,.string N.t,.int .i64 N.p,.int .i64 N.o,v0,v1,v2,v3,.slice ka N.ks.length kc,.slice ba N.bd.length bc,.int .i64 N.d,.int .i64 N.s,.int .i64 N.z].toArray 40)) (by kernel_rfl) (by kernel_rfl) (Below.refl _ _) ?_
    repeat (first |(go_big_quiet_want;refine zJ hP.2 rfl rfl rfl ?_;simp only [Act.put,List.setIfInBounds_toArray,List.set_cons_succ,List.set_cons_zero];go_big_quiet_on) | go_big_quiet_step ((first |(go_at_call 100;with_reducible exact zI (SEx _)) |(go_at_call 102;with_reducible exact zI (OCx _)))))
    refine wpQuiet_nil ?_
    intro x
    have bx:=x.below
    generalize x.w=w2 at *
    go_wp2_with fail
    go_ret
    exact ⟨rfl,Below.then BN bx⟩
theorem leafK11 (cs:List Value) (N:Nd) (w:World) (h:NdV w cs N) (hk:N.k=11):Calls Tryz.prog 76 #[.agg cs.toArray] w fun e w'=>e=.returned (.bool (zM N))/\Below w.heap.size w w':=by
 have hN:=h
 obtain ⟨v0,v1,v2,v3,ka,kc,ba,bc,kb,ko,bb,bo,O⟩:=h.open
 have he:=O.eq
 subst he
 have hP:=NPar.new w [.int .i64 N.k,.int .i64 N.a,.int .i64 N.c,.string N.t,.int .i64 N.p,.int .i64 N.o,v0,v1,v2,v3,.slice ka N.ks.length kc,.slice ba N.bd.length bc,.int .i64 N.d,.int .i64 N.s,.int .i64 N.z] 40
 have BN:=below_new w (.cells [.int .i64 N.k,.int .i64 N.a,.int .i64 N.c,.string N.t,.int .i64 N.p,.int .i64 N.o,v0,v1,v2,v3,.slice ka N.ks.length kc,.slice ba N.bd.length bc,.int .i64 N.d,.int .i64 N.s,.int .i64 N.z].toArray 40)
 obtain ⟨p0,p1,p2,p3,p4,p5,p6,p7,p8,p9,p10,p11,p12,p13,p14⟩:=hP.fip
 have hk1:N.ks.length<=9223372036854775807:=by have:=O.kl;omega
 have hk2:N.bd.length<=9223372036854775807:=by have:=O.bl;omega
 have k1:(N.k==1)=false:=by rw [hk];rfl
 have k2:(N.k==2)=false:=by rw [hk];rfl
 have k6:(N.k==6)=false:=by rw [hk];rfl
 have k7:(N.k==7)=false:=by rw [hk];rfl
 have k8:(N.k==8)=false:=by rw [hk];rfl
 have k9:(N.k==9)=false:=by rw [hk];rfl
 have k11:(N.k==11)=true:=by rw [hk];rfl
 have k12:(N.k==12)=false:=by rw [hk];rfl
 have k13:(N.k==13)=false:=by rw [hk];rfl
 have k17:(N.k==17)=false:=by rw [hk];rfl
 have SE:=vQ [.int .i64 N.k,.int .i64 N.a,.int .i64 N.c,.string N.t,.int .i64 N.p,.int .i64 N.o,v0,v1,v2,v3,.slice ka N.ks.length kc,.slice ba N.bd.length bc,.int .i64 N.d,.int .i64 N.s,.int .i64 N.z] N _ (hN.below BN)
 obtain ⟨r,hr⟩:∃ r,zM N=r:=⟨_,rfl⟩
 rw [hr]
 rw [zM,if_neg (by simp [hk]),if_neg (by simp [hk]),if_neg (by simp [hk]),if_neg (by simp [hk]),if_pos (by simp [hk])] at hr
 clear O h hN hk
 obtain ⟨E,hE⟩:∃ E,zF false false false false false false N=E:=⟨_,rfl⟩
 rw [hE] at SE hr
 clear hE
 cases e0:(E) with
 | false =>
  obtain rfl:r=false:=by rw [<- hr,e0];simp
  rw [e0] at SE
  clear hr
  go_enter Tryz.func76,Tryz.ntmps76
  go_wp2_with (first |(go_at_call 100;((with_reducible refine SE.mono ?_);rintro e w3 ⟨rfl,b3⟩;(obtain ⟨s0,s1,s2,s3,s4,s5,s6,s7,s8,s9,s10,s11,s12,s13,s14⟩:=(hP.below b3).fip))) | fail)
  go_ret
  exact ⟨rfl,Below.then BN b3⟩
 | true =>
  rw [e0] at SE
  cases e1:(N.c==2) with
  | false =>
   obtain rfl:r=false:=by rw [<- hr,e0,e1];simp
   clear hr
   go_enter Tryz.func76,Tryz.ntmps76
   go_wp2_with (first |(go_at_call 100;((with_reducible refine SE.mono ?_);rintro e w3 ⟨rfl,b3⟩;(obtain ⟨s0,s1,s2,s3,s4,s5,s6,s7,s8,s9,s10,s11,s12,s13,s14⟩:=(hP.below b3).fip))) | fail)
   go_ret
   exact ⟨rfl,Below.then BN b3⟩
  | true =>
   obtain rfl:r=true:=by rw [<- hr,e0,e1];simp
   clear hr
   go_enter Tryz.func76,Tryz.ntmps76
   go_wp2_with (first |(go_at_call 100;((with_reducible refine SE.mono ?_);rintro e w3 ⟨rfl,b3⟩;(obtain ⟨s0,s1,s2,s3,s4,s5,s6,s7,s8,s9,s10,s11,s12,s13,s14⟩:=(hP.below b3).fip))) | fail)
   go_ret
   exact ⟨rfl,Below.then BN b3⟩
theorem leafK12 (cs:List Value) (N:Nd) (w:World) (h:NdV w cs N) (hk:N.k=12):Calls Tryz.prog 76 #[.agg cs.toArray] w fun e w'=>e=.returned (.bool (zM N))/\Below w.heap.size w w':=by
 have hN:=h
 obtain ⟨v0,v1,v2,v3,ka,kc,ba,bc,kb,ko,bb,bo,O⟩:=h.open
 have he:=O.eq
 subst he
 have hP:=NPar.new w [.int .i64 N.k,.int .i64 N.a,.int .i64 N.c,.string N.t,.int .i64 N.p,.int .i64 N.o,v0,v1,v2,v3,.slice ka N.ks.length kc,.slice ba N.bd.length bc,.int .i64 N.d,.int .i64 N.s,.int .i64 N.z] 40
 have BN:=below_new w (.cells [.int .i64 N.k,.int .i64 N.a,.int .i64 N.c,.string N.t,.int .i64 N.p,.int .i64 N.o,v0,v1,v2,v3,.slice ka N.ks.length kc,.slice ba N.bd.length bc,.int .i64 N.d,.int .i64 N.s,.int .i64 N.z].toArray 40)
 obtain ⟨p0,p1,p2,p3,p4,p5,p6,p7,p8,p9,p10,p11,p12,p13,p14⟩:=hP.fip
 have hk1:N.ks.length<=9223372036854775807:=by have:=O.kl;omega
 have hk2:N.bd.length<=9223372036854775807:=by have:=O.bl;omega
 have k1:(N.k==1)=false:=by rw [hk];rfl
 have k2:(N.k==2)=false:=by rw [hk];rfl
 have k6:(N.k==6)=false:=by rw [hk];rfl
 have k7:(N.k==7)=false:=by rw [hk];rfl
 have k8:(N.k==8)=false:=by rw [hk];rfl
 have k9:(N.k==9)=false:=by rw [hk];rfl
 have k11:(N.k==11)=false:=by rw [hk];rfl
 have k12:(N.k==12)=true:=by rw [hk];rfl
 have k13:(N.k==13)=false:=by rw [hk];rfl
 have k17:(N.k==17)=false:=by rw [hk];rfl
 have SE:=vQ [.int .i64 N.k,.int .i64 N.a,.int .i64 N.c,.string N.t,.int .i64 N.p,.int .i64 N.o,v0,v1,v2,v3,.slice ka N.ks.length kc,.slice ba N.bd.length bc,.int .i64 N.d,.int .i64 N.s,.int .i64 N.z] N _ (hN.below BN)
 obtain ⟨r,hr⟩:∃ r,zM N=r:=⟨_,rfl⟩
 rw [hr]
 rw [zM,if_neg (by simp [hk]),if_neg (by simp [hk]),if_neg (by simp [hk]),if_neg (by simp [hk]),if_pos (by simp [hk])] at hr
 clear O h hN hk
 obtain ⟨E,hE⟩:∃ E,zF false false false false false false N=E:=⟨_,rfl⟩
 rw [hE] at SE hr
 clear hE
 cases e0:(E) with
 | false =>
  obtain rfl:r=false:=by rw [<- hr,e0];simp
  rw [e0] at SE
  clear hr
  go_enter Tryz.func76,Tryz.ntmps76
  go_wp2_with (first |(go_at_call 100;((with_reducible refine SE.mono ?_);rintro e w3 ⟨rfl,b3⟩;(obtain ⟨s0,s1,s2,s3,s4,s5,s6,s7,s8,s9,s10,s11,s12,s13,s14⟩:=(hP.below b3).fip))) | fail)
  go_ret
  exact ⟨rfl,Below.then BN b3⟩
 | true =>
  rw [e0] at SE
  cases e1:(N.c==2) with
  | false =>
   obtain rfl:r=false:=by rw [<- hr,e0,e1];simp
   clear hr
   go_enter Tryz.func76,Tryz.ntmps76
   go_wp2_with (first |(go_at_call 100;((with_reducible refine SE.mono ?_);rintro e w3 ⟨rfl,b3⟩;(obtain ⟨s0,s1,s2,s3,s4,s5,s6,s7,s8,s9,s10,s11,s12,s13,s14⟩:=(hP.below b3).fip))) | fail)
   go_ret
   exact ⟨rfl,Below.then BN b3⟩
  | true =>
   obtain rfl:r=true:=by rw [<- hr,e0,e1];simp
   clear hr
   go_enter Tryz.func76,Tryz.ntmps76
   go_wp2_with (first |(go_at_call 100;((with_reducible refine SE.mono ?_);rintro e w3 ⟨rfl,b3⟩;(obtain ⟨s0,s1,s2,s3,s4,s5,s6,s7,s8,s9,s10,s11,s12,s13,s14⟩:=(hP.below b3).fip))) | fail)
   go_ret
   exact ⟨rfl,Below.then BN b3⟩
theorem leafK13 (cs:List Value) (N:Nd) (w:World) (h:NdV w cs N) (hk:N.k=13):Calls Tryz.prog 76 #[.agg cs.toArray] w fun e w'=>e=.returned (.bool (zM N))/\Below w.heap.size w w':=by
 have hN:=h
 obtain ⟨v0,v1,v2,v3,ka,kc,ba,bc,kb,ko,bb,bo,O⟩:=h.open
 have he:=O.eq
 subst he
 have hP:=NPar.new w [.int .i64 N.k,.int .i64 N.a,.int .i64 N.c,.string N.t,.int .i64 N.p,.int .i64 N.o,v0,v1,v2,v3,.slice ka N.ks.length kc,.slice ba N.bd.length bc,.int .i64 N.d,.int .i64 N.s,.int .i64 N.z] 40
 have BN:=below_new w (.cells [.int .i64 N.k,.int .i64 N.a,.int .i64 N.c,.string N.t,.int .i64 N.p,.int .i64 N.o,v0,v1,v2,v3,.slice ka N.ks.length kc,.slice ba N.bd.length bc,.int .i64 N.d,.int .i64 N.s,.int .i64 N.z].toArray 40)
 obtain ⟨p0,p1,p2,p3,p4,p5,p6,p7,p8,p9,p10,p11,p12,p13,p14⟩:=hP.fip
 have hk1:N.ks.length<=9223372036854775807:=by have:=O.kl;omega
 have hk2:N.bd.length<=9223372036854775807:=by have:=O.bl;omega
 have k1:(N.k==1)=false:=by rw [hk];rfl
 have k2:(N.k==2)=false:=by rw [hk];rfl
 have k6:(N.k==6)=false:=by rw [hk];rfl
 have k7:(N.k==7)=false:=by rw [hk];rfl
 have k8:(N.k==8)=false:=by rw [hk];rfl
 have k9:(N.k==9)=false:=by rw [hk];rfl
 have k11:(N.k==11)=false:=by rw [hk];rfl
 have k12:(N.k==12)=false:=by rw [hk];rfl
 have k13:(N.k==13)=true:=by rw [hk];rfl
 have k17:(N.k==17)=false:=by rw [hk];rfl
 have SE:=vQ [.int .i64 N.k,.int .i64 N.a,.int .i64 N.c,.string N.t,.int .i64 N.p,.int .i64 N.o,v0,v1,v2,v3,.slice ka N.ks.length kc,.slice ba N.bd.length bc,.int .i64 N.d,.int .i64 N.s,.int .i64 N.z] N _ (hN.below BN)
 obtain ⟨r,hr⟩:∃ r,zM N=r:=⟨_,rfl⟩
 rw [hr]
 rw [zM,if_neg (by simp [hk]),if_neg (by simp [hk]),if_neg (by simp [hk]),if_neg (by simp [hk]),if_pos (by simp [hk])] at hr
 clear O h hN hk
 obtain ⟨E,hE⟩:∃ E,zF false false false false false false N=E:=⟨_,rfl⟩
 rw [hE] at SE hr
 clear hE
 cases e0:(E) with
 | false =>
  obtain rfl:r=false:=by rw [<- hr,e0];simp
  rw [e0] at SE
  clear hr
  go_enter Tryz.func76,Tryz.ntmps76
  go_wp2_with (first |(go_at_call 100;((with_reducible refine SE.mono ?_);rintro e w3 ⟨rfl,b3⟩;(obtain ⟨s0,s1,s2,s3,s4,s5,s6,s7,s8,s9,s10,s11,s12,s13,s14⟩:=(hP.below b3).fip))) | fail)
  go_ret
  exact ⟨rfl,Below.then BN b3⟩
 | true =>
  rw [e0] at SE
  cases e1:(N.c==2) with
  | false =>
   obtain rfl:r=false:=by rw [<- hr,e0,e1];simp
   clear hr
   go_enter Tryz.func76,Tryz.ntmps76
   go_wp2_with (first |(go_at_call 100;((with_reducible refine SE.mono ?_);rintro e w3 ⟨rfl,b3⟩;(obtain ⟨s0,s1,s2,s3,s4,s5,s6,s7,s8,s9,s10,s11,s12,s13,s14⟩:=(hP.below b3).fip))) | fail)
   go_ret
   exact ⟨rfl,Below.then BN b3⟩
  | true =>
   obtain rfl:r=true:=by rw [<- hr,e0,e1];simp
   clear hr
   go_enter Tryz.func76,Tryz.ntmps76
   go_wp2_with (first |(go_at_call 100;((with_reducible refine SE.mono ?_);rintro e w3 ⟨rfl,b3⟩;(obtain ⟨s0,s1,s2,s3,s4,s5,s6,s7,s8,s9,s10,s11,s12,s13,s14⟩:=(hP.below b3).fip))) | fail)
   go_ret
   exact ⟨rfl,Below.then BN b3⟩
theorem leafNo (cs:List Value) (N:Nd) (w:World) (h:NdV w cs N) (hk:N.k≠1/\N.k≠2/\N.k≠6/\N.k≠7/\N.k≠8/\N.k≠9/\N.k≠11/\N.k≠12/\N.k≠13/\N.k≠17):Calls Tryz.prog 76 #[.agg cs.toArray] w fun e w'=>e=.returned (.bool (zM N))/\Below w.heap.size w w':=by
 have hN:=h
 obtain ⟨v0,v1,v2,v3,ka,kc,ba,bc,kb,ko,bb,bo,O⟩:=h.open
 have he:=O.eq
 subst he
 have hP:=NPar.new w [.int .i64 N.k,.int .i64 N.a,.int .i64 N.c,.string N.t,.int .i64 N.p,.int .i64 N.o,v0,v1,v2,v3,.slice ka N.ks.length kc,.slice ba N.bd.length bc,.int .i64 N.d,.int .i64 N.s,.int .i64 N.z] 40
 have BN:=below_new w (.cells [.int .i64 N.k,.int .i64 N.a,.int .i64 N.c,.string N.t,.int .i64 N.p,.int .i64 N.o,v0,v1,v2,v3,.slice ka N.ks.length kc,.slice ba N.bd.length bc,.int .i64 N.d,.int .i64 N.s,.int .i64 N.z].toArray 40)
 obtain ⟨p0,p1,p2,p3,p4,p5,p6,p7,p8,p9,p10,p11,p12,p13,p14⟩:=hP.fip
 have hk1:N.ks.length<=9223372036854775807:=by have:=O.kl;omega
 have hk2:N.bd.length<=9223372036854775807:=by have:=O.bl;omega
 obtain ⟨n1,n2,n6,n7,n8,n9,n11,n12,n13,n17⟩:=hk
 have k1:(N.k==1)=false:=by simpa using n1
 have k2:(N.k==2)=false:=by simpa using n2
 have k6:(N.k==6)=false:=by simpa using n6
 have k7:(N.k==7)=false:=by simpa using n7
 have k8:(N.k==8)=false:=by simpa using n8
 have k9:(N.k==9)=false:=by simpa using n9
 have k11:(N.k==11)=false:=by simpa using n11
 have k12:(N.k==12)=false:=by simpa using n12
 have k13:(N.k==13)=false:=by simpa using n13
 have k17:(N.k==17)=false:=by simpa using n17
 have hr:zM N=false:=by
  rw [zM,if_neg n1,if_neg n2,if_neg (by intro h;rcases h with h | h | h;exact n6 h;exact n7 h;exact n8 h),if_neg n9,if_neg (by intro h;rcases h with h | h | h;exact n11 h;exact n12 h;exact n13 h),if_neg n17]
 rw [hr]
 clear O h hN hr n1 n2 n6 n7 n8 n9 n11 n12 n13 n17
 go_enter Tryz.func76,Tryz.ntmps76
 go_wp2
 go_ret
 exact ⟨rfl,BN⟩
theorem leafK1 (cs:List Value) (N:Nd) (w:World) (h:NdV w cs N) (hk:N.k=1):Calls Tryz.prog 76 #[.agg cs.toArray] w fun e w'=>e=.returned (.bool (zM N))/\Below w.heap.size w w':=by
 have hN:=h
 obtain ⟨v0,v1,v2,v3,ka,kc,ba,bc,kb,ko,bb,bo,O⟩:=h.open
 obtain ⟨sa,sc,na,nc,ia,ic,f0,f1,f2,f3⟩:=arr_form O.arr
 subst f0 f1 f2 f3
 have he:=O.eq
 subst he
 have hP:=NPar.new w [.int .i64 N.k,.int .i64 N.a,.int .i64 N.c,.string N.t,.int .i64 N.p,.int .i64 N.o,.int .i64 N.v.kind,.slice sa N.v.shape.length sc,.slice na N.v.nums.length nc,.slice ia N.v.items.length ic,.slice ka N.ks.length kc,.slice ba N.bd.length bc,.int .i64 N.d,.int .i64 N.s,.int .i64 N.z] 40
 have BN:=below_new w (.cells [.int .i64 N.k,.int .i64 N.a,.int .i64 N.c,.string N.t,.int .i64 N.p,.int .i64 N.o,.int .i64 N.v.kind,.slice sa N.v.shape.length sc,.slice na N.v.nums.length nc,.slice ia N.v.items.length ic,.slice ka N.ks.length kc,.slice ba N.bd.length bc,.int .i64 N.d,.int .i64 N.s,.int .i64 N.z].toArray 40)
 obtain ⟨p0,p1,p2,p3,p4,p5,p6,p7,p8,p9,p10,p11,p12,p13,p14⟩:=hP.fip
 have k1:(N.k==1)=true:=by rw [hk];rfl
 have k2:(N.k==2)=false:=by rw [hk];rfl
 have k6:(N.k==6)=false:=by rw [hk];rfl
 have k7:(N.k==7)=false:=by rw [hk];rfl
 have k8:(N.k==8)=false:=by rw [hk];rfl
 have k9:(N.k==9)=false:=by rw [hk];rfl
 have k11:(N.k==11)=false:=by rw [hk];rfl
 have k12:(N.k==12)=false:=by rw [hk];rfl
 have k13:(N.k==13)=false:=by rw [hk];rfl
 have k17:(N.k==17)=false:=by rw [hk];rfl
 have B2:=below_new (w.alloc (.cells [.int .i64 N.k,.int .i64 N.a,.int .i64 N.c,.string N.t,.int .i64 N.p,.int .i64 N.o,.int .i64 N.v.kind,.slice sa N.v.shape.length sc,.slice na N.v.nums.length nc,.slice ia N.v.items.length ic,.slice ka N.ks.length kc,.slice ba N.bd.length bc,.int .i64 N.d,.int .i64 N.s,.int .i64 N.z].toArray 40)) (.cells #[.int .i64 N.v.kind,.slice sa N.v.shape.length sc,.slice na N.v.nums.length nc,.slice ia N.v.items.length ic] 37)
 have BW:=Below.then BN B2
 have hP2:=hP.below B2
 have hV:=Par.new (w.alloc (.cells [.int .i64 N.k,.int .i64 N.a,.int .i64 N.c,.string N.t,.int .i64 N.p,.int .i64 N.o,.int .i64 N.v.kind,.slice sa N.v.shape.length sc,.slice na N.v.nums.length nc,.slice ia N.v.items.length ic,.slice ka N.ks.length kc,.slice ba N.bd.length bc,.int .i64 N.d,.int .i64 N.s,.int .i64 N.z].toArray 40)) (.int .i64 N.v.kind) (.slice sa N.v.shape.length sc) (.slice na N.v.nums.length nc) (.slice ia N.v.items.length ic) 37
 rw [show (w.alloc (.cells [.int .i64 N.k,.int .i64 N.a,.int .i64 N.c,.string N.t,.int .i64 N.p,.int .i64 N.o,.int .i64 N.v.kind,.slice sa N.v.shape.length sc,.slice na N.v.nums.length nc,.slice ia N.v.items.length ic,.slice ka N.ks.length kc,.slice ba N.bd.length bc,.int .i64 N.d,.int .i64 N.s,.int .i64 N.z].toArray 40)).heap.size=w.heap.size+1 by simp] at hV
 have SE:=emptyEv [.int .i64 N.k,.int .i64 N.a,.int .i64 N.c,.string N.t,.int .i64 N.p,.int .i64 N.o,.int .i64 N.v.kind,.slice sa N.v.shape.length sc,.slice na N.v.nums.length nc,.slice ia N.v.items.length ic,.slice ka N.ks.length kc,.slice ba N.bd.length bc,.int .i64 N.d,.int .i64 N.s,.int .i64 N.z] N _ (hN.below BW)
 have RR:=fun w' (g:Below _ _ w')=>rightR3 _ N.v w' ((O.arr.below BW).below g)
 have hs1:N.v.shape.length<=9223372036854775807:=by
  have h2:=O.arr
  cases hv:N.v with | mk k sh nu it =>
  rw [hv,ArrAt] at h2
  obtain ⟨_,_,_,_,_,_,_,_,hs,-⟩:=h2
  exact hs.len
 obtain ⟨r,hr⟩:∃ r,zM N=r:=⟨_,rfl⟩
 rw [hr]
 rw [zM,if_pos (by simp [hk])] at hr
 clear O h hN hk
 obtain ⟨E,hE⟩:∃ E,zF false false false true false false N=E:=⟨_,rfl⟩
 rw [hE] at SE hr
 clear hE
 obtain ⟨R,hR⟩:∃ R,zo N.v=R:=⟨_,rfl⟩
 rw [hR] at hr
 simp only [hR] at RR
 clear hR
 unfold litB at hr
 cases e0:(E) with
 | false =>
  rw [e0] at SE
  obtain rfl:r=false:=by rw [<- hr,e0];simp
  clear hr
  go_enter Tryz.func76,Tryz.ntmps76
  go_wp2_with (first |(go_at_call 100;((with_reducible refine SE.mono ?_);rintro e w3 ⟨rfl,b3⟩;(obtain ⟨s0,s1,s2,s3,s4,s5,s6,s7,s8,s9,s10,s11,s12,s13,s14⟩:=(hP2.below b3).fip);(obtain ⟨g0,g1,g2,g3,g4⟩:=hV.below b3))) |(go_at_call 101;((with_reducible refine (RR _ b3).mono ?_);rintro e w4 ⟨rfl,b4⟩;(obtain ⟨l0,l1,l2,l3,l4⟩:=(hV.below b3).below b4))) | fail)
  go_ret
  exact ⟨rfl,Below.then BW b3⟩
 | true =>
  rw [e0] at SE
  cases e1:(N.c==1) with
  | false =>
   obtain rfl:r=false:=by rw [<- hr,e0,e1];simp
   clear hr
   go_enter Tryz.func76,Tryz.ntmps76
   go_wp2_with (first |(go_at_call 100;((with_reducible refine SE.mono ?_);rintro e w3 ⟨rfl,b3⟩;(obtain ⟨s0,s1,s2,s3,s4,s5,s6,s7,s8,s9,s10,s11,s12,s13,s14⟩:=(hP2.below b3).fip);(obtain ⟨g0,g1,g2,g3,g4⟩:=hV.below b3))) |(go_at_call 101;((with_reducible refine (RR _ b3).mono ?_);rintro e w4 ⟨rfl,b4⟩;(obtain ⟨l0,l1,l2,l3,l4⟩:=(hV.below b3).below b4))) | fail)
   go_ret
   exact ⟨rfl,Below.then BW b3⟩
  | true =>
   cases e2:(R==0) with
   | false =>
    obtain rfl:r=false:=by rw [<- hr,e0,e1,e2];simp
    clear hr
    go_enter Tryz.func76,Tryz.ntmps76
    go_wp2_with (first |(go_at_call 100;((with_reducible refine SE.mono ?_);rintro e w3 ⟨rfl,b3⟩;(obtain ⟨s0,s1,s2,s3,s4,s5,s6,s7,s8,s9,s10,s11,s12,s13,s14⟩:=(hP2.below b3).fip);(obtain ⟨g0,g1,g2,g3,g4⟩:=hV.below b3))) |(go_at_call 101;((with_reducible refine (RR _ b3).mono ?_);rintro e w4 ⟨rfl,b4⟩;(obtain ⟨l0,l1,l2,l3,l4⟩:=(hV.below b3).below b4))) | fail)
    go_ret
    exact ⟨rfl,Below.then (Below.then BW b3) b4⟩
   | true =>
    cases e3:((N.v.shape.length:Int)==0) with
    | false =>
     cases e5:((N.v.shape.length:Int)==1) with
     | false =>
      obtain rfl:r=false:=by rw [<- hr,e0,e1,e2,e3,e5];simp
      clear hr
      go_enter Tryz.func76,Tryz.ntmps76
      go_wp2_with (first |(go_at_call 100;((with_reducible refine SE.mono ?_);rintro e w3 ⟨rfl,b3⟩;(obtain ⟨s0,s1,s2,s3,s4,s5,s6,s7,s8,s9,s10,s11,s12,s13,s14⟩:=(hP2.below b3).fip);(obtain ⟨g0,g1,g2,g3,g4⟩:=hV.below b3))) |(go_at_call 101;((with_reducible refine (RR _ b3).mono ?_);rintro e w4 ⟨rfl,b4⟩;(obtain ⟨l0,l1,l2,l3,l4⟩:=(hV.below b3).below b4))) | fail)
      go_ret
      exact ⟨rfl,Below.then (Below.then BW b3) b4⟩
     | true =>
      cases e6:(N.v.kind==2) with
      | false =>
       obtain rfl:r=false:=by rw [<- hr,e0,e1,e2,e3,e5,e6];simp
       clear hr
       go_enter Tryz.func76,Tryz.ntmps76
       go_wp2_with (first |(go_at_call 100;((with_reducible refine SE.mono ?_);rintro e w3 ⟨rfl,b3⟩;(obtain ⟨s0,s1,s2,s3,s4,s5,s6,s7,s8,s9,s10,s11,s12,s13,s14⟩:=(hP2.below b3).fip);(obtain ⟨g0,g1,g2,g3,g4⟩:=hV.below b3))) |(go_at_call 101;((with_reducible refine (RR _ b3).mono ?_);rintro e w4 ⟨rfl,b4⟩;(obtain ⟨l0,l1,l2,l3,l4⟩:=(hV.below b3).below b4))) | fail)
       go_ret
       exact ⟨rfl,Below.then (Below.then BW b3) b4⟩
      | true =>
       obtain rfl:r=true:=by rw [<- hr,e0,e1,e2,e3,e5,e6];simp
       clear hr
       go_enter Tryz.func76,Tryz.ntmps76
       go_wp2_with (first |(go_at_call 100;((with_reducible refine SE.mono ?_);rintro e w3 ⟨rfl,b3⟩;(obtain ⟨s0,s1,s2,s3,s4,s5,s6,s7,s8,s9,s10,s11,s12,s13,s14⟩:=(hP2.below b3).fip);(obtain ⟨g0,g1,g2,g3,g4⟩:=hV.below b3))) |(go_at_call 101;((with_reducible refine (RR _ b3).mono ?_);rintro e w4 ⟨rfl,b4⟩;(obtain ⟨l0,l1,l2,l3,l4⟩:=(hV.below b3).below b4))) | fail)
       go_ret
       exact ⟨rfl,Below.then (Below.then BW b3) b4⟩
    | true =>
     cases e4:(N.v.kind != 3) with
     | false =>
      have e5:((N.v.shape.length:Int)==1)=false:=by rw [eq_of_beq e3];rfl
      obtain rfl:r=false:=by rw [<- hr,e0,e1,e2,e3,e4,e5];simp
      clear hr
      go_enter Tryz.func76,Tryz.ntmps76
      go_wp2_with (first |(go_at_call 100;((with_reducible refine SE.mono ?_);rintro e w3 ⟨rfl,b3⟩;(obtain ⟨s0,s1,s2,s3,s4,s5,s6,s7,s8,s9,s10,s11,s12,s13,s14⟩:=(hP2.below b3).fip);(obtain ⟨g0,g1,g2,g3,g4⟩:=hV.below b3))) |(go_at_call 101;((with_reducible refine (RR _ b3).mono ?_);rintro e w4 ⟨rfl,b4⟩;(obtain ⟨l0,l1,l2,l3,l4⟩:=(hV.below b3).below b4))) | fail)
      go_ret
      exact ⟨rfl,Below.then (Below.then BW b3) b4⟩
     | true =>
      obtain rfl:r=true:=by rw [<- hr,e0,e1,e2,e3,e4];simp
      clear hr
      go_enter Tryz.func76,Tryz.ntmps76
      go_wp2_with (first |(go_at_call 100;((with_reducible refine SE.mono ?_);rintro e w3 ⟨rfl,b3⟩;(obtain ⟨s0,s1,s2,s3,s4,s5,s6,s7,s8,s9,s10,s11,s12,s13,s14⟩:=(hP2.below b3).fip);(obtain ⟨g0,g1,g2,g3,g4⟩:=hV.below b3))) |(go_at_call 101;((with_reducible refine (RR _ b3).mono ?_);rintro e w4 ⟨rfl,b4⟩;(obtain ⟨l0,l1,l2,l3,l4⟩:=(hV.below b3).below b4))) | fail)
      go_ret
      exact ⟨rfl,Below.then (Below.then BW b3) b4⟩
theorem leafR (cs:List Value) (N:Nd) (w:World) (h:NdV w cs N):Calls Tryz.prog 76 #[.agg cs.toArray] w fun e w'=>e=.returned (.bool (zM N))/\Below w.heap.size w w':=by
 by_cases h1:N.k=1
 ·exact leafK1 cs N w h h1
 by_cases h2:N.k=2
 ·exact leafK2 cs N w h h2
 by_cases h6:N.k=6
 ·exact leafK6 cs N w h h6
 by_cases h7:N.k=7
 ·exact leafK7 cs N w h h7
 by_cases h8:N.k=8
 ·exact leafK8 cs N w h h8
 by_cases h9:N.k=9
 ·exact leafK9 cs N w h h9
 by_cases h11:N.k=11
 ·exact leafK11 cs N w h h11
 by_cases h12:N.k=12
 ·exact leafK12 cs N w h h12
 by_cases h13:N.k=13
 ·exact leafK13 cs N w h h13
 by_cases h17:N.k=17
 ·exact leafK17 cs N w h h17
 exact leafNo cs N w h ⟨h1,h2,h6,h7,h8,h9,h11,h12,h13,h17⟩
theorem ints_new (W:World) (xs:List Int) (t:TypeId) (hx:∀ x∈xs,-9223372036854775808<=x/\x<=9223372036854775807) (hl:xs.length<=1000):IntsAt (W.alloc (.cells (xs.map (fun x=>Value.int .i64 x)).toArray t)) (some ⟨W.heap.size,0,none⟩) xs.length xs:=by
 refine ⟨Nat.le_refl _,by omega,hx,W.heap.size,0,fun _=>rfl,fun i hi=>?_⟩
 rw [World.cell?_alloc_new]
 simp [hi]
theorem wP (W:World) (x y:Int) (t:TypeId) (hx:0<=x/\x<=10) (hy:0<=y/\y<=10):IntsAt (W.alloc (.cells #[.int .i64 x,.int .i64 y] t)) (some ⟨W.heap.size,0,none⟩) 2 [x,y] :=
 ints_new W [x,y] t (by intro z hz;simp at hz;omega) (by simp)
theorem xS (W:World) (x y z:Int) (t:TypeId) (hx:0<=x/\x<=10) (hy:0<=y/\y<=10) (hz:0<=z/\z<=10):IntsAt (W.alloc (.cells #[.int .i64 x,.int .i64 y,.int .i64 z] t)) (some ⟨W.heap.size,0,none⟩) 3 [x,y,z] :=
 ints_new W [x,y,z] t (by intro u hu;simp at hu;omega) (by simp)
theorem allC_no {l:List Nd}{j:Nat}(h:j<l.length) (hc:(l[j].c==1)=false):allC l=false:=by
 rw [allC,List.all_eq_false];exact ⟨l[j],List.getElem_mem h,by rw [hc];exact Bool.false_ne_true⟩
theorem allC_yes {l:List Nd}(h:∀ i (hi:i<l.length),(l[i].c==1)=true):allC l=true:=by
 rw [allC,List.all_eq_true];intro x hx
 obtain ⟨i,hi,rfl⟩:=List.mem_iff_getElem.1 hx
 exact h i hi
theorem innerK4 (cs:List Value) (N:Nd) (w:World) (h:NdV w cs N) (hk:N.k=4):Calls Tryz.prog 77 #[.agg cs.toArray] w fun e w'=>e=.returned (.bool (zO N))/\Below w.heap.size w w':=by
 have hN:=h
 obtain ⟨v0,v1,v2,v3,ka,kc,ba,bc,kb,ko,bb,bo,O⟩:=h.open
 have he:=O.eq
 subst he
 have hP:=NPar.new w [.int .i64 N.k,.int .i64 N.a,.int .i64 N.c,.string N.t,.int .i64 N.p,.int .i64 N.o,v0,v1,v2,v3,.slice ka N.ks.length kc,.slice ba N.bd.length bc,.int .i64 N.d,.int .i64 N.s,.int .i64 N.z] 40
 have BN:=below_new w (.cells [.int .i64 N.k,.int .i64 N.a,.int .i64 N.c,.string N.t,.int .i64 N.p,.int .i64 N.o,v0,v1,v2,v3,.slice ka N.ks.length kc,.slice ba N.bd.length bc,.int .i64 N.d,.int .i64 N.s,.int .i64 N.z].toArray 40)
 obtain ⟨p0,p1,p2,p3,p4,p5,p6,p7,p8,p9,p10,p11,p12,p13,p14⟩:=hP.fip
 have hk1:N.ks.length<=9223372036854775807:=by have:=O.kl;omega
 have hk2:N.bd.length<=9223372036854775807:=by have:=O.bl;omega
 have SE:=xf [.int .i64 N.k,.int .i64 N.a,.int .i64 N.c,.string N.t,.int .i64 N.p,.int .i64 N.o,v0,v1,v2,v3,.slice ka N.ks.length kc,.slice ba N.bd.length bc,.int .i64 N.d,.int .i64 N.s,.int .i64 N.z] N _ (hN.below BN)
 have k3:(N.k==3)=false:=by rw [hk];rfl
 have k4:(N.k==4)=true:=by rw [hk];rfl
 have k5:(N.k==5)=false:=by rw [hk];rfl
 have k14:(N.k==14)=false:=by rw [hk];rfl
 have k15:(N.k==15)=false:=by rw [hk];rfl
 have k16:(N.k==16)=false:=by rw [hk];rfl
 obtain ⟨r,hr⟩:∃ r,zO N=r:=⟨_,rfl⟩
 rw [hr]
 rw [zO,if_neg (by simp [hk]),if_pos (by simp [hk])] at hr
 obtain ⟨E,hE⟩:∃ E,zF false false false false true false N=E:=⟨_,rfl⟩
 rw [hE] at SE hr
 clear hE
 have CL1:=fun w' (g:Below w.heap.size w w') {a:Option Addr}(gi:IntsAt w' a 2 [2,1])=>kT [.int .i64 N.k,.int .i64 N.a,.int .i64 N.c,.string N.t,.int .i64 N.p,.int .i64 N.o,v0,v1,v2,v3,.slice ka N.ks.length kc,.slice ba N.bd.length bc,.int .i64 N.d,.int .i64 N.s,.int .i64 N.z] N a 2 [2,1] w' (hN.below g) gi
 obtain ⟨C1,hC1⟩:∃ C,clsB [2,1] N=C:=⟨_,rfl⟩
 rw [hC1] at hr
 simp only [hC1,List.length_cons,List.length_nil,Nat.reduceAdd] at CL1
 clear hC1
 clear O h hk
 cases e0:(E) with
 | false =>
  rw [e0] at SE
  obtain rfl:r=false:=by rw [<- hr,e0];simp
  clear hr
  go_enter Tryz.func77,Tryz.ntmps77
  go_wp2_with (first |(go_at_call 100;((with_reducible refine SE.mono ?_);rintro e w3 ⟨rfl,b3⟩;have B3:=Below.then BN b3;have hP3:=hP.below b3;(obtain ⟨s0,s1,s2,s3,s4,s5,s6,s7,s8,s9,s10,s11,s12,s13,s14⟩:=hP3.fip))) | fail)
  go_ret
  exact ⟨rfl,B3⟩
 | true =>
  rw [e0] at SE
  cases e1:(N.c==1) with
  | false =>
   obtain rfl:r=false:=by rw [<- hr,e0,e1];simp
   clear hr
   go_enter Tryz.func77,Tryz.ntmps77
   go_wp2_with (first |(go_at_call 100;((with_reducible refine SE.mono ?_);rintro e w3 ⟨rfl,b3⟩;have B3:=Below.then BN b3;have hP3:=hP.below b3;(obtain ⟨s0,s1,s2,s3,s4,s5,s6,s7,s8,s9,s10,s11,s12,s13,s14⟩:=hP3.fip))) | fail)
   go_ret
   exact ⟨rfl,B3⟩
  | true =>
   cases e2:(C1) with
   | false =>
    simp only [e2] at CL1
    obtain rfl:r=false:=by rw [<- hr,e0,e1,e2];simp
    clear hr
    go_enter Tryz.func77,Tryz.ntmps77
    go_wp2_with (first |(go_at_call 100;((with_reducible refine SE.mono ?_);rintro e w3 ⟨rfl,b3⟩;have B3:=Below.then BN b3;have hP3:=hP.below b3;(obtain ⟨s0,s1,s2,s3,s4,s5,s6,s7,s8,s9,s10,s11,s12,s13,s14⟩:=hP3.fip))) |(go_at_call 103;((with_reducible refine (CL1 _ (Below.then B3 (below_new _ _)) (wP _ 2 1 _ (by decide) (by decide))).mono ?_);rintro e w4 ⟨rfl,b4⟩;have B4:=Below.then (Below.then B3 (below_new _ _)) b4)) | fail)
    go_ret
    exact ⟨rfl,B4⟩
   | true =>
    simp only [e2] at CL1
    obtain rfl:r=true:=by rw [<- hr,e0,e1,e2];simp
    clear hr
    go_enter Tryz.func77,Tryz.ntmps77
    go_wp2_with (first |(go_at_call 100;((with_reducible refine SE.mono ?_);rintro e w3 ⟨rfl,b3⟩;have B3:=Below.then BN b3;have hP3:=hP.below b3;(obtain ⟨s0,s1,s2,s3,s4,s5,s6,s7,s8,s9,s10,s11,s12,s13,s14⟩:=hP3.fip))) |(go_at_call 103;((with_reducible refine (CL1 _ (Below.then B3 (below_new _ _)) (wP _ 2 1 _ (by decide) (by decide))).mono ?_);rintro e w4 ⟨rfl,b4⟩;have B4:=Below.then (Below.then B3 (below_new _ _)) b4)) | fail)
    go_ret
    exact ⟨rfl,B4⟩
theorem innerK5 (cs:List Value) (N:Nd) (w:World) (h:NdV w cs N) (hk:N.k=5):Calls Tryz.prog 77 #[.agg cs.toArray] w fun e w'=>e=.returned (.bool (zO N))/\Below w.heap.size w w':=by
 have hN:=h
 obtain ⟨v0,v1,v2,v3,ka,kc,ba,bc,kb,ko,bb,bo,O⟩:=h.open
 have he:=O.eq
 subst he
 have hP:=NPar.new w [.int .i64 N.k,.int .i64 N.a,.int .i64 N.c,.string N.t,.int .i64 N.p,.int .i64 N.o,v0,v1,v2,v3,.slice ka N.ks.length kc,.slice ba N.bd.length bc,.int .i64 N.d,.int .i64 N.s,.int .i64 N.z] 40
 have BN:=below_new w (.cells [.int .i64 N.k,.int .i64 N.a,.int .i64 N.c,.string N.t,.int .i64 N.p,.int .i64 N.o,v0,v1,v2,v3,.slice ka N.ks.length kc,.slice ba N.bd.length bc,.int .i64 N.d,.int .i64 N.s,.int .i64 N.z].toArray 40)
 obtain ⟨p0,p1,p2,p3,p4,p5,p6,p7,p8,p9,p10,p11,p12,p13,p14⟩:=hP.fip
 have hk1:N.ks.length<=9223372036854775807:=by have:=O.kl;omega
 have hk2:N.bd.length<=9223372036854775807:=by have:=O.bl;omega
 have SE:=xf [.int .i64 N.k,.int .i64 N.a,.int .i64 N.c,.string N.t,.int .i64 N.p,.int .i64 N.o,v0,v1,v2,v3,.slice ka N.ks.length kc,.slice ba N.bd.length bc,.int .i64 N.d,.int .i64 N.s,.int .i64 N.z] N _ (hN.below BN)
 have k3:(N.k==3)=false:=by rw [hk];rfl
 have k4:(N.k==4)=false:=by rw [hk];rfl
 have k5:(N.k==5)=true:=by rw [hk];rfl
 have k14:(N.k==14)=false:=by rw [hk];rfl
 have k15:(N.k==15)=false:=by rw [hk];rfl
 have k16:(N.k==16)=false:=by rw [hk];rfl
 obtain ⟨r,hr⟩:∃ r,zO N=r:=⟨_,rfl⟩
 rw [hr]
 rw [zO,if_neg (by simp [hk]),if_neg (by simp [hk]),if_pos (by simp [hk])] at hr
 obtain ⟨E,hE⟩:∃ E,zF false false false false true false N=E:=⟨_,rfl⟩
 rw [hE] at SE hr
 clear hE
 have CL1:=fun w' (g:Below w.heap.size w w') {a:Option Addr}(gi:IntsAt w' a 3 [2,1,1])=>kT [.int .i64 N.k,.int .i64 N.a,.int .i64 N.c,.string N.t,.int .i64 N.p,.int .i64 N.o,v0,v1,v2,v3,.slice ka N.ks.length kc,.slice ba N.bd.length bc,.int .i64 N.d,.int .i64 N.s,.int .i64 N.z] N a 3 [2,1,1] w' (hN.below g) gi
 obtain ⟨C1,hC1⟩:∃ C,clsB [2,1,1] N=C:=⟨_,rfl⟩
 rw [hC1] at hr
 simp only [hC1,List.length_cons,List.length_nil,Nat.reduceAdd] at CL1
 clear hC1
 clear O h hk
 cases e0:(E) with
 | false =>
  rw [e0] at SE
  obtain rfl:r=false:=by rw [<- hr,e0];simp
  clear hr
  go_enter Tryz.func77,Tryz.ntmps77
  go_wp2_with (first |(go_at_call 100;((with_reducible refine SE.mono ?_);rintro e w3 ⟨rfl,b3⟩;have B3:=Below.then BN b3;have hP3:=hP.below b3;(obtain ⟨s0,s1,s2,s3,s4,s5,s6,s7,s8,s9,s10,s11,s12,s13,s14⟩:=hP3.fip))) | fail)
  go_ret
  exact ⟨rfl,B3⟩
 | true =>
  rw [e0] at SE
  cases e1:(N.c==1) with
  | false =>
   obtain rfl:r=false:=by rw [<- hr,e0,e1];simp
   clear hr
   go_enter Tryz.func77,Tryz.ntmps77
   go_wp2_with (first |(go_at_call 100;((with_reducible refine SE.mono ?_);rintro e w3 ⟨rfl,b3⟩;have B3:=Below.then BN b3;have hP3:=hP.below b3;(obtain ⟨s0,s1,s2,s3,s4,s5,s6,s7,s8,s9,s10,s11,s12,s13,s14⟩:=hP3.fip))) | fail)
   go_ret
   exact ⟨rfl,B3⟩
  | true =>
   cases e2:(C1) with
   | false =>
    simp only [e2] at CL1
    obtain rfl:r=false:=by rw [<- hr,e0,e1,e2];simp
    clear hr
    go_enter Tryz.func77,Tryz.ntmps77
    go_wp2_with (first |(go_at_call 100;((with_reducible refine SE.mono ?_);rintro e w3 ⟨rfl,b3⟩;have B3:=Below.then BN b3;have hP3:=hP.below b3;(obtain ⟨s0,s1,s2,s3,s4,s5,s6,s7,s8,s9,s10,s11,s12,s13,s14⟩:=hP3.fip))) |(go_at_call 103;((with_reducible refine (CL1 _ (Below.then B3 (below_new _ _)) (xS _ 2 1 1 _ (by decide) (by decide) (by decide))).mono ?_);rintro e w4 ⟨rfl,b4⟩;have B4:=Below.then (Below.then B3 (below_new _ _)) b4)) | fail)
    go_ret
    exact ⟨rfl,B4⟩
   | true =>
    simp only [e2] at CL1
    obtain rfl:r=true:=by rw [<- hr,e0,e1,e2];simp
    clear hr
    go_enter Tryz.func77,Tryz.ntmps77
    go_wp2_with (first |(go_at_call 100;((with_reducible refine SE.mono ?_);rintro e w3 ⟨rfl,b3⟩;have B3:=Below.then BN b3;have hP3:=hP.below b3;(obtain ⟨s0,s1,s2,s3,s4,s5,s6,s7,s8,s9,s10,s11,s12,s13,s14⟩:=hP3.fip))) |(go_at_call 103;((with_reducible refine (CL1 _ (Below.then B3 (below_new _ _)) (xS _ 2 1 1 _ (by decide) (by decide) (by decide))).mono ?_);rintro e w4 ⟨rfl,b4⟩;have B4:=Below.then (Below.then B3 (below_new _ _)) b4)) | fail)
    go_ret
    exact ⟨rfl,B4⟩
theorem innerK14 (cs:List Value) (N:Nd) (w:World) (h:NdV w cs N) (hk:N.k=14):Calls Tryz.prog 77 #[.agg cs.toArray] w fun e w'=>e=.returned (.bool (zO N))/\Below w.heap.size w w':=by
 have hN:=h
 obtain ⟨v0,v1,v2,v3,ka,kc,ba,bc,kb,ko,bb,bo,O⟩:=h.open
 have he:=O.eq
 subst he
 have hP:=NPar.new w [.int .i64 N.k,.int .i64 N.a,.int .i64 N.c,.string N.t,.int .i64 N.p,.int .i64 N.o,v0,v1,v2,v3,.slice ka N.ks.length kc,.slice ba N.bd.length bc,.int .i64 N.d,.int .i64 N.s,.int .i64 N.z] 40
 have BN:=below_new w (.cells [.int .i64 N.k,.int .i64 N.a,.int .i64 N.c,.string N.t,.int .i64 N.p,.int .i64 N.o,v0,v1,v2,v3,.slice ka N.ks.length kc,.slice ba N.bd.length bc,.int .i64 N.d,.int .i64 N.s,.int .i64 N.z].toArray 40)
 obtain ⟨p0,p1,p2,p3,p4,p5,p6,p7,p8,p9,p10,p11,p12,p13,p14⟩:=hP.fip
 have hk1:N.ks.length<=9223372036854775807:=by have:=O.kl;omega
 have hk2:N.bd.length<=9223372036854775807:=by have:=O.bl;omega
 have SE:=xf [.int .i64 N.k,.int .i64 N.a,.int .i64 N.c,.string N.t,.int .i64 N.p,.int .i64 N.o,v0,v1,v2,v3,.slice ka N.ks.length kc,.slice ba N.bd.length bc,.int .i64 N.d,.int .i64 N.s,.int .i64 N.z] N _ (hN.below BN)
 have k3:(N.k==3)=false:=by rw [hk];rfl
 have k4:(N.k==4)=false:=by rw [hk];rfl
 have k5:(N.k==5)=false:=by rw [hk];rfl
 have k14:(N.k==14)=true:=by rw [hk];rfl
 have k15:(N.k==15)=false:=by rw [hk];rfl
 have k16:(N.k==16)=false:=by rw [hk];rfl
 obtain ⟨r,hr⟩:∃ r,zO N=r:=⟨_,rfl⟩
 rw [hr]
 rw [zO,if_neg (by simp [hk]),if_neg (by simp [hk]),if_neg (by simp [hk]),if_pos (by simp [hk])] at hr
 obtain ⟨E,hE⟩:∃ E,zF false false false false true false N=E:=⟨_,rfl⟩
 rw [hE] at SE hr
 clear hE
 have CL1:=fun w' (g:Below w.heap.size w w') {a:Option Addr}(gi:IntsAt w' a 2 [3,2])=>kT [.int .i64 N.k,.int .i64 N.a,.int .i64 N.c,.string N.t,.int .i64 N.p,.int .i64 N.o,v0,v1,v2,v3,.slice ka N.ks.length kc,.slice ba N.bd.length bc,.int .i64 N.d,.int .i64 N.s,.int .i64 N.z] N a 2 [3,2] w' (hN.below g) gi
 obtain ⟨C1,hC1⟩:∃ C,clsB [3,2] N=C:=⟨_,rfl⟩
 rw [hC1] at hr
 simp only [hC1,List.length_cons,List.length_nil,Nat.reduceAdd] at CL1
 clear hC1
 clear O h hk
 cases e0:(E) with
 | false =>
  rw [e0] at SE
  obtain rfl:r=false:=by rw [<- hr,e0];simp
  clear hr
  go_enter Tryz.func77,Tryz.ntmps77
  go_wp2_with (first |(go_at_call 100;((with_reducible refine SE.mono ?_);rintro e w3 ⟨rfl,b3⟩;have B3:=Below.then BN b3;have hP3:=hP.below b3;(obtain ⟨s0,s1,s2,s3,s4,s5,s6,s7,s8,s9,s10,s11,s12,s13,s14⟩:=hP3.fip))) | fail)
  go_ret
  exact ⟨rfl,B3⟩
 | true =>
  rw [e0] at SE
  cases e1:(N.c==2) with
  | false =>
   obtain rfl:r=false:=by rw [<- hr,e0,e1];simp
   clear hr
   go_enter Tryz.func77,Tryz.ntmps77
   go_wp2_with (first |(go_at_call 100;((with_reducible refine SE.mono ?_);rintro e w3 ⟨rfl,b3⟩;have B3:=Below.then BN b3;have hP3:=hP.below b3;(obtain ⟨s0,s1,s2,s3,s4,s5,s6,s7,s8,s9,s10,s11,s12,s13,s14⟩:=hP3.fip))) | fail)
   go_ret
   exact ⟨rfl,B3⟩
  | true =>
   cases e2:(C1) with
   | false =>
    simp only [e2] at CL1
    obtain rfl:r=false:=by rw [<- hr,e0,e1,e2];simp
    clear hr
    go_enter Tryz.func77,Tryz.ntmps77
    go_wp2_with (first |(go_at_call 100;((with_reducible refine SE.mono ?_);rintro e w3 ⟨rfl,b3⟩;have B3:=Below.then BN b3;have hP3:=hP.below b3;(obtain ⟨s0,s1,s2,s3,s4,s5,s6,s7,s8,s9,s10,s11,s12,s13,s14⟩:=hP3.fip))) |(go_at_call 103;((with_reducible refine (CL1 _ (Below.then B3 (below_new _ _)) (wP _ 3 2 _ (by decide) (by decide))).mono ?_);rintro e w4 ⟨rfl,b4⟩;have B4:=Below.then (Below.then B3 (below_new _ _)) b4)) | fail)
    go_ret
    exact ⟨rfl,B4⟩
   | true =>
    simp only [e2] at CL1
    obtain rfl:r=true:=by rw [<- hr,e0,e1,e2];simp
    clear hr
    go_enter Tryz.func77,Tryz.ntmps77
    go_wp2_with (first |(go_at_call 100;((with_reducible refine SE.mono ?_);rintro e w3 ⟨rfl,b3⟩;have B3:=Below.then BN b3;have hP3:=hP.below b3;(obtain ⟨s0,s1,s2,s3,s4,s5,s6,s7,s8,s9,s10,s11,s12,s13,s14⟩:=hP3.fip))) |(go_at_call 103;((with_reducible refine (CL1 _ (Below.then B3 (below_new _ _)) (wP _ 3 2 _ (by decide) (by decide))).mono ?_);rintro e w4 ⟨rfl,b4⟩;have B4:=Below.then (Below.then B3 (below_new _ _)) b4)) | fail)
    go_ret
    exact ⟨rfl,B4⟩
theorem innerNo (cs:List Value) (N:Nd) (w:World) (h:NdV w cs N) (hk:N.k≠3/\N.k≠4/\N.k≠5/\N.k≠14/\N.k≠15/\N.k≠16):Calls Tryz.prog 77 #[.agg cs.toArray] w fun e w'=>e=.returned (.bool (zO N))/\Below w.heap.size w w':=by
 have hN:=h
 obtain ⟨v0,v1,v2,v3,ka,kc,ba,bc,kb,ko,bb,bo,O⟩:=h.open
 have he:=O.eq
 subst he
 have hP:=NPar.new w [.int .i64 N.k,.int .i64 N.a,.int .i64 N.c,.string N.t,.int .i64 N.p,.int .i64 N.o,v0,v1,v2,v3,.slice ka N.ks.length kc,.slice ba N.bd.length bc,.int .i64 N.d,.int .i64 N.s,.int .i64 N.z] 40
 have BN:=below_new w (.cells [.int .i64 N.k,.int .i64 N.a,.int .i64 N.c,.string N.t,.int .i64 N.p,.int .i64 N.o,v0,v1,v2,v3,.slice ka N.ks.length kc,.slice ba N.bd.length bc,.int .i64 N.d,.int .i64 N.s,.int .i64 N.z].toArray 40)
 obtain ⟨p0,p1,p2,p3,p4,p5,p6,p7,p8,p9,p10,p11,p12,p13,p14⟩:=hP.fip
 have hk1:N.ks.length<=9223372036854775807:=by have:=O.kl;omega
 have hk2:N.bd.length<=9223372036854775807:=by have:=O.bl;omega
 have SE:=xf [.int .i64 N.k,.int .i64 N.a,.int .i64 N.c,.string N.t,.int .i64 N.p,.int .i64 N.o,v0,v1,v2,v3,.slice ka N.ks.length kc,.slice ba N.bd.length bc,.int .i64 N.d,.int .i64 N.s,.int .i64 N.z] N _ (hN.below BN)
 obtain ⟨n3,n4,n5,n14,n15,n16⟩:=hk
 have k3:(N.k==3)=false:=by simpa using n3
 have k4:(N.k==4)=false:=by simpa using n4
 have k5:(N.k==5)=false:=by simpa using n5
 have k14:(N.k==14)=false:=by simpa using n14
 have k15:(N.k==15)=false:=by simpa using n15
 have k16:(N.k==16)=false:=by simpa using n16
 have hr:zO N=false:=by rw [zO,if_neg n3,if_neg n4,if_neg n5,if_neg n14,if_neg n15,if_neg n16,Bool.and_false]
 rw [hr]
 obtain ⟨E,hE⟩:∃ E,zF false false false false true false N=E:=⟨_,rfl⟩
 rw [hE] at SE
 clear hE hr O h n3 n4 n5 n14 n15 n16
 cases e0:E with
 | false =>
  rw [e0] at SE
  go_enter Tryz.func77,Tryz.ntmps77
  go_wp2_with (first |(go_at_call 100;((with_reducible refine SE.mono ?_);rintro e w3 ⟨rfl,b3⟩;have B3:=Below.then BN b3;have hP3:=hP.below b3;(obtain ⟨s0,s1,s2,s3,s4,s5,s6,s7,s8,s9,s10,s11,s12,s13,s14⟩:=hP3.fip))) | fail)
  go_ret
  exact ⟨rfl,B3⟩
 | true =>
  rw [e0] at SE
  go_enter Tryz.func77,Tryz.ntmps77
  go_wp2_with (first |(go_at_call 100;((with_reducible refine SE.mono ?_);rintro e w3 ⟨rfl,b3⟩;have B3:=Below.then BN b3;have hP3:=hP.below b3;(obtain ⟨s0,s1,s2,s3,s4,s5,s6,s7,s8,s9,s10,s11,s12,s13,s14⟩:=hP3.fip))) | fail)
  go_ret
  exact ⟨rfl,B3⟩
theorem innerK3 (cs:List Value) (N:Nd) (w:World) (h:NdV w cs N) (hk:N.k=3):Calls Tryz.prog 77 #[.agg cs.toArray] w fun e w'=>e=.returned (.bool (zO N))/\Below w.heap.size w w':=by
 have hN:=h
 obtain ⟨v0,v1,v2,v3,ka,kc,ba,bc,kb,ko,bb,bo,O⟩:=h.open
 have he:=O.eq
 subst he
 have hP:=NPar.new w [.int .i64 N.k,.int .i64 N.a,.int .i64 N.c,.string N.t,.int .i64 N.p,.int .i64 N.o,v0,v1,v2,v3,.slice ka N.ks.length kc,.slice ba N.bd.length bc,.int .i64 N.d,.int .i64 N.s,.int .i64 N.z] 40
 have BN:=below_new w (.cells [.int .i64 N.k,.int .i64 N.a,.int .i64 N.c,.string N.t,.int .i64 N.p,.int .i64 N.o,v0,v1,v2,v3,.slice ka N.ks.length kc,.slice ba N.bd.length bc,.int .i64 N.d,.int .i64 N.s,.int .i64 N.z].toArray 40)
 obtain ⟨p0,p1,p2,p3,p4,p5,p6,p7,p8,p9,p10,p11,p12,p13,p14⟩:=hP.fip
 have hk1:N.ks.length<=9223372036854775807:=by have:=O.kl;omega
 have hk2:N.bd.length<=9223372036854775807:=by have:=O.bl;omega
 have SE:=xf [.int .i64 N.k,.int .i64 N.a,.int .i64 N.c,.string N.t,.int .i64 N.p,.int .i64 N.o,v0,v1,v2,v3,.slice ka N.ks.length kc,.slice ba N.bd.length bc,.int .i64 N.d,.int .i64 N.s,.int .i64 N.z] N _ (hN.below BN)
 have k3:(N.k==3)=true:=by rw [hk];rfl
 have k4:(N.k==4)=false:=by rw [hk];rfl
 have k5:(N.k==5)=false:=by rw [hk];rfl
 have k14:(N.k==14)=false:=by rw [hk];rfl
 have k15:(N.k==15)=false:=by rw [hk];rfl
 have k16:(N.k==16)=false:=by rw [hk];rfl
 obtain ⟨r,hr⟩:∃ r,zO N=r:=⟨_,rfl⟩
 rw [hr]
 rw [zO,if_pos (by simp [hk])] at hr
 obtain ⟨E,hE⟩:∃ E,zF false false false false true false N=E:=⟨_,rfl⟩
 rw [hE] at SE hr
 clear hE
 clear h hk
 cases e0:E with
 | false =>
  rw [e0] at SE
  obtain rfl:r=false:=by rw [<- hr,e0];simp
  clear hr
  go_enter Tryz.func77,Tryz.ntmps77
  go_wp2_with (first |(go_at_call 100;((with_reducible refine SE.mono ?_);rintro e w3 ⟨rfl,b3⟩;have B3:=Below.then BN b3;have hP3:=hP.below b3;(obtain ⟨s0,s1,s2,s3,s4,s5,s6,s7,s8,s9,s10,s11,s12,s13,s14⟩:=hP3.fip))) | fail)
  go_ret
  exact ⟨rfl,B3⟩
 | true =>
  rw [e0] at SE
  have HR:Hid ((allC N.ks&&N.c==1&&decide (2<=N.ks.length)&&decide (N.ks.length<=1000))=r):=by unfold Hid;rw [<- hr,e0];simp
  clear hr e0
  go_enter Tryz.func77,Tryz.ntmps77
  go_wp2_with (first |(go_at_call 100;((with_reducible refine SE.mono ?_);rintro e w3 ⟨rfl,b3⟩;have B3:=Below.then BN b3;have hP3:=hP.below b3;(obtain ⟨s0,s1,s2,s3,s4,s5,s6,s7,s8,s9,s10,s11,s12,s13,s14⟩:=hP3.fip))) | fail)
  clear s0 s1 s2 s3 s4 s5 s6 s7 s8 s9 s10 s11 s12 s13 s14 p0 p1 p2 p3 p4 p5 p6 p7 p8 p9 p10 p11 p12 p13 p14 SE
  go_loopw [3] (fun i wr=>∃ j:Nat,j<=N.ks.length/\i=.int .i64 j/\NPar wr w.heap.size [.int .i64 N.k,.int .i64 N.a,.int .i64 N.c,.string N.t,.int .i64 N.p,.int .i64 N.o,v0,v1,v2,v3,.slice ka N.ks.length kc,.slice ba N.bd.length bc,.int .i64 N.d,.int .i64 N.s,.int .i64 N.z]/\Below w.heap.size w wr/\∀ i (h1:i<N.ks.length),i<j->(N.ks[i].c==1)=true) (fun i _=>N.ks.length - (intOf i).toNat)
  case atStart=>exact ⟨0,Nat.zero_le _,rfl,hP3,B3,fun j _ hj=>absurd hj (Nat.not_lt_zero _)⟩
  case round =>
   obtain ⟨j,hj,rfl,hP,hb,he⟩:=hrel
   have HE:Hid (∀ i (h1:i<N.ks.length),i<j->(N.ks[i].c==1)=true):=he
   clear he hP3 B3 b3
   obtain ⟨p0,p1,p2,p3,p4,p5,p6,p7,p8,p9,p10,p11,p12,p13,p14⟩:=hP.fip
   by_cases hlt:j<N.ks.length
   ·have hi:=zR (ic:=kc) rfl O.ka hlt
    obtain ⟨cs,hc,hN⟩:=(NdsAt.below hb O.kat).at hlt
    obtain ⟨w0,w1,w2,w3,la,lc,ma,mc,lb,lo,mb,mo,P⟩:=hN.open
    have m2:=hc.cell 2 (v:=.int .i64 N.ks[j].c) (by rw [P.eq];rfl)
    cases c1:(N.ks[j].c==1) with
    | true =>
     have HC:Hid ((N.ks[j].c==1)=true):=c1
     have c1':(N.ks[j].c != 1)=false:=by rw [bne,c1];rfl
     clear c1
     go_wp2_with fail
     go_roundw
     case rel=>exact ⟨j+1,by omega,by go_num,hP,hb,fun i h1 hi=>by
      by_cases e:i=j
      ·subst e;exact HC.out
      ·exact HE.out i h1 (by omega)⟩
     case measure=>simp [intOf];omega
    | false =>
     have c1':(N.ks[j].c != 1)=true:=by rw [bne,c1];rfl
     have HF:Hid (r=false):=by unfold Hid;rw [<- HR.out,allC_no hlt c1];rfl
     clear c1 HR
     go_wp2_with fail
     go_ret
     exact ⟨ret_bool HF.out.symm,hb⟩
   ·obtain rfl:j=N.ks.length:=by omega
    have HA:allC N.ks=true:=allC_yes (fun i hi=>HE.out i hi hi)
    have HR2:Hid ((N.c==1&&decide (2<=N.ks.length)&&decide (N.ks.length<=1000))=r):=by unfold Hid;rw [<- HR.out,HA];rfl
    clear HR HA HE hN
    cases c1:(N.c==1) with
    | false =>
     have HF:Hid (r=false):=by unfold Hid;rw [<- HR2.out,c1];simp
     clear HR2
     go_wp2_with fail
     go_ret
     exact ⟨ret_bool HF.out.symm,hb⟩
    | true =>
     by_cases c2:2<=N.ks.length
     ·have c2':(2:Int)<=(N.ks.length:Int):=by omega
      have d2:=decide_eq_true c2
      by_cases c3:N.ks.length<=1000
      ·have c3':(N.ks.length:Int)<=1000:=by omega
       have d3:=decide_eq_true c3
       have HF:Hid (r=true):=by unfold Hid;rw [<- HR2.out,c1,d2,d3];simp
       clear HR2
       go_wp2_with fail
       go_ret
       exact ⟨ret_bool HF.out.symm,hb⟩
      ·have c3':¬ ((N.ks.length:Int)<=1000):=by omega
       have d3:=decide_eq_false c3
       have HF:Hid (r=false):=by unfold Hid;rw [<- HR2.out,c1,d2,d3];simp
       clear HR2
       go_wp2_with fail
       go_ret
       exact ⟨ret_bool HF.out.symm,hb⟩
     ·have c2':¬ ((2:Int)<=(N.ks.length:Int)):=by omega
      have d2:=decide_eq_false c2
      have HF:Hid (r=false):=by unfold Hid;rw [<- HR2.out,c1,d2];simp
      clear HR2
      go_wp2_with fail
      go_ret
      exact ⟨ret_bool HF.out.symm,hb⟩
end Go.Proofs.YtmfhdcpajgjgpaaGreatDoor.Syn
