/-
  Layer 13: the law PrinterTokens, walked.
-/
import Derived.Test.YtalkinnbfglkdaaGreatDoorPt46
import Derived.Test.YtalkinnbfglkdaaGreatDoorPt47
import Derived.Test.YtalkinnbfglkdaaGreatDoorPt27
set_option maxHeartbeats 16000000
namespace Go.Proofs.YtalkinnbfglkdaaGreatDoor.Syn
open Go.RowKit Go.Shelf Go.Maps Go.Proofs.YtalkinnbfglkdaaGreatDoor.Shape
set_option linter.unusedVariables false
set_option linter.unusedSimpArgs false
set_option maxRecDepth 100000
def Tb14 (w:World):Prop:=Tb13 w/\Tok.Tabs w/\6<w.heap.size
theorem Tb14.below {w w':World}(h:Tb14 w) (hb:Below w.heap.size w w'):Tb14 w':=⟨h.1.below hb,Tok.Tabs.below h.2.1 hb,Nat.lt_of_lt_of_le h.2.2 hb.size⟩
theorem new5c (w:World) (c0 c1 c2 c3 c4:Value) (T:TypeId):(w.alloc (.cells #[c0,c1,c2,c3,c4] T)).cell? ⟨w.heap.size,0,none⟩=some c0:=by
 rw [World.cell?_alloc_new];rfl
theorem tokensQ (ba:Option Addr) (bc bb bo:Nat) (l:List St) (w:World) (hl:l.length<=bc/\bc<=9223372036854775807) (ha:l≠[]->ba=some ⟨bb,bo,none⟩) (hat:StsAt w bb bo l) (hT:Tb14 w) (hR:RcB l) :
  Calls Tryz.prog 3 #[.agg #[.slice ba l.length bc]] w fun e w'=>e=.returned (.bool true)/\Below w.heap.size w w':=by
 have BN:=below_new w (.cells #[.slice ba l.length bc] 24)
 have hp0:(w.alloc (.cells #[.slice ba l.length bc] 24)).cell? ⟨w.heap.size,0,none⟩=some (.slice ba l.length bc):=by rw [World.cell?_alloc_new];rfl
 have hl':l.length<=9223372036854775807:=by omega
 have SM:=smallL ba bc bb bo l _ hl' ha (StsAt.below BN hat) hR
 have LV:=fun w' (g:Below w.heap.size w w')=>livesT w' (hT.below g).1
 by_cases hs:l.length+totB l<2000
 ·have hsz:sizB l<=2000000:=by have:=sizB_tot l;omega
  have P1:=fun w' (g:Below w.heap.size w w')=>printW ba bc bb bo l w' hl ha (StsAt.below g hat) (hT.below g).1.1 (hT.below g).1.2.1 (hT.below g).1.2.2 hsz
  have P3:=fun w' (g:Below w.heap.size w w')=>compactW ba bc bb bo l w' hl ha (StsAt.below g hat) (hT.below g).1.1 (hT.below g).1.2.1 (hT.below g).1.2.2 hsz
  have hlL:(if rightBE l=0 then longT l else []).length<=200000000001:=by
   rw [<- bare_long]
   have:=bare_len l
   split
   ·exact Nat.zero_le _
   ·rw [List.length_append];simp;omega
  have hlS:=short_len l
  obtain ⟨R,hR⟩:∃ R:ByteArray,(⟨(if rightBE l=0 then longT l else []).toArray⟩:ByteArray)=R:=⟨_,rfl⟩
  obtain ⟨S,hS⟩:∃ S:ByteArray,(⟨(if rightBE l=0 then shortT l else []).toArray⟩:ByteArray)=S:=⟨_,rfl⟩
  have K:=kin_law l (R:=R) (S:=S) (by rw [<- hR]) (by rw [<- hS])
  have sR:R.size<=1099511627776:=by
   have:R.size =(if rightBE l=0 then longT l else []).length:=by rw [<- hR];rfl
   omega
  have sS:S.size<=1099511627776:=by
   have:S.size =(if rightBE l=0 then shortT l else []).length:=by rw [<- hS];rfl
   omega
  simp only [hR,hS] at P1 P3
  have C1:=fun w' (g:Below w.heap.size w w')=>Tok.scanAny R sR w' (hT.below g).2.2 (hT.below g).2.1
  have C2:=fun w' (g:Below w.heap.size w w')=>Tok.scanAny S sS w' (hT.below g).2.2 (hT.below g).2.1
  unfold Kin at K
  obtain ⟨e1,he1⟩:∃ x,Tok.scE R=x:=⟨_,rfl⟩
  obtain ⟨e2,he2⟩:∃ x,Tok.scE S=x:=⟨_,rfl⟩
  obtain ⟨a1,ha1⟩:∃ x,Tok.scA R=x:=⟨_,rfl⟩
  obtain ⟨a2,ha2⟩:∃ x,Tok.scA S=x:=⟨_,rfl⟩
  obtain ⟨L1,hL1⟩:∃ x,Tok.scL R=x:=⟨_,rfl⟩
  obtain ⟨L2,hL2⟩:∃ x,Tok.scL S=x:=⟨_,rfl⟩
  simp only [he1,he2,ha1,ha2,hL1,hL2] at K C1 C2
  obtain ⟨N1,hN1⟩:∃ n,Hid (L1.length=n):=⟨_,rfl⟩
  obtain ⟨N2,hN2⟩:∃ n,Hid (L2.length=n):=⟨_,rfl⟩
  rw [hN1.out] at C1
  rw [hN2.out] at C2
  have hd:decide (l.length+totB l<2000)=true:=by simpa using hs
  rw [hd] at SM
  have K':Hid _:=K
  clear hs hd hR hS hlL hlS hat hT ha hl hsz he1 he2 ha1 ha2 hL1 hL2 sR sS K
  go_enter Tryz.func3,Tryz.ntmps3
  go_upto_region 5 with (first
   |(go_at_call 4;((with_reducible refine Calls.mono SM ?_);rintro e w1 ⟨rfl,b1⟩;(have c1:=(b1.cell (cell_lt hp0)).trans hp0);(have B1:=Below.then BN b1)))
   |(go_at_call 7;((with_reducible refine Calls.mono (P1 _ B1) ?_);rintro e w2 ⟨rfl,b2⟩;(have c2:=(b2.cell (cell_lt c1)).trans c1);(have B2:=Below.then B1 b2)))
   |(go_at_call 6;((with_reducible refine Calls.mono (C1 _ B2) ?_);rintro e w3 ⟨p1,n1,rfl,q1,b3⟩;(have d3:=Below.then b3 (below_new w3 (.cells #[.int .i64 e1,.int .i64 a1,.slice none 0 0,.slice none 0 0,.string ⟨#[]⟩] 31)));(have c3:=(d3.cell (cell_lt c2)).trans c2);(have B3:=Below.then B2 d3);(have k0:=new5c w3 (.int .i64 e1) (.int .i64 a1) (.slice none 0 0) (.slice none 0 0) (.string ⟨#[]⟩) 31);(have Q1:=Tok.ToksAt.below q1 (below_new w3 (.cells #[.int .i64 e1,.int .i64 a1,.slice none 0 0,.slice none 0 0,.string ⟨#[]⟩] 31)))))
   |(go_at_call 8;((with_reducible refine Calls.mono (P3 _ B3) ?_);rintro e w4 ⟨rfl,b4⟩;(have B4:=Below.then B3 b4)))
   |(go_at_call 6;((with_reducible refine Calls.mono (C2 _ B4) ?_);rintro e w5 ⟨p2,n2,rfl,q2,b5⟩;(have d5:=Below.then b5 (below_new w5 (.cells #[.int .i64 e2,.int .i64 a2,.slice none 0 0,.slice none 0 0,.string ⟨#[]⟩] 31)));(have B5:=Below.then B4 d5);(have D5:=Below.then b4 d5);(have j0:=(D5.cell (cell_lt k0)).trans k0);(have m0:=new5c w5 (.int .i64 e2) (.int .i64 a2) (.slice none 0 0) (.slice none 0 0) (.string ⟨#[]⟩) 31);(have R1:=Tok.ToksAt.below Q1 D5);(have R2:=Tok.ToksAt.below q2 (below_new w5 (.cells #[.int .i64 e2,.int .i64 a2,.slice none 0 0,.slice none 0 0,.string ⟨#[]⟩] 31))))))
  rcases K'.out with K |⟨z1,z2,K⟩
  ·clear K'
   by_cases x1:e1=21
   ·subst x1
    go_wp2_with (go_at_call 5;((with_reducible refine Calls.mono (LV _ B5) ?_);rintro e w6 ⟨rfl,b6⟩))
    go_ret
    exact ⟨rfl,Below.then B5 b6⟩
   have y1:(e1==21)=false:=by simpa using x1
   by_cases x2:e2=21
   ·subst x2
    go_wp2_with (go_at_call 5;((with_reducible refine Calls.mono (LV _ B5) ?_);rintro e w6 ⟨rfl,b6⟩))
    go_ret
    exact ⟨rfl,Below.then B5 b6⟩
   have y2:(e2==21)=false:=by simpa using x2
   by_cases x3:e1=2
   ·subst x3
    go_wp2_with (go_at_call 5;((with_reducible refine Calls.mono (LV _ B5) ?_);rintro e w6 ⟨rfl,b6⟩))
    go_ret
    exact ⟨rfl,Below.then B5 b6⟩
   have y3:(e1==2)=false:=by simpa using x3
   by_cases x4:e2=2
   ·subst x4
    go_wp2_with (go_at_call 5;((with_reducible refine Calls.mono (LV _ B5) ?_);rintro e w6 ⟨rfl,b6⟩))
    go_ret
    exact ⟨rfl,Below.then B5 b6⟩
   exact absurd K (by simp [x1,x2,x3,x4])
  ·subst z1;subst z2
   clear K'
   rcases K with ⟨rfl,rfl⟩ |⟨a,x,rfl,hx,ha,hk⟩
   ·obtain rfl:N1=0:=hN1.out.symm
    obtain rfl:N2=0:=hN2.out.symm
    go_wp2_with fail
    go_loopw [7] (fun i wr=>i=.int .i64 0/\Below w.heap.size w wr) (fun _ _=>0)
    case atStart=>exact ⟨rfl,B5⟩
    case round =>
     obtain ⟨rfl,hb⟩:=hrel
     go_wp2_with (go_at_call 5;((with_reducible refine Calls.mono (LV _ hb) ?_);rintro e w6 ⟨rfl,b6⟩))
     go_ret
     exact ⟨rfl,Below.then hb b6⟩
   ·obtain ⟨n,hn⟩:∃ n,Hid (a.length=n):=⟨_,rfl⟩
    obtain rfl:N1=n+1:=by rw [<- hN1.out,<- hn.out,List.length_append];rfl
    obtain rfl:n=N2:=by
     have:=congrArg List.length hk
     rw [List.length_map,List.length_map,hn.out,hN2.out] at this
     exact this
    rw [hn.out] at ha
    obtain ⟨u1,m1,o1,v1,t1⟩:=R1
    obtain ⟨u2,m2,o2,v2,t2⟩:=R2
    obtain rfl:p1=some ⟨m1,o1,none⟩:=v1 (by simp)
    have l1:(a++[x]).length=n+1:=hN1.out
    rw [l1] at u1
    rw [hN2.out] at u2
    have ex:(a++[x])[n]'(by omega)=x:=by
     rw [List.getElem_append_right (by rw [hn.out];exact Nat.le_refl _)]
     simp [hn.out]
    obtain ⟨x0,-⟩:=t1 n (by omega)
    rw [ex,hx] at x0
    have hix:=fun w'=>Tok.elem_tok w' m1 o1 (n+1) n1 n (by omega)
    have hsub:IntKind.i64.wrap (((n+1:Nat):Int) - 1) =(n:Int):=by rw [IntWalk.i64_left];rw [show ((n+1:Nat):Int) - 1 =(n:Int) by omega];exact IntWalk.wrap64_in _ (by omega)
    go_wp2_with fail
    have hk1:∀ j (h1:j <(a++[x]).length) (h2:j<L2.length),j<n->Tok.key (a++[x])[j]=Tok.key L2[j]:=fun j h1 h2 hj=>by
     have e1:(a.map Tok.key)[j]'(by rw [List.length_map,hn.out];exact hj) =(L2.map Tok.key)[j]'(by rw [List.length_map];exact h2):=by simp only [hk]
     rw [List.getElem_map,List.getElem_map] at e1
     rw [List.getElem_append_left (by rw [hn.out];exact hj)]
     exact e1
    clear hk
    go_loopw [7] (fun i wr=>∃ j:Nat,j<=n/\i=.int .i64 (j:Int)/\Below (w5.alloc (.cells #[.int .i64 0,.int .i64 a2,.slice none 0 0,.slice none 0 0,.string ⟨#[]⟩] 31)).heap.size (w5.alloc (.cells #[.int .i64 0,.int .i64 a2,.slice none 0 0,.slice none 0 0,.string ⟨#[]⟩] 31)) wr) (fun i _=>n - (intOf i).toNat)
    case atStart=>exact ⟨0,Nat.zero_le _,rfl,Below.refl _ _⟩
    case round =>
     obtain ⟨j,hj,rfl,hb⟩:=hrel
     by_cases hlt:j<n
     ·have hlt':(j:Int) <(n:Int):=by omega
      have hj1:j <(a++[x]).length:=by omega
      have hj2:j<L2.length:=by rw [hN2.out];exact hlt
      obtain rfl:p2=some ⟨m2,o2,none⟩:=v2 (fun e=>by rw [e] at hj2;exact absurd hj2 (Nat.not_lt_zero _))
      have he:=hk1 j hj1 hj2 hlt
      obtain ⟨s0,-,-,s3,s4⟩:=t1.below hb j hj1
      obtain ⟨r0,-,-,r3,r4⟩:=t2.below hb j hj2
      have hx1:=fun w'=>Tok.elem_tok w' m1 o1 n n1 j hlt
      have hx2:=fun w'=>Tok.elem_tok w' m2 o2 n n2 j hlt
      generalize (a++[x])[j]=X at *
      generalize L2[j]=Y at *
      obtain ⟨k,p,z,nn,t⟩:=X
      obtain ⟨k',p',z',nn',t'⟩:=Y
      simp only [Tok.key,Prod.mk.injEq] at he
      obtain ⟨rfl,rfl,rfl⟩:=he
      simp only [] at s0 s3 s4 r0 r3 r4
      have qt:(t.toList==t.toList)=true:=str_yes rfl
      clear hk1
      go_wp2
      go_region
      all_goals go_wp2
      all_goals go_roundw
      case rel=>exact ⟨j+1,by omega,by go_num,hb.drew⟩
      case measure=>simp [intOf];omega
     ·obtain rfl:j=n:=by omega
      have hlt':¬ ((j:Int) <(j:Int)):=by omega
      have B6:=Below.then B5 hb
      go_wp2_with (go_at_call 5;((with_reducible refine Calls.mono (LV _ B6) ?_);rintro e w6 ⟨rfl,b6⟩))
      go_ret
      exact ⟨rfl,Below.then B6 b6⟩
 ·have hd:decide (l.length+totB l<2000)=false:=by simpa using hs
  rw [hd] at SM
  clear hs hd hat hT ha hl
  go_enter Tryz.func3,Tryz.ntmps3
  go_wp2_with (first |(go_at_call 4;((with_reducible refine Calls.mono SM ?_);rintro e w1 ⟨rfl,b1⟩;(have B1:=Below.then BN b1))) |(go_at_call 5;((with_reducible refine Calls.mono (LV _ B1) ?_);rintro e w2 ⟨rfl,b2⟩)))
  go_ret
  exact ⟨rfl,Below.then B1 b2⟩
end Go.Proofs.YtalkinnbfglkdaaGreatDoor.Syn
