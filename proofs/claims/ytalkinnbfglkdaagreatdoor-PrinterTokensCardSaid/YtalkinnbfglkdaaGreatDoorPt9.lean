/-
  Layer 3: the program's Size; shape's Size and Same; slices.Equal. (Written by wip/gen/array-p1.py.)
  Layer 3: the program's isElement, checkShape and checkParts. (Written by wip/gen/array-p2.py.)
  Layer 3: the program's Right: its recursive closure and the call.
  Layer 3: the program's Same: its recursive closure and the call.
-/
import Derived.Test.YtalkinnbfglkdaaGreatDoorPt4
import Derived.WalkMore
import Derived.Laws.EntriesVeiled
import Derived.Laws.Small
import Derived.OwnWalk
set_option maxHeartbeats 2000000
namespace Go.Proofs.YtalkinnbfglkdaaGreatDoor.Shape
open Go.RowKit
theorem sizeQ (v:Value) (A:Arr) (w:World) (h:ArrAt w v A) :
  Calls Tryz.prog 136 #[v] w fun e w'=>e=.returned (.int .i64 (aSize A))/\Below w.heap.size w w':=by
 obtain ⟨k,sh,nu,it⟩:=A
 rw [ArrAt] at h
 obtain ⟨sa,sc,na,nc,ia,ic,rfl,hk,hs,hn,h1,h2,b,off,ha,hc⟩:=h
 clear hk hs hn h1 h2 ha hc
 by_cases k1:k=1
 ·subst k1
  go_enter Tryz.func136,Tryz.ntmps136
  go_wp2
  go_ret
  exact ⟨rfl,below_new _ _⟩
 ·by_cases k2:k=2
  ·subst k2
   go_enter Tryz.func136,Tryz.ntmps136
   go_wp2
   go_ret
   exact ⟨rfl,below_new _ _⟩
  ·by_cases k3:k=3
   ·subst k3
    go_enter Tryz.func136,Tryz.ntmps136
    go_wp2
    go_ret
    exact ⟨rfl,below_new _ _⟩
   ·have e1:(k==1)=false:=by simpa using k1
    have e2:(k==2)=false:=by simpa using k2
    have e3:(k==3)=false:=by simpa using k3
    have es:aSize (.mk k sh nu it)=0:=by simp [aSize,Arr.kind,k1,k2,k3]
    clear k1 k2 k3
    go_enter Tryz.func136,Tryz.ntmps136
    go_wp2
    go_ret
    exact ⟨by first | rfl |(rw [es];rfl),below_new _ _⟩
def sizeS (xs:List Int):Int:=if rightB xs=true then pr xs else -1
def hasZ (xs:List Int):Bool:=xs.any (fun x=>decide (x=0))
theorem hasZ_snoc (a:List Int) (x:Int):hasZ (a++[x]) =(hasZ a || decide (x=0)):=by simp [hasZ]
theorem pr_hasZ {xs:List Int}(h:hasZ xs=true):pr xs=0:=by
 induction xs with
 | nil=>cases h
 | cons x r ih =>
  rw [pr]
  by_cases h0:x=0
  ·rw [h0,Int.zero_mul]
  ·rw [ih (by simpa [hasZ,h0] using h),Int.mul_zero]
theorem pr_noZ {xs:List Int}(h:hasZ xs=false):pr xs=nz xs:=by
 apply pr_eq_nz
 intro x hx e
 rw [hasZ,List.any_eq_false] at h
 exact absurd (by simpa using e) (h x hx)
theorem quo_gt {P d:Int}(h1:1<=P) (_h2:P<=65536):(65536 / P<d) ↔ 65536<P*d:=by
 rw [Int.ediv_lt_iff_lt_mul (by omega),Int.mul_comm d P]
theorem shSizeP (a:Option Addr) (cap:Nat) (xs:List Int) (w:World) (h:IntsAt w a cap xs) :
  Calls Tryz.prog 157 #[.slice a xs.length cap] w fun e w'=>e=.returned (.int .i64 (sizeS xs))/\w=w':=by
 have hl:=h.len
 by_cases h8:8<xs.length
 ·have em:sizeS xs = -1:=by rw [sizeS,right_len h8];rfl
  go_enter Tryz.func157,Tryz.ntmps157
  go_wp2
  go_ret
  first | exact ⟨rfl,rfl⟩ | exact ⟨ret_int em.symm,rfl⟩
 ·go_enter Tryz.func157,Tryz.ntmps157
  go_wp2
  go_loop [3,4,12] (fun p z i=>∃ (k:Nat) (P:Int) (Z:Bool),k<=xs.length/\i=.int .i64 k/\p=.int .i64 P/\z=.bool Z/\P=nz (xs.take k)/\Z=hasZ (xs.take k)/\NN (xs.take k)/\P<=65536) (fun _ _ i=>xs.length - (intOf i).toNat)
  case atStart=>exact ⟨0,1,false,Nat.zero_le _,rfl,rfl,rfl,rfl,rfl,NN.nil,by decide⟩
  case round =>
   obtain ⟨k,P,Z,hk,rfl,rfl,rfl,eP,eZ,hn,hp⟩:=hrel
   have hp1:1<=P:=eP ▸ nz_pos hn
   by_cases hlt:k<xs.length
   ·obtain ⟨b,off,hi,hc⟩:=h.at hlt
    have hs:=nz_step hlt
    have ht:=take_snoc xs k hlt
    by_cases c1:xs[k]<0
    ·have em:sizeS xs = -1:=by rw [sizeS,right_neg hlt c1];rfl
     clear hs ht eP eZ
     go_wp2
     go_ret
     first | exact ⟨rfl,rfl⟩ | exact ⟨ret_int em.symm,rfl⟩
    ·have hn2:NN (xs.take (k+1)):=by rw [ht];exact hn.snoc (by omega)
     have hz2:hasZ (xs.take (k+1)) =(hasZ (xs.take k) || decide (xs[k]=0)):=by rw [ht,hasZ_snoc]
     by_cases c2:xs[k]=0
     ·rw [if_pos c2,Int.mul_one] at hs
      have E1:Hid (P=nz (xs.take (k+1))):=by unfold Hid;rw [hs];exact eP
      have E2:Hid (true=hasZ (xs.take (k+1))):=by unfold Hid;rw [hz2];simp [c2]
      clear hs ht hz2 eP eZ
      go_wp2
      go_round
      case rel=>exact ⟨k+1,P,true,by omega,by go_num,rfl,rfl,E1.out,E2.out,hn2,hp⟩
      case measure=>simp [intOf];omega
     ·rw [if_neg c2,<- eP] at hs
      have q1:=quo_gt (d:=xs[k]) hp1 hp
      have q2:Int.tdiv 65536 P=65536 / P:=Int.tdiv_eq_ediv_of_nonneg (by decide)
      have q3:(65536:Int) / P<=65536:=Int.ediv_le_self P (by decide)
      have q4:(0:Int)<=65536 / P:=Int.ediv_nonneg (by decide) (by omega)
      have E2:Hid (Z=hasZ (xs.take (k+1))):=by unfold Hid;rw [hz2,eZ];simp [c2]
      by_cases c4:65536<P*xs[k]
      ·have em:sizeS xs = -1:=by rw [sizeS,right_big (xs:=xs) (k:=k) (by rw [hs];exact c4)];rfl
       have c5:65536 / P<xs[k]:=q1.2 c4
       clear hs ht hz2 eP eZ E2 q1
       go_wp2
       go_ret
       first | exact ⟨rfl,rfl⟩ | exact ⟨ret_int em.symm,rfl⟩
      ·have c5:¬ 65536 / P<xs[k]:=fun hh=>c4 (q1.1 hh)
       have m0:0<=P*xs[k]:=Int.mul_nonneg (by omega) (by omega)
       have E1:Hid (P*xs[k]=nz (xs.take (k+1))):=hs.symm
       clear hs ht hz2 eP eZ q1
       go_wp2
       go_round
       case rel=>exact ⟨k+1,P*xs[k],Z,by omega,by go_num,by go_num,rfl,E1.out,E2.out,hn2,by omega⟩
       case measure=>simp [intOf];omega
   ·obtain rfl:k=xs.length:=by omega
    rw [List.take_length] at hn eP eZ
    have hr:=right_all (by omega) hn (eP ▸ hp)
    have em:sizeS xs=if Z=true then 0 else P:=by
     rw [sizeS,if_pos hr]
     cases Z with
     | true=>exact pr_hasZ eZ.symm
     | false=>rw [pr_noZ eZ.symm,<- eP];rfl
    clear hr eP eZ
    cases Z with
    | true =>
     have em2:sizeS xs=0:=em
     clear em
     go_wp2
     go_ret
     first | exact ⟨rfl,rfl⟩ | exact ⟨ret_int em2.symm,rfl⟩
    | false =>
     have em2:sizeS xs=P:=em
     clear em
     go_wp2
     go_ret
     first | exact ⟨rfl,rfl⟩ | exact ⟨ret_int em2.symm,rfl⟩
def LonGive (b:Bool) (w:World) (e:Ending) (w':World):Prop:=∃ a n c,e=.returned (.tuple #[.slice a n c,.bool b])/\Below w.heap.size w w'
theorem LonGive.yes {b:Bool}{w w':World}{a:Option Addr}{n c:Nat}(hb:b=true) (hw:Below w.heap.size w w'):LonGive b w (.returned (.tuple #[.slice a n c,.bool true])) w':=⟨a,n,c,by rw [hb],hw⟩
theorem LonGive.no {b:Bool}{w w':World}{a:Option Addr}{n c:Nat}(hb:b=false) (hw:Below w.heap.size w w'):LonGive b w (.returned (.tuple #[.slice a n c,.bool false])) w':=⟨a,n,c,by rw [hb],hw⟩
def preB (xs ys:List Int):Bool:=decide (ys.length<=xs.length/\∀ j (h1:j<xs.length) (h2:j<ys.length),xs[j]=ys[j])
def lonB (xs ys:List Int):Bool:=preB xs ys || preB ys xs
def lonL (xs ys:List Int):List Int:=if preB xs ys=true then xs else if preB ys xs=true then ys else []
theorem pre_no_len {xs ys:List Int}(h:xs.length<ys.length):preB xs ys=false:=by
 simp only [preB,decide_eq_false_iff_not];omega
theorem pre_no_at {xs ys:List Int}{k:Nat}(h1:k<xs.length) (h2:k<ys.length) (h:¬ xs[k]=ys[k]):preB xs ys=false:=by
 simp only [preB,decide_eq_false_iff_not]
 exact fun hh=>h (hh.2 k h1 h2)
theorem pre_yes {xs ys:List Int}(h:ys.length<=xs.length) (h2:∀ j (h1:j<xs.length) (h2:j<ys.length),xs[j]=ys[j]):preB xs ys=true:=by
 simp only [preB,decide_eq_true_eq];exact ⟨h,h2⟩
theorem lon_pair (a:Option Addr) (cap:Nat) (xs:List Int) (a2:Option Addr) (cap2:Nat) (ys:List Int) (w:World) (h:IntsAt w a cap xs) (g:IntsAt w a2 cap2 ys) (j:Nat) (hj:j<2)
  (h1:1<=j->preB xs ys=false) :
  ∃ A1 C1 L1 A2 C2 L2,(∀ w':World,(Instr.index 207 (.agg #[.slice a xs.length cap,.slice a2 ys.length cap2,.slice a2 ys.length cap2,.slice a xs.length cap]) (.int .i64 j)).run Tryz.prog w'=.ok (.agg #[.slice A1 (List.length L1) C1,.slice A2 (List.length L2) C2]) w') /\
   IntsAt w A1 C1 L1/\IntsAt w A2 C2 L2/\(preB L1 L2=true->lonL xs ys=L1/\lonB xs ys=true)/\(preB L1 L2=false->preB xs ys=false/\(2<=j+1->preB ys xs=false)):=by
 match j,hj with
 | 0,_=>exact ⟨a,cap,xs,a2,cap2,ys,fun w'=>by kernel_rfl,h,g,fun e=>⟨by rw [lonL,if_pos e],by rw [lonB,e];rfl⟩,fun e=>⟨e,fun h=>absurd h (by decide)⟩⟩
 | 1,_ =>
  have h0:=h1 (Nat.le_refl _)
  exact ⟨a2,cap2,ys,a,cap,xs,fun w'=>by kernel_rfl,g,h,fun e=>⟨by rw [lonL,h0,e];rfl,by rw [lonB,e];simp⟩,fun e=>⟨h0,fun _=>e⟩⟩
theorem longerP (a:Option Addr) (cap:Nat) (xs:List Int) (a2:Option Addr) (cap2:Nat) (ys:List Int) (w:World) (h:IntsAt w a cap xs) (g:IntsAt w a2 cap2 ys) :
  Calls Tryz.prog 143 #[.slice a xs.length cap,.slice a2 ys.length cap2] w (LonGive (lonB xs ys) w):=by
 have hl:=h.len
 have hl2:=g.len
 go_enter Tryz.func143,Tryz.ntmps143
 go_wp2_with fail
 go_step3
 go_wp2_with fail
 go_step3
 go_wp2_with fail
 go_loopw [19] (fun i wr=>∃ j:Nat,j<=2/\i=.int .i64 j/\Below w.heap.size w wr/\(1<=j->preB xs ys=false)/\(2<=j->preB ys xs=false)) (fun i _=>2 - (intOf i).toNat)
 case atStart=>exact ⟨0,by decide,rfl,Below.refl _ _,fun h=>absurd h (by decide),fun h=>absurd h (by decide)⟩
 case round =>
  obtain ⟨j,hj,rfl,hbel,n1,n2⟩:=hrel
  by_cases hlt:j<2
  ·obtain ⟨A1,C1,L1,A2,C2,L2,hix,g1,g2,hyes,hno⟩:=lon_pair a cap xs a2 cap2 ys w h g j hlt n1
   clear n1 n2
   go_wp2_with fail
   have k0:(wr.alloc (.cells #[.slice A1 L1.length C1,.slice A2 L2.length C2] 206)).cell? ⟨wr.heap.size,0,none⟩=some (.slice A1 L1.length C1):=by rw [World.cell?_alloc_new];rfl
   have k1:(wr.alloc (.cells #[.slice A1 L1.length C1,.slice A2 L2.length C2] 206)).cell? ⟨wr.heap.size,1,none⟩=some (.slice A2 L2.length C2):=by rw [World.cell?_alloc_new];rfl
   have hb1:Below w.heap.size w (wr.alloc (.cells #[.slice A1 L1.length C1,.slice A2 L2.length C2] 206)):=hbel.alloc hbel.size _
   generalize wr.alloc (.cells #[.slice A1 L1.length C1,.slice A2 L2.length C2] 206)=W1 at k0 k1 hb1 ⊢
   clear hix hbel
   go_quiet (fail)
   have hb2:Below w.heap.size w (W1.drewN nq):=hb1.trans ((below_drewN nq).mono hb1.size)
   by_cases hll:L1.length<L2.length
   ·obtain ⟨f1,f2⟩:=hno (pre_no_len hll)
    clear hyes hno
    go_wp2_with fail
    go_roundw
    case rel=>exact ⟨j+1,by omega,by go_num,hb2,fun _=>f1,f2⟩
    case measure=>simp [intOf];omega
   ·have hl1:=g1.len
    have hl3:=g2.len
    have HY:Hid (preB L1 L2=true->lonL xs ys=L1/\lonB xs ys=true):=hyes
    have HN:Hid (preB L1 L2=false->preB xs ys=false/\(2<=j+1->preB ys xs=false)):=hno
    clear hyes hno k0 k1
    go_wp2_with fail
    go_loop [33] (fun i=>∃ k:Nat,k<=L2.length/\i=.int .i64 k/\∀ m (h1:m<L1.length) (h2:m<L2.length),m<k->L1[m]=L2[m]) (fun i=>L2.length - (intOf i).toNat)
    case atStart=>exact ⟨0,Nat.zero_le _,rfl,fun m _ _ hm=>absurd hm (Nat.not_lt_zero _)⟩
    case round =>
     obtain ⟨k,hk,rfl,he⟩:=hrel
     have HE:Hid (∀ m (h1:m<L1.length) (h2:m<L2.length),m<k->L1[m]=L2[m]):=he
     clear he
     by_cases hlk:k<L2.length
     ·have hlk1:k<L1.length:=by omega
      obtain ⟨b,off,hi,hc⟩:=(g1.below hb2).at hlk1
      obtain ⟨b2,off2,hi2,hc2⟩:=(g2.below hb2).at hlk
      by_cases c1:L1[k]=L2[k]
      ·have c1':(L1[k] != L2[k])=false:=by simpa using c1
       have HC:Hid (L1[k]=L2[k]):=c1
       clear c1
       go_wp2_with fail
       go_round
       case rel=>exact ⟨k+1,by omega,by go_num,fun m h1 h2 hm=>by
        by_cases e:m=k
        ·subst e;exact HC.out
        ·exact HE.out m h1 h2 (by omega)⟩
       case measure=>simp [intOf];omega
      ·obtain ⟨f1,f2⟩:=HN.out (pre_no_at hlk1 hlk c1)
       have c1':(L1[k] != L2[k])=true:=by simpa using c1
       clear c1
       go_wp2_with fail
       refine ⟨⟨j+1,by omega,by go_num,hb2,fun _=>f1,f2⟩,?_⟩
       simp [intOf];omega
     ·have hp:=HY.out (pre_yes (by omega) (fun m h1 h2=>HE.out m h1 h2 (by omega)))
      go_wp2_with fail
      go_ret2
      exact LonGive.yes (by first | rfl | exact hp.2) hb2
  ·have f1:=n1 (by omega)
   have f2:=n2 (by omega)
   clear n1 n2
   go_wp2_with fail
   rw [Exit.noGoto_ret]
   go_ret2
   exact LonGive.no (by rw [lonB,f1,f2];rfl) hbel
theorem lon_same {xs ys:List Int}(h:xs.length=ys.length):lonB xs ys=sameB xs ys:=by
 by_cases e:xs=ys
 ·subst e
  rw [lonB,pre_yes (Nat.le_refl _) (fun _ _ _=>rfl)];simp [sameB]
 ·have key:∀ {us vs:List Int},us.length=vs.length->¬ us=vs->preB us vs=false:=by
   intro us vs hl hn
   simp only [preB,decide_eq_false_iff_not]
   exact fun hh=>hn (List.ext_getElem hl (fun i h1 h2=>hh.2 i h1 h2))
  rw [lonB,key h e,key h.symm (fun h=>e h.symm)];simp [sameB,e]
theorem shSameP (a:Option Addr) (cap:Nat) (xs:List Int) (a2:Option Addr) (cap2:Nat) (ys:List Int) (w:World) (h:IntsAt w a cap xs) (g:IntsAt w a2 cap2 ys) :
  Calls Tryz.prog 128 #[.slice a xs.length cap,.slice a2 ys.length cap2] w fun e w'=>e=.returned (.bool (sameB xs ys))/\Below w.heap.size w w':=by
 have hl:=h.len
 have hl2:=g.len
 by_cases hn:xs.length=ys.length
 ·have hn':((xs.length:Int) !=(ys.length:Int))=false:=by rw [hn];simp
  have HC:=longerP a cap xs a2 cap2 ys w h g
  rw [lon_same hn] at HC
  clear hn
  go_enter Tryz.func128,Tryz.ntmps128
  go_wp2_with (go_at_call 143;refine HC.mono ?_;rintro e w' ⟨a',n',c',rfl,hb⟩)
  go_ret
  exact ⟨rfl,hb⟩
 ·have em:=same_len hn
  have hn':((xs.length:Int) !=(ys.length:Int))=true:=by simp;omega
  clear hn
  go_enter Tryz.func128,Tryz.ntmps128
  go_wp2
  go_ret
  first | exact ⟨rfl,Below.refl _ _⟩ | exact ⟨ret_bool em.symm,Below.refl _ _⟩
/-! ### append([]int{},xs...) -/
theorem equalP (a:Option Addr) (cap:Nat) (xs:List Int) (a2:Option Addr) (cap2:Nat) (ys:List Int) (w:World) (h:IntsAt w a cap xs) (g:IntsAt w a2 cap2 ys) :
  Calls Tryz.prog 129 #[.slice a xs.length cap,.slice a2 ys.length cap2] w fun e w'=>e=.returned (.bool (sameB xs ys))/\Below w.heap.size w w':=by
 have hl:=h.len
 have hl2:=g.len
 by_cases hn:xs.length=ys.length
 ·have hn':((xs.length:Int) !=(ys.length:Int))=false:=by rw [hn];simp
  go_enter Tryz.func129,Tryz.ntmps129
  go_wp2
  clear hn'
  go_loopw [13] (fun i wr=>∃ k n:Nat,k<=xs.length/\i=.int .i64 k/\wr=w.drewN n/\∀ j (h1:j<xs.length) (h2:j<ys.length),j<k->xs[j]=ys[j]) (fun i _=>xs.length - (intOf i).toNat)
  case atStart=>exact ⟨0,0,Nat.zero_le _,rfl,rfl,fun j _ _ hj=>absurd hj (Nat.not_lt_zero _)⟩
  case round =>
   obtain ⟨k,n,hk,rfl,rfl,he⟩:=hrel
   have HE:Hid (∀ j (h1:j<xs.length) (h2:j<ys.length),j<k->xs[j]=ys[j]):=he
   clear he
   by_cases hlt:k<xs.length
   ·have hlt2:k<ys.length:=by omega
    obtain ⟨b,off,hi,hc⟩:=h.at hlt
    obtain ⟨b2,off2,hi2,hc2⟩:=g.at hlt2
    by_cases c1:xs[k]=ys[k]
    ·have c1':(xs[k] != ys[k])=false:=by simpa using c1
     have HC:Hid (xs[k]=ys[k]):=c1
     clear c1 hn
     go_wp2_with fail
     go_quiet (fail)
     go_wp2_with fail
     go_roundw
     case rel=>exact ⟨k+1,n+nq,by omega,by go_num,rfl,fun j h1 h2 hj=>by
      by_cases e:j=k
      ·subst e;exact HC.out
      ·exact HE.out j h1 h2 (by omega)⟩
     case measure=>simp [intOf];omega
    ·have em:=same_at hlt hlt2 c1
     have c1':(xs[k] != ys[k])=true:=by simpa using c1
     clear c1 hn
     go_wp2_with fail
     go_quiet (fail)
     go_wp2_with fail
     go_ret
     exact ⟨by first | rfl | exact ret_bool em.symm,Below.then (below_drewN _) (below_drewN _)⟩
   ·obtain rfl:k=xs.length:=by omega
    have em:=same_all hn (fun i h1 h2=>HE.out i h1 h2 h1)
    have hge:¬ xs.length<ys.length:=by omega
    clear hn
    go_wp2_with fail
    go_ret
    first | exact ⟨rfl,below_drewN _⟩ | exact ⟨ret_bool em.symm,below_drewN _⟩
 ·have em:=same_len hn
  have hn':((xs.length:Int) !=(ys.length:Int))=true:=by simp;omega
  clear hn
  go_enter Tryz.func129,Tryz.ntmps129
  go_wp2
  go_ret
  first | exact ⟨rfl,Below.refl _ _⟩ | exact ⟨ret_bool em.symm,Below.refl _ _⟩
def isEl (k n:Int):Bool:=if k=2 then runeB n else numB n
theorem isEl_rune {n:Int}:isEl 2 n=runeB n:=by rw [isEl,if_pos rfl]
theorem isEl_num {k n:Int}(h:¬ k=2):isEl k n=numB n:=by rw [isEl,if_neg h]
theorem isElQ (k n:Int) (w:World):Calls Tryz.prog 147 #[.int .i64 k,.int .i64 n] w fun e w'=>e=.returned (.bool (isEl k n))/\w=w':=by
 by_cases hk:k=2
 ·subst hk
  rw [isEl_rune]
  by_cases h0:0<=n
  ·by_cases h1:n<=1114111
   ·by_cases h2:n<55296
    ·go_enter Tryz.func147,Tryz.ntmps147
     go_wp2
     go_ret
     exact ⟨ret_bool (by simp [runeB];omega),rfl⟩
    ·by_cases h3:57343<n
     ·go_enter Tryz.func147,Tryz.ntmps147
      go_wp2
      go_ret
      exact ⟨ret_bool (by simp [runeB];omega),rfl⟩
     ·go_enter Tryz.func147,Tryz.ntmps147
      go_wp2
      go_ret
      exact ⟨ret_bool (by simp [runeB];omega),rfl⟩
   ·go_enter Tryz.func147,Tryz.ntmps147
    go_wp2
    go_ret
    exact ⟨ret_bool (by simp [runeB];omega),rfl⟩
  ·go_enter Tryz.func147,Tryz.ntmps147
   go_wp2
   go_ret
   exact ⟨ret_bool (by simp [runeB];omega),rfl⟩
 ·rw [isEl_num hk]
  have hk':(k==2)=false:=by simpa using hk
  rcases Int.lt_or_le n (-4611686018427387903) with h | h
  ·go_enter Tryz.func147,Tryz.ntmps147
   go_wp2
   go_ret
   exact ⟨ret_bool (by simp [numB];omega),rfl⟩
  ·rcases Int.lt_or_le 4611686018427387903 n with h2 | h2
   ·go_enter Tryz.func147,Tryz.ntmps147
    go_wp2
    go_ret
    exact ⟨ret_bool (by simp [numB];omega),rfl⟩
   ·go_enter Tryz.func147,Tryz.ntmps147
    go_wp2
    go_ret
    exact ⟨ret_bool (by simp [numB];omega),rfl⟩
def shN (xs:List Int):Int:=if dimsE xs=0 then pr xs else 0
theorem shN_bad {xs:List Int}(h:dimsE xs≠0):shN xs=0:=by rw [shN,if_neg h]
theorem shN_ok {xs:List Int}(h:dimsE xs=0):shN xs=pr xs:=by rw [shN,if_pos h]
theorem sizeS_ok {xs:List Int}(h:dimsE xs=0):sizeS xs=pr xs:=by rw [sizeS,if_pos ((dimsE_right xs).1 h)]
theorem sizeS_bad {xs:List Int}(h:dimsE xs≠0):sizeS xs = -1:=by rw [sizeS,if_neg (fun g=>h ((dimsE_right xs).2 g))]
theorem pr_le {xs:List Int}(h:NN xs):pr xs<=nz xs:=by
 induction xs with
 | nil=>exact Int.le_refl _
 | cons x r ih =>
  rw [pr,nz]
  have h1:=h.head
  have h2:=nz_pos h.tail
  by_cases c:x=0
  ·rw [if_pos c,c,Int.zero_mul];omega
  ·rw [if_neg c];exact Int.mul_le_mul_of_nonneg_left (ih h.tail) h1
theorem dims_small {xs:List Int}(h:dimsE xs=0):0<=pr xs/\pr xs<=65536:=by
 have hr:=right_def.1 ((dimsE_right xs).1 h)
 exact ⟨pr_nn hr.2.1,Int.le_trans (pr_le hr.2.1) hr.2.2⟩
theorem ret_two {a b x y:Int}(h:x=a) (g:y=b):Ending.returned (.tuple #[.int .i64 a,.int .i64 b])=.returned (.tuple #[.int .i64 x,.int .i64 y]):=by rw [h,g]
theorem checkShapeQ (a:Option Addr) (cap:Nat) (xs:List Int) (w:World) (h:IntsAt w a cap xs) :
  Calls Tryz.prog 146 #[.slice a xs.length cap] w fun e w'=>e=.returned (.tuple #[.int .i64 (shN xs),.int .i64 (dimsE xs)])/\w=w':=by
 have hl:=h.len
 by_cases h8:8<xs.length
 ·have HE:Hid (dimsE xs=15):=dimsE_long h8
  have HN:Hid (shN xs=0):=shN_bad (by rw [dimsE_long h8];decide)
  go_enter Tryz.func146,Tryz.ntmps146
  go_wp2
  go_ret2
  exact ⟨ret_two HN.out HE.out,rfl⟩
 ·go_enter Tryz.func146,Tryz.ntmps146
  go_wp2
  go_loop [12] (fun i=>∃ k:Nat,k<=xs.length/\i=.int .i64 k/\NN (xs.take k)) (fun i=>xs.length - (intOf i).toNat)
  case atStart=>exact ⟨0,Nat.zero_le _,rfl,NN.nil⟩
  case round =>
   obtain ⟨k,hk,rfl,hn⟩:=hrel
   by_cases hlt:k<xs.length
   ·obtain ⟨b,off,hi,hc⟩:=h.at hlt
    by_cases c1:xs[k]<0
    ·have HD:Hid (dimsE xs=16):=dimsE_neg h8 (fun g=>by have:=g _ (List.getElem_mem hlt);omega)
     have HN:Hid (shN xs=0):=shN_bad (by rw [HD.out];decide)
     go_wp2
     go_ret2
     exact ⟨ret_two HN.out HD.out,rfl⟩
    ·have hn2:NN (xs.take (k+1)):=by rw [take_snoc xs k hlt];exact hn.snoc (by omega)
     go_wp2
     go_round
     case rel=>exact ⟨k+1,by omega,by go_num,hn2⟩
     case measure=>simp [intOf];omega
   ·obtain rfl:k=xs.length:=by omega
    rw [List.take_length] at hn
    have C:=shSizeP a cap xs w h
    by_cases c2:nz xs<=65536
    ·have HE:Hid (dimsE xs=0):=dimsE_ok h8 hn c2
     have HN:Hid (shN xs=pr xs):=shN_ok HE.out
     have hp:=(dims_small HE.out).1
     rw [sizeS_ok HE.out] at C
     clear hn c2
     go_wp2_with (go_at_call 157;refine C.mono ?_;rintro e w' ⟨rfl,rfl⟩)
     go_ret2
     exact ⟨ret_two HN.out HE.out,rfl⟩
    ·have HE:Hid (dimsE xs=21):=dimsE_big h8 hn c2
     have HN:Hid (shN xs=0):=shN_bad (by rw [HE.out];decide)
     rw [sizeS_bad (by rw [HE.out];decide)] at C
     clear hn c2
     go_wp2_with (go_at_call 157;refine C.mono ?_;rintro e w' ⟨rfl,rfl⟩)
     go_ret2
     exact ⟨ret_two HN.out HE.out,rfl⟩
def partsE:Arr->Int
 | .mk k sh nu it=>if k<1∨3<k then 14 else if dimsE sh≠0 then dimsE sh else if (aSize (.mk k sh nu it):Int)≠pr sh∨0<other k nu it then 16 else if nu.all (elemB k)=false then 17 else 0
section
variable {k:Int}{sh nu:List Int}{it:List Arr}
theorem parts_kind (h:k<1∨3<k):partsE (.mk k sh nu it)=14:=by rw [partsE,if_pos h]
theorem parts_dims (h:¬ (k<1∨3<k)) (hd:dimsE sh≠0):partsE (.mk k sh nu it)=dimsE sh:=by rw [partsE,if_neg h,if_pos hd]
theorem parts_len (h:¬ (k<1∨3<k)) (hd:dimsE sh=0) (hl:(aSize (.mk k sh nu it):Int)≠pr sh∨0<other k nu it):partsE (.mk k sh nu it)=16:=by
 rw [partsE,if_neg h,if_neg (by simpa using hd),if_pos hl]
theorem parts_elem (h:¬ (k<1∨3<k)) (hd:dimsE sh=0) (hl:¬ ((aSize (.mk k sh nu it):Int)≠pr sh∨0<other k nu it)) (he:nu.all (elemB k)=false):partsE (.mk k sh nu it)=17:=by
 rw [partsE,if_neg h,if_neg (by simpa using hd),if_neg hl,if_pos he]
theorem parts_ok (h:¬ (k<1∨3<k)) (hd:dimsE sh=0) (hl:¬ ((aSize (.mk k sh nu it):Int)≠pr sh∨0<other k nu it)) (he:nu.all (elemB k)=true):partsE (.mk k sh nu it)=0:=by
 rw [partsE,if_neg h,if_neg (by simpa using hd),if_neg hl,if_neg (by rw [he];simp)]
end
theorem wrap_lens {p n:Nat}(h1:p<=65536) (h2:n<=9223372036854775807):∃ s:Int,IntKind.i64.wrap ((p:Int)+(n:Int))=s/\(s=p ↔ n=0):=by
 by_cases h:p+n<=9223372036854775807
 ·exact ⟨(p:Int)+n,by rw [IntKind.wrap_i64];omega,by omega⟩
 ·refine ⟨(p:Int)+n - 18446744073709551616,?_,by omega⟩
  rw [IntKind.wrap_i64];omega
theorem wrap_lens' {p n:Nat}(h1:p<=65536) (h2:n<=9223372036854775807):∃ s:Int,IntKind.i64.wrap ((n:Int)+(p:Int))=s/\(s=p ↔ n=0):=by
 rw [Int.add_comm];exact wrap_lens h1 h2
theorem partsQ_kind (v:Value) (k:Int) (sh nu:List Int) (it:List Arr) (w:World) (h:ArrAt w v (.mk k sh nu it)) (hk':k<1∨3<k) :
  Calls Tryz.prog 135 #[v] w fun e w'=>e=.returned (.int .i64 (partsE (.mk k sh nu it)))/\Below w.heap.size w w':=by
 rw [parts_kind hk']
 rw [ArrAt] at h
 obtain ⟨sa,sc,na,nc,ia,ic,rfl,hk,hs,hnn,h1,h2,b,off,ha,hc⟩:=h
 have e1:(k != 1)=true:=by simp;omega
 have e2:(k != 2)=true:=by simp;omega
 have e3:(k != 3)=true:=by simp;omega
 clear hk' hk hs hnn h1 h2 ha hc
 go_enter Tryz.func135,Tryz.ntmps135
 go_wp2_with fail
 go_ret
 exact ⟨rfl,below_new _ _⟩
set_option maxRecDepth 100000 in
theorem partsQ_1 (v:Value) (sh nu:List Int) (it:List Arr) (w:World) (h:ArrAt w v (.mk 1 sh nu it)) :
  Calls Tryz.prog 135 #[v] w fun e w'=>e=.returned (.int .i64 (partsE (.mk 1 sh nu it)))/\Below w.heap.size w w':=by
 have hA:=h
 rw [ArrAt] at h
 obtain ⟨sa,sc,na,nc,ia,ic,rfl,hk,hs,hnn,h1,h2,b,off,ha,hc⟩:=h
 have hA1:=hA.below (below_new w (.cells #[.int .i64 1,.slice sa sh.length sc,.slice na nu.length nc,.slice ia it.length ic] 46))
 have hs1:=hs.below (below_new w (.cells #[.int .i64 1,.slice sa sh.length sc,.slice na nu.length nc,.slice ia it.length ic] 46))
 have hP1:=Par.new w (.int .i64 1) (.slice sa sh.length sc) (.slice na nu.length nc) (.slice ia it.length ic) 46
 have hnl:=hnn.len
 have hil:it.length<=9223372036854775807:=by omega
 have C:=checkShapeQ _ _ _ _ hs1
 have hz:((aSize (.mk 1 sh nu it):Nat):Int)=nu.length:=rfl
 have S:=fun w' (g:ArrAt w' (.agg #[.int .i64 1,.slice sa sh.length sc,.slice na nu.length nc,.slice ia it.length ic]) (.mk 1 sh nu it))=>sizeQ _ _ w' g
 rw [hz] at S
 clear hk ha hc hs h1 h2
 by_cases hd:dimsE sh=0
 ·rw [shN_ok hd,hd] at C
  obtain ⟨p0,p1⟩:=dims_small hd
  by_cases c:(nu.length:Int)=pr sh
  ·have c1:((nu.length:Int) != pr sh)=false:=by rw [c];simp
   obtain ⟨s,hs',hs2⟩:=wrap_lens (p:=nu.length) (n:=it.length) (by omega) hil
   by_cases co:it.length=0
   ·have c2:(s != pr sh)=false:=by rw [hs2.2 co,c];simp
    have HG:Hid (¬ ((aSize (.mk 1 sh nu it):Int)≠pr sh∨0<other 1 nu it)):=by
     unfold Hid
     show ¬ ((nu.length:Int)≠pr sh∨0<it.length)
     omega
    have CO:Hid (it.length=0):=co
    have HD:Hid (dimsE sh=0):=hd
    clear hd c co hs2 hz
    go_enter Tryz.func135,Tryz.ntmps135
    go_wp2_with (first
     |(go_at_call 146;refine C.mono ?_;rintro e w' ⟨rfl,rfl⟩)
     |(go_at_call 136;refine (S _ hA1).mono ?_;rintro e w1 ⟨rfl,hb1⟩;obtain ⟨q0,q1,q2,q3,q4⟩:=hP1.below hb1))
    have hb:=Below.then (below_new w _) hb1
    clear S C hA1 hs1 c1 c2
    go_loop [47] (fun i=>∃ j:Nat,j<=nu.length/\i=.int .i64 j/\(nu.take j).all (elemB 1)=true) (fun i=>nu.length - (intOf i).toNat)
    case atStart=>exact ⟨0,Nat.zero_le _,rfl,rfl⟩
    case round =>
     obtain ⟨j,hj,rfl,hall⟩:=hrel
     by_cases hlt:j<nu.length
     ·obtain ⟨b1,o1,f1,v1⟩:=(hnn.below hb).at hlt
      by_cases ce:isEl 1 nu[j]=true
      ·have HE2:Hid ((nu.take (j+1)).all (elemB 1)=true):=all_take hlt hall (by simpa [elemB,isEl] using ce)
       clear hall
       go_wp2_with (go_at_call 147;refine (isElQ _ _ _).mono ?_;rintro e w' ⟨rfl,rfl⟩)
       go_round
       case rel=>exact ⟨j+1,by omega,by go_num,HE2.out⟩
       case measure=>simp [intOf];omega
      ·have ce':isEl 1 nu[j]=false:=by simpa using ce
       have HE2:Hid (partsE (.mk 1 sh nu it)=17):=by
        refine parts_elem (by omega) (Classical.byContradiction fun g=>?_) HG.out (all_bad hlt (by simpa [elemB,isEl] using ce'))
        exact g HD.out
       clear hall ce
       go_wp2_with (go_at_call 147;refine (isElQ _ _ _).mono ?_;rintro e w' ⟨rfl,rfl⟩)
       go_ret
       exact ⟨ret_int HE2.out.symm,hb⟩
     ·obtain rfl:j=nu.length:=by omega
      rw [List.take_length] at hall
      have HE2:Hid (partsE (.mk 1 sh nu it)=0):=parts_ok (by omega) HD.out HG.out hall
      clear hall
      go_wp2_with fail
      go_ret
      exact ⟨ret_int HE2.out.symm,hb⟩
   ·have c2:(s != pr sh)=true:=by
     have:¬ s=pr sh:=fun e=>co (hs2.1 (by omega))
     simpa using this
    have HE:Hid (partsE (.mk 1 sh nu it)=16):=parts_len (by omega) hd (Or.inr (by show 0<it.length;omega))
    clear hd c co hs2 hz
    go_enter Tryz.func135,Tryz.ntmps135
    go_wp2_with (first
     |(go_at_call 146;refine C.mono ?_;rintro e w' ⟨rfl,rfl⟩)
     |(go_at_call 136;refine (S _ hA1).mono ?_;rintro e w1 ⟨rfl,hb1⟩;obtain ⟨q0,q1,q2,q3,q4⟩:=hP1.below hb1))
    go_ret
    exact ⟨ret_int HE.out.symm,Below.then (below_new w _) hb1⟩
  ·have c1:((nu.length:Int) != pr sh)=true:=by simpa using c
   have HE:Hid (partsE (.mk 1 sh nu it)=16):=parts_len (by omega) hd (Or.inl c)
   clear hd c hz
   go_enter Tryz.func135,Tryz.ntmps135
   go_wp2_with (first
    |(go_at_call 146;refine C.mono ?_;rintro e w' ⟨rfl,rfl⟩)
    |(go_at_call 136;refine (S _ hA1).mono ?_;rintro e w1 ⟨rfl,hb1⟩;obtain ⟨q0,q1,q2,q3,q4⟩:=hP1.below hb1))
   go_ret
   exact ⟨ret_int HE.out.symm,Below.then (below_new w _) hb1⟩
 ·have HE:Hid (partsE (.mk 1 sh nu it)=dimsE sh):=parts_dims (by omega) hd
  have hd':(dimsE sh != 0)=true:=by simpa using hd
  clear hd hz
  go_enter Tryz.func135,Tryz.ntmps135
  go_wp2_with (first
   |(go_at_call 146;refine C.mono ?_;rintro e w' ⟨rfl,rfl⟩))
  go_ret
  exact ⟨ret_int HE.out.symm,below_new _ _⟩
set_option maxRecDepth 100000 in
theorem partsQ_2 (v:Value) (sh nu:List Int) (it:List Arr) (w:World) (h:ArrAt w v (.mk 2 sh nu it)) :
  Calls Tryz.prog 135 #[v] w fun e w'=>e=.returned (.int .i64 (partsE (.mk 2 sh nu it)))/\Below w.heap.size w w':=by
 have hA:=h
 rw [ArrAt] at h
 obtain ⟨sa,sc,na,nc,ia,ic,rfl,hk,hs,hnn,h1,h2,b,off,ha,hc⟩:=h
 have hA1:=hA.below (below_new w (.cells #[.int .i64 2,.slice sa sh.length sc,.slice na nu.length nc,.slice ia it.length ic] 46))
 have hs1:=hs.below (below_new w (.cells #[.int .i64 2,.slice sa sh.length sc,.slice na nu.length nc,.slice ia it.length ic] 46))
 have hP1:=Par.new w (.int .i64 2) (.slice sa sh.length sc) (.slice na nu.length nc) (.slice ia it.length ic) 46
 have hnl:=hnn.len
 have hil:it.length<=9223372036854775807:=by omega
 have C:=checkShapeQ _ _ _ _ hs1
 have hz:((aSize (.mk 2 sh nu it):Nat):Int)=nu.length:=rfl
 have S:=fun w' (g:ArrAt w' (.agg #[.int .i64 2,.slice sa sh.length sc,.slice na nu.length nc,.slice ia it.length ic]) (.mk 2 sh nu it))=>sizeQ _ _ w' g
 rw [hz] at S
 clear hk ha hc hs h1 h2
 by_cases hd:dimsE sh=0
 ·rw [shN_ok hd,hd] at C
  obtain ⟨p0,p1⟩:=dims_small hd
  by_cases c:(nu.length:Int)=pr sh
  ·have c1:((nu.length:Int) != pr sh)=false:=by rw [c];simp
   obtain ⟨s,hs',hs2⟩:=wrap_lens (p:=nu.length) (n:=it.length) (by omega) hil
   by_cases co:it.length=0
   ·have c2:(s != pr sh)=false:=by rw [hs2.2 co,c];simp
    have HG:Hid (¬ ((aSize (.mk 2 sh nu it):Int)≠pr sh∨0<other 2 nu it)):=by
     unfold Hid
     show ¬ ((nu.length:Int)≠pr sh∨0<it.length)
     omega
    have CO:Hid (it.length=0):=co
    have HD:Hid (dimsE sh=0):=hd
    clear hd c co hs2 hz
    go_enter Tryz.func135,Tryz.ntmps135
    go_wp2_with (first
     |(go_at_call 146;refine C.mono ?_;rintro e w' ⟨rfl,rfl⟩)
     |(go_at_call 136;refine (S _ hA1).mono ?_;rintro e w1 ⟨rfl,hb1⟩;obtain ⟨q0,q1,q2,q3,q4⟩:=hP1.below hb1))
    have hb:=Below.then (below_new w _) hb1
    clear S C hA1 hs1 c1 c2
    go_loop [47] (fun i=>∃ j:Nat,j<=nu.length/\i=.int .i64 j/\(nu.take j).all (elemB 2)=true) (fun i=>nu.length - (intOf i).toNat)
    case atStart=>exact ⟨0,Nat.zero_le _,rfl,rfl⟩
    case round =>
     obtain ⟨j,hj,rfl,hall⟩:=hrel
     by_cases hlt:j<nu.length
     ·obtain ⟨b1,o1,f1,v1⟩:=(hnn.below hb).at hlt
      by_cases ce:isEl 2 nu[j]=true
      ·have HE2:Hid ((nu.take (j+1)).all (elemB 2)=true):=all_take hlt hall (by simpa [elemB,isEl] using ce)
       clear hall
       go_wp2_with (go_at_call 147;refine (isElQ _ _ _).mono ?_;rintro e w' ⟨rfl,rfl⟩)
       go_round
       case rel=>exact ⟨j+1,by omega,by go_num,HE2.out⟩
       case measure=>simp [intOf];omega
      ·have ce':isEl 2 nu[j]=false:=by simpa using ce
       have HE2:Hid (partsE (.mk 2 sh nu it)=17):=by
        refine parts_elem (by omega) (Classical.byContradiction fun g=>?_) HG.out (all_bad hlt (by simpa [elemB,isEl] using ce'))
        exact g HD.out
       clear hall ce
       go_wp2_with (go_at_call 147;refine (isElQ _ _ _).mono ?_;rintro e w' ⟨rfl,rfl⟩)
       go_ret
       exact ⟨ret_int HE2.out.symm,hb⟩
     ·obtain rfl:j=nu.length:=by omega
      rw [List.take_length] at hall
      have HE2:Hid (partsE (.mk 2 sh nu it)=0):=parts_ok (by omega) HD.out HG.out hall
      clear hall
      go_wp2_with fail
      go_ret
      exact ⟨ret_int HE2.out.symm,hb⟩
   ·have c2:(s != pr sh)=true:=by
     have:¬ s=pr sh:=fun e=>co (hs2.1 (by omega))
     simpa using this
    have HE:Hid (partsE (.mk 2 sh nu it)=16):=parts_len (by omega) hd (Or.inr (by show 0<it.length;omega))
    clear hd c co hs2 hz
    go_enter Tryz.func135,Tryz.ntmps135
    go_wp2_with (first
     |(go_at_call 146;refine C.mono ?_;rintro e w' ⟨rfl,rfl⟩)
     |(go_at_call 136;refine (S _ hA1).mono ?_;rintro e w1 ⟨rfl,hb1⟩;obtain ⟨q0,q1,q2,q3,q4⟩:=hP1.below hb1))
    go_ret
    exact ⟨ret_int HE.out.symm,Below.then (below_new w _) hb1⟩
  ·have c1:((nu.length:Int) != pr sh)=true:=by simpa using c
   have HE:Hid (partsE (.mk 2 sh nu it)=16):=parts_len (by omega) hd (Or.inl c)
   clear hd c hz
   go_enter Tryz.func135,Tryz.ntmps135
   go_wp2_with (first
    |(go_at_call 146;refine C.mono ?_;rintro e w' ⟨rfl,rfl⟩)
    |(go_at_call 136;refine (S _ hA1).mono ?_;rintro e w1 ⟨rfl,hb1⟩;obtain ⟨q0,q1,q2,q3,q4⟩:=hP1.below hb1))
   go_ret
   exact ⟨ret_int HE.out.symm,Below.then (below_new w _) hb1⟩
 ·have HE:Hid (partsE (.mk 2 sh nu it)=dimsE sh):=parts_dims (by omega) hd
  have hd':(dimsE sh != 0)=true:=by simpa using hd
  clear hd hz
  go_enter Tryz.func135,Tryz.ntmps135
  go_wp2_with (first
   |(go_at_call 146;refine C.mono ?_;rintro e w' ⟨rfl,rfl⟩))
  go_ret
  exact ⟨ret_int HE.out.symm,below_new _ _⟩
set_option maxRecDepth 100000 in
theorem partsQ_3 (v:Value) (sh nu:List Int) (it:List Arr) (w:World) (h:ArrAt w v (.mk 3 sh nu it)) :
  Calls Tryz.prog 135 #[v] w fun e w'=>e=.returned (.int .i64 (partsE (.mk 3 sh nu it)))/\Below w.heap.size w w':=by
 have hA:=h
 rw [ArrAt] at h
 obtain ⟨sa,sc,na,nc,ia,ic,rfl,hk,hs,hnn,h1,h2,b,off,ha,hc⟩:=h
 have hA1:=hA.below (below_new w (.cells #[.int .i64 3,.slice sa sh.length sc,.slice na nu.length nc,.slice ia it.length ic] 46))
 have hs1:=hs.below (below_new w (.cells #[.int .i64 3,.slice sa sh.length sc,.slice na nu.length nc,.slice ia it.length ic] 46))
 have hP1:=Par.new w (.int .i64 3) (.slice sa sh.length sc) (.slice na nu.length nc) (.slice ia it.length ic) 46
 have hnl:=hnn.len
 have hil:it.length<=9223372036854775807:=by omega
 have C:=checkShapeQ _ _ _ _ hs1
 have hz:((aSize (.mk 3 sh nu it):Nat):Int)=it.length:=rfl
 have S:=fun w' (g:ArrAt w' (.agg #[.int .i64 3,.slice sa sh.length sc,.slice na nu.length nc,.slice ia it.length ic]) (.mk 3 sh nu it))=>sizeQ _ _ w' g
 rw [hz] at S
 clear hk ha hc hs h1 h2
 by_cases hd:dimsE sh=0
 ·rw [shN_ok hd,hd] at C
  obtain ⟨p0,p1⟩:=dims_small hd
  by_cases c:(it.length:Int)=pr sh
  ·have c1:((it.length:Int) != pr sh)=false:=by rw [c];simp
   obtain ⟨s,hs',hs2⟩:=wrap_lens' (p:=it.length) (n:=nu.length) (by omega) hnl
   by_cases co:nu.length=0
   ·have c2:(s != pr sh)=false:=by rw [hs2.2 co,c];simp
    have HG:Hid (¬ ((aSize (.mk 3 sh nu it):Int)≠pr sh∨0<other 3 nu it)):=by
     unfold Hid
     show ¬ ((it.length:Int)≠pr sh∨0<nu.length)
     omega
    have CO:Hid (nu.length=0):=co
    have HD:Hid (dimsE sh=0):=hd
    clear hd c co hs2 hz
    go_enter Tryz.func135,Tryz.ntmps135
    go_wp2_with (first
     |(go_at_call 146;refine C.mono ?_;rintro e w' ⟨rfl,rfl⟩)
     |(go_at_call 136;refine (S _ hA1).mono ?_;rintro e w1 ⟨rfl,hb1⟩;obtain ⟨q0,q1,q2,q3,q4⟩:=hP1.below hb1))
    have hb:=Below.then (below_new w _) hb1
    clear S C hA1 hs1 c1 c2
    have HE2:Hid (partsE (.mk 3 sh nu it)=0):=parts_ok (by omega) HD.out HG.out (by rw [List.eq_nil_of_length_eq_zero CO.out];rfl)
    have hn0:¬ (0 <(nu.length:Int)):=by have:=CO.out;omega
    refine wp_loop_rounds 1 ?_
    rw [rounds_succ]
    go_wp2_with fail
    go_ret
    exact ⟨ret_int HE2.out.symm,hb⟩
   ·have c2:(s != pr sh)=true:=by
     have:¬ s=pr sh:=fun e=>co (hs2.1 (by omega))
     simpa using this
    have HE:Hid (partsE (.mk 3 sh nu it)=16):=parts_len (by omega) hd (Or.inr (by show 0<nu.length;omega))
    clear hd c co hs2 hz
    go_enter Tryz.func135,Tryz.ntmps135
    go_wp2_with (first
     |(go_at_call 146;refine C.mono ?_;rintro e w' ⟨rfl,rfl⟩)
     |(go_at_call 136;refine (S _ hA1).mono ?_;rintro e w1 ⟨rfl,hb1⟩;obtain ⟨q0,q1,q2,q3,q4⟩:=hP1.below hb1))
    go_ret
    exact ⟨ret_int HE.out.symm,Below.then (below_new w _) hb1⟩
  ·have c1:((it.length:Int) != pr sh)=true:=by simpa using c
   have HE:Hid (partsE (.mk 3 sh nu it)=16):=parts_len (by omega) hd (Or.inl c)
   clear hd c hz
   go_enter Tryz.func135,Tryz.ntmps135
   go_wp2_with (first
    |(go_at_call 146;refine C.mono ?_;rintro e w' ⟨rfl,rfl⟩)
    |(go_at_call 136;refine (S _ hA1).mono ?_;rintro e w1 ⟨rfl,hb1⟩;obtain ⟨q0,q1,q2,q3,q4⟩:=hP1.below hb1))
   go_ret
   exact ⟨ret_int HE.out.symm,Below.then (below_new w _) hb1⟩
 ·have HE:Hid (partsE (.mk 3 sh nu it)=dimsE sh):=parts_dims (by omega) hd
  have hd':(dimsE sh != 0)=true:=by simpa using hd
  clear hd hz
  go_enter Tryz.func135,Tryz.ntmps135
  go_wp2_with (first
   |(go_at_call 146;refine C.mono ?_;rintro e w' ⟨rfl,rfl⟩))
  go_ret
  exact ⟨ret_int HE.out.symm,below_new _ _⟩
theorem partsQ (v:Value) (A:Arr) (w:World) (h:ArrAt w v A):Calls Tryz.prog 135 #[v] w fun e w'=>e=.returned (.int .i64 (partsE A))/\Below w.heap.size w w':=by
 obtain ⟨k,sh,nu,it⟩:=A
 by_cases hk:k<1∨3<k
 ·exact partsQ_kind v k sh nu it w h hk
 ·obtain rfl | rfl | rfl:k=1∨k=2∨k=3:=by omega
  ·exact partsQ_1 v sh nu it w h
  ·exact partsQ_2 v sh nu it w h
  ·exact partsQ_3 v sh nu it w h
def OKd (d:Nat) (A:Arr):Prop:=(chk A).1=0/\((chk A).2=0∨(chk A).2+d<=17)
theorem chkL_ge:∀ (l:List Arr) (d D:Int),chkL d l=some D->d<=D/\∀ j (h:j<l.length),(chk l[j]).1=0/\(chk l[j]).2+1<=D
 | [],d,D,h=>by
  simp only [chkL,Option.some.injEq] at h
  exact ⟨by omega,fun j hj=>absurd hj (by simp)⟩
 | A::r,d,D,h=>by
  rw [chkL] at h
  split at h
  ·cases h
  ·rename_i h0
   obtain ⟨h1,h2⟩:=chkL_ge r _ D h
   refine ⟨by omega,fun j hj=>?_⟩
   cases j with
   | zero=>exact ⟨by simpa using h0,by simp only [List.getElem_cons_zero];omega⟩
   | succ j=>simpa using h2 j (by simpa using hj)
theorem chk_split {k:Int}{sh nu:List Int}{it:List Arr}(hp:partsE (.mk k sh nu it)=0) :
  chk (.mk k sh nu it)=match chkL 0 it with | none=>(17,0) | some d=>lastE d (wt (.mk k sh nu it)):=by
 rw [partsE] at hp
 split at hp
 ·omega
 ·rename_i g1
  split at hp
  ·rename_i g2;exact absurd hp g2
  ·rename_i g2
   split at hp
   ·omega
   ·rename_i g3
    split at hp
    ·omega
    ·rename_i g4
     exact chk_rest g1 (by simpa using g2) g3 (by simpa using g4)
theorem chk_parts {k:Int}{sh nu:List Int}{it:List Arr}(hp:partsE (.mk k sh nu it)≠0):(chk (.mk k sh nu it)).1=partsE (.mk k sh nu it):=by
 rw [chk,partsE]
 rw [partsE] at hp
 split
 ·rfl
 ·rename_i g1
  rw [if_neg g1] at hp
  split
  ·rfl
  ·rename_i g2
   rw [if_neg g2] at hp
   split
   ·rfl
   ·rename_i g3
    rw [if_neg g3] at hp
    split
    ·rfl
    ·rename_i g4
     rw [if_neg g4] at hp
     exact absurd rfl hp
theorem parts_kind_ok {k:Int}{sh nu:List Int}{it:List Arr}(hp:partsE (.mk k sh nu it)=0):dimsE sh=0/\(aSize (.mk k sh nu it):Int)=pr sh/\(k≠3->it.length=0):=by
 rw [partsE] at hp
 split at hp
 ·omega
 ·rename_i g1
  split at hp
  ·rename_i g2;exact absurd hp g2
  ·rename_i g2
   split at hp
   ·omega
   ·rename_i g3
    refine ⟨by simpa using g2,by omega,fun hk=>?_⟩
    have:¬ 0<other k nu it:=fun e=>g3 (Or.inr e)
    rw [other,if_neg hk] at this
    omega
theorem wt_parts {k:Int}{sh nu:List Int}{it:List Arr}(hp:partsE (.mk k sh nu it)=0):wt (.mk k sh nu it)=min ((aSize (.mk k sh nu it):Int)+sumW it) 262145:=by
 rw [wt]
 by_cases hk:k=3
 ·rw [if_pos hk]
 ·rw [if_neg hk]
  have:=(parts_kind_ok hp).2.2 hk
  rw [List.eq_nil_of_length_eq_zero this,sumW]
def CkPost (A:Arr) (d:Nat) (w:World) (e:Ending) (w':World):Prop :=
 ∃ x y er:Int,e=.returned (.tuple #[.int .i64 x,.int .i64 y,.int .i64 er])/\(OKd d A->x =(chk A).2/\y=wt A/\er=0)/\(¬ OKd d A->er≠0)/\(d=0->er =(chk A).1)/\Below w.heap.size w w'
theorem CkPost.bad {A:Arr}{d:Nat}{w w':World}{x y er er':Int}(hq:er=er') (hn:¬ OKd d A) (h0:er'≠0) (h1:d=0->er' =(chk A).1) (hb:Below w.heap.size w w'):CkPost A d w (.returned (.tuple #[.int .i64 x,.int .i64 y,.int .i64 er])) w' :=
 ⟨x,y,er,rfl,fun g=>absurd g hn,fun _=>by rw [hq];exact h0,fun g=>by rw [hq];exact h1 g,hb⟩
theorem CkPost.good {A:Arr}{d:Nat}{w w':World}{x y er:Int}(ho:OKd d A) (hx:x =(chk A).2) (hy:y=wt A) (he:er=0) (hb:Below w.heap.size w w'):CkPost A d w (.returned (.tuple #[.int .i64 x,.int .i64 y,.int .i64 er])) w' :=
 ⟨x,y,er,rfl,fun _=>⟨hx,hy,he⟩,fun g=>absurd ho g,fun _=>by rw [he];exact ho.1.symm,hb⟩
theorem ArrAt.four {w:World}{c0 c1 c2 c3:Value}{A:Arr}(h:ArrAt w (.agg #[c0,c1,c2,c3]) A):∃ (k:Int) (a1:Option Addr) (n1 m1:Nat) (a2:Option Addr) (n2 m2:Nat) (a3:Option Addr) (n3 m3:Nat),c0=.int .i64 k/\c1=.slice a1 n1 m1/\c2=.slice a2 n2 m2/\c3=.slice a3 n3 m3:=by
 obtain ⟨k,sh,nu,it⟩:=A
 rw [ArrAt] at h
 obtain ⟨sa,sc,na,nc,ia,ic,hv,-⟩:=h
 simp only [Value.agg.injEq,Array.mk.injEq,List.cons.injEq,and_true] at hv
 obtain ⟨rfl,rfl,rfl,rfl⟩:=hv
 exact ⟨_,_,_,_,_,_,_,_,_,_,rfl,rfl,rfl,rfl⟩
theorem ok_item {k:Int}{sh nu:List Int}{it:List Arr}{d j:Nat}(hp:partsE (.mk k sh nu it)=0) (hj:j<it.length) (hn:¬ OKd (d+1) it[j]):¬ OKd d (.mk k sh nu it)/\(d=0->(17:Int) =(chk (.mk k sh nu it)).1):=by
 have hs:=chk_split hp
 have hbd:=chk_bd it[j]
 cases hc:chkL 0 it with
 | none =>
  rw [hc] at hs
  simp only at hs
  rw [OKd,hs]
  exact ⟨fun g=>by omega,fun _=>rfl⟩
 | some D =>
  rw [hc] at hs
  simp only at hs
  have hg:=(chkL_ge it 0 D hc).2 j hj
  have hne:¬ ((chk it[j]).2=0∨(chk it[j]).2+(d+1:Nat)<=17):=fun g=>hn ⟨hg.1,g⟩
  refine ⟨fun g=>?_,fun h0=>?_⟩
  ·obtain ⟨g1,g2⟩:=g
   rw [hs,lastE] at g1 g2
   split at g1
   ·simp at g1
   ·rename_i hl
    rw [if_neg hl] at g2
    simp only at g2
    omega
  ·exact absurd (by omega) hne
theorem ok_cut {k:Int}{sh nu:List Int}{it:List Arr}{d:Nat}(hp:partsE (.mk k sh nu it)=0) (hd:16<d) (hl:0<it.length):¬ OKd d (.mk k sh nu it):=by
 rintro ⟨g1,g2⟩
 have hs:=chk_split hp
 cases hc:chkL 0 it with
 | none=>rw [hc] at hs;simp only at hs;rw [hs] at g1;simp at g1
 | some D =>
  rw [hc] at hs
  simp only at hs
  have hg:=(chkL_ge it 0 D hc).2 0 hl
  have hb:=(chk_bd it[0]).1
  rw [hs,lastE] at g1 g2
  split at g1
  ·simp at g1
  ·rename_i hle
   rw [if_neg hle] at g2
   simp only at g2
   omega
theorem ok_last {k:Int}{sh nu:List Int}{it:List Arr}{d:Nat}{D:Int}(hp:partsE (.mk k sh nu it)=0) (hc:chkL 0 it=some D) (hd:d<=16∨it.length=0) (hall:∀ j (h:j<it.length),OKd (d+1) it[j]) (hD:0<=D) (hx:D=0∨∃ j,∃ h:j<it.length,D =(chk it[j]).2+1) :
  (16<D∨262144 <(aSize (.mk k sh nu it):Int)+sumW it->chk (.mk k sh nu it) =(21,0))/\(¬ (16<D∨262144 <(aSize (.mk k sh nu it):Int)+sumW it)->chk (.mk k sh nu it) =(0,D)/\wt (.mk k sh nu it) =(aSize (.mk k sh nu it):Int)+sumW it/\OKd d (.mk k sh nu it)):=by
 have hs:=chk_split hp
 rw [hc] at hs
 simp only at hs
 have hw:=wt_parts hp
 refine ⟨fun h=>?_,fun h=>?_⟩
 ·rw [hs,lastE,if_pos (by omega)]
 ·have e:chk (.mk k sh nu it) =(0,D):=by rw [hs,lastE,if_neg (by omega)]
  refine ⟨e,by omega,?_⟩
  rw [OKd,e]
  refine ⟨rfl,?_⟩
  rcases hx with h0 |⟨j,hj,hx⟩
  ·exact Or.inl h0
  ·have:=(hall j hj).2
   simp only
   omega
theorem sum_bd:∀ (l:List Arr),sumW l<=l.length*262145
 | []=>by rw [sumW];simp
 | A::r=>by
  have h1:=wt_le A
  have h2:=sum_bd r
  rw [sumW,List.length_cons]
  omega
def isCk (w:World) (b:Nat):Prop:=w.cell? ⟨b,0,none⟩=some (.func (.func 134) #[] #[.pointer (some ⟨b,0,none⟩)])
theorem isCk.below {w w':World}{b:Nat}(h:isCk w b) (hb:Below w.heap.size w w'):isCk w' b:=by
 unfold isCk at h ⊢
 exact (hb.cell (cell_lt h)).trans h
set_option maxRecDepth 100000 in
theorem ckQ_any (n:Nat):∀ (v:Value) (A:Arr) (d:Nat) (w:World) (b:Nat),rk A<=n->d<=17->ArrAt w v A->isCk w b->Calls Tryz.prog 134 #[v,.int .i64 d,.pointer (some ⟨b,0,none⟩)] w (CkPost A d w):=by
 induction n with
 | zero =>
  intro v A d w b hn _ _ _
  obtain ⟨k,sh,nu,it⟩:=A
  rw [rk] at hn;omega
 | succ n ih =>
  intro v A d w B hn hd h hf
  have hA:=h
  obtain ⟨k,sh,nu,it⟩:=A
  rw [ArrAt] at h
  obtain ⟨sa,sc,na,nc,ia,ic,rfl,hk,hs,hnn,h1,h2,b,off,ha,hc⟩:=h
  have bn:=below_new w (.cells #[.int .i64 k,.slice sa sh.length sc,.slice na nu.length nc,.slice ia it.length ic] 46)
  have hA1:=hA.below bn
  have hP1:=Par.new w (.int .i64 k) (.slice sa sh.length sc) (.slice na nu.length nc) (.slice ia it.length ic) 46
  have C:=fun w' (g:ArrAt w' (.agg #[.int .i64 k,.slice sa sh.length sc,.slice na nu.length nc,.slice ia it.length ic]) (.mk k sh nu it))=>partsQ _ _ w' g
  have S:=fun w' (g:ArrAt w' (.agg #[.int .i64 k,.slice sa sh.length sc,.slice na nu.length nc,.slice ia it.length ic]) (.mk k sh nu it))=>sizeQ _ _ w' g
  by_cases hp:partsE (.mk k sh nu it)=0
  ·rw [hp] at C
   have HP:Hid (partsE (.mk k sh nu it)=0):=hp
   have hsz:=(parts_kind_ok hp).2.1
   have hsm:=dims_small (parts_kind_ok hp).1
   have hil:it.length<=aSize (.mk k sh nu it):=by
    by_cases hk3:k=3
    ·subst hk3;exact Nat.le_refl _
    ·rw [(parts_kind_ok hp).2.2 hk3];exact Nat.zero_le _
   obtain ⟨z,hz⟩:∃ z:Nat,aSize (.mk k sh nu it)=z:=⟨_,rfl⟩
   have HZ:Hid (aSize (.mk k sh nu it)=z):=hz
   have hz1:(z:Int)<=65536:=by omega
   have hil2:it.length<=z:=by omega
   simp only [hz] at S
   clear hsz hsm hil hp hz hk hs hnn h1 h2
   by_cases hcut:16<d/\0<it.length
   ·obtain ⟨c1,c2⟩:=hcut
    obtain rfl:d=17:=by omega
    have HN:Hid (¬ OKd 17 (.mk k sh nu it)):=ok_cut HP.out c1 c2
    clear S ih
    go_enter Tryz.func134,Tryz.ntmps134
    go_wp2_with (first
     |(go_at_call 135;refine (C _ hA1).mono ?_;rintro e w1 ⟨rfl,hb1⟩;obtain ⟨q0,q1,q2,q3,q4⟩:=hP1.below hb1))
    go_ret3
    exact CkPost.bad rfl HN.out (by decide) (fun g=>absurd g (by decide)) (Below.then bn hb1)
   ·by_cases c1:d<=16
    ·have c1':¬ 16<d:=by omega
     have hwd:IntKind.i64.wrap ((d:Int)+1) =(d:Int)+1:=by rw [IntKind.wrap_i64];omega
     have HD16:Hid (d<=16∨it.length=0):=Or.inl c1
     clear hcut
     go_enter Tryz.func134,Tryz.ntmps134
     go_wp2_with (first
      |(go_at_call 135;refine (C _ hA1).mono ?_;rintro e w1 ⟨rfl,hb1⟩;obtain ⟨q0,q1,q2,q3,q4⟩:=hP1.below hb1;(have hA2:=hA1.below hb1))
      |(go_at_call 136;refine (S _ hA2).mono ?_;rintro e w2 ⟨rfl,hb2⟩;obtain ⟨r0,r1,r2,r3,r4⟩:=(hP1.below hb1).below hb2))
     have hPz:Par w2 w.heap.size (.int .i64 k) (.slice sa sh.length sc) (.slice na nu.length nc) (.slice ia it.length ic):=(hP1.below hb1).below hb2
     have hbz:Below w.heap.size w w2:=Below.then (Below.then bn hb1) hb2
     clear C S hA1 hA2 hP1 bn hb1 hb2 q0 q1 q2 q3 q4 r0 r1 r2 r3 r4 hA
     go_loopw [9,10,34] (fun dd ww i wr=>∃ (j:Nat) (D:Int),j<=it.length/\i=.int .i64 j/\dd=.int .i64 D/\ww=.int .i64 ((z:Int)+sumW (it.take j))/\Hid (chkL 0 it=chkL D (it.drop j))/\(∀ m (h:m<it.length),m<j->OKd (d+1) it[m])/\0<=D/\D<=17/\Hid (D=0∨∃ m,∃ h:m<it.length,D =(chk it[m]).2+1)/\Par wr w.heap.size (.int .i64 k) (.slice sa sh.length sc) (.slice na nu.length nc) (.slice ia it.length ic)/\Below w.heap.size w wr) (fun _ _ i _=>it.length - (intOf i).toNat)
     case atStart=>exact ⟨0,0,Nat.zero_le _,rfl,rfl,by rw [List.take_zero,sumW,Int.add_zero],rfl,fun m _ hm=>absurd hm (Nat.not_lt_zero _),by decide,by decide,Or.inl rfl,hPz,hbz⟩
     case round =>
      obtain ⟨j,D,hj,rfl,rfl,rfl,hch,hall,hD0,hD1,hDx,hp,hb⟩:=hrel
      have HALL:Hid (∀ m (h:m<it.length),m<j->OKd (d+1) it[m]):=hall
      clear hall hPz hbz
      obtain ⟨p0,p1,p2,p3,p4⟩:=id hp
      have s0:=sumW_nn (it.take j)
      have s1:=sum_bd (it.take j)
      rw [List.length_take] at s1
      by_cases hlt:j<it.length
      ·have hix:=items_at (ic:=ic) rfl ha hlt
       obtain ⟨c0,c1,c2,c3,⟨g0,g1,g2,g3⟩,hB⟩:=(ArrsAt.below hb hc).at hlt
       obtain ⟨ik,ia1,in1,im1,ia2,in2,im2,ia3,in3,im3,rfl,rfl,rfl,rfl⟩:=hB.four
       have bI:=below_new wr (.cells #[.int .i64 ik,.slice ia1 in1 im1,.slice ia2 in2 im2,.slice ia3 in3 im3] 46)
       have fI:=(hf.below hb).below bI
       have fJ:=fI
       unfold isCk at fJ
       have IH:=ih _ _ (d+1) _ B (Nat.le_of_lt_succ (Nat.lt_of_lt_of_le (rk_item hlt) hn)) (by omega) (hB.below bI) fI
       rw [show (((d+1:Nat)):Int) =(d:Int)+1 by omega] at IH
       have hw1:=wt_nn it[j]
       have hw2:=wt_le it[j]
       have hx0:=(chk_bd it[j]).1
       have hx1:=(chk_bd it[j]).2
       have hPI:=hp.below bI
       clear ih hB
       by_cases ok:OKd (d+1) it[j]
       ·have K:Calls Tryz.prog 134 #[.agg #[.int .i64 ik,.slice ia1 in1 im1,.slice ia2 in2 im2,.slice ia3 in3 im3],.int .i64 ((d:Int)+1),.pointer (some ⟨B,0,none⟩)] (wr.alloc (.cells #[.int .i64 ik,.slice ia1 in1 im1,.slice ia2 in2 im2,.slice ia3 in3 im3] 46)) (fun e w'=>e=.returned (.tuple #[.int .i64 (chk it[j]).2,.int .i64 (wt it[j]),.int .i64 0])/\Below (wr.alloc (.cells #[.int .i64 ik,.slice ia1 in1 im1,.slice ia2 in2 im2,.slice ia3 in3 im3] 46)).heap.size (wr.alloc (.cells #[.int .i64 ik,.slice ia1 in1 im1,.slice ia2 in2 im2,.slice ia3 in3 im3] 46)) w'):=by
         refine IH.mono ?_
         rintro e w' ⟨x,y,er,rfl,hy,-,-,hbw⟩
         obtain ⟨rfl,rfl,rfl⟩:=hy ok
         exact ⟨rfl,hbw⟩
        have HOK:Hid (OKd (d+1) it[j]):=ok
        have HS:Hid (sumW (it.take (j+1))=sumW (it.take j)+wt it[j]):=sumW_step hlt
        have HC:Hid (chkL D (it.drop j)=chkL (max D ((chk it[j]).2+1)) (it.drop (j+1))):=chkL_step hlt ok.1
        obtain ⟨x,hx⟩:∃ x,(chk it[j]).2=x:=⟨_,rfl⟩
        obtain ⟨y,hy⟩:∃ y,wt it[j]=y:=⟨_,rfl⟩
        have HX:Hid ((chk it[j]).2=x):=hx
        rw [hx] at K hx0 hx1 HC
        rw [hy] at K hw1 hw2 HS
        clear IH ok hx hy
        have FIN:∀ w3,Below (wr.alloc (.cells #[.int .i64 ik,.slice ia1 in1 im1,.slice ia2 in2 im2,.slice ia3 in3 im3] 46)).heap.size (wr.alloc (.cells #[.int .i64 ik,.slice ia1 in1 im1,.slice ia2 in2 im2,.slice ia3 in3 im3] 46)) w3->∀ m (h:m<it.length),m<j+1->OKd (d+1) it[m]:=fun _ _ m h1 h2=>by
         by_cases e:m=j
         ·subst e;exact HOK.out
         ·exact HALL.out m h1 (by omega)
        by_cases cm:x+1 > D
        ·have HM:Hid (chkL 0 it=chkL (x+1) (it.drop (j+1))):=by unfold Hid;rw [hch.out,HC.out,show max D (x+1)=x+1 by omega]
         go_wp2_with (go_at_call 134;refine K.mono ?_;rintro e w3 ⟨rfl,hb3⟩;obtain ⟨t0,t1,t2,t3,t4⟩:=hPI.below hb3)
         go_roundw
         case rel=>exact ⟨j+1,x+1,by omega,by go_num,rfl,by rw [HS.out,Int.add_assoc],HM,FIN _ hb3,by omega,by omega,Or.inr ⟨j,hlt,by rw [HX.out]⟩,hPI.below hb3,Below.then (Below.then hb bI) hb3⟩
         case measure=>simp [intOf];omega
        ·have HM:Hid (chkL 0 it=chkL D (it.drop (j+1))):=by unfold Hid;rw [hch.out,HC.out,show max D (x+1)=D by omega]
         go_wp2_with (go_at_call 134;refine K.mono ?_;rintro e w3 ⟨rfl,hb3⟩;obtain ⟨t0,t1,t2,t3,t4⟩:=hPI.below hb3)
         go_roundw
         case rel=>exact ⟨j+1,D,by omega,by go_num,rfl,by rw [HS.out,Int.add_assoc],HM,FIN _ hb3,by omega,by omega,hDx,hPI.below hb3,Below.then (Below.then hb bI) hb3⟩
         case measure=>simp [intOf];omega
       ·obtain ⟨n1,n2⟩:=ok_item HP.out hlt ok
        have N1:Hid (¬ OKd d (.mk k sh nu it)):=n1
        have N2:Hid (d=0->(17:Int) =(chk (.mk k sh nu it)).1):=n2
        have K:Calls Tryz.prog 134 #[.agg #[.int .i64 ik,.slice ia1 in1 im1,.slice ia2 in2 im2,.slice ia3 in3 im3],.int .i64 ((d:Int)+1),.pointer (some ⟨B,0,none⟩)] (wr.alloc (.cells #[.int .i64 ik,.slice ia1 in1 im1,.slice ia2 in2 im2,.slice ia3 in3 im3] 46)) (fun e w'=>∃ x y er:Int,e=.returned (.tuple #[.int .i64 x,.int .i64 y,.int .i64 er])/\(er != 0)=true/\Below (wr.alloc (.cells #[.int .i64 ik,.slice ia1 in1 im1,.slice ia2 in2 im2,.slice ia3 in3 im3] 46)).heap.size (wr.alloc (.cells #[.int .i64 ik,.slice ia1 in1 im1,.slice ia2 in2 im2,.slice ia3 in3 im3] 46)) w'):=by
         refine IH.mono ?_
         rintro e w' ⟨x,y,er,rfl,-,hy,-,hbw⟩
         exact ⟨x,y,er,rfl,by simpa using hy ok,hbw⟩
        clear IH ok n1 n2
        go_wp2_with (go_at_call 134;refine K.mono ?_;rintro e w3 ⟨x,y,er,rfl,her,hb3⟩)
        go_ret3
        exact CkPost.bad rfl N1.out (by decide) N2.out (Below.then (Below.then hb bI) hb3)
      ·obtain rfl:j=it.length:=by omega
       clear ih s0 s1
       have s0:=sumW_nn it
       have s1:=sum_bd it
       have L:=fun hc0=>ok_last (d:=d) HP.out (D:=D) hc0 HD16.out (fun m h=>HALL.out m h h) hD0 hDx.out
       rw [List.take_length]
       have hcc:=hch.out
       rw [chkL_end (by omega)] at hcc
       have HL:Hid _:=L hcc
       rw [HZ.out] at HL
       clear L hcc
       by_cases e1:16<D
       ·have HQ:Hid (chk (.mk k sh nu it) =(21,0)):=HL.out.1 (Or.inl e1)
        go_wp2_with fail
        go_ret3
        exact CkPost.bad rfl (fun g=>by have:=g.1;rw [HQ.out] at this;simp at this) (by decide) (fun _=>by rw [HQ.out]) hb
       ·by_cases e2:262144 <(z:Int)+sumW it
        ·have HQ:Hid (chk (.mk k sh nu it) =(21,0)):=HL.out.1 (Or.inr e2)
         go_wp2_with fail
         go_ret3
         exact CkPost.bad rfl (fun g=>by have:=g.1;rw [HQ.out] at this;simp at this) (by decide) (fun _=>by rw [HQ.out]) hb
        ·have HQ:Hid _:=HL.out.2 (by omega)
         clear HL
         go_wp2_with fail
         go_ret3
         exact CkPost.good HQ.out.2.2 (by rw [HQ.out.1]) (by rw [HQ.out.2.1]) rfl hb
    ·have hi0:it.length=0:=by omega
     obtain rfl:it=[]:=List.eq_nil_of_length_eq_zero hi0
     have HD16:Hid (d<=16∨([]:List Arr).length=0):=Or.inr rfl
     have c1':16<d:=by omega
     have L:=ok_last (d:=d) HP.out (D:=0) rfl HD16.out (fun m h=>absurd h (by simp)) (by decide) (Or.inl rfl)
     rw [HZ.out,sumW] at L
     have HQ:Hid _:=L.2 (by omega)
     clear hcut L ih
     go_enter Tryz.func134,Tryz.ntmps134
     go_wp2_with (first
      |(go_at_call 135;refine (C _ hA1).mono ?_;rintro e w1 ⟨rfl,hb1⟩;obtain ⟨q0,q1,q2,q3,q4⟩:=hP1.below hb1;(have hA2:=hA1.below hb1))
      |(go_at_call 136;refine (S _ hA2).mono ?_;rintro e w2 ⟨rfl,hb2⟩;obtain ⟨r0,r1,r2,r3,r4⟩:=(hP1.below hb1).below hb2))
     refine wp_loop_rounds 1 ?_
     rw [rounds_succ]
     go_wp2_with fail
     go_ret3
     exact CkPost.good HQ.out.2.2 (by rw [HQ.out.1]) (by rw [HQ.out.2.1];simp) rfl (Below.then (Below.then bn hb1) hb2)
  ·have HE:Hid ((chk (.mk k sh nu it)).1=partsE (.mk k sh nu it)):=chk_parts hp
   have HN:Hid (¬ OKd d (.mk k sh nu it)):=fun g=>hp (by rw [<- HE.out];exact g.1)
   have hp':(partsE (.mk k sh nu it) != 0)=true:=by simpa using hp
   have HP:Hid (partsE (.mk k sh nu it)≠0):=hp
   clear hp S ih hk hs hnn h1 h2
   go_enter Tryz.func134,Tryz.ntmps134
   go_wp2_with (first
    |(go_at_call 135;refine (C _ hA1).mono ?_;rintro e w1 ⟨rfl,hb1⟩))
   go_ret3
   exact CkPost.bad rfl HN.out HP.out (fun _=>HE.out.symm) (Below.then bn hb1)
theorem below2 (w:World) (o o':Obj):Below w.heap.size w ((w.alloc o).alloc o'):=((Below.refl _ _).alloc (Nat.le_refl _) o).alloc (by simp) o'
theorem isCk.new (W:World) (B:Nat) (t:TypeId) (hB:B=W.heap.size):isCk (W.alloc (.cells #[.func (.func 134) #[] #[.pointer (some ⟨B,0,none⟩)]] t)) B:=by
 subst hB
 unfold isCk
 rw [World.cell?_alloc_new]
 rfl
theorem rightQ (v:Value) (A:Arr) (w:World) (h:ArrAt w v A):Calls Tryz.prog 117 #[v] w fun e w'=>e=.returned (.int .i64 (rightE A))/\Below w.heap.size w w':=by
 have hmf:∀ (fn:Fn) (first cap:Array Value) (w:World),(Instr.makeFunc fn first cap).run Tryz.prog w=.ok (.func fn first cap) w:=fun _ _ _ _=>rfl
 have hA:=h
 obtain ⟨k,sh,nu,it⟩:=A
 rw [ArrAt] at h
 obtain ⟨sa,sc,na,nc,ia,ic,rfl,-⟩:=h
 have K:∀ w' (g:ArrAt w' (.agg #[.int .i64 k,.slice sa sh.length sc,.slice na nu.length nc,.slice ia it.length ic]) (.mk k sh nu it)) B (f:isCk w' B),Calls Tryz.prog 134 #[.agg #[.int .i64 k,.slice sa sh.length sc,.slice na nu.length nc,.slice ia it.length ic],.int .i64 0,.pointer (some ⟨B,0,none⟩)] w' (fun e w2=>∃ x y,e=.returned (.tuple #[.int .i64 x,.int .i64 y,.int .i64 (rightE (.mk k sh nu it))])/\Below w'.heap.size w' w2):=by
  intro w' g B f
  refine (ckQ_any _ _ _ 0 w' B (Nat.le_refl _) (by decide) g f).mono ?_
  rintro e w2 ⟨x,y,er,rfl,-,-,h3,h4⟩
  exact ⟨x,y,by rw [h3 rfl];rfl,h4⟩
 go_enter Tryz.func117,Tryz.ntmps117
 go_wp2_with (go_at_call 134;refine (K _ (hA.below (below2 _ _ _)) _ (isCk.new _ _ _ (by simp))).mono ?_;rintro e w2 ⟨x,y,rfl,hb⟩)
 go_ret
 exact ⟨rfl,Below.then (below2 _ _ _) hb⟩
def isSm (w:World) (b:Nat):Prop:=w.cell? ⟨b,0,none⟩=some (.func (.func 127) #[] #[.pointer (some ⟨b,0,none⟩)])
theorem isSm.below {w w':World}{b:Nat}(h:isSm w b) (hb:Below w.heap.size w w'):isSm w' b:=by
 unfold isSm at h ⊢
 exact (hb.cell (cell_lt h)).trans h
set_option maxRecDepth 100000 in
theorem smQ_any (n:Nat):∀ (v v2:Value) (A B:Arr) (w:World) (q:Nat),rk A<=n->ArrAt w v A->ArrAt w v2 B->isSm w q ->
  Calls Tryz.prog 127 #[v,v2,.pointer (some ⟨q,0,none⟩)] w fun e w'=>e=.returned (.bool (eqA A B))/\Below w.heap.size w w':=by
 induction n with
 | zero =>
  intro v v2 A B w q hn _ _ _
  obtain ⟨k,sh,nu,it⟩:=A
  rw [rk] at hn;omega
 | succ n ih =>
  intro v v2 A B w q hn h g hf
  obtain ⟨k,sh,nu,it⟩:=A
  obtain ⟨k2,sh2,nu2,it2⟩:=B
  have hA:=h
  have gA:=g
  rw [ArrAt] at h g
  obtain ⟨sa,sc,na,nc,ia,ic,rfl,hk,hs,hnn,h1,h2,b,off,ha,hc⟩:=h
  obtain ⟨sa2,sc2,na2,nc2,ia2,ic2,rfl,gk,gs,gnn,g1,g2,b2,off2,ga,gc⟩:=g
  have BN:=below2 w (.cells #[.int .i64 k,.slice sa sh.length sc,.slice na nu.length nc,.slice ia it.length ic] 46) (.cells #[.int .i64 k2,.slice sa2 sh2.length sc2,.slice na2 nu2.length nc2,.slice ia2 it2.length ic2] 46)
  have hs1:=hs.below BN
  have gs1:=gs.below BN
  have hn1:=hnn.below BN
  have gn1:=gnn.below BN
  have HG:Hid (eqA (.mk k sh nu it) (.mk k2 sh2 nu2 it2) =(k==k2&&sameB sh sh2&&sameB nu nu2&&eqL it it2)):=by unfold Hid;rw [eqA]
  have hP1:=(Par.new w (.int .i64 k) (.slice sa sh.length sc) (.slice na nu.length nc) (.slice ia it.length ic) 46).below (below_new _ (.cells #[.int .i64 k2,.slice sa2 sh2.length sc2,.slice na2 nu2.length nc2,.slice ia2 it2.length ic2] 46))
  have hP2:=Par.new (w.alloc (.cells #[.int .i64 k,.slice sa sh.length sc,.slice na nu.length nc,.slice ia it.length ic] 46)) (.int .i64 k2) (.slice sa2 sh2.length sc2) (.slice na2 nu2.length nc2) (.slice ia2 it2.length ic2) 46
  rw [show (w.alloc (.cells #[.int .i64 k,.slice sa sh.length sc,.slice na nu.length nc,.slice ia it.length ic] 46)).heap.size=w.heap.size+1 by simp] at hP2
  have CS:=shSameP sa sc sh sa2 sc2 sh2 _ hs1 gs1
  have CE:=fun w' (b1:Below _ _ w')=>equalP na nc nu na2 nc2 nu2 w' (hn1.below b1) (gn1.below b1)
  have il1:it.length<=9223372036854775807:=by omega
  have il2:it2.length<=9223372036854775807:=by omega
  clear hs gs hnn gnn hs1 gs1 hn1 gn1 hk gk h1 h2 g1 g2
  by_cases ck:k=k2
  ·have ck':(k != k2)=false:=by simpa using ck
   have CK:Hid ((k==k2)=true):=by unfold Hid;simpa using ck
   clear ck
   cases cs:sameB sh sh2 with
   | true =>
    rw [cs] at CS
    cases cn:sameB nu nu2 with
    | true =>
     simp only [cn] at CE
     by_cases cl:it.length=it2.length
     ·have cl':((it.length:Int) !=(it2.length:Int))=false:=by rw [cl];simp
      have CL:Hid (it.length=it2.length):=cl
      have HE2:Hid (eqA (.mk k sh nu it) (.mk k2 sh2 nu2 it2)=eqL it it2):=by unfold Hid;rw [HG.out,CK.out,cs,cn];rfl
      clear cl cs cn HG
      go_enter Tryz.func127,Tryz.ntmps127
      go_wp2_with (first
       |(go_at_call 128;((with_reducible refine CS.mono ?_);rintro e w3 ⟨rfl,b3⟩;(obtain ⟨q0,q1,q2,q3,q4⟩:=hP1.below b3);(obtain ⟨r0,r1,r2,r3,r4⟩:=hP2.below b3)))
       |(go_at_call 129;((with_reducible refine (CE _ b3).mono ?_);rintro e w4 ⟨rfl,b4⟩;(obtain ⟨m0,m1,m2,m3,m4⟩:=(hP1.below b3).below b4);(obtain ⟨l0,l1,l2,l3,l4⟩:=(hP2.below b3).below b4))))
      have pz1:=(hP1.below b3).below b4
      have pz2:=(hP2.below b3).below b4
      have bz:=Below.then (Below.then BN b3) b4
      clear CS CE hP1 hP2 BN b3 b4 q0 q1 q2 q3 q4 r0 r1 r2 r3 r4 m0 m1 m2 m3 m4 l0 l1 l2 l3 l4 hA gA ck' cl'
      go_loopw [41] (fun i wr=>∃ j:Nat,j<=it.length/\i=.int .i64 j/\Par wr (w.heap.size+1) (.int .i64 k2) (.slice sa2 sh2.length sc2) (.slice na2 nu2.length nc2) (.slice ia2 it2.length ic2)/\Below w.heap.size w wr/\∀ i (h1:i<it.length) (h2:i<it2.length),i<j->eqA it[i] it2[i]=true) (fun i _=>it.length - (intOf i).toNat)
      case atStart=>exact ⟨0,Nat.zero_le _,rfl,pz2,bz,fun i _ _ hi=>absurd hi (Nat.not_lt_zero _)⟩
      case round =>
       obtain ⟨j,hj,rfl,q2,hb,he⟩:=hrel
       have HE:Hid (∀ i (h1:i<it.length) (h2:i<it2.length),i<j->eqA it[i] it2[i]=true):=he
       clear he pz1 pz2 bz
       by_cases hlt:j<it.length
       ·have hlt2:j<it2.length:=by have:=CL.out;omega
        have hi:=items_at (ic:=ic) rfl ha hlt
        have gi:=items_at (ic:=ic2) rfl ga hlt2
        obtain ⟨c0,c1,c2,c3,⟨m0,m1,m2,m3⟩,hB⟩:=(ArrsAt.below hb hc).at hlt
        obtain ⟨ik,ia1,in1,im1,ia2',in2,im2,ia3,in3,im3,rfl,rfl,rfl,rfl⟩:=hB.four
        have bI:=below_new wr (.cells #[.int .i64 ik,.slice ia1 in1 im1,.slice ia2' in2 im2,.slice ia3 in3 im3] 46)
        obtain ⟨d0,d1,d2,d3,⟨l0,l1,l2,l3⟩,gB⟩:=(ArrsAt.below (Below.then hb bI) gc).at hlt2
        have qI:=q2.below bI
        obtain ⟨r0,r1,r2,r3,r4⟩:=id qI
        obtain ⟨n0,n1,n2,n3,n4⟩:=Par.new wr (.int .i64 ik) (.slice ia1 in1 im1) (.slice ia2' in2 im2) (.slice ia3 in3 im3) 46
        have fI:=(hf.below hb).below bI
        have fJ:=fI
        unfold isSm at fJ
        have hrk:rk it[j]<=n:=Nat.le_of_lt_succ (Nat.lt_of_lt_of_le (rk_item hlt) hn)
        have ic1:=ih _ _ _ _ (wr.alloc (.cells #[.int .i64 ik,.slice ia1 in1 im1,.slice ia2' in2 im2,.slice ia3 in3 im3] 46)).drew q hrk (hB.below bI).drew gB.drew fI
        clear ih
        go_wp2_with fail
        cases ce:eqA it[j] it2[j] with
        | true =>
         rw [ce] at ic1
         have HC:Hid (eqA it[j] it2[j]=true):=ce
         clear ce hB gB fI m0 m1 m2 m3
         have hbI:=Below.then hb bI
         clear bI
         generalize wr.alloc (.cells #[.int .i64 ik,.slice ia1 in1 im1,.slice ia2' in2 im2,.slice ia3 in3 im3] 46)=WI at hbI qI r0 r1 r2 r3 r4 fJ ic1 l0 l1 l2 l3 n0 n1 n2 n3 n4 ⊢
         go_still_tail 7,(by kernel_rfl)
         go_wp2_with (go_at_call 127;refine ic1.mono ?_;rintro e w2 ⟨rfl,hb2⟩)
         go_roundw
         case rel=>exact ⟨j+1,by omega,by go_num,qI.drew.below hb2,Below.then hbI (Below.then (below_drew _) hb2),fun i h1 h2 hi=>by
          by_cases e:i=j
          ·subst e;exact HC.out
          ·exact HE.out i h1 h2 (by omega)⟩
         case measure=>simp [intOf];omega
        | false =>
         rw [ce] at ic1
         have HF:Hid (eqA (.mk k sh nu it) (.mk k2 sh2 nu2 it2)=false):=by unfold Hid;rw [HE2.out];exact eqL_at it it2 j hlt hlt2 ce
         clear ce hB gB fI m0 m1 m2 m3
         have hbI:=Below.then hb bI
         clear bI
         generalize wr.alloc (.cells #[.int .i64 ik,.slice ia1 in1 im1,.slice ia2' in2 im2,.slice ia3 in3 im3] 46)=WI at hbI qI r0 r1 r2 r3 r4 fJ ic1 l0 l1 l2 l3 n0 n1 n2 n3 n4 ⊢
         go_still_tail 7,(by kernel_rfl)
         go_wp2_with (go_at_call 127;refine ic1.mono ?_;rintro e w2 ⟨rfl,hb2⟩)
         go_ret
         exact ⟨by first | rfl | exact ret_bool HF.out.symm,Below.then hbI (Below.then (below_drew _) hb2)⟩
       ·obtain rfl:j=it.length:=by omega
        have HF:Hid (eqA (.mk k sh nu it) (.mk k2 sh2 nu2 it2)=true):=by unfold Hid;rw [HE2.out];exact eqL_all it it2 CL.out (fun i h1 h2=>HE.out i h1 h2 h1)
        clear ih
        go_wp2_with fail
        go_ret
        exact ⟨by first | rfl | exact ret_bool HF.out.symm,hb⟩
     ·have cl':((it.length:Int) !=(it2.length:Int))=true:=by simp;omega
      have HE:Hid (eqA (.mk k sh nu it) (.mk k2 sh2 nu2 it2)=false):=by unfold Hid;rw [HG.out,eqL_len it it2 cl];simp
      clear cl ih
      go_enter Tryz.func127,Tryz.ntmps127
      go_wp2_with (first
       |(go_at_call 128;((with_reducible refine CS.mono ?_);rintro e w3 ⟨rfl,b3⟩;(obtain ⟨q0,q1,q2,q3,q4⟩:=hP1.below b3);(obtain ⟨r0,r1,r2,r3,r4⟩:=hP2.below b3)))
       |(go_at_call 129;((with_reducible refine (CE _ b3).mono ?_);rintro e w4 ⟨rfl,b4⟩;(obtain ⟨m0,m1,m2,m3,m4⟩:=(hP1.below b3).below b4);(obtain ⟨l0,l1,l2,l3,l4⟩:=(hP2.below b3).below b4))))
      go_ret
      exact ⟨by first | rfl | exact ret_bool HE.out.symm,Below.then (Below.then BN b3) b4⟩
    | false =>
     simp only [cn] at CE
     have HE:Hid (eqA (.mk k sh nu it) (.mk k2 sh2 nu2 it2)=false):=by unfold Hid;rw [HG.out,cn];simp
     clear cn ih
     go_enter Tryz.func127,Tryz.ntmps127
     go_wp2_with (first
      |(go_at_call 128;((with_reducible refine CS.mono ?_);rintro e w3 ⟨rfl,b3⟩;(obtain ⟨q0,q1,q2,q3,q4⟩:=hP1.below b3);(obtain ⟨r0,r1,r2,r3,r4⟩:=hP2.below b3)))
      |(go_at_call 129;((with_reducible refine (CE _ b3).mono ?_);rintro e w4 ⟨rfl,b4⟩)))
     go_ret
     exact ⟨by first | rfl | exact ret_bool HE.out.symm,Below.then (Below.then BN b3) b4⟩
   | false =>
    rw [cs] at CS
    have HE:Hid (eqA (.mk k sh nu it) (.mk k2 sh2 nu2 it2)=false):=by unfold Hid;rw [HG.out,cs];simp
    clear cs ih CE
    go_enter Tryz.func127,Tryz.ntmps127
    go_wp2_with (first
     |(go_at_call 128;((with_reducible refine CS.mono ?_);rintro e w3 ⟨rfl,b3⟩)))
    go_ret
    exact ⟨by first | rfl | exact ret_bool HE.out.symm,Below.then BN b3⟩
  ·have ck':(k != k2)=true:=by simpa using ck
   have HE:Hid (eqA (.mk k sh nu it) (.mk k2 sh2 nu2 it2)=false):=by unfold Hid;rw [HG.out,show (k==k2)=false by simpa using ck];simp
   clear ck ih CE CS
   go_enter Tryz.func127,Tryz.ntmps127
   go_wp2_with fail
   go_ret
   exact ⟨by first | rfl | exact ret_bool HE.out.symm,BN⟩
theorem isSm.new (W:World) (B:Nat) (ty:TypeId) (hB:B=W.heap.size):isSm (W.alloc (.cells #[.func (.func 127) #[] #[.pointer (some ⟨B,0,none⟩)]] ty)) B:=by
 subst hB
 unfold isSm
 rw [World.cell?_alloc_new]
 rfl
theorem below3' (w:World) (o o' o'':Obj):Below w.heap.size w (((w.alloc o).alloc o').alloc o''):=(below2 w o o').alloc (by simp;omega) o''
theorem sameQ (v v2:Value) (A B:Arr) (w:World) (h:ArrAt w v A) (h2:ArrAt w v2 B):Calls Tryz.prog 113 #[v,v2] w fun e w'=>e=.returned (.bool (eqA A B))/\Below w.heap.size w w':=by
 have hmf:∀ (fn:Fn) (first cap:Array Value) (w:World),(Instr.makeFunc fn first cap).run Tryz.prog w=.ok (.func fn first cap) w:=fun _ _ _ _=>rfl
 have hA:=h
 have gA:=h2
 obtain ⟨k,sh,nu,it⟩:=A
 obtain ⟨k2,sh2,nu2,it2⟩:=B
 rw [ArrAt] at h h2
 obtain ⟨sa,sc,na,nc,ia,ic,rfl,-⟩:=h
 obtain ⟨sa2,sc2,na2,nc2,ia2,ic2,rfl,-⟩:=h2
 go_enter Tryz.func113,Tryz.ntmps113
 go_wp2_with (go_at_call 127;refine (smQ_any _ _ _ _ _ _ _ (Nat.le_refl _) (hA.below (below3' _ _ _ _)) (gA.below (below3' _ _ _ _)) (isSm.new _ _ _ (by simp))).mono ?_;rintro e w2 ⟨rfl,hb⟩)
 go_ret
 exact ⟨rfl,Below.then (below3' _ _ _ _) hb⟩
end Go.Proofs.YtalkinnbfglkdaaGreatDoor.Shape
