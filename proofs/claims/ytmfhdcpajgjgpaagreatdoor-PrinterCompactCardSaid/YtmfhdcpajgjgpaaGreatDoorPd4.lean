/-
  Layer 3: the reference's check and Right.
  Layer 3: the reference's Right, Shapes, Same, Few, Small and SmallList.
  Layer 3: the reference's Fill: arrays that the call itself makes.
  Layer 10: syntax trees as plain data, and what is said of them: depth, size, equality.
  Layer 10: what it means that cells of a memory hold a node or a statement.
  Layer 10: depth and size, part by part; where kids and statements lie; a parameter that is a node.
-/
import Derived.Test.YtmfhdcpajgjgpaaGreatDoorPd1
import Derived.Deep.RegionWith
import Derived.Deep.RegionHeld3
import Derived.Deep.DeepCutAuto
import Derived.StillTailTactics
set_option maxHeartbeats 2000000
namespace Go.Proofs.YtmfhdcpajgjgpaaGreatDoor.Shape
open Go.RowKit
theorem za {p:Int × Int}{x y:Int}(h:p =(x,y)):Ending.returned (.tuple #[.int .i64 x,.int .i64 y])=.returned (.tuple #[.int .i64 p.1,.int .i64 p.2]):=by rw [h]
theorem ArrAt.drew {w:World}{v:Value}{A:Arr}(h:ArrAt w v A):ArrAt w.drew v A:=h.below (Below.refl _ _).drew
theorem IntsAt.drew {w:World}{a:Option Addr}{cap:Nat}{xs:List Int}(h:IntsAt w a cap xs):IntsAt w.drew a cap xs:=h
theorem Par.drew {w:World}{B:Nat}{c0 c1 c2 c3:Value}(h:Par w B c0 c1 c2 c3):Par w.drew B c0 c1 c2 c3:=h
theorem zr (w:World):Below w.heap.size w w.drew:=(Below.refl _ _).drew
set_option maxRecDepth 100000 in
theorem checkR_kind (v:Value) (k:Int) (sh nu:List Int) (it:List Arr) (w:World) (h:ArrAt w v (.mk k sh nu it)) (hk':k<1∨3<k) :
  Calls Tryz.prog 120 #[v] w fun e w'=>e=.returned (.tuple #[.int .i64 (chk (.mk k sh nu it)).1,.int .i64 (chk (.mk k sh nu it)).2])/\Below w.heap.size w w':=by
 have HE:=chk_kind (sh:=sh) (nu:=nu) (it:=it) hk'
 rw [ArrAt] at h
 obtain ⟨sa,sc,na,nc,ia,ic,rfl,hk,hs,hnn,h1,h2,b,off,ha,hc⟩:=h
 rcases hk' with g | g
 ·go_enter Tryz.func120,Tryz.ntmps120
  go_wp2_with fail
  go_ret2
  exact ⟨by first | rfl | exact za HE,below_new _ _⟩
 ·have g':¬ k<1:=by omega
  go_enter Tryz.func120,Tryz.ntmps120
  go_wp2_with fail
  go_ret2
  exact ⟨by first | rfl | exact za HE,below_new _ _⟩
set_option maxRecDepth 100000 in
theorem checkR_dims1 (v:Value) (sh nu:List Int) (it:List Arr) (w:World) (h:ArrAt w v (.mk 1 sh nu it)) (hd:zP sh≠0) :
  Calls Tryz.prog 120 #[v] w fun e w'=>e=.returned (.tuple #[.int .i64 (chk (.mk 1 sh nu it)).1,.int .i64 (chk (.mk 1 sh nu it)).2])/\Below w.heap.size w w':=by
 have HE:Hid (chk (.mk 1 sh nu it) =(zP sh,0)):=chk_dims (by omega) hd
 have hA:=h
 rw [ArrAt] at h
 obtain ⟨sa,sc,na,nc,ia,ic,rfl,hk,hs,hnn,h1,h2,b,off,ha,hc⟩:=h
 have hA1:=hA.below (below_new w (.cells #[.int .i64 1,.slice sa sh.length sc,.slice na nu.length nc,.slice ia it.length ic] 37))
 have hs1:=hs.below (below_new w (.cells #[.int .i64 1,.slice sa sh.length sc,.slice na nu.length nc,.slice ia it.length ic] 37))
 have hP1:=Par.new w (.int .i64 1) (.slice sa sh.length sc) (.slice na nu.length nc) (.slice ia it.length ic) 37
 have hnl:=hnn.len
 have hd':(zP sh != 0)=true:=by simpa using hd
 clear hd
 go_enter Tryz.func120,Tryz.ntmps120
 go_wp2_with (go_at_call 138;refine (yX _ _ _ _ hs1).mono ?_;rintro e w' ⟨rfl,rfl⟩)
 go_ret2
 exact ⟨by first | rfl | exact za HE.out,below_new _ _⟩
set_option maxRecDepth 100000 in
theorem wU (v:Value) (sh nu:List Int) (it:List Arr) (w:World) (h:ArrAt w v (.mk 1 sh nu it)) (hd:zP sh=0) (hl:¬ (nu.length:Int)=pr sh∨0<it.length) :
  Calls Tryz.prog 120 #[v] w fun e w'=>e=.returned (.tuple #[.int .i64 (chk (.mk 1 sh nu it)).1,.int .i64 (chk (.mk 1 sh nu it)).2])/\Below w.heap.size w w':=by
 have HE:Hid (chk (.mk 1 sh nu it) =(16,0)):=chk_len (by omega) hd hl
 have hA:=h
 rw [ArrAt] at h
 obtain ⟨sa,sc,na,nc,ia,ic,rfl,hk,hs,hnn,h1,h2,b,off,ha,hc⟩:=h
 have hA1:=hA.below (below_new w (.cells #[.int .i64 1,.slice sa sh.length sc,.slice na nu.length nc,.slice ia it.length ic] 37))
 have hs1:=hs.below (below_new w (.cells #[.int .i64 1,.slice sa sh.length sc,.slice na nu.length nc,.slice ia it.length ic] 37))
 have hP1:=Par.new w (.int .i64 1) (.slice sa sh.length sc) (.slice na nu.length nc) (.slice ia it.length ic) 37
 have hnl:=hnn.len
 have hr:=(qG sh).1 hd
 have hz:((zV (.mk 1 sh nu it):Nat):Int)=nu.length:=rfl
 have HL:Hid (¬ (nu.length:Int)=pr sh∨0<it.length):=hl
 clear hl
 go_enter Tryz.func120,Tryz.ntmps120
 go_upto_region 9 with (go_at_call 138;refine (yX _ _ _ _ hs1).mono ?_;rintro e w' ⟨rfl,rfl⟩)
 go_cut [43] (fun s wx=>s=.bool true/\Par wx w.heap.size (.int .i64 1) (.slice sa sh.length sc) (.slice na nu.length nc) (.slice ia it.length ic)/\Below w.heap.size w wx)
 case first =>
  by_cases c:(nu.length:Int)=pr sh
  ·have c1:((nu.length:Int) != pr sh)=false:=by rw [c];simp
   have c2:0 <(it.length:Int):=by rcases HL.out with g | g <;> omega
   clear c
   go_region_held3 (fun w'=>w'.cell? ⟨w.heap.size,0,none⟩=some (.int .i64 1)/\w'.cell? ⟨w.heap.size,1,none⟩=some (.slice sa sh.length sc)/\w'.cell? ⟨w.heap.size,2,none⟩=some (.slice na nu.length nc)/\w'.cell? ⟨w.heap.size,3,none⟩=some (.slice ia it.length ic)) (first | go_keep | exact ⟨q1,q2,q3,q4⟩)
    ((first   |(go_at_call 139;((with_reducible refine (xh _ _ _ hA1.drew).mono ?_);rintro e w1 ⟨rfl,hb1⟩;obtain ⟨q0,q1,q2,q3,q4⟩:=hP1.drew.below hb1))   |(go_at_call 140;((with_reducible refine (countR _ _ _ _ hs1.drew hr).mono ?_);rintro e w' ⟨rfl,rfl⟩))   |(go_at_call 140;((with_reducible refine (countR _ _ _ _ (hs1.drew.below hb1) hr).mono ?_);rintro e w' ⟨rfl,rfl⟩))))
   all_goals (go_wp2_with fail;go_meet)
   all_goals exact ⟨congrArg Value.bool (decide_eq_true (by omega)),hP1.drew.below hb1,Below.then (below_new _ _) (Below.then (zr _) hb1)⟩
  ·have c1:((nu.length:Int) != pr sh)=true:=by simpa using c
   clear c
   first |(go_region_with (first
     |(go_at_call 139;((with_reducible refine (xh _ _ _ hA1.drew).mono ?_);rintro e w1 ⟨rfl,hb1⟩;obtain ⟨q0,q1,q2,q3,q4⟩:=hP1.drew.below hb1))
     |(go_at_call 140;((with_reducible refine (countR _ _ _ _ hs1.drew hr).mono ?_);rintro e w' ⟨rfl,rfl⟩))
     |(go_at_call 140;((with_reducible refine (countR _ _ _ _ (hs1.drew.below hb1) hr).mono ?_);rintro e w' ⟨rfl,rfl⟩)))) | fail
   all_goals (go_wp2_with fail;go_meet)
   all_goals exact ⟨rfl,hP1.drew.below hb1,Below.then (below_new _ _) (Below.then (zr _) hb1)⟩
 case rest =>
  obtain ⟨rfl,hp,hb⟩:=hcut
  go_wp2_with fail
  go_ret2
  exact ⟨by first | rfl | exact za HE.out,hb⟩
set_option maxRecDepth 100000 in
theorem checkR_ok1 (n:Nat) (ih:∀ (v:Value) (A:Arr) (w:World),rk A<=n->ArrAt w v A->Calls Tryz.prog 120 #[v] w fun e w'=>e=.returned (.tuple #[.int .i64 (chk A).1,.int .i64 (chk A).2])/\Below w.heap.size w w')
  (v:Value) (sh nu:List Int) (it:List Arr) (w:World) (hn:rk (.mk 1 sh nu it)<=n+1) (h:ArrAt w v (.mk 1 sh nu it)) (hd:zP sh=0) (hl:(nu.length:Int)=pr sh) (ho:it.length=0) :
  Calls Tryz.prog 120 #[v] w fun e w'=>e=.returned (.tuple #[.int .i64 (chk (.mk 1 sh nu it)).1,.int .i64 (chk (.mk 1 sh nu it)).2])/\Below w.heap.size w w':=by
 have HG:Hid (¬ ((zV (.mk 1 sh nu it):Int)≠pr sh∨0<other 1 nu it)):=by
  unfold Hid
  show ¬ ((nu.length:Int)≠pr sh∨0<it.length)
  omega
 have hA:=h
 rw [ArrAt] at h
 obtain ⟨sa,sc,na,nc,ia,ic,rfl,hk,hs,hnn,h1,h2,b,off,ha,hc⟩:=h
 have hA1:=hA.below (below_new w (.cells #[.int .i64 1,.slice sa sh.length sc,.slice na nu.length nc,.slice ia it.length ic] 37))
 have hs1:=hs.below (below_new w (.cells #[.int .i64 1,.slice sa sh.length sc,.slice na nu.length nc,.slice ia it.length ic] 37))
 have hP1:=Par.new w (.int .i64 1) (.slice sa sh.length sc) (.slice na nu.length nc) (.slice ia it.length ic) 37
 have hnl:=hnn.len
 have hr:=(qG sh).1 hd
 have hz:((zV (.mk 1 sh nu it):Nat):Int)=nu.length:=rfl
 have hq:((nu.length:Int) != pr sh)=false:=by rw [hl];simp
 have ho':¬ (0 <(it.length:Int)):=by omega
 have HO:Hid (it.length=0):=ho
 clear hl ho
 go_enter Tryz.func120,Tryz.ntmps120
 go_upto_region 9 with (go_at_call 138;refine (yX _ _ _ _ hs1).mono ?_;rintro e w' ⟨rfl,rfl⟩)
 go_cut [43] (fun s wx=>s=.bool false/\Par wx w.heap.size (.int .i64 1) (.slice sa sh.length sc) (.slice na nu.length nc) (.slice ia it.length ic)/\Below w.heap.size w wx)
 case first =>
  go_region_held3 (fun w'=>w'.cell? ⟨w.heap.size,0,none⟩=some (.int .i64 1)/\w'.cell? ⟨w.heap.size,1,none⟩=some (.slice sa sh.length sc)/\w'.cell? ⟨w.heap.size,2,none⟩=some (.slice na nu.length nc)/\w'.cell? ⟨w.heap.size,3,none⟩=some (.slice ia it.length ic)) (first | go_keep | exact ⟨q1,q2,q3,q4⟩)
   ((first   |(go_at_call 139;((with_reducible refine (xh _ _ _ hA1.drew).mono ?_);rintro e w1 ⟨rfl,hb1⟩;obtain ⟨q0,q1,q2,q3,q4⟩:=hP1.drew.below hb1))   |(go_at_call 140;((with_reducible refine (countR _ _ _ _ hs1.drew hr).mono ?_);rintro e w' ⟨rfl,rfl⟩))   |(go_at_call 140;((with_reducible refine (countR _ _ _ _ (hs1.drew.below hb1) hr).mono ?_);rintro e w' ⟨rfl,rfl⟩))))
  all_goals (go_wp2_with fail;go_meet)
  all_goals exact ⟨congrArg Value.bool (decide_eq_false (by have:=HO.out;omega)),hP1.drew.below hb1,Below.then (below_new _ _) (Below.then (zr _) hb1)⟩
 case rest =>
  obtain ⟨rfl,hp,hb⟩:=hcut
  obtain ⟨p0,p1,p2,p3,p4⟩:=id hp
  clear hA1 hs1 hP1 hq ho'
  go_wp2_with fail
  go_loop [6] (fun i=>∃ j:Nat,j<=nu.length/\i=.int .i64 j/\(nu.take j).all (zv 1)=true) (fun i=>nu.length - (intOf i).toNat)
  case atStart=>exact ⟨0,Nat.zero_le _,rfl,rfl⟩
  case round =>
   obtain ⟨j,hj,rfl,hall⟩:=hrel
   by_cases hlt:j<nu.length
   ·obtain ⟨b1,o1,f1,v1⟩:=(hnn.below hb).at hlt
    by_cases c1:numB nu[j]=true
    ·have HE2:Hid ((nu.take (j+1)).all (zv 1)=true):=yg hlt hall (by simp [zv,c1])
     clear hall
     go_wp2_with (go_at_call 141;refine (numberR _ _).mono ?_;rintro e w' ⟨rfl,rfl⟩)
     go_round
     case rel=>exact ⟨j+1,by omega,by go_num,HE2.out⟩
     case measure=>simp [intOf];omega
    ·have c1':numB nu[j]=false:=by simpa using c1
     have HE2:Hid (chk (.mk 1 sh nu it) =(17,0)):=chk_elem (by omega) hd HG.out (all_bad hlt (by simp [zv,c1']))
     clear hall c1
     go_wp2_with (go_at_call 141;refine (numberR _ _).mono ?_;rintro e w' ⟨rfl,rfl⟩)
     go_ret2
     exact ⟨by first | rfl | exact za HE2.out,hb⟩
   ·obtain rfl:j=nu.length:=by omega
    rw [List.take_length] at hall
    have HR:Hid (chk (.mk 1 sh nu it)=match chkL 0 it with | none=>(17,0) | some d=>qN d (wt (.mk 1 sh nu it))):=yb (by omega) hd HG.out hall
    clear hall
    go_wp2_with fail
    go_loopw [7,8] (fun d i wr=>∃ (j:Nat) (D:Int),j<=it.length/\d=.int .i64 D/\i=.int .i64 j/\0<=D/\D<=17/\Par wr w.heap.size (.int .i64 1) (.slice sa sh.length sc) (.slice na nu.length nc) (.slice ia it.length ic)/\Below w.heap.size w wr/\chkL 0 it=chkL D (it.drop j)) (fun _ i _=>it.length - (intOf i).toNat)
    case atStart=>exact ⟨0,0,Nat.zero_le _,rfl,rfl,by omega,by omega,hp,hb,by rw [List.drop_zero]⟩
    case round =>
     clear hp hb p0 p1 p2 p3 p4
     obtain ⟨j,D,hj,rfl,rfl,hD0,hD1,hp,hb,hg⟩:=hrel
     have HD:Hid (chkL 0 it=chkL D (it.drop j)):=hg
     clear hg
     obtain ⟨p0,p1,p2,p3,p4⟩:=id hp
     by_cases hlt:j<it.length
     ·have hi:=qO (ic:=ic) rfl ha hlt
      obtain ⟨c0,c1,c2,c3,⟨g0,g1,g2,g3⟩,hB⟩:=(ArrsAt.below hb hc).at hlt
      have bd:=vz it[j]
      obtain ⟨bd1,bd2⟩:=bd
      have hrk:rk it[j]<=n:=Nat.le_of_lt_succ (Nat.lt_of_lt_of_le (xd hlt) hn)
      by_cases he:(chk it[j]).1=0
      ·have HS:Hid (chkL D (it.drop j)=chkL (max D ((chk it[j]).2+1)) (it.drop (j+1))):=vS hlt he
       by_cases hm:(chk it[j]).2+1<=D
       ·have HM:Hid (max D ((chk it[j]).2+1)=D):=yu hm
        go_wp2_with (go_at_call 120;refine (ih _ _ _ hrk hB).mono ?_;rintro e w2 ⟨rfl,hb2⟩)
        go_roundw
        case rel=>exact ⟨j+1,D,by omega,rfl,by go_num,hD0,hD1,hp.below hb2,hb.trans (hb2.mono hb.size),by rw [HD.out,HS.out,HM.out]⟩
        case measure=>simp [intOf];omega
       ·have HM:Hid (max D ((chk it[j]).2+1) =(chk it[j]).2+1):=vo hm
        go_wp2_with (go_at_call 120;refine (ih _ _ _ hrk hB).mono ?_;rintro e w2 ⟨rfl,hb2⟩)
        go_roundw
        case rel=>exact ⟨j+1,(chk it[j]).2+1,by omega,rfl,by go_num,by omega,by omega,hp.below hb2,hb.trans (hb2.mono hb.size),by rw [HD.out,HS.out,HM.out]⟩
        case measure=>simp [intOf];omega
      ·have HE2:Hid (chk (.mk 1 sh nu it) =(17,0)):=by unfold Hid;rw [HR.out,HD.out,chkL_bad hlt he]
       have he':((chk it[j]).1 != 0)=true:=by simpa using he
       clear he HR
       go_wp2_with (go_at_call 120;refine (ih _ _ _ hrk hB).mono ?_;rintro e w2 ⟨rfl,hb2⟩)
       go_ret2
       exact ⟨by first | rfl | exact za HE2.out,hb.trans (hb2.mono hb.size)⟩
     ·have HX:Hid (chk (.mk 1 sh nu it)=qN D (wt (.mk 1 sh nu it))):=by unfold Hid;rw [HR.out,HD.out,yc hlt]
      have hAr:=hA.below hb
      clear HR
      by_cases c6:16<D
      ·have HE2:Hid (chk (.mk 1 sh nu it) =(21,0)):=by unfold Hid;rw [HX.out,qN,if_pos (Or.inl c6)]
       clear HX
       go_wp2_with fail
       go_ret2
       exact ⟨by first | rfl | exact za HE2.out,hb⟩
      ·by_cases c7:262144<wt (.mk 1 sh nu it)
       ·have HE2:Hid (chk (.mk 1 sh nu it) =(21,0)):=by unfold Hid;rw [HX.out,qN,if_pos (Or.inr c7)]
        clear HX
        go_wp2_with (go_at_call 143;refine (vH _ _ _ hAr).mono ?_;rintro e w2 ⟨rfl,hb2⟩)
        go_ret2
        exact ⟨by first | rfl | exact za HE2.out,hb.trans (hb2.mono hb.size)⟩
       ·have HE2:Hid (chk (.mk 1 sh nu it) =(0,D)):=by unfold Hid;rw [HX.out,qN,if_neg (by omega)]
        clear HX
        go_wp2_with (go_at_call 143;refine (vH _ _ _ hAr).mono ?_;rintro e w2 ⟨rfl,hb2⟩)
        go_ret2
        exact ⟨by first | rfl | exact za HE2.out,hb.trans (hb2.mono hb.size)⟩
set_option maxRecDepth 100000 in
theorem checkR_dims2 (v:Value) (sh nu:List Int) (it:List Arr) (w:World) (h:ArrAt w v (.mk 2 sh nu it)) (hd:zP sh≠0) :
  Calls Tryz.prog 120 #[v] w fun e w'=>e=.returned (.tuple #[.int .i64 (chk (.mk 2 sh nu it)).1,.int .i64 (chk (.mk 2 sh nu it)).2])/\Below w.heap.size w w':=by
 have HE:Hid (chk (.mk 2 sh nu it) =(zP sh,0)):=chk_dims (by omega) hd
 have hA:=h
 rw [ArrAt] at h
 obtain ⟨sa,sc,na,nc,ia,ic,rfl,hk,hs,hnn,h1,h2,b,off,ha,hc⟩:=h
 have hA1:=hA.below (below_new w (.cells #[.int .i64 2,.slice sa sh.length sc,.slice na nu.length nc,.slice ia it.length ic] 37))
 have hs1:=hs.below (below_new w (.cells #[.int .i64 2,.slice sa sh.length sc,.slice na nu.length nc,.slice ia it.length ic] 37))
 have hP1:=Par.new w (.int .i64 2) (.slice sa sh.length sc) (.slice na nu.length nc) (.slice ia it.length ic) 37
 have hnl:=hnn.len
 have hd':(zP sh != 0)=true:=by simpa using hd
 clear hd
 go_enter Tryz.func120,Tryz.ntmps120
 go_wp2_with (go_at_call 138;refine (yX _ _ _ _ hs1).mono ?_;rintro e w' ⟨rfl,rfl⟩)
 go_ret2
 exact ⟨by first | rfl | exact za HE.out,below_new _ _⟩
set_option maxRecDepth 100000 in
theorem wT (v:Value) (sh nu:List Int) (it:List Arr) (w:World) (h:ArrAt w v (.mk 2 sh nu it)) (hd:zP sh=0) (hl:¬ (nu.length:Int)=pr sh∨0<it.length) :
  Calls Tryz.prog 120 #[v] w fun e w'=>e=.returned (.tuple #[.int .i64 (chk (.mk 2 sh nu it)).1,.int .i64 (chk (.mk 2 sh nu it)).2])/\Below w.heap.size w w':=by
 have HE:Hid (chk (.mk 2 sh nu it) =(16,0)):=chk_len (by omega) hd hl
 have hA:=h
 rw [ArrAt] at h
 obtain ⟨sa,sc,na,nc,ia,ic,rfl,hk,hs,hnn,h1,h2,b,off,ha,hc⟩:=h
 have hA1:=hA.below (below_new w (.cells #[.int .i64 2,.slice sa sh.length sc,.slice na nu.length nc,.slice ia it.length ic] 37))
 have hs1:=hs.below (below_new w (.cells #[.int .i64 2,.slice sa sh.length sc,.slice na nu.length nc,.slice ia it.length ic] 37))
 have hP1:=Par.new w (.int .i64 2) (.slice sa sh.length sc) (.slice na nu.length nc) (.slice ia it.length ic) 37
 have hnl:=hnn.len
 have hr:=(qG sh).1 hd
 have hz:((zV (.mk 2 sh nu it):Nat):Int)=nu.length:=rfl
 have HL:Hid (¬ (nu.length:Int)=pr sh∨0<it.length):=hl
 clear hl
 go_enter Tryz.func120,Tryz.ntmps120
 go_upto_region 9 with (go_at_call 138;refine (yX _ _ _ _ hs1).mono ?_;rintro e w' ⟨rfl,rfl⟩)
 go_cut [43] (fun s wx=>s=.bool true/\Par wx w.heap.size (.int .i64 2) (.slice sa sh.length sc) (.slice na nu.length nc) (.slice ia it.length ic)/\Below w.heap.size w wx)
 case first =>
  by_cases c:(nu.length:Int)=pr sh
  ·have c1:((nu.length:Int) != pr sh)=false:=by rw [c];simp
   have c2:0 <(it.length:Int):=by rcases HL.out with g | g <;> omega
   clear c
   go_region_held3 (fun w'=>w'.cell? ⟨w.heap.size,0,none⟩=some (.int .i64 2)/\w'.cell? ⟨w.heap.size,1,none⟩=some (.slice sa sh.length sc)/\w'.cell? ⟨w.heap.size,2,none⟩=some (.slice na nu.length nc)/\w'.cell? ⟨w.heap.size,3,none⟩=some (.slice ia it.length ic)) (first | go_keep | exact ⟨q1,q2,q3,q4⟩)
    ((first   |(go_at_call 139;((with_reducible refine (xh _ _ _ hA1.drew).mono ?_);rintro e w1 ⟨rfl,hb1⟩;obtain ⟨q0,q1,q2,q3,q4⟩:=hP1.drew.below hb1))   |(go_at_call 140;((with_reducible refine (countR _ _ _ _ hs1.drew hr).mono ?_);rintro e w' ⟨rfl,rfl⟩))   |(go_at_call 140;((with_reducible refine (countR _ _ _ _ (hs1.drew.below hb1) hr).mono ?_);rintro e w' ⟨rfl,rfl⟩))))
   all_goals (go_wp2_with fail;go_meet)
   all_goals exact ⟨congrArg Value.bool (decide_eq_true (by omega)),hP1.drew.below hb1,Below.then (below_new _ _) (Below.then (zr _) hb1)⟩
  ·have c1:((nu.length:Int) != pr sh)=true:=by simpa using c
   clear c
   first |(go_region_with (first
     |(go_at_call 139;((with_reducible refine (xh _ _ _ hA1.drew).mono ?_);rintro e w1 ⟨rfl,hb1⟩;obtain ⟨q0,q1,q2,q3,q4⟩:=hP1.drew.below hb1))
     |(go_at_call 140;((with_reducible refine (countR _ _ _ _ hs1.drew hr).mono ?_);rintro e w' ⟨rfl,rfl⟩))
     |(go_at_call 140;((with_reducible refine (countR _ _ _ _ (hs1.drew.below hb1) hr).mono ?_);rintro e w' ⟨rfl,rfl⟩)))) | fail
   all_goals (go_wp2_with fail;go_meet)
   all_goals exact ⟨rfl,hP1.drew.below hb1,Below.then (below_new _ _) (Below.then (zr _) hb1)⟩
 case rest =>
  obtain ⟨rfl,hp,hb⟩:=hcut
  go_wp2_with fail
  go_ret2
  exact ⟨by first | rfl | exact za HE.out,hb⟩
set_option maxRecDepth 100000 in
theorem checkR_ok2 (n:Nat) (ih:∀ (v:Value) (A:Arr) (w:World),rk A<=n->ArrAt w v A->Calls Tryz.prog 120 #[v] w fun e w'=>e=.returned (.tuple #[.int .i64 (chk A).1,.int .i64 (chk A).2])/\Below w.heap.size w w')
  (v:Value) (sh nu:List Int) (it:List Arr) (w:World) (hn:rk (.mk 2 sh nu it)<=n+1) (h:ArrAt w v (.mk 2 sh nu it)) (hd:zP sh=0) (hl:(nu.length:Int)=pr sh) (ho:it.length=0) :
  Calls Tryz.prog 120 #[v] w fun e w'=>e=.returned (.tuple #[.int .i64 (chk (.mk 2 sh nu it)).1,.int .i64 (chk (.mk 2 sh nu it)).2])/\Below w.heap.size w w':=by
 have HG:Hid (¬ ((zV (.mk 2 sh nu it):Int)≠pr sh∨0<other 2 nu it)):=by
  unfold Hid
  show ¬ ((nu.length:Int)≠pr sh∨0<it.length)
  omega
 have hA:=h
 rw [ArrAt] at h
 obtain ⟨sa,sc,na,nc,ia,ic,rfl,hk,hs,hnn,h1,h2,b,off,ha,hc⟩:=h
 have hA1:=hA.below (below_new w (.cells #[.int .i64 2,.slice sa sh.length sc,.slice na nu.length nc,.slice ia it.length ic] 37))
 have hs1:=hs.below (below_new w (.cells #[.int .i64 2,.slice sa sh.length sc,.slice na nu.length nc,.slice ia it.length ic] 37))
 have hP1:=Par.new w (.int .i64 2) (.slice sa sh.length sc) (.slice na nu.length nc) (.slice ia it.length ic) 37
 have hnl:=hnn.len
 have hr:=(qG sh).1 hd
 have hz:((zV (.mk 2 sh nu it):Nat):Int)=nu.length:=rfl
 have hq:((nu.length:Int) != pr sh)=false:=by rw [hl];simp
 have ho':¬ (0 <(it.length:Int)):=by omega
 have HO:Hid (it.length=0):=ho
 clear hl ho
 go_enter Tryz.func120,Tryz.ntmps120
 go_upto_region 9 with (go_at_call 138;refine (yX _ _ _ _ hs1).mono ?_;rintro e w' ⟨rfl,rfl⟩)
 go_cut [43] (fun s wx=>s=.bool false/\Par wx w.heap.size (.int .i64 2) (.slice sa sh.length sc) (.slice na nu.length nc) (.slice ia it.length ic)/\Below w.heap.size w wx)
 case first =>
  go_region_held3 (fun w'=>w'.cell? ⟨w.heap.size,0,none⟩=some (.int .i64 2)/\w'.cell? ⟨w.heap.size,1,none⟩=some (.slice sa sh.length sc)/\w'.cell? ⟨w.heap.size,2,none⟩=some (.slice na nu.length nc)/\w'.cell? ⟨w.heap.size,3,none⟩=some (.slice ia it.length ic)) (first | go_keep | exact ⟨q1,q2,q3,q4⟩)
   ((first   |(go_at_call 139;((with_reducible refine (xh _ _ _ hA1.drew).mono ?_);rintro e w1 ⟨rfl,hb1⟩;obtain ⟨q0,q1,q2,q3,q4⟩:=hP1.drew.below hb1))   |(go_at_call 140;((with_reducible refine (countR _ _ _ _ hs1.drew hr).mono ?_);rintro e w' ⟨rfl,rfl⟩))   |(go_at_call 140;((with_reducible refine (countR _ _ _ _ (hs1.drew.below hb1) hr).mono ?_);rintro e w' ⟨rfl,rfl⟩))))
  all_goals (go_wp2_with fail;go_meet)
  all_goals exact ⟨congrArg Value.bool (decide_eq_false (by have:=HO.out;omega)),hP1.drew.below hb1,Below.then (below_new _ _) (Below.then (zr _) hb1)⟩
 case rest =>
  obtain ⟨rfl,hp,hb⟩:=hcut
  obtain ⟨p0,p1,p2,p3,p4⟩:=id hp
  clear hA1 hs1 hP1 hq ho'
  go_wp2_with fail
  go_loop [6] (fun i=>∃ j:Nat,j<=nu.length/\i=.int .i64 j/\(nu.take j).all (zv 2)=true) (fun i=>nu.length - (intOf i).toNat)
  case atStart=>exact ⟨0,Nat.zero_le _,rfl,rfl⟩
  case round =>
   obtain ⟨j,hj,rfl,hall⟩:=hrel
   by_cases hlt:j<nu.length
   ·obtain ⟨b1,o1,f1,v1⟩:=(hnn.below hb).at hlt
    by_cases c1:kO nu[j]=true
    ·have HE2:Hid ((nu.take (j+1)).all (zv 2)=true):=yg hlt hall (by simp [zv,c1])
     clear hall
     go_wp2_with (go_at_call 142;refine (runeR _ _).mono ?_;rintro e w' ⟨rfl,rfl⟩)
     go_round
     case rel=>exact ⟨j+1,by omega,by go_num,HE2.out⟩
     case measure=>simp [intOf];omega
    ·have c1':kO nu[j]=false:=by simpa using c1
     have HE2:Hid (chk (.mk 2 sh nu it) =(17,0)):=chk_elem (by omega) hd HG.out (all_bad hlt (by simp [zv,c1']))
     clear hall c1
     go_wp2_with (go_at_call 142;refine (runeR _ _).mono ?_;rintro e w' ⟨rfl,rfl⟩)
     go_ret2
     exact ⟨by first | rfl | exact za HE2.out,hb⟩
   ·obtain rfl:j=nu.length:=by omega
    rw [List.take_length] at hall
    have HR:Hid (chk (.mk 2 sh nu it)=match chkL 0 it with | none=>(17,0) | some d=>qN d (wt (.mk 2 sh nu it))):=yb (by omega) hd HG.out hall
    clear hall
    go_wp2_with fail
    go_loopw [7,8] (fun d i wr=>∃ (j:Nat) (D:Int),j<=it.length/\d=.int .i64 D/\i=.int .i64 j/\0<=D/\D<=17/\Par wr w.heap.size (.int .i64 2) (.slice sa sh.length sc) (.slice na nu.length nc) (.slice ia it.length ic)/\Below w.heap.size w wr/\chkL 0 it=chkL D (it.drop j)) (fun _ i _=>it.length - (intOf i).toNat)
    case atStart=>exact ⟨0,0,Nat.zero_le _,rfl,rfl,by omega,by omega,hp,hb,by rw [List.drop_zero]⟩
    case round =>
     clear hp hb p0 p1 p2 p3 p4
     obtain ⟨j,D,hj,rfl,rfl,hD0,hD1,hp,hb,hg⟩:=hrel
     have HD:Hid (chkL 0 it=chkL D (it.drop j)):=hg
     clear hg
     obtain ⟨p0,p1,p2,p3,p4⟩:=id hp
     by_cases hlt:j<it.length
     ·have hi:=qO (ic:=ic) rfl ha hlt
      obtain ⟨c0,c1,c2,c3,⟨g0,g1,g2,g3⟩,hB⟩:=(ArrsAt.below hb hc).at hlt
      have bd:=vz it[j]
      obtain ⟨bd1,bd2⟩:=bd
      have hrk:rk it[j]<=n:=Nat.le_of_lt_succ (Nat.lt_of_lt_of_le (xd hlt) hn)
      by_cases he:(chk it[j]).1=0
      ·have HS:Hid (chkL D (it.drop j)=chkL (max D ((chk it[j]).2+1)) (it.drop (j+1))):=vS hlt he
       by_cases hm:(chk it[j]).2+1<=D
       ·have HM:Hid (max D ((chk it[j]).2+1)=D):=yu hm
        go_wp2_with (go_at_call 120;refine (ih _ _ _ hrk hB).mono ?_;rintro e w2 ⟨rfl,hb2⟩)
        go_roundw
        case rel=>exact ⟨j+1,D,by omega,rfl,by go_num,hD0,hD1,hp.below hb2,hb.trans (hb2.mono hb.size),by rw [HD.out,HS.out,HM.out]⟩
        case measure=>simp [intOf];omega
       ·have HM:Hid (max D ((chk it[j]).2+1) =(chk it[j]).2+1):=vo hm
        go_wp2_with (go_at_call 120;refine (ih _ _ _ hrk hB).mono ?_;rintro e w2 ⟨rfl,hb2⟩)
        go_roundw
        case rel=>exact ⟨j+1,(chk it[j]).2+1,by omega,rfl,by go_num,by omega,by omega,hp.below hb2,hb.trans (hb2.mono hb.size),by rw [HD.out,HS.out,HM.out]⟩
        case measure=>simp [intOf];omega
      ·have HE2:Hid (chk (.mk 2 sh nu it) =(17,0)):=by unfold Hid;rw [HR.out,HD.out,chkL_bad hlt he]
       have he':((chk it[j]).1 != 0)=true:=by simpa using he
       clear he HR
       go_wp2_with (go_at_call 120;refine (ih _ _ _ hrk hB).mono ?_;rintro e w2 ⟨rfl,hb2⟩)
       go_ret2
       exact ⟨by first | rfl | exact za HE2.out,hb.trans (hb2.mono hb.size)⟩
     ·have HX:Hid (chk (.mk 2 sh nu it)=qN D (wt (.mk 2 sh nu it))):=by unfold Hid;rw [HR.out,HD.out,yc hlt]
      have hAr:=hA.below hb
      clear HR
      by_cases c6:16<D
      ·have HE2:Hid (chk (.mk 2 sh nu it) =(21,0)):=by unfold Hid;rw [HX.out,qN,if_pos (Or.inl c6)]
       clear HX
       go_wp2_with fail
       go_ret2
       exact ⟨by first | rfl | exact za HE2.out,hb⟩
      ·by_cases c7:262144<wt (.mk 2 sh nu it)
       ·have HE2:Hid (chk (.mk 2 sh nu it) =(21,0)):=by unfold Hid;rw [HX.out,qN,if_pos (Or.inr c7)]
        clear HX
        go_wp2_with (go_at_call 143;refine (vH _ _ _ hAr).mono ?_;rintro e w2 ⟨rfl,hb2⟩)
        go_ret2
        exact ⟨by first | rfl | exact za HE2.out,hb.trans (hb2.mono hb.size)⟩
       ·have HE2:Hid (chk (.mk 2 sh nu it) =(0,D)):=by unfold Hid;rw [HX.out,qN,if_neg (by omega)]
        clear HX
        go_wp2_with (go_at_call 143;refine (vH _ _ _ hAr).mono ?_;rintro e w2 ⟨rfl,hb2⟩)
        go_ret2
        exact ⟨by first | rfl | exact za HE2.out,hb.trans (hb2.mono hb.size)⟩
set_option maxRecDepth 100000 in
theorem checkR_dims3 (v:Value) (sh nu:List Int) (it:List Arr) (w:World) (h:ArrAt w v (.mk 3 sh nu it)) (hd:zP sh≠0) :
  Calls Tryz.prog 120 #[v] w fun e w'=>e=.returned (.tuple #[.int .i64 (chk (.mk 3 sh nu it)).1,.int .i64 (chk (.mk 3 sh nu it)).2])/\Below w.heap.size w w':=by
 have HE:Hid (chk (.mk 3 sh nu it) =(zP sh,0)):=chk_dims (by omega) hd
 have hA:=h
 rw [ArrAt] at h
 obtain ⟨sa,sc,na,nc,ia,ic,rfl,hk,hs,hnn,h1,h2,b,off,ha,hc⟩:=h
 have hA1:=hA.below (below_new w (.cells #[.int .i64 3,.slice sa sh.length sc,.slice na nu.length nc,.slice ia it.length ic] 37))
 have hs1:=hs.below (below_new w (.cells #[.int .i64 3,.slice sa sh.length sc,.slice na nu.length nc,.slice ia it.length ic] 37))
 have hP1:=Par.new w (.int .i64 3) (.slice sa sh.length sc) (.slice na nu.length nc) (.slice ia it.length ic) 37
 have hnl:=hnn.len
 have hd':(zP sh != 0)=true:=by simpa using hd
 clear hd
 go_enter Tryz.func120,Tryz.ntmps120
 go_wp2_with (go_at_call 138;refine (yX _ _ _ _ hs1).mono ?_;rintro e w' ⟨rfl,rfl⟩)
 go_ret2
 exact ⟨by first | rfl | exact za HE.out,below_new _ _⟩
set_option maxRecDepth 100000 in
theorem wR (v:Value) (sh nu:List Int) (it:List Arr) (w:World) (h:ArrAt w v (.mk 3 sh nu it)) (hd:zP sh=0) (hl:¬ (it.length:Int)=pr sh∨0<nu.length) :
  Calls Tryz.prog 120 #[v] w fun e w'=>e=.returned (.tuple #[.int .i64 (chk (.mk 3 sh nu it)).1,.int .i64 (chk (.mk 3 sh nu it)).2])/\Below w.heap.size w w':=by
 have HE:Hid (chk (.mk 3 sh nu it) =(16,0)):=chk_len (by omega) hd hl
 have hA:=h
 rw [ArrAt] at h
 obtain ⟨sa,sc,na,nc,ia,ic,rfl,hk,hs,hnn,h1,h2,b,off,ha,hc⟩:=h
 have hA1:=hA.below (below_new w (.cells #[.int .i64 3,.slice sa sh.length sc,.slice na nu.length nc,.slice ia it.length ic] 37))
 have hs1:=hs.below (below_new w (.cells #[.int .i64 3,.slice sa sh.length sc,.slice na nu.length nc,.slice ia it.length ic] 37))
 have hP1:=Par.new w (.int .i64 3) (.slice sa sh.length sc) (.slice na nu.length nc) (.slice ia it.length ic) 37
 have hnl:=hnn.len
 have hr:=(qG sh).1 hd
 have hz:((zV (.mk 3 sh nu it):Nat):Int)=it.length:=rfl
 have HL:Hid (¬ (it.length:Int)=pr sh∨0<nu.length):=hl
 clear hl
 go_enter Tryz.func120,Tryz.ntmps120
 go_upto_region 9 with (go_at_call 138;refine (yX _ _ _ _ hs1).mono ?_;rintro e w' ⟨rfl,rfl⟩)
 go_cut [43] (fun s wx=>s=.bool true/\Par wx w.heap.size (.int .i64 3) (.slice sa sh.length sc) (.slice na nu.length nc) (.slice ia it.length ic)/\Below w.heap.size w wx)
 case first =>
  by_cases c:(it.length:Int)=pr sh
  ·have c1:((it.length:Int) != pr sh)=false:=by rw [c];simp
   have c2:0 <(nu.length:Int):=by rcases HL.out with g | g <;> omega
   clear c
   go_region_held3 (fun w'=>w'.cell? ⟨w.heap.size,0,none⟩=some (.int .i64 3)/\w'.cell? ⟨w.heap.size,1,none⟩=some (.slice sa sh.length sc)/\w'.cell? ⟨w.heap.size,2,none⟩=some (.slice na nu.length nc)/\w'.cell? ⟨w.heap.size,3,none⟩=some (.slice ia it.length ic)) (first | go_keep | exact ⟨q1,q2,q3,q4⟩)
    ((first   |(go_at_call 139;((with_reducible refine (xh _ _ _ hA1.drew).mono ?_);rintro e w1 ⟨rfl,hb1⟩;obtain ⟨q0,q1,q2,q3,q4⟩:=hP1.drew.below hb1))   |(go_at_call 140;((with_reducible refine (countR _ _ _ _ hs1.drew hr).mono ?_);rintro e w' ⟨rfl,rfl⟩))   |(go_at_call 140;((with_reducible refine (countR _ _ _ _ (hs1.drew.below hb1) hr).mono ?_);rintro e w' ⟨rfl,rfl⟩))))
   all_goals (go_wp2_with fail;go_meet)
   all_goals exact ⟨congrArg Value.bool (decide_eq_true (by omega)),hP1.drew.below hb1,Below.then (below_new _ _) (Below.then (zr _) hb1)⟩
  ·have c1:((it.length:Int) != pr sh)=true:=by simpa using c
   clear c
   first |(go_region_with (first
     |(go_at_call 139;((with_reducible refine (xh _ _ _ hA1.drew).mono ?_);rintro e w1 ⟨rfl,hb1⟩;obtain ⟨q0,q1,q2,q3,q4⟩:=hP1.drew.below hb1))
     |(go_at_call 140;((with_reducible refine (countR _ _ _ _ hs1.drew hr).mono ?_);rintro e w' ⟨rfl,rfl⟩))
     |(go_at_call 140;((with_reducible refine (countR _ _ _ _ (hs1.drew.below hb1) hr).mono ?_);rintro e w' ⟨rfl,rfl⟩)))) | fail
   all_goals (go_wp2_with fail;go_meet)
   all_goals exact ⟨rfl,hP1.drew.below hb1,Below.then (below_new _ _) (Below.then (zr _) hb1)⟩
 case rest =>
  obtain ⟨rfl,hp,hb⟩:=hcut
  go_wp2_with fail
  go_ret2
  exact ⟨by first | rfl | exact za HE.out,hb⟩
set_option maxRecDepth 100000 in
theorem checkR_ok3 (n:Nat) (ih:∀ (v:Value) (A:Arr) (w:World),rk A<=n->ArrAt w v A->Calls Tryz.prog 120 #[v] w fun e w'=>e=.returned (.tuple #[.int .i64 (chk A).1,.int .i64 (chk A).2])/\Below w.heap.size w w')
  (v:Value) (sh nu:List Int) (it:List Arr) (w:World) (hn:rk (.mk 3 sh nu it)<=n+1) (h:ArrAt w v (.mk 3 sh nu it)) (hd:zP sh=0) (hl:(it.length:Int)=pr sh) (ho:nu.length=0) :
  Calls Tryz.prog 120 #[v] w fun e w'=>e=.returned (.tuple #[.int .i64 (chk (.mk 3 sh nu it)).1,.int .i64 (chk (.mk 3 sh nu it)).2])/\Below w.heap.size w w':=by
 have HG:Hid (¬ ((zV (.mk 3 sh nu it):Int)≠pr sh∨0<other 3 nu it)):=by
  unfold Hid
  show ¬ ((it.length:Int)≠pr sh∨0<nu.length)
  omega
 have hA:=h
 rw [ArrAt] at h
 obtain ⟨sa,sc,na,nc,ia,ic,rfl,hk,hs,hnn,h1,h2,b,off,ha,hc⟩:=h
 have hA1:=hA.below (below_new w (.cells #[.int .i64 3,.slice sa sh.length sc,.slice na nu.length nc,.slice ia it.length ic] 37))
 have hs1:=hs.below (below_new w (.cells #[.int .i64 3,.slice sa sh.length sc,.slice na nu.length nc,.slice ia it.length ic] 37))
 have hP1:=Par.new w (.int .i64 3) (.slice sa sh.length sc) (.slice na nu.length nc) (.slice ia it.length ic) 37
 have hnl:=hnn.len
 have hr:=(qG sh).1 hd
 have hz:((zV (.mk 3 sh nu it):Nat):Int)=it.length:=rfl
 have hq:((it.length:Int) != pr sh)=false:=by rw [hl];simp
 have ho':¬ (0 <(nu.length:Int)):=by omega
 have HO:Hid (nu.length=0):=ho
 clear hl ho
 go_enter Tryz.func120,Tryz.ntmps120
 go_upto_region 9 with (go_at_call 138;refine (yX _ _ _ _ hs1).mono ?_;rintro e w' ⟨rfl,rfl⟩)
 go_cut [43] (fun s wx=>s=.bool false/\Par wx w.heap.size (.int .i64 3) (.slice sa sh.length sc) (.slice na nu.length nc) (.slice ia it.length ic)/\Below w.heap.size w wx)
 case first =>
  go_region_held3 (fun w'=>w'.cell? ⟨w.heap.size,0,none⟩=some (.int .i64 3)/\w'.cell? ⟨w.heap.size,1,none⟩=some (.slice sa sh.length sc)/\w'.cell? ⟨w.heap.size,2,none⟩=some (.slice na nu.length nc)/\w'.cell? ⟨w.heap.size,3,none⟩=some (.slice ia it.length ic)) (first | go_keep | exact ⟨q1,q2,q3,q4⟩)
   ((first   |(go_at_call 139;((with_reducible refine (xh _ _ _ hA1.drew).mono ?_);rintro e w1 ⟨rfl,hb1⟩;obtain ⟨q0,q1,q2,q3,q4⟩:=hP1.drew.below hb1))   |(go_at_call 140;((with_reducible refine (countR _ _ _ _ hs1.drew hr).mono ?_);rintro e w' ⟨rfl,rfl⟩))   |(go_at_call 140;((with_reducible refine (countR _ _ _ _ (hs1.drew.below hb1) hr).mono ?_);rintro e w' ⟨rfl,rfl⟩))))
  all_goals (go_wp2_with fail;go_meet)
  all_goals exact ⟨congrArg Value.bool (decide_eq_false (by have:=HO.out;omega)),hP1.drew.below hb1,Below.then (below_new _ _) (Below.then (zr _) hb1)⟩
 case rest =>
  obtain ⟨rfl,hp,hb⟩:=hcut
  obtain ⟨p0,p1,p2,p3,p4⟩:=id hp
  clear hA1 hs1 hP1 hq ho'
  go_wp2_with fail
  go_loop [6] (fun i=>∃ j:Nat,j<=nu.length/\i=.int .i64 j/\(nu.take j).all (zv 3)=true) (fun i=>nu.length - (intOf i).toNat)
  case atStart=>exact ⟨0,Nat.zero_le _,rfl,rfl⟩
  case round =>
   obtain ⟨j,hj,rfl,hall⟩:=hrel
   by_cases hlt:j<nu.length
   ·have:=HO.out;omega
   ·obtain rfl:j=nu.length:=by omega
    rw [List.take_length] at hall
    have HR:Hid (chk (.mk 3 sh nu it)=match chkL 0 it with | none=>(17,0) | some d=>qN d (wt (.mk 3 sh nu it))):=yb (by omega) hd HG.out hall
    clear hall
    go_wp2_with fail
    go_loopw [7,8] (fun d i wr=>∃ (j:Nat) (D:Int),j<=it.length/\d=.int .i64 D/\i=.int .i64 j/\0<=D/\D<=17/\Par wr w.heap.size (.int .i64 3) (.slice sa sh.length sc) (.slice na nu.length nc) (.slice ia it.length ic)/\Below w.heap.size w wr/\chkL 0 it=chkL D (it.drop j)) (fun _ i _=>it.length - (intOf i).toNat)
    case atStart=>exact ⟨0,0,Nat.zero_le _,rfl,rfl,by omega,by omega,hp,hb,by rw [List.drop_zero]⟩
    case round =>
     clear hp hb p0 p1 p2 p3 p4
     obtain ⟨j,D,hj,rfl,rfl,hD0,hD1,hp,hb,hg⟩:=hrel
     have HD:Hid (chkL 0 it=chkL D (it.drop j)):=hg
     clear hg
     obtain ⟨p0,p1,p2,p3,p4⟩:=id hp
     by_cases hlt:j<it.length
     ·have hi:=qO (ic:=ic) rfl ha hlt
      obtain ⟨c0,c1,c2,c3,⟨g0,g1,g2,g3⟩,hB⟩:=(ArrsAt.below hb hc).at hlt
      have bd:=vz it[j]
      obtain ⟨bd1,bd2⟩:=bd
      have hrk:rk it[j]<=n:=Nat.le_of_lt_succ (Nat.lt_of_lt_of_le (xd hlt) hn)
      by_cases he:(chk it[j]).1=0
      ·have HS:Hid (chkL D (it.drop j)=chkL (max D ((chk it[j]).2+1)) (it.drop (j+1))):=vS hlt he
       by_cases hm:(chk it[j]).2+1<=D
       ·have HM:Hid (max D ((chk it[j]).2+1)=D):=yu hm
        go_wp2_with (go_at_call 120;refine (ih _ _ _ hrk hB).mono ?_;rintro e w2 ⟨rfl,hb2⟩)
        go_roundw
        case rel=>exact ⟨j+1,D,by omega,rfl,by go_num,hD0,hD1,hp.below hb2,hb.trans (hb2.mono hb.size),by rw [HD.out,HS.out,HM.out]⟩
        case measure=>simp [intOf];omega
       ·have HM:Hid (max D ((chk it[j]).2+1) =(chk it[j]).2+1):=vo hm
        go_wp2_with (go_at_call 120;refine (ih _ _ _ hrk hB).mono ?_;rintro e w2 ⟨rfl,hb2⟩)
        go_roundw
        case rel=>exact ⟨j+1,(chk it[j]).2+1,by omega,rfl,by go_num,by omega,by omega,hp.below hb2,hb.trans (hb2.mono hb.size),by rw [HD.out,HS.out,HM.out]⟩
        case measure=>simp [intOf];omega
      ·have HE2:Hid (chk (.mk 3 sh nu it) =(17,0)):=by unfold Hid;rw [HR.out,HD.out,chkL_bad hlt he]
       have he':((chk it[j]).1 != 0)=true:=by simpa using he
       clear he HR
       go_wp2_with (go_at_call 120;refine (ih _ _ _ hrk hB).mono ?_;rintro e w2 ⟨rfl,hb2⟩)
       go_ret2
       exact ⟨by first | rfl | exact za HE2.out,hb.trans (hb2.mono hb.size)⟩
     ·have HX:Hid (chk (.mk 3 sh nu it)=qN D (wt (.mk 3 sh nu it))):=by unfold Hid;rw [HR.out,HD.out,yc hlt]
      have hAr:=hA.below hb
      clear HR
      by_cases c6:16<D
      ·have HE2:Hid (chk (.mk 3 sh nu it) =(21,0)):=by unfold Hid;rw [HX.out,qN,if_pos (Or.inl c6)]
       clear HX
       go_wp2_with fail
       go_ret2
       exact ⟨by first | rfl | exact za HE2.out,hb⟩
      ·by_cases c7:262144<wt (.mk 3 sh nu it)
       ·have HE2:Hid (chk (.mk 3 sh nu it) =(21,0)):=by unfold Hid;rw [HX.out,qN,if_pos (Or.inr c7)]
        clear HX
        go_wp2_with (go_at_call 143;refine (vH _ _ _ hAr).mono ?_;rintro e w2 ⟨rfl,hb2⟩)
        go_ret2
        exact ⟨by first | rfl | exact za HE2.out,hb.trans (hb2.mono hb.size)⟩
       ·have HE2:Hid (chk (.mk 3 sh nu it) =(0,D)):=by unfold Hid;rw [HX.out,qN,if_neg (by omega)]
        clear HX
        go_wp2_with (go_at_call 143;refine (vH _ _ _ hAr).mono ?_;rintro e w2 ⟨rfl,hb2⟩)
        go_ret2
        exact ⟨by first | rfl | exact za HE2.out,hb.trans (hb2.mono hb.size)⟩
theorem checkR_any (n:Nat):∀ (v:Value) (A:Arr) (w:World),rk A<=n->ArrAt w v A->Calls Tryz.prog 120 #[v] w fun e w'=>e=.returned (.tuple #[.int .i64 (chk A).1,.int .i64 (chk A).2])/\Below w.heap.size w w':=by
 induction n with
 | zero =>
  intro v A w hn _
  obtain ⟨k,sh,nu,it⟩:=A
  rw [rk] at hn;omega
 | succ n ih =>
  intro v A w hn h
  obtain ⟨k,sh,nu,it⟩:=A
  by_cases hk:k<1∨3<k
  ·exact checkR_kind v k sh nu it w h hk
  ·have h3:k=1∨k=2∨k=3:=by omega
   by_cases hd:zP sh=0
   ·rcases h3 with rfl | rfl | rfl
    ·by_cases hl:(nu.length:Int)=pr sh
     ·by_cases ho:it.length=0
      ·exact checkR_ok1 n ih v sh nu it w hn h hd hl ho
      ·exact wU v sh nu it w h hd (Or.inr (by omega))
     ·exact wU v sh nu it w h hd (Or.inl hl)
    ·by_cases hl:(nu.length:Int)=pr sh
     ·by_cases ho:it.length=0
      ·exact checkR_ok2 n ih v sh nu it w hn h hd hl ho
      ·exact wT v sh nu it w h hd (Or.inr (by omega))
     ·exact wT v sh nu it w h hd (Or.inl hl)
    ·by_cases hl:(it.length:Int)=pr sh
     ·by_cases ho:nu.length=0
      ·exact checkR_ok3 n ih v sh nu it w hn h hd hl ho
      ·exact wR v sh nu it w h hd (Or.inr (by omega))
     ·exact wR v sh nu it w h hd (Or.inl hl)
   ·rcases h3 with rfl | rfl | rfl
    ·exact checkR_dims1 v sh nu it w h hd
    ·exact checkR_dims2 v sh nu it w h hd
    ·exact checkR_dims3 v sh nu it w h hd
theorem checkR (v:Value) (A:Arr) (w:World) (h:ArrAt w v A):Calls Tryz.prog 120 #[v] w fun e w'=>e=.returned (.tuple #[.int .i64 (chk A).1,.int .i64 (chk A).2])/\Below w.heap.size w w' :=
 checkR_any (rk A) v A w (Nat.le_refl _) h
theorem below_drewN {w:World}(k:Nat):Below w.heap.size w (w.drewN k):=⟨rfl,rfl,rfl,Nat.le_refl _,fun _ _=>rfl⟩
def zo (A:Arr):Int:=(chk A).1
theorem rightR3 (v:Value) (A:Arr) (w:World) (h:ArrAt w v A):Calls Tryz.prog 101 #[v] w fun e w'=>e=.returned (.int .i64 (zo A))/\Below w.heap.size w w':=by
 have hA:=h
 obtain ⟨k,sh,nu,it⟩:=A
 rw [ArrAt] at h
 obtain ⟨sa,sc,na,nc,ia,ic,rfl,-⟩:=h
 have hA1:=hA.below (below_new w (.cells #[.int .i64 k,.slice sa sh.length sc,.slice na nu.length nc,.slice ia it.length ic] 37))
 go_enter Tryz.func101,Tryz.ntmps101
 go_wp2_with (go_at_call 120;refine (checkR _ _ _ hA1).mono ?_;rintro e w1 ⟨rfl,hb1⟩)
 go_ret
 exact ⟨rfl,Below.then (below_new _ _) hb1⟩
def zt (xs ys:List Int):Bool:=decide (xs=ys)
theorem xv {xs ys:List Int}(h:¬ xs.length=ys.length):zt xs ys=false:=by
 simp only [zt,decide_eq_false_iff_not];intro e;exact h (by rw [e])
theorem wd {xs ys:List Int}{k:Nat}(h1:k<xs.length) (h2:k<ys.length) (h:¬ xs[k]=ys[k]):zt xs ys=false:=by
 simp only [zt,decide_eq_false_iff_not];intro e;subst e;exact h rfl
theorem yI {xs ys:List Int}(h:xs.length=ys.length) (h2:∀ i (h1:i<xs.length) (h2:i<ys.length),xs[i]=ys[i]):zt xs ys=true:=by
 simp only [zt,decide_eq_true_eq];exact List.ext_getElem h h2
theorem kM (a:Option Addr) (cap:Nat) (xs:List Int) (a2:Option Addr) (cap2:Nat) (ys:List Int) (w:World) (h:IntsAt w a cap xs) (g:IntsAt w a2 cap2 ys) :
  Calls Tryz.prog 121 #[.slice a xs.length cap,.slice a2 ys.length cap2] w fun e w'=>e=.returned (.bool (zt xs ys))/\∃ n,w'=w.drewN n:=by
 have hl:=h.len
 have hl2:=g.len
 by_cases hn:xs.length=ys.length
 ·have hn':((xs.length:Int) !=(ys.length:Int))=false:=by rw [hn];simp
  go_enter Tryz.func121,Tryz.ntmps121
  go_wp2
  clear hn'
  go_loopw [5] (fun i wr=>∃ k n:Nat,k<=xs.length/\i=.int .i64 k/\wr=w.drewN n/\∀ j (h1:j<xs.length) (h2:j<ys.length),j<k->xs[j]=ys[j]) (fun i _=>xs.length - (intOf i).toNat)
  case atStart=>exact ⟨0,0,Nat.zero_le _,rfl,rfl,fun j _ _ hj=>absurd hj (Nat.not_lt_zero _)⟩
  case round =>
   obtain ⟨k,n,hk,rfl,rfl,he⟩:=hrel
   have HE:Hid (∀ j (h1:j<xs.length) (h2:j<ys.length),j<k->xs[j]=ys[j]):=he
   clear he
   by_cases hlt:k<xs.length
   ·have hlt2:k<ys.length:=by omega
    obtain ⟨b,off,hi,hc⟩:=h.at hlt
    obtain ⟨b2,off2,hi2,hc2⟩:=g.at hlt2
    by_cases c1:xs[k]=ys[k]
    ·have c1':(xs[k] != ys[k])=false:=by simpa using c1
     have HC:Hid (xs[k]=ys[k]):=c1
     clear c1 hn
     go_wp2_with fail
     go_quiet (fail)
     go_wp2_with fail
     go_roundw
     case rel=>exact ⟨k+1,n+nq,by omega,by go_num,rfl,fun j h1 h2 hj=>by
      by_cases e:j=k
      ·subst e;exact HC.out
      ·exact HE.out j h1 h2 (by omega)⟩
     case measure=>simp [intOf];omega
    ·have em:=wd hlt hlt2 c1
     have c1':(xs[k] != ys[k])=true:=by simpa using c1
     clear c1 hn
     go_wp2_with fail
     go_quiet (fail)
     go_wp2_with fail
     go_ret
     exact ⟨by first | rfl | exact ret_bool em.symm,n+nq,World.drewN_drewN ..⟩
   ·obtain rfl:k=xs.length:=by omega
    have em:=yI hn (fun i h1 h2=>HE.out i h1 h2 h1)
    clear hn
    go_wp2_with fail
    go_ret
    first | exact ⟨rfl,_,rfl⟩ | exact ⟨ret_bool em.symm,_,rfl⟩
 ·have em:=xv hn
  have hn':((xs.length:Int) !=(ys.length:Int))=true:=by simp;omega
  clear hn
  go_enter Tryz.func121,Tryz.ntmps121
  go_wp2
  go_ret
  first | exact ⟨rfl,0,rfl⟩ | exact ⟨ret_bool em.symm,0,rfl⟩
mutual
def eqA:Arr->Arr->Bool
 | .mk k sh nu it,.mk k2 sh2 nu2 it2=>k==k2&&zt sh sh2&&zt nu nu2&&eqL it it2
def eqL:List Arr->List Arr->Bool
 | [],[]=>true
 | A::r,B::s=>eqA A B&&eqL r s
 | _,_=>false
end
theorem eqL_len:∀ (l m:List Arr),¬ l.length=m.length->eqL l m=false
 | [],[],h=>absurd rfl h
 | [],_::_,_=>by rw [eqL] <;> simp
 | _::_,[],_=>by rw [eqL] <;> simp
 | A::r,B::s,h=>by
  rw [eqL,eqL_len r s (fun e=>h (by simp [e]))];simp
theorem eqL_at:∀ (l m:List Arr) (j:Nat) (h1:j<l.length) (h2:j<m.length),eqA l[j] m[j]=false->eqL l m=false
 | [],_,_,h,_,_=>absurd h (by simp)
 | _::_,[],_,_,h,_=>absurd h (by simp)
 | A::r,B::s,0,_,_,h=>by rw [eqL];simp at h;rw [h];rfl
 | A::r,B::s,j+1,h1,h2,h=>by
  rw [eqL,eqL_at r s j (by simpa using h1) (by simpa using h2) (by simpa using h)];simp
theorem eqL_all:∀ (l m:List Arr),l.length=m.length->(∀ j (h1:j<l.length) (h2:j<m.length),eqA l[j] m[j]=true)->eqL l m=true
 | [],[],_,_=>by rw [eqL]
 | [],_::_,h,_=>by simp at h
 | _::_,[],h,_=>by simp at h
 | A::r,B::s,h,g=>by
  have g0:=g 0 (by simp) (by simp)
  simp only [List.getElem_cons_zero] at g0
  rw [eqL,g0,eqL_all r s (by simpa using h) (fun j h1 h2=>g (j+1) (Nat.succ_lt_succ h1) (Nat.succ_lt_succ h2))];rfl
set_option maxRecDepth 100000 in
theorem sameR_any (n:Nat):∀ (v v2:Value) (A B:Arr) (w:World),rk A<=n->ArrAt w v A->ArrAt w v2 B->Calls Tryz.prog 105 #[v,v2] w fun e w'=>e=.returned (.bool (eqA A B))/\Below w.heap.size w w':=by
 induction n with
 | zero =>
  intro v v2 A B w hn _ _
  obtain ⟨k,sh,nu,it⟩:=A
  rw [rk] at hn;omega
 | succ n ih =>
  intro v v2 A B w hn h g
  obtain ⟨k,sh,nu,it⟩:=A
  obtain ⟨k2,sh2,nu2,it2⟩:=B
  have hA:=h
  have gA:=g
  rw [ArrAt] at h g
  obtain ⟨sa,sc,na,nc,ia,ic,rfl,hk,hs,hnn,h1,h2,b,off,ha,hc⟩:=h
  obtain ⟨sa2,sc2,na2,nc2,ia2,ic2,rfl,gk,gs,gnn,g1,g2,b2,off2,ga,gc⟩:=g
  have BN:=Below.then (below_new w (.cells #[.int .i64 k,.slice sa sh.length sc,.slice na nu.length nc,.slice ia it.length ic] 37)) (below_new _ (.cells #[.int .i64 k2,.slice sa2 sh2.length sc2,.slice na2 nu2.length nc2,.slice ia2 it2.length ic2] 37))
  have hs1:=hs.below BN
  have gs1:=gs.below BN
  have hn1:=hnn.below BN
  have gn1:=gnn.below BN
  have HG:Hid (eqA (.mk k sh nu it) (.mk k2 sh2 nu2 it2) =(k==k2&&zt sh sh2&&zt nu nu2&&eqL it it2)):=by unfold Hid;rw [eqA]
  by_cases ck:k=k2
  ·have ck':(k != k2)=false:=by simpa using ck
   have CK:Hid ((k==k2)=true):=by unfold Hid;simpa using ck
   clear ck
   by_cases cs:zt sh sh2=true
   ·by_cases cn:zt nu nu2=true
    ·by_cases cl:it.length=it2.length
     ·have cl':((it.length:Int) !=(it2.length:Int))=false:=by rw [cl];simp
      have CL:Hid (it.length=it2.length):=cl
      have hP1:=(Par.new w (.int .i64 k) (.slice sa sh.length sc) (.slice na nu.length nc) (.slice ia it.length ic) 37).below (below_new _ (.cells #[.int .i64 k2,.slice sa2 sh2.length sc2,.slice na2 nu2.length nc2,.slice ia2 it2.length ic2] 37))
      have hP2:=Par.new (w.alloc (.cells #[.int .i64 k,.slice sa sh.length sc,.slice na nu.length nc,.slice ia it.length ic] 37)) (.int .i64 k2) (.slice sa2 sh2.length sc2) (.slice na2 nu2.length nc2) (.slice ia2 it2.length ic2) 37
      rw [show (w.alloc (.cells #[.int .i64 k,.slice sa sh.length sc,.slice na nu.length nc,.slice ia it.length ic] 37)).heap.size=w.heap.size+1 by simp] at hP2
      clear cl
      go_enter Tryz.func105,Tryz.ntmps105
      go_wp2_with (first
       |(go_at_call 121;((with_reducible refine (kM sa sc sh sa2 sc2 sh2 _ hs1 gs1).mono ?_);rintro e w' ⟨rfl,n1,rfl⟩))
       |(go_at_call 121;((with_reducible refine (kM na nc nu na2 nc2 nu2 _ (hn1.drewN n1) (gn1.drewN n1)).mono ?_);rintro e w' ⟨rfl,n2,rfl⟩)))
      have HE2:Hid (eqA (.mk k sh nu it) (.mk k2 sh2 nu2 it2)=eqL it it2):=by unfold Hid;rw [HG.out,CK.out,cs,cn];rfl
      go_loopw [5] (fun i wr=>∃ j:Nat,j<=it.length/\i=.int .i64 j/\Par wr w.heap.size (.int .i64 k) (.slice sa sh.length sc) (.slice na nu.length nc) (.slice ia it.length ic)/\Par wr (w.heap.size+1) (.int .i64 k2) (.slice sa2 sh2.length sc2) (.slice na2 nu2.length nc2) (.slice ia2 it2.length ic2)/\Below w.heap.size w wr/\∀ i (h1:i<it.length) (h2:i<it2.length),i<j->eqA it[i] it2[i]=true) (fun i _=>it.length - (intOf i).toNat)
      case atStart=>exact ⟨0,Nat.zero_le _,rfl,hP1,hP2,Below.then BN (below_drewN _),fun i _ _ hi=>absurd hi (Nat.not_lt_zero _)⟩
      case round =>
       obtain ⟨j,hj,rfl,q1,q2,hb,he⟩:=hrel
       have HE:Hid (∀ i (h1:i<it.length) (h2:i<it2.length),i<j->eqA it[i] it2[i]=true):=he
       clear he hs1 gs1 hn1 gn1 cs cn hP1 hP2 BN
       obtain ⟨p0,p1,p2,p3,p4⟩:=id q1
       obtain ⟨r0,r1,r2,r3,r4⟩:=id q2
       by_cases hlt:j<it.length
       ·have hlt2:j<it2.length:=by have:=CL.out;omega
        have hi:=qO (ic:=ic) rfl ha hlt
        have gi:=qO (ic:=ic2) rfl ga hlt2
        obtain ⟨c0,c1,c2,c3,⟨m0,m1,m2,m3⟩,hB⟩:=(ArrsAt.below hb hc).at hlt
        obtain ⟨d0,d1,d2,d3,⟨l0,l1,l2,l3⟩,gB⟩:=(ArrsAt.below hb gc).at hlt2
        have hrk:rk it[j]<=n:=Nat.le_of_lt_succ (Nat.lt_of_lt_of_le (xd hlt) hn)
        have ic1:=ih _ _ _ _ wr.drew hrk hB.drew gB.drew
        by_cases ce:eqA it[j] it2[j]=true
        ·rw [ce] at ic1
         have HC:Hid (eqA it[j] it2[j]=true):=ce
         clear ih ce
         go_wp2_with fail
         go_still_tail 10,(by kernel_rfl)
         go_wp2_with (go_at_call 105;refine ic1.mono ?_;rintro e w2 ⟨rfl,hb2⟩)
         go_roundw
         case rel=>exact ⟨j+1,by omega,by go_num,q1.drew.below hb2,q2.drew.below hb2,Below.then hb (Below.then (zr _) hb2),fun i h1 h2 hi=>by
          by_cases e:i=j
          ·subst e;exact HC.out
          ·exact HE.out i h1 h2 (by omega)⟩
         case measure=>simp [intOf];omega
        ·have ce':eqA it[j] it2[j]=false:=by simpa using ce
         rw [ce'] at ic1
         have HF:Hid (eqA (.mk k sh nu it) (.mk k2 sh2 nu2 it2)=false):=by unfold Hid;rw [HE2.out];exact eqL_at it it2 j hlt hlt2 ce'
         clear ih ce ce'
         go_wp2_with fail
         go_still_tail 10,(by kernel_rfl)
         go_wp2_with (go_at_call 105;refine ic1.mono ?_;rintro e w2 ⟨rfl,hb2⟩)
         go_ret
         exact ⟨by first | rfl | exact ret_bool HF.out.symm,Below.then hb (Below.then (zr _) hb2)⟩
       ·obtain rfl:j=it.length:=by omega
        have HF:Hid (eqA (.mk k sh nu it) (.mk k2 sh2 nu2 it2)=true):=by unfold Hid;rw [HE2.out];exact eqL_all it it2 CL.out (fun i h1 h2=>HE.out i h1 h2 h1)
        clear ih
        go_wp2_with fail
        go_ret
        exact ⟨by first | rfl | exact ret_bool HF.out.symm,hb⟩
     ·have cl':((it.length:Int) !=(it2.length:Int))=true:=by simp;omega
      have HE:Hid (eqA (.mk k sh nu it) (.mk k2 sh2 nu2 it2)=false):=by unfold Hid;rw [HG.out,eqL_len it it2 cl];simp
      clear cl ih
      go_enter Tryz.func105,Tryz.ntmps105
      go_wp2_with (first
       |(go_at_call 121;((with_reducible refine (kM sa sc sh sa2 sc2 sh2 _ hs1 gs1).mono ?_);rintro e w' ⟨rfl,n1,rfl⟩))
       |(go_at_call 121;((with_reducible refine (kM na nc nu na2 nc2 nu2 _ (hn1.drewN n1) (gn1.drewN n1)).mono ?_);rintro e w' ⟨rfl,n2,rfl⟩)))
      go_ret
      exact ⟨by first | rfl | exact ret_bool HE.out.symm,Below.then BN (below_drewN _)⟩
    ·have cn':zt nu nu2=false:=by simpa using cn
     have HE:Hid (eqA (.mk k sh nu it) (.mk k2 sh2 nu2 it2)=false):=by unfold Hid;rw [HG.out,cn'];simp
     clear cn ih
     go_enter Tryz.func105,Tryz.ntmps105
     go_wp2_with (first
      |(go_at_call 121;((with_reducible refine (kM sa sc sh sa2 sc2 sh2 _ hs1 gs1).mono ?_);rintro e w' ⟨rfl,n1,rfl⟩))
      |(go_at_call 121;((with_reducible refine (kM na nc nu na2 nc2 nu2 _ (hn1.drewN n1) (gn1.drewN n1)).mono ?_);rintro e w' ⟨rfl,n2,rfl⟩)))
     go_ret
     exact ⟨by first | rfl | exact ret_bool HE.out.symm,Below.then BN (below_drewN _)⟩
   ·have cs':zt sh sh2=false:=by simpa using cs
    have HE:Hid (eqA (.mk k sh nu it) (.mk k2 sh2 nu2 it2)=false):=by unfold Hid;rw [HG.out,cs'];simp
    clear cs ih
    go_enter Tryz.func105,Tryz.ntmps105
    go_wp2_with (first
     |(go_at_call 121;((with_reducible refine (kM sa sc sh sa2 sc2 sh2 _ hs1 gs1).mono ?_);rintro e w' ⟨rfl,n1,rfl⟩))
     |(go_at_call 121;((with_reducible refine (kM na nc nu na2 nc2 nu2 _ (hn1.drewN n1) (gn1.drewN n1)).mono ?_);rintro e w' ⟨rfl,n2,rfl⟩)))
    go_ret
    exact ⟨by first | rfl | exact ret_bool HE.out.symm,Below.then BN (below_drewN _)⟩
  ·have ck':(k != k2)=true:=by simpa using ck
   have HE:Hid (eqA (.mk k sh nu it) (.mk k2 sh2 nu2 it2)=false):=by unfold Hid;rw [HG.out,show (k==k2)=false by simpa using ck];simp
   clear ck ih
   go_enter Tryz.func105,Tryz.ntmps105
   go_wp2_with (first
    |(go_at_call 121;((with_reducible refine (kM sa sc sh sa2 sc2 sh2 _ hs1 gs1).mono ?_);rintro e w' ⟨rfl,n1,rfl⟩))
    |(go_at_call 121;((with_reducible refine (kM na nc nu na2 nc2 nu2 _ (hn1.drewN n1) (gn1.drewN n1)).mono ?_);rintro e w' ⟨rfl,n2,rfl⟩)))
   go_ret
   exact ⟨by first | rfl | exact ret_bool HE.out.symm,BN⟩
theorem xw (v v2:Value) (A B:Arr) (w:World) (h:ArrAt w v A) (g:ArrAt w v2 B):Calls Tryz.prog 105 #[v,v2] w fun e w'=>e=.returned (.bool (eqA A B))/\Below w.heap.size w w' :=
 sameR_any (rk A) v v2 A B w (Nat.le_refl _) h g
def GiveArr (A:Arr) (w:World) (e:Ending) (w':World):Prop:=∃ v,e=.returned v/\ArrAt w' v A/\Below w.heap.size w w'
def zeroA:Arr:=.mk 0 [] [] []
theorem GiveArr.mk {A:Arr}{w w':World}{v:Value}(h:ArrAt w' v A) (hb:Below w.heap.size w w'):GiveArr A w (.returned v) w':=⟨v,rfl,h,hb⟩
end Go.Proofs.YtmfhdcpajgjgpaaGreatDoor.Shape
namespace Go.Proofs.YtmfhdcpajgjgpaaGreatDoor.Syn
open Go.RowKit Go.Proofs.YtmfhdcpajgjgpaaGreatDoor.Shape
mutual
inductive Nd where
 | mk (k a c:Int) (t:ByteArray) (p o:Int) (v:Arr) (ks:List Nd) (bd:List St) (d s z:Int)
inductive St where
 | mk (k a:Int) (n:ByteArray) (s:Int) (te nd:Nd)
end
namespace Nd
def k:Nd->Int | mk k _ _ _ _ _ _ _ _ _ _ _=>k
def a:Nd->Int | mk _ a _ _ _ _ _ _ _ _ _ _=>a
def c:Nd->Int | mk _ _ c _ _ _ _ _ _ _ _ _=>c
def t:Nd->ByteArray | mk _ _ _ t _ _ _ _ _ _ _ _=>t
def p:Nd->Int | mk _ _ _ _ p _ _ _ _ _ _ _=>p
def o:Nd->Int | mk _ _ _ _ _ o _ _ _ _ _ _=>o
def v:Nd->Arr | mk _ _ _ _ _ _ v _ _ _ _ _=>v
def ks:Nd->List Nd | mk _ _ _ _ _ _ _ ks _ _ _ _=>ks
def bd:Nd->List St | mk _ _ _ _ _ _ _ _ bd _ _ _=>bd
def d:Nd->Int | mk _ _ _ _ _ _ _ _ _ d _ _=>d
def s:Nd->Int | mk _ _ _ _ _ _ _ _ _ _ s _=>s
def z:Nd->Int | mk _ _ _ _ _ _ _ _ _ _ _ z=>z
end Nd
namespace St
def k:St->Int | mk k _ _ _ _ _=>k
def a:St->Int | mk _ a _ _ _ _=>a
def n:St->ByteArray | mk _ _ n _ _ _=>n
def s:St->Int | mk _ _ _ s _ _=>s
def te:St->Nd | mk _ _ _ _ te _=>te
def nd:St->Nd | mk _ _ _ _ _ nd=>nd
end St
def zA:Arr:=.mk 0 [] [] []
def zN:Nd:=.mk 0 0 0 ⟨#[]⟩ 0 0 zA [] [] 0 0 0
mutual
def rkN:Nd->Nat
 | .mk _ _ _ _ _ _ _ ks bd _ _ _=>rkK ks+rkB bd+1
def rkK:List Nd->Nat
 | []=>0
 | N::r=>rkN N+rkK r
def rkS:St->Nat
 | .mk _ _ _ _ te nd=>rkN te+rkN nd
def rkB:List St->Nat
 | []=>0
 | S::r=>rkS S+rkB r
end
mutual
def dep:Nd->Nat
 | .mk _ _ _ _ _ _ _ ks bd _ _ _=>max (depK ks) (depB bd)+1
def depK:List Nd->Nat
 | []=>0
 | N::r=>max (dep N) (depK r)
def depS:St->Nat
 | .mk k _ _ _ te nd=>max (if k==3 then dep te else 0) (dep nd)
def depB:List St->Nat
 | []=>0
 | S::r=>max (depS S) (depB r)
end
mutual
def siz:Nd->Nat
 | .mk _ _ _ _ _ _ _ ks bd _ _ _=>sizK ks+sizB bd+1
def sizK:List Nd->Nat
 | []=>0
 | N::r=>siz N+sizK r
def sizS:St->Nat
 | .mk k _ _ _ te nd=>(if k==3 then siz te else 0)+siz nd
def sizB:List St->Nat
 | []=>0
 | S::r=>sizS S+sizB r
end
mutual
def eqN:Nd->Nd->Bool
 | .mk k _ c t p o v ks bd _ _ _,.mk k2 _ c2 t2 p2 o2 v2 ks2 bd2 _ _ _=>k==k2&&c==c2&&t==t2&&p==p2&&o==o2&&eqA v v2&&eqK ks ks2&&eqB bd bd2
def eqK:List Nd->List Nd->Bool
 | [],[]=>true
 | N::r,M::q=>eqN N M&&eqK r q
 | _,_=>false
def eqS:St->St->Bool
 | .mk k _ n _ te nd,.mk k2 _ n2 _ te2 nd2=>k==k2&&n==n2&&eqN te te2&&eqN nd nd2
def eqB:List St->List St->Bool
 | [],[]=>true
 | S::r,T::q=>eqS S T&&eqB r q
 | _,_=>false
end
theorem qL (N:Nd):1<=rkN N:=by cases N;rw [rkN];omega
theorem rkK_at:∀ {l:List Nd}{j:Nat}(h:j<l.length),rkN l[j]<=rkK l
 | [],_,h=>absurd h (by simp)
 | N::r,0,_=>by simp only [List.getElem_cons_zero,rkK];omega
 | N::r,j+1,h=>by
  have:=rkK_at (l:=r) (j:=j) (by simpa using h)
  simp only [List.getElem_cons_succ,rkK];omega
theorem xz:∀ {l:List St}{j:Nat}(h:j<l.length),rkN l[j].te+rkN l[j].nd<=rkB l
 | [],_,h=>absurd h (by simp)
 | .mk _ _ _ _ te nd::r,0,_=>by simp only [List.getElem_cons_zero,rkB,rkS,St.te,St.nd];omega
 | S::r,j+1,h=>by
  have:=xz (l:=r) (j:=j) (by simpa using h)
  simp only [List.getElem_cons_succ,rkB];omega
theorem zk (N:Nd) {j:Nat}(h:j<N.ks.length):rkN N.ks[j]<rkN N:=by
 cases N with | mk k a c t p o v ks bd d s z =>
 have:=rkK_at (l:=ks) h
 simp only [Nd.ks,rkN];omega
theorem qF (N:Nd) {j:Nat}(h:j<N.bd.length):rkN N.bd[j].te<rkN N/\rkN N.bd[j].nd<rkN N:=by
 cases N with | mk k a c t p o v ks bd d s z =>
 have:=xz (l:=bd) h
 have h1:=qL bd[j].te
 have h2:=qL bd[j].nd
 simp only [Nd.bd,rkN];omega
theorem eqK_len:∀ (l m:List Nd),¬ l.length=m.length->eqK l m=false
 | [],[],h=>absurd rfl h
 | [],_::_,_=>by rw [eqK] <;> simp
 | _::_,[],_=>by rw [eqK] <;> simp
 | N::r,M::q,h=>by
  rw [eqK,eqK_len r q (fun e=>h (by simp [e]))];simp
theorem eqK_at:∀ (l m:List Nd) (j:Nat) (h1:j<l.length) (h2:j<m.length),eqN l[j] m[j]=false->eqK l m=false
 | [],_,_,h,_,_=>absurd h (by simp)
 | _::_,[],_,_,h,_=>absurd h (by simp)
 | N::r,M::q,0,_,_,h=>by rw [eqK];simp at h;rw [h];rfl
 | N::r,M::q,j+1,h1,h2,h=>by
  rw [eqK,eqK_at r q j (by simpa using h1) (by simpa using h2) (by simpa using h)];simp
theorem eqK_all:∀ (l m:List Nd),l.length=m.length->(∀ j (h1:j<l.length) (h2:j<m.length),eqN l[j] m[j]=true)->eqK l m=true
 | [],[],_,_=>by rw [eqK]
 | [],_::_,h,_=>by simp at h
 | _::_,[],h,_=>by simp at h
 | N::r,M::q,h,g=>by
  have g0:=g 0 (by simp) (by simp)
  simp only [List.getElem_cons_zero] at g0
  rw [eqK,g0,eqK_all r q (by simpa using h) (fun j h1 h2=>g (j+1) (Nat.succ_lt_succ h1) (Nat.succ_lt_succ h2))];rfl
theorem eqB_len:∀ (l m:List St),¬ l.length=m.length->eqB l m=false
 | [],[],h=>absurd rfl h
 | [],_::_,_=>by rw [eqB] <;> simp
 | _::_,[],_=>by rw [eqB] <;> simp
 | N::r,M::q,h=>by
  rw [eqB,eqB_len r q (fun e=>h (by simp [e]))];simp
theorem eqB_at:∀ (l m:List St) (j:Nat) (h1:j<l.length) (h2:j<m.length),eqS l[j] m[j]=false->eqB l m=false
 | [],_,_,h,_,_=>absurd h (by simp)
 | _::_,[],_,_,h,_=>absurd h (by simp)
 | N::r,M::q,0,_,_,h=>by rw [eqB];simp at h;rw [h];rfl
 | N::r,M::q,j+1,h1,h2,h=>by
  rw [eqB,eqB_at r q j (by simpa using h1) (by simpa using h2) (by simpa using h)];simp
theorem eqB_all:∀ (l m:List St),l.length=m.length->(∀ j (h1:j<l.length) (h2:j<m.length),eqS l[j] m[j]=true)->eqB l m=true
 | [],[],_,_=>by rw [eqB]
 | [],_::_,h,_=>by simp at h
 | _::_,[],h,_=>by simp at h
 | N::r,M::q,h,g=>by
  have g0:=g 0 (by simp) (by simp)
  simp only [List.getElem_cons_zero] at g0
  rw [eqB,g0,eqB_all r q (by simpa using h) (fun j h1 h2=>g (j+1) (Nat.succ_lt_succ h1) (Nat.succ_lt_succ h2))];rfl
theorem ba_beq (a b:ByteArray):(a==b)=decide (a=b):=by
 cases a with | mk x=>cases b with | mk y =>
 show (x==y)=_
 by_cases h:x=y
 ·subst h;simp
 ·simp [h]
theorem str_eq (a b:ByteArray):(a.toList==b.toList)=decide (a=b):=by
 rw [ByteArray.toList_eq,ByteArray.toList_eq]
 by_cases h:a=b
 ·subst h;simp
 ·have:a.data.toList≠b.data.toList:=fun e=>h (by
   cases a with | mk x=>cases b with | mk y=>exact congrArg ByteArray.mk (Array.toList_inj.1 e))
  rw [decide_eq_false h]
  exact beq_eq_false_iff_ne.2 this
theorem kA {a b:ByteArray}(h:a=b):(a.toList==b.toList)=true:=by rw [str_eq];simpa using h
theorem str_no {a b:ByteArray}(h:¬ a=b):(a.toList==b.toList)=false:=by rw [str_eq];simpa using h
theorem vG {a b:ByteArray}(h:a=b):(a==b)=true:=by rw [ba_beq];simpa using h
theorem ba_no {a b:ByteArray}(h:¬ a=b):(a==b)=false:=by rw [ba_beq];simpa using h
end Go.Proofs.YtmfhdcpajgjgpaaGreatDoor.Syn
namespace Go.Proofs.YtmfhdcpajgjgpaaGreatDoor.Syn
open Go.RowKit Go.Proofs.YtmfhdcpajgjgpaaGreatDoor.Shape
set_option maxRecDepth 100000
def Cells (w:World) (b off:Nat) (cs:List Value):Prop:=∀ i (h:i<cs.length),w.cell? ⟨b,off+i,none⟩=some cs[i]
def I64 (x:Int):Prop:=-9223372036854775808<=x/\x<=9223372036854775807
mutual
def NdV (w:World) (cs:List Value):Nd->Prop
 | .mk k a c t p o v ks bd d s z=>∃ (v0 v1 v2 v3:Value) (ka:Option Addr) (kc:Nat) (ba:Option Addr) (bc:Nat),
  cs=[.int .i64 k,.int .i64 a,.int .i64 c,.string t,.int .i64 p,.int .i64 o,v0,v1,v2,v3,.slice ka (List.length ks) kc,.slice ba (List.length bd) bc,.int .i64 d,.int .i64 s,.int .i64 z] /\
  (I64 k/\I64 a/\I64 c/\I64 p/\I64 o/\I64 d/\I64 s/\I64 z)/\t.size<=9223372036854775807/\ArrAt w (.agg #[v0,v1,v2,v3]) v/\(ks.length<=kc/\kc<=9223372036854775807)/\(bd.length<=bc/\bc<=9223372036854775807) /\
  (∃ b off:Nat,(ks≠[]->ka=some ⟨b,off,none⟩)/\NdsAt w b off ks)/\(∃ b off:Nat,(bd≠[]->ba=some ⟨b,off,none⟩)/\StsAt w b off bd)
def NdsAt (w:World) (b off:Nat):List Nd->Prop
 | []=>True
 | N::r=>(∃ cs,Cells w b off cs/\NdV w cs N)/\w.frozen? ⟨b,off,none⟩=false/\NdsAt w b (off+15) r
def StV (w:World) (cs:List Value):St->Prop
 | .mk k a n s te nd=>∃ ct cn:List Value,cs=.int .i64 k::.int .i64 a::.string n::.int .i64 s::(ct++cn)/\(I64 k/\I64 a/\I64 s)/\n.size<=9223372036854775807/\NdV w ct te/\NdV w cn nd
def StsAt (w:World) (b off:Nat):List St->Prop
 | []=>True
 | S::r=>(∃ cs,Cells w b off cs/\StV w cs S)/\(w.frozen? ⟨b,off+4,none⟩=false/\w.frozen? ⟨b,off+19,none⟩=false)/\StsAt w b (off+34) r
end
theorem Cells.below {w w':World}{b off:Nat}{cs:List Value}(hb:Below w.heap.size w w') (h:Cells w b off cs):Cells w' b off cs:=fun i hi=>(hb.cell (zD (h i hi))).trans (h i hi)
theorem NdV.pos {w:World}{cs:List Value}{N:Nd}(h:NdV w cs N):0<cs.length:=by
 cases N;rw [NdV] at h;obtain ⟨v0,v1,v2,v3,ka,kc,ba,bc,rfl,-⟩:=h;exact Nat.zero_lt_succ _
theorem StV.pos {w:World}{cs:List Value}{S:St}(h:StV w cs S):0<cs.length:=by
 cases S;rw [StV] at h;obtain ⟨ct,cn,rfl,-⟩:=h;exact Nat.zero_lt_succ _
theorem Cells.lt {w:World}{b off:Nat}{cs:List Value}(h:Cells w b off cs) (hl:0<cs.length):b<w.heap.size:=zD (h 0 hl)
mutual
theorem NdV.below {w w':World}(hb:Below w.heap.size w w'):∀ {cs:List Value}{N:Nd},NdV w cs N->NdV w' cs N
 | _,.mk k a c t p o v ks bd d s z,h=>by
  rw [NdV] at h ⊢
  obtain ⟨v0,v1,v2,v3,ka,kc,ba,bc,e,hi,ht,hv,h1,h2,⟨b,off,h3,h4⟩,⟨b',off',h5,h6⟩⟩:=h
  exact ⟨v0,v1,v2,v3,ka,kc,ba,bc,e,hi,ht,hv.below hb,h1,h2,⟨b,off,h3,NdsAt.below hb h4⟩,⟨b',off',h5,StsAt.below hb h6⟩⟩
theorem NdsAt.below {w w':World}(hb:Below w.heap.size w w'):∀ {b off:Nat}{l:List Nd},NdsAt w b off l->NdsAt w' b off l
 | _,_,[],_=>by rw [NdsAt];trivial
 | b,off,N::r,h=>by
  rw [NdsAt] at h ⊢
  obtain ⟨⟨cs,h1,h2⟩,hf,h3⟩:=h
  exact ⟨⟨cs,h1.below hb,NdV.below hb h2⟩,(hb.frozen (p:=⟨b,off,none⟩) (h1.lt h2.pos)).trans hf,NdsAt.below hb h3⟩
theorem StV.below {w w':World}(hb:Below w.heap.size w w'):∀ {cs:List Value}{S:St},StV w cs S->StV w' cs S
 | _,.mk k a n s te nd,h=>by
  rw [StV] at h ⊢
  obtain ⟨ct,cn,e,hi,hs,h1,h2⟩:=h
  exact ⟨ct,cn,e,hi,hs,NdV.below hb h1,NdV.below hb h2⟩
theorem StsAt.below {w w':World}(hb:Below w.heap.size w w'):∀ {b off:Nat}{l:List St},StsAt w b off l->StsAt w' b off l
 | _,_,[],_=>by rw [StsAt];trivial
 | b,off,N::r,h=>by
  rw [StsAt] at h ⊢
  obtain ⟨⟨cs,h1,h2⟩,⟨hf,hg⟩,h3⟩:=h
  exact ⟨⟨cs,h1.below hb,StV.below hb h2⟩,⟨(hb.frozen (p:=⟨b,off+4,none⟩) (h1.lt h2.pos)).trans hf,(hb.frozen (p:=⟨b,off+19,none⟩) (h1.lt h2.pos)).trans hg⟩,StsAt.below hb h3⟩
end
def NdM (w:World) (b off:Nat) (N:Nd):Prop:=∃ cs,Cells w b off cs/\NdV w cs N
def StM (w:World) (b off:Nat) (S:St):Prop:=∃ cs,Cells w b off cs/\StV w cs S
theorem NdM.below {w w':World}{b off:Nat}{N:Nd}(h:NdM w b off N) (hb:Below w.heap.size w w'):NdM w' b off N:=by
 obtain ⟨cs,h1,h2⟩:=h;exact ⟨cs,h1.below hb,h2.below hb⟩
theorem StM.below {w w':World}{b off:Nat}{S:St}(h:StM w b off S) (hb:Below w.heap.size w w'):StM w' b off S:=by
 obtain ⟨cs,h1,h2⟩:=h;exact ⟨cs,h1.below hb,h2.below hb⟩
theorem NdsAt.at {w:World}:∀ {l:List Nd}{b off:Nat},NdsAt w b off l->∀ {j:Nat}(hj:j<l.length),NdM w b (off+j*15) l[j]
 | [],_,_,_,j,hj=>absurd hj (by simp)
 | N::r,b,off,h,j,hj=>by
  rw [NdsAt] at h
  cases j with
  | zero =>
   have h1:NdM w b off N:=h.1
   simpa using h1
  | succ j =>
   have:=NdsAt.at h.2.2 (j:=j) (by simpa using hj)
   have e:off+15+j*15=off+(j+1)*15:=by omega
   rw [e] at this
   simpa using this
theorem StsAt.at {w:World}:∀ {l:List St}{b off:Nat},StsAt w b off l->∀ {j:Nat}(hj:j<l.length),StM w b (off+j*34) l[j]
 | [],_,_,_,j,hj=>absurd hj (by simp)
 | N::r,b,off,h,j,hj=>by
  rw [StsAt] at h
  cases j with
  | zero =>
   have h1:StM w b off N:=h.1
   simpa using h1
  | succ j =>
   have:=StsAt.at h.2.2 (j:=j) (by simpa using hj)
   have e:off+34+j*34=off+(j+1)*34:=by omega
   rw [e] at this
   simpa using this
theorem NdsAt.soft {w:World}:∀ {l:List Nd}{b off:Nat},NdsAt w b off l->∀ {j:Nat},j<l.length->w.frozen? ⟨b,off+j*15,none⟩=false
 | [],_,_,_,j,hj=>absurd hj (by simp)
 | N::r,b,off,h,j,hj=>by
  rw [NdsAt] at h
  cases j with
  | zero=>simpa using h.2.1
  | succ j =>
   have:=NdsAt.soft h.2.2 (j:=j) (by simpa using hj)
   have e:off+15+j*15=off+(j+1)*15:=by omega
   rwa [e] at this
theorem StsAt.soft {w:World}:∀ {l:List St}{b off:Nat},StsAt w b off l->∀ {j:Nat},j<l.length->w.frozen? ⟨b,off+j*34+4,none⟩=false/\w.frozen? ⟨b,off+j*34+19,none⟩=false
 | [],_,_,_,j,hj=>absurd hj (by simp)
 | N::r,b,off,h,j,hj=>by
  rw [StsAt] at h
  cases j with
  | zero=>simpa using h.2.1
  | succ j =>
   have:=StsAt.soft h.2.2 (j:=j) (by simpa using hj)
   have e:off+34+j*34=off+(j+1)*34:=by omega
   rwa [e] at this
theorem Cells.cell {w:World}{b off:Nat}{cs:List Value}(h:Cells w b off cs) (i:Nat) {v:Value}(hv:cs[i]?=some v):w.cell? ⟨b,off+i,none⟩=some v:=by
 obtain ⟨hi,e⟩:=List.getElem?_eq_some_iff.1 hv
 rw [h i hi,e]
def Fif (w:World) (b off:Nat) (c0 c1 c2 c3 c4 c5 c6 c7 c8 c9 c10 c11 c12 c13 c14:Value):Prop :=
 w.cell? ⟨b,off,none⟩=some c0/\w.cell? ⟨b,off+1,none⟩=some c1/\w.cell? ⟨b,off+2,none⟩=some c2/\w.cell? ⟨b,off+3,none⟩=some c3/\w.cell? ⟨b,off+4,none⟩=some c4 /\
 w.cell? ⟨b,off+5,none⟩=some c5/\w.cell? ⟨b,off+6,none⟩=some c6/\w.cell? ⟨b,off+7,none⟩=some c7/\w.cell? ⟨b,off+8,none⟩=some c8/\w.cell? ⟨b,off+9,none⟩=some c9 /\
 w.cell? ⟨b,off+10,none⟩=some c10/\w.cell? ⟨b,off+11,none⟩=some c11/\w.cell? ⟨b,off+12,none⟩=some c12/\w.cell? ⟨b,off+13,none⟩=some c13/\w.cell? ⟨b,off+14,none⟩=some c14
theorem Cells.fif {w:World}{b off:Nat}{c0 c1 c2 c3 c4 c5 c6 c7 c8 c9 c10 c11 c12 c13 c14:Value}(h:Cells w b off [c0,c1,c2,c3,c4,c5,c6,c7,c8,c9,c10,c11,c12,c13,c14]):Fif w b off c0 c1 c2 c3 c4 c5 c6 c7 c8 c9 c10 c11 c12 c13 c14 :=
 ⟨h.cell 0 rfl,h.cell 1 rfl,h.cell 2 rfl,h.cell 3 rfl,h.cell 4 rfl,h.cell 5 rfl,h.cell 6 rfl,h.cell 7 rfl,h.cell 8 rfl,h.cell 9 rfl,h.cell 10 rfl,h.cell 11 rfl,h.cell 12 rfl,h.cell 13 rfl,h.cell 14 rfl⟩
theorem kL {w:World}{b off:Nat}{xs ys:List Value}(h:Cells w b off (xs++ys)):Cells w b off xs/\Cells w b (off+xs.length) ys:=by
 constructor
 ·intro i hi
  have:=h i (by simp;omega)
  rwa [List.getElem_append_left hi] at this
 ·intro i hi
  have:=h (xs.length+i) (by simp;omega)
  rw [List.getElem_append_right (by omega)] at this
  simpa [Nat.add_assoc] using this
theorem NdV.len {w:World}{cs:List Value}{N:Nd}(h:NdV w cs N):cs.length=15:=by
 cases N;rw [NdV] at h;obtain ⟨v0,v1,v2,v3,ka,kc,ba,bc,rfl,-⟩:=h;rfl
theorem StM.test {w:World}{b off:Nat}{S:St}(h:StM w b off S):NdM w b (off+4) S.te:=by
 obtain ⟨cs,h1,h2⟩:=h
 cases S with | mk k a n s te nd =>
 rw [StV] at h2
 obtain ⟨ct,cn,rfl,-,-,h3,-⟩:=h2
 have:=kL (xs:=[.int .i64 k,.int .i64 a,.string n,.int .i64 s]) (ys:=ct++cn) h1
 exact ⟨ct,(kL this.2).1,h3⟩
theorem StM.node {w:World}{b off:Nat}{S:St}(h:StM w b off S):NdM w b (off+19) S.nd:=by
 obtain ⟨cs,h1,h2⟩:=h
 cases S with | mk k a n s te nd =>
 rw [StV] at h2
 obtain ⟨ct,cn,rfl,-,-,h3,h4⟩:=h2
 have:=kL (xs:=[.int .i64 k,.int .i64 a,.string n,.int .i64 s]) (ys:=ct++cn) h1
 have e:=(kL this.2).2
 rw [h3.len] at e
 exact ⟨cn,by simpa [Nat.add_assoc] using e,h4⟩
theorem StM.head {w:World}{b off:Nat}{S:St}(h:StM w b off S):w.cell? ⟨b,off,none⟩=some (.int .i64 S.k)/\w.cell? ⟨b,off+1,none⟩=some (.int .i64 S.a)/\w.cell? ⟨b,off+2,none⟩=some (.string S.n)/\w.cell? ⟨b,off+3,none⟩=some (.int .i64 S.s):=by
 obtain ⟨cs,h1,h2⟩:=h
 cases S with | mk k a n s te nd =>
 rw [StV] at h2
 obtain ⟨ct,cn,rfl,-⟩:=h2
 exact ⟨h1.cell 0 rfl,h1.cell 1 rfl,h1.cell 2 rfl,h1.cell 3 rfl⟩
structure Open (w:World) (cs:List Value) (N:Nd) (v0 v1 v2 v3:Value) (ka:Option Addr) (kc:Nat) (ba:Option Addr) (bc:Nat) (kb ko bb bo:Nat):Prop where
 eq:cs=[.int .i64 N.k,.int .i64 N.a,.int .i64 N.c,.string N.t,.int .i64 N.p,.int .i64 N.o,v0,v1,v2,v3,.slice ka N.ks.length kc,.slice ba N.bd.length bc,.int .i64 N.d,.int .i64 N.s,.int .i64 N.z]
 bd:I64 N.k/\I64 N.a/\I64 N.c/\I64 N.p/\I64 N.o/\I64 N.d/\I64 N.s/\I64 N.z
 ts:N.t.size<=9223372036854775807
 arr:ArrAt w (.agg #[v0,v1,v2,v3]) N.v
 kl:N.ks.length<=kc/\kc<=9223372036854775807
 bl:N.bd.length<=bc/\bc<=9223372036854775807
 ka:N.ks≠[]->ka=some ⟨kb,ko,none⟩
 kat:NdsAt w kb ko N.ks
 ba:N.bd≠[]->ba=some ⟨bb,bo,none⟩
 bat:StsAt w bb bo N.bd
theorem NdV.open {w:World}{cs:List Value}{N:Nd}(h:NdV w cs N):∃ v0 v1 v2 v3 ka kc ba bc kb ko bb bo,Open w cs N v0 v1 v2 v3 ka kc ba bc kb ko bb bo:=by
 cases N with | mk k a c t p o v ks bd d s z =>
 rw [NdV] at h
 obtain ⟨v0,v1,v2,v3,ka,kc,ba,bc,e,hi,ht,hv,h1,h2,⟨b,off,h3,h4⟩,⟨b',off',h5,h6⟩⟩:=h
 exact ⟨v0,v1,v2,v3,ka,kc,ba,bc,b,off,b',off',e,hi,ht,hv,h1,h2,h3,h4,h5,h6⟩
theorem Open.ndv {w:World}{cs:List Value}{N:Nd}{v0 v1 v2 v3:Value}{ka:Option Addr}{kc:Nat}{ba:Option Addr}{bc kb ko bb bo:Nat}(h:Open w cs N v0 v1 v2 v3 ka kc ba bc kb ko bb bo):NdV w cs N:=by
 cases N with | mk k a c t p o v ks bd d s z =>
 rw [NdV]
 exact ⟨v0,v1,v2,v3,ka,kc,ba,bc,h.eq,h.bd,h.ts,h.arr,h.kl,h.bl,⟨kb,ko,h.ka,h.kat⟩,⟨bb,bo,h.ba,h.bat⟩⟩
theorem depK_app (a b:List Nd):depK (a++b)=max (depK a) (depK b):=by
 induction a with
 | nil=>simp [depK]
 | cons N r ih=>rw [List.cons_append,depK,depK,ih];omega
theorem depB_app (a b:List St):depB (a++b)=max (depB a) (depB b):=by
 induction a with
 | nil=>simp [depB]
 | cons N r ih=>rw [List.cons_append,depB,depB,ih];omega
theorem sizK_app (a b:List Nd):sizK (a++b)=sizK a+sizK b:=by
 induction a with
 | nil=>simp [sizK]
 | cons N r ih=>rw [List.cons_append,sizK,sizK,ih];omega
theorem sizB_app (a b:List St):sizB (a++b)=sizB a+sizB b:=by
 induction a with
 | nil=>simp [sizB]
 | cons N r ih=>rw [List.cons_append,sizB,sizB,ih];omega
theorem depK_step {l:List Nd}{j:Nat}(h:j<l.length):depK (l.take (j+1))=max (depK (l.take j)) (dep l[j]):=by
 rw [List.take_succ_eq_append_getElem h,depK_app,depK,depK];omega
theorem depB_step {l:List St}{j:Nat}(h:j<l.length):depB (l.take (j+1))=max (depB (l.take j)) (depS l[j]):=by
 rw [List.take_succ_eq_append_getElem h,depB_app,depB,depB];omega
theorem sizK_step {l:List Nd}{j:Nat}(h:j<l.length):sizK (l.take (j+1))=sizK (l.take j)+siz l[j]:=by
 rw [List.take_succ_eq_append_getElem h,sizK_app,sizK,sizK];omega
theorem sizB_step {l:List St}{j:Nat}(h:j<l.length):sizB (l.take (j+1))=sizB (l.take j)+sizS l[j]:=by
 rw [List.take_succ_eq_append_getElem h,sizB_app,sizB,sizB];omega
theorem depB_take (l:List St) (j:Nat):depB (l.take j)<=depB l:=by
 have h:depB (l.take j++l.drop j)=depB l:=by rw [List.take_append_drop]
 rw [depB_app] at h;omega
theorem sizK_take (l:List Nd) (j:Nat):sizK (l.take j)<=sizK l:=by
 have h:sizK (l.take j++l.drop j)=sizK l:=by rw [List.take_append_drop]
 rw [sizK_app] at h;omega
theorem sizB_take (l:List St) (j:Nat):sizB (l.take j)<=sizB l:=by
 have h:sizB (l.take j++l.drop j)=sizB l:=by rw [List.take_append_drop]
 rw [sizB_app] at h;omega
theorem vD (N:Nd):dep N=max (depK N.ks) (depB N.bd)+1:=by cases N;rw [dep];rfl
theorem qQ (N:Nd):siz N=sizK N.ks+sizB N.bd+1:=by cases N;rw [siz];rfl
theorem vR (S:St):depS S=max (if S.k==3 then dep S.te else 0) (dep S.nd):=by cases S;rw [depS];rfl
theorem vK (S:St):sizS S =(if S.k==3 then siz S.te else 0)+siz S.nd:=by cases S;rw [sizS];rfl
theorem dep_pos (N:Nd):1<=dep N:=by rw [vD];omega
theorem wZ (N:Nd):1<=siz N:=by rw [qQ];omega
theorem eqN_eq (N M:Nd):eqN N M =(N.k==M.k&&N.c==M.c&&N.t==M.t&&N.p==M.p&&N.o==M.o&&eqA N.v M.v&&eqK N.ks M.ks&&eqB N.bd M.bd):=by cases N;cases M;rw [eqN];rfl
theorem eqS_eq (S T:St):eqS S T =(S.k==T.k&&S.n==T.n&&eqN S.te T.te&&eqN S.nd T.nd):=by cases S;cases T;rw [eqS];rfl
theorem elemNds:Tryz.prog.underlying 38=some (.slice (Tryz.prog.elem 38)):=by kernel_rfl
theorem sizeNds (w:World):(sizeOf (Tryz.prog.elem 38)).run Tryz.prog w=.ok 15 w:=by kernel_rfl
theorem elemSts:Tryz.prog.underlying 22=some (.slice (Tryz.prog.elem 22)):=by kernel_rfl
theorem sizeSts (w:World):(sizeOf (Tryz.prog.elem 22)).run Tryz.prog w=.ok 34 w:=by kernel_rfl
theorem zR {ia:Option Addr}{n ic b off:Nat}{l:List Nd}(hn:n=l.length) (ha:l≠[]->ia=some ⟨b,off,none⟩) {k:Nat}(hk:k<l.length) (w':World) :
  (Instr.indexAt 38 (.slice ia n ic) (.int .i64 k)).run Tryz.prog w'=.ok (.pointer (some ⟨b,off+k*15,none⟩)) w':=by
 subst hn
 have e:=ha (by intro e;subst e;simp at hk)
 subst e
 rw [run_indexAt_slice w' _ _ _ _ .i64 k elemNds,if_pos (by omega),sizeNds]
 show Result.ok _ w'=_
 rw [show (k:Int).toNat=k by omega,add_plain]
theorem zg {ia:Option Addr}{n ic b off:Nat}{l:List St}(hn:n=l.length) (ha:l≠[]->ia=some ⟨b,off,none⟩) {k:Nat}(hk:k<l.length) (w':World) :
  (Instr.indexAt 22 (.slice ia n ic) (.int .i64 k)).run Tryz.prog w'=.ok (.pointer (some ⟨b,off+k*34,none⟩)) w':=by
 subst hn
 have e:=ha (by intro e;subst e;simp at hk)
 subst e
 rw [run_indexAt_slice w' _ _ _ _ .i64 k elemSts,if_pos (by omega),sizeSts]
 show Result.ok _ w'=_
 rw [show (k:Int).toNat=k by omega,add_plain]
def NPar (w:World) (B:Nat) (cs:List Value):Prop:=B<w.heap.size/\Cells w B 0 cs
theorem NPar.below {w w':World}{B:Nat}{cs:List Value}(h:NPar w B cs) (hb:Below w.heap.size w w'):NPar w' B cs:=⟨Nat.lt_of_lt_of_le h.1 hb.size,h.2.below hb⟩
theorem NPar.drew {w:World}{B:Nat}{cs:List Value}(h:NPar w B cs):NPar w.drew B cs:=h
theorem NPar.new (w:World) (cs:List Value) (t:TypeId):NPar (w.alloc (.cells cs.toArray t)) w.heap.size cs:=by
 refine ⟨by simp,fun i hi=>?_⟩
 rw [World.cell?_alloc_new]
 simp [hi]
theorem Cells.zero {w:World}{B:Nat}{cs:List Value}(h:Cells w B 0 cs) (i:Nat) {v:Value}(hv:cs[i]?=some v):w.cell? ⟨B,i,none⟩=some v:=by
 have:=h.cell i hv;rwa [Nat.zero_add] at this
def Fip (w:World) (b:Nat) (c0 c1 c2 c3 c4 c5 c6 c7 c8 c9 c10 c11 c12 c13 c14:Value):Prop :=
 w.cell? ⟨b,0,none⟩=some c0/\w.cell? ⟨b,1,none⟩=some c1/\w.cell? ⟨b,2,none⟩=some c2/\w.cell? ⟨b,3,none⟩=some c3/\w.cell? ⟨b,4,none⟩=some c4 /\
 w.cell? ⟨b,5,none⟩=some c5/\w.cell? ⟨b,6,none⟩=some c6/\w.cell? ⟨b,7,none⟩=some c7/\w.cell? ⟨b,8,none⟩=some c8/\w.cell? ⟨b,9,none⟩=some c9 /\
 w.cell? ⟨b,10,none⟩=some c10/\w.cell? ⟨b,11,none⟩=some c11/\w.cell? ⟨b,12,none⟩=some c12/\w.cell? ⟨b,13,none⟩=some c13/\w.cell? ⟨b,14,none⟩=some c14
theorem NPar.fip {w:World}{b:Nat}{c0 c1 c2 c3 c4 c5 c6 c7 c8 c9 c10 c11 c12 c13 c14:Value}(h:NPar w b [c0,c1,c2,c3,c4,c5,c6,c7,c8,c9,c10,c11,c12,c13,c14]):Fip w b c0 c1 c2 c3 c4 c5 c6 c7 c8 c9 c10 c11 c12 c13 c14 :=
 ⟨h.2.zero 0 rfl,h.2.zero 1 rfl,h.2.zero 2 rfl,h.2.zero 3 rfl,h.2.zero 4 rfl,h.2.zero 5 rfl,h.2.zero 6 rfl,h.2.zero 7 rfl,h.2.zero 8 rfl,h.2.zero 9 rfl,h.2.zero 10 rfl,h.2.zero 11 rfl,h.2.zero 12 rfl,h.2.zero 13 rfl,h.2.zero 14 rfl⟩
theorem kI {α:Type}{xs:List α}(h:xs.length=15):∃ c0 c1 c2 c3 c4 c5 c6 c7 c8 c9 c10 c11 c12 c13 c14,xs=[c0,c1,c2,c3,c4,c5,c6,c7,c8,c9,c10,c11,c12,c13,c14]:=by
 match xs,h with
 | [c0,c1,c2,c3,c4,c5,c6,c7,c8,c9,c10,c11,c12,c13,c14],_=>exact ⟨c0,c1,c2,c3,c4,c5,c6,c7,c8,c9,c10,c11,c12,c13,c14,rfl⟩
end Go.Proofs.YtmfhdcpajgjgpaaGreatDoor.Syn
