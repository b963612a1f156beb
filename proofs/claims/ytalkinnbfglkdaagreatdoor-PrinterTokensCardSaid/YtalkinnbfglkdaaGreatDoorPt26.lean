/-
  Layer 10: the literal of a literal's value (a number, a character, characters): the program's and the reference's. (Written by wip/gen/syn-lit.py.)
-/
import Derived.Test.YtalkinnbfglkdaaGreatDoorPt21
import Derived.Test.YtalkinnbfglkdaaGreatDoorPt16
import Derived.Test.YtalkinnbfglkdaaGreatDoorPt15
import Derived.Deep.RegionHeld3
import Derived.Deep.DeepCutAuto
set_option maxHeartbeats 8000000
namespace Go.Proofs.YtalkinnbfglkdaaGreatDoor.Shape
open Go.RowKit Go.Proofs.YtalkinnbfglkdaaGreatDoor.Num
set_option linter.unusedVariables false
set_option linter.unusedSimpArgs false
set_option maxRecDepth 100000 in
theorem wlChar (sh nu:List Int) (it:List Arr) (N:Nat) (hN:aSize (.mk 2 sh nu it)=N) (hch:∀ x∈nu,0<=x/\x<=1114111) (hn0:nu.length<=66000) (v:Value) (w:World) (X:Nat) (hT:Tok.TZ w) (hg:10<X) (h:Bld w X []) (hA:AA X w v (.mk 2 sh nu it)) (hr1:Hid (sh.length=1)) :
  Calls Tryz.prog 137 #[.pointer (some ⟨X,0,none⟩),v] w (Wrote w X ([]++quoS nu)):=by
 have hA':=hA
 rw [AA,ArrOn] at hA'
 obtain ⟨sa,sc,na,nc,ia,ic,rfl,hk,hs,hn,h1,h2,b,off,ha,hc⟩:=hA'
 obtain ⟨r,hr⟩:∃ r,Hid (sh.length=r):=⟨_,rfl⟩
 rw [hr.out] at hA ⊢
 have bw:=below_new w (.cells #[.int .i64 2,.slice sa r sc,.slice na nu.length nc,.slice ia it.length ic] 46)
 have k0:Kp X w (w.alloc (.cells #[.int .i64 2,.slice sa r sc,.slice na nu.length nc,.slice ia it.length ic] 46)):=(Kp.refl X w).below (Nat.le_of_lt h.lt) bw
 have hB:=h.below bw
 have q0:=Quad.new w (.int .i64 2) (.slice sa r sc) (.slice na nu.length nc) (.slice ia it.length ic)
 have hlt:=h.lt
 have hne:w.heap.size≠X:=Nat.ne_of_gt hlt
 have hX1:X<=(w.alloc (.cells #[.int .i64 2,.slice sa r sc,.slice na nu.length nc,.slice ia it.length ic] 46)).heap.size:=by simp;omega
 have cZ:∀ w',Kp X w w'->Calls Tryz.prog 136 #[(.agg #[.int .i64 2,.slice sa r sc,.slice na nu.length nc,.slice ia it.length ic])] w' fun e w2=>e=.returned (.int .i64 (N:Int))/\Below w'.heap.size w' w2:=fun w' kp=>by
  have:=sizeQ _ (.mk 2 sh nu it) w' (AA.at (AA.keep hA kp))
  rw [hN] at this
  exact this
 have hS:=fun w' (kp:Kp X w w')=>(II.keep hs kp).at
 clear hn h1 h2 ha hc hk
 obtain ⟨W0,hW0⟩:∃ W0,w.alloc (.cells #[.int .i64 2,.slice sa r sc,.slice na nu.length nc,.slice ia it.length ic] 46)=W0:=⟨_,rfl⟩
 have H0:∀ w',Below W0.heap.size W0 w'->(w'.cell? ⟨w.heap.size,0,none⟩=some (.int .i64 2)/\w'.cell? ⟨w.heap.size,1,none⟩=some (.slice sa r sc)/\w'.cell? ⟨w.heap.size,2,none⟩=some (.slice na nu.length nc)/\w'.cell? ⟨w.heap.size,3,none⟩=some (.slice ia it.length ic))/\Below W0.heap.size W0 w':=fun w' hb=>by
  rw [hW0] at q0
  obtain ⟨x0,x1,x2,x3,-⟩:=(Quad.below hb q0).cells
  exact ⟨⟨x0,x1,x2,x3⟩,hb⟩
 have B0:Below W0.heap.size W0 W0:=Below.refl _ _
 go_enter Tryz.func137,Tryz.ntmps137
 go_upto_region 1 with fail
 try rw [hW0]
 rw [hW0] at k0 hB q0 bw hX1
 go_cut [4,5] (fun s4 s5 wx=>s4=.int .i64 (r:Int)/\s5=.int .i64 (N:Int)/\Below W0.heap.size W0 wx)
 case first =>
  go_region_held3 (fun w'=>(w'.cell? ⟨w.heap.size,0,none⟩=some (.int .i64 2)/\w'.cell? ⟨w.heap.size,1,none⟩=some (.slice sa r sc)/\w'.cell? ⟨w.heap.size,2,none⟩=some (.slice na nu.length nc)/\w'.cell? ⟨w.heap.size,3,none⟩=some (.slice ia it.length ic))/\Below W0.heap.size W0 w')
   (first | exact H0 _ (by go_grown) | go_keep)
   ((first |(go_at_call 136;(with_reducible refine (cZ _ (Kp.below k0 hX1 (by go_grown))).mono ?_);rintro e w2 ⟨rfl,b2⟩;(have E2:Below W0.heap.size W0 w2:=Below.then (by go_grown) b2);(have S2:=E2.size))))
  all_goals (go_wp2_with fail;go_meet;exact ⟨rfl,rfl,by first | exact E2 | go_grown⟩)
 case rest =>
  obtain ⟨rfl,rfl,bx⟩:=hcut
  have hrl:=hr.out
  have KX:=k0.below hX1 bx
  have BX:=hB.below bx
  have qx:=Quad.below bx q0
  obtain ⟨y0,y1,y2,y3,-⟩:=qx.cells
  clear H0 B0 cZ bw k0 hB q0
  have hr1:=hr1.out
  have cV:=wv2 sh nu it _ hch hn0 wc X [] (by simp only [List.length_nil];omega) (tz_kp hT hg KX) hg BX (AA.keep hA KX)
  have e1:((r:Int)==1)=true:=by simp;omega
  have e2:(0:Int) <(r:Int):=by omega
  clear hr1 hN hS hrl hch hn0
  by_cases e3:(1:Int) <(N:Int)
  ·go_wp2_with ((go_at_call 149;(with_reducible refine cV.mono ?_);rintro e5 w5 ⟨rfl,h5,k5⟩))
   refine bodyPost_ret (results_none rfl _ _ _) rfl ?_
   exact ⟨rfl,h5,KX.trans k5⟩
  ·go_wp2_with ((go_at_call 149;(with_reducible refine cV.mono ?_);rintro e5 w5 ⟨rfl,h5,k5⟩))
   refine bodyPost_ret (results_none rfl _ _ _) rfl ?_
   exact ⟨rfl,h5,KX.trans k5⟩
theorem aa_old2 {w w':World}{v:Value}{A:Arr}{X:Nat}(h:ArrAt w v A) (hb:Below w.heap.size w w') (hX:w.heap.size<=X):AA X w' v A :=
 (ArrAt.on h).keep fun g hg hl=>⟨Or.inl (by omega),fun o=>hb.cell hg⟩
theorem headD_at0:∀ {l:List (List UInt8)}(h:0<l.length),l.headD []=l[0]
 | [],h=>absurd h (by simp)
 | x::r,_=>rfl
set_option maxRecDepth 100000 in
theorem wlScal (sh nu:List Int) (it:List Arr) (k:Int) (N:Nat) (hN:aSize (.mk k sh nu it)=N) (hk:1<=k/\k<=2) (hch:k=2->∀ x∈nu,0<=x/\x<=1114111) (hi0:0 <(elsT (.mk k sh nu it)).length) (hl0:([]:List UInt8).length+((elsT (.mk k sh nu it))[0]).length<=700000) (v:Value) (w:World) (X:Nat) (hT:Tok.TZ w) (hg:10<X) (h:Bld w X []) (hA:AA X w v (.mk k sh nu it)) (hr0:Hid (sh.length=0)) (h1:1<=N) (h11:Hid (N=1)) :
  Calls Tryz.prog 137 #[.pointer (some ⟨X,0,none⟩),v] w (Wrote w X ([]++(elsT (.mk k sh nu it)).headD [])):=by
 have hA':=hA
 rw [AA,ArrOn] at hA'
 obtain ⟨sa,sc,na,nc,ia,ic,rfl,-,hs,hn,h1',h2,b,off,ha,hc⟩:=hA'
 obtain ⟨r,hr⟩:∃ r,Hid (sh.length=r):=⟨_,rfl⟩
 rw [hr.out] at hA ⊢
 have bw:=below_new w (.cells #[.int .i64 k,.slice sa r sc,.slice na nu.length nc,.slice ia it.length ic] 46)
 have k0:Kp X w (w.alloc (.cells #[.int .i64 k,.slice sa r sc,.slice na nu.length nc,.slice ia it.length ic] 46)):=(Kp.refl X w).below (Nat.le_of_lt h.lt) bw
 have hB:=h.below bw
 have q0:=Quad.new w (.int .i64 k) (.slice sa r sc) (.slice na nu.length nc) (.slice ia it.length ic)
 have hlt:=h.lt
 have hne:w.heap.size≠X:=Nat.ne_of_gt hlt
 have hX1:X<=(w.alloc (.cells #[.int .i64 k,.slice sa r sc,.slice na nu.length nc,.slice ia it.length ic] 46)).heap.size:=by simp;omega
 have cZ:∀ w',Kp X w w'->Calls Tryz.prog 136 #[(.agg #[.int .i64 k,.slice sa r sc,.slice na nu.length nc,.slice ia it.length ic])] w' fun e w2=>e=.returned (.int .i64 (N:Int))/\Below w'.heap.size w' w2:=fun w' kp=>by
  have:=sizeQ _ (.mk k sh nu it) w' (AA.at (AA.keep hA kp))
  rw [hN] at this
  exact this
 have hS:=fun w' (kp:Kp X w w')=>(II.keep hs kp).at
 clear hn h1' h2 ha hc
 obtain ⟨W0,hW0⟩:∃ W0,w.alloc (.cells #[.int .i64 k,.slice sa r sc,.slice na nu.length nc,.slice ia it.length ic] 46)=W0:=⟨_,rfl⟩
 have H0:∀ w',Below W0.heap.size W0 w'->(w'.cell? ⟨w.heap.size,0,none⟩=some (.int .i64 k)/\w'.cell? ⟨w.heap.size,1,none⟩=some (.slice sa r sc)/\w'.cell? ⟨w.heap.size,2,none⟩=some (.slice na nu.length nc)/\w'.cell? ⟨w.heap.size,3,none⟩=some (.slice ia it.length ic))/\Below W0.heap.size W0 w':=fun w' hb=>by
  rw [hW0] at q0
  obtain ⟨x0,x1,x2,x3,-⟩:=(Quad.below hb q0).cells
  exact ⟨⟨x0,x1,x2,x3⟩,hb⟩
 have B0:Below W0.heap.size W0 W0:=Below.refl _ _
 go_enter Tryz.func137,Tryz.ntmps137
 go_upto_region 1 with fail
 try rw [hW0]
 rw [hW0] at k0 hB q0 bw hX1
 go_cut [4,5] (fun s4 s5 wx=>s4=.int .i64 (r:Int)/\s5=.int .i64 (N:Int)/\Below W0.heap.size W0 wx)
 case first =>
  go_region_held3 (fun w'=>(w'.cell? ⟨w.heap.size,0,none⟩=some (.int .i64 k)/\w'.cell? ⟨w.heap.size,1,none⟩=some (.slice sa r sc)/\w'.cell? ⟨w.heap.size,2,none⟩=some (.slice na nu.length nc)/\w'.cell? ⟨w.heap.size,3,none⟩=some (.slice ia it.length ic))/\Below W0.heap.size W0 w')
   (first | exact H0 _ (by go_grown) | go_keep)
   ((first |(go_at_call 136;(with_reducible refine (cZ _ (Kp.below k0 hX1 (by go_grown))).mono ?_);rintro e w2 ⟨rfl,b2⟩;(have E2:Below W0.heap.size W0 w2:=Below.then (by go_grown) b2);(have S2:=E2.size))))
  all_goals (go_wp2_with fail;go_meet;exact ⟨rfl,rfl,by first | exact E2 | go_grown⟩)
 case rest =>
  obtain ⟨rfl,rfl,bx⟩:=hcut
  have hrl:=hr.out
  have KX:=k0.below hX1 bx
  have BX:=hB.below bx
  have qx:=Quad.below bx q0
  obtain ⟨y0,y1,y2,y3,-⟩:=qx.cells
  clear H0 B0 cZ bw k0 hB q0
  have hr0:=hr0.out
  have h11:=h11.out
  have cS:=writeScalarQ (.mk k sh nu it) _ 0 ⟨hk.1,by show k<=3;omega⟩ hch (fun h=>absurd h (by show ¬ k=3;omega)) hi0 wc X [] hl0 (tz_kp hT hg KX) hg BX (AA.keep hA KX)
  rw [<- headD_at0 hi0,show ((0:Nat):Int)=0 from rfl] at cS
  have e1:((r:Int)==1)=false:=by simp;omega
  have e2:¬ (0:Int) <(r:Int):=by omega
  have e3:¬ (1:Int) <(N:Int):=by omega
  have e4:((N:Int)==1)=true:=by simp;omega
  clear hr0 h1 h11 hN hS hrl hi0 hl0 hch hk
  go_wp2_with ((go_at_call 150;(with_reducible refine cS.mono ?_);rintro e5 w5 ⟨rfl,h5,k5⟩))
  refine bodyPost_ret (results_none rfl _ _ _) rfl ?_
  exact ⟨rfl,h5,KX.trans k5⟩
set_option maxRecDepth 100000 in
theorem literalG (v:Value) (A:Arr) (L:List UInt8) (w:World) (h:ArrAt w v A) (hT:Tok.TZ w) (hg:10<w.heap.size)
  (hW:∀ (w:World) (X:Nat) (v:Value),Tok.TZ w->10<X->Bld w X []->AA X w v A->Calls Tryz.prog 137 #[.pointer (some ⟨X,0,none⟩),v] w (Wrote w X ([]++L))) :
  Calls Tryz.prog 122 #[v] w fun e w'=>e=.returned (.string ⟨L.toArray⟩)/\Below w.heap.size w w':=by
 have hA:=h
 obtain ⟨c0,c1,c2,c3,rfl⟩:∃ c0 c1 c2 c3:Value,v=.agg #[c0,c1,c2,c3]:=by
  obtain ⟨k,sh,nu,it⟩:=A
  rw [ArrAt] at h
  obtain ⟨sa,sc,na,nc,ia,ic,rfl,-⟩:=h
  exact ⟨_,_,_,_,rfl⟩
 have b2:Below w.heap.size w ((w.alloc (.cells #[c0,c1,c2,c3] 46)).alloc (.cells #[.pointer none,.slice none 0 0] 63)):=Below.then (below_new _ _) (below_new _ _)
 have D0:=Bld.new (w.alloc (.cells #[c0,c1,c2,c3] 46))
 have hz:(w.alloc (.cells #[c0,c1,c2,c3] 46)).heap.size=w.heap.size+1:=by simp
 rw [hz] at D0
 have hT2:Tok.TZ ((w.alloc (.cells #[c0,c1,c2,c3] 46)).alloc (.cells #[.pointer none,.slice none 0 0] 63)):=Tok.TZ.below hT b2
 have cW:=hW _ (w.heap.size+1) _ hT2 (by omega) D0 (aa_old2 hA b2 (by omega))
 rw [List.nil_append] at cW
 have q0:=(Quad.new w c0 c1 c2 c3).below (below_new _ (.cells #[.pointer none,.slice none 0 0] 63))
 obtain ⟨p0,p1,p2,p3,-⟩:=q0.cells
 clear hz h hW
 go_enter Tryz.func122,Tryz.ntmps122
 go_wp2_with (first
  |(go_at_call 137;(with_reducible refine cW.mono ?_);rintro e1 w1 ⟨rfl,h1,k1⟩;have B1:=b2.trans (k1.1.mono (Nat.le_succ _)))
  |(go_at_call 18;(with_reducible refine (bldString _ (w.heap.size+1) L h1).mono ?_);rintro e2 w2 ⟨rfl,b3⟩))
 go_ret
 exact ⟨rfl,B1.trans (b3.mono (Nat.le_succ _))⟩
set_option maxRecDepth 100000 in
theorem LiteralG (v:Value) (A:Arr) (L:List UInt8) (w:World) (h:ArrAt w v A) (hx:rightE A=0) (hT:Tok.TZ w) (hg:10<w.heap.size)
  (hW:∀ (w:World) (X:Nat) (v:Value),Tok.TZ w->10<X->Bld w X []->AA X w v A->Calls Tryz.prog 137 #[.pointer (some ⟨X,0,none⟩),v] w (Wrote w X ([]++L))) :
  Calls Tryz.prog 106 #[v] w fun e w'=>e=.returned (.string ⟨L.toArray⟩)/\Below w.heap.size w w':=by
 have hA:=h
 have R:=fun W (g:ArrAt W v A)=>rightQ v A W g
 have LP:=fun W (g:ArrAt W v A) (_:(0:Int)=0) hT hg=>literalG v A L W g hT hg hW
 rw [hx] at R
 clear hW hx
 obtain ⟨c0,c1,c2,c3,rfl⟩:∃ c0 c1 c2 c3:Value,v=.agg #[c0,c1,c2,c3]:=by
  obtain ⟨k,sh,nu,it⟩:=A
  rw [ArrAt] at h
  obtain ⟨sa,sc,na,nc,ia,ic,rfl,-⟩:=h
  exact ⟨_,_,_,_,rfl⟩
 have bw:=below_new w (.cells #[c0,c1,c2,c3] 46)
 have q0:=Quad.new w c0 c1 c2 c3
 have hA1:=hA.below bw
 have hT1:=Tok.TZ.below hT bw
 have cR:=R _ hA1
 obtain ⟨p0,p1,p2,p3,-⟩:=q0.cells
 clear R hA h
 have hs1:=bw.size
 go_enter Tryz.func106,Tryz.ntmps106
 go_wp2_with (first
  |(go_at_call 117;(with_reducible refine cR.mono ?_);rintro e1 w1 ⟨rfl,b1⟩;obtain ⟨y0,y1,y2,y3,-⟩:=(q0.below b1).cells;have cL:=LP w1 (hA1.below b1) rfl (Tok.TZ.below hT1 b1) (Nat.lt_of_lt_of_le hg (Nat.le_trans hs1 b1.size)))
  |(go_at_call 122;(with_reducible refine cL.mono ?_);rintro e2 w2 ⟨rfl,b2⟩))
 go_ret
 exact ⟨rfl,Below.then (Below.then bw b1) b2⟩
end Go.Proofs.YtalkinnbfglkdaaGreatDoor.Shape
