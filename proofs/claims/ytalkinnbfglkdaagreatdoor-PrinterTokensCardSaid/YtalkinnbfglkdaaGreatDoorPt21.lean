/-
  Layer 5: the program's writeScalar. (Written by wip/gen/format-p1.py.)
  Layer 5: the program's writeVector. (Written by wip/gen/format-p2.py.)
-/
import Derived.Test.YtalkinnbfglkdaaGreatDoorPt10
import Derived.Test.YtalkinnbfglkdaaGreatDoorPt16
import Derived.Test.YtalkinnbfglkdaaGreatDoorPt6
import Derived.Test.YtalkinnbfglkdaaGreatDoorPt9
set_option maxHeartbeats 8000000
namespace Go.Proofs.YtalkinnbfglkdaaGreatDoor.Shape
open Go.RowKit Go.Proofs.YtalkinnbfglkdaaGreatDoor.Num
set_option linter.unusedVariables false
set_option linter.unusedSimpArgs false
theorem Quad.kp {X R:Nat}{w w':World}{c0 c1 c2 c3:Value}(h:Quad w R c0 c1 c2 c3) (hn:R≠X) (k:Kp X w w'):Quad w' R c0 c1 c2 c3 :=
 k.2 R _ h (fun e=>hn (Option.some.inj e)) (fun c fz e=>by injection e with e1 e2 e3;exact absurd e2 (by decide))
theorem tz_kp {X:Nat}{w w':World}(hT:Tok.TZ w) (hg:10<X) (k:Kp X w w'):Tok.TZ w':=by
 have:=k.1.cell (p:=⟨10,15,none⟩) hg
 unfold Tok.TZ at hT ⊢
 rw [this];exact hT
theorem enc_39:enc ((39:Nat):Int)=[39]:=by decide
theorem enc_34:enc ((34:Nat):Int)=[34]:=by decide
theorem II.one {X:Nat}{w:World}(hX:X<w.heap.size) (x:Int) (hx:-9223372036854775808<=x/\x<=9223372036854775807):II X (w.alloc (.cells #[.int .i64 x] 3)) (some ⟨w.heap.size,0,none⟩) 1 [x]:=by
 refine ⟨⟨Nat.le_refl _,by decide,fun y hy=>by simp at hy;subst hy;exact hx,w.heap.size,0,fun _=>rfl,fun i hi=>?_⟩,fun _ ad e=>?_⟩
 ·obtain rfl:i=0:=by simpa using hi
  rw [World.cell?_alloc_new];rfl
 ·cases e
  exact Or.inr ⟨by show w.heap.size≠X;omega,_,Tok.heap_alloc_new w _,fun c fz e=>by injection e with e1 e2 e3;exact absurd e2 (by decide)⟩
theorem ArrsOn.item {P:Nat->Prop}{w:World}:∀ {l:List Arr}{b off:Nat},ArrsOn P w b off l->∀ {k:Nat}(hk:k<l.length),∃ c0 c1 c2 c3:Value,
  (w.cell? ⟨b,off+k*4,none⟩=some c0/\w.cell? ⟨b,off+k*4+1,none⟩=some c1/\w.cell? ⟨b,off+k*4+2,none⟩=some c2/\w.cell? ⟨b,off+k*4+3,none⟩=some c3)/\ArrOn P w (.agg #[c0,c1,c2,c3]) l[k]
 | [],_,_,_,k,hk=>absurd hk (by simp)
 | A::r,b,off,h,k,hk=>by
  rw [ArrsOn] at h
  cases k with
  | zero=>simpa using h.1
  | succ k =>
   have:=ArrsOn.item h.2 (k:=k) (by simpa using hk)
   have e:off+4+k*4=off+(k+1)*4:=by omega
   rw [e] at this
   simpa using this
theorem litsS_at:∀ (l:List Arr) (i:Nat) (hi:i<l.length),(litsS l)[i]'(by rw [litsS_len];exact hi)=98::111::120::32::litS l[i]
 | [],i,hi=>absurd hi (by simp)
 | A::r,0,hi=>by simp [litsS]
 | A::r,i+1,hi=>by
  have:=litsS_at r i (by simpa using hi)
  simp only [litsS,List.getElem_cons_succ]
  exact this
def WrA (A:Arr):Prop:=∀ (w:World) (X:Nat) (l:List UInt8) (v:Value),l.length+(litS A).length<=700000->Tok.TZ w->10<X->Bld w X l->AA X w v A ->
 Calls Tryz.prog 137 #[.pointer (some ⟨X,0,none⟩),v] w (Wrote w X (l++litS A))
set_option maxRecDepth 100000 in
theorem wsc1 (sh nu:List Int) (it:List Arr) (v:Value) (i:Nat) (hi:i<nu.length) (w:World) (X:Nat) (l:List UInt8) (hl:l.length<=850000) (h:Bld w X l) (hA:ArrAt w v (.mk 1 sh nu it)) :
  Calls Tryz.prog 150 #[.pointer (some ⟨X,0,none⟩),v,.int .i64 (i:Int)] w (Wrote w X (l++shL nu[i])):=by
 have hA':=hA
 rw [ArrAt] at hA'
 obtain ⟨sa,sc,na,nc,ia,ic,rfl,hk,hs,hn,h1,h2,b,off,ha,hc⟩:=hA'
 have bw:=below_new w (.cells #[.int .i64 1,.slice sa sh.length sc,.slice na nu.length nc,.slice ia it.length ic] 46)
 have k0:Kp X w (w.alloc (.cells #[.int .i64 1,.slice sa sh.length sc,.slice na nu.length nc,.slice ia it.length ic] 46)):=(Kp.refl X w).below (Nat.le_of_lt h.lt) bw
 have hB:=h.below bw
 have hn1:=hn.below bw
 obtain ⟨b',o',hi',hc'⟩:=hn1.at hi
 obtain ⟨bd1,bd2⟩:=hn1.bd hi
 obtain ⟨x,hx⟩:∃ x,nu[i]=x:=⟨_,rfl⟩
 rw [hx] at hc' bd1 bd2 ⊢
 have cN:∀ w,Calls Tryz.prog 160 #[.int .i64 x] w fun e w'=>e=.returned (.string ⟨(shL x).toArray⟩)/\Below w.heap.size w w':=fun w=>Num.showP x w bd1 bd2
 have hsz:(shL x).length<=1000000:=by
  have:=sS_size x bd1 bd2
  have e:(sS x).size =(shL x).length:=rfl
  omega
 have hlt:=h.lt
 clear hn1 hx hs hn h1 h2 ha hc hk
 go_enter Tryz.func150,Tryz.ntmps150
 go_wp2_with (first
  |(go_at_call 160;with_reducible refine (cN _).mono ?_;rintro e1 w1 ⟨rfl,b1⟩)
  |(go_at_call 17;with_reducible refine (wrL _ X l (shL x) hsz (by omega) (Bld.below hB b1)).mono ?_;rintro e2 w2 ⟨⟨n2,rfl⟩,h2,k2⟩))
 refine bodyPost_ret (results_none rfl _ _ _) rfl ?_
 exact ⟨rfl,h2,(k0.below (by simp;omega) b1).trans k2⟩
set_option maxRecDepth 100000 in
theorem wsc2 (sh nu:List Int) (it:List Arr) (v:Value) (i:Nat) (hi:i<nu.length) (hch:∀ x∈nu,0<=x/\x<=1114111) (w:World) (X:Nat) (l:List UInt8) (hl:l.length<=850000) (hT:Tok.TZ w) (hg:10<X) (h:Bld w X l) (hA:ArrAt w v (.mk 2 sh nu it)) :
  Calls Tryz.prog 150 #[.pointer (some ⟨X,0,none⟩),v,.int .i64 (i:Int)] w (Wrote w X (l++(39::(chS nu[i] 39++[39])))):=by
 have hA':=hA
 rw [ArrAt] at hA'
 obtain ⟨sa,sc,na,nc,ia,ic,rfl,hk,hs,hn,h1,h2,b,off,ha,hc⟩:=hA'
 have bw:=below_new w (.cells #[.int .i64 2,.slice sa sh.length sc,.slice na nu.length nc,.slice ia it.length ic] 46)
 have k0:Kp X w (w.alloc (.cells #[.int .i64 2,.slice sa sh.length sc,.slice na nu.length nc,.slice ia it.length ic] 46)):=(Kp.refl X w).below (Nat.le_of_lt h.lt) bw
 have hB:=h.below bw
 have hn1:=hn.below bw
 obtain ⟨b',o',hi',hc'⟩:=hn1.at hi
 obtain ⟨bd1,bd2⟩:=hch _ (List.getElem_mem hi)
 obtain ⟨x,hx⟩:∃ x,nu[i]=x:=⟨_,rfl⟩
 rw [hx] at hc' bd1 bd2 ⊢
 have hlt:=h.lt
 have hw1:X <(w.alloc (.cells #[.int .i64 2,.slice sa sh.length sc,.slice na nu.length nc,.slice ia it.length ic] 46)).heap.size:=by simp;omega
 have b2:=below_new (w.alloc (.cells #[.int .i64 2,.slice sa sh.length sc,.slice na nu.length nc,.slice ia it.length ic] 46)) (.cells #[.int .i64 x] 3)
 have k2:Kp X w ((w.alloc (.cells #[.int .i64 2,.slice sa sh.length sc,.slice na nu.length nc,.slice ia it.length ic] 46)).alloc (.cells #[.int .i64 x] 3)):=k0.below (Nat.le_of_lt hw1) b2
 have hB2:=hB.below b2
 have hI:=II.one hw1 x ⟨by omega,by omega⟩
 have hz:(w.alloc (.cells #[.int .i64 2,.slice sa sh.length sc,.slice na nu.length nc,.slice ia it.length ic] 46)).heap.size=w.heap.size+1:=by simp
 rw [hz] at hI
 have cQ:Calls Tryz.prog 159 #[.pointer (some ⟨X,0,none⟩),.int .i32 39,.slice (some ⟨w.heap.size+1,0,none⟩) 1 1] ((w.alloc (.cells #[.int .i64 2,.slice sa sh.length sc,.slice na nu.length nc,.slice ia it.length ic] 46)).alloc (.cells #[.int .i64 x] 3)) (Wrote ((w.alloc (.cells #[.int .i64 2,.slice sa sh.length sc,.slice na nu.length nc,.slice ia it.length ic] 46)).alloc (.cells #[.int .i64 x] 3)) X (l++(39::(chS x 39++[39])))):=by
  have:=writeQuotedQ 39 (by decide) (some ⟨w.heap.size+1,0,none⟩) 1 [x] (fun y hy=>by simp at hy;subst hy;exact ⟨bd1,bd2⟩) (by simp) _ X l (by simp;omega) (tz_kp hT hg k2) hg hB2 hI
  have e:quoQ 39 [x]=39::(chS x 39++[39]):=by
   rw [quoQ,enc_39];simp
  rw [e] at this
  exact this
 clear hn1 hx hs hn h1 h2 ha hc hk hI hz
 go_enter Tryz.func150,Tryz.ntmps150
 go_wp2_with (go_at_call 159;with_reducible refine cQ.mono ?_;rintro e1 w1 ⟨rfl,h3,k3⟩)
 refine bodyPost_ret (results_none rfl _ _ _) rfl ?_
 exact ⟨rfl,h3,k2.trans k3⟩
set_option maxRecDepth 100000 in
theorem wsc3 (sh nu:List Int) (it:List Arr) (v:Value) (i:Nat) (hi:i<it.length) (hW:WrA it[i]) (w:World) (X:Nat) (l:List UInt8) (hl:l.length+4+(litS it[i]).length<=700000) (hT:Tok.TZ w) (hg:10<X) (h:Bld w X l) (hA:AA X w v (.mk 3 sh nu it)) :
  Calls Tryz.prog 150 #[.pointer (some ⟨X,0,none⟩),v,.int .i64 (i:Int)] w (Wrote w X (l++(98::111::120::32::litS it[i]))):=by
 have hA':=hA
 rw [AA,ArrOn] at hA'
 obtain ⟨sa,sc,na,nc,ia,ic,rfl,hk,hs,hn,h1,h2,b,off,ha,hc⟩:=hA'
 have bw:=below_new w (.cells #[.int .i64 3,.slice sa sh.length sc,.slice na nu.length nc,.slice ia it.length ic] 46)
 have k0:Kp X w (w.alloc (.cells #[.int .i64 3,.slice sa sh.length sc,.slice na nu.length nc,.slice ia it.length ic] 46)):=(Kp.refl X w).below (Nat.le_of_lt h.lt) bw
 have hB:=h.below bw
 have hlt:=h.lt
 have hne:it≠[]:=fun e=>by rw [e] at hi;exact absurd hi (by simp)
 obtain ⟨rfl,hPb⟩:=ha hne
 have hix:∀ w':World,(Instr.indexAt 44 (.slice (some ⟨b,off,none⟩) it.length ic) (.int .i64 (i:Int))).run Tryz.prog w'=.ok (.pointer (some ⟨b,off+i*4,none⟩)) w':=fun w'=>items_at (l:=it) rfl (fun _=>rfl) hi w'
 have q0:=Quad.new w (.int .i64 3) (.slice sa sh.length sc) (.slice na nu.length nc) (.slice (some ⟨b,off,none⟩) it.length ic)
 have go:∀ w1,Kp X w w1->∃ c0 c1 c2 c3:Value,(w1.cell? ⟨b,off+i*4,none⟩=some c0/\w1.cell? ⟨b,off+i*4+1,none⟩=some c1/\w1.cell? ⟨b,off+i*4+2,none⟩=some c2/\w1.cell? ⟨b,off+i*4+3,none⟩=some c3)/\AA X w1 (.agg #[c0,c1,c2,c3]) it[i]:=fun w1 k=>ArrsOn.item (ArrsOn.keep k.keep hPb hc) hi
 have e4:l++(98::111::120::32::litS it[i]) =(l++[98,111,120,32])++litS it[i]:=by simp
 rw [e4]
 have hl4:(l++[98,111,120,32]).length+(litS it[i]).length<=700000:=by rw [List.length_append];simp;omega
 clear hs hn h1 h2 ha hc hk hne e4
 go_enter Tryz.func150,Tryz.ntmps150
 have q1:=q0
 go_wp2_with (first
  |(go_at_call 17;(with_reducible refine (wrL _ X l [98,111,120,32] (by decide) (by omega) hB).mono ?_);rintro e1 w1 ⟨⟨n1,rfl⟩,h3,k3⟩;have k4:=Kp.trans k0 k3;obtain ⟨y0,y1,y2,y3,-⟩:=(Quad.kp q1 (Nat.ne_of_gt hlt) k3).cells;obtain ⟨c0,c1,c2,c3,⟨z0,z1,z2,z3⟩,hAi⟩:=go w1 k4;have cW:=hW w1 X _ _ hl4 (tz_kp hT hg k4) hg h3 hAi)
  |(go_at_call 137;with_reducible refine cW.mono ?_;rintro e2 w2 ⟨rfl,h5,k5⟩))
 refine bodyPost_ret (results_none rfl _ _ _) rfl ?_
 exact ⟨rfl,h5,k4.trans k5⟩
theorem writeScalarQ (A:Arr) (v:Value) (i:Nat) (hk:1<=A.kind/\A.kind<=3) (hch:A.kind=2->∀ x∈A.nums,0<=x/\x<=1114111) (hI:A.kind=3->∀ j (hj:j<A.items.length),WrA A.items[j]) (hi:i <(elsT A).length)
  (w:World) (X:Nat) (l:List UInt8) (hl:l.length+(elsT A)[i].length<=700000) (hT:Tok.TZ w) (hg:10<X) (h:Bld w X l) (hA:AA X w v A) :
  Calls Tryz.prog 150 #[.pointer (some ⟨X,0,none⟩),v,.int .i64 (i:Int)] w (Wrote w X (l++(elsT A)[i])):=by
 obtain ⟨k,sh,nu,it⟩:=A
 simp only [Arr.kind] at hk hch hI
 have hi':=hi
 rw [els_len (A:=.mk k sh nu it) hk] at hi'
 rcases (by omega:k=3∨k=1∨k=2) with rfl | rfl | rfl
 ·rw [size3 rfl] at hi'
  simp only [Arr.items] at hi' hI
  have e:(elsT (.mk 3 sh nu it))[i]=98::111::120::32::litS it[i]:=by
   simp only [elsT,Arr.kind,Arr.items,if_pos]
   exact litsS_at it i hi'
  rw [e] at hl ⊢
  exact wsc3 sh nu it v i hi' (by first | exact hI rfl i hi' | exact hI trivial i hi') w X l (by simp at hl;omega) hT hg h hA
 ·rw [size12 (by simp [Arr.kind]) (by simp [Arr.kind])] at hi'
  have e:(elsT (.mk 1 sh nu it))[i]=shL nu[i]:=by simp [elsT,Arr.kind,Arr.nums];rfl
  rw [e] at hl ⊢
  exact wsc1 sh nu it v i hi' w X l (by omega) h hA.at
 ·rw [size12 (by simp [Arr.kind]) (by simp [Arr.kind])] at hi'
  have e:(elsT (.mk 2 sh nu it))[i]=39::(chS nu[i] 39++[39]):=by simp [elsT,Arr.kind,Arr.nums];rfl
  rw [e] at hl ⊢
  exact wsc2 sh nu it v i hi' (hch rfl) w X l (by omega) hT hg h hA.at
set_option maxRecDepth 100000 in
theorem wv2 (sh nu:List Int) (it:List Arr) (v:Value) (hch:∀ x∈nu,0<=x/\x<=1114111) (hn0:nu.length<=66000) (w:World) (X:Nat) (l:List UInt8) (hl:l.length+12*nu.length<=890000) (hT:Tok.TZ w) (hg:10<X) (h:Bld w X l) (hA:AA X w v (.mk 2 sh nu it)) :
  Calls Tryz.prog 149 #[.pointer (some ⟨X,0,none⟩),v] w (Wrote w X (l++quoS nu)):=by
 have hA':=hA
 rw [AA,ArrOn] at hA'
 obtain ⟨sa,sc,na,nc,ia,ic,rfl,hk,hs,hn,h1,h2,b,off,ha,hc⟩:=hA'
 have bw:=below_new w (.cells #[.int .i64 2,.slice sa sh.length sc,.slice na nu.length nc,.slice ia it.length ic] 46)
 have k0:Kp X w (w.alloc (.cells #[.int .i64 2,.slice sa sh.length sc,.slice na nu.length nc,.slice ia it.length ic] 46)):=(Kp.refl X w).below (Nat.le_of_lt h.lt) bw
 have hB:=h.below bw
 have q0:=Quad.new w (.int .i64 2) (.slice sa sh.length sc) (.slice na nu.length nc) (.slice ia it.length ic)
 have hlt:=h.lt
 have hne:w.heap.size≠X:=Nat.ne_of_gt hlt
 have e:quoQ 34 nu=quoS nu:=by
  rw [quoQ,enc_34,quoS];simp
 have cQ:Calls Tryz.prog 159 #[.pointer (some ⟨X,0,none⟩),.int .i32 34,.slice na nu.length nc] (w.alloc (.cells #[.int .i64 2,.slice sa sh.length sc,.slice na nu.length nc,.slice ia it.length ic] 46)) (Wrote (w.alloc (.cells #[.int .i64 2,.slice sa sh.length sc,.slice na nu.length nc,.slice ia it.length ic] 46)) X (l++quoS nu)):=by
  have:=writeQuotedQ 34 (by decide) na nc nu hch hn0 _ X l hl (tz_kp hT hg k0) hg hB (II.keep hn k0)
  rw [e] at this
  exact this
 clear hs hn h1 h2 ha hc hk e
 go_enter Tryz.func149,Tryz.ntmps149
 go_wp2_with (go_at_call 159;(with_reducible refine cQ.mono ?_);rintro e1 w1 ⟨rfl,h3,k3⟩)
 refine bodyPost_ret (results_none rfl _ _ _) rfl ?_
 exact ⟨rfl,h3,k0.trans k3⟩
end Go.Proofs.YtalkinnbfglkdaaGreatDoor.Shape
