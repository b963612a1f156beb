/-
  Layer 5: the reference's literal of scalars and of vectors that stand alone.
  Layer 5: what a valid array of few elements is, for its literal: its parts, and how long the literal is.
-/
import Derived.Test.YtmfhdcpajgjgpaaGreatDoorPd11
import Derived.Test.YtmfhdcpajgjgpaaGreatDoorPd1
import Derived.Test.YtmfhdcpajgjgpaaGreatDoorPd4
set_option maxHeartbeats 1000000
namespace Go.Proofs.YtmfhdcpajgjgpaaGreatDoor.Shape
open Go.RowKit Go.Proofs.YtmfhdcpajgjgpaaGreatDoor.Num
set_option linter.unusedVariables false
def elsT (A:Arr):List (List UInt8):=if A.kind=3 then kx A.items else A.nums.map fun x=>if A.kind=2 then 39::(chS x 39++[39]) else shL x
theorem litS_els:∀ (A:Arr),litS A=litT A.kind A.shape A.nums (elsT A)
 | .mk k sh nu it=>by rw [litS];rfl
structure LitOK (A:Arr):Prop where
 kind:1<=A.kind/\A.kind<=3
 chars:A.kind=2->∀ x∈A.nums,0<=x/\x<=1114111
 nums:A.nums.length<=70000
 few:A.kind=3->A.items.length<=400
 one:A.shape.length=0->1<=zV A
 items:A.kind=3->∀ j (hj:j<A.items.length),(litS A.items[j]).length<=200000/\∀ v' w',ArrAt w' v' A.items[j]->Calls Tryz.prog 157 #[v'] w' fun e w2=>e=.returned (.string (litB A.items[j]))/\Below w'.heap.size w' w2
theorem size3 {A:Arr}(h:A.kind=3):zV A=A.items.length:=by rw [zV,if_neg (by omega),if_pos h]
theorem xI {A:Arr}(h:A.kind≠3) (hk:1<=A.kind/\A.kind<=3):zV A=A.nums.length:=by rw [zV,if_pos (by omega)]
theorem els_len {A:Arr}(hk:1<=A.kind/\A.kind<=3):(elsT A).length=zV A:=by
 rw [elsT]
 split
 ·rename_i h;rw [yx,size3 h]
 ·rename_i h;rw [List.length_map,xI h hk]
theorem head_els {A:Arr}(hk:1<=A.kind/\A.kind<=3) (hn:1<=zV A):scB A (litB (A.items.headD zeroA)) =⟨((elsT A).headD []).toArray⟩:=by
 obtain ⟨k,sh,nu,it⟩:=A
 simp only [Arr.kind] at hk
 rcases (by omega:k=3∨k=1∨k=2) with rfl | rfl | rfl
 ·rw [size3 rfl] at hn
  simp only [Arr.items] at hn
  cases it with
  | nil=>simp at hn
  | cons B r =>
   show ⟨#[98,111,120,32]⟩++litB B=_
   unfold litB elsT
   apply ByteArray.ext
   simp [kx,Arr.kind,Arr.items]
 ·rw [xI (by simp [Arr.kind]) (by simp [Arr.kind])] at hn
  simp only [Arr.nums] at hn
  cases nu with
  | nil=>simp at hn
  | cons x r=>rfl
 ·rw [xI (by simp [Arr.kind]) (by simp [Arr.kind])] at hn
  simp only [Arr.nums] at hn
  cases nu with
  | nil=>simp at hn
  | cons x r =>
   show ⟨#[39]⟩++chB x 39++⟨#[39]⟩=_
   unfold chB elsT
   apply ByteArray.ext
   simp [Arr.kind,Arr.nums]
theorem head_zero:∀ {l:List Arr}(h:0<l.length),l.headD zeroA=l[0]
 | [],h=>by simp at h
 | _::_,_=>rfl
theorem scalarLit (v:Value) (A:Arr) (w:World) (h:ArrAt w v A) (ok:LitOK A) (hn:1<=zV A) :
  Calls Tryz.prog 165 #[v] w fun e w'=>e=.returned (.string ⟨((elsT A).headD []).toArray⟩)/\Below w.heap.size w w':=by
 have hs:=fscalarR v A w h ok.kind (fun g=>by rw [xI g ok.kind] at hn;omega) ok.chars (litB (A.items.headD zeroA)) (fun g=>by
  rw [size3 g] at hn
  obtain ⟨h1,h2⟩:=ok.items g 0 (by omega)
  have e:A.items.headD zeroA=A.items[0]:=head_zero (by omega)
  refine ⟨by omega,?_,?_⟩
  ·rw [e];unfold litB
   have:(ByteArray.mk (litS A.items[0]).toArray).size =(litS A.items[0]).length:=by simp [ByteArray.size]
   omega
  ·rw [e];exact h2)
 rw [head_els ok.kind hn] at hs
 exact hs
set_option maxRecDepth 100000 in
theorem litR0 (v:Value) (A:Arr) (w:World) (h:ArrAt w v A) (ok:LitOK A) (hs0:A.shape.length=0) :
  Calls Tryz.prog 157 #[v] w fun e w'=>e=.returned (.string (litB A))/\Below w.heap.size w w':=by
 have SC:=fun W (g:ArrAt W v A)=>scalarLit v A W g ok (ok.one hs0)
 have hE:Hid ((⟨((elsT A).headD []).toArray⟩:ByteArray)=litB A):=by
  unfold Hid litB
  rw [litS_els,litT,if_pos hs0]
 have hA:=h
 obtain ⟨k,sh,nu,it⟩:=A
 simp only [Arr.shape] at hs0
 rw [ArrAt] at h
 obtain ⟨sa,sc,na,nc,ia,ic,rfl,-⟩:=h
 have bw:=below_new w (.cells #[.int .i64 k,.slice sa sh.length sc,.slice na nu.length nc,.slice ia it.length ic] 37)
 obtain ⟨p0,p1,p2,p3,-⟩:=(Quad.new w (.int .i64 k) (.slice sa sh.length sc) (.slice na nu.length nc) (.slice ia it.length ic)).cells
 have SC1:=SC _ (hA.below bw)
 generalize (⟨((elsT (.mk k sh nu it)).headD []).toArray⟩:ByteArray)=T at *
 rw [<- hE.out]
 rw [hs0] at bw p1 SC1 p0 p2 p3 ⊢
 clear SC hE hA ok
 go_enter Tryz.func157,Tryz.ntmps157
 go_wp2_with (go_at_call 165;(with_reducible refine SC1.mono ?_);rintro e w1 ⟨rfl,hb1⟩)
 go_ret
 exact ⟨rfl,Below.then bw hb1⟩
set_option maxRecDepth 100000 in
theorem litRv (v:Value) (A:Arr) (w:World) (h:ArrAt w v A) (ok:LitOK A) (hs1:A.shape.length=1) (hv:A.kind=2∨2<=zV A) :
  Calls Tryz.prog 157 #[v] w fun e w'=>e=.returned (.string ⟨(vecS A.kind A.nums (elsT A)).toArray⟩)/\Below w.heap.size w w':=by
 have hA:=h
 by_cases hk2:A.kind=2
 ·have QC:=fun W (g:ArrAt W v A)=>fquotedR v A W g (ok.chars hk2) ok.nums
  have hE:vecS A.kind A.nums (elsT A)=quoS A.nums:=by rw [vecS,if_pos hk2]
  rw [hE]
  clear hE ok hv
  obtain ⟨k,sh,nu,it⟩:=A
  simp only [Arr.shape,Arr.kind] at hs1 hk2
  subst hk2
  rw [ArrAt] at h
  obtain ⟨sa,sc,na,nc,ia,ic,rfl,-⟩:=h
  have bw:=below_new w (.cells #[.int .i64 2,.slice sa sh.length sc,.slice na nu.length nc,.slice ia it.length ic] 37)
  obtain ⟨p0,p1,p2,p3,-⟩:=(Quad.new w (.int .i64 2) (.slice sa sh.length sc) (.slice na nu.length nc) (.slice ia it.length ic)).cells
  have QC1:=QC _ (hA.below bw)
  rw [hs1] at bw p1 QC1 p0 p2 p3 ⊢
  clear QC hA
  go_enter Tryz.func157,Tryz.ntmps157
  go_wp2_with (go_at_call 166;(with_reducible refine QC1.mono ?_);rintro e w1 ⟨rfl,hb1⟩)
  go_ret
  exact ⟨rfl,Below.then bw hb1⟩
 ·have hn2:2<=zV A:=hv.resolve_left hk2
  have EC:∀ W,ArrAt W v A->Calls Tryz.prog 167 #[v] W fun e w'=>e=.returned (.string ⟨(vecS A.kind A.nums (elsT A)).toArray⟩)/\Below W.heap.size W w':=fun W g=>by
   have:=ok.kind
   rcases (by omega:A.kind=1∨A.kind=3) with g1 | g1
   ·have h1:=felemR1 v A W g g1 (by have:=ok.nums;omega)
    have e:elsT A=A.nums.map shL:=by rw [elsT,if_neg (by omega)];simp [g1]
    rw [g1,e,vec_int]
    exact h1
   ·have h3:=felemR3 v A W g g1 (ok.few g1) (ok.items g1)
    have e:elsT A=kx A.items:=by rw [elsT,if_pos g1]
    rw [g1,e,vec_box]
    exact h3
  have SZ:=fun W (g:ArrAt W v A)=>xh v A W g
  obtain ⟨N,hN⟩:∃ N,zV A=N:=⟨_,rfl⟩
  rw [hN] at SZ hn2
  obtain ⟨T,hT⟩:∃ T:ByteArray,⟨(vecS A.kind A.nums (elsT A)).toArray⟩=T:=⟨_,rfl⟩
  rw [hT] at EC ⊢
  clear hT hN ok hv
  obtain ⟨k,sh,nu,it⟩:=A
  simp only [Arr.shape,Arr.kind] at hs1 hk2
  rw [ArrAt] at h
  obtain ⟨sa,sc,na,nc,ia,ic,rfl,-⟩:=h
  have bw:=below_new w (.cells #[.int .i64 k,.slice sa sh.length sc,.slice na nu.length nc,.slice ia it.length ic] 37)
  have q0:=Quad.new w (.int .i64 k) (.slice sa sh.length sc) (.slice na nu.length nc) (.slice ia it.length ic)
  have hA1:=hA.below bw
  have e2:(k==2)=false:=by simpa using hk2
  rw [hs1] at *
  obtain ⟨p0,p1,p2,p3,-⟩:=q0.cells
  clear hA
  go_enter Tryz.func157,Tryz.ntmps157
  go_wp2_with (first
   |(go_at_call 139;(with_reducible refine (SZ _ hA1).mono ?_);rintro e w1 ⟨rfl,hb1⟩;(obtain ⟨u0,u1,u2,u3,-⟩:=(q0.below hb1).cells))
   |(go_at_call 167;(with_reducible refine (EC _ (hA1.below hb1)).mono ?_);rintro e w2 ⟨rfl,hb2⟩))
  go_ret
  exact ⟨rfl,Below.then (Below.then bw hb1) hb2⟩
end Go.Proofs.YtmfhdcpajgjgpaaGreatDoor.Shape
namespace Go.Proofs.YtmfhdcpajgjgpaaGreatDoor.Shape
open Go.RowKit Go.Proofs.YtmfhdcpajgjgpaaGreatDoor.Num
set_option linter.unusedVariables false
set_option linter.unusedSimpArgs false
set_option maxRecDepth 100000
theorem chkL_all:∀ (l:List Arr) (d e:Int),chkL d l=some e->∀ j (hj:j<l.length),(chk l[j]).1=0
 | [],d,e,h,j,hj=>absurd hj (by simp)
 | A::r,d,e,h,j,hj=>by
  rw [chkL] at h
  split at h
  ·cases h
  ·rename_i h0
   cases j with
   | zero=>simpa using h0
   | succ j =>
    have:=chkL_all r _ e h j (by simpa using hj)
    simpa using this
structure Val (k:Int) (sh nu:List Int) (it:List Arr):Prop where
 kind:1<=k/\k<=3
 dims:zP sh=0
 size:(zV (.mk k sh nu it):Int)=pr sh
 plain:k≠3->it=[]
 boxed:k=3->nu=[]
 elems:∀ x∈nu,zv k x=true
 items:∀ j (hj:j<it.length),zo it[j]=0
theorem val_of {k:Int}{sh nu:List Int}{it:List Arr}(h:zo (.mk k sh nu it)=0):Val k sh nu it:=by
 rw [zo,chk] at h
 split at h
 ·simp at h
 rename_i hk
 split at h
 ·rename_i hd;exact absurd h hd
 rename_i hd
 split at h
 ·simp at h
 rename_i hl
 split at h
 ·simp at h
 rename_i he
 split at h
 ·simp at h
 rename_i d hc
 have ho:other k nu it=0:=by omega
 refine ⟨by omega,by simpa using hd,Classical.byContradiction fun q=>hl (Or.inl q),fun q=>?_,fun q=>?_,fun x hx=>?_,fun j hj=>chkL_all it 0 d hc j hj⟩
 ·rw [other,if_neg q] at ho;exact List.eq_nil_of_length_eq_zero ho
 ·rw [other,if_pos q] at ho;exact List.eq_nil_of_length_eq_zero ho
 ·have ha:nu.all (zv k)=true:=by simpa using he
  exact List.all_eq_true.1 ha x hx
theorem dims_parts {sh:List Int}(h:zP sh=0):sh.length<=8/\NN sh/\nz sh<=65536:=by
 unfold zP at h
 split at h
 ·cases h
 split at h
 ·split at h
  ·exact ⟨by omega,by assumption,by assumption⟩
  ·cases h
 ·cases h
def totL:List (List UInt8)->Nat
 | []=>0
 | x::r=>x.length+1+totL r
theorem blank_tot:∀ (l:List (List UInt8)),(qK l).length<=totL l
 | []=>by simp [qK,totL]
 | x::r=>by
  have go:∀ (r:List (List UInt8)),((r.map fun y=>32::y).flatten).length<=totL r:=fun r=>by
   induction r with
   | nil=>simp [totL]
   | cons y r ih=>rw [List.map_cons,List.flatten_cons,List.length_append,totL,List.length_cons];omega
  have:=go r
  rw [qK,List.length_append,totL];omega
theorem ints_tot:∀ (nu:List Int),(∀ x∈nu,zv 1 x=true)->totL (nu.map shL)<=21*nu.length
 | [],_=>by simp [totL]
 | x::r,h=>by
  have h1:=ints_tot r fun y hy=>h y (List.mem_cons_of_mem _ hy)
  have h0:=h x (by simp)
  have hb:numB x=true:=by simpa [zv] using h0
  have hb2:=of_decide_eq_true hb
  have:=shL_len (x:=x) (by omega) (by omega)
  rw [List.map_cons,totL,List.length_cons];omega
theorem vF {nu:List Int}(h:∀ x∈nu,zv 2 x=true):∀ x∈nu,0<=x/\x<=1114111:=fun x hx=>by
 have h0:=h x hx
 have hb:kO x=true:=by simpa [zv] using h0
 have hb2:=of_decide_eq_true hb
 omega
theorem quo_tot:∀ (nu:List Int),(∀ x∈nu,0<=x/\x<=1114111)->((nu.map fun c=>chS c 34).flatten).length<=12*nu.length
 | [],_=>by simp
 | x::r,h=>by
  have h1:=quo_tot r fun y hy=>h y (List.mem_cons_of_mem _ hy)
  have h0:=vT x 34 (h x (by simp)).2
  rw [List.map_cons,List.flatten_cons,List.length_append,List.length_cons];omega
theorem head_le:∀ (l:List (List UInt8)),(l.headD []).length<=totL l
 | []=>by simp [totL]
 | x::r=>by simp [totL];omega
end Go.Proofs.YtmfhdcpajgjgpaaGreatDoor.Shape
