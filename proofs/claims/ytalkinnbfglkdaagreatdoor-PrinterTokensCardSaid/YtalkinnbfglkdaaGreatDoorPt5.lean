/-
  Layer 3: where an array lies: all the blocks that it reads are of a given kind (new ones, or ones other than a given one); and append onto a nil slice of ints.
  Layer 3: what Clone keeps while it gathers the copies of the items.
  An argument that is a slice of ints, as the row's reading gives it, holds numbers.
  An argument that is an array, as the row's reading gives it, holds an array.
-/
import Derived.Test.YtalkinnbfglkdaaGreatDoorPt1
import Derived.OwnWalk
import Derived.Deep.AppendLies
import Derived.Laws.OwnMore
import Derived.Maps.AppendAt
import Derived.ProofKit
import Derived.OpenShut
import Derived.ShutString
import Derived.ChangeOld
import Derived.Below
import Derived.Lib.SmallJoins
import Derived.SizedLaws
namespace Go.Proofs.YtalkinnbfglkdaaGreatDoor.Shape
open Go.RowKit
def IntsOn (P:Nat->Prop) (w:World) (a:Option Addr) (cap:Nat) (xs:List Int):Prop :=
 IntsAt w a cap xs/\(xs≠[]->∀ ad,a=some ad->P ad.block)
theorem IntsOn.keep {P R:Nat->Prop}{w w':World}(hk:∀ g,P g->g<w.heap.size->R g/\∀ o,w'.cell? ⟨g,o,none⟩=w.cell? ⟨g,o,none⟩) {a:Option Addr}{cap:Nat}{xs:List Int}(h:IntsOn P w a cap xs):IntsOn R w' a cap xs:=by
 obtain ⟨⟨h1,h2,h3,b,off,ha,hc⟩,hp⟩:=h
 by_cases hn:xs=[]
 ·exact ⟨⟨h1,h2,h3,b,off,ha,fun i hi=>by subst hn;simp at hi⟩,fun g=>absurd hn g⟩
 ·have hb:P b:=hp hn _ (ha hn)
  have hlen:0<xs.length:=List.length_pos_iff.2 hn
  have:=hk b hb (cell_lt (hc 0 hlen))
  refine ⟨⟨h1,h2,h3,b,off,ha,fun i hi=>(this.2 _).trans (hc i hi)⟩,fun _ ad e=>?_⟩
  rw [ha hn] at e
  cases e
  exact this.1
mutual
def ArrOn (P:Nat->Prop) (w:World) (v:Value):Arr->Prop
 | .mk k sh nu it=>∃ sa sc na nc ia ic,v=.agg #[.int .i64 k,.slice sa (List.length sh) sc,.slice na (List.length nu) nc,.slice ia (List.length it) ic]/\(-9223372036854775808<=k/\k<=9223372036854775807) /\
  IntsOn P w sa sc sh/\IntsOn P w na nc nu/\it.length<=ic/\ic<=9223372036854775807/\∃ b off:Nat,(it≠[]->ia=some ⟨b,off,none⟩/\P b)/\ArrsOn P w b off it
def ArrsOn (P:Nat->Prop) (w:World) (b off:Nat):List Arr->Prop
 | []=>True
 | A::r=>(∃ c0 c1 c2 c3:Value,(w.cell? ⟨b,off,none⟩=some c0/\w.cell? ⟨b,off+1,none⟩=some c1/\w.cell? ⟨b,off+2,none⟩=some c2/\w.cell? ⟨b,off+3,none⟩=some c3)/\ArrOn P w (.agg #[c0,c1,c2,c3]) A)/\ArrsOn P w b (off+4) r
end
mutual
theorem ArrOn.at {P:Nat->Prop}{w:World}:∀ {v:Value}{A:Arr},ArrOn P w v A->ArrAt w v A
 | _,.mk k sh nu it,h=>by
  rw [ArrOn] at h
  rw [ArrAt]
  obtain ⟨sa,sc,na,nc,ia,ic,hv,hk,hs,hn,h1,h2,b,off,ha,hc⟩:=h
  exact ⟨sa,sc,na,nc,ia,ic,hv,hk,hs.1,hn.1,h1,h2,b,off,fun g=>(ha g).1,ArrsOn.at hc⟩
theorem ArrsOn.at {P:Nat->Prop}{w:World}:∀ {b off:Nat}{l:List Arr},ArrsOn P w b off l->ArrsAt w b off l
 | _,_,[],_=>by rw [ArrsAt];trivial
 | b,off,A::r,h=>by
  rw [ArrsOn] at h
  rw [ArrsAt]
  obtain ⟨⟨c0,c1,c2,c3,hc,hA⟩,hr⟩:=h
  exact ⟨⟨c0,c1,c2,c3,hc,ArrOn.at hA⟩,ArrsOn.at hr⟩
end
mutual
theorem ArrOn.keep {P R:Nat->Prop}{w w':World}(hk:∀ g,P g->g<w.heap.size->R g/\∀ o,w'.cell? ⟨g,o,none⟩=w.cell? ⟨g,o,none⟩):∀ {v:Value}{A:Arr},ArrOn P w v A->ArrOn R w' v A
 | _,.mk k sh nu it,h=>by
  rw [ArrOn] at h ⊢
  obtain ⟨sa,sc,na,nc,ia,ic,hv,hk',hs,hn,h1,h2,b,off,ha,hc⟩:=h
  cases it with
  | nil=>exact ⟨sa,sc,na,nc,ia,ic,hv,hk',hs.keep hk,hn.keep hk,h1,h2,b,off,fun g=>absurd rfl g,by rw [ArrsOn];trivial⟩
  | cons A r =>
   have hb:=(ha (by simp)).2
   refine ⟨sa,sc,na,nc,ia,ic,hv,hk',hs.keep hk,hn.keep hk,h1,h2,b,off,fun g=>⟨(ha g).1,?_⟩,ArrsOn.keep hk hb hc⟩
   rw [ArrsOn] at hc
   obtain ⟨⟨c0,_,_,_,⟨e,-⟩,-⟩,-⟩:=hc
   exact (hk b hb (cell_lt e)).1
theorem ArrsOn.keep {P R:Nat->Prop}{w w':World}(hk:∀ g,P g->g<w.heap.size->R g/\∀ o,w'.cell? ⟨g,o,none⟩=w.cell? ⟨g,o,none⟩):∀ {b off:Nat},P b->∀ {l:List Arr},ArrsOn P w b off l->ArrsOn R w' b off l
 | _,_,_,[],_=>by rw [ArrsOn];trivial
 | b,off,hb,A::r,h=>by
  rw [ArrsOn] at h ⊢
  obtain ⟨⟨c0,c1,c2,c3,⟨h0,h1,h2,h3⟩,hA⟩,hr⟩:=h
  have e:=(hk b hb (cell_lt h0)).2
  exact ⟨⟨c0,c1,c2,c3,⟨(e _).trans h0,(e _).trans h1,(e _).trans h2,(e _).trans h3⟩,ArrOn.keep hk hA⟩,ArrsOn.keep hk hb hr⟩
end
theorem ArrOn.below {P:Nat->Prop}{w w':World}(hb:Below w.heap.size w w') {v:Value}{A:Arr}(h:ArrOn P w v A):ArrOn (fun g=>P g/\g<w.heap.size) w' v A :=
 h.keep fun _ hp hg=>⟨⟨hp,hg⟩,fun _=>hb.cell hg⟩
theorem IntsOn.below {P:Nat->Prop}{w w':World}(hb:Below w.heap.size w w') {a:Option Addr}{cap:Nat}{xs:List Int}(h:IntsOn P w a cap xs):IntsOn (fun g=>P g/\g<w.heap.size) w' a cap xs :=
 h.keep fun _ hp hg=>⟨⟨hp,hg⟩,fun _=>hb.cell hg⟩
theorem IntsOn.mono {P R:Nat->Prop}{w:World}{a:Option Addr}{cap:Nat}{xs:List Int}(h:IntsOn P w a cap xs) (hm:∀ g,P g->R g):IntsOn R w a cap xs :=
 h.keep fun g hp _=>⟨hm g hp,fun _=>rfl⟩
theorem ArrOn.mono {P R:Nat->Prop}{w:World}{v:Value}{A:Arr}(h:ArrOn P w v A) (hm:∀ g,P g->R g):ArrOn R w v A :=
 h.keep fun g hp _=>⟨hm g hp,fun _=>rfl⟩
/-! ### append([]int(nil),xs...) -/
def Quad (w:World) (b:Nat) (c0 c1 c2 c3:Value):Prop:=w.heap[b]?=some (.cells #[c0,c1,c2,c3] 46 (0,0))
theorem Quad.cells {w:World}{b:Nat}{c0 c1 c2 c3:Value}(h:Quad w b c0 c1 c2 c3):w.cell? ⟨b,0,none⟩=some c0/\w.cell? ⟨b,1,none⟩=some c1/\w.cell? ⟨b,2,none⟩=some c2/\w.cell? ⟨b,3,none⟩=some c3 /\
  w.frozen? ⟨b,0,none⟩=false/\w.frozen? ⟨b,1,none⟩=false/\w.frozen? ⟨b,2,none⟩=false/\w.frozen? ⟨b,3,none⟩=false:=by
 unfold Quad at h
 refine ⟨?_,?_,?_,?_,?_,?_,?_,?_⟩ <;> simp [World.cell?,World.frozen?,h]
theorem Quad.lt {w:World}{b:Nat}{c0 c1 c2 c3:Value}(h:Quad w b c0 c1 c2 c3):b<w.heap.size:=cell_lt h.cells.1
theorem Quad.below {w w':World}{b:Nat}{c0 c1 c2 c3:Value}(hb:Below w.heap.size w w') (h:Quad w b c0 c1 c2 c3):Quad w' b c0 c1 c2 c3:=(hb.block b h.lt).trans h
theorem Quad.new (w:World) (c0 c1 c2 c3:Value):Quad (w.alloc (.cells #[c0,c1,c2,c3] 46)) w.heap.size c0 c1 c2 c3:=heap_alloc_new w _
theorem Quad.keep {w w':World}{b:Nat}{c0 c1 c2 c3:Value}(h:Quad w b c0 c1 c2 c3) (hk:w'.heap[b]?=w.heap[b]?):Quad w' b c0 c1 c2 c3:=hk.trans h
theorem set_other (w:World) (bx o g:Nat) (u:Value) (h:g≠bx):(w.setCell ⟨bx,o,none⟩ u).heap[g]?=w.heap[g]?:=Below.heap_setCell _ _ _ _ h
theorem Quad.set {w:World}{b:Nat}{c0 c1 c2 c3:Value}(h:Quad w b c0 c1 c2 c3) (u:Value) :
  Quad (w.setCell ⟨b,0,none⟩ u) b u c1 c2 c3/\Quad (w.setCell ⟨b,1,none⟩ u) b c0 u c2 c3/\Quad (w.setCell ⟨b,2,none⟩ u) b c0 c1 u c3/\Quad (w.setCell ⟨b,3,none⟩ u) b c0 c1 c2 u:=by
 have hlt:=h.lt
 have h':w.heap[b]=.cells #[c0,c1,c2,c3] 46 (0,0):=by unfold Quad at h;simpa [Array.getElem?_eq_getElem hlt] using h
 refine ⟨?_,?_,?_,?_⟩ <;>
 ·show (w.heap.modify b _)[b]?=_
  rw [Array.getElem?_eq_getElem (by simpa using hlt),Array.getElem_modify_self,h']
  rfl
def Free (w:World) (bx:Nat) (v:Value) (g:Nat):Prop:=w.heap.size+2<=g/\g≠bx/\v.ownBlock≠some g
def Quads (P:Nat->Prop) (w:World):List Value->List Arr->Prop
 | [],[]=>True
 | c0::c1::c2::c3::qs,A::r=>ArrOn P w (.agg #[c0,c1,c2,c3]) A/\Quads P w qs r
 | _,_=>False
theorem Quads.keep {P R:Nat->Prop}{w w':World}(hk:∀ g,P g->g<w.heap.size->R g/\∀ o,w'.cell? ⟨g,o,none⟩=w.cell? ⟨g,o,none⟩):∀ {qs:List Value}{l:List Arr},Quads P w qs l->Quads R w' qs l
 | [],[],_=>by rw [Quads];trivial
 | c0::c1::c2::c3::qs,A::r,h=>by
  rw [Quads] at h ⊢
  exact ⟨h.1.keep hk,Quads.keep hk h.2⟩
 | [],_::_,h=>by simp [Quads] at h
 | _::_,[],h=>by simp [Quads] at h
 | [_],_::_,h=>by simp [Quads] at h
 | [_,_],_::_,h=>by simp [Quads] at h
 | [_,_,_],_::_,h=>by simp [Quads] at h
theorem Quads.snoc {P:Nat->Prop}{w:World}{c0 c1 c2 c3:Value}{A:Arr}(hA:ArrOn P w (.agg #[c0,c1,c2,c3]) A):∀ {qs:List Value}{l:List Arr},Quads P w qs l->Quads P w (qs++[c0,c1,c2,c3]) (l++[A])
 | [],[],_=>by
  show Quads P w [c0,c1,c2,c3] [A]
  rw [Quads,Quads]
  exact ⟨hA,trivial⟩
 | d0::d1::d2::d3::qs,B::r,h=>by
  rw [Quads] at h
  show Quads P w (d0::d1::d2::d3::(qs++[c0,c1,c2,c3])) (B::(r++[A]))
  rw [Quads]
  exact ⟨h.1,Quads.snoc hA h.2⟩
 | [],_::_,h=>by simp [Quads] at h
 | _::_,[],h=>by simp [Quads] at h
 | [_],_::_,h=>by simp [Quads] at h
 | [_,_],_::_,h=>by simp [Quads] at h
 | [_,_,_],_::_,h=>by simp [Quads] at h
structure Start (W0 W:World) (bx:Nat) (k:Int) (sh nu:List Int):Prop where
 bel:Below W0.heap.size W0 W
 bxl:W0.heap.size<=bx
 blk:∃ a1 c1 a2 c2,Quad W bx (.int .i64 k) (.slice a1 sh.length c1) (.slice a2 nu.length c2) (.slice none 0 0)/\IntsOn (fun g=>W0.heap.size<=g/\g≠bx) W a1 c1 sh/\IntsOn (fun g=>W0.heap.size<=g/\g≠bx) W a2 c2 nu
theorem start1 {W0 w1 w2:World}{k:Int}{sh nu:List Int}{a1 a2:Option Addr}{c1 c2:Nat}(i1:IntsOn (fun g=>W0.heap.size<=g) w1 a1 c1 sh) (e1:Below W0.heap.size W0 w1) (b2:Below w1.heap.size w1 w2) (i2:IntsOn (fun g=>w1.heap.size<=g) w2 a2 c2 nu) :
  Start W0 (w2.alloc (.cells #[.int .i64 k,.slice a1 sh.length c1,.slice a2 nu.length c2,.slice none 0 0] 46)) w2.heap.size k sh nu:=by
 have s1:=e1.size
 have s2:=b2.size
 have hal:Below w2.heap.size w2 (w2.alloc (.cells #[.int .i64 k,.slice a1 sh.length c1,.slice a2 nu.length c2,.slice none 0 0] 46)):=(Below.refl _ _).alloc (Nat.le_refl _) _
 refine ⟨Below.then (Below.then e1 b2) hal,by omega,a1,c1,a2,c2,Quad.new _ _ _ _ _,i1.keep fun g hp hg=>⟨⟨hp,by omega⟩,fun o=>(Below.then b2 hal).cell hg⟩,i2.keep fun g hp hg=>⟨⟨by omega,by omega⟩,fun o=>hal.cell hg⟩⟩
def GiveNew (A:Arr) (w:World) (e:Ending) (w':World):Prop :=
 ∃ c0 c1 c2 c3,e=.returned (.agg #[c0,c1,c2,c3])/\(∀ u∈[c0,c1,c2,c3],Value.oneCell' u=true)/\ArrOn (fun g=>w.heap.size<=g) w' (.agg #[c0,c1,c2,c3]) A/\Below w.heap.size w w'
theorem GiveNew.mk {A:Arr}{w w':World}{c0 c1 c2 c3:Value}(h:ArrOn (fun g=>w.heap.size<=g) w' (.agg #[c0,c1,c2,c3]) A) (hb:Below w.heap.size w w'):GiveNew A w (.returned (.agg #[c0,c1,c2,c3])) w':=by
 refine ⟨c0,c1,c2,c3,rfl,?_,h,hb⟩
 obtain ⟨k,sh,nu,it⟩:=A
 rw [ArrOn] at h
 obtain ⟨sa,sc,na,nc,ia,ic,hv,-⟩:=h
 simp only [Value.agg.injEq,Array.mk.injEq,List.cons.injEq,and_true] at hv
 obtain ⟨rfl,rfl,rfl,rfl⟩:=hv
 intro u hu
 simp only [List.mem_cons,List.not_mem_nil,or_false] at hu
 rcases hu with rfl | rfl | rfl | rfl <;> rfl
end Go.Proofs.YtalkinnbfglkdaaGreatDoor.Shape
namespace Go.Proofs.YtalkinnbfglkdaaGreatDoor.Shape
open Go.ChangeShapes Go.WideShapes Go.ChangeAt Go.RowKit
set_option maxRecDepth 100000
theorem i64_bd {n:Int}(h:(Lit.int .i64 n).wf=true):-9223372036854775808<=n/\n<=9223372036854775807:=by
 simpa [Lit.wf,IntKind.min,IntKind.max,IntKind.signed,IntKind.bits] using h
end Go.Proofs.YtalkinnbfglkdaaGreatDoor.Shape
namespace Go.Proofs.YtalkinnbfglkdaaGreatDoor.Shape
open Go.ChangeShapes Go.WideShapes Go.ChangeAt Go.RowKit Go.Joins
set_option maxRecDepth 100000
mutual
def Reach:Arr->Prop
 | .mk _ sh nu it=>sh.length*8<=140737488351232/\nu.length*8<=140737488351232/\it.length*80<=140737488351232/\ReachL it
def ReachL:List Arr->Prop
 | []=>True
 | A::r=>Reach A/\ReachL r
end
theorem ReachL.at:∀ {l:List Arr},ReachL l->∀ {k:Nat}(hk:k<l.length),Reach l[k]
 | [],_,k,hk=>absurd hk (by simp)
 | A::r,h,0,_=>by rw [ReachL] at h;exact h.1
 | A::r,h,k+1,hk=>by
  rw [ReachL] at h
  simpa using ReachL.at h.2 (k:=k) (by simpa using hk)
def Sized {H:Type}(t:TypeId) (d:DataW H):Prop:=∀ n∈d.weights Tryz.prog t,n<=reachBytes
theorem bytesInt:Tryz.prog.bytesOf 3=8:=by kernel_rfl
theorem bytesArr:Tryz.prog.bytesOf 46=80:=by kernel_rfl
theorem Sized.slice {H:Type}{t e:TypeId}{l r:List (DataW H)}(hu:Tryz.prog.underlying t=some (.slice e)) (h:Sized t (.slice l r)) :
  (l.length+r.length)*Tryz.prog.bytesOf e<=140737488351232/\∀ d∈l,Sized e d:=by
 have hw:(DataW.slice l r).weights Tryz.prog t =(l.length+r.length)*Tryz.prog.bytesOf e::(DataW.weightsAll Tryz.prog e l++DataW.weightsAll Tryz.prog e r):=by rw [DataW.weights,hu]
 unfold Sized at h
 rw [hw] at h
 refine ⟨h _ (by simp),fun d hd n hn=>h n (List.mem_cons_of_mem _ (List.mem_append.2 (.inl ?_)))⟩
 clear hw h
 induction l with
 | nil=>cases hd
 | cons y l ih =>
  rw [DataW.weightsAll,List.mem_append]
  cases hd with
  | head=>exact .inl hn
  | tail _ hd=>exact .inr (ih hd)
theorem Sized.parts {H:Type}{t:TypeId}{fs:Array Field}{ds:List (DataW H)}(hu:Tryz.prog.underlying t=some (.struct fs)) (h:Sized t (.agg ds)) {j:Nat}{f:TypeId}{d:DataW H}
  (hf:(fs.toList.map (·.type))[j]?=some f) (hd:ds[j]?=some d):Sized f d:=by
 intro n hn
 refine h n ?_
 rw [DataW.weights,hu]
 exact DataW.weights_mem_each hf hd n hn
theorem Sized.each {H:Type}{ts:List TypeId}{ds:List (DataW H)}(h:(DataW.weightsEach Tryz.prog ts ds).all (·<=reachBytes)=true) {j:Nat}{t:TypeId}{d:DataW H}(ht:ts[j]?=some t) (hd:ds[j]?=some d):Sized t d :=
 fun n hn=>by simpa using List.all_eq_true.1 h _ (DataW.weights_mem_each ht hd n hn)
theorem ints_cell {H:Type}{enc:TypeId × Value->H}{W:World}{fuel:Nat}{cs:List Value}{x:DataW H × List MemPlace}
  (hf:DataW.trod enc Tryz.prog W 0 (fun _=>true) true fuel 29 cs=some x) :
  ∃ a cap xs,cs=[.slice a (List.length xs) cap]/\IntsAt W a cap xs/\(Sized 29 x.1->xs.length*8<=140737488351232):=by
 rcases open_ints Tryz.underlying29 Tryz.underlying3 (by kernel_rfl) hf with ⟨hcs,_⟩ |⟨x,l,c,zs,hcs,_,hl,hm,hz,hx,hcell,hwz⟩
 ·exact ⟨none,0,[],hcs,⟨Nat.zero_le _,by decide,fun x hx=>absurd hx (by simp),0,0,fun hn=>absurd rfl hn,fun i hi=>absurd hi (by simp)⟩,fun _=>by simp⟩
 ·have hz':zs.length=c:=by simpa using hz
  have hlen:(zs.take l).length=l:=by rw [List.length_take,Nat.min_eq_left (by omega)]
  have hb:∀ y∈zs.take l,-9223372036854775808<=y/\y<=9223372036854775807:=fun y hy=>i64_bd (hwz y (List.mem_of_mem_take hy))
  obtain ⟨b,off,spot⟩:=x
  refine ⟨some ⟨b,off,spot⟩,c,zs.take l,by rw [hlen];exact hcs,⟨by omega,by unfold maxLen at hm;omega,hb,?_⟩,fun hz=>?_⟩
  rotate_left
  ·rw [hx] at hz
   have:=(hz.slice Tryz.underlying29).1
   rw [bytesInt] at this
   simp only [lits,List.length_map,List.length_take,List.length_drop] at this ⊢
   omega
  by_cases h0:l=0
  ·subst h0
   exact ⟨0,0,fun hn=>absurd (by simp) hn,fun i hi=>by simp at hi⟩
  ·have hc:=hcell 0 (by omega)
   have hspot:spot=none:=by simpa [Addr.add] using World.cell?_spot hc
   subst hspot
   refine ⟨b,off,fun _=>rfl,fun i hi=>?_⟩
   have hi':i<zs.length:=by omega
   have:=hcell i hi'
   rw [add_plain] at this
   rw [this]
   simp [hi']
theorem cellsArr:Tryz.prog.cellsOf 46=4:=by kernel_rfl
theorem cellsKind:Tryz.prog.cellsOf 43=1:=by kernel_rfl
theorem cellsInts:Tryz.prog.cellsOf 29=1:=by kernel_rfl
theorem cellsArrs:Tryz.prog.cellsOf 44=1:=by kernel_rfl
theorem arrs_of {W:World}{Q:Prop}:∀ (n b off:Nat),(∀ i,i<n->∃ A c0 c1 c2 c3,(W.cell? ⟨b,off+i*4,none⟩=some c0/\W.cell? ⟨b,off+i*4+1,none⟩=some c1/\W.cell? ⟨b,off+i*4+2,none⟩=some c2/\W.cell? ⟨b,off+i*4+3,none⟩=some c3)/\ArrAt W (.agg #[c0,c1,c2,c3]) A/\(Q->Reach A)) ->
  ∃ l:List Arr,l.length=n/\ArrsAt W b off l/\(Q->ReachL l)
 | 0,b,off,_=>⟨[],rfl,by rw [ArrsAt];trivial,fun _=>by rw [ReachL];trivial⟩
 | n+1,b,off,h=>by
  obtain ⟨A,c0,c1,c2,c3,hc,hA,hQ⟩:=h 0 (by omega)
  obtain ⟨l,hl,hr,hR⟩:=arrs_of n b (off+4) (fun i hi=>by
   have:=h (i+1) (by omega)
   rwa [show off+(i+1)*4=off+4+i*4 by omega] at this)
  refine ⟨A::l,by simp [hl],?_,fun q=>?_⟩
  ·rw [ArrsAt]
   exact ⟨⟨c0,c1,c2,c3,by simpa using hc,hA⟩,hr⟩
  ·rw [ReachL]
   exact ⟨hQ q,hR q⟩
theorem arr_cells {H:Type}{enc:TypeId × Value->H}{W:World}(fuel:Nat):∀ {cs:List Value}{x:DataW H × List MemPlace},
  DataW.trod enc Tryz.prog W 0 (fun _=>true) true fuel 46 cs=some x->∃ A c0 c1 c2 c3,cs=[c0,c1,c2,c3]/\ArrAt W (.agg #[c0,c1,c2,c3]) A/\(Sized 46 x.1->Reach A):=by
 induction fuel using Nat.strongRecOn with
 | ind fuel ih =>
  intro cs x h
  obtain ⟨xs,n,hfu,hx,hl,hlen,hf⟩:=DataW.trod_struct Tryz.underlying46 h
  have hlen4:xs.length=4:=hlen
  obtain ⟨y0,y1,y2,y3,rfl⟩:∃ y0 y1 y2 y3,xs=[y0,y1,y2,y3]:=by
   match xs,hlen4 with
   | [y0,y1,y2,y3],_=>exact ⟨y0,y1,y2,y3,rfl⟩
  rw [cellsArr] at hl
  obtain ⟨c0,c1,c2,c3,rfl⟩:∃ c0 c1 c2 c3,cs=[c0,c1,c2,c3]:=by
   match cs,hl with
   | [c0,c1,c2,c3],_=>exact ⟨c0,c1,c2,c3,rfl⟩
  have f0':DataW.trod enc Tryz.prog W 0 (fun _=>true) true n 43 (([c0,c1,c2,c3].drop 0).take (Tryz.prog.cellsOf 43))=some y0:=hf 0 _ rfl
  have f1':DataW.trod enc Tryz.prog W 0 (fun _=>true) true n 29 (([c0,c1,c2,c3].drop 1).take (Tryz.prog.cellsOf 29))=some y1:=hf 1 _ rfl
  have f2':DataW.trod enc Tryz.prog W 0 (fun _=>true) true n 29 (([c0,c1,c2,c3].drop 2).take (Tryz.prog.cellsOf 29))=some y2:=hf 2 _ rfl
  have f3':DataW.trod enc Tryz.prog W 0 (fun _=>true) true n 44 (([c0,c1,c2,c3].drop 3).take (Tryz.prog.cellsOf 44))=some y3:=hf 3 _ rfl
  rw [cellsKind] at f0'
  rw [cellsInts] at f1' f2'
  rw [cellsArrs] at f3'
  have g0:DataW.trod enc Tryz.prog W 0 (fun _=>true) true n 43 [c0]=some y0:=f0'
  have g1:DataW.trod enc Tryz.prog W 0 (fun _=>true) true n 29 [c1]=some y1:=f1'
  have g2:DataW.trod enc Tryz.prog W 0 (fun _=>true) true n 29 [c2]=some y2:=f2'
  have g3:DataW.trod enc Tryz.prog W 0 (fun _=>true) true n 44 [c3]=some y3:=f3'
  obtain ⟨k,e0,_,wk⟩:=DataW.trod_int Tryz.underlying43 g0
  obtain ⟨sa,sc,sh,e1,hs,zs⟩:=ints_cell g1
  obtain ⟨na,nc,nu,e2,hn,zn⟩:=ints_cell g2
  have z1:Sized 46 x.1->Sized 29 y1.1:=fun z=>by rw [hx] at z;exact z.parts Tryz.underlying46 (j:=1) rfl rfl
  have z2:Sized 46 x.1->Sized 29 y2.1:=fun z=>by rw [hx] at z;exact z.parts Tryz.underlying46 (j:=2) rfl rfl
  have z3:Sized 46 x.1->Sized 44 y3.1:=fun z=>by rw [hx] at z;exact z.parts Tryz.underlying46 (j:=3) rfl rfl
  simp only [List.cons.injEq,and_true] at e0 e1 e2
  subst e0;subst e1;subst e2
  have done:∀ (ia:Option Addr) (ic:Nat) (l:List Arr),c3=.slice ia l.length ic->l.length<=ic->ic<=9223372036854775807->(∃ b off:Nat,(l≠[]->ia=some ⟨b,off,none⟩)/\ArrsAt W b off l)->(Sized 44 y3.1->l.length*80<=140737488351232/\ReachL l) ->
    ∃ A d0 d1 d2 d3,[Value.int .i64 k,.slice sa sh.length sc,.slice na nu.length nc,c3]=[d0,d1,d2,d3]/\ArrAt W (.agg #[d0,d1,d2,d3]) A/\(Sized 46 x.1->Reach A):=by
   intro ia ic l e h1 h2 h3 zl
   refine ⟨.mk k sh nu l,_,_,_,_,rfl,?_,fun z=>by rw [Reach];exact ⟨zs (z1 z),zn (z2 z),(zl (z3 z)).1,(zl (z3 z)).2⟩⟩
   rw [ArrAt]
   obtain ⟨b,off,h3,h4⟩:=h3
   exact ⟨sa,sc,na,nc,ia,ic,by rw [e],i64_bd wk,hs,hn,h1,h2,b,off,h3,h4⟩
  rcases DataW.trod_slice Tryz.underlying44 g3 with ⟨hcs,_⟩ |⟨a,len,cap,elems,rest,m,hfm,hcs,hy3,_,hlc,hcm,hel,hE,-⟩
  ·simp only [List.cons.injEq,and_true] at hcs
   exact done none 0 [] hcs (Nat.le_refl _) (by decide) ⟨0,0,fun g=>absurd rfl g,by rw [ArrsAt];trivial⟩ (fun _=>⟨by simp,by rw [ReachL];trivial⟩)
  ·simp only [List.cons.injEq,and_true] at hcs
   have z4:Sized 44 y3.1->len*80<=140737488351232/\∀ (i:Nat) (hi:i<elems.length),Sized 46 elems[i].1:=by
    intro z
    rw [hy3] at z
    obtain ⟨q1,q2⟩:=z.slice Tryz.underlying44
    rw [bytesArr] at q1
    simp only [List.length_map] at q1
    exact ⟨by omega,fun i hi=>q2 _ (List.mem_map.2 ⟨_,List.getElem_mem hi,rfl⟩)⟩
   obtain ⟨b,off,spot⟩:=a
   have each:∀ i,i<len->∃ A d0 d1 d2 d3,(W.cell? ((⟨b,off,spot⟩:Addr).add (i*4) |>.add 0)=some d0/\W.cell? ((⟨b,off,spot⟩:Addr).add (i*4) |>.add 1)=some d1/\W.cell? ((⟨b,off,spot⟩:Addr).add (i*4) |>.add 2)=some d2/\W.cell? ((⟨b,off,spot⟩:Addr).add (i*4) |>.add 3)=some d3)/\ArrAt W (.agg #[d0,d1,d2,d3]) A/\(Sized 44 y3.1->Reach A):=by
    intro i hi
    have e:=hE i hi
    rw [List.getElem?_eq_getElem (by omega),cellsArr] at e
    obtain ⟨cs',hc',ht'⟩:=Option.bind_eq_some_iff.1 e
    obtain ⟨A,d0,d1,d2,d3,hd,hA,hR⟩:=ih m (by omega) ht'
    subst hd
    obtain ⟨_,_,hcell⟩:=World.cells?_some hc'
    exact ⟨A,d0,d1,d2,d3,⟨hcell 0 (by omega),hcell 1 (by omega),hcell 2 (by omega),hcell 3 (by omega)⟩,hA,fun z=>hR ((z4 z).2 i (by omega))⟩
   by_cases h0:len=0
   ·subst h0
    exact done (some ⟨b,off,spot⟩) cap [] hcs (Nat.zero_le _) (by unfold maxLen at hcm;omega) ⟨0,0,fun g=>absurd rfl g,by rw [ArrsAt];trivial⟩ (fun _=>⟨by simp,by rw [ReachL];trivial⟩)
   ·obtain ⟨_,d0,_,_,_,⟨hc0,-⟩,-⟩:=each 0 (by omega)
    have hspot:spot=none:=by simpa [Addr.add] using World.cell?_spot hc0
    subst hspot
    obtain ⟨l,hl2,hat,hRL⟩:=arrs_of (W:=W) (Q:=Sized 44 y3.1) len b off (fun i hi=>by
     obtain ⟨A,d0,d1,d2,d3,⟨m0,m1,m2,m3⟩,hA,hR⟩:=each i hi
     rw [add_plain,add_plain] at m0 m1 m2 m3
     exact ⟨A,d0,d1,d2,d3,⟨m0,m1,m2,m3⟩,hA,hR⟩)
    subst hl2
    exact done (some ⟨b,off,none⟩) cap l hcs hlc (by unfold maxLen at hcm;omega) ⟨b,off,fun _=>rfl,hat⟩ (fun z=>⟨(z4 z).1,hRL z⟩)
end Go.Proofs.YtalkinnbfglkdaaGreatDoor.Shape
