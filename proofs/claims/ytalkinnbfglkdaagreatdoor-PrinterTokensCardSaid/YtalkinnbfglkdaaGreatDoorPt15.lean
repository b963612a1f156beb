/-
  Layer 3: the program's Weight: its recursive closure and the call.
  Layer 3: the reference's valid: a copy of a valid array, or the zero array.
  Layer 3: the reference's At.
-/
import Derived.Test.YtalkinnbfglkdaaGreatDoorPt9
import Derived.Test.YtalkinnbfglkdaaGreatDoorPt5
import Derived.Test.YtalkinnbfglkdaaGreatDoorPt1
import Derived.Deep.RegionHeldLaw
import Derived.Deep.RegionLaw
import Derived.Deep.RegionHeld
import Derived.StillTactics
import Derived.Test.YtalkinnbfglkdaaGreatDoorPt4
namespace Go.Proofs.YtalkinnbfglkdaaGreatDoor.Shape
open Go.RowKit
mutual
def tw:Arr->Int
 | .mk k sh nu it=>(aSize (.mk k sh nu it):Int)+(if k=3 then twL it else 0)
def twL:List Arr->Int
 | []=>0
 | A::r=>tw A+twL r
end
mutual
theorem ArrAt.on {w:World}:∀ {v:Value}{A:Arr},ArrAt w v A->ArrOn (fun g=>g<w.heap.size) w v A
 | _,.mk k sh nu it,h=>by
  rw [ArrAt] at h
  rw [ArrOn]
  obtain ⟨sa,sc,na,nc,ia,ic,hv,hk,hs,hn,h1,h2,b,off,ha,hc⟩:=h
  refine ⟨sa,sc,na,nc,ia,ic,hv,hk,⟨hs,?_⟩,⟨hn,?_⟩,h1,h2,b,off,fun g=>⟨ha g,?_⟩,ArrsAt.on hc⟩
  ·intro hne ad e
   obtain ⟨-,-,-,b',off',ha',hc'⟩:=hs
   rw [ha' hne] at e
   cases e
   exact cell_lt (hc' 0 (List.length_pos_iff.2 hne))
  ·intro hne ad e
   obtain ⟨-,-,-,b',off',ha',hc'⟩:=hn
   rw [ha' hne] at e
   cases e
   exact cell_lt (hc' 0 (List.length_pos_iff.2 hne))
  ·cases it with
   | nil=>exact absurd rfl g
   | cons A r =>
    rw [ArrsAt] at hc
    obtain ⟨⟨c0,_,_,_,⟨e,-⟩,-⟩,-⟩:=hc
    exact cell_lt e
theorem ArrsAt.on {w:World}:∀ {b off:Nat}{l:List Arr},ArrsAt w b off l->ArrsOn (fun g=>g<w.heap.size) w b off l
 | _,_,[],_=>by rw [ArrsOn];trivial
 | b,off,A::r,h=>by
  rw [ArrsAt] at h
  rw [ArrsOn]
  obtain ⟨⟨c0,c1,c2,c3,hc,hA⟩,hr⟩:=h
  exact ⟨⟨c0,c1,c2,c3,hc,ArrAt.on hA⟩,ArrsAt.on hr⟩
end
theorem ArrsOn.at' {P:Nat->Prop}{w:World}:∀ {l:List Arr}{b off:Nat},ArrsOn P w b off l->∀ {k:Nat}(hk:k<l.length),∃ c0 c1 c2 c3:Value,
  (w.cell? ⟨b,off+k*4,none⟩=some c0/\w.cell? ⟨b,off+k*4+1,none⟩=some c1/\w.cell? ⟨b,off+k*4+2,none⟩=some c2/\w.cell? ⟨b,off+k*4+3,none⟩=some c3)/\ArrOn P w (.agg #[c0,c1,c2,c3]) l[k]
 | [],_,_,_,k,hk=>absurd hk (by simp)
 | A::r,b,off,h,k,hk=>by
  rw [ArrsOn] at h
  cases k with
  | zero=>simpa using h.1
  | succ k =>
   have:=ArrsOn.at' h.2 (k:=k) (by simpa using hk)
   have e:off+4+k*4=off+(k+1)*4:=by omega
   rw [e] at this
   simpa using this
structure But (t:Nat) (w w':World):Prop where
 os:w'.os=w.os
 tape:w'.tape=w.tape
 output:w'.output=w.output
 size:w.heap.size<=w'.heap.size
 block:∀ k,k≠t->k<w.heap.size->w'.heap[k]?=w.heap[k]?
theorem But.refl (t:Nat) (w:World):But t w w:=⟨rfl,rfl,rfl,Nat.le_refl _,fun _ _ _=>rfl⟩
theorem But.trans {t:Nat}{a b c:World}(h:But t a b) (k:But t b c):But t a c :=
 ⟨k.os.trans h.os,k.tape.trans h.tape,k.output.trans h.output,Nat.le_trans h.size k.size,fun g hg hl=>(k.block g hg (Nat.lt_of_lt_of_le hl h.size)).trans (h.block g hg hl)⟩
theorem But.of_below {t:Nat}{w w':World}(h:Below w.heap.size w w'):But t w w':=⟨h.os,h.tape,h.output,h.size,fun g _ hl=>h.block g hl⟩
theorem But.set {t o:Nat}(w:World) (u:Value):But t w (w.setCell ⟨t,o,none⟩ u) :=
 have b:Below t w (w.setCell ⟨t,o,none⟩ u):=Below.setCell (Below.refl _ _) (p:=⟨t,o,none⟩) (Nat.le_refl _) u
 ⟨b.os,b.tape,b.output,b.size,fun g hg _=>set_other w t o g u hg⟩
theorem But.below {t B:Nat}{w w':World}(h:But t w w') (hB:B<=t) (hw:B<=w.heap.size):Below B w w':=⟨h.os,h.tape,h.output,h.size,fun g hg=>h.block g (by omega) (by omega)⟩
theorem But.on {t:Nat}{w w':World}(h:But t w w') {v:Value}{A:Arr}(hA:ArrOn (fun g=>g≠t) w v A):ArrOn (fun g=>g≠t) w' v A :=
 hA.keep fun g hg hl=>⟨hg,fun _=>World.cell?_of_block (h.block g hg hl)⟩
theorem But.cell {t:Nat}{w w':World}(h:But t w w') {b o:Nat}{c:Value}(hb:b≠t) (hc:w.cell? ⟨b,o,none⟩=some c):w'.cell? ⟨b,o,none⟩=some c :=
 (World.cell?_of_block (h.block b hb (cell_lt hc))).trans hc
def One (w:World) (t:Nat) (T:Int):Prop:=w.heap[t]?=some (.cells #[.int .i64 T] 3 (0,0))
theorem One.cells {w:World}{t:Nat}{T:Int}(h:One w t T):w.cell? ⟨t,0,none⟩=some (.int .i64 T)/\w.frozen? ⟨t,0,none⟩=false:=by
 unfold One at h
 refine ⟨?_,?_⟩ <;> simp [World.cell?,World.frozen?,h]
theorem One.below {w w':World}{t:Nat}{T:Int}(h:One w t T) (hb:Below w.heap.size w w'):One w' t T:=(hb.block t (cell_lt h.cells.1)).trans h
theorem One.set {w:World}{t:Nat}{T:Int}(h:One w t T) (U:Int):One (w.setCell ⟨t,0,none⟩ (.int .i64 U)) t U:=by
 have hlt:=cell_lt h.cells.1
 have h':w.heap[t]=.cells #[.int .i64 T] 3 (0,0):=by unfold One at h;simpa [Array.getElem?_eq_getElem hlt] using h
 show (w.heap.modify t _)[t]?=_
 rw [Array.getElem?_eq_getElem (by simpa using hlt),Array.getElem_modify_self,h']
 rfl
theorem One.new (w:World) (T:Int):One (w.alloc (.cells #[.int .i64 T] 3)) w.heap.size T:=heap_alloc_new w _
def Cnt (T:Int) (A:Arr) (T':Int):Prop:=0<=T'/\T'<=17592186044416+262144/\min T' 262145=min (T+tw A) 262145
theorem Cnt.mk {T T':Int}{A:Arr}(h1:0<=T') (h2:T'<=17592186044416+262144) (h3:min T' 262145=min (T+tw A) 262145):Cnt T A T':=⟨h1,h2,h3⟩
theorem One.third (w:World) (o o':Obj) (t:Nat) (T:Int) (ht:t=w.heap.size+1):One (((w.alloc o).alloc (.cells #[.int .i64 T] 3)).alloc o') t T:=by
 subst ht
 have h:One ((w.alloc o).alloc (.cells #[.int .i64 T] 3)) (w.heap.size+1) T:=by simpa using One.new (w.alloc o) T
 exact h.below (below_new _ _)
theorem GiveNew.form {A:Arr}{w w':World}{e:Ending}(h:GiveNew A w e w'):∃ k sa ls sc na ln nc ia li ic,e=.returned (.agg #[.int .i64 k,.slice sa ls sc,.slice na ln nc,.slice ia li ic]) /\
  ArrOn (fun g=>w.heap.size<=g) w' (.agg #[.int .i64 k,.slice sa ls sc,.slice na ln nc,.slice ia li ic]) A/\Below w.heap.size w w':=by
 obtain ⟨c0,c1,c2,c3,rfl,_,hO,hb⟩:=h
 have hO':=hO
 obtain ⟨k,sh,nu,it⟩:=A
 rw [ArrOn] at hO
 obtain ⟨sa,sc,na,nc,ia,ic,hv,-⟩:=hO
 rw [hv] at hO'
 exact ⟨k,sa,_,sc,na,_,nc,ia,_,ic,by rw [hv],hO',hb⟩
theorem GiveNew.drew {A:Arr}{w w':World}{e:Ending}(h:GiveNew A w e w'):GiveNew A w e w'.drew:=by
 obtain ⟨c0,c1,c2,c3,he,hc,hO,hb⟩:=h
 exact ⟨c0,c1,c2,c3,he,hc,ArrOn.keep (w:=w') (w':=w'.drew) (fun g hp _=>⟨hp,fun _=>rfl⟩) hO,hb.drew⟩
end Go.Proofs.YtalkinnbfglkdaaGreatDoor.Shape
