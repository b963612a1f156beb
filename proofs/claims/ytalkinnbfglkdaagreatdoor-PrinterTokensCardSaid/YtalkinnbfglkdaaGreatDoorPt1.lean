/-
  What a walk is told of a slice of ints that is only read: it holds the numbers xs.
  Arrays as plain data, and what it means that a value in memory holds one.
  Layer 3: the reference's Size and Weight.
  Layer 3: the reference's Weight.
  Plain mathematics of shapes: validity, products, offsets, indices. Nothing of the program is named here.
  Layer 3: the reference's product, Dims, Count, Shapes, Rune and Number.
  Layer 3: what makes an array valid, as plain functions: the first error, and the depth of the boxes.
  Plain mathematics of layer 1 (numbers from -(2^62 - 1) to 2^62 - 1): the results of the nine calls as Lean functions, and lemmas about them. Nothing of the program is named here.
  Plain mathematics of decimal writing: what a string of bytes denotes.
  Plain mathematics of decimal writing: the digits of a number, and that reading them gives it back.
  Plain mathematics of numbers and shapes as text.
  Layer 5: plain mathematics: characters in literals, and literals of arrays, as lists of bytes.
-/
import Derived.Test.YtalkinnbfglkdaaGreatDoorRows
import Derived.WalkKit
import Derived.WalkSpells
import Derived.WalkLawsBesides
import Derived.Deep.QuietTactic
import Derived.BigQuiet
namespace Go.Proofs.YtalkinnbfglkdaaGreatDoor.Shape
open Go.RowKit
def IntsAt (w:World) (a:Option Addr) (cap:Nat) (xs:List Int):Prop :=
 xs.length<=cap/\cap<=9223372036854775807/\(∀ x∈xs,-9223372036854775808<=x/\x<=9223372036854775807) /\
  ∃ b off:Nat,(xs≠[]->a=some ⟨b,off,none⟩)/\∀ i (h:i<xs.length),w.cell? ⟨b,off+i,none⟩=some (.int .i64 xs[i])
theorem IntsAt.drewN {w:World}{a:Option Addr}{cap:Nat}{xs:List Int}(h:IntsAt w a cap xs) (n:Nat):IntsAt (w.drewN n) a cap xs:=h
theorem IntsAt.len {w:World}{a:Option Addr}{cap:Nat}{xs:List Int}(h:IntsAt w a cap xs):xs.length<=9223372036854775807:=Nat.le_trans h.1 h.2.1
theorem IntsAt.bd {w:World}{a:Option Addr}{cap:Nat}{xs:List Int}(h:IntsAt w a cap xs) {k:Nat}(hk:k<xs.length):-9223372036854775808<=xs[k]/\xs[k]<=9223372036854775807:=h.2.2.1 _ (List.getElem_mem hk)
theorem elemInts:Tryz.prog.underlying 29=some (.slice (Tryz.prog.elem 29)):=by kernel_rfl
theorem sizeInts (w:World):(sizeOf (Tryz.prog.elem 29)).run Tryz.prog w=.ok 1 w:=by kernel_rfl
theorem add_plain (b off k:Nat):(⟨b,off,none⟩:Addr).add k =⟨b,off+k,none⟩:=by unfold Addr.add;split <;> simp_all
theorem IntsAt.at {w:World}{a:Option Addr}{cap:Nat}{xs:List Int}(h:IntsAt w a cap xs) {k:Nat}(hk:k<xs.length) :
  ∃ b off:Nat,(∀ w':World,(Instr.indexAt 29 (.slice a xs.length cap) (.int .i64 k)).run Tryz.prog w'=.ok (.pointer (some ⟨b,off+k,none⟩)) w')/\w.cell? ⟨b,off+k,none⟩=some (.int .i64 xs[k]):=by
 obtain ⟨h1,h2,h3,b,off,ha,hc⟩:=h
 have hne:xs≠[]:=by intro e;subst e;simp at hk
 have e:=ha hne
 subst e
 refine ⟨b,off,fun w'=>?_,hc k hk⟩
 rw [run_indexAt_slice w' _ _ _ _ .i64 k elemInts,if_pos (by omega),sizeInts]
 show Result.ok _ w'=_
 rw [show ((k:Int).toNat*1)=k by omega,add_plain]
inductive Arr where
 | mk (kind:Int) (shape nums:List Int) (items:List Arr)
namespace Arr
def kind:Arr->Int | mk k _ _ _=>k
def shape:Arr->List Int | mk _ s _ _=>s
def nums:Arr->List Int | mk _ _ n _=>n
def items:Arr->List Arr | mk _ _ _ i=>i
end Arr
theorem cell_lt {w:World}{b o:Nat}{v:Value}(h:w.cell? ⟨b,o,none⟩=some v):b<w.heap.size:=by
 rcases Nat.lt_or_ge b w.heap.size with h1 | h1
 ·exact h1
 ·have e:w.heap[b]?=none:=by simp [h1]
  simp [World.cell?,e] at h
theorem IntsAt.below {w w':World}{a:Option Addr}{cap:Nat}{xs:List Int}(h:IntsAt w a cap xs) (hb:Below w.heap.size w w'):IntsAt w' a cap xs:=by
 obtain ⟨h1,h2,h3,b,off,ha,hc⟩:=h
 exact ⟨h1,h2,h3,b,off,ha,fun i hi=>(hb.cell (cell_lt (hc i hi))).trans (hc i hi)⟩
mutual
def ArrAt (w:World) (v:Value):Arr->Prop
 | .mk k sh nu it=>∃ sa sc na nc ia ic,v=.agg #[.int .i64 k,.slice sa (List.length sh) sc,.slice na (List.length nu) nc,.slice ia (List.length it) ic]/\(-9223372036854775808<=k/\k<=9223372036854775807) /\
  IntsAt w sa sc sh/\IntsAt w na nc nu/\it.length<=ic/\ic<=9223372036854775807/\∃ b off:Nat,(it≠[]->ia=some ⟨b,off,none⟩)/\ArrsAt w b off it
def ArrsAt (w:World) (b off:Nat):List Arr->Prop
 | []=>True
 | A::r=>(∃ c0 c1 c2 c3:Value,(w.cell? ⟨b,off,none⟩=some c0/\w.cell? ⟨b,off+1,none⟩=some c1/\w.cell? ⟨b,off+2,none⟩=some c2/\w.cell? ⟨b,off+3,none⟩=some c3)/\ArrAt w (.agg #[c0,c1,c2,c3]) A)/\ArrsAt w b (off+4) r
end
mutual
theorem ArrAt.below {w w':World}(hb:Below w.heap.size w w'):∀ {v:Value}{A:Arr},ArrAt w v A->ArrAt w' v A
 | _,.mk k sh nu it,h=>by
  rw [ArrAt] at h ⊢
  obtain ⟨sa,sc,na,nc,ia,ic,hv,hk,hs,hn,h1,h2,b,off,ha,hc⟩:=h
  exact ⟨sa,sc,na,nc,ia,ic,hv,hk,hs.below hb,hn.below hb,h1,h2,b,off,ha,ArrsAt.below hb hc⟩
theorem ArrsAt.below {w w':World}(hb:Below w.heap.size w w'):∀ {b off:Nat}{l:List Arr},ArrsAt w b off l->ArrsAt w' b off l
 | _,_,[],_=>by rw [ArrsAt];trivial
 | b,off,A::r,h=>by
  rw [ArrsAt] at h ⊢
  obtain ⟨⟨c0,c1,c2,c3,⟨h0,h1,h2,h3⟩,hA⟩,hr⟩:=h
  exact ⟨⟨c0,c1,c2,c3,⟨(hb.cell (cell_lt h0)).trans h0,(hb.cell (cell_lt h1)).trans h1,(hb.cell (cell_lt h2)).trans h2,(hb.cell (cell_lt h3)).trans h3⟩,ArrAt.below hb hA⟩,ArrsAt.below hb hr⟩
end
theorem ArrsAt.at {w:World}:∀ {l:List Arr}{b off:Nat},ArrsAt w b off l->∀ {k:Nat}(hk:k<l.length),∃ c0 c1 c2 c3:Value,
  (w.cell? ⟨b,off+k*4,none⟩=some c0/\w.cell? ⟨b,off+k*4+1,none⟩=some c1/\w.cell? ⟨b,off+k*4+2,none⟩=some c2/\w.cell? ⟨b,off+k*4+3,none⟩=some c3)/\ArrAt w (.agg #[c0,c1,c2,c3]) l[k]
 | [],_,_,_,k,hk=>absurd hk (by simp)
 | A::r,b,off,h,k,hk=>by
  rw [ArrsAt] at h
  cases k with
  | zero=>simpa using h.1
  | succ k =>
   have:=ArrsAt.at h.2 (k:=k) (by simpa using hk)
   have e:off+4+k*4=off+(k+1)*4:=by omega
   rw [e] at this
   simpa using this
mutual
def rk:Arr->Nat
 | .mk _ _ _ it=>rkL it+1
def rkL:List Arr->Nat
 | []=>0
 | A::r=>rk A+rkL r
end
theorem rkL_at:∀ {l:List Arr}{k:Nat}(h:k<l.length),rk l[k]<=rkL l
 | [],_,h=>absurd h (by simp)
 | A::r,0,_=>by simp only [List.getElem_cons_zero,rkL];omega
 | A::r,k+1,h=>by
  have:=rkL_at (l:=r) (k:=k) (by simpa using h)
  simp only [List.getElem_cons_succ,rkL];omega
theorem rk_item {k:Int}{sh nu:List Int}{it:List Arr}{j:Nat}(h:j<it.length):rk it[j]<rk (.mk k sh nu it):=by
 have:=rkL_at h
 rw [rk];omega
end Go.Proofs.YtalkinnbfglkdaaGreatDoor.Shape
namespace Go.Proofs.YtalkinnbfglkdaaGreatDoor.Shape
open Go.RowKit
theorem ret_int {a b:Int}(h:a=b):Ending.returned (.int .i64 a)=.returned (.int .i64 b):=by rw [h]
theorem below_new (w:World) (o:Obj):Below w.heap.size w (w.alloc o):=(Below.refl _ _).alloc (Nat.le_refl _) _
theorem Below.then {a b c:World}(h:Below a.heap.size a b) (k:Below b.heap.size b c):Below a.heap.size a c:=h.trans (k.mono h.size)
def aSize (A:Arr):Nat:=if A.kind=1∨A.kind=2 then A.nums.length else if A.kind=3 then A.items.length else 0
mutual
def wt:Arr->Int
 | .mk k sh nu it=>min ((aSize (.mk k sh nu it):Int)+(if k=3 then sumW it else 0)) 262145
def sumW:List Arr->Int
 | []=>0
 | A::r=>wt A+sumW r
end
mutual
theorem wt_nn:∀ A,0<=wt A
 | .mk k sh nu it=>by
  have:=sumW_nn it
  rw [wt];split <;> omega
theorem sumW_nn:∀ l,0<=sumW l
 | []=>by rw [sumW];omega
 | A::r=>by
  have:=wt_nn A
  have:=sumW_nn r
  rw [sumW];omega
end
theorem wt_le (A:Arr):wt A<=262145:=by
 obtain ⟨k,sh,nu,it⟩:=A
 rw [wt];omega
theorem sumW_append (a b:List Arr):sumW (a++b)=sumW a+sumW b:=by
 induction a with
 | nil=>simp [sumW]
 | cons A r ih=>rw [List.cons_append,sumW,sumW,ih];omega
theorem sumW_step {l:List Arr}{k:Nat}(h:k<l.length):sumW (l.take (k+1))=sumW (l.take k)+wt l[k]:=by
 rw [List.take_succ_eq_append_getElem h,sumW_append,sumW,sumW];omega
def Par (w:World) (B:Nat) (c0 c1 c2 c3:Value):Prop:=B<w.heap.size/\w.cell? ⟨B,0,none⟩=some c0/\w.cell? ⟨B,1,none⟩=some c1/\w.cell? ⟨B,2,none⟩=some c2/\w.cell? ⟨B,3,none⟩=some c3
theorem Par.below {w w':World}{B:Nat}{c0 c1 c2 c3:Value}(h:Par w B c0 c1 c2 c3) (hb:Below w.heap.size w w'):Par w' B c0 c1 c2 c3:=by
 obtain ⟨h0,h1,h2,h3,h4⟩:=h
 exact ⟨Nat.lt_of_lt_of_le h0 hb.size,(hb.cell h0).trans h1,(hb.cell h0).trans h2,(hb.cell h0).trans h3,(hb.cell h0).trans h4⟩
theorem Par.new (w:World) (c0 c1 c2 c3:Value) (t:TypeId):Par (w.alloc (.cells #[c0,c1,c2,c3] t)) w.heap.size c0 c1 c2 c3:=by
 refine ⟨by simp,?_,?_,?_,?_⟩ <;> rw [World.cell?_alloc_new] <;> rfl
theorem elemArrs:Tryz.prog.underlying 44=some (.slice (Tryz.prog.elem 44)):=by kernel_rfl
theorem sizeArrs (w:World):(sizeOf (Tryz.prog.elem 44)).run Tryz.prog w=.ok 4 w:=by kernel_rfl
theorem items_at {ia:Option Addr}{n ic b off:Nat}{l:List Arr}(hn:n=l.length) (ha:l≠[]->ia=some ⟨b,off,none⟩) {k:Nat}(hk:k<l.length) (w':World) :
  (Instr.indexAt 44 (.slice ia n ic) (.int .i64 k)).run Tryz.prog w'=.ok (.pointer (some ⟨b,off+k*4,none⟩)) w':=by
 subst hn
 have e:=ha (by intro e;subst e;simp at hk)
 subst e
 rw [run_indexAt_slice w' _ _ _ _ .i64 k elemArrs,if_pos (by omega),sizeArrs]
 show Result.ok _ w'=_
 rw [show (k:Int).toNat=k by omega,add_plain]
end Go.Proofs.YtalkinnbfglkdaaGreatDoor.Shape
namespace Go.Proofs.YtalkinnbfglkdaaGreatDoor.Shape
def pr:List Int->Int
 | []=>1
 | x::r=>x*pr r
def nz:List Int->Int
 | []=>1
 | x::r=>(if x=0 then 1 else x)*nz r
def NN (xs:List Int):Prop:=∀ x∈xs,0<=x
instance (xs:List Int):Decidable (NN xs):=inferInstanceAs (Decidable (∀ x∈xs,0<=x))
def rightB (xs:List Int):Bool:=decide (xs.length<=8/\NN xs/\nz xs<=65536)
theorem right_def {xs:List Int}:rightB xs=true ↔ xs.length<=8/\NN xs/\nz xs<=65536:=by simp [rightB]
theorem nz_append (a b:List Int):nz (a++b)=nz a*nz b:=by
 induction a with
 | nil=>simp [nz]
 | cons x r ih=>rw [List.cons_append,nz,nz,ih,Int.mul_assoc]
theorem NN.nil:NN []:=fun _ h=>absurd h (by simp)
theorem NN.left {a b:List Int}(h:NN (a++b)):NN a:=fun x hx=>h x (List.mem_append_left _ hx)
theorem NN.right {a b:List Int}(h:NN (a++b)):NN b:=fun x hx=>h x (List.mem_append_right _ hx)
theorem NN.head {x:Int}{r:List Int}(h:NN (x::r)):0<=x:=h x (by simp)
theorem NN.tail {x:Int}{r:List Int}(h:NN (x::r)):NN r:=fun y hy=>h y (by simp [hy])
theorem NN.snoc {a:List Int}{x:Int}(h:NN a) (hx:0<=x):NN (a++[x]):=by
 intro y hy
 rcases List.mem_append.1 hy with h1 | h1
 ·exact h y h1
 ·rw [List.mem_singleton.1 h1];exact hx
theorem nz_pos {xs:List Int}(h:NN xs):1<=nz xs:=by
 induction xs with
 | nil=>exact Int.le_refl _
 | cons x r ih =>
  have h1:=ih h.tail
  have h2:=h.head
  rw [nz]
  split
  ·omega
  ·have:1*1<=x*nz r:=Int.mul_le_mul (by omega) h1 (by decide) (by omega)
   omega
theorem nz_left {a b:List Int}(h:NN (a++b)):nz a<=nz (a++b):=by
 rw [nz_append]
 have h1:=nz_pos h.left
 have h2:=nz_pos h.right
 have:nz a*1<=nz a*nz b:=Int.mul_le_mul_of_nonneg_left h2 (by omega)
 omega
theorem pr_nn {xs:List Int}(h:NN xs):0<=pr xs:=by
 induction xs with
 | nil=>decide
 | cons x r ih=>exact Int.mul_nonneg h.head (ih h.tail)
theorem pr_eq_nz {xs:List Int}(h:∀ x∈xs,x≠0):pr xs=nz xs:=by
 induction xs with
 | nil=>rfl
 | cons x r ih=>rw [pr,nz,if_neg (h x (by simp)),ih (fun y hy=>h y (by simp [hy]))]
/-! ### Reading a list place by place -/
theorem take_snoc (xs:List Int) (k:Nat) (h:k<xs.length):xs.take (k+1)=xs.take k++[xs[k]]:=by
 rw [List.take_succ_eq_append_getElem h]
/-! ### Validity,place by place -/
theorem right_len {xs:List Int}(h:8<xs.length):rightB xs=false:=by
 simp only [rightB,decide_eq_false_iff_not];omega
theorem right_neg {xs:List Int}{k:Nat}(hk:k<xs.length) (h:xs[k]<0):rightB xs=false:=by
 simp only [rightB,decide_eq_false_iff_not]
 rintro ⟨_,h2,_⟩
 have:=h2 xs[k] (List.getElem_mem hk)
 omega
theorem right_big {xs:List Int}{k:Nat}(h:65536<nz (xs.take (k+1))):rightB xs=false:=by
 simp only [rightB,decide_eq_false_iff_not]
 rintro ⟨_,h2,h3⟩
 have e:xs.take (k+1)++xs.drop (k+1)=xs:=List.take_append_drop _ _
 have:=nz_left (a:=xs.take (k+1)) (b:=xs.drop (k+1)) (by rw [e];exact h2)
 rw [e] at this
 omega
theorem nz_step {xs:List Int}{k:Nat}(hk:k<xs.length):nz (xs.take (k+1))=nz (xs.take k)*(if xs[k]=0 then 1 else xs[k]):=by
 rw [take_snoc xs k hk,nz_append,nz,nz,Int.mul_one]
theorem right_all {xs:List Int}(hl:xs.length<=8) (h:NN xs) (h2:nz xs<=65536):rightB xs=true:=right_def.2 ⟨hl,h,h2⟩
end Go.Proofs.YtalkinnbfglkdaaGreatDoor.Shape
namespace Go.Proofs.YtalkinnbfglkdaaGreatDoor.Shape
open Go.RowKit
theorem ret_bool {a b:Bool}(h:a=b):Ending.returned (.bool a)=.returned (.bool b):=by rw [h]
theorem NN.take {xs:List Int}(h:NN xs) (k:Nat):NN (xs.take k):=fun x hx=>h x (List.mem_of_mem_take hx)
def dimsE (xs:List Int):Int:=if 8<xs.length then 15 else if NN xs then (if nz xs<=65536 then 0 else 21) else 16
theorem dimsE_long {xs:List Int}(h:8<xs.length):dimsE xs=15:=by rw [dimsE,if_pos h]
theorem dimsE_neg {xs:List Int}(h:¬ 8<xs.length) (hn:¬ NN xs):dimsE xs=16:=by rw [dimsE,if_neg h,if_neg hn]
theorem dimsE_big {xs:List Int}(h:¬ 8<xs.length) (hn:NN xs) (h2:¬ nz xs<=65536):dimsE xs=21:=by rw [dimsE,if_neg h,if_pos hn,if_neg h2]
theorem dimsE_ok {xs:List Int}(h:¬ 8<xs.length) (hn:NN xs) (h2:nz xs<=65536):dimsE xs=0:=by rw [dimsE,if_neg h,if_pos hn,if_pos h2]
theorem dimsE_right (xs:List Int):dimsE xs=0 ↔ rightB xs=true:=by
 rw [right_def,dimsE]
 by_cases h:8<xs.length
 ·rw [if_pos h];constructor <;> intro g <;> omega
 ·rw [if_neg h]
  by_cases hn:NN xs
  ·rw [if_pos hn]
   by_cases h2:nz xs<=65536
   ·rw [if_pos h2];exact ⟨fun _=>⟨by omega,hn,h2⟩,fun _=>rfl⟩
   ·rw [if_neg h2];exact ⟨fun g=>by omega,fun g=>absurd g.2.2 h2⟩
  ·rw [if_neg hn];exact ⟨fun g=>by omega,fun g=>absurd g.2.1 hn⟩
def numB (n:Int):Bool:=decide (-4611686018427387903<=n/\n<=4611686018427387903)
def runeB (n:Int):Bool:=decide (0<=n/\n<=1114111/\(n<55296∨57343<n))
end Go.Proofs.YtalkinnbfglkdaaGreatDoor.Shape
namespace Go.Proofs.YtalkinnbfglkdaaGreatDoor.Shape
def elemB (k n:Int):Bool:=!((k==1&&!numB n) ||(k==2&&!runeB n))
def other (k:Int) (nu:List Int) (it:List Arr):Nat:=if k=3 then nu.length else it.length
def lastE (d w:Int):Int × Int:=if 16<d∨262144<w then (21,0) else (0,d)
mutual
def chk:Arr->Int × Int
 | .mk k sh nu it =>
  if k<1∨3<k then (14,0)
  else if dimsE sh≠0 then (dimsE sh,0)
  else if (aSize (.mk k sh nu it):Int)≠pr sh∨0<other k nu it then (16,0)
  else if nu.all (elemB k)=false then (17,0)
  else match chkL 0 it with
   | none=>(17,0)
   | some d=>lastE d (wt (.mk k sh nu it))
def chkL (d:Int):List Arr->Option Int
 | []=>some d
 | A::r=>if (chk A).1≠0 then none else chkL (max d ((chk A).2+1)) r
end
theorem chk_kind {k:Int}{sh nu:List Int}{it:List Arr}(h:k<1∨3<k):chk (.mk k sh nu it) =(14,0):=by rw [chk,if_pos h]
theorem chk_rest {k:Int}{sh nu:List Int}{it:List Arr}(h:¬ (k<1∨3<k)) (hd:dimsE sh=0) (hl:¬ ((aSize (.mk k sh nu it):Int)≠pr sh∨0<other k nu it)) (he:nu.all (elemB k)=true) :
  chk (.mk k sh nu it)=match chkL 0 it with | none=>(17,0) | some d=>lastE d (wt (.mk k sh nu it)):=by
 rw [chk,if_neg h,if_neg (by simpa using hd),if_neg hl,if_neg (by rw [he];simp)]
theorem lastE_bd (d w:Int) (h:0<=d):0<=(lastE d w).2/\(lastE d w).2<=16:=by
 unfold lastE;split
 ·exact ⟨Int.le_refl _,by decide⟩
 ·show 0<=d/\d<=16;omega
theorem chkL_nn:∀ (l:List Arr) (d e:Int),0<=d->chkL d l=some e->0<=e
 | [],d,e,h,g=>by simp only [chkL,Option.some.injEq] at g;omega
 | A::r,d,e,h,g=>by
  rw [chkL] at g
  split at g
  ·cases g
  ·exact chkL_nn r _ e (by omega) g
theorem chk_bd (A:Arr):0<=(chk A).2/\(chk A).2<=16:=by
 obtain ⟨k,sh,nu,it⟩:=A
 rw [chk]
 split
 ·exact ⟨Int.le_refl _,by show (0:Int)<=16;decide⟩
 ·split
  ·exact ⟨Int.le_refl _,by show (0:Int)<=16;decide⟩
  ·split
   ·exact ⟨Int.le_refl _,by show (0:Int)<=16;decide⟩
   ·split
    ·exact ⟨Int.le_refl _,by show (0:Int)<=16;decide⟩
    ·split
     ·exact ⟨Int.le_refl _,by show (0:Int)<=16;decide⟩
     ·rename_i d hd;exact lastE_bd _ _ (chkL_nn it 0 d (Int.le_refl _) hd)
theorem chkL_step {l:List Arr}{j:Nat}{d:Int}(h:j<l.length) (hb:(chk l[j]).1=0):chkL d (l.drop j)=chkL (max d ((chk l[j]).2+1)) (l.drop (j+1)):=by
 rw [List.drop_eq_getElem_cons h,chkL,if_neg (by simpa using hb)]
theorem chkL_end {l:List Arr}{j:Nat}{d:Int}(h:¬ j<l.length):chkL d (l.drop j)=some d:=by
 rw [List.drop_eq_nil_of_le (by omega),chkL]
theorem all_bad {k:Int}{nu:List Int}{j:Nat}(h:j<nu.length) (hb:elemB k nu[j]=false):nu.all (elemB k)=false:=by
 rw [List.all_eq_false];exact ⟨nu[j],List.getElem_mem h,by rw [hb];simp⟩
theorem all_take {k:Int}{nu:List Int}{j:Nat}(h:j<nu.length) (ha:(nu.take j).all (elemB k)=true) (hb:elemB k nu[j]=true):(nu.take (j+1)).all (elemB k)=true:=by
 rw [List.take_succ_eq_append_getElem h,List.all_append,ha];simp [hb]
end Go.Proofs.YtalkinnbfglkdaaGreatDoor.Shape
namespace Go.Proofs.YtalkinnbfglkdaaGreatDoor.Num
def fitsB (n:Int):Bool:=decide (-4611686018427387903<=n/\n<=4611686018427387903)
theorem fits_def {n:Int}:fitsB n=true ↔ -4611686018427387903<=n/\n<=4611686018427387903:=by simp [fitsB]
theorem fits_mk {n:Int}(h:-4611686018427387903<=n/\n<=4611686018427387903):fitsB n=true:=fits_def.2 h
theorem fits_of_false {n:Int}(h:fitsB n=false):n < -4611686018427387903∨4611686018427387903<n:=by
 simp [fitsB] at h;omega
def chk (n:Int):Int × Int:=if fitsB n=true then (n,0) else (0,19)
def fl (a b:Int):Int:=if 0<b then a / b else (-a) / (-b)
/-! Go's division rounds toward zero;the quotient of the document is rounded toward minus infinity. -/
def rdGo:Int->List UInt8->Option Int
 | n,[]=>some n
 | n,c::r=>if c.toNat<48∨57<c.toNat then none else if (4611686018427387903 - ((c.toNat:Int) - 48)) / 10<n then none else rdGo (10*n+((c.toNat:Int) - 48)) r
def rdAns (s:Int):Option Int->Int × Int
 | none=>(0,4)
 | some n=>(s*n,0)
def rdS (l:List UInt8):Int × Int :=
 match l with
 | []=>(0,4)
 | c::r=>if c.toNat=95 then (if r=[] then (0,4) else rdAns (-1) (rdGo 0 r)) else rdAns 1 (rdGo 0 (c::r))
theorem rdGo_low {n:Int}{c:UInt8}{r:List UInt8}(h:c.toNat<48):rdGo n (c::r)=none:=by simp [rdGo,h]
theorem rdGo_high {n:Int}{c:UInt8}{r:List UInt8}(h:57<c.toNat):rdGo n (c::r)=none:=by simp [rdGo,h]
theorem rdGo_big {n:Int}{c:UInt8}{r:List UInt8}(h:(4611686018427387903 - ((c.toNat:Int) - 48)) / 10<n):rdGo n (c::r)=none:=by
 simp [rdGo,h]
theorem rdGo_step {n:Int}{c:UInt8}{r:List UInt8}(h1:48<=c.toNat) (h2:c.toNat<=57) (h3:n<=(4611686018427387903 - ((c.toNat:Int) - 48)) / 10) :
  rdGo n (c::r)=rdGo (10*n+((c.toNat:Int) - 48)) r:=by
 rw [rdGo,if_neg (by omega),if_neg (by omega)]
theorem rdGo_bd {n:Int}{c:UInt8}(h1:48<=c.toNat) (h2:c.toNat<=57) (h0:0<=n) (h3:n<=(4611686018427387903 - ((c.toNat:Int) - 48)) / 10) :
 0<=10*n+((c.toNat:Int) - 48)/\10*n+((c.toNat:Int) - 48)<=4611686018427387903:=by omega
theorem rdS_neg {r:List UInt8}(h:r≠[]):rdS (95::r)=rdAns (-1) (rdGo 0 r):=by simp [rdS,h]
theorem rdS_pos {c:UInt8}{r:List UInt8}(h:¬ c.toNat=95):rdS (c::r)=rdAns 1 (rdGo 0 (c::r)):=by simp [rdS,h]
def dig (m:Nat):UInt8:=UInt8.ofNat (48+m % 10)
theorem dig_nat (m:Nat):(dig m).toNat=48+m % 10:=by
 unfold dig;rw [UInt8.toNat_ofNat'];omega
theorem dig_int (m:Nat):((dig m).toNat:Int)=48+(m:Int) % 10:=by rw [dig_nat];omega
def dg (m:Nat):List UInt8:=if m<10 then [dig m] else dg (m / 10)++[dig m]
 termination_by m
 decreasing_by omega
theorem dg_last {m:Nat}(h:m<10):dg m=[dig m]:=by rw [dg,if_pos h]
theorem dg_more {m:Nat}(h:¬ m<10):dg m=dg (m / 10)++[dig m]:=by rw [dg,if_neg h]
def shL (n:Int):List UInt8:=if n<0 then 95::dg n.natAbs else dg n.natAbs
theorem shL_neg {n:Int}(h:n<0):shL n=95::dg n.natAbs:=by rw [shL,if_pos h]
theorem shL_pos {n:Int}(h:¬ n<0):shL n=dg n.natAbs:=by rw [shL,if_neg h]
/-! ### The loop of the program: R is what is left,D the digits that are there -/
theorem loop_last {m R:Nat}{D:List UInt8}(h:dg m=dg R++D) (hR:R<10):dg m=dig R::D:=by
 rw [h,dg_last hR];rfl
theorem loop_next {m R:Nat}{D:List UInt8}(h:dg m=dg R++D) (hR:¬ R<10):dg m=dg (R / 10)++dig R::D:=by
 rw [h,dg_more hR,List.append_assoc];rfl
theorem room_next {R A:Nat}(h:R<10 ^ (A - 1)) (hR:¬ R<10):3<=A/\R / 10<10 ^ (A - 1 - 1):=by
 have h3:3<=A:=by
  rcases Nat.lt_or_ge A 3 with h2 | h2
  ·have:10 ^ (A - 1)<=10 ^ 1:=Nat.pow_le_pow_right (by decide) (by omega)
   omega
  ·exact h2
 refine ⟨h3,?_⟩
 have e:A - 1 =(A - 1 - 1)+1:=by omega
 rw [e,Nat.pow_succ] at h
 omega
/-! ### Reading what was shown -/
theorem rdGo_append {l:List UInt8}:∀ {n m:Int}{r:List UInt8},rdGo n l=some m->rdGo n (l++r)=rdGo m r:=by
 induction l with
 | nil=>intro n m r h;simp only [rdGo,Option.some.injEq] at h;rw [h];rfl
 | cons c l ih =>
  intro n m r h
  rw [List.cons_append,rdGo]
  rw [rdGo] at h
  split at h
  ·cases h
  ·rename_i h1
   rw [if_neg h1]
   split at h
   ·cases h
   ·rename_i h2
    rw [if_neg h2]
    exact ih h
theorem rdGo_none {l:List UInt8}:∀ {n:Int}{r:List UInt8},rdGo n l=none->rdGo n (l++r)=none:=by
 induction l with
 | nil=>intro n r h;cases h
 | cons c l ih =>
  intro n r h
  rw [List.cons_append,rdGo]
  rw [rdGo] at h
  split at h
  ·rename_i h1;rw [if_pos h1]
  ·rename_i h1
   rw [if_neg h1]
   split at h
   ·rename_i h2;rw [if_pos h2]
   ·rename_i h2
    rw [if_neg h2]
    exact ih h
theorem rdGo_dig (m:Nat) (n:Int):rdGo n [dig m]=if (4611686018427387903 - (m:Int) % 10) / 10<n then none else some (10*n+(m:Int) % 10):=by
 have h:=dig_int m
 have h':=dig_nat m
 rw [rdGo,if_neg (by omega)]
 have e:((dig m).toNat:Int) - 48 =(m:Int) % 10:=by omega
 rw [e]
 rfl
theorem rdGo_dg (m:Nat):rdGo 0 (dg m)=if (m:Int)<=4611686018427387903 then some (m:Int) else none:=by
 induction m using Nat.strongRecOn with
 | ind m ih =>
  by_cases h:m<10
  ·rw [dg_last h,rdGo_dig,if_neg (by omega),if_pos (by omega)]
   congr 1;omega
  ·rw [dg_more h]
   have i:=ih (m / 10) (by omega)
   by_cases h2:((m / 10:Nat):Int)<=4611686018427387903
   ·rw [if_pos h2] at i
    rw [rdGo_append i,rdGo_dig]
    by_cases h3:(m:Int)<=4611686018427387903
    ·rw [if_pos h3,if_neg (by omega)]
     congr 1;omega
    ·rw [if_neg h3,if_pos (by omega)]
   ·rw [if_neg h2] at i
    rw [rdGo_none i,if_neg (by omega)]
theorem dg_ne (m:Nat):dg m≠[]:=by
 by_cases h:m<10
 ·rw [dg_last h];simp
 ·rw [dg_more h];simp
theorem dg_head (m:Nat):∃ c r,dg m=c::r/\¬ c.toNat=95:=by
 induction m using Nat.strongRecOn with
 | ind m ih =>
  by_cases h:m<10
  ·exact ⟨_,_,dg_last h,by rw [dig_nat];omega⟩
  ·obtain ⟨c,r,e,hc⟩:=ih (m / 10) (by omega)
   exact ⟨c,r++[dig m],by rw [dg_more h,e];rfl,hc⟩
theorem rdS_shL (n:Int):rdS (shL n)=if fitsB n=true then (n,0) else (0,4):=by
 have hm:=rdGo_dg n.natAbs
 by_cases h:n<0
 ·rw [shL_neg h,rdS_neg (dg_ne _),hm]
  by_cases hf:fitsB n=true
  ·have:=fits_def.1 hf
   rw [if_pos hf,if_pos (by omega)]
   show (-1*_,0) =(n,0)
   congr 1;omega
  ·have:=fits_of_false (by simpa using hf:fitsB n=false)
   rw [if_neg hf,if_neg (by omega)];rfl
 ·obtain ⟨c,r,e,hc⟩:=dg_head n.natAbs
  rw [shL_pos h,e,rdS_pos hc,<- e,hm]
  by_cases hf:fitsB n=true
  ·have:=fits_def.1 hf
   rw [if_pos hf,if_pos (by omega)]
   show (1*_,0) =(n,0)
   congr 1;omega
  ·have:=fits_of_false (by simpa using hf:fitsB n=false)
   rw [if_neg hf,if_neg (by omega)];rfl
theorem dg_len (k:Nat):∀ m,m<10 ^ (k+1)->(dg m).length<=k+1:=by
 induction k with
 | zero=>intro m h;rw [dg_last (by omega)];simp
 | succ k ih =>
  intro m h
  by_cases h2:m<10
  ·rw [dg_last h2];simp
  ·rw [dg_more h2,List.length_append]
   have:=ih (m / 10) (by rw [Nat.pow_succ] at h;omega)
   simp only [List.length_cons,List.length_nil]
   omega
end Go.Proofs.YtalkinnbfglkdaaGreatDoor.Num
namespace Go.Proofs.YtalkinnbfglkdaaGreatDoor.Shape
open Go.Proofs.YtalkinnbfglkdaaGreatDoor.Num
def sS (n:Int):ByteArray:=⟨(shL n).toArray⟩
theorem sS_size (n:Int) (h1:-9223372036854775808<=n) (h2:n<=9223372036854775807):(sS n).size<=20:=by
 have h:=dg_len 18 n.natAbs (by omega)
 show (shL n).toArray.size<=20
 unfold shL
 split <;> simp <;> omega
def jn:List Int->List UInt8
 | []=>[]
 | x::r=>shL x++jt r
where jt:List Int->List UInt8
 | []=>[]
 | x::r=>32::(shL x++jt r)
end Go.Proofs.YtalkinnbfglkdaaGreatDoor.Shape
namespace Go.Proofs.YtalkinnbfglkdaaGreatDoor.Shape
open Go.RowKit Go.Proofs.YtalkinnbfglkdaaGreatDoor.Num
set_option linter.unusedVariables false
def hd (m:Nat):UInt8:=UInt8.ofNat (if m % 16<10 then 48+m % 16 else 87+m % 16)
def hx (m:Nat):List UInt8:=if m<16 then [hd m] else hx (m / 16)++[hd m]
termination_by m
theorem hx_small {m:Nat}(h:m<16):hx m=[hd m]:=by rw [hx,if_pos h]
theorem hx_more {m:Nat}(h:¬ m<16):hx m=hx (m / 16)++[hd m]:=by rw [hx,if_neg h]
theorem hd_mod (m:Nat):hd (m % 16)=hd m:=by unfold hd;rw [Nat.mod_mod]
theorem hx_len (k:Nat):∀ m,m<16 ^ (k+1)->(hx m).length<=k+1:=by
 induction k with
 | zero=>intro m h;rw [hx_small (by simpa using h)];simp
 | succ k ih =>
  intro m h
  by_cases h16:m<16
  ·rw [hx_small h16];simp
  ·rw [hx_more h16,List.length_append]
   have:=ih (m / 16) (by rw [Nat.div_lt_iff_lt_mul (by decide)];rwa [Nat.pow_succ] at h)
   simp;omega
def enc (c:Int):List UInt8:=(Utf8.encode c).data.toList
def chS (c q:Int):List UInt8 :=
 if c=10 then [92,110] else if c=9 then [92,116] else if c=13 then [92,114] else if c=92∨c=q then 92::enc c else if c<32∨c=127 then [92,117,123]++hx c.toNat++[125] else enc c
def quoS (l:List Int):List UInt8:=34::((l.map fun c=>chS c 34).flatten++[34])
def blankS:List (List UInt8)->List UInt8
 | []=>[]
 | x::r=>x++(r.map fun y=>32::y).flatten
def fillT (k:Int):List UInt8:=if k=1 then [48] else if k=2 then [39,32,39] else [98,111,120,32,48,32,114,101,115,104,97,112,101,32,48]
def reS:List UInt8:=[32,114,101,115,104,97,112,101,32]
def vecS (k:Int) (nu:List Int) (els:List (List UInt8)):List UInt8 :=
 if k=2 then quoS nu else blankS (if k=3 then els.map fun t=>40::(t++[41]) else els)
def litT (k:Int) (sh nu:List Int) (els:List (List UInt8)):List UInt8 :=
 if sh.length=0 then els.headD [] else
 if sh.length=1/\(k=2∨2<=els.length) then vecS k nu els else
 jn sh++reS++(if els.length=0 then fillT k else if els.length=1 then els.headD [] else vecS k nu els)
mutual
def litS:Arr->List UInt8
 | .mk k sh nu it=>litT k sh nu (if k=3 then litsS it else nu.map fun x=>if k=2 then 39::(chS x 39++[39]) else shL x)
def litsS:List Arr->List (List UInt8)
 | []=>[]
 | A::r=>(98::111::120::32::litS A)::litsS r
end
theorem litsS_len:∀ (l:List Arr),(litsS l).length=l.length
 | []=>by rw [litsS];rfl
 | A::r=>by rw [litsS,List.length_cons,litsS_len r,List.length_cons]
theorem enc_len (c:Int):(enc c).length<=4:=by
 have:=encode_size_le c
 exact this
theorem chS_len (c q:Int) (h:c<=1114111):(chS c q).length<=12:=by
 have h1:=enc_len c
 have h2:=hx_len 5 c.toNat (by omega)
 have e1:([92,117,123]++hx c.toNat++[125]:List UInt8).length=4+(hx c.toNat).length:=by simp;omega
 have e2:(92::enc c).length =(enc c).length+1:=rfl
 unfold chS
 split
 ·exact Nat.le_of_ble_eq_true rfl
 split
 ·exact Nat.le_of_ble_eq_true rfl
 split
 ·exact Nat.le_of_ble_eq_true rfl
 split
 ·omega
 split
 ·omega
 ·omega
end Go.Proofs.YtalkinnbfglkdaaGreatDoor.Shape
