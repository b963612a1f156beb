/-
  What a walk is told of a slice of ints that is only read: it holds the numbers xs.
  Arrays as plain data, and what it means that a value in memory holds one.
  Plain mathematics of layer 1 (numbers from -(2^62 - 1) to 2^62 - 1): the results of the nine calls as Lean functions, and lemmas about them. Nothing of the program is named here.
  Plain mathematics of decimal writing: the digits of a number, and that reading them gives it back.
  Plain mathematics of numbers and shapes as text.
  Layer 5: plain mathematics: characters in literals, and literals of arrays, as lists of bytes.
  Plain mathematics of shapes: validity, products, offsets, indices. Nothing of the program is named here.
  Layer 3: the reference's Size and Weight.
  Layer 3: the reference's Weight.
  Layer 3: the reference's product, Dims, Count, Shapes, Rune and Number.
  Layer 3: what makes an array valid, as plain functions: the first error, and the depth of the boxes.
-/
import Derived.Test.YtmfhdcpajgjgpaaGreatDoorRows
import Derived.WalkKit
import Derived.WalkSpells
import Derived.WalkLawsBesides
import Derived.Deep.QuietTactic
import Derived.BigQuiet
set_option maxHeartbeats 1000000
namespace Go.Proofs.YtmfhdcpajgjgpaaGreatDoor.Shape
open Go.RowKit
def IntsAt (w:World) (a:Option Addr) (cap:Nat) (xs:List Int):Prop :=
 xs.length<=cap/\cap<=9223372036854775807/\(∀ x∈xs,-9223372036854775808<=x/\x<=9223372036854775807) /\
  ∃ b off:Nat,(xs≠[]->a=some ⟨b,off,none⟩)/\∀ i (h:i<xs.length),w.cell? ⟨b,off+i,none⟩=some (.int .i64 xs[i])
theorem IntsAt.drewN {w:World}{a:Option Addr}{cap:Nat}{xs:List Int}(h:IntsAt w a cap xs) (n:Nat):IntsAt (w.drewN n) a cap xs:=h
theorem IntsAt.len {w:World}{a:Option Addr}{cap:Nat}{xs:List Int}(h:IntsAt w a cap xs):xs.length<=9223372036854775807:=Nat.le_trans h.1 h.2.1
theorem IntsAt.bd {w:World}{a:Option Addr}{cap:Nat}{xs:List Int}(h:IntsAt w a cap xs) {k:Nat}(hk:k<xs.length):-9223372036854775808<=xs[k]/\xs[k]<=9223372036854775807:=h.2.2.1 _ (List.getElem_mem hk)
theorem elemInts:Tryz.prog.underlying 34=some (.slice (Tryz.prog.elem 34)):=by kernel_rfl
theorem sizeInts (w:World):(sizeOf (Tryz.prog.elem 34)).run Tryz.prog w=.ok 1 w:=by kernel_rfl
theorem add_plain (b off k:Nat):(⟨b,off,none⟩:Addr).add k =⟨b,off+k,none⟩:=by unfold Addr.add;split <;> simp_all
theorem IntsAt.at {w:World}{a:Option Addr}{cap:Nat}{xs:List Int}(h:IntsAt w a cap xs) {k:Nat}(hk:k<xs.length) :
  ∃ b off:Nat,(∀ w':World,(Instr.indexAt 34 (.slice a xs.length cap) (.int .i64 k)).run Tryz.prog w'=.ok (.pointer (some ⟨b,off+k,none⟩)) w')/\w.cell? ⟨b,off+k,none⟩=some (.int .i64 xs[k]):=by
 obtain ⟨h1,h2,h3,b,off,ha,hc⟩:=h
 have hne:xs≠[]:=by intro e;subst e;simp at hk
 have e:=ha hne
 subst e
 refine ⟨b,off,fun w'=>?_,hc k hk⟩
 rw [run_indexAt_slice w' _ _ _ _ .i64 k elemInts,if_pos (by omega),sizeInts]
 show Result.ok _ w'=_
 rw [show ((k:Int).toNat*1)=k by omega,add_plain]
inductive Arr where
 | mk (kind:Int) (shape nums:List Int) (items:List Arr)
namespace Arr
def kind:Arr->Int | mk k _ _ _=>k
def shape:Arr->List Int | mk _ s _ _=>s
def nums:Arr->List Int | mk _ _ n _=>n
def items:Arr->List Arr | mk _ _ _ i=>i
end Arr
theorem zD {w:World}{b o:Nat}{v:Value}(h:w.cell? ⟨b,o,none⟩=some v):b<w.heap.size:=by
 rcases Nat.lt_or_ge b w.heap.size with h1 | h1
 ·exact h1
 ·have e:w.heap[b]?=none:=by simp [h1]
  simp [World.cell?,e] at h
theorem IntsAt.below {w w':World}{a:Option Addr}{cap:Nat}{xs:List Int}(h:IntsAt w a cap xs) (hb:Below w.heap.size w w'):IntsAt w' a cap xs:=by
 obtain ⟨h1,h2,h3,b,off,ha,hc⟩:=h
 exact ⟨h1,h2,h3,b,off,ha,fun i hi=>(hb.cell (zD (hc i hi))).trans (hc i hi)⟩
mutual
def ArrAt (w:World) (v:Value):Arr->Prop
 | .mk k sh nu it=>∃ sa sc na nc ia ic,v=.agg #[.int .i64 k,.slice sa (List.length sh) sc,.slice na (List.length nu) nc,.slice ia (List.length it) ic]/\(-9223372036854775808<=k/\k<=9223372036854775807) /\
  IntsAt w sa sc sh/\IntsAt w na nc nu/\it.length<=ic/\ic<=9223372036854775807/\∃ b off:Nat,(it≠[]->ia=some ⟨b,off,none⟩)/\ArrsAt w b off it
def ArrsAt (w:World) (b off:Nat):List Arr->Prop
 | []=>True
 | A::r=>(∃ c0 c1 c2 c3:Value,(w.cell? ⟨b,off,none⟩=some c0/\w.cell? ⟨b,off+1,none⟩=some c1/\w.cell? ⟨b,off+2,none⟩=some c2/\w.cell? ⟨b,off+3,none⟩=some c3)/\ArrAt w (.agg #[c0,c1,c2,c3]) A)/\ArrsAt w b (off+4) r
end
mutual
theorem ArrAt.below {w w':World}(hb:Below w.heap.size w w'):∀ {v:Value}{A:Arr},ArrAt w v A->ArrAt w' v A
 | _,.mk k sh nu it,h=>by
  rw [ArrAt] at h ⊢
  obtain ⟨sa,sc,na,nc,ia,ic,hv,hk,hs,hn,h1,h2,b,off,ha,hc⟩:=h
  exact ⟨sa,sc,na,nc,ia,ic,hv,hk,hs.below hb,hn.below hb,h1,h2,b,off,ha,ArrsAt.below hb hc⟩
theorem ArrsAt.below {w w':World}(hb:Below w.heap.size w w'):∀ {b off:Nat}{l:List Arr},ArrsAt w b off l->ArrsAt w' b off l
 | _,_,[],_=>by rw [ArrsAt];trivial
 | b,off,A::r,h=>by
  rw [ArrsAt] at h ⊢
  obtain ⟨⟨c0,c1,c2,c3,⟨h0,h1,h2,h3⟩,hA⟩,hr⟩:=h
  exact ⟨⟨c0,c1,c2,c3,⟨(hb.cell (zD h0)).trans h0,(hb.cell (zD h1)).trans h1,(hb.cell (zD h2)).trans h2,(hb.cell (zD h3)).trans h3⟩,ArrAt.below hb hA⟩,ArrsAt.below hb hr⟩
end
theorem ArrsAt.at {w:World}:∀ {l:List Arr}{b off:Nat},ArrsAt w b off l->∀ {k:Nat}(hk:k<l.length),∃ c0 c1 c2 c3:Value,
  (w.cell? ⟨b,off+k*4,none⟩=some c0/\w.cell? ⟨b,off+k*4+1,none⟩=some c1/\w.cell? ⟨b,off+k*4+2,none⟩=some c2/\w.cell? ⟨b,off+k*4+3,none⟩=some c3)/\ArrAt w (.agg #[c0,c1,c2,c3]) l[k]
 | [],_,_,_,k,hk=>absurd hk (by simp)
 | A::r,b,off,h,k,hk=>by
  rw [ArrsAt] at h
  cases k with
  | zero=>simpa using h.1
  | succ k =>
   have:=ArrsAt.at h.2 (k:=k) (by simpa using hk)
   have e:off+4+k*4=off+(k+1)*4:=by omega
   rw [e] at this
   simpa using this
mutual
def rk:Arr->Nat
 | .mk _ _ _ it=>rkL it+1
def rkL:List Arr->Nat
 | []=>0
 | A::r=>rk A+rkL r
end
theorem rkL_at:∀ {l:List Arr}{k:Nat}(h:k<l.length),rk l[k]<=rkL l
 | [],_,h=>absurd h (by simp)
 | A::r,0,_=>by simp only [List.getElem_cons_zero,rkL];omega
 | A::r,k+1,h=>by
  have:=rkL_at (l:=r) (k:=k) (by simpa using h)
  simp only [List.getElem_cons_succ,rkL];omega
theorem xd {k:Int}{sh nu:List Int}{it:List Arr}{j:Nat}(h:j<it.length):rk it[j]<rk (.mk k sh nu it):=by
 have:=rkL_at h
 rw [rk];omega
end Go.Proofs.YtmfhdcpajgjgpaaGreatDoor.Shape
namespace Go.Proofs.YtmfhdcpajgjgpaaGreatDoor.Num
def fitsB (n:Int):Bool:=decide (-4611686018427387903<=n/\n<=4611686018427387903)
def chk (n:Int):Int × Int:=if fitsB n=true then (n,0) else (0,19)
def fl (a b:Int):Int:=if 0<b then a / b else (-a) / (-b)
/-! Go's division rounds toward zero;the quotient of the document is rounded toward minus infinity. -/
theorem wJ (a b:Int) (hb:b≠0):(a.tmod b).natAbs<b.natAbs:=by
 rw [Int.natAbs_tmod];exact Nat.mod_lt _ (by omega)
theorem tmod_sign (a b:Int):(0<=a->0<=a.tmod b)/\(a<=0->a.tmod b<=0):=by
 refine ⟨fun h=>Int.tmod_nonneg b h,fun h=>?_⟩
 have:=Int.tmod_nonneg (a:=-a) b (by omega)
 rw [Int.neg_tmod] at this;omega
def dig (m:Nat):UInt8:=UInt8.ofNat (48+m % 10)
theorem dig_nat (m:Nat):(dig m).toNat=48+m % 10:=by
 unfold dig;rw [UInt8.toNat_ofNat'];omega
theorem dig_int (m:Nat):((dig m).toNat:Int)=48+(m:Int) % 10:=by rw [dig_nat];omega
def dg (m:Nat):List UInt8:=if m<10 then [dig m] else dg (m / 10)++[dig m]
 termination_by m
 decreasing_by omega
theorem dg_last {m:Nat}(h:m<10):dg m=[dig m]:=by rw [dg,if_pos h]
theorem dg_more {m:Nat}(h:¬ m<10):dg m=dg (m / 10)++[dig m]:=by rw [dg,if_neg h]
def shL (n:Int):List UInt8:=if n<0 then 95::dg n.natAbs else dg n.natAbs
theorem shL_neg {n:Int}(h:n<0):shL n=95::dg n.natAbs:=by rw [shL,if_pos h]
theorem shL_pos {n:Int}(h:¬ n<0):shL n=dg n.natAbs:=by rw [shL,if_neg h]
/-! ### The loop of the program: R is what is left,D the digits that are there -/
theorem loop_last {m R:Nat}{D:List UInt8}(h:dg m=dg R++D) (hR:R<10):dg m=dig R::D:=by
 rw [h,dg_last hR];rfl
theorem loop_next {m R:Nat}{D:List UInt8}(h:dg m=dg R++D) (hR:¬ R<10):dg m=dg (R / 10)++dig R::D:=by
 rw [h,dg_more hR,List.append_assoc];rfl
theorem room_next {R A:Nat}(h:R<10 ^ (A - 1)) (hR:¬ R<10):3<=A/\R / 10<10 ^ (A - 1 - 1):=by
 have h3:3<=A:=by
  rcases Nat.lt_or_ge A 3 with h2 | h2
  ·have:10 ^ (A - 1)<=10 ^ 1:=Nat.pow_le_pow_right (by decide) (by omega)
   omega
  ·exact h2
 refine ⟨h3,?_⟩
 have e:A - 1 =(A - 1 - 1)+1:=by omega
 rw [e,Nat.pow_succ] at h
 omega
/-! ### Reading what was shown -/
theorem dg_ne (m:Nat):dg m≠[]:=by
 by_cases h:m<10
 ·rw [dg_last h];simp
 ·rw [dg_more h];simp
theorem dg_len (k:Nat):∀ m,m<10 ^ (k+1)->(dg m).length<=k+1:=by
 induction k with
 | zero=>intro m h;rw [dg_last (by omega)];simp
 | succ k ih =>
  intro m h
  by_cases h2:m<10
  ·rw [dg_last h2];simp
  ·rw [dg_more h2,List.length_append]
   have:=ih (m / 10) (by rw [Nat.pow_succ] at h;omega)
   simp only [List.length_cons,List.length_nil]
   omega
end Go.Proofs.YtmfhdcpajgjgpaaGreatDoor.Num
namespace Go.Proofs.YtmfhdcpajgjgpaaGreatDoor.Shape
open Go.Proofs.YtmfhdcpajgjgpaaGreatDoor.Num
def sS (n:Int):ByteArray:=⟨(shL n).toArray⟩
theorem digits_at (k:Nat) (h:k<10):(ByteArray.mk #[48,49,50,51,52,53,54,55,56,57]).extract k (k+1) =⟨#[dig k]⟩:=by
 have:k=0∨k=1∨k=2∨k=3∨k=4∨k=5∨k=6∨k=7∨k=8∨k=9:=by omega
 rcases this with rfl | rfl | rfl | rfl | rfl | rfl | rfl | rfl | rfl | rfl <;> rfl
theorem dig_mod (m:Nat):dig (m % 10)=dig m:=by
 unfold dig
 rw [Nat.mod_mod]
theorem sS_small {n:Int}(h0:0<=n) (h:n<10):sS n =⟨#[dig n.natAbs]⟩:=by
 rw [sS,shL_pos (by omega),dg_last (by omega)]
theorem ext_small {n:Int}(h0:0<=n) (h:n<10):(ByteArray.mk #[48,49,50,51,52,53,54,55,56,57]).extract n.toNat (n+1).toNat=sS n:=by
 rw [sS_small h0 h,show (n+1).toNat=n.toNat+1 by omega,show n.natAbs=n.toNat by omega]
 exact digits_at _ (by omega)
theorem shL_step {n q r:Int}(h:n<=-10∨10<=n) (hq:q.natAbs=n.natAbs / 10) (hs:q<0 ↔ n<0) (hr:r.natAbs=n.natAbs % 10) (hr0:0<=r):shL n=shL q++shL r:=by
 have e:shL r=[dig n.natAbs]:=by rw [shL_pos (by omega),dg_last (by omega),hr,dig_mod]
 rw [e]
 rcases h with h | h
 ·rw [shL_neg (by omega),shL_neg (by omega),hq,dg_more (by omega)];rfl
 ·rw [shL_pos (by omega),shL_pos (by omega),hq,dg_more (by omega)]
theorem sS_size (n:Int) (h1:-9223372036854775808<=n) (h2:n<=9223372036854775807):(sS n).size<=20:=by
 have h:=dg_len 18 n.natAbs (by omega)
 show (shL n).toArray.size<=20
 unfold shL
 split <;> simp <;> omega
def jn:List Int->List UInt8
 | []=>[]
 | x::r=>shL x++jt r
where jt:List Int->List UInt8
 | []=>[]
 | x::r=>32::(shL x++jt r)
def jS (xs:List Int):ByteArray:=⟨(jn xs).toArray⟩
theorem jt_snoc (r:List Int) (x:Int):jn.jt (r++[x])=jn.jt r++32::shL x:=by
 induction r with
 | nil=>simp [jn.jt]
 | cons y r ih=>rw [List.cons_append,jn.jt,jn.jt,ih];simp
theorem jn_snoc (xs:List Int) (x:Int) (h:xs≠[]):jn (xs++[x])=jn xs++32::shL x:=by
 cases xs with
 | nil=>exact absurd rfl h
 | cons y r=>rw [List.cons_append,jn,jn,jt_snoc];simp
theorem jn_one (x:Int):jn [x]=shL x:=by simp [jn,jn.jt]
theorem jS_size (xs:List Int) (h:∀ x∈xs,-9223372036854775808<=x/\x<=9223372036854775807):(jS xs).size<=21*xs.length:=by
 have key:∀ r:List Int,(∀ x∈r,-9223372036854775808<=x/\x<=9223372036854775807)->(jn.jt r).length<=21*r.length:=by
  intro r
  induction r with
  | nil=>intro _;simp [jn.jt]
  | cons y r ih =>
   intro hr
   have h1:=ih (fun x hx=>hr x (by simp [hx]))
   have h2:=sS_size y (hr y (by simp)).1 (hr y (by simp)).2
   have h3:(sS y).size =(shL y).length:=by simp [sS,ByteArray.size]
   simp only [jn.jt,List.length_cons,List.length_append]
   omega
 show (jn xs).toArray.size<=_
 cases xs with
 | nil=>simp [jn]
 | cons y r =>
  have h1:=key r (fun x hx=>h x (by simp [hx]))
  have h2:=sS_size y (h y (by simp)).1 (h y (by simp)).2
  have h3:(sS y).size =(shL y).length:=by simp [sS,ByteArray.size]
  simp only [jn,List.size_toArray,List.length_append,List.length_cons]
  omega
end Go.Proofs.YtmfhdcpajgjgpaaGreatDoor.Shape
namespace Go.Proofs.YtmfhdcpajgjgpaaGreatDoor.Shape
open Go.RowKit Go.Proofs.YtmfhdcpajgjgpaaGreatDoor.Num
set_option linter.unusedVariables false
def hd (m:Nat):UInt8:=UInt8.ofNat (if m % 16<10 then 48+m % 16 else 87+m % 16)
def hx (m:Nat):List UInt8:=if m<16 then [hd m] else hx (m / 16)++[hd m]
termination_by m
theorem xT {m:Nat}(h:m<16):hx m=[hd m]:=by rw [hx,if_pos h]
theorem wl {m:Nat}(h:¬ m<16):hx m=hx (m / 16)++[hd m]:=by rw [hx,if_neg h]
theorem hd_mod (m:Nat):hd (m % 16)=hd m:=by unfold hd;rw [Nat.mod_mod]
theorem hx_len (k:Nat):∀ m,m<16 ^ (k+1)->(hx m).length<=k+1:=by
 induction k with
 | zero=>intro m h;rw [xT (by simpa using h)];simp
 | succ k ih =>
  intro m h
  by_cases h16:m<16
  ·rw [xT h16];simp
  ·rw [wl h16,List.length_append]
   have:=ih (m / 16) (by rw [Nat.div_lt_iff_lt_mul (by decide)];rwa [Nat.pow_succ] at h)
   simp;omega
def enc (c:Int):List UInt8:=(Utf8.encode c).data.toList
def chS (c q:Int):List UInt8 :=
 if c=10 then [92,110] else if c=9 then [92,116] else if c=13 then [92,114] else if c=92∨c=q then 92::enc c else if c<32∨c=127 then [92,117,123]++hx c.toNat++[125] else enc c
def quoS (l:List Int):List UInt8:=34::((l.map fun c=>chS c 34).flatten++[34])
def qK:List (List UInt8)->List UInt8
 | []=>[]
 | x::r=>x++(r.map fun y=>32::y).flatten
def fillT (k:Int):List UInt8:=if k=1 then [48] else if k=2 then [39,32,39] else [98,111,120,32,48,32,114,101,115,104,97,112,101,32,48]
def reS:List UInt8:=[32,114,101,115,104,97,112,101,32]
def vecS (k:Int) (nu:List Int) (els:List (List UInt8)):List UInt8 :=
 if k=2 then quoS nu else qK (if k=3 then els.map fun t=>40::(t++[41]) else els)
def litT (k:Int) (sh nu:List Int) (els:List (List UInt8)):List UInt8 :=
 if sh.length=0 then els.headD [] else
 if sh.length=1/\(k=2∨2<=els.length) then vecS k nu els else
 jn sh++reS++(if els.length=0 then fillT k else if els.length=1 then els.headD [] else vecS k nu els)
mutual
def litS:Arr->List UInt8
 | .mk k sh nu it=>litT k sh nu (if k=3 then kx it else nu.map fun x=>if k=2 then 39::(chS x 39++[39]) else shL x)
def kx:List Arr->List (List UInt8)
 | []=>[]
 | A::r=>(98::111::120::32::litS A)::kx r
end
theorem yx:∀ (l:List Arr),(kx l).length=l.length
 | []=>by rw [kx];rfl
 | A::r=>by rw [kx,List.length_cons,yx r,List.length_cons]
theorem enc_len (c:Int):(enc c).length<=4:=by
 have:=encode_size_le c
 exact this
theorem vT (c q:Int) (h:c<=1114111):(chS c q).length<=12:=by
 have h1:=enc_len c
 have h2:=hx_len 5 c.toNat (by omega)
 have e1:([92,117,123]++hx c.toNat++[125]:List UInt8).length=4+(hx c.toNat).length:=by simp;omega
 have e2:(92::enc c).length =(enc c).length+1:=rfl
 unfold chS
 split
 ·exact Nat.le_of_ble_eq_true rfl
 split
 ·exact Nat.le_of_ble_eq_true rfl
 split
 ·exact Nat.le_of_ble_eq_true rfl
 split
 ·omega
 split
 ·omega
 ·omega
end Go.Proofs.YtmfhdcpajgjgpaaGreatDoor.Shape
namespace Go.Proofs.YtmfhdcpajgjgpaaGreatDoor.Shape
def pr:List Int->Int
 | []=>1
 | x::r=>x*pr r
def nz:List Int->Int
 | []=>1
 | x::r=>(if x=0 then 1 else x)*nz r
def NN (xs:List Int):Prop:=∀ x∈xs,0<=x
instance (xs:List Int):Decidable (NN xs):=inferInstanceAs (Decidable (∀ x∈xs,0<=x))
def kV (xs:List Int):Bool:=decide (xs.length<=8/\NN xs/\nz xs<=65536)
theorem right_def {xs:List Int}:kV xs=true ↔ xs.length<=8/\NN xs/\nz xs<=65536:=by simp [kV]
theorem pr_append (a b:List Int):pr (a++b)=pr a*pr b:=by
 induction a with
 | nil=>simp [pr]
 | cons x r ih=>rw [List.cons_append,pr,pr,ih,Int.mul_assoc]
theorem yt (a b:List Int):nz (a++b)=nz a*nz b:=by
 induction a with
 | nil=>simp [nz]
 | cons x r ih=>rw [List.cons_append,nz,nz,ih,Int.mul_assoc]
theorem NN.nil:NN []:=fun _ h=>absurd h (by simp)
theorem NN.left {a b:List Int}(h:NN (a++b)):NN a:=fun x hx=>h x (List.mem_append_left _ hx)
theorem NN.right {a b:List Int}(h:NN (a++b)):NN b:=fun x hx=>h x (List.mem_append_right _ hx)
theorem NN.head {x:Int}{r:List Int}(h:NN (x::r)):0<=x:=h x (by simp)
theorem NN.tail {x:Int}{r:List Int}(h:NN (x::r)):NN r:=fun y hy=>h y (by simp [hy])
theorem NN.snoc {a:List Int}{x:Int}(h:NN a) (hx:0<=x):NN (a++[x]):=by
 intro y hy
 rcases List.mem_append.1 hy with h1 | h1
 ·exact h y h1
 ·rw [List.mem_singleton.1 h1];exact hx
theorem vA {xs:List Int}(h:NN xs):1<=nz xs:=by
 induction xs with
 | nil=>exact Int.le_refl _
 | cons x r ih =>
  have h1:=ih h.tail
  have h2:=h.head
  rw [nz]
  split
  ·omega
  ·have:1*1<=x*nz r:=Int.mul_le_mul (by omega) h1 (by decide) (by omega)
   omega
theorem nz_left {a b:List Int}(h:NN (a++b)):nz a<=nz (a++b):=by
 rw [yt]
 have h1:=vA h.left
 have h2:=vA h.right
 have:nz a*1<=nz a*nz b:=Int.mul_le_mul_of_nonneg_left h2 (by omega)
 omega
theorem nz_right {a b:List Int}(h:NN (a++b)):nz b<=nz (a++b):=by
 rw [yt]
 have h1:=vA h.left
 have h2:=vA h.right
 have:1*nz b<=nz a*nz b:=Int.mul_le_mul_of_nonneg_right h1 (by omega)
 omega
theorem pr_nn {xs:List Int}(h:NN xs):0<=pr xs:=by
 induction xs with
 | nil=>decide
 | cons x r ih=>exact Int.mul_nonneg h.head (ih h.tail)
theorem pr_eq_nz {xs:List Int}(h:∀ x∈xs,x≠0):pr xs=nz xs:=by
 induction xs with
 | nil=>rfl
 | cons x r ih=>rw [pr,nz,if_neg (h x (by simp)),ih (fun y hy=>h y (by simp [hy]))]
/-! ### Reading a list place by place -/
theorem split_at (xs:List Int) (k:Nat) (h:k<xs.length):xs=xs.take k++xs[k]::xs.drop (k+1):=by
 rw [List.getElem_cons_drop,List.take_append_drop]
theorem kG (xs:List Int) (k:Nat) (h:k<xs.length):xs.take (k+1)=xs.take k++[xs[k]]:=by
 rw [List.take_succ_eq_append_getElem h]
/-! ### Validity,place by place -/
theorem right_len {xs:List Int}(h:8<xs.length):kV xs=false:=by
 simp only [kV,decide_eq_false_iff_not];omega
theorem right_neg {xs:List Int}{k:Nat}(hk:k<xs.length) (h:xs[k]<0):kV xs=false:=by
 simp only [kV,decide_eq_false_iff_not]
 rintro ⟨_,h2,_⟩
 have:=h2 xs[k] (List.getElem_mem hk)
 omega
theorem right_big {xs:List Int}{k:Nat}(h:65536<nz (xs.take (k+1))):kV xs=false:=by
 simp only [kV,decide_eq_false_iff_not]
 rintro ⟨_,h2,h3⟩
 have e:xs.take (k+1)++xs.drop (k+1)=xs:=List.take_append_drop _ _
 have:=nz_left (a:=xs.take (k+1)) (b:=xs.drop (k+1)) (by rw [e];exact h2)
 rw [e] at this
 omega
theorem nz_step {xs:List Int}{k:Nat}(hk:k<xs.length):nz (xs.take (k+1))=nz (xs.take k)*(if xs[k]=0 then 1 else xs[k]):=by
 rw [kG xs k hk,yt,nz,nz,Int.mul_one]
theorem right_all {xs:List Int}(hl:xs.length<=8) (h:NN xs) (h2:nz xs<=65536):kV xs=true:=right_def.2 ⟨hl,h,h2⟩
end Go.Proofs.YtmfhdcpajgjgpaaGreatDoor.Shape
namespace Go.Proofs.YtmfhdcpajgjgpaaGreatDoor.Shape
open Go.RowKit
theorem zH {a b:Int}(h:a=b):Ending.returned (.int .i64 a)=.returned (.int .i64 b):=by rw [h]
theorem below_new (w:World) (o:Obj):Below w.heap.size w (w.alloc o):=(Below.refl _ _).alloc (Nat.le_refl _) _
theorem Below.then {a b c:World}(h:Below a.heap.size a b) (k:Below b.heap.size b c):Below a.heap.size a c:=h.trans (k.mono h.size)
def zV (A:Arr):Nat:=if A.kind=1∨A.kind=2 then A.nums.length else if A.kind=3 then A.items.length else 0
theorem aSize_le {k:Int}{sh nu:List Int}{it:List Arr}{N:Nat}(h1:nu.length<=N) (h2:it.length<=N):zV (.mk k sh nu it)<=N:=by
 unfold zV
 split
 ·exact h1
 ·split
  ·exact h2
  ·omega
theorem xh (v:Value) (A:Arr) (w:World) (h:ArrAt w v A) :
  Calls Tryz.prog 139 #[v] w fun e w'=>e=.returned (.int .i64 (zV A))/\Below w.heap.size w w':=by
 obtain ⟨k,sh,nu,it⟩:=A
 rw [ArrAt] at h
 obtain ⟨sa,sc,na,nc,ia,ic,rfl,hk,hs,hn,h1,h2,b,off,ha,hc⟩:=h
 clear hk hs hn h1 h2 ha hc
 by_cases k1:k=1
 ·subst k1
  go_enter Tryz.func139,Tryz.ntmps139
  go_wp2
  go_ret
  exact ⟨rfl,below_new _ _⟩
 ·by_cases k2:k=2
  ·subst k2
   go_enter Tryz.func139,Tryz.ntmps139
   go_wp2
   go_ret
   exact ⟨rfl,below_new _ _⟩
  ·by_cases k3:k=3
   ·subst k3
    go_enter Tryz.func139,Tryz.ntmps139
    go_wp2
    go_ret
    exact ⟨rfl,below_new _ _⟩
   ·have e1:(k==1)=false:=by simpa using k1
    have e2:(k==2)=false:=by simpa using k2
    have e3:(k==3)=false:=by simpa using k3
    have es:zV (.mk k sh nu it)=0:=by simp [zV,Arr.kind,k1,k2,k3]
    clear k1 k2 k3
    go_enter Tryz.func139,Tryz.ntmps139
    go_wp2
    go_ret
    exact ⟨by first | rfl |(rw [es];rfl),below_new _ _⟩
mutual
def wt:Arr->Int
 | .mk k sh nu it=>min ((zV (.mk k sh nu it):Int)+(if k=3 then sumW it else 0)) 262145
def sumW:List Arr->Int
 | []=>0
 | A::r=>wt A+sumW r
end
mutual
theorem wt_nn:∀ A,0<=wt A
 | .mk k sh nu it=>by
  have:=xa it
  rw [wt];split <;> omega
theorem xa:∀ l,0<=sumW l
 | []=>by rw [sumW];omega
 | A::r=>by
  have:=wt_nn A
  have:=xa r
  rw [sumW];omega
end
theorem wt_le (A:Arr):wt A<=262145:=by
 obtain ⟨k,sh,nu,it⟩:=A
 rw [wt];omega
theorem wK (a b:List Arr):sumW (a++b)=sumW a+sumW b:=by
 induction a with
 | nil=>simp [sumW]
 | cons A r ih=>rw [List.cons_append,sumW,sumW,ih];omega
theorem sumW_step {l:List Arr}{k:Nat}(h:k<l.length):sumW (l.take (k+1))=sumW (l.take k)+wt l[k]:=by
 rw [List.take_succ_eq_append_getElem h,wK,sumW,sumW];omega
theorem sumW_take (l:List Arr) (k:Nat):sumW (l.take k)<=sumW l:=by
 have h:sumW (l.take k++l.drop k)=sumW l:=by rw [List.take_append_drop]
 rw [wK] at h
 have:=xa (l.drop k)
 omega
def Par (w:World) (B:Nat) (c0 c1 c2 c3:Value):Prop:=B<w.heap.size/\w.cell? ⟨B,0,none⟩=some c0/\w.cell? ⟨B,1,none⟩=some c1/\w.cell? ⟨B,2,none⟩=some c2/\w.cell? ⟨B,3,none⟩=some c3
theorem Par.below {w w':World}{B:Nat}{c0 c1 c2 c3:Value}(h:Par w B c0 c1 c2 c3) (hb:Below w.heap.size w w'):Par w' B c0 c1 c2 c3:=by
 obtain ⟨h0,h1,h2,h3,h4⟩:=h
 exact ⟨Nat.lt_of_lt_of_le h0 hb.size,(hb.cell h0).trans h1,(hb.cell h0).trans h2,(hb.cell h0).trans h3,(hb.cell h0).trans h4⟩
theorem Par.new (w:World) (c0 c1 c2 c3:Value) (t:TypeId):Par (w.alloc (.cells #[c0,c1,c2,c3] t)) w.heap.size c0 c1 c2 c3:=by
 refine ⟨by simp,?_,?_,?_,?_⟩ <;> rw [World.cell?_alloc_new] <;> rfl
theorem elemArrs:Tryz.prog.underlying 35=some (.slice (Tryz.prog.elem 35)):=by kernel_rfl
theorem sizeArrs (w:World):(sizeOf (Tryz.prog.elem 35)).run Tryz.prog w=.ok 4 w:=by kernel_rfl
theorem qO {ia:Option Addr}{n ic b off:Nat}{l:List Arr}(hn:n=l.length) (ha:l≠[]->ia=some ⟨b,off,none⟩) {k:Nat}(hk:k<l.length) (w':World) :
  (Instr.indexAt 35 (.slice ia n ic) (.int .i64 k)).run Tryz.prog w'=.ok (.pointer (some ⟨b,off+k*4,none⟩)) w':=by
 subst hn
 have e:=ha (by intro e;subst e;simp at hk)
 subst e
 rw [run_indexAt_slice w' _ _ _ _ .i64 k elemArrs,if_pos (by omega),sizeArrs]
 show Result.ok _ w'=_
 rw [show (k:Int).toNat=k by omega,add_plain]
theorem min_low {x:Int}(h:x<=262145):min x 262145=x:=by omega
theorem yR {x:Int}(h:262145<=x):min x 262145=262145:=by omega
theorem weightR_any (n:Nat):∀ (v:Value) (A:Arr) (w:World),rk A<=n->ArrAt w v A->Calls Tryz.prog 143 #[v] w fun e w'=>e=.returned (.int .i64 (wt A))/\Below w.heap.size w w':=by
 induction n with
 | zero =>
  intro v A w hn _
  obtain ⟨k,sh,nu,it⟩:=A
  rw [rk] at hn;omega
 | succ n ih =>
  intro v A w hn h
  have hA:=h
  obtain ⟨k,sh,nu,it⟩:=A
  rw [ArrAt] at h
  obtain ⟨sa,sc,na,nc,ia,ic,rfl,hk,hs,hnn,h1,h2,b,off,ha,hc⟩:=h
  have hnl:=hnn.len
  by_cases k3:k=3
  ·subst k3
   have HW:Hid (wt (.mk 3 sh nu it)=min ((it.length:Int)+sumW it) 262145):=by unfold Hid;rw [wt];rfl
   clear hs hnn hk
   go_enter Tryz.func143,Tryz.ntmps143
   go_wp2_with (go_at_call 139;refine (xh _ _ _ (hA.below (below_new _ _))).mono ?_;rintro e w1 ⟨rfl,hb1⟩)
   go_loopw [3,4] (fun m i wr=>∃ (j:Nat),j<=it.length/\i=.int .i64 j/\m=.int .i64 ((it.length:Int)+sumW (it.take j))/\Par wr w.heap.size (.int .i64 3) (.slice sa sh.length sc) (.slice na nu.length nc) (.slice ia it.length ic)/\Below w.heap.size w wr) (fun _ i _=>it.length - (intOf i).toNat)
   case atStart=>exact ⟨0,Nat.zero_le _,rfl,by rw [List.take_zero,sumW,Int.add_zero];rfl,(Par.new w _ _ _ _ _).below hb1,Below.then (below_new _ _) hb1⟩
   case round =>
    obtain ⟨j,hj,rfl,rfl,hp,hb⟩:=hrel
    obtain ⟨p0,p1,p2,p3,p4⟩:=id hp
    have s0:=xa (it.take j)
    by_cases hlt:j<it.length
    ·by_cases c4:(it.length:Int)+sumW (it.take j)<=262144
     ·have hi:=qO (ic:=ic) rfl ha hlt
      obtain ⟨c0,c1,c2,c3,⟨g0,g1,g2,g3⟩,hB⟩:=(ArrsAt.below hb hc).at hlt
      have HS:Hid (sumW (it.take (j+1))=sumW (it.take j)+wt it[j]):=sumW_step hlt
      have l1:=wt_nn it[j]
      have l2:=wt_le it[j]
      go_wp2_with (go_at_call 143;refine (ih _ _ _ (Nat.le_of_lt_succ (Nat.lt_of_lt_of_le (xd hlt) hn)) hB).mono ?_;rintro e w2 ⟨rfl,hb2⟩)
      go_roundw
      case rel=>exact ⟨j+1,by omega,by go_num,by rw [HS.out,Int.add_assoc],hp.below hb2,hb.trans (hb2.mono hb.size)⟩
      case measure=>simp [intOf];omega
     ·have HE:Hid (wt (.mk 3 sh nu it)=262145):=by unfold Hid;rw [HW.out];have:=sumW_take it j;exact yR (by omega)
      clear HW
      go_wp2_with fail
      all_goals go_ret
      all_goals exact ⟨zH (by have:=HE.out;omega),hb⟩
    ·obtain rfl:j=it.length:=by omega
     clear s0
     have s0:=xa it
     have HE:=HW
     clear HW
     by_cases c5:(it.length:Int)+sumW it<=262145
     ·have HF:Hid (wt (.mk 3 sh nu it) =(it.length:Int)+sumW it):=by unfold Hid;rw [HE.out];exact min_low c5
      clear HE
      go_wp2_with fail
      go_ret
      exact ⟨zH HF.out.symm,hb⟩
     ·have HF:Hid (wt (.mk 3 sh nu it)=262145):=by unfold Hid;rw [HE.out];exact yR (by omega)
      clear HE
      go_wp2_with fail
      go_ret
      exact ⟨zH HF.out.symm,hb⟩
  ·have e3:(k==3)=false:=by simpa using k3
   have HW:Hid (wt (.mk k sh nu it)=min (zV (.mk k sh nu it):Int) 262145):=by unfold Hid;rw [wt,if_neg k3,Int.add_zero]
   obtain ⟨z,hzz,hz1⟩:∃ z:Nat,zV (.mk k sh nu it)=z/\z<=9223372036854775807:=by
    exact ⟨_,rfl,aSize_le hnl (by omega)⟩
   have S:=fun w' (g:ArrAt w' (.agg #[.int .i64 k,.slice sa sh.length sc,.slice na nu.length nc,.slice ia it.length ic]) (.mk k sh nu it))=>xh _ _ w' g
   rw [hzz] at S HW
   clear hs hnn k3 hzz
   by_cases hpos:0<it.length
   ·by_cases c5:(z:Int)<=262145
    ·have HF:Hid (wt (.mk k sh nu it) =(z:Int)):=by unfold Hid;rw [HW.out];exact min_low c5
     clear HW
     go_enter Tryz.func143,Tryz.ntmps143
     go_wp2_with (go_at_call 139;refine (S _ (hA.below (below_new _ _))).mono ?_;rintro e w1 ⟨rfl,hb1⟩)
     obtain ⟨p0,p1,p2,p3,p4⟩:=(Par.new w (.int .i64 k) (.slice sa sh.length sc) (.slice na nu.length nc) (.slice ia it.length ic) _).below hb1
     refine wp_loop_rounds 1 ?_
     rw [rounds_succ]
     go_wp2_with fail
     go_ret
     exact ⟨zH HF.out.symm,Below.then (below_new _ _) hb1⟩
    ·have HF:Hid (wt (.mk k sh nu it)=262145):=by unfold Hid;rw [HW.out];exact yR (by omega)
     clear HW
     go_enter Tryz.func143,Tryz.ntmps143
     go_wp2_with (go_at_call 139;refine (S _ (hA.below (below_new _ _))).mono ?_;rintro e w1 ⟨rfl,hb1⟩)
     obtain ⟨p0,p1,p2,p3,p4⟩:=(Par.new w (.int .i64 k) (.slice sa sh.length sc) (.slice na nu.length nc) (.slice ia it.length ic) _).below hb1
     refine wp_loop_rounds 1 ?_
     rw [rounds_succ]
     go_wp2_with fail
     go_ret
     exact ⟨zH HF.out.symm,Below.then (below_new _ _) hb1⟩
   ·by_cases c5:(z:Int)<=262145
    ·have HF:Hid (wt (.mk k sh nu it) =(z:Int)):=by unfold Hid;rw [HW.out];exact min_low c5
     clear HW
     go_enter Tryz.func143,Tryz.ntmps143
     go_wp2_with (go_at_call 139;refine (S _ (hA.below (below_new _ _))).mono ?_;rintro e w1 ⟨rfl,hb1⟩)
     obtain ⟨p0,p1,p2,p3,p4⟩:=(Par.new w (.int .i64 k) (.slice sa sh.length sc) (.slice na nu.length nc) (.slice ia it.length ic) _).below hb1
     refine wp_loop_rounds 1 ?_
     rw [rounds_succ]
     go_wp2_with fail
     go_ret
     exact ⟨zH HF.out.symm,Below.then (below_new _ _) hb1⟩
    ·have HF:Hid (wt (.mk k sh nu it)=262145):=by unfold Hid;rw [HW.out];exact yR (by omega)
     clear HW
     go_enter Tryz.func143,Tryz.ntmps143
     go_wp2_with (go_at_call 139;refine (S _ (hA.below (below_new _ _))).mono ?_;rintro e w1 ⟨rfl,hb1⟩)
     obtain ⟨p0,p1,p2,p3,p4⟩:=(Par.new w (.int .i64 k) (.slice sa sh.length sc) (.slice na nu.length nc) (.slice ia it.length ic) _).below hb1
     refine wp_loop_rounds 1 ?_
     rw [rounds_succ]
     go_wp2_with fail
     go_ret
     exact ⟨zH HF.out.symm,Below.then (below_new _ _) hb1⟩
theorem vH (v:Value) (A:Arr) (w:World) (h:ArrAt w v A):Calls Tryz.prog 143 #[v] w fun e w'=>e=.returned (.int .i64 (wt A))/\Below w.heap.size w w' :=
 weightR_any (rk A) v A w (Nat.le_refl _) h
theorem ret_bool {a b:Bool}(h:a=b):Ending.returned (.bool a)=.returned (.bool b):=by rw [h]
def yP (xs:List Int):Int:=if nz xs<=65536 then nz xs else 65537
theorem v6 {xs:List Int}(h:nz xs<=65536):yP xs=nz xs:=by rw [yP,if_pos h]
theorem yp {xs:List Int}(h:65536<nz xs):yP xs=65537:=by rw [yP,if_neg (by omega)]
theorem nz_huge {xs:List Int}{k:Nat}(hn:NN xs) (hk:k<xs.length) (h:65536<xs[k]):65536<nz xs:=by
 have e:=split_at xs k hk
 rw [e] at hn
 have h4:=nz_right hn
 have h5:=vA hn.right.tail
 rw [nz,if_neg (by omega)] at h4
 have:xs[k]*1<=xs[k]*nz (xs.drop (k+1)):=Int.mul_le_mul_of_nonneg_left h5 (by omega)
 rw [<- e] at h4
 omega
theorem nz_over {xs:List Int}{k:Nat}(hn:NN xs) (h:65536<nz (xs.take (k+1))):65536<nz xs:=by
 have e:xs.take (k+1)++xs.drop (k+1)=xs:=List.take_append_drop _ _
 have:=nz_left (a:=xs.take (k+1)) (b:=xs.drop (k+1)) (by rw [e];exact hn)
 rw [e] at this
 omega
theorem NN.take {xs:List Int}(h:NN xs) (k:Nat):NN (xs.take k):=fun x hx=>h x (List.mem_of_mem_take hx)
theorem prodR (a:Option Addr) (cap:Nat) (xs:List Int) (w:World) (h:IntsAt w a cap xs) (hn:NN xs) :
  Calls Tryz.prog 156 #[.slice a xs.length cap] w fun e w'=>e=.returned (.int .i64 (yP xs))/\w=w':=by
 have hl:=h.len
 go_enter Tryz.func156,Tryz.ntmps156
 go_wp2
 go_loop [3,4] (fun p i=>∃ k:Nat,k<=xs.length/\i=.int .i64 k/\p=.int .i64 (nz (xs.take k))/\nz (xs.take k)<=65536) (fun _ i=>xs.length - (intOf i).toNat)
 case atStart=>exact ⟨0,Nat.zero_le _,rfl,rfl,by show (1:Int)<=65536;decide⟩
 case round =>
  obtain ⟨k,hk,rfl,rfl,hp⟩:=hrel
  have hp1:=vA (hn.take k)
  by_cases hlt:k<xs.length
  ·obtain ⟨b,off,hi,hc⟩:=h.at hlt
   have hx:0<=xs[k]:=hn _ (List.getElem_mem hlt)
   by_cases c2:65536<xs[k]
   ·have HE:Hid (yP xs=65537):=yp (nz_huge hn hlt c2)
    go_wp2
    go_ret
    exact ⟨zH HE.out.symm,rfl⟩
   ·by_cases c3:xs[k]=0
    ·have hs:=nz_step hlt
     rw [if_pos c3,Int.mul_one] at hs
     have c3':¬ 0<xs[k]:=by omega
     have hp2:nz (xs.take (k+1))<=65536:=by omega
     have HS:Hid (nz (xs.take (k+1))=nz (xs.take k)):=hs
     clear hs c3
     go_wp2
     go_round
     case rel=>exact ⟨k+1,by omega,by go_num,by rw [HS.out],hp2⟩
     case measure=>simp [intOf];omega
    ·have hs:=nz_step hlt
     rw [if_neg c3] at hs
     have c3':0<xs[k]:=by omega
     have hm:0<=nz (xs.take k)*xs[k]/\nz (xs.take k)*xs[k]<=65536*65536 :=
      ⟨Int.mul_nonneg (by omega) (by omega),Int.mul_le_mul hp (by omega) (by omega) (by decide)⟩
     obtain ⟨m1,m2⟩:=hm
     have HS:Hid (nz (xs.take (k+1))=nz (xs.take k)*xs[k]):=hs
     by_cases c4:65536<nz (xs.take k)*xs[k]
     ·have HE:Hid (yP xs=65537):=yp (nz_over (k:=k) hn (by rw [hs];exact c4))
      clear hs c3
      go_wp2
      go_ret
      exact ⟨zH HE.out.symm,rfl⟩
     ·have hp2:nz (xs.take (k+1))<=65536:=by rw [hs];omega
      clear hs c3
      go_wp2
      go_round
      case rel=>exact ⟨k+1,by omega,by go_num,by rw [HS.out],hp2⟩
      case measure=>simp [intOf];omega
  ·obtain rfl:k=xs.length:=by omega
   rw [List.take_length] at hp
   have HE:Hid (yP xs=nz xs):=v6 hp
   go_wp2
   go_ret
   exact ⟨zH HE.out.symm,rfl⟩
def zP (xs:List Int):Int:=if 8<xs.length then 15 else if NN xs then (if nz xs<=65536 then 0 else 21) else 16
theorem vv {xs:List Int}(h:8<xs.length):zP xs=15:=by rw [zP,if_pos h]
theorem dimsE_neg {xs:List Int}(h:¬ 8<xs.length) (hn:¬ NN xs):zP xs=16:=by rw [zP,if_neg h,if_neg hn]
theorem dimsE_big {xs:List Int}(h:¬ 8<xs.length) (hn:NN xs) (h2:¬ nz xs<=65536):zP xs=21:=by rw [zP,if_neg h,if_pos hn,if_neg h2]
theorem dimsE_ok {xs:List Int}(h:¬ 8<xs.length) (hn:NN xs) (h2:nz xs<=65536):zP xs=0:=by rw [zP,if_neg h,if_pos hn,if_pos h2]
theorem qG (xs:List Int):zP xs=0 ↔ kV xs=true:=by
 rw [right_def,zP]
 by_cases h:8<xs.length
 ·rw [if_pos h];constructor <;> intro g <;> omega
 ·rw [if_neg h]
  by_cases hn:NN xs
  ·rw [if_pos hn]
   by_cases h2:nz xs<=65536
   ·rw [if_pos h2];exact ⟨fun _=>⟨by omega,hn,h2⟩,fun _=>rfl⟩
   ·rw [if_neg h2];exact ⟨fun g=>by omega,fun g=>absurd g.2.2 h2⟩
  ·rw [if_neg hn];exact ⟨fun g=>by omega,fun g=>absurd g.2.1 hn⟩
theorem yX (a:Option Addr) (cap:Nat) (xs:List Int) (w:World) (h:IntsAt w a cap xs) :
  Calls Tryz.prog 138 #[.slice a xs.length cap] w fun e w'=>e=.returned (.int .i64 (zP xs))/\w=w':=by
 have hl:=h.len
 by_cases h8:8<xs.length
 ·have HE:Hid (zP xs=15):=vv h8
  go_enter Tryz.func138,Tryz.ntmps138
  go_wp2
  go_ret
  exact ⟨zH HE.out.symm,rfl⟩
 ·go_enter Tryz.func138,Tryz.ntmps138
  go_wp2
  go_loop [3] (fun i=>∃ k:Nat,k<=xs.length/\i=.int .i64 k/\NN (xs.take k)) (fun i=>xs.length - (intOf i).toNat)
  case atStart=>exact ⟨0,Nat.zero_le _,rfl,NN.nil⟩
  case round =>
   obtain ⟨k,hk,rfl,hn⟩:=hrel
   by_cases hlt:k<xs.length
   ·obtain ⟨b,off,hi,hc⟩:=h.at hlt
    by_cases c1:xs[k]<0
    ·have HE:Hid (zP xs=16):=dimsE_neg h8 (fun g=>by have:=g _ (List.getElem_mem hlt);omega)
     go_wp2
     go_ret
     exact ⟨zH HE.out.symm,rfl⟩
    ·have hn2:NN (xs.take (k+1)):=by rw [kG xs k hlt];exact hn.snoc (by omega)
     go_wp2
     go_round
     case rel=>exact ⟨k+1,by omega,by go_num,hn2⟩
     case measure=>simp [intOf];omega
   ·obtain rfl:k=xs.length:=by omega
    rw [List.take_length] at hn
    by_cases c2:nz xs<=65536
    ·have HE:Hid (zP xs=0):=dimsE_ok h8 hn c2
     have hp:=v6 c2
     go_wp2_with (go_at_call 156;refine (prodR _ _ _ _ h hn).mono ?_;rintro e w' ⟨rfl,rfl⟩)
     go_ret
     exact ⟨zH HE.out.symm,rfl⟩
    ·have HE:Hid (zP xs=21):=dimsE_big h8 hn c2
     have hp:=yp (xs:=xs) (by omega)
     go_wp2_with (go_at_call 156;refine (prodR _ _ _ _ h hn).mono ?_;rintro e w' ⟨rfl,rfl⟩)
     go_ret
     exact ⟨zH HE.out.symm,rfl⟩
theorem pr_zero {xs:List Int}{k:Nat}(hk:k<xs.length) (h:xs[k]=0):pr xs=0:=by
 rw [split_at xs k hk,pr_append,pr,h];simp
theorem countR (a:Option Addr) (cap:Nat) (xs:List Int) (w:World) (h:IntsAt w a cap xs) (hr:kV xs=true) :
  Calls Tryz.prog 140 #[.slice a xs.length cap] w fun e w'=>e=.returned (.int .i64 (pr xs))/\w=w':=by
 have hl:=h.len
 obtain ⟨r1,r2,r3⟩:=right_def.1 hr
 go_enter Tryz.func140,Tryz.ntmps140
 go_wp2
 go_loop [3] (fun i=>∃ k:Nat,k<=xs.length/\i=.int .i64 k/\∀ x∈xs.take k,x≠0) (fun i=>xs.length - (intOf i).toNat)
 case atStart=>exact ⟨0,Nat.zero_le _,rfl,fun x hx=>absurd hx (by simp)⟩
 case round =>
  obtain ⟨k,hk,rfl,hz⟩:=hrel
  by_cases hlt:k<xs.length
  ·obtain ⟨b,off,hi,hc⟩:=h.at hlt
   by_cases c1:xs[k]=0
   ·have HE:Hid (pr xs=0):=pr_zero hlt c1
    have c1':(xs[k]==0)=true:=by simpa using c1
    clear c1
    go_wp2
    go_ret
    exact ⟨zH HE.out.symm,rfl⟩
   ·have HZ:Hid (∀ x∈xs.take (k+1),x≠0):=by
     unfold Hid;rw [kG xs k hlt];intro x hx
     rcases List.mem_append.1 hx with g | g
     ·exact hz x g
     ·rw [List.mem_singleton.1 g];exact c1
    have c1':(xs[k]==0)=false:=by simpa using c1
    clear c1 hz
    go_wp2
    go_round
    case rel=>exact ⟨k+1,by omega,by go_num,HZ.out⟩
    case measure=>simp [intOf];omega
  ·obtain rfl:k=xs.length:=by omega
   rw [List.take_length] at hz
   have HE:Hid (pr xs=yP xs):=by unfold Hid;rw [v6 r3];exact pr_eq_nz hz
   clear hz
   go_wp2_with (go_at_call 156;refine (prodR _ _ _ _ h r2).mono ?_;rintro e w' ⟨rfl,rfl⟩)
   go_ret
   exact ⟨zH HE.out.symm,rfl⟩
def numB (n:Int):Bool:=decide (-4611686018427387903<=n/\n<=4611686018427387903)
def kO (n:Int):Bool:=decide (0<=n/\n<=1114111/\(n<55296∨57343<n))
theorem numberR (n:Int) (w:World):Calls Tryz.prog 141 #[.int .i64 n] w fun e w'=>e=.returned (.bool (numB n))/\w=w':=by
 rcases Int.lt_or_le n (-4611686018427387903) with h | h
 ·go_enter Tryz.func141,Tryz.ntmps141
  go_wp2
  go_ret
  exact ⟨ret_bool (by simp [numB];omega),rfl⟩
 ·rcases Int.lt_or_le 4611686018427387903 n with h2 | h2
  ·go_enter Tryz.func141,Tryz.ntmps141
   go_wp2
   go_ret
   exact ⟨ret_bool (by simp [numB];omega),rfl⟩
  ·go_enter Tryz.func141,Tryz.ntmps141
   go_wp2
   go_ret
   exact ⟨ret_bool (by simp [numB];omega),rfl⟩
theorem runeR (n:Int) (w:World):Calls Tryz.prog 142 #[.int .i64 n] w fun e w'=>e=.returned (.bool (kO n))/\w=w':=by
 by_cases h0:0<=n
 ·by_cases h1:n<=1114111
  ·by_cases h2:n<55296
   ·go_enter Tryz.func142,Tryz.ntmps142
    go_wp2
    go_ret
    exact ⟨ret_bool (by simp [kO];omega),rfl⟩
   ·by_cases h3:57343<n
    ·go_enter Tryz.func142,Tryz.ntmps142
     go_wp2
     go_ret
     exact ⟨ret_bool (by simp [kO];omega),rfl⟩
    ·go_enter Tryz.func142,Tryz.ntmps142
     go_wp2
     go_ret
     exact ⟨ret_bool (by simp [kO];omega),rfl⟩
  ·go_enter Tryz.func142,Tryz.ntmps142
   go_wp2
   go_ret
   exact ⟨ret_bool (by simp [kO];omega),rfl⟩
 ·go_enter Tryz.func142,Tryz.ntmps142
  go_wp2
  go_ret
  exact ⟨ret_bool (by simp [kO];omega),rfl⟩
end Go.Proofs.YtmfhdcpajgjgpaaGreatDoor.Shape
namespace Go.Proofs.YtmfhdcpajgjgpaaGreatDoor.Shape
def zv (k n:Int):Bool:=!((k==1&&!numB n) ||(k==2&&!kO n))
def other (k:Int) (nu:List Int) (it:List Arr):Nat:=if k=3 then nu.length else it.length
def qN (d w:Int):Int × Int:=if 16<d∨262144<w then (21,0) else (0,d)
mutual
def chk:Arr->Int × Int
 | .mk k sh nu it =>
  if k<1∨3<k then (14,0)
  else if zP sh≠0 then (zP sh,0)
  else if (zV (.mk k sh nu it):Int)≠pr sh∨0<other k nu it then (16,0)
  else if nu.all (zv k)=false then (17,0)
  else match chkL 0 it with
   | none=>(17,0)
   | some d=>qN d (wt (.mk k sh nu it))
def chkL (d:Int):List Arr->Option Int
 | []=>some d
 | A::r=>if (chk A).1≠0 then none else chkL (max d ((chk A).2+1)) r
end
theorem chk_kind {k:Int}{sh nu:List Int}{it:List Arr}(h:k<1∨3<k):chk (.mk k sh nu it) =(14,0):=by rw [chk,if_pos h]
theorem chk_dims {k:Int}{sh nu:List Int}{it:List Arr}(h:¬ (k<1∨3<k)) (hd:zP sh≠0):chk (.mk k sh nu it) =(zP sh,0):=by rw [chk,if_neg h,if_pos hd]
theorem chk_len {k:Int}{sh nu:List Int}{it:List Arr}(h:¬ (k<1∨3<k)) (hd:zP sh=0) (hl:(zV (.mk k sh nu it):Int)≠pr sh∨0<other k nu it):chk (.mk k sh nu it) =(16,0):=by
 rw [chk,if_neg h,if_neg (by simpa using hd),if_pos hl]
theorem chk_elem {k:Int}{sh nu:List Int}{it:List Arr}(h:¬ (k<1∨3<k)) (hd:zP sh=0) (hl:¬ ((zV (.mk k sh nu it):Int)≠pr sh∨0<other k nu it)) (he:nu.all (zv k)=false):chk (.mk k sh nu it) =(17,0):=by
 rw [chk,if_neg h,if_neg (by simpa using hd),if_neg hl,if_pos he]
theorem yb {k:Int}{sh nu:List Int}{it:List Arr}(h:¬ (k<1∨3<k)) (hd:zP sh=0) (hl:¬ ((zV (.mk k sh nu it):Int)≠pr sh∨0<other k nu it)) (he:nu.all (zv k)=true) :
  chk (.mk k sh nu it)=match chkL 0 it with | none=>(17,0) | some d=>qN d (wt (.mk k sh nu it)):=by
 rw [chk,if_neg h,if_neg (by simpa using hd),if_neg hl,if_neg (by rw [he];simp)]
theorem lastE_bd (d w:Int) (h:0<=d):0<=(qN d w).2/\(qN d w).2<=16:=by
 unfold qN;split
 ·exact ⟨Int.le_refl _,by decide⟩
 ·show 0<=d/\d<=16;omega
theorem chkL_nn:∀ (l:List Arr) (d e:Int),0<=d->chkL d l=some e->0<=e
 | [],d,e,h,g=>by simp only [chkL,Option.some.injEq] at g;omega
 | A::r,d,e,h,g=>by
  rw [chkL] at g
  split at g
  ·cases g
  ·exact chkL_nn r _ e (by omega) g
theorem vz (A:Arr):0<=(chk A).2/\(chk A).2<=16:=by
 obtain ⟨k,sh,nu,it⟩:=A
 rw [chk]
 split
 ·exact ⟨Int.le_refl _,by show (0:Int)<=16;decide⟩
 ·split
  ·exact ⟨Int.le_refl _,by show (0:Int)<=16;decide⟩
  ·split
   ·exact ⟨Int.le_refl _,by show (0:Int)<=16;decide⟩
   ·split
    ·exact ⟨Int.le_refl _,by show (0:Int)<=16;decide⟩
    ·split
     ·exact ⟨Int.le_refl _,by show (0:Int)<=16;decide⟩
     ·rename_i d hd;exact lastE_bd _ _ (chkL_nn it 0 d (Int.le_refl _) hd)
theorem chkL_bad {l:List Arr}{j:Nat}{d:Int}(h:j<l.length) (hb:(chk l[j]).1≠0):chkL d (l.drop j)=none:=by
 rw [List.drop_eq_getElem_cons h,chkL,if_pos hb]
theorem vS {l:List Arr}{j:Nat}{d:Int}(h:j<l.length) (hb:(chk l[j]).1=0):chkL d (l.drop j)=chkL (max d ((chk l[j]).2+1)) (l.drop (j+1)):=by
 rw [List.drop_eq_getElem_cons h,chkL,if_neg (by simpa using hb)]
theorem yc {l:List Arr}{j:Nat}{d:Int}(h:¬ j<l.length):chkL d (l.drop j)=some d:=by
 rw [List.drop_eq_nil_of_le (by omega),chkL]
theorem all_bad {k:Int}{nu:List Int}{j:Nat}(h:j<nu.length) (hb:zv k nu[j]=false):nu.all (zv k)=false:=by
 rw [List.all_eq_false];exact ⟨nu[j],List.getElem_mem h,by rw [hb];simp⟩
theorem yg {k:Int}{nu:List Int}{j:Nat}(h:j<nu.length) (ha:(nu.take j).all (zv k)=true) (hb:zv k nu[j]=true):(nu.take (j+1)).all (zv k)=true:=by
 rw [List.take_succ_eq_append_getElem h,List.all_append,ha];simp [hb]
theorem yu {d e:Int}(h:e<=d):max d e=d:=by omega
theorem vo {d e:Int}(h:¬ e<=d):max d e=e:=by omega
end Go.Proofs.YtmfhdcpajgjgpaaGreatDoor.Shape
