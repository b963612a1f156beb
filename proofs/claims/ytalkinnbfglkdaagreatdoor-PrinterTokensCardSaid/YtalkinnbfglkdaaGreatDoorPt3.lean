/-
  Layer 8: the block of the scanner (a text and a place in it), and what each reading method says of the text, as plain data.
  Layer 8: the scanner's methods that read one byte.
  Layer 8: FormatInt in base 16, at the code points that literals write so. (Written by wip/gen/token-fmt.py.)
-/
import Derived.Test.YtalkinnbfglkdaaGreatDoorProg
import Derived.OwnWalk
import Derived.Deep.RegionHeld3
import Derived.Deep.RegionLaw
import Derived.Deep.RegionHeldLaw
import Derived.RegionTactic
import Derived.Handy
import Derived.Below
import Derived.LoopN
set_option maxHeartbeats 2000000
namespace Go.Proofs.YtalkinnbfglkdaaGreatDoor.Tok
open Go.RowKit
set_option linter.unusedVariables false
theorem Below.then {a b c:World}(h:Below a.heap.size a b) (k:Below b.heap.size b c):Below a.heap.size a c:=h.trans (k.mono h.size)
theorem below_new (w:World) (o:Obj):Below w.heap.size w (w.alloc o):=(Below.refl _ _).alloc (Nat.le_refl _) _
def Sc (w:World) (b:Nat) (s:ByteArray) (i:Nat):Prop:=w.heap[b]?=some (.cells #[.string s,.int .i64 (i:Int)] 56 (0,0))
theorem Sc.lt {w:World}{b:Nat}{s:ByteArray}{i:Nat}(h:Sc w b s i):b<w.heap.size:=(Array.getElem?_eq_some_iff.1 h).1
theorem Sc.cells {w:World}{b:Nat}{s:ByteArray}{i:Nat}(h:Sc w b s i):w.cell? ⟨b,0,none⟩=some (.string s)/\w.cell? ⟨b,1,none⟩=some (.int .i64 (i:Int))/\w.frozen? ⟨b,0,none⟩=false/\w.frozen? ⟨b,1,none⟩=false:=by
 unfold Sc at h
 refine ⟨?_,?_,?_,?_⟩ <;> simp [World.cell?,World.frozen?,h]
theorem Sc.keep {w w':World}{b:Nat}{s:ByteArray}{i:Nat}(h:Sc w b s i) (hk:w'.heap[b]?=w.heap[b]?):Sc w' b s i:=hk.trans h
theorem Sc.below {w w':World}{b:Nat}{s:ByteArray}{i:Nat}(h:Sc w b s i) (hb:Below w.heap.size w w'):Sc w' b s i:=(hb.block b h.lt).trans h
theorem heap_alloc_new (w:World) (o:Obj):(w.alloc o).heap[w.heap.size]?=some o:=by
 show (w.heap.push o)[w.heap.size]?=_
 simp
theorem Sc.new (w:World) (s:ByteArray):Sc (w.alloc (.cells #[.string s,.int .i64 0] 56)) w.heap.size s 0:=by
 unfold Sc
 exact heap_alloc_new w _
theorem Sc.set {w:World}{b:Nat}{s:ByteArray}{i:Nat}(h:Sc w b s i) (j:Nat):Sc (w.setCell ⟨b,1,none⟩ (.int .i64 (j:Int))) b s j:=by
 have hlt:=h.lt
 unfold Sc at h ⊢
 simp only [World.setCell]
 rw [Array.getElem?_modify,if_pos rfl,h]
 simp
def posOf (w:World) (b:Nat):Nat:=match w.cell? ⟨b,1,none⟩ with
 | some (.int _ n)=>n.toNat
 | _=>0
theorem Sc.pos {w:World}{b:Nat}{s:ByteArray}{i:Nat}(h:Sc w b s i):posOf w b=i:=by
 simp [posOf,h.cells.2.1]
structure But (b:Nat) (w w':World):Prop where
 os:w'.os=w.os
 tape:w'.tape=w.tape
 output:w'.output=w.output
 size:w.heap.size<=w'.heap.size
 block:∀ k,k<w.heap.size->k≠b->w'.heap[k]?=w.heap[k]?
theorem But.refl (b:Nat) (w:World):But b w w:=⟨rfl,rfl,rfl,Nat.le_refl _,fun _ _ _=>rfl⟩
theorem But.trans {b:Nat}{u v w:World}(h:But b u v) (k:But b v w):But b u w :=
 ⟨k.os.trans h.os,k.tape.trans h.tape,k.output.trans h.output,Nat.le_trans h.size k.size,fun n hn hb=>(k.block n (Nat.lt_of_lt_of_le hn h.size) hb).trans (h.block n hn hb)⟩
theorem But.of {b:Nat}{w w':World}(h:Below w.heap.size w w'):But b w w':=⟨h.os,h.tape,h.output,h.size,fun k hk _=>h.block k hk⟩
theorem But.set (b:Nat) (w:World) (v:Value):But b w (w.setCell ⟨b,1,none⟩ v) :=
 ⟨rfl,rfl,rfl,by simp [World.setCell],fun k _ hb=>Below.heap_setCell _ _ _ _ hb⟩
theorem But.drew {b:Nat}{a w:World}(h:But b a w):But b a w.drew:=⟨h.os,h.tape,h.output,h.size,h.block⟩
theorem Sc.drew {w:World}{b:Nat}{s:ByteArray}{i:Nat}(h:Sc w b s i):Sc w.drew b s i:=h
theorem But.below {b B:Nat}{W w w':World}(h:But b w w') (hb:B<=b) (hW:B<=W.heap.size) (hB:Below B W w):Below B W w' :=
 ⟨h.os.trans hB.os,h.tape.trans hB.tape,h.output.trans hB.output,Nat.le_trans hB.size h.size,fun k hk=>(h.block k (Nat.lt_of_lt_of_le hk (by have:=hB.size;omega)) (by omega)).trans (hB.block k hk)⟩
/-! ### Bytes -/
def inB (s:ByteArray) (i:Nat) (lo hi:Int):Bool:=if h:i<s.size then decide (lo<=(s[i].toNat:Int)/\(s[i].toNat:Int)<=hi) else false
def isLet (s:ByteArray) (i:Nat):Bool:=inB s i 97 122 || inB s i 65 90
def isDig (s:ByteArray) (i:Nat):Bool:=inB s i 48 57
def isHex (s:ByteArray) (i:Nat):Bool:=isDig s i || inB s i 97 102
def isLD (s:ByteArray) (i:Nat):Bool:=isLet s i || isDig s i
def endL (s:ByteArray) (i:Nat):Bool:=if h:i<s.size then s[i].toNat==10 else true
def isLine (s:ByteArray) (i:Nat):Bool:=!endL s i
def adv (t:Bool) (i:Nat):Nat:=if t then i+1 else i
theorem adv_f (i:Nat):adv false i=i:=rfl
theorem adv_t (i:Nat):adv true i=i+1:=rfl
theorem inB_lt {s:ByteArray}{i:Nat}{lo hi:Int}(h:inB s i lo hi=true):i<s.size:=by
 unfold inB at h
 split at h
 ·assumption
 ·cases h
theorem inB_yes {s:ByteArray}{i:Nat}{lo hi:Int}(h:i<s.size) (h1:lo<=(s[i].toNat:Int)) (h2:(s[i].toNat:Int)<=hi):inB s i lo hi=true:=by
 simp [inB,h,h1,h2]
theorem inB_low {s:ByteArray}{i:Nat}{lo hi:Int}(h:i<s.size) (h1:(s[i].toNat:Int)<lo):inB s i lo hi=false:=by
 simp [inB,h];omega
theorem inB_high {s:ByteArray}{i:Nat}{lo hi:Int}(h:i<s.size) (h1:hi <(s[i].toNat:Int)):inB s i lo hi=false:=by
 simp [inB,h];omega
theorem inB_end {s:ByteArray}{i:Nat}{lo hi:Int}(h:¬ i<s.size):inB s i lo hi=false:=by
 simp [inB,h]
theorem isLet_lt {s:ByteArray}{i:Nat}(h:isLet s i=true):i<s.size:=by
 simp only [isLet,Bool.or_eq_true] at h
 exact h.elim inB_lt inB_lt
theorem isDig_lt {s:ByteArray}{i:Nat}(h:isDig s i=true):i<s.size:=inB_lt h
theorem isHex_lt {s:ByteArray}{i:Nat}(h:isHex s i=true):i<s.size:=by
 simp only [isHex,Bool.or_eq_true] at h
 exact h.elim inB_lt inB_lt
theorem isLD_lt {s:ByteArray}{i:Nat}(h:isLD s i=true):i<s.size:=by
 simp only [isLD,Bool.or_eq_true] at h
 exact h.elim isLet_lt inB_lt
theorem isLine_lt {s:ByteArray}{i:Nat}(h:isLine s i=true):i<s.size:=by
 simp only [isLine,endL] at h
 split at h
 ·assumption
 ·cases h
/-! ### Many -/
def manyTo (st:Nat->Bool × Nat):Nat->Nat->Nat
 | 0,i=>i
 | f+1,i=>if (st i).1 then manyTo st f (st i).2 else i
def Goes (n:Nat) (st:Nat->Bool × Nat):Prop:=∀ i,i<=n->((st i).1=true->i <(st i).2/\(st i).2<=n)/\((st i).1=false->(st i).2=i)
theorem manyTo_fuel {n:Nat}{st:Nat->Bool × Nat}(h:Goes n st):∀ (f i:Nat),i<=n->n - i<=f->manyTo st f i=manyTo st (n - i) i
 | 0,i,hi,hf=>by
  have:n - i=0:=by omega
  rw [this]
 | f+1,i,hi,hf=>by
  rw [manyTo]
  by_cases ht:(st i).1=true
  ·have h1:=(h i hi).1 ht
   rw [if_pos ht,manyTo_fuel h f _ h1.2 (by omega)]
   obtain ⟨m,hm⟩:∃ m,n - i=m+1:=⟨n - i - 1,by omega⟩
   rw [hm,manyTo,if_pos ht,manyTo_fuel h m _ h1.2 (by omega)]
  ·rw [if_neg ht]
   cases hm:n - i with
   | zero=>rfl
   | succ m=>rw [manyTo,if_neg ht]
theorem manyTo_step {n:Nat}{st:Nat->Bool × Nat}(h:Goes n st) {i:Nat}(hi:i<=n) (ht:(st i).1=true):manyTo st (n - i) i=manyTo st (n - (st i).2) (st i).2:=by
 have h1:=(h i hi).1 ht
 obtain ⟨m,hm⟩:∃ m,n - i=m+1:=⟨n - i - 1,by omega⟩
 rw [hm,manyTo,if_pos ht,manyTo_fuel h m _ h1.2 (by omega)]
theorem manyTo_stop {n:Nat}{st:Nat->Bool × Nat}{i:Nat}(ht:(st i).1=false):manyTo st (n - i) i=i:=by
 cases hm:n - i with
 | zero=>rfl
 | succ m=>rw [manyTo,if_neg (by rw [ht];decide)]
theorem manyTo_ge {n:Nat}{st:Nat->Bool × Nat}(h:Goes n st):∀ (f i:Nat),i<=n->i<=manyTo st f i/\manyTo st f i<=n
 | 0,i,hi=>⟨Nat.le_refl _,hi⟩
 | f+1,i,hi=>by
  rw [manyTo]
  split
  ·rename_i ht
   have h1:=(h i hi).1 ht
   have:=manyTo_ge h f _ h1.2
   omega
  ·exact ⟨Nat.le_refl _,hi⟩
def one (p:Nat->Bool) (i:Nat):Bool × Nat:=(p i,adv (p i) i)
theorem goes_one {n:Nat}{p:Nat->Bool}(h:∀ i,p i=true->i<n):Goes n (one p):=by
 intro i hi
 refine ⟨fun ht=>?_,fun ht=>?_⟩
 ·simp only [one] at ht ⊢
  have:=h i ht
  simp only [ht,adv,if_true]
  omega
 ·simp only [one] at ht ⊢
  simp [ht,adv]
def sepS (s:ByteArray) (i:Nat):Bool × Nat :=
 if inB s i 35 35 then (true,manyTo (one (isLine s)) (s.size - (i+1)) (i+1))
 else if inB s i 32 32 || inB s i 9 9 || inB s i 13 13 then (true,i+1) else (false,i)
theorem sepS_eq (s:ByteArray) (i:Nat):sepS s i=if inB s i 35 35=true then (true,manyTo (one (isLine s)) (s.size - (i+1)) (i+1)) else if (inB s i 32 32 || inB s i 9 9 || inB s i 13 13)=true then (true,i+1) else (false,i):=rfl
theorem goes_sep (s:ByteArray):Goes s.size (sepS s):=by
 intro i hi
 unfold sepS
 by_cases h1:inB s i 35 35=true
 ·have:=inB_lt h1
  have g:=manyTo_ge (goes_one (n:=s.size) (p:=isLine s) fun i h=>isLine_lt h) (s.size - (i+1)) (i+1) (by omega)
  rw [if_pos h1]
  exact ⟨fun _=>⟨by omega,g.2⟩,fun h=>by cases h⟩
 ·rw [if_neg h1]
  by_cases h2:(inB s i 32 32 || inB s i 9 9 || inB s i 13 13)=true
  ·have:i<s.size:=by
    simp only [Bool.or_eq_true] at h2
    exact h2.elim (fun h=>h.elim inB_lt inB_lt) inB_lt
   rw [if_pos h2]
   exact ⟨fun _=>⟨by omega,by omega⟩,fun h=>by cases h⟩
  ·rw [if_neg h2]
   exact ⟨fun h=>(by cases h),fun _=>rfl⟩
@[reducible] def Reads (f:FuncId) (args:Value->Array Value) (s:ByteArray) (st:Nat->Bool × Nat):Prop :=
 ∀ (w:World) (b i:Nat),i<=s.size->Sc w b s i->Calls Tryz.prog f (args (.pointer (some ⟨b,0,none⟩))) w fun e w'=>e=.returned (.bool (st i).1)/\Sc w' b s (st i).2/\But b w w'
set_option maxRecDepth 100000 in
theorem betweenN (s:ByteArray) (hs:s.size<=65536) (lo hi:Nat):Reads 37 (fun p=>#[p,.int .u8 (lo:Int),.int .u8 (hi:Int)]) s fun i=>(inB s i (lo:Int) (hi:Int),adv (inB s i (lo:Int) (hi:Int)) i):=by
 intro w b i hi' h
 show Calls _ _ #[_,_,_] _ _
 obtain ⟨c0,c1,f0,f1⟩:=h.cells
 by_cases hlt:i<s.size
 ·have hx:((i:Int)==(s.size:Int))=false:=by simp;omega
  have hcb:(s[i].toNat:Int)<=255:=by have:=s[i].toNat_lt;omega
  by_cases h1:s[i].toNat<lo
  ·have h1':(s[i].toNat:Int) <(lo:Int):=by omega
   have e:=inB_low (hi:=(hi:Int)) hlt h1'
   go_enter Tryz.func37,Tryz.ntmps37
   go_wp2
   go_region
   go_wp2
   go_ret
   simp only [e,adv]
   exact ⟨rfl,h,(But.refl _ _).drew⟩
  ·have h1':¬ (s[i].toNat:Int) <(lo:Int):=by omega
   by_cases h2:hi<s[i].toNat
   ·have h2':(hi:Int) <(s[i].toNat:Int):=by omega
    have e:=inB_high (lo:=(lo:Int)) hlt h2'
    go_enter Tryz.func37,Tryz.ntmps37
    go_wp2
    go_region
    go_wp2
    go_ret
    simp only [e,adv]
    exact ⟨rfl,h,(But.refl _ _).drew⟩
   ·have e:=inB_yes hlt (Int.not_lt.1 h1') (by omega:(s[i].toNat:Int)<=(hi:Int))
    have h2':¬ (hi:Int) <(s[i].toNat:Int):=by omega
    go_enter Tryz.func37,Tryz.ntmps37
    go_wp2
    go_region
    go_wp2
    go_ret
    simp only [e,adv]
    exact ⟨rfl,h.set (i+1),(But.set _ _ _).drew⟩
 ·have e:=inB_end (lo:=(lo:Int)) (hi:=(hi:Int)) hlt
  obtain rfl:s.size=i:=by omega
  go_enter Tryz.func37,Tryz.ntmps37
  go_wp2
  go_region
  go_wp2
  go_ret
  simp only [e,adv]
  exact ⟨rfl,h,(But.refl _ _).drew⟩
theorem betweenQ (s:ByteArray) (hs:s.size<=65536) (lo hi:Int) (h0:0<=lo) (h1:0<=hi):Reads 37 (fun p=>#[p,.int .u8 lo,.int .u8 hi]) s fun i=>(inB s i lo hi,adv (inB s i lo hi) i):=by
 obtain ⟨n,rfl⟩:=Int.eq_ofNat_of_zero_le h0
 obtain ⟨m,rfl⟩:=Int.eq_ofNat_of_zero_le h1
 exact betweenN s hs n m
set_option maxRecDepth 100000 in
theorem nextQ (s:ByteArray) (hs:s.size<=65536) (c:Int) (hc:0<=c):Reads 22 (fun p=>#[p,.int .u8 c]) s fun i=>(inB s i c c,adv (inB s i c c) i):=by
 intro w b i hi' h
 show Calls _ _ #[_,_] _ _
 go_enter Tryz.func22,Tryz.ntmps22
 go_wp2_with (go_at_call 37;with_reducible refine (betweenQ s hs c c hc hc w b i hi' h).mono ?_;rintro e w1 ⟨rfl,h1,b1⟩)
 go_ret
 exact ⟨rfl,h1,b1⟩
set_option maxRecDepth 100000 in
theorem digitQ (s:ByteArray) (hs:s.size<=65536):Reads 24 (fun p=>#[p]) s (one (isDig s)):=by
 intro w b i hi' h
 show Calls _ _ #[_] _ _
 go_enter Tryz.func24,Tryz.ntmps24
 go_wp2_with (go_at_call 37;with_reducible refine (betweenQ s hs 48 57 (by decide) (by decide) w b i hi' h).mono ?_;rintro e w1 ⟨rfl,h1,b1⟩)
 go_ret
 exact ⟨rfl,h1,b1⟩
set_option maxRecDepth 100000 in
theorem letterQ (s:ByteArray) (hs:s.size<=65536):Reads 26 (fun p=>#[p]) s (one (isLet s)):=by
 intro w b i hi' h
 show Calls _ _ #[_] _ _
 have e1:one (isLet s) i =(inB s i 97 122 || inB s i 65 90,adv (inB s i 97 122 || inB s i 65 90) i):=rfl
 rw [e1]
 have c1:=betweenQ s hs 97 122 (by decide) (by decide) w b i hi' h
 cases hA:inB s i 97 122
 ·simp only [hA,adv_f] at c1
  go_enter Tryz.func26,Tryz.ntmps26
  go_wp2_with (first
   |(go_at_call 37;with_reducible refine c1.mono ?_;rintro e w1 ⟨rfl,h1,b1⟩)
   |(go_at_call 37;with_reducible refine (betweenQ s hs 65 90 (by decide) (by decide) w1 b i hi' h1).mono ?_;rintro e w2 ⟨rfl,h2,b2⟩))
  go_ret
  exact ⟨rfl,h2,b1.trans b2⟩
 ·simp only [hA,adv_t] at c1
  go_enter Tryz.func26,Tryz.ntmps26
  go_wp2_with (go_at_call 37;with_reducible refine c1.mono ?_;rintro e w1 ⟨rfl,h1,b1⟩)
  go_ret
  exact ⟨rfl,h1,b1⟩
set_option maxRecDepth 100000 in
theorem hexDigitQ (s:ByteArray) (hs:s.size<=65536):Reads 110 (fun p=>#[p]) s (one (isHex s)):=by
 intro w b i hi' h
 show Calls _ _ #[_] _ _
 have e1:one (isHex s) i =(isDig s i || inB s i 97 102,adv (isDig s i || inB s i 97 102) i):=rfl
 rw [e1]
 have c1:=digitQ s hs w b i hi' h
 simp only [one] at c1
 cases hA:isDig s i
 ·simp only [hA,adv_f] at c1
  go_enter Tryz.func110,Tryz.ntmps110
  go_wp2_with (first
   |(go_at_call 24;with_reducible refine c1.mono ?_;rintro e w1 ⟨rfl,h1,b1⟩)
   |(go_at_call 37;with_reducible refine (betweenQ s hs 97 102 (by decide) (by decide) w1 b i hi' h1).mono ?_;rintro e w2 ⟨rfl,h2,b2⟩))
  go_ret
  exact ⟨rfl,h2,b1.trans b2⟩
 ·simp only [hA,adv_t] at c1
  go_enter Tryz.func110,Tryz.ntmps110
  go_wp2_with (go_at_call 24;with_reducible refine c1.mono ?_;rintro e w1 ⟨rfl,h1,b1⟩)
  go_ret
  exact ⟨rfl,h1,b1⟩
set_option maxRecDepth 100000 in
theorem letterOrDigitQ (s:ByteArray) (hs:s.size<=65536):Reads 41 (fun p=>#[p]) s (one (isLD s)):=by
 intro w b i hi' h
 show Calls _ _ #[_] _ _
 have e1:one (isLD s) i =(isLet s i || isDig s i,adv (isLet s i || isDig s i) i):=rfl
 rw [e1]
 have c1:=letterQ s hs w b i hi' h
 simp only [one] at c1
 cases hA:isLet s i
 ·simp only [hA,adv_f] at c1
  go_enter Tryz.func41,Tryz.ntmps41
  go_wp2_with (first
   |(go_at_call 26;with_reducible refine c1.mono ?_;rintro e w1 ⟨rfl,h1,b1⟩)
   |(go_at_call 24;with_reducible refine (digitQ s hs w1 b i hi' h1).mono ?_;rintro e w2 ⟨rfl,h2,b2⟩))
  go_ret
  exact ⟨rfl,h2,b1.trans b2⟩
 ·simp only [hA,adv_t] at c1
  go_enter Tryz.func41,Tryz.ntmps41
  go_wp2_with (go_at_call 26;with_reducible refine c1.mono ?_;rintro e w1 ⟨rfl,h1,b1⟩)
  go_ret
  exact ⟨rfl,h1,b1⟩
set_option maxRecDepth 100000 in
theorem lineEndsQ (s:ByteArray) (hs:s.size<=65536) (w:World) (b i:Nat) (hi':i<=s.size) (h:Sc w b s i) :
  Calls Tryz.prog 38 #[.pointer (some ⟨b,0,none⟩)] w fun e w'=>e=.returned (.bool (endL s i))/\Sc w' b s i/\But b w w':=by
 obtain ⟨c0,c1,f0,f1⟩:=h.cells
 by_cases hlt:i<s.size
 ·have hx:((i:Int)==(s.size:Int))=false:=by simp;omega
  have hcb:(s[i].toNat:Int)<=255:=by have:=s[i].toNat_lt;omega
  have e:endL s i =(s[i].toNat==10):=by simp [endL,hlt]
  by_cases h1:s[i].toNat=10
  ·have h1':((s[i].toNat:Int)==10)=true:=by simp;omega
   go_enter Tryz.func38,Tryz.ntmps38
   go_wp2
   go_region
   go_wp2
   go_ret
   rw [e,h1]
   exact ⟨rfl,h,(But.refl _ _).drew⟩
  ·have h1':((s[i].toNat:Int)==10)=false:=by simp;omega
   have h2:(s[i].toNat==10)=false:=by simp;omega
   go_enter Tryz.func38,Tryz.ntmps38
   go_wp2
   go_region
   go_wp2
   go_ret
   rw [e,h2]
   exact ⟨rfl,h,(But.refl _ _).drew⟩
 ·have e:endL s i=true:=by simp [endL,hlt]
  obtain rfl:s.size=i:=by omega
  go_enter Tryz.func38,Tryz.ntmps38
  go_wp2
  go_region
  go_wp2
  go_ret
  rw [e]
  exact ⟨rfl,h,(But.refl _ _).drew⟩
set_option maxRecDepth 100000 in
theorem lineByteQ (s:ByteArray) (hs:s.size<=65536):Reads 23 (fun p=>#[p]) s (one (isLine s)):=by
 intro w b i hi' h
 show Calls _ _ #[_] _ _
 have c1:=lineEndsQ s hs w b i hi' h
 have e1:one (isLine s) i =(!endL s i,adv (!endL s i) i):=rfl
 rw [e1]
 cases hA:endL s i
 ·have hlt:i<s.size:=isLine_lt (by rw [isLine,hA];rfl)
  simp only [hA] at c1
  go_enter Tryz.func23,Tryz.ntmps23
  go_wp2_with (go_at_call 38;with_reducible refine c1.mono ?_;rintro e w1 ⟨rfl,h1,b1⟩;obtain ⟨d0,d1,g0,g1⟩:=h1.cells)
  go_ret
  exact ⟨rfl,h1.set (i+1),b1.trans (But.set _ _ _)⟩
 ·simp only [hA] at c1
  go_enter Tryz.func23,Tryz.ntmps23
  go_wp2_with (go_at_call 38;with_reducible refine c1.mono ?_;rintro e w1 ⟨rfl,h1,b1⟩)
  go_ret
  exact ⟨rfl,h1,b1⟩
theorem cell_below {w w':World}{p:Addr}{v:Value}(h:w.cell? p=some v) (hb:Below w.heap.size w w'):w'.cell? p=some v:=(hb.cell (World.block_lt_of_cell? w p h)).trans h
def TZ (w:World):Prop:=w.cell? ⟨10,15,none⟩=some (.int .u8 4)
theorem TZ.below {w w':World}(h:TZ w) (hb:Below w.heap.size w w'):TZ w':=cell_below h hb
theorem tz_idx:IntKind.u64.wrap (bits BinOp.and IntKind.u64 16 (IntKind.u64.wrap (-16))*285870213051353865) / 288230376151711744=15:=by kernel_rfl
set_option maxRecDepth 100000 in
theorem tzQ (w:World) (hD:TZ w):Calls Tryz.prog 181 #[.int .u64 16] w fun e w'=>e=.returned (.int .i64 4)/\w=w':=by
 have ht:=tz_idx
 unfold TZ at hD
 go_enter Tryz.func181,Tryz.ntmps181
 go_wp2
 go_ret
 exact ⟨rfl,rfl⟩
theorem conv_lit (W:World) (X o n cap:Nat) (L:List UInt8) (hl:L.length=n) (hc:∀ (j:Nat) (hj:j<L.length),W.cell? ⟨X,o+j,none⟩=some (.int .u8 (L[j].toNat:Int))) :
  (convert 61 9 (.slice (some ⟨X,o,none⟩) n cap)).run Tryz.prog W=.ok (.string ⟨L.toArray⟩) W:=by
 subst hl
 exact run_convert_bytes_back W 61 9 5 ⟨X,o,none⟩ cap L Tryz.underlying61 Tryz.underlying5 Tryz.underlying9 (fun j hj=>by rw [show (⟨X,o,none⟩:Addr).add j =⟨X,o+j,none⟩ by simp [Addr.add]];exact hc j hj)
theorem p2_and:bits BinOp.and IntKind.i64 16 15=0:=by kernel_rfl
set_option maxRecDepth 100000 in
theorem pow2Q (w:World):Calls Tryz.prog 180 #[.int .i64 16] w fun e w'=>e=.returned (.bool true)/\w=w':=by
 have h:=p2_and
 go_enter Tryz.func180,Tryz.ntmps180
 go_wp2
 go_ret
 exact ⟨rfl,rfl⟩
def hx1 (d:Nat):UInt8:=if d<10 then (48+d).toUInt8 else (87+d).toUInt8
def hexL (c:Nat):List UInt8:=if c<16 then [hx1 c] else [hx1 (c / 16),hx1 (c % 16)]
set_option maxRecDepth 100000 in
theorem fb_0 (w:World) (hD:TZ w):Calls Tryz.prog 173 #[.slice none 0 0,.int .u64 0,.int .i64 16,.bool false,.bool false] w fun e w'=>e=.returned (.tuple #[.slice none 0 0,.string ⟨#[48]⟩])/\Below w.heap.size w w':=by
 have hD2:∀ o,TZ (w.alloc o):=fun o=>hD.below (below_new w o)
 go_enter Tryz.func173,Tryz.ntmps173
 go_wp2_with (first
  |(go_at_call 180;with_reducible refine (pow2Q _).mono ?_;rintro e w1 ⟨rfl,rfl⟩)
  |(go_at_call 181;with_reducible refine (tzQ _ (hD2 _)).mono ?_;rintro e w1 ⟨rfl,rfl⟩))
 refine wp_loop_rounds 1 ?_
 rw [rounds_succ]
 go_wp2
 rw [conv_lit _ _ 64 1 1 [48] rfl (fun j hj=>by
  rw [World.cell?_alloc_new]
  match j,hj with
  | 0,_=>rfl)]
 go_wp2
 go_ret2
 exact ⟨rfl,below_new _ _⟩
set_option maxRecDepth 100000 in
theorem fb_1 (w:World) (hD:TZ w):Calls Tryz.prog 173 #[.slice none 0 0,.int .u64 1,.int .i64 16,.bool false,.bool false] w fun e w'=>e=.returned (.tuple #[.slice none 0 0,.string ⟨#[49]⟩])/\Below w.heap.size w w':=by
 have hD2:∀ o,TZ (w.alloc o):=fun o=>hD.below (below_new w o)
 go_enter Tryz.func173,Tryz.ntmps173
 go_wp2_with (first
  |(go_at_call 180;with_reducible refine (pow2Q _).mono ?_;rintro e w1 ⟨rfl,rfl⟩)
  |(go_at_call 181;with_reducible refine (tzQ _ (hD2 _)).mono ?_;rintro e w1 ⟨rfl,rfl⟩))
 refine wp_loop_rounds 1 ?_
 rw [rounds_succ]
 go_wp2
 rw [conv_lit _ _ 64 1 1 [49] rfl (fun j hj=>by
  rw [World.cell?_alloc_new]
  match j,hj with
  | 0,_=>rfl)]
 go_wp2
 go_ret2
 exact ⟨rfl,below_new _ _⟩
set_option maxRecDepth 100000 in
theorem fb_2 (w:World) (hD:TZ w):Calls Tryz.prog 173 #[.slice none 0 0,.int .u64 2,.int .i64 16,.bool false,.bool false] w fun e w'=>e=.returned (.tuple #[.slice none 0 0,.string ⟨#[50]⟩])/\Below w.heap.size w w':=by
 have hD2:∀ o,TZ (w.alloc o):=fun o=>hD.below (below_new w o)
 go_enter Tryz.func173,Tryz.ntmps173
 go_wp2_with (first
  |(go_at_call 180;with_reducible refine (pow2Q _).mono ?_;rintro e w1 ⟨rfl,rfl⟩)
  |(go_at_call 181;with_reducible refine (tzQ _ (hD2 _)).mono ?_;rintro e w1 ⟨rfl,rfl⟩))
 refine wp_loop_rounds 1 ?_
 rw [rounds_succ]
 go_wp2
 rw [conv_lit _ _ 64 1 1 [50] rfl (fun j hj=>by
  rw [World.cell?_alloc_new]
  match j,hj with
  | 0,_=>rfl)]
 go_wp2
 go_ret2
 exact ⟨rfl,below_new _ _⟩
set_option maxRecDepth 100000 in
theorem fb_3 (w:World) (hD:TZ w):Calls Tryz.prog 173 #[.slice none 0 0,.int .u64 3,.int .i64 16,.bool false,.bool false] w fun e w'=>e=.returned (.tuple #[.slice none 0 0,.string ⟨#[51]⟩])/\Below w.heap.size w w':=by
 have hD2:∀ o,TZ (w.alloc o):=fun o=>hD.below (below_new w o)
 go_enter Tryz.func173,Tryz.ntmps173
 go_wp2_with (first
  |(go_at_call 180;with_reducible refine (pow2Q _).mono ?_;rintro e w1 ⟨rfl,rfl⟩)
  |(go_at_call 181;with_reducible refine (tzQ _ (hD2 _)).mono ?_;rintro e w1 ⟨rfl,rfl⟩))
 refine wp_loop_rounds 1 ?_
 rw [rounds_succ]
 go_wp2
 rw [conv_lit _ _ 64 1 1 [51] rfl (fun j hj=>by
  rw [World.cell?_alloc_new]
  match j,hj with
  | 0,_=>rfl)]
 go_wp2
 go_ret2
 exact ⟨rfl,below_new _ _⟩
set_option maxRecDepth 100000 in
theorem fb_4 (w:World) (hD:TZ w):Calls Tryz.prog 173 #[.slice none 0 0,.int .u64 4,.int .i64 16,.bool false,.bool false] w fun e w'=>e=.returned (.tuple #[.slice none 0 0,.string ⟨#[52]⟩])/\Below w.heap.size w w':=by
 have hD2:∀ o,TZ (w.alloc o):=fun o=>hD.below (below_new w o)
 go_enter Tryz.func173,Tryz.ntmps173
 go_wp2_with (first
  |(go_at_call 180;with_reducible refine (pow2Q _).mono ?_;rintro e w1 ⟨rfl,rfl⟩)
  |(go_at_call 181;with_reducible refine (tzQ _ (hD2 _)).mono ?_;rintro e w1 ⟨rfl,rfl⟩))
 refine wp_loop_rounds 1 ?_
 rw [rounds_succ]
 go_wp2
 rw [conv_lit _ _ 64 1 1 [52] rfl (fun j hj=>by
  rw [World.cell?_alloc_new]
  match j,hj with
  | 0,_=>rfl)]
 go_wp2
 go_ret2
 exact ⟨rfl,below_new _ _⟩
set_option maxRecDepth 100000 in
theorem fb_5 (w:World) (hD:TZ w):Calls Tryz.prog 173 #[.slice none 0 0,.int .u64 5,.int .i64 16,.bool false,.bool false] w fun e w'=>e=.returned (.tuple #[.slice none 0 0,.string ⟨#[53]⟩])/\Below w.heap.size w w':=by
 have hD2:∀ o,TZ (w.alloc o):=fun o=>hD.below (below_new w o)
 go_enter Tryz.func173,Tryz.ntmps173
 go_wp2_with (first
  |(go_at_call 180;with_reducible refine (pow2Q _).mono ?_;rintro e w1 ⟨rfl,rfl⟩)
  |(go_at_call 181;with_reducible refine (tzQ _ (hD2 _)).mono ?_;rintro e w1 ⟨rfl,rfl⟩))
 refine wp_loop_rounds 1 ?_
 rw [rounds_succ]
 go_wp2
 rw [conv_lit _ _ 64 1 1 [53] rfl (fun j hj=>by
  rw [World.cell?_alloc_new]
  match j,hj with
  | 0,_=>rfl)]
 go_wp2
 go_ret2
 exact ⟨rfl,below_new _ _⟩
set_option maxRecDepth 100000 in
theorem fb_6 (w:World) (hD:TZ w):Calls Tryz.prog 173 #[.slice none 0 0,.int .u64 6,.int .i64 16,.bool false,.bool false] w fun e w'=>e=.returned (.tuple #[.slice none 0 0,.string ⟨#[54]⟩])/\Below w.heap.size w w':=by
 have hD2:∀ o,TZ (w.alloc o):=fun o=>hD.below (below_new w o)
 go_enter Tryz.func173,Tryz.ntmps173
 go_wp2_with (first
  |(go_at_call 180;with_reducible refine (pow2Q _).mono ?_;rintro e w1 ⟨rfl,rfl⟩)
  |(go_at_call 181;with_reducible refine (tzQ _ (hD2 _)).mono ?_;rintro e w1 ⟨rfl,rfl⟩))
 refine wp_loop_rounds 1 ?_
 rw [rounds_succ]
 go_wp2
 rw [conv_lit _ _ 64 1 1 [54] rfl (fun j hj=>by
  rw [World.cell?_alloc_new]
  match j,hj with
  | 0,_=>rfl)]
 go_wp2
 go_ret2
 exact ⟨rfl,below_new _ _⟩
set_option maxRecDepth 100000 in
theorem fb_7 (w:World) (hD:TZ w):Calls Tryz.prog 173 #[.slice none 0 0,.int .u64 7,.int .i64 16,.bool false,.bool false] w fun e w'=>e=.returned (.tuple #[.slice none 0 0,.string ⟨#[55]⟩])/\Below w.heap.size w w':=by
 have hD2:∀ o,TZ (w.alloc o):=fun o=>hD.below (below_new w o)
 go_enter Tryz.func173,Tryz.ntmps173
 go_wp2_with (first
  |(go_at_call 180;with_reducible refine (pow2Q _).mono ?_;rintro e w1 ⟨rfl,rfl⟩)
  |(go_at_call 181;with_reducible refine (tzQ _ (hD2 _)).mono ?_;rintro e w1 ⟨rfl,rfl⟩))
 refine wp_loop_rounds 1 ?_
 rw [rounds_succ]
 go_wp2
 rw [conv_lit _ _ 64 1 1 [55] rfl (fun j hj=>by
  rw [World.cell?_alloc_new]
  match j,hj with
  | 0,_=>rfl)]
 go_wp2
 go_ret2
 exact ⟨rfl,below_new _ _⟩
set_option maxRecDepth 100000 in
theorem fb_8 (w:World) (hD:TZ w):Calls Tryz.prog 173 #[.slice none 0 0,.int .u64 8,.int .i64 16,.bool false,.bool false] w fun e w'=>e=.returned (.tuple #[.slice none 0 0,.string ⟨#[56]⟩])/\Below w.heap.size w w':=by
 have hD2:∀ o,TZ (w.alloc o):=fun o=>hD.below (below_new w o)
 go_enter Tryz.func173,Tryz.ntmps173
 go_wp2_with (first
  |(go_at_call 180;with_reducible refine (pow2Q _).mono ?_;rintro e w1 ⟨rfl,rfl⟩)
  |(go_at_call 181;with_reducible refine (tzQ _ (hD2 _)).mono ?_;rintro e w1 ⟨rfl,rfl⟩))
 refine wp_loop_rounds 1 ?_
 rw [rounds_succ]
 go_wp2
 rw [conv_lit _ _ 64 1 1 [56] rfl (fun j hj=>by
  rw [World.cell?_alloc_new]
  match j,hj with
  | 0,_=>rfl)]
 go_wp2
 go_ret2
 exact ⟨rfl,below_new _ _⟩
set_option maxRecDepth 100000 in
theorem fb_11 (w:World) (hD:TZ w):Calls Tryz.prog 173 #[.slice none 0 0,.int .u64 11,.int .i64 16,.bool false,.bool false] w fun e w'=>e=.returned (.tuple #[.slice none 0 0,.string ⟨#[98]⟩])/\Below w.heap.size w w':=by
 have hD2:∀ o,TZ (w.alloc o):=fun o=>hD.below (below_new w o)
 go_enter Tryz.func173,Tryz.ntmps173
 go_wp2_with (first
  |(go_at_call 180;with_reducible refine (pow2Q _).mono ?_;rintro e w1 ⟨rfl,rfl⟩)
  |(go_at_call 181;with_reducible refine (tzQ _ (hD2 _)).mono ?_;rintro e w1 ⟨rfl,rfl⟩))
 refine wp_loop_rounds 1 ?_
 rw [rounds_succ]
 go_wp2
 rw [conv_lit _ _ 64 1 1 [98] rfl (fun j hj=>by
  rw [World.cell?_alloc_new]
  match j,hj with
  | 0,_=>rfl)]
 go_wp2
 go_ret2
 exact ⟨rfl,below_new _ _⟩
set_option maxRecDepth 100000 in
theorem fb_12 (w:World) (hD:TZ w):Calls Tryz.prog 173 #[.slice none 0 0,.int .u64 12,.int .i64 16,.bool false,.bool false] w fun e w'=>e=.returned (.tuple #[.slice none 0 0,.string ⟨#[99]⟩])/\Below w.heap.size w w':=by
 have hD2:∀ o,TZ (w.alloc o):=fun o=>hD.below (below_new w o)
 go_enter Tryz.func173,Tryz.ntmps173
 go_wp2_with (first
  |(go_at_call 180;with_reducible refine (pow2Q _).mono ?_;rintro e w1 ⟨rfl,rfl⟩)
  |(go_at_call 181;with_reducible refine (tzQ _ (hD2 _)).mono ?_;rintro e w1 ⟨rfl,rfl⟩))
 refine wp_loop_rounds 1 ?_
 rw [rounds_succ]
 go_wp2
 rw [conv_lit _ _ 64 1 1 [99] rfl (fun j hj=>by
  rw [World.cell?_alloc_new]
  match j,hj with
  | 0,_=>rfl)]
 go_wp2
 go_ret2
 exact ⟨rfl,below_new _ _⟩
set_option maxRecDepth 100000 in
theorem fb_14 (w:World) (hD:TZ w):Calls Tryz.prog 173 #[.slice none 0 0,.int .u64 14,.int .i64 16,.bool false,.bool false] w fun e w'=>e=.returned (.tuple #[.slice none 0 0,.string ⟨#[101]⟩])/\Below w.heap.size w w':=by
 have hD2:∀ o,TZ (w.alloc o):=fun o=>hD.below (below_new w o)
 go_enter Tryz.func173,Tryz.ntmps173
 go_wp2_with (first
  |(go_at_call 180;with_reducible refine (pow2Q _).mono ?_;rintro e w1 ⟨rfl,rfl⟩)
  |(go_at_call 181;with_reducible refine (tzQ _ (hD2 _)).mono ?_;rintro e w1 ⟨rfl,rfl⟩))
 refine wp_loop_rounds 1 ?_
 rw [rounds_succ]
 go_wp2
 rw [conv_lit _ _ 64 1 1 [101] rfl (fun j hj=>by
  rw [World.cell?_alloc_new]
  match j,hj with
  | 0,_=>rfl)]
 go_wp2
 go_ret2
 exact ⟨rfl,below_new _ _⟩
set_option maxRecDepth 100000 in
theorem fb_15 (w:World) (hD:TZ w):Calls Tryz.prog 173 #[.slice none 0 0,.int .u64 15,.int .i64 16,.bool false,.bool false] w fun e w'=>e=.returned (.tuple #[.slice none 0 0,.string ⟨#[102]⟩])/\Below w.heap.size w w':=by
 have hD2:∀ o,TZ (w.alloc o):=fun o=>hD.below (below_new w o)
 go_enter Tryz.func173,Tryz.ntmps173
 go_wp2_with (first
  |(go_at_call 180;with_reducible refine (pow2Q _).mono ?_;rintro e w1 ⟨rfl,rfl⟩)
  |(go_at_call 181;with_reducible refine (tzQ _ (hD2 _)).mono ?_;rintro e w1 ⟨rfl,rfl⟩))
 refine wp_loop_rounds 1 ?_
 rw [rounds_succ]
 go_wp2
 rw [conv_lit _ _ 64 1 1 [102] rfl (fun j hj=>by
  rw [World.cell?_alloc_new]
  match j,hj with
  | 0,_=>rfl)]
 go_wp2
 go_ret2
 exact ⟨rfl,below_new _ _⟩
set_option maxRecDepth 100000 in
theorem fb_16 (w:World) (hD:TZ w):Calls Tryz.prog 173 #[.slice none 0 0,.int .u64 16,.int .i64 16,.bool false,.bool false] w fun e w'=>e=.returned (.tuple #[.slice none 0 0,.string ⟨#[49,48]⟩])/\Below w.heap.size w w':=by
 have hD2:∀ o,TZ (w.alloc o):=fun o=>hD.below (below_new w o)
 have hb1:bits BinOp.and IntKind.u64 16 15=0:=by kernel_rfl
 go_enter Tryz.func173,Tryz.ntmps173
 go_wp2_with (first
  |(go_at_call 180;with_reducible refine (pow2Q _).mono ?_;rintro e w1 ⟨rfl,rfl⟩)
  |(go_at_call 181;with_reducible refine (tzQ _ (hD2 _)).mono ?_;rintro e w1 ⟨rfl,rfl⟩))
 refine wp_loop_rounds 2 ?_
 rw [rounds_succ]
 go_wp2
 rw [rounds_succ]
 go_wp2
 rw [conv_lit _ _ 63 2 2 [49,48] rfl (fun j hj=>by
  rw [World.cell?_alloc_new]
  match j,hj with
  | 0,_=>rfl
  | 1,_=>rfl)]
 go_wp2
 go_ret2
 exact ⟨rfl,below_new _ _⟩
set_option maxRecDepth 100000 in
theorem fb_17 (w:World) (hD:TZ w):Calls Tryz.prog 173 #[.slice none 0 0,.int .u64 17,.int .i64 16,.bool false,.bool false] w fun e w'=>e=.returned (.tuple #[.slice none 0 0,.string ⟨#[49,49]⟩])/\Below w.heap.size w w':=by
 have hD2:∀ o,TZ (w.alloc o):=fun o=>hD.below (below_new w o)
 have hb1:bits BinOp.and IntKind.u64 17 15=1:=by kernel_rfl
 go_enter Tryz.func173,Tryz.ntmps173
 go_wp2_with (first
  |(go_at_call 180;with_reducible refine (pow2Q _).mono ?_;rintro e w1 ⟨rfl,rfl⟩)
  |(go_at_call 181;with_reducible refine (tzQ _ (hD2 _)).mono ?_;rintro e w1 ⟨rfl,rfl⟩))
 refine wp_loop_rounds 2 ?_
 rw [rounds_succ]
 go_wp2
 rw [rounds_succ]
 go_wp2
 rw [conv_lit _ _ 63 2 2 [49,49] rfl (fun j hj=>by
  rw [World.cell?_alloc_new]
  match j,hj with
  | 0,_=>rfl
  | 1,_=>rfl)]
 go_wp2
 go_ret2
 exact ⟨rfl,below_new _ _⟩
set_option maxRecDepth 100000 in
theorem fb_18 (w:World) (hD:TZ w):Calls Tryz.prog 173 #[.slice none 0 0,.int .u64 18,.int .i64 16,.bool false,.bool false] w fun e w'=>e=.returned (.tuple #[.slice none 0 0,.string ⟨#[49,50]⟩])/\Below w.heap.size w w':=by
 have hD2:∀ o,TZ (w.alloc o):=fun o=>hD.below (below_new w o)
 have hb1:bits BinOp.and IntKind.u64 18 15=2:=by kernel_rfl
 go_enter Tryz.func173,Tryz.ntmps173
 go_wp2_with (first
  |(go_at_call 180;with_reducible refine (pow2Q _).mono ?_;rintro e w1 ⟨rfl,rfl⟩)
  |(go_at_call 181;with_reducible refine (tzQ _ (hD2 _)).mono ?_;rintro e w1 ⟨rfl,rfl⟩))
 refine wp_loop_rounds 2 ?_
 rw [rounds_succ]
 go_wp2
 rw [rounds_succ]
 go_wp2
 rw [conv_lit _ _ 63 2 2 [49,50] rfl (fun j hj=>by
  rw [World.cell?_alloc_new]
  match j,hj with
  | 0,_=>rfl
  | 1,_=>rfl)]
 go_wp2
 go_ret2
 exact ⟨rfl,below_new _ _⟩
set_option maxRecDepth 100000 in
theorem fb_19 (w:World) (hD:TZ w):Calls Tryz.prog 173 #[.slice none 0 0,.int .u64 19,.int .i64 16,.bool false,.bool false] w fun e w'=>e=.returned (.tuple #[.slice none 0 0,.string ⟨#[49,51]⟩])/\Below w.heap.size w w':=by
 have hD2:∀ o,TZ (w.alloc o):=fun o=>hD.below (below_new w o)
 have hb1:bits BinOp.and IntKind.u64 19 15=3:=by kernel_rfl
 go_enter Tryz.func173,Tryz.ntmps173
 go_wp2_with (first
  |(go_at_call 180;with_reducible refine (pow2Q _).mono ?_;rintro e w1 ⟨rfl,rfl⟩)
  |(go_at_call 181;with_reducible refine (tzQ _ (hD2 _)).mono ?_;rintro e w1 ⟨rfl,rfl⟩))
 refine wp_loop_rounds 2 ?_
 rw [rounds_succ]
 go_wp2
 rw [rounds_succ]
 go_wp2
 rw [conv_lit _ _ 63 2 2 [49,51] rfl (fun j hj=>by
  rw [World.cell?_alloc_new]
  match j,hj with
  | 0,_=>rfl
  | 1,_=>rfl)]
 go_wp2
 go_ret2
 exact ⟨rfl,below_new _ _⟩
set_option maxRecDepth 100000 in
theorem fb_20 (w:World) (hD:TZ w):Calls Tryz.prog 173 #[.slice none 0 0,.int .u64 20,.int .i64 16,.bool false,.bool false] w fun e w'=>e=.returned (.tuple #[.slice none 0 0,.string ⟨#[49,52]⟩])/\Below w.heap.size w w':=by
 have hD2:∀ o,TZ (w.alloc o):=fun o=>hD.below (below_new w o)
 have hb1:bits BinOp.and IntKind.u64 20 15=4:=by kernel_rfl
 go_enter Tryz.func173,Tryz.ntmps173
 go_wp2_with (first
  |(go_at_call 180;with_reducible refine (pow2Q _).mono ?_;rintro e w1 ⟨rfl,rfl⟩)
  |(go_at_call 181;with_reducible refine (tzQ _ (hD2 _)).mono ?_;rintro e w1 ⟨rfl,rfl⟩))
 refine wp_loop_rounds 2 ?_
 rw [rounds_succ]
 go_wp2
 rw [rounds_succ]
 go_wp2
 rw [conv_lit _ _ 63 2 2 [49,52] rfl (fun j hj=>by
  rw [World.cell?_alloc_new]
  match j,hj with
  | 0,_=>rfl
  | 1,_=>rfl)]
 go_wp2
 go_ret2
 exact ⟨rfl,below_new _ _⟩
set_option maxRecDepth 100000 in
theorem fb_21 (w:World) (hD:TZ w):Calls Tryz.prog 173 #[.slice none 0 0,.int .u64 21,.int .i64 16,.bool false,.bool false] w fun e w'=>e=.returned (.tuple #[.slice none 0 0,.string ⟨#[49,53]⟩])/\Below w.heap.size w w':=by
 have hD2:∀ o,TZ (w.alloc o):=fun o=>hD.below (below_new w o)
 have hb1:bits BinOp.and IntKind.u64 21 15=5:=by kernel_rfl
 go_enter Tryz.func173,Tryz.ntmps173
 go_wp2_with (first
  |(go_at_call 180;with_reducible refine (pow2Q _).mono ?_;rintro e w1 ⟨rfl,rfl⟩)
  |(go_at_call 181;with_reducible refine (tzQ _ (hD2 _)).mono ?_;rintro e w1 ⟨rfl,rfl⟩))
 refine wp_loop_rounds 2 ?_
 rw [rounds_succ]
 go_wp2
 rw [rounds_succ]
 go_wp2
 rw [conv_lit _ _ 63 2 2 [49,53] rfl (fun j hj=>by
  rw [World.cell?_alloc_new]
  match j,hj with
  | 0,_=>rfl
  | 1,_=>rfl)]
 go_wp2
 go_ret2
 exact ⟨rfl,below_new _ _⟩
set_option maxRecDepth 100000 in
theorem fb_22 (w:World) (hD:TZ w):Calls Tryz.prog 173 #[.slice none 0 0,.int .u64 22,.int .i64 16,.bool false,.bool false] w fun e w'=>e=.returned (.tuple #[.slice none 0 0,.string ⟨#[49,54]⟩])/\Below w.heap.size w w':=by
 have hD2:∀ o,TZ (w.alloc o):=fun o=>hD.below (below_new w o)
 have hb1:bits BinOp.and IntKind.u64 22 15=6:=by kernel_rfl
 go_enter Tryz.func173,Tryz.ntmps173
 go_wp2_with (first
  |(go_at_call 180;with_reducible refine (pow2Q _).mono ?_;rintro e w1 ⟨rfl,rfl⟩)
  |(go_at_call 181;with_reducible refine (tzQ _ (hD2 _)).mono ?_;rintro e w1 ⟨rfl,rfl⟩))
 refine wp_loop_rounds 2 ?_
 rw [rounds_succ]
 go_wp2
 rw [rounds_succ]
 go_wp2
 rw [conv_lit _ _ 63 2 2 [49,54] rfl (fun j hj=>by
  rw [World.cell?_alloc_new]
  match j,hj with
  | 0,_=>rfl
  | 1,_=>rfl)]
 go_wp2
 go_ret2
 exact ⟨rfl,below_new _ _⟩
set_option maxRecDepth 100000 in
theorem fb_23 (w:World) (hD:TZ w):Calls Tryz.prog 173 #[.slice none 0 0,.int .u64 23,.int .i64 16,.bool false,.bool false] w fun e w'=>e=.returned (.tuple #[.slice none 0 0,.string ⟨#[49,55]⟩])/\Below w.heap.size w w':=by
 have hD2:∀ o,TZ (w.alloc o):=fun o=>hD.below (below_new w o)
 have hb1:bits BinOp.and IntKind.u64 23 15=7:=by kernel_rfl
 go_enter Tryz.func173,Tryz.ntmps173
 go_wp2_with (first
  |(go_at_call 180;with_reducible refine (pow2Q _).mono ?_;rintro e w1 ⟨rfl,rfl⟩)
  |(go_at_call 181;with_reducible refine (tzQ _ (hD2 _)).mono ?_;rintro e w1 ⟨rfl,rfl⟩))
 refine wp_loop_rounds 2 ?_
 rw [rounds_succ]
 go_wp2
 rw [rounds_succ]
 go_wp2
 rw [conv_lit _ _ 63 2 2 [49,55] rfl (fun j hj=>by
  rw [World.cell?_alloc_new]
  match j,hj with
  | 0,_=>rfl
  | 1,_=>rfl)]
 go_wp2
 go_ret2
 exact ⟨rfl,below_new _ _⟩
set_option maxRecDepth 100000 in
theorem fb_24 (w:World) (hD:TZ w):Calls Tryz.prog 173 #[.slice none 0 0,.int .u64 24,.int .i64 16,.bool false,.bool false] w fun e w'=>e=.returned (.tuple #[.slice none 0 0,.string ⟨#[49,56]⟩])/\Below w.heap.size w w':=by
 have hD2:∀ o,TZ (w.alloc o):=fun o=>hD.below (below_new w o)
 have hb1:bits BinOp.and IntKind.u64 24 15=8:=by kernel_rfl
 go_enter Tryz.func173,Tryz.ntmps173
 go_wp2_with (first
  |(go_at_call 180;with_reducible refine (pow2Q _).mono ?_;rintro e w1 ⟨rfl,rfl⟩)
  |(go_at_call 181;with_reducible refine (tzQ _ (hD2 _)).mono ?_;rintro e w1 ⟨rfl,rfl⟩))
 refine wp_loop_rounds 2 ?_
 rw [rounds_succ]
 go_wp2
 rw [rounds_succ]
 go_wp2
 rw [conv_lit _ _ 63 2 2 [49,56] rfl (fun j hj=>by
  rw [World.cell?_alloc_new]
  match j,hj with
  | 0,_=>rfl
  | 1,_=>rfl)]
 go_wp2
 go_ret2
 exact ⟨rfl,below_new _ _⟩
set_option maxRecDepth 100000 in
theorem fb_25 (w:World) (hD:TZ w):Calls Tryz.prog 173 #[.slice none 0 0,.int .u64 25,.int .i64 16,.bool false,.bool false] w fun e w'=>e=.returned (.tuple #[.slice none 0 0,.string ⟨#[49,57]⟩])/\Below w.heap.size w w':=by
 have hD2:∀ o,TZ (w.alloc o):=fun o=>hD.below (below_new w o)
 have hb1:bits BinOp.and IntKind.u64 25 15=9:=by kernel_rfl
 go_enter Tryz.func173,Tryz.ntmps173
 go_wp2_with (first
  |(go_at_call 180;with_reducible refine (pow2Q _).mono ?_;rintro e w1 ⟨rfl,rfl⟩)
  |(go_at_call 181;with_reducible refine (tzQ _ (hD2 _)).mono ?_;rintro e w1 ⟨rfl,rfl⟩))
 refine wp_loop_rounds 2 ?_
 rw [rounds_succ]
 go_wp2
 rw [rounds_succ]
 go_wp2
 rw [conv_lit _ _ 63 2 2 [49,57] rfl (fun j hj=>by
  rw [World.cell?_alloc_new]
  match j,hj with
  | 0,_=>rfl
  | 1,_=>rfl)]
 go_wp2
 go_ret2
 exact ⟨rfl,below_new _ _⟩
set_option maxRecDepth 100000 in
theorem fb_26 (w:World) (hD:TZ w):Calls Tryz.prog 173 #[.slice none 0 0,.int .u64 26,.int .i64 16,.bool false,.bool false] w fun e w'=>e=.returned (.tuple #[.slice none 0 0,.string ⟨#[49,97]⟩])/\Below w.heap.size w w':=by
 have hD2:∀ o,TZ (w.alloc o):=fun o=>hD.below (below_new w o)
 have hb1:bits BinOp.and IntKind.u64 26 15=10:=by kernel_rfl
 go_enter Tryz.func173,Tryz.ntmps173
 go_wp2_with (first
  |(go_at_call 180;with_reducible refine (pow2Q _).mono ?_;rintro e w1 ⟨rfl,rfl⟩)
  |(go_at_call 181;with_reducible refine (tzQ _ (hD2 _)).mono ?_;rintro e w1 ⟨rfl,rfl⟩))
 refine wp_loop_rounds 2 ?_
 rw [rounds_succ]
 go_wp2
 rw [rounds_succ]
 go_wp2
 rw [conv_lit _ _ 63 2 2 [49,97] rfl (fun j hj=>by
  rw [World.cell?_alloc_new]
  match j,hj with
  | 0,_=>rfl
  | 1,_=>rfl)]
 go_wp2
 go_ret2
 exact ⟨rfl,below_new _ _⟩
set_option maxRecDepth 100000 in
theorem fb_27 (w:World) (hD:TZ w):Calls Tryz.prog 173 #[.slice none 0 0,.int .u64 27,.int .i64 16,.bool false,.bool false] w fun e w'=>e=.returned (.tuple #[.slice none 0 0,.string ⟨#[49,98]⟩])/\Below w.heap.size w w':=by
 have hD2:∀ o,TZ (w.alloc o):=fun o=>hD.below (below_new w o)
 have hb1:bits BinOp.and IntKind.u64 27 15=11:=by kernel_rfl
 go_enter Tryz.func173,Tryz.ntmps173
 go_wp2_with (first
  |(go_at_call 180;with_reducible refine (pow2Q _).mono ?_;rintro e w1 ⟨rfl,rfl⟩)
  |(go_at_call 181;with_reducible refine (tzQ _ (hD2 _)).mono ?_;rintro e w1 ⟨rfl,rfl⟩))
 refine wp_loop_rounds 2 ?_
 rw [rounds_succ]
 go_wp2
 rw [rounds_succ]
 go_wp2
 rw [conv_lit _ _ 63 2 2 [49,98] rfl (fun j hj=>by
  rw [World.cell?_alloc_new]
  match j,hj with
  | 0,_=>rfl
  | 1,_=>rfl)]
 go_wp2
 go_ret2
 exact ⟨rfl,below_new _ _⟩
set_option maxRecDepth 100000 in
theorem fb_28 (w:World) (hD:TZ w):Calls Tryz.prog 173 #[.slice none 0 0,.int .u64 28,.int .i64 16,.bool false,.bool false] w fun e w'=>e=.returned (.tuple #[.slice none 0 0,.string ⟨#[49,99]⟩])/\Below w.heap.size w w':=by
 have hD2:∀ o,TZ (w.alloc o):=fun o=>hD.below (below_new w o)
 have hb1:bits BinOp.and IntKind.u64 28 15=12:=by kernel_rfl
 go_enter Tryz.func173,Tryz.ntmps173
 go_wp2_with (first
  |(go_at_call 180;with_reducible refine (pow2Q _).mono ?_;rintro e w1 ⟨rfl,rfl⟩)
  |(go_at_call 181;with_reducible refine (tzQ _ (hD2 _)).mono ?_;rintro e w1 ⟨rfl,rfl⟩))
 refine wp_loop_rounds 2 ?_
 rw [rounds_succ]
 go_wp2
 rw [rounds_succ]
 go_wp2
 rw [conv_lit _ _ 63 2 2 [49,99] rfl (fun j hj=>by
  rw [World.cell?_alloc_new]
  match j,hj with
  | 0,_=>rfl
  | 1,_=>rfl)]
 go_wp2
 go_ret2
 exact ⟨rfl,below_new _ _⟩
set_option maxRecDepth 100000 in
theorem fb_29 (w:World) (hD:TZ w):Calls Tryz.prog 173 #[.slice none 0 0,.int .u64 29,.int .i64 16,.bool false,.bool false] w fun e w'=>e=.returned (.tuple #[.slice none 0 0,.string ⟨#[49,100]⟩])/\Below w.heap.size w w':=by
 have hD2:∀ o,TZ (w.alloc o):=fun o=>hD.below (below_new w o)
 have hb1:bits BinOp.and IntKind.u64 29 15=13:=by kernel_rfl
 go_enter Tryz.func173,Tryz.ntmps173
 go_wp2_with (first
  |(go_at_call 180;with_reducible refine (pow2Q _).mono ?_;rintro e w1 ⟨rfl,rfl⟩)
  |(go_at_call 181;with_reducible refine (tzQ _ (hD2 _)).mono ?_;rintro e w1 ⟨rfl,rfl⟩))
 refine wp_loop_rounds 2 ?_
 rw [rounds_succ]
 go_wp2
 rw [rounds_succ]
 go_wp2
 rw [conv_lit _ _ 63 2 2 [49,100] rfl (fun j hj=>by
  rw [World.cell?_alloc_new]
  match j,hj with
  | 0,_=>rfl
  | 1,_=>rfl)]
 go_wp2
 go_ret2
 exact ⟨rfl,below_new _ _⟩
set_option maxRecDepth 100000 in
theorem fb_30 (w:World) (hD:TZ w):Calls Tryz.prog 173 #[.slice none 0 0,.int .u64 30,.int .i64 16,.bool false,.bool false] w fun e w'=>e=.returned (.tuple #[.slice none 0 0,.string ⟨#[49,101]⟩])/\Below w.heap.size w w':=by
 have hD2:∀ o,TZ (w.alloc o):=fun o=>hD.below (below_new w o)
 have hb1:bits BinOp.and IntKind.u64 30 15=14:=by kernel_rfl
 go_enter Tryz.func173,Tryz.ntmps173
 go_wp2_with (first
  |(go_at_call 180;with_reducible refine (pow2Q _).mono ?_;rintro e w1 ⟨rfl,rfl⟩)
  |(go_at_call 181;with_reducible refine (tzQ _ (hD2 _)).mono ?_;rintro e w1 ⟨rfl,rfl⟩))
 refine wp_loop_rounds 2 ?_
 rw [rounds_succ]
 go_wp2
 rw [rounds_succ]
 go_wp2
 rw [conv_lit _ _ 63 2 2 [49,101] rfl (fun j hj=>by
  rw [World.cell?_alloc_new]
  match j,hj with
  | 0,_=>rfl
  | 1,_=>rfl)]
 go_wp2
 go_ret2
 exact ⟨rfl,below_new _ _⟩
set_option maxRecDepth 100000 in
theorem fb_31 (w:World) (hD:TZ w):Calls Tryz.prog 173 #[.slice none 0 0,.int .u64 31,.int .i64 16,.bool false,.bool false] w fun e w'=>e=.returned (.tuple #[.slice none 0 0,.string ⟨#[49,102]⟩])/\Below w.heap.size w w':=by
 have hD2:∀ o,TZ (w.alloc o):=fun o=>hD.below (below_new w o)
 have hb1:bits BinOp.and IntKind.u64 31 15=15:=by kernel_rfl
 go_enter Tryz.func173,Tryz.ntmps173
 go_wp2_with (first
  |(go_at_call 180;with_reducible refine (pow2Q _).mono ?_;rintro e w1 ⟨rfl,rfl⟩)
  |(go_at_call 181;with_reducible refine (tzQ _ (hD2 _)).mono ?_;rintro e w1 ⟨rfl,rfl⟩))
 refine wp_loop_rounds 2 ?_
 rw [rounds_succ]
 go_wp2
 rw [rounds_succ]
 go_wp2
 rw [conv_lit _ _ 63 2 2 [49,102] rfl (fun j hj=>by
  rw [World.cell?_alloc_new]
  match j,hj with
  | 0,_=>rfl
  | 1,_=>rfl)]
 go_wp2
 go_ret2
 exact ⟨rfl,below_new _ _⟩
set_option maxRecDepth 100000 in
theorem fb_127 (w:World) (hD:TZ w):Calls Tryz.prog 173 #[.slice none 0 0,.int .u64 127,.int .i64 16,.bool false,.bool false] w fun e w'=>e=.returned (.tuple #[.slice none 0 0,.string ⟨#[55,102]⟩])/\Below w.heap.size w w':=by
 have hD2:∀ o,TZ (w.alloc o):=fun o=>hD.below (below_new w o)
 have hb1:bits BinOp.and IntKind.u64 127 15=15:=by kernel_rfl
 go_enter Tryz.func173,Tryz.ntmps173
 go_wp2_with (first
  |(go_at_call 180;with_reducible refine (pow2Q _).mono ?_;rintro e w1 ⟨rfl,rfl⟩)
  |(go_at_call 181;with_reducible refine (tzQ _ (hD2 _)).mono ?_;rintro e w1 ⟨rfl,rfl⟩))
 refine wp_loop_rounds 2 ?_
 rw [rounds_succ]
 go_wp2
 rw [rounds_succ]
 go_wp2
 rw [conv_lit _ _ 63 2 2 [55,102] rfl (fun j hj=>by
  rw [World.cell?_alloc_new]
  match j,hj with
  | 0,_=>rfl
  | 1,_=>rfl)]
 go_wp2
 go_ret2
 exact ⟨rfl,below_new _ _⟩
theorem fbQ (c:Nat) (hc:(c<32/\c≠9/\c≠10/\c≠13)∨c=127) (w:World) (hD:TZ w):Calls Tryz.prog 173 #[.slice none 0 0,.int .u64 (c:Int),.int .i64 16,.bool false,.bool false] w fun e w'=>e=.returned (.tuple #[.slice none 0 0,.string ⟨(hexL c).toArray⟩])/\Below w.heap.size w w':=by
 have h:c=0∨c=1∨c=2∨c=3∨c=4∨c=5∨c=6∨c=7∨c=8∨c=11∨c=12∨c=14∨c=15∨c=16∨c=17∨c=18∨c=19∨c=20∨c=21∨c=22∨c=23∨c=24∨c=25∨c=26∨c=27∨c=28∨c=29∨c=30∨c=31∨c=127:=by omega
 rcases h with rfl | rfl | rfl | rfl | rfl | rfl | rfl | rfl | rfl | rfl | rfl | rfl | rfl | rfl | rfl | rfl | rfl | rfl | rfl | rfl | rfl | rfl | rfl | rfl | rfl | rfl | rfl | rfl | rfl | rfl
 ·exact fb_0 w hD
 ·exact fb_1 w hD
 ·exact fb_2 w hD
 ·exact fb_3 w hD
 ·exact fb_4 w hD
 ·exact fb_5 w hD
 ·exact fb_6 w hD
 ·exact fb_7 w hD
 ·exact fb_8 w hD
 ·exact fb_11 w hD
 ·exact fb_12 w hD
 ·exact fb_14 w hD
 ·exact fb_15 w hD
 ·exact fb_16 w hD
 ·exact fb_17 w hD
 ·exact fb_18 w hD
 ·exact fb_19 w hD
 ·exact fb_20 w hD
 ·exact fb_21 w hD
 ·exact fb_22 w hD
 ·exact fb_23 w hD
 ·exact fb_24 w hD
 ·exact fb_25 w hD
 ·exact fb_26 w hD
 ·exact fb_27 w hD
 ·exact fb_28 w hD
 ·exact fb_29 w hD
 ·exact fb_30 w hD
 ·exact fb_31 w hD
 ·exact fb_127 w hD
set_option maxRecDepth 100000 in
theorem fmtI (c:Nat) (hc:(c<32/\c≠9/\c≠10/\c≠13)∨c=127) (w:World) (hD:TZ w):Calls Tryz.prog 167 #[.int .i64 (c:Int),.int .i64 16] w fun e w'=>e=.returned (.string ⟨(hexL c).toArray⟩)/\Below w.heap.size w w':=by
 have h0:¬ (c:Int)<0:=by omega
 have h1:(c:Int)<=127:=by omega
 go_enter Tryz.func167,Tryz.ntmps167
 go_wp2_with (go_at_call 173;with_reducible refine (fbQ c hc _ hD).mono ?_;rintro e w1 ⟨rfl,b1⟩)
 go_ret
 exact ⟨rfl,b1⟩
set_option maxRecDepth 100000 in
theorem formatIntQ (c:Nat) (hc:(c<32/\c≠9/\c≠10/\c≠13)∨c=127) (w:World) (hD:TZ w):Calls Tryz.prog 168 #[.int .i64 (c:Int),.int .i64 16] w fun e w'=>e=.returned (.string ⟨(hexL c).toArray⟩)/\Below w.heap.size w w':=by
 go_enter Tryz.func168,Tryz.ntmps168
 go_wp2_with (go_at_call 167;with_reducible refine (fmtI c hc _ hD).mono ?_;rintro e w1 ⟨rfl,b1⟩)
 go_ret
 exact ⟨rfl,b1⟩
end Go.Proofs.YtalkinnbfglkdaaGreatDoor.Tok
