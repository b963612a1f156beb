/-
  Layer 8: the scanner's method that reads as long as another one reads, and the separators. (Written by wip/gen/token-many.py.)
  Layer 8: what the methods that read a token answer, as plain data: numbers, words, symbols.
  Layer 8: the scanner's methods that read a word and a symbol. (Written by wip/gen/token-word.py.)
  Layer 8: the scanner's method that reads a symbol. (Written by wip/gen/token-sym.py.)
  Layer 8: the scanner's method that reads a character that stands for itself. (Written by wip/gen/token-plain.py.)
  Layer 8: the scanner's method that reads a number. (Written by wip/gen/token-num.py.)
-/
import Derived.Test.YtalkinnbfglkdaaGreatDoorPt3
import Derived.Test.YtalkinnbfglkdaaGreatDoorPt18
import Derived.Test.YtalkinnbfglkdaaGreatDoorPt12
import Derived.Test.YtalkinnbfglkdaaGreatDoorShelf
import Derived.LoopN
import Derived.Lib.TrimUEq
import Derived.Lib.QuoteLoop
set_option maxHeartbeats 4000000
namespace Go.Proofs.YtalkinnbfglkdaaGreatDoor.Tok
open Go.RowKit
set_option linter.unusedVariables false
set_option linter.unusedSimpArgs false
set_option maxRecDepth 100000 in
theorem many_lineByte (s:ByteArray) (hs:s.size<=65536) (st:Nat->Bool × Nat) (hf:Reads 23 (fun p=>#[p]) s st) (hg:Goes s.size st) (w:World) (b i:Nat) (hi':i<=s.size) (h:Sc w b s i) :
  Calls Tryz.prog 11 #[.pointer (some ⟨b,0,none⟩),.func (.func 23) #[.pointer (some ⟨b,0,none⟩)] #[]] w fun e w'=>e=.returned (.string (s.extract i (manyTo st (s.size - i) i)))/\Sc w' b s (manyTo st (s.size - i) i)/\But b w w':=by
 obtain ⟨j,hj⟩:∃ j,Hid (manyTo st (s.size - i) i=j):=⟨_,rfl⟩
 rw [hj.out]
 have hge:i<=j/\j<=s.size:=by rw [<- hj.out];exact manyTo_ge hg _ _ hi'
 obtain ⟨hge1,hge2⟩:=hge
 obtain ⟨c0,c1,f0,f1⟩:=h.cells
 go_enter Tryz.func11,Tryz.ntmps11
 go_wp2
 go_loopw [] (fun wr=>∃ k,k<=s.size/\Sc wr b s k/\But b w wr/\Hid (manyTo st (s.size - k) k=j)) (fun wr=>s.size - posOf wr b)
 case atStart=>exact ⟨i,hi',h,But.refl _ _,hj⟩
 case round =>
  clear c0 c1 f0 f1 hj hi' h
  obtain ⟨k,hk,h,bw,hj⟩:=hrel
  have hpk:=h.pos
  have cR:=hf wr b k hk h
  cases hA:(st k).1
  ·have hs2:=(hg k hk).2 hA
   rw [manyTo_stop hA] at hj
   have hkj:=hj.out
   subst hkj
   clear hj
   rw [hA,hs2] at cR
   go_wp2_with (go_at_call 23;with_reducible refine cR.mono ?_;rintro e w1 ⟨rfl,h1,b1⟩;obtain ⟨d0,d1,g0,g1⟩:=h1.cells)
   go_region
   go_wp2
   go_ret
   exact ⟨rfl,h1,(bw.trans b1).drew⟩
  ·have hs2:=(hg k hk).1 hA
   rw [manyTo_step hg hk hA] at hj
   rw [hA] at cR
   generalize (st k).2=m at hj cR hs2
   go_wp2_with (go_at_call 23;with_reducible refine cR.mono ?_;rintro e w1 ⟨rfl,h1,b1⟩)
   go_roundw
   case rel=>exact ⟨m,hs2.2,h1,bw.trans b1,hj⟩
   case measure=>rw [h1.pos,hpk];omega
set_option maxRecDepth 100000 in
theorem many_digit (s:ByteArray) (hs:s.size<=65536) (st:Nat->Bool × Nat) (hf:Reads 24 (fun p=>#[p]) s st) (hg:Goes s.size st) (w:World) (b i:Nat) (hi':i<=s.size) (h:Sc w b s i) :
  Calls Tryz.prog 11 #[.pointer (some ⟨b,0,none⟩),.func (.func 24) #[.pointer (some ⟨b,0,none⟩)] #[]] w fun e w'=>e=.returned (.string (s.extract i (manyTo st (s.size - i) i)))/\Sc w' b s (manyTo st (s.size - i) i)/\But b w w':=by
 obtain ⟨j,hj⟩:∃ j,Hid (manyTo st (s.size - i) i=j):=⟨_,rfl⟩
 rw [hj.out]
 have hge:i<=j/\j<=s.size:=by rw [<- hj.out];exact manyTo_ge hg _ _ hi'
 obtain ⟨hge1,hge2⟩:=hge
 obtain ⟨c0,c1,f0,f1⟩:=h.cells
 go_enter Tryz.func11,Tryz.ntmps11
 go_wp2
 go_loopw [] (fun wr=>∃ k,k<=s.size/\Sc wr b s k/\But b w wr/\Hid (manyTo st (s.size - k) k=j)) (fun wr=>s.size - posOf wr b)
 case atStart=>exact ⟨i,hi',h,But.refl _ _,hj⟩
 case round =>
  clear c0 c1 f0 f1 hj hi' h
  obtain ⟨k,hk,h,bw,hj⟩:=hrel
  have hpk:=h.pos
  have cR:=hf wr b k hk h
  cases hA:(st k).1
  ·have hs2:=(hg k hk).2 hA
   rw [manyTo_stop hA] at hj
   have hkj:=hj.out
   subst hkj
   clear hj
   rw [hA,hs2] at cR
   go_wp2_with (go_at_call 24;with_reducible refine cR.mono ?_;rintro e w1 ⟨rfl,h1,b1⟩;obtain ⟨d0,d1,g0,g1⟩:=h1.cells)
   go_region
   go_wp2
   go_ret
   exact ⟨rfl,h1,(bw.trans b1).drew⟩
  ·have hs2:=(hg k hk).1 hA
   rw [manyTo_step hg hk hA] at hj
   rw [hA] at cR
   generalize (st k).2=m at hj cR hs2
   go_wp2_with (go_at_call 24;with_reducible refine cR.mono ?_;rintro e w1 ⟨rfl,h1,b1⟩)
   go_roundw
   case rel=>exact ⟨m,hs2.2,h1,bw.trans b1,hj⟩
   case measure=>rw [h1.pos,hpk];omega
set_option maxRecDepth 100000 in
theorem many_letterOrDigit (s:ByteArray) (hs:s.size<=65536) (st:Nat->Bool × Nat) (hf:Reads 41 (fun p=>#[p]) s st) (hg:Goes s.size st) (w:World) (b i:Nat) (hi':i<=s.size) (h:Sc w b s i) :
  Calls Tryz.prog 11 #[.pointer (some ⟨b,0,none⟩),.func (.func 41) #[.pointer (some ⟨b,0,none⟩)] #[]] w fun e w'=>e=.returned (.string (s.extract i (manyTo st (s.size - i) i)))/\Sc w' b s (manyTo st (s.size - i) i)/\But b w w':=by
 obtain ⟨j,hj⟩:∃ j,Hid (manyTo st (s.size - i) i=j):=⟨_,rfl⟩
 rw [hj.out]
 have hge:i<=j/\j<=s.size:=by rw [<- hj.out];exact manyTo_ge hg _ _ hi'
 obtain ⟨hge1,hge2⟩:=hge
 obtain ⟨c0,c1,f0,f1⟩:=h.cells
 go_enter Tryz.func11,Tryz.ntmps11
 go_wp2
 go_loopw [] (fun wr=>∃ k,k<=s.size/\Sc wr b s k/\But b w wr/\Hid (manyTo st (s.size - k) k=j)) (fun wr=>s.size - posOf wr b)
 case atStart=>exact ⟨i,hi',h,But.refl _ _,hj⟩
 case round =>
  clear c0 c1 f0 f1 hj hi' h
  obtain ⟨k,hk,h,bw,hj⟩:=hrel
  have hpk:=h.pos
  have cR:=hf wr b k hk h
  cases hA:(st k).1
  ·have hs2:=(hg k hk).2 hA
   rw [manyTo_stop hA] at hj
   have hkj:=hj.out
   subst hkj
   clear hj
   rw [hA,hs2] at cR
   go_wp2_with (go_at_call 41;with_reducible refine cR.mono ?_;rintro e w1 ⟨rfl,h1,b1⟩;obtain ⟨d0,d1,g0,g1⟩:=h1.cells)
   go_region
   go_wp2
   go_ret
   exact ⟨rfl,h1,(bw.trans b1).drew⟩
  ·have hs2:=(hg k hk).1 hA
   rw [manyTo_step hg hk hA] at hj
   rw [hA] at cR
   generalize (st k).2=m at hj cR hs2
   go_wp2_with (go_at_call 41;with_reducible refine cR.mono ?_;rintro e w1 ⟨rfl,h1,b1⟩)
   go_roundw
   case rel=>exact ⟨m,hs2.2,h1,bw.trans b1,hj⟩
   case measure=>rw [h1.pos,hpk];omega
set_option maxRecDepth 100000 in
theorem many_hexDigit (s:ByteArray) (hs:s.size<=65536) (st:Nat->Bool × Nat) (hf:Reads 110 (fun p=>#[p]) s st) (hg:Goes s.size st) (w:World) (b i:Nat) (hi':i<=s.size) (h:Sc w b s i) :
  Calls Tryz.prog 11 #[.pointer (some ⟨b,0,none⟩),.func (.func 110) #[.pointer (some ⟨b,0,none⟩)] #[]] w fun e w'=>e=.returned (.string (s.extract i (manyTo st (s.size - i) i)))/\Sc w' b s (manyTo st (s.size - i) i)/\But b w w':=by
 obtain ⟨j,hj⟩:∃ j,Hid (manyTo st (s.size - i) i=j):=⟨_,rfl⟩
 rw [hj.out]
 have hge:i<=j/\j<=s.size:=by rw [<- hj.out];exact manyTo_ge hg _ _ hi'
 obtain ⟨hge1,hge2⟩:=hge
 obtain ⟨c0,c1,f0,f1⟩:=h.cells
 go_enter Tryz.func11,Tryz.ntmps11
 go_wp2
 go_loopw [] (fun wr=>∃ k,k<=s.size/\Sc wr b s k/\But b w wr/\Hid (manyTo st (s.size - k) k=j)) (fun wr=>s.size - posOf wr b)
 case atStart=>exact ⟨i,hi',h,But.refl _ _,hj⟩
 case round =>
  clear c0 c1 f0 f1 hj hi' h
  obtain ⟨k,hk,h,bw,hj⟩:=hrel
  have hpk:=h.pos
  have cR:=hf wr b k hk h
  cases hA:(st k).1
  ·have hs2:=(hg k hk).2 hA
   rw [manyTo_stop hA] at hj
   have hkj:=hj.out
   subst hkj
   clear hj
   rw [hA,hs2] at cR
   go_wp2_with (go_at_call 110;with_reducible refine cR.mono ?_;rintro e w1 ⟨rfl,h1,b1⟩;obtain ⟨d0,d1,g0,g1⟩:=h1.cells)
   go_region
   go_wp2
   go_ret
   exact ⟨rfl,h1,(bw.trans b1).drew⟩
  ·have hs2:=(hg k hk).1 hA
   rw [manyTo_step hg hk hA] at hj
   rw [hA] at cR
   generalize (st k).2=m at hj cR hs2
   go_wp2_with (go_at_call 110;with_reducible refine cR.mono ?_;rintro e w1 ⟨rfl,h1,b1⟩)
   go_roundw
   case rel=>exact ⟨m,hs2.2,h1,bw.trans b1,hj⟩
   case measure=>rw [h1.pos,hpk];omega
set_option maxRecDepth 100000 in
theorem separatorQ (s:ByteArray) (hs:s.size<=65536):Reads 12 (fun p=>#[p]) s (sepS s):=by
 intro w b i hi' h
 show Calls _ _ #[_] _ _
 have c1:=nextQ s hs 35 (by decide) w b i hi' h
 have e:=sepS_eq s i
 cases hA:inB s i 35 35
 ·simp only [hA,adv_f] at c1 e
  cases hB:inB s i 32 32
  ·cases hC:inB s i 9 9
   ·cases hD:inB s i 13 13 <;> simp only [hB,hC,hD,Bool.or_false,Bool.or_true,Bool.false_eq_true,if_false,if_true,adv_f,adv_t] at e <;>
    ·rw [e]
     go_enter Tryz.func12,Tryz.ntmps12
     go_wp2_with (first
      |(go_at_call 22;with_reducible refine c1.mono ?_;rintro e w1 ⟨rfl,h1,b1⟩;have c2:=nextQ s hs 32 (by decide) w1 b i hi' h1;simp only [hB,adv_f] at c2)
      |(go_at_call 22;with_reducible refine c2.mono ?_;rintro e w2 ⟨rfl,h2,b2⟩;have c3:=nextQ s hs 9 (by decide) w2 b i hi' h2;simp only [hC,adv_f] at c3)
      |(go_at_call 22;with_reducible refine c3.mono ?_;rintro e w3 ⟨rfl,h3,b3⟩;have c4:=nextQ s hs 13 (by decide) w3 b i hi' h3;simp only [hD,adv_f,adv_t] at c4)
      |(go_at_call 22;with_reducible refine c4.mono ?_;rintro e w4 ⟨rfl,h4,b4⟩))
     go_ret
     exact ⟨rfl,h4,((b1.trans b2).trans b3).trans b4⟩
   ·simp only [hB,hC,Bool.or_true,Bool.true_or,if_true] at e
    rw [e]
    go_enter Tryz.func12,Tryz.ntmps12
    go_wp2_with (first
     |(go_at_call 22;with_reducible refine c1.mono ?_;rintro e w1 ⟨rfl,h1,b1⟩;have c2:=nextQ s hs 32 (by decide) w1 b i hi' h1;simp only [hB,adv_f] at c2)
     |(go_at_call 22;with_reducible refine c2.mono ?_;rintro e w2 ⟨rfl,h2,b2⟩;have c3:=nextQ s hs 9 (by decide) w2 b i hi' h2;simp only [hC,adv_t] at c3)
     |(go_at_call 22;with_reducible refine c3.mono ?_;rintro e w3 ⟨rfl,h3,b3⟩))
    go_ret
    exact ⟨rfl,h3,(b1.trans b2).trans b3⟩
  ·simp only [hB,Bool.true_or,if_true] at e
   rw [e]
   go_enter Tryz.func12,Tryz.ntmps12
   go_wp2_with (first
    |(go_at_call 22;with_reducible refine c1.mono ?_;rintro e w1 ⟨rfl,h1,b1⟩;have c2:=nextQ s hs 32 (by decide) w1 b i hi' h1;simp only [hB,adv_t] at c2)
    |(go_at_call 22;with_reducible refine c2.mono ?_;rintro e w2 ⟨rfl,h2,b2⟩))
   go_ret
   exact ⟨rfl,h2,b1.trans b2⟩
 ·simp only [hA,adv_t,if_true] at c1 e
  rw [e]
  have hlt:=inB_lt hA
  have cM:=fun w1 (h1:Sc w1 b s (i+1))=>many_lineByte s hs _ (lineByteQ s hs) (goes_one fun i h=>isLine_lt h) w1 b (i+1) hlt h1
  go_enter Tryz.func12,Tryz.ntmps12
  go_wp2_with (first
   |(go_at_call 22;with_reducible refine c1.mono ?_;rintro e w1 ⟨rfl,h1,b1⟩)
   |(go_at_call 11;with_reducible refine (cM w1 h1).mono ?_;rintro e w2 ⟨rfl,h2,b2⟩))
  go_ret
  exact ⟨rfl,h2,b1.trans b2⟩
set_option maxRecDepth 100000 in
theorem many_separator (s:ByteArray) (hs:s.size<=65536) (st:Nat->Bool × Nat) (hf:Reads 12 (fun p=>#[p]) s st) (hg:Goes s.size st) (w:World) (b i:Nat) (hi':i<=s.size) (h:Sc w b s i) :
  Calls Tryz.prog 11 #[.pointer (some ⟨b,0,none⟩),.func (.func 12) #[.pointer (some ⟨b,0,none⟩)] #[]] w fun e w'=>e=.returned (.string (s.extract i (manyTo st (s.size - i) i)))/\Sc w' b s (manyTo st (s.size - i) i)/\But b w w':=by
 obtain ⟨j,hj⟩:∃ j,Hid (manyTo st (s.size - i) i=j):=⟨_,rfl⟩
 rw [hj.out]
 have hge:i<=j/\j<=s.size:=by rw [<- hj.out];exact manyTo_ge hg _ _ hi'
 obtain ⟨hge1,hge2⟩:=hge
 obtain ⟨c0,c1,f0,f1⟩:=h.cells
 go_enter Tryz.func11,Tryz.ntmps11
 go_wp2
 go_loopw [] (fun wr=>∃ k,k<=s.size/\Sc wr b s k/\But b w wr/\Hid (manyTo st (s.size - k) k=j)) (fun wr=>s.size - posOf wr b)
 case atStart=>exact ⟨i,hi',h,But.refl _ _,hj⟩
 case round =>
  clear c0 c1 f0 f1 hj hi' h
  obtain ⟨k,hk,h,bw,hj⟩:=hrel
  have hpk:=h.pos
  have cR:=hf wr b k hk h
  cases hA:(st k).1
  ·have hs2:=(hg k hk).2 hA
   rw [manyTo_stop hA] at hj
   have hkj:=hj.out
   subst hkj
   clear hj
   rw [hA,hs2] at cR
   go_wp2_with (go_at_call 12;with_reducible refine cR.mono ?_;rintro e w1 ⟨rfl,h1,b1⟩;obtain ⟨d0,d1,g0,g1⟩:=h1.cells)
   go_region
   go_wp2
   go_ret
   exact ⟨rfl,h1,(bw.trans b1).drew⟩
  ·have hs2:=(hg k hk).1 hA
   rw [manyTo_step hg hk hA] at hj
   rw [hA] at cR
   generalize (st k).2=m at hj cR hs2
   go_wp2_with (go_at_call 12;with_reducible refine cR.mono ?_;rintro e w1 ⟨rfl,h1,b1⟩)
   go_roundw
   case rel=>exact ⟨m,hs2.2,h1,bw.trans b1,hj⟩
   case measure=>rw [h1.pos,hpk];omega
def tokV (k at' len n:Int) (t:ByteArray):Value:=.agg #[.int .i64 k,.int .i64 at',.int .i64 len,.int .i64 n,.string t]
def fltV (k at':Int):Value:=.agg #[.int .i64 k,.int .i64 at',.slice none 0 0,.slice none 0 0,.string ⟨#[]⟩]
inductive Tk where
 | tok (k n:Int) (t:ByteArray) (j:Nat)
 | bad (e:Int) (at':Nat)
def Tk.val:Tk->Value
 | .tok k n t _=>.tuple #[tokV k 0 0 n t,fltV 0 0]
 | .bad e a=>.tuple #[tokV 0 0 0 0 ⟨#[]⟩,fltV e a]
def Tk.at' (r:Tk) (j:Nat):Prop:=match r with
 | .tok _ _ _ j'=>j=j'
 | .bad _ _=>True
def Toks (s:ByteArray) (b:Nat) (w:World) (r:Tk) (e:Ending) (w':World):Prop:=e=.returned r.val/\(∃ j,j<=s.size/\Sc w' b s j/\r.at' j)/\But b w w'
def Res (w:World) (X:Nat):Prop:=w.heap[X]?=some (.cells #[.int .i64 0,.int .i64 0,.int .i64 0,.int .i64 0,.string ⟨#[]⟩] 37 (0,0))/\w.heap[X+1]?=some (.cells #[.int .i64 0,.int .i64 0,.slice none 0 0,.slice none 0 0,.string ⟨#[]⟩] 31 (0,0))
theorem Res.tok {w:World}{X:Nat}(h:Res w X):w.cell? ⟨X,0,none⟩=some (.int .i64 0)/\w.cell? ⟨X,1,none⟩=some (.int .i64 0)/\w.cell? ⟨X,2,none⟩=some (.int .i64 0)/\w.cell? ⟨X,3,none⟩=some (.int .i64 0)/\w.cell? ⟨X,4,none⟩=some (.string ⟨#[]⟩) /\
  w.frozen? ⟨X,0,none⟩=false/\w.frozen? ⟨X,1,none⟩=false/\w.frozen? ⟨X,2,none⟩=false/\w.frozen? ⟨X,3,none⟩=false/\w.frozen? ⟨X,4,none⟩=false:=by
 obtain ⟨h,-⟩:=h
 refine ⟨?_,?_,?_,?_,?_,?_,?_,?_,?_,?_⟩ <;> simp [World.cell?,World.frozen?,h]
theorem Res.flt {w:World}{X:Nat}(h:Res w X):w.cell? ⟨X+1,0,none⟩=some (.int .i64 0)/\w.cell? ⟨X+1,1,none⟩=some (.int .i64 0)/\w.cell? ⟨X+1,2,none⟩=some (.slice none 0 0)/\w.cell? ⟨X+1,3,none⟩=some (.slice none 0 0)/\w.cell? ⟨X+1,4,none⟩=some (.string ⟨#[]⟩) /\
  w.frozen? ⟨X+1,0,none⟩=false/\w.frozen? ⟨X+1,1,none⟩=false/\w.frozen? ⟨X+1,2,none⟩=false/\w.frozen? ⟨X+1,3,none⟩=false/\w.frozen? ⟨X+1,4,none⟩=false:=by
 obtain ⟨-,h⟩:=h
 refine ⟨?_,?_,?_,?_,?_,?_,?_,?_,?_,?_⟩ <;> simp [World.cell?,World.frozen?,h]
theorem Res.new (w:World):Res ((w.alloc (.cells #[.int .i64 0,.int .i64 0,.int .i64 0,.int .i64 0,.string ⟨#[]⟩] 37)).alloc (.cells #[.int .i64 0,.int .i64 0,.slice none 0 0,.slice none 0 0,.string ⟨#[]⟩] 31)) w.heap.size:=by
 have hs:(w.alloc (.cells #[.int .i64 0,.int .i64 0,.int .i64 0,.int .i64 0,.string ⟨#[]⟩] 37)).heap.size=w.heap.size+1:=by simp
 refine ⟨((below_new _ _).block _ (by omega)).trans (heap_alloc_new w _),?_⟩
 have:=heap_alloc_new (w.alloc (.cells #[.int .i64 0,.int .i64 0,.int .i64 0,.int .i64 0,.string ⟨#[]⟩] 37)) (.cells #[.int .i64 0,.int .i64 0,.slice none 0 0,.slice none 0 0,.string ⟨#[]⟩] 31)
 rw [hs] at this
 exact this
theorem Res.drew {w:World}{X:Nat}(h:Res w X):Res w.drew X:=h
theorem Res.lt {w:World}{X:Nat}(h:Res w X):X+1<w.heap.size:=(Array.getElem?_eq_some_iff.1 h.2).1
theorem Res.but {w w':World}{X b:Nat}(h:Res w X) (hb:But b w w') (hn:b<X):Res w' X :=
 ⟨(hb.block X (by have:=h.lt;omega) (by omega)).trans h.1,(hb.block (X+1) h.lt (by omega)).trans h.2⟩
theorem Sc.put {w:World}{b:Nat}{s:ByteArray}{i:Nat}(h:Sc w b s i) {p:Addr}(hp:b<p.block) (v:Value):Sc (w.setCell p v) b s i:=h.keep (Below.heap_setCell _ _ _ _ (by omega))
theorem But.put {b:Nat}{w w':World}(h:But b w w') {p:Addr}(hp:w.heap.size<=p.block) (v:Value):But b w (w'.setCell p v) :=
 ⟨h.os,h.tape,h.output,by simpa [World.setCell] using h.size,fun k hk hb=>(Below.heap_setCell _ _ _ _ (by omega)).trans (h.block k hk hb)⟩
theorem But.start (b:Nat) (w:World) (o1 o2:Obj):But b w ((w.alloc o1).alloc o2):=But.of (Below.then (below_new _ _) (below_new _ _))
theorem Sc.start {w:World}{b:Nat}{s:ByteArray}{i:Nat}(h:Sc w b s i) (o1 o2:Obj):Sc ((w.alloc o1).alloc o2) b s i:=h.below (Below.then (below_new _ _) (below_new _ _))
theorem stored {w w3:World}{b j:Nat}{s:ByteArray}(hlt:b<w.heap.size) (h:Sc w3 b s j) (B:But b w w3) (a0 a1 a2 a3 a4 c0 c1 c2 c3 c4:Value) :
  Sc ((((((((((w3.setCell ⟨w.heap.size,0,none⟩ a0).setCell ⟨w.heap.size,1,none⟩ a1).setCell ⟨w.heap.size,2,none⟩ a2).setCell ⟨w.heap.size,3,none⟩ a3).setCell ⟨w.heap.size,4,none⟩ a4).setCell ⟨w.heap.size+1,0,none⟩ c0).setCell ⟨w.heap.size+1,1,none⟩ c1).setCell ⟨w.heap.size+1,2,none⟩ c2).setCell ⟨w.heap.size+1,3,none⟩ c3).setCell ⟨w.heap.size+1,4,none⟩ c4) b s j/\But b w ((((((((((w3.setCell ⟨w.heap.size,0,none⟩ a0).setCell ⟨w.heap.size,1,none⟩ a1).setCell ⟨w.heap.size,2,none⟩ a2).setCell ⟨w.heap.size,3,none⟩ a3).setCell ⟨w.heap.size,4,none⟩ a4).setCell ⟨w.heap.size+1,0,none⟩ c0).setCell ⟨w.heap.size+1,1,none⟩ c1).setCell ⟨w.heap.size+1,2,none⟩ c2).setCell ⟨w.heap.size+1,3,none⟩ c3).setCell ⟨w.heap.size+1,4,none⟩ c4):=by
 constructor
 ·iterate 10 refine Sc.put ?_ (by first | exact hlt | exact Nat.lt_succ_of_lt hlt) _
  exact h
 ·iterate 10 refine But.put ?_ (by first | exact Nat.le_refl _ | exact Nat.le_succ _) _
  exact B
def numAt (s:ByteArray) (start j:Nat):Tk :=
 if (Num.rdS (s.extract start j).data.toList).2≠0∨isLet s j=true∨inB s j 95 95=true then .bad 4 start else .tok 1 (Num.rdS (s.extract start j).data.toList).1 ⟨#[]⟩ j
def numS (s:ByteArray) (start i:Nat):Tk:=numAt s start (manyTo (one (isDig s)) (s.size - i) i)
def upB (l:List UInt8):Bool:=l.any fun c=>decide (65<=c.toNat/\c.toNat<=90)
def wordAt (t:ByteArray) (start j:Nat):Tk :=
 if resB t.toList=true then .tok 5 0 t j else if upB t.toList=true then .bad 6 start else if 32<t.size then .bad 9 start else .tok 4 0 t j
def wordS (s:ByteArray) (start i:Nat):Tk:=wordAt (s.extract start (manyTo (one (isLD s)) (s.size - i) i)) start (manyTo (one (isLD s)) (s.size - i) i)
def symS (s:ByteArray) (i:Nat):Tk :=
 if i+2<=s.size/\(signB (s.extract i (i+2)).toList || resB (s.extract i (i+2)).toList)=true then .tok 5 0 (s.extract i (i+2)) (i+2)
 else if signB (s.extract i (i+1)).toList || resB (s.extract i (i+1)).toList then .tok 5 0 (s.extract i (i+1)) (i+1)
 else .bad 6 i
set_option maxRecDepth 100000 in
theorem failedQ (e a:Int) (w:World):Calls Tryz.prog 40 #[.int .i64 e,.int .i64 a] w fun r w'=>r=.returned (.tuple #[.agg #[.int .i64 0,.int .i64 0,.int .i64 0,.int .i64 0,.string ⟨#[]⟩],.agg #[.int .i64 e,.int .i64 a,.slice none 0 0,.slice none 0 0,.string ⟨#[]⟩]])/\Below w.heap.size w w':=by
 go_enter Tryz.func40,Tryz.ntmps40
 go_wp2
 go_returns
 exact ⟨rfl,Below.then (below_new _ _) (below_new _ _)⟩
/-! ### Letters -/
theorem lower_eq {l:List UInt8}(h:upB l=false):Lib.toLowerA l=l:=by
 induction l with
 | nil=>rfl
 | cons c r ih =>
  simp only [upB,List.any_cons,Bool.or_eq_false_iff,decide_eq_false_iff_not] at h
  rw [Lib.toLowerA,List.map_cons]
  have h2:=ih (by simpa [upB] using h.2)
  rw [Lib.toLowerA] at h2
  rw [h2,Lib.lowerB,if_neg (by have:=h.1;simp only [Lib.isUpperB,Bool.and_eq_true,decide_eq_true_eq];intro q;exact this ⟨UInt8.le_iff_toNat_le.1 q.1,UInt8.le_iff_toNat_le.1 q.2⟩)]
theorem lower_ne {l:List UInt8}(h:upB l=true):Lib.toLowerA l≠l:=by
 induction l with
 | nil=>cases h
 | cons c r ih =>
  intro e
  rw [Lib.toLowerA,List.map_cons] at e
  injection e with e1 e2
  simp only [upB,List.any_cons,Bool.or_eq_true,decide_eq_true_eq] at h
  rcases h with h | h
  ·rw [Lib.lowerB,if_pos (by simp only [Lib.isUpperB,Bool.and_eq_true,decide_eq_true_eq];exact ⟨UInt8.le_iff_toNat_le.2 h.1,UInt8.le_iff_toNat_le.2 h.2⟩)] at e1
   have:=congrArg UInt8.toNat e1
   rw [UInt8.toNat_add] at this
   simp at this
   omega
  ·exact ih (by simpa [upB] using h) e2
theorem inB_ascii {s:ByteArray}{i:Nat}{lo hi:Int}(h:inB s i lo hi=true) (hh:hi<128) (hi':i<s.size):s[i].toNat<128:=by
 simp only [inB,hi',dif_pos,decide_eq_true_eq] at h
 omega
theorem isLD_ascii {s:ByteArray}{i:Nat}(h:isLD s i=true) (hi':i<s.size):s[i].toNat<128:=by
 simp only [isLD,isLet,isDig,Bool.or_eq_true] at h
 rcases h with (h | h) | h
 ·exact inB_ascii h (by decide) hi'
 ·exact inB_ascii h (by decide) hi'
 ·exact inB_ascii h (by decide) hi'
theorem many_all {n:Nat}{p:Nat->Bool}:∀ (f i k:Nat),i<=k->k<manyTo (one p) f i->p k=true
 | 0,i,k,h1,h2=>by rw [manyTo] at h2;omega
 | f+1,i,k,h1,h2=>by
  rw [manyTo] at h2
  split at h2
  ·rename_i ht
   have hp:p i=true:=ht
   by_cases e:k=i
   ·rw [e,hp]
   ·refine many_all (n:=n) f (i+1) k (by omega) ?_
    have e1:(one p i).2=i+1:=by simp [one,hp,adv]
    rw [e1] at h2
    exact h2
  ·omega
theorem extract_ascii {s:ByteArray}{a c:Nat}(hc:c<=s.size) (h:∀ k,a<=k->k<c->isLD s k=true):∀ (j:Nat) (b:UInt8),(s.extract a c).data.toList[j]?=some b->b.toNat<128:=by
 intro j b hj
 have e:(s.extract a c).data=s.data.extract a c:=ByteArray.data_extract
 rw [e,Array.toList_extract,List.extract_eq_take_drop,List.getElem?_take] at hj
 split at hj
 ·rename_i hl
  rw [List.getElem?_drop] at hj
  have hk:a+j<s.size:=by omega
  have h1:=isLD_ascii (h (a+j) (by omega) (by omega)) hk
  have:s.data.toList[a+j]?=some s[a+j]:=by
   rw [List.getElem?_eq_getElem (by simpa using hk)];rfl
  rw [this] at hj
  injection hj with hj
  rw [<- hj];exact h1
 ·cases hj
set_option maxRecDepth 100000 in
theorem wordQ (s:ByteArray) (hs:s.size<=65536) (w:World) (b start i:Nat) (hst:start<=i) (hi':i<=s.size) (hL:∀ k,start<=k->k<i->isLD s k=true) (h:Sc w b s i) :
  Calls Tryz.prog 27 #[.pointer (some ⟨b,0,none⟩),.int .i64 (start:Int)] w (Toks s b w (wordS s start i)):=by
 obtain ⟨r,hr⟩:∃ r,Hid (wordS s start i=r):=⟨_,rfl⟩
 rw [hr.out]
 have hlt:=h.lt
 have g:=manyTo_ge (goes_one (n:=s.size) (p:=isLD s) fun i h=>isLD_lt h) (s.size - i) i hi'
 have hall:=many_all (n:=s.size) (p:=isLD s) (s.size - i) i
 have cM:=fun w (h:Sc w b s i)=>many_letterOrDigit s hs _ (letterOrDigitQ s hs) (goes_one fun i h=>isLD_lt h) w b i hi' h
 unfold wordS at hr
 generalize manyTo (one (isLD s)) (s.size - i) i=j at cM g hr hall
 obtain ⟨g1,g2⟩:=g
 have hsj:start<=j:=by omega
 have hss:(s.extract start j).size<=65536:=by rw [ByteArray.size_extract];omega
 have hasc:=extract_ascii (s:=s) (a:=start) (c:=j) g2 (fun k h1 h2=>(Nat.lt_or_ge k i).elim (hL k h1) (fun h3=>hall k h3 h2))
 obtain ⟨t,ht⟩:∃ t,s.extract start j=t:=⟨_,rfl⟩
 rw [ht] at hr hss hasc
 unfold wordAt at hr
 obtain ⟨u,hu⟩:∃ u:ByteArray,Hid ((⟨(Lib.toLowerA t.data.toList).toArray⟩:ByteArray)=u):=⟨_,rfl⟩
 have cL:=fun w=>Tryz.strings_ToLower_ascii t w (by omega) hasc
 rw [hu.out] at cL
 have hul:u.toList=Lib.toLowerA t.toList:=by rw [<- hu.out,ByteArray.toList_eq,ByteArray.toList_eq]
 have hts:t.size<=9223372036854775807:=by omega
 clear hasc hall hL
 cases hA:resB t.toList
 ·cases hB:upB t.toList
  ·have hc1:(t.toList==u.toList)=true:=by rw [hul,lower_eq hB];simp
   have hc2:(t.toList != u.toList)=false:=by rw [bne,hc1];rfl
   clear hul
   by_cases hC:32<t.size
   ·have hr2:r=.bad 9 start:=by rw [<- hr.out,if_neg (by rw [hA];simp),if_neg (by rw [hB];simp),if_pos hC]
    subst hr2
    have hC':32 <(t.size:Int):=by omega
    clear hr
    go_enter Tryz.func27,Tryz.ntmps27
    go_wp2_with (go_at_call 11;with_reducible refine (cM _ (h.start _ _)).mono ?_;rintro e w1 ⟨rfl,h1,b1⟩;have r1:=(Res.new w).but b1 hlt;have B1:=(But.start b w _ _).trans b1;have s1:=B1.size;obtain ⟨d0,d1,g0,g1⟩:=h1.cells)
    go_region
    all_goals have h2:=h1.drew
    all_goals have r2:=r1.drew
    all_goals have B2:=B1.drew
    all_goals go_wp2_with (first
     |(go_at_call 42;with_reducible refine (reservedQ t _).mono ?_;rintro e3 w3 ⟨rfl,rfl⟩)
     |(go_at_call 43;with_reducible refine (cL _).mono ?_;rintro e4 w4 ⟨rfl,b4⟩;have h4:=h2.below b4;have r4:=r2.but (But.of b4) hlt;have B4:=B2.trans (But.of b4))
     |(go_at_call 40;with_reducible refine (failedQ 9 start _).mono ?_;rintro e5 w5 ⟨rfl,b5⟩;have h5:=h4.below b5;have r5:=r4.but (But.of b5) hlt;have B5:=B4.trans (But.of b5);obtain ⟨p0,p1,p2,p3,p4,p5,p6,p7,p8,p9⟩:=r5.tok;obtain ⟨q0,q1,q2,q3,q4,q5,q6,q7,q8,q9⟩:=r5.flt))
    all_goals refine bodyPost_ret (by simp [results,Tryz.results27,go_sem,p0,p1,p2,p3,p4,q0,q1,q2,q3,q4];try rfl) rfl ?_
    all_goals (obtain ⟨k1,k2⟩:=stored hlt h5 B5 (.int .i64 0) (.int .i64 0) (.int .i64 0) (.int .i64 0) (.string ⟨#[]⟩) (.int .i64 9) (.int .i64 (start:Int)) (.slice none 0 0) (.slice none 0 0) (.string ⟨#[]⟩);exact ⟨rfl,⟨j,g2,k1,trivial⟩,k2⟩)
   ·have hr2:r=.tok 4 0 t j:=by rw [<- hr.out,if_neg (by rw [hA];simp),if_neg (by rw [hB];simp),if_neg hC]
    subst hr2
    have hC':¬ 32 <(t.size:Int):=by omega
    clear hr
    go_enter Tryz.func27,Tryz.ntmps27
    go_wp2_with (go_at_call 11;with_reducible refine (cM _ (h.start _ _)).mono ?_;rintro e w1 ⟨rfl,h1,b1⟩;have r1:=(Res.new w).but b1 hlt;have B1:=(But.start b w _ _).trans b1;have s1:=B1.size;obtain ⟨d0,d1,g0,g1⟩:=h1.cells)
    go_region
    all_goals have h2:=h1.drew
    all_goals have r2:=r1.drew
    all_goals have B2:=B1.drew
    all_goals go_wp2_with (first
     |(go_at_call 42;with_reducible refine (reservedQ t _).mono ?_;rintro e3 w3 ⟨rfl,rfl⟩)
     |(go_at_call 43;with_reducible refine (cL _).mono ?_;rintro e4 w4 ⟨rfl,b4⟩;have h4:=h2.below b4;have r4:=r2.but (But.of b4) hlt;have B4:=B2.trans (But.of b4);obtain ⟨p0,p1,p2,p3,p4,p5,p6,p7,p8,p9⟩:=r4.tok;obtain ⟨q0,q1,q2,q3,q4,q5,q6,q7,q8,q9⟩:=r4.flt))
    all_goals refine bodyPost_ret (by simp [results,Tryz.results27,go_sem,p0,p1,p2,p3,p4,q0,q1,q2,q3,q4];try rfl) rfl ?_
    all_goals (obtain ⟨k1,k2⟩:=stored hlt h4 B4 (.int .i64 4) (.int .i64 0) (.int .i64 0) (.int .i64 0) (.string t) (.int .i64 0) (.int .i64 0) (.slice none 0 0) (.slice none 0 0) (.string ⟨#[]⟩);exact ⟨rfl,⟨j,g2,k1,rfl⟩,k2⟩)
  ·have hr2:r=.bad 6 start:=by rw [<- hr.out,if_neg (by rw [hA];simp),if_pos hB]
   subst hr2
   have hc1:(t.toList==u.toList)=false:=by
    rw [hul,beq_eq_false_iff_ne]
    exact fun e=>lower_ne hB e.symm
   have hc2:(t.toList != u.toList)=true:=by rw [bne,hc1];rfl
   clear hul
   clear hr
   go_enter Tryz.func27,Tryz.ntmps27
   go_wp2_with (go_at_call 11;with_reducible refine (cM _ (h.start _ _)).mono ?_;rintro e w1 ⟨rfl,h1,b1⟩;have r1:=(Res.new w).but b1 hlt;have B1:=(But.start b w _ _).trans b1;have s1:=B1.size;obtain ⟨d0,d1,g0,g1⟩:=h1.cells)
   go_region
   all_goals have h2:=h1.drew
   all_goals have r2:=r1.drew
   all_goals have B2:=B1.drew
   all_goals go_wp2_with (first
    |(go_at_call 42;with_reducible refine (reservedQ t _).mono ?_;rintro e3 w3 ⟨rfl,rfl⟩)
    |(go_at_call 43;with_reducible refine (cL _).mono ?_;rintro e4 w4 ⟨rfl,b4⟩;have h4:=h2.below b4;have r4:=r2.but (But.of b4) hlt;have B4:=B2.trans (But.of b4))
    |(go_at_call 40;with_reducible refine (failedQ 6 start _).mono ?_;rintro e5 w5 ⟨rfl,b5⟩;have h5:=h4.below b5;have r5:=r4.but (But.of b5) hlt;have B5:=B4.trans (But.of b5);obtain ⟨p0,p1,p2,p3,p4,p5,p6,p7,p8,p9⟩:=r5.tok;obtain ⟨q0,q1,q2,q3,q4,q5,q6,q7,q8,q9⟩:=r5.flt))
   all_goals refine bodyPost_ret (by simp [results,Tryz.results27,go_sem,p0,p1,p2,p3,p4,q0,q1,q2,q3,q4];try rfl) rfl ?_
   all_goals (obtain ⟨k1,k2⟩:=stored hlt h5 B5 (.int .i64 0) (.int .i64 0) (.int .i64 0) (.int .i64 0) (.string ⟨#[]⟩) (.int .i64 6) (.int .i64 (start:Int)) (.slice none 0 0) (.slice none 0 0) (.string ⟨#[]⟩);exact ⟨rfl,⟨j,g2,k1,trivial⟩,k2⟩)
 ·have hr2:r=.tok 5 0 t j:=by rw [<- hr.out,if_pos hA]
  subst hr2
  clear hr hul
  go_enter Tryz.func27,Tryz.ntmps27
  go_wp2_with (go_at_call 11;with_reducible refine (cM _ (h.start _ _)).mono ?_;rintro e w1 ⟨rfl,h1,b1⟩;have r1:=(Res.new w).but b1 hlt;have B1:=(But.start b w _ _).trans b1;have s1:=B1.size;obtain ⟨d0,d1,g0,g1⟩:=h1.cells)
  go_region
  all_goals have h2:=h1.drew
  all_goals have r2:=r1.drew
  all_goals have B2:=B1.drew
  all_goals go_wp2_with (first
   |(go_at_call 42;with_reducible refine (reservedQ t _).mono ?_;rintro e3 w3 ⟨rfl,rfl⟩;obtain ⟨p0,p1,p2,p3,p4,p5,p6,p7,p8,p9⟩:=r1.tok;obtain ⟨q0,q1,q2,q3,q4,q5,q6,q7,q8,q9⟩:=r1.flt))
  all_goals refine bodyPost_ret (by simp [results,Tryz.results27,go_sem,p0,p1,p2,p3,p4,q0,q1,q2,q3,q4];try rfl) rfl ?_
  all_goals (obtain ⟨k1,k2⟩:=stored hlt h1 B1 (.int .i64 5) (.int .i64 0) (.int .i64 0) (.int .i64 0) (.string t) (.int .i64 0) (.int .i64 0) (.slice none 0 0) (.slice none 0 0) (.string ⟨#[]⟩);exact ⟨rfl,⟨j,g2,k1.drew,rfl⟩,k2.drew⟩)
set_option maxRecDepth 100000 in
theorem symbolQ (s:ByteArray) (hs:s.size<=65536) (w:World) (b i:Nat) (hi':i<s.size) (h:Sc w b s i) :
  Calls Tryz.prog 30 #[.pointer (some ⟨b,0,none⟩)] w (Toks s b w (symS s i)):=by
 obtain ⟨r,hr⟩:∃ r,Hid (symS s i=r):=⟨_,rfl⟩
 rw [hr.out]
 have hlt:=h.lt
 have g1:i<=s.size:=by omega
 obtain ⟨rs,hrs⟩:∃ rs,s.extract i s.size=rs:=⟨_,rfl⟩
 have hn:rs.size=s.size - i:=by rw [<- hrs,ByteArray.size_extract];omega
 obtain ⟨n,hns⟩:∃ n,n=rs.size:=⟨_,rfl⟩
 have hz:rs.size=n:=hns.symm
 have hni:n=s.size - i:=by omega
 clear hn hns
 have x1:s.extract i (i+1)=rs.extract 0 1:=by rw [<- hrs,ByteArray.extract_extract];congr 1 <;> omega
 obtain ⟨t1,ht1⟩:∃ t,rs.extract 0 1=t:=⟨_,rfl⟩
 rw [ht1] at x1
 have c1:=fun w=>isSymbolQ t1 w
 have h2:=(h.start (.cells #[.int .i64 0,.int .i64 0,.int .i64 0,.int .i64 0,.string ⟨#[]⟩] 37 (0,0)) (.cells #[.int .i64 0,.int .i64 0,.slice none 0 0,.slice none 0 0,.string ⟨#[]⟩] 31 (0,0))).drew
 have r2:=(Res.new w).drew
 have B2:=(But.start b w (.cells #[.int .i64 0,.int .i64 0,.int .i64 0,.int .i64 0,.string ⟨#[]⟩] 37 (0,0)) (.cells #[.int .i64 0,.int .i64 0,.slice none 0 0,.slice none 0 0,.string ⟨#[]⟩] 31 (0,0))).drew
 obtain ⟨d0,d1,g0,g1'⟩:=h.cells
 have hl1:(1:Int)<=(n:Int):=by omega
 by_cases hn2:i+2<=s.size
 ·have hl2:(2:Int)<=(n:Int):=by omega
  have hmin:min (2:Int) (n:Int)=2:=by omega
  have x2:s.extract i (i+2)=rs.extract 0 2:=by rw [<- hrs,ByteArray.extract_extract];congr 1 <;> omega
  clear hni
  obtain ⟨t2,ht2⟩:∃ t,rs.extract 0 2=t:=⟨_,rfl⟩
  have c2:=fun w=>isSymbolQ t2 w
  rw [ht2] at x2
  cases hA:(signB t2.toList || resB t2.toList)
  ·cases hB:(signB t1.toList || resB t1.toList)
   ·have hr2:r=.bad 6 i:=by rw [<- hr.out,symS,x2,x1,if_neg (by rw [hA];simp),if_neg (by rw [hB];simp)]
    subst hr2
    clear hr
    simp only [hA] at c2
    simp only [hB] at c1
    go_enter Tryz.func30,Tryz.ntmps30
    go_wp2
    go_region
    all_goals go_wp2
    all_goals refine wp_loop_rounds 3 ?_
    all_goals (rw [rounds_succ];go_wp2_with (first |(go_at_call 46;with_reducible refine (c2 _).mono ?_;rintro e2 w2 ⟨rfl,rfl⟩) |(go_at_call 46;with_reducible refine (c1 _).mono ?_;rintro e1 w1 ⟨rfl,rfl⟩)))
    all_goals (rw [rounds_succ];go_wp2_with (first |(go_at_call 46;with_reducible refine (c2 _).mono ?_;rintro e2 w2 ⟨rfl,rfl⟩) |(go_at_call 46;with_reducible refine (c1 _).mono ?_;rintro e1 w1 ⟨rfl,rfl⟩)))
    all_goals (rw [rounds_succ];go_wp2_with (first |(go_at_call 46;with_reducible refine (c2 _).mono ?_;rintro e2 w2 ⟨rfl,rfl⟩) |(go_at_call 46;with_reducible refine (c1 _).mono ?_;rintro e1 w1 ⟨rfl,rfl⟩)))
    all_goals go_wp2_with (first |(go_at_call 40;with_reducible refine (failedQ 6 (i:Int) _).mono ?_;rintro e9 w9 ⟨rfl,b9⟩;have h9:=h2.below b9;have r9:=r2.but (But.of b9) hlt;have B9:=B2.trans (But.of b9);obtain ⟨p0,p1,p2,p3,p4,p5,p6,p7,p8,p9⟩:=r9.tok;obtain ⟨q0,q1,q2,q3,q4,q5,q6,q7,q8,q9⟩:=r9.flt))
    all_goals refine bodyPost_ret (by simp [results,Tryz.results30,go_sem,p0,p1,p2,p3,p4,q0,q1,q2,q3,q4];try rfl) rfl ?_
    all_goals (obtain ⟨k1,k2⟩:=stored hlt h9 B9 (.int .i64 0) (.int .i64 0) (.int .i64 0) (.int .i64 0) (.string ⟨#[]⟩) (.int .i64 6) (.int .i64 (i:Int)) (.slice none 0 0) (.slice none 0 0) (.string ⟨#[]⟩);exact ⟨rfl,⟨i,(by omega),k1,trivial⟩,k2⟩)
   ·have hr2:r=.tok 5 0 t1 (i+1):=by rw [<- hr.out,symS,x2,x1,if_neg (by rw [hA];simp),if_pos hB]
    subst hr2
    clear hr
    simp only [hA] at c2
    simp only [hB] at c1
    go_enter Tryz.func30,Tryz.ntmps30
    go_wp2
    go_region
    all_goals go_wp2
    all_goals refine wp_loop_rounds 3 ?_
    all_goals (rw [rounds_succ];go_wp2_with (first |(go_at_call 46;with_reducible refine (c2 _).mono ?_;rintro e2 w2 ⟨rfl,rfl⟩) |(go_at_call 46;with_reducible refine (c1 _).mono ?_;rintro e1 w1 ⟨rfl,rfl⟩)))
    all_goals (rw [rounds_succ];go_wp2_with (first |(go_at_call 46;with_reducible refine (c2 _).mono ?_;rintro e2 w2 ⟨rfl,rfl⟩) |(go_at_call 46;with_reducible refine (c1 _).mono ?_;rintro e1 w1 ⟨rfl,rfl⟩)))
    all_goals go_returns
    all_goals exact ⟨rfl,⟨i+1,(by omega),((h.set (i+1)).start _ _).drew,rfl⟩,((But.set _ _ _).trans (But.start _ _ _ _)).drew⟩
  ·have hr2:r=.tok 5 0 t2 (i+2):=by rw [<- hr.out,symS,x2,if_pos ⟨hn2,hA⟩]
   subst hr2
   clear hr
   simp only [hA] at c2
   go_enter Tryz.func30,Tryz.ntmps30
   go_wp2
   go_region
   all_goals go_wp2
   all_goals refine wp_loop_rounds 3 ?_
   all_goals (rw [rounds_succ];go_wp2_with (first |(go_at_call 46;with_reducible refine (c2 _).mono ?_;rintro e2 w2 ⟨rfl,rfl⟩)))
   all_goals go_returns
   all_goals exact ⟨rfl,⟨i+2,(by omega),((h.set (i+2)).start _ _).drew,rfl⟩,((But.set _ _ _).trans (But.start _ _ _ _)).drew⟩
 ·obtain rfl:n=1:=by omega
  clear hni
  have hmin:min (2:Int) 1=1:=by decide
  cases hB:(signB t1.toList || resB t1.toList)
  ·have hr2:r=.bad 6 i:=by rw [<- hr.out,symS,x1,if_neg (fun q=>hn2 q.1),if_neg (by rw [hB];simp)]
   subst hr2
   clear hr
   simp only [hB] at c1
   go_enter Tryz.func30,Tryz.ntmps30
   go_wp2
   go_region
   all_goals go_wp2
   all_goals refine wp_loop_rounds 3 ?_
   all_goals (rw [rounds_succ];go_wp2_with (first |(go_at_call 46;with_reducible refine (c1 _).mono ?_;rintro e1 w1 ⟨rfl,rfl⟩)))
   all_goals (rw [rounds_succ];go_wp2_with (first |(go_at_call 46;with_reducible refine (c1 _).mono ?_;rintro e1 w1 ⟨rfl,rfl⟩)))
   all_goals go_wp2_with (first |(go_at_call 40;with_reducible refine (failedQ 6 (i:Int) _).mono ?_;rintro e9 w9 ⟨rfl,b9⟩;have h9:=h2.below b9;have r9:=r2.but (But.of b9) hlt;have B9:=B2.trans (But.of b9);obtain ⟨p0,p1,p2,p3,p4,p5,p6,p7,p8,p9⟩:=r9.tok;obtain ⟨q0,q1,q2,q3,q4,q5,q6,q7,q8,q9⟩:=r9.flt))
   all_goals refine bodyPost_ret (by simp [results,Tryz.results30,go_sem,p0,p1,p2,p3,p4,q0,q1,q2,q3,q4];try rfl) rfl ?_
   all_goals (obtain ⟨k1,k2⟩:=stored hlt h9 B9 (.int .i64 0) (.int .i64 0) (.int .i64 0) (.int .i64 0) (.string ⟨#[]⟩) (.int .i64 6) (.int .i64 (i:Int)) (.slice none 0 0) (.slice none 0 0) (.string ⟨#[]⟩);exact ⟨rfl,⟨i,(by omega),k1,trivial⟩,k2⟩)
  ·have hr2:r=.tok 5 0 t1 (i+1):=by rw [<- hr.out,symS,x1,if_neg (fun q=>hn2 q.1),if_pos hB]
   subst hr2
   clear hr
   simp only [hB] at c1
   go_enter Tryz.func30,Tryz.ntmps30
   go_wp2
   go_region
   all_goals go_wp2
   all_goals refine wp_loop_rounds 3 ?_
   all_goals (rw [rounds_succ];go_wp2_with (first |(go_at_call 46;with_reducible refine (c1 _).mono ?_;rintro e1 w1 ⟨rfl,rfl⟩)))
   all_goals go_returns
   all_goals exact ⟨rfl,⟨i+1,(by omega),((h.set (i+1)).start _ _).drew,rfl⟩,((But.set _ _ _).trans (But.start _ _ _ _)).drew⟩
def ES (w:World):Prop:=∃ (tp:TypeId) (p:Value),w.cell? ⟨6,0,none⟩=some (.iface tp p)
def Tabs (w:World):Prop:=Lib.Utf8Tabs 4 5 w/\ES w
theorem Tabs.below {w w':World}(h:Tabs w) (hb:Below w.heap.size w w'):Tabs w':=⟨Utf8Tabs_below h.1 hb,let ⟨tp,p,e⟩:=h.2;⟨tp,p,(hb.cell (World.block_lt_of_cell? w _ e)).trans e⟩⟩
theorem Tabs.drew {w:World}(h:Tabs w):Tabs w.drew:=h
theorem Tabs.but {b:Nat}{w w':World}(h:Tabs w) (hb:But b w w') (h2:6<b):Tabs w':=by
 have lt:∀ {a:Addr}{v:Value},w.cell? a=some v->a.block<w.heap.size:=fun {a v} hc=>by
  rcases Nat.lt_or_ge a.block w.heap.size with h' | h'
  ·exact h'
  ·simp [World.cell?,Array.getElem?_eq_none h'] at hc
 have go:∀ {a:Addr}{v:Value},w.cell? a=some v->a.block≠b->w'.cell? a=some v:=fun {a v} hc hn=>(World.cell?_of_block (hb.block _ (lt hc) hn)).trans hc
 obtain ⟨⟨k1,k2⟩,tp,p,e⟩:=h
 exact ⟨⟨fun c hc=>go (k1 c hc) (by show 4≠b;omega),fun i hi=>⟨go (k2 i hi).1 (by show 5≠b;omega),go (k2 i hi).2 (by show 5≠b;omega)⟩⟩,tp,p,go e (by show 6≠b;omega)⟩
def plainB (c z:Nat):Bool:=decide (32<=c)&&(decide (c≠65533) || decide (1<z))
theorem dec_pos (s:ByteArray) (i:Nat) (hi:i<s.size):0 <(Utf8.decode s i).2/\i+(Utf8.decode s i).2<=s.size/\(Utf8.decode s i).1<=1114111:=by
 have hl:s.data.toList.length=s.size:=by simp
 rw [Lib.decode_N,hl]
 have a:=Lib.decodeN_ge1 (s.size - i) (s.data.toList.getD i 0).toNat (s.data.toList.getD (i+1) 0).toNat (s.data.toList.getD (i+2) 0).toNat (s.data.toList.getD (i+3) 0).toNat
 have b:=Lib.decodeN_width_le (s.size - i) (s.data.toList.getD i 0).toNat (s.data.toList.getD (i+1) 0).toNat (s.data.toList.getD (i+2) 0).toNat (s.data.toList.getD (i+3) 0).toNat (by omega)
 have c:=Lib.decodeN_valid (s.size - i) (s.data.toList.getD i 0).toNat (s.data.toList.getD (i+1) 0).toNat (s.data.toList.getD (i+2) 0).toNat (s.data.toList.getD (i+3) 0).toNat (UInt8.toNat_lt _)
 omega
theorem extract_list (s:ByteArray) (a c:Nat):(s.extract a c).data.toList =(s.data.toList.drop a).take (c - a):=by
 have e:(s.extract a c).data=s.data.extract a c:=ByteArray.data_extract
 rw [e,Array.toList_extract,List.extract_eq_take_drop]
theorem dec_extract (s:ByteArray) (i:Nat) (hi:i<s.size):Lib.decodeGo (s.extract i s.size)=Utf8.decode s i:=by
 have hz:(s.extract i s.size).size≠0:=by rw [ByteArray.size_extract];omega
 have hl:s.data.toList.length=s.size:=by simp
 rw [Lib.decodeGo,if_neg hz,<- Lib.decodeL_drop,<- Lib.decodeL_drop,List.drop_zero,extract_list,List.take_of_length_le (by rw [List.length_drop];omega)]
set_option maxRecDepth 100000 in
theorem plainQ (s:ByteArray) (hs:s.size<=65536) (w:World) (b i:Nat) (hi':i<s.size) (hb2:6<b) (hT:Tabs w) (h:Sc w b s i) :
  Calls Tryz.prog 63 #[.pointer (some ⟨b,0,none⟩)] w fun e w'=>e=.returned (.tuple #[.int .i32 ((Utf8.decode s i).1:Int),.bool (plainB (Utf8.decode s i).1 (Utf8.decode s i).2)])/\Sc w' b s (i+(Utf8.decode s i).2)/\But b w w':=by
 obtain ⟨d0,d1,f0,f1⟩:=h.cells
 obtain ⟨z0,z1,c1⟩:=dec_pos s i hi'
 obtain ⟨rs,hrs⟩:∃ rs,s.extract i s.size=rs:=⟨_,rfl⟩
 have g1:i<=s.size:=by omega
 have cD:∀ w,Tabs w->Calls Tryz.prog 84 #[.string rs] w fun e w'=>e=.returned (.tuple #[.int .i32 ((Utf8.decode s i).1:Int),.int .i64 ((Utf8.decode s i).2:Int)])/\Below w.heap.size w w':=fun w hT=>by
  have:=Tryz.utf8_DecodeRuneInString rs w hT.1
  rw [<- hrs,dec_extract s i hi'] at this
  rw [<- hrs]
  exact this
 generalize Utf8.decode s i=cz at *
 obtain ⟨c,z⟩:=cz
 simp only [] at *
 by_cases h32:32<=c
 ·have k1:¬ (c:Int)<32:=by omega
  have k1':(32:Int)<=(c:Int):=by omega
  by_cases hR:c=65533
  ·have k2:((c:Int) != 65533)=false:=by rw [hR];rfl
   by_cases hz:1<z
   ·have k3:(1:Int) <(z:Int):=by omega
    have e:plainB c z=true:=by simp [plainB,h32,hz]
    rw [e]
    clear hR e
    go_enter Tryz.func63,Tryz.ntmps63
    go_wp2
    go_region_law ((go_simp;(with_reducible refine (cD _ hT.drew).mono ?_);rintro e2 w2 ⟨rfl,b2⟩;have h2:=h.drew.below b2;have B2:=(But.refl b w).drew.trans (But.of b2);obtain ⟨d0,d1,f0,f1⟩:=h2.cells))
    all_goals go_wp2
    all_goals go_ret2
    all_goals first | exact ⟨rfl,h2.set (i+z),B2.trans (But.set b _ _)⟩ | exact ⟨by simp;omega,h2.set (i+z),B2.trans (But.set b _ _)⟩
   ·have k3:¬ (1:Int) <(z:Int):=by omega
    have e:plainB c z=false:=by simp [plainB,hR,hz]
    rw [e]
    clear hR e
    go_enter Tryz.func63,Tryz.ntmps63
    go_wp2
    go_region_law ((go_simp;(with_reducible refine (cD _ hT.drew).mono ?_);rintro e2 w2 ⟨rfl,b2⟩;have h2:=h.drew.below b2;have B2:=(But.refl b w).drew.trans (But.of b2);obtain ⟨d0,d1,f0,f1⟩:=h2.cells))
    all_goals go_wp2
    all_goals go_ret2
    all_goals first | exact ⟨rfl,h2.set (i+z),B2.trans (But.set b _ _)⟩ | exact ⟨by simp;omega,h2.set (i+z),B2.trans (But.set b _ _)⟩
  ·have k2:((c:Int) != 65533)=true:=by simp;omega
   have e:plainB c z=true:=by simp [plainB,h32,hR]
   rw [e]
   clear e
   go_enter Tryz.func63,Tryz.ntmps63
   go_wp2
   go_region_law ((go_simp;(with_reducible refine (cD _ hT.drew).mono ?_);rintro e2 w2 ⟨rfl,b2⟩;have h2:=h.drew.below b2;have B2:=(But.refl b w).drew.trans (But.of b2);obtain ⟨d0,d1,f0,f1⟩:=h2.cells))
   all_goals go_wp2
   all_goals go_ret2
   all_goals first | exact ⟨rfl,h2.set (i+z),B2.trans (But.set b _ _)⟩ | exact ⟨by simp;omega,h2.set (i+z),B2.trans (But.set b _ _)⟩
 ·have k1:(c:Int)<32:=by omega
  have k1':¬ (32:Int)<=(c:Int):=by omega
  have e:plainB c z=false:=by simp [plainB,h32]
  rw [e]
  clear e
  go_enter Tryz.func63,Tryz.ntmps63
  go_wp2
  go_region_law ((go_simp;(with_reducible refine (cD _ hT.drew).mono ?_);rintro e2 w2 ⟨rfl,b2⟩;have h2:=h.drew.below b2;have B2:=(But.refl b w).drew.trans (But.of b2);obtain ⟨d0,d1,f0,f1⟩:=h2.cells))
  all_goals go_wp2
  all_goals go_ret2
  all_goals first | exact ⟨rfl,h2.set (i+z),B2.trans (But.set b _ _)⟩ | exact ⟨by simp;omega,h2.set (i+z),B2.trans (But.set b _ _)⟩
set_option maxRecDepth 100000 in
theorem numberQ (s:ByteArray) (hs:s.size<=65536) (w:World) (b start i:Nat) (hst:start<=i) (hi':i<=s.size) (h:Sc w b s i) :
  Calls Tryz.prog 25 #[.pointer (some ⟨b,0,none⟩),.int .i64 (start:Int)] w (Toks s b w (numS s start i)):=by
 obtain ⟨r,hr⟩:∃ r,Hid (numS s start i=r):=⟨_,rfl⟩
 rw [hr.out]
 have hlt:=h.lt
 have g:=manyTo_ge (goes_one (n:=s.size) (p:=isDig s) fun i h=>isDig_lt h) (s.size - i) i hi'
 have cM:=fun w (h:Sc w b s i)=>many_digit s hs _ (digitQ s hs) (goes_one fun i h=>isDig_lt h) w b i hi' h
 unfold numS at hr
 generalize manyTo (one (isDig s)) (s.size - i) i=j at cM g hr
 obtain ⟨g1,g2⟩:=g
 have hsj:start<=j:=by omega
 have hss:(s.extract start j).size<=9223372036854775807:=by rw [ByteArray.size_extract];omega
 have cR:=fun w=>Num.readP (s.extract start j) w hss
 obtain ⟨n,e,hne⟩:∃ n e,Hid (Num.rdS (s.extract start j).data.toList =(n,e)):=⟨_,_,rfl⟩
 unfold numAt at hr
 rw [hne.out] at hr cR
 simp only [] at hr cR
 by_cases he:e=0
 ·subst he
  have c3:=fun w (h:Sc w b s j)=>letterQ s hs w b j g2 h
  simp only [one] at c3
  cases hA:isLet s j
  ·have c4:=fun w (h:Sc w b s j)=>nextQ s hs 95 (by decide) w b j g2 h
   simp only [hA,adv_f] at c3
   cases hB:inB s j 95 95
   ·have hr2:r=.tok 1 n ⟨#[]⟩ j:=by rw [<- hr.out,if_neg (by rw [hA,hB];simp)]
    subst hr2
    clear hr
    simp only [hB,adv_f] at c4
    go_enter Tryz.func25,Tryz.ntmps25
    go_wp2_with (go_at_call 11;with_reducible refine (cM _ (h.start _ _)).mono ?_;rintro e w1 ⟨rfl,h1,b1⟩;have r1:=(Res.new w).but b1 hlt;have B1:=(But.start b w _ _).trans b1;have s1:=B1.size;obtain ⟨d0,d1,g0,g1⟩:=h1.cells)
    go_region_law ((go_simp;(with_reducible refine (cR _).mono ?_);rintro e2 w2 ⟨rfl,b2⟩;have h2:=h1.drew.below b2;have r2:=r1.drew.but (But.of b2) hlt;have B2:=B1.drew.trans (But.of b2)))
    all_goals go_wp2_with (first
     |(go_at_call 26;with_reducible refine (c3 _ h2).mono ?_;rintro e3 w3 ⟨rfl,h3,b3⟩;have r3:=r2.but b3 hlt;have B3:=B2.trans b3)
     |(go_at_call 22;with_reducible refine (c4 _ h3).mono ?_;rintro e4 w4 ⟨rfl,h4,b4⟩;have r4:=r3.but b4 hlt;have B4:=B3.trans b4;obtain ⟨p0,p1,p2,p3,p4,p5,p6,p7,p8,p9⟩:=r4.tok;obtain ⟨q0,q1,q2,q3,q4,q5,q6,q7,q8,q9⟩:=r4.flt))
    all_goals refine bodyPost_ret (by simp [results,Tryz.results25,go_sem,p0,p1,p2,p3,p4,q0,q1,q2,q3,q4];try rfl) rfl ?_
    all_goals (obtain ⟨k1,k2⟩:=stored hlt h4 B4 (.int .i64 1) (.int .i64 0) (.int .i64 0) (.int .i64 n) (.string ⟨#[]⟩) (.int .i64 0) (.int .i64 0) (.slice none 0 0) (.slice none 0 0) (.string ⟨#[]⟩);exact ⟨rfl,⟨j,g2,k1,rfl⟩,k2⟩)
   ·have hr2:r=.bad 4 start:=by rw [<- hr.out,if_pos (Or.inr (Or.inr hB))]
    subst hr2
    clear hr
    have hj2:=inB_lt hB
    simp only [hB,adv_t] at c4
    go_enter Tryz.func25,Tryz.ntmps25
    go_wp2_with (go_at_call 11;with_reducible refine (cM _ (h.start _ _)).mono ?_;rintro e w1 ⟨rfl,h1,b1⟩;have r1:=(Res.new w).but b1 hlt;have B1:=(But.start b w _ _).trans b1;have s1:=B1.size;obtain ⟨d0,d1,g0,g1⟩:=h1.cells)
    go_region_law ((go_simp;(with_reducible refine (cR _).mono ?_);rintro e2 w2 ⟨rfl,b2⟩;have h2:=h1.drew.below b2;have r2:=r1.drew.but (But.of b2) hlt;have B2:=B1.drew.trans (But.of b2)))
    all_goals go_wp2_with (first
     |(go_at_call 26;with_reducible refine (c3 _ h2).mono ?_;rintro e3 w3 ⟨rfl,h3,b3⟩;have r3:=r2.but b3 hlt;have B3:=B2.trans b3)
     |(go_at_call 22;with_reducible refine (c4 _ h3).mono ?_;rintro e4 w4 ⟨rfl,h4,b4⟩;have r4:=r3.but b4 hlt;have B4:=B3.trans b4)
     |(go_at_call 40;with_reducible refine (failedQ 4 start _).mono ?_;rintro e5 w5 ⟨rfl,b5⟩;have h5:=h4.below b5;have r5:=r4.but (But.of b5) hlt;have B5:=B4.trans (But.of b5);obtain ⟨p0,p1,p2,p3,p4,p5,p6,p7,p8,p9⟩:=r5.tok;obtain ⟨q0,q1,q2,q3,q4,q5,q6,q7,q8,q9⟩:=r5.flt))
    all_goals refine bodyPost_ret (by simp [results,Tryz.results25,go_sem,p0,p1,p2,p3,p4,q0,q1,q2,q3,q4];try rfl) rfl ?_
    all_goals (obtain ⟨k1,k2⟩:=stored hlt h5 B5 (.int .i64 0) (.int .i64 0) (.int .i64 0) (.int .i64 0) (.string ⟨#[]⟩) (.int .i64 4) (.int .i64 (start:Int)) (.slice none 0 0) (.slice none 0 0) (.string ⟨#[]⟩);exact ⟨rfl,⟨j+1,hj2,k1,trivial⟩,k2⟩)
  ·have hr2:r=.bad 4 start:=by rw [<- hr.out,if_pos (Or.inr (Or.inl hA))]
   subst hr2
   clear hr
   have hj2:=isLet_lt hA
   simp only [hA,adv_t] at c3
   go_enter Tryz.func25,Tryz.ntmps25
   go_wp2_with (go_at_call 11;with_reducible refine (cM _ (h.start _ _)).mono ?_;rintro e w1 ⟨rfl,h1,b1⟩;have r1:=(Res.new w).but b1 hlt;have B1:=(But.start b w _ _).trans b1;have s1:=B1.size;obtain ⟨d0,d1,g0,g1⟩:=h1.cells)
   go_region_law ((go_simp;(with_reducible refine (cR _).mono ?_);rintro e2 w2 ⟨rfl,b2⟩;have h2:=h1.drew.below b2;have r2:=r1.drew.but (But.of b2) hlt;have B2:=B1.drew.trans (But.of b2)))
   all_goals go_wp2_with (first
    |(go_at_call 26;with_reducible refine (c3 _ h2).mono ?_;rintro e3 w3 ⟨rfl,h3,b3⟩;have r3:=r2.but b3 hlt;have B3:=B2.trans b3)
    |(go_at_call 40;with_reducible refine (failedQ 4 start _).mono ?_;rintro e4 w4 ⟨rfl,b4⟩;have h4:=h3.below b4;have r4:=r3.but (But.of b4) hlt;have B4:=B3.trans (But.of b4);obtain ⟨p0,p1,p2,p3,p4,p5,p6,p7,p8,p9⟩:=r4.tok;obtain ⟨q0,q1,q2,q3,q4,q5,q6,q7,q8,q9⟩:=r4.flt))
   all_goals refine bodyPost_ret (by simp [results,Tryz.results25,go_sem,p0,p1,p2,p3,p4,q0,q1,q2,q3,q4];try rfl) rfl ?_
   all_goals (obtain ⟨k1,k2⟩:=stored hlt h4 B4 (.int .i64 0) (.int .i64 0) (.int .i64 0) (.int .i64 0) (.string ⟨#[]⟩) (.int .i64 4) (.int .i64 (start:Int)) (.slice none 0 0) (.slice none 0 0) (.string ⟨#[]⟩);exact ⟨rfl,⟨j+1,hj2,k1,trivial⟩,k2⟩)
 ·have hr2:r=.bad 4 start:=by rw [<- hr.out,if_pos (Or.inl he)]
  subst hr2
  clear hr
  go_enter Tryz.func25,Tryz.ntmps25
  go_wp2_with (go_at_call 11;with_reducible refine (cM _ (h.start _ _)).mono ?_;rintro e w1 ⟨rfl,h1,b1⟩;have r1:=(Res.new w).but b1 hlt;have B1:=(But.start b w _ _).trans b1;have s1:=B1.size;obtain ⟨d0,d1,g0,g1⟩:=h1.cells)
  go_region_law ((go_simp;(with_reducible refine (cR _).mono ?_);rintro e2 w2 ⟨rfl,b2⟩;have h2:=h1.drew.below b2;have r2:=r1.drew.but (But.of b2) hlt;have B2:=B1.drew.trans (But.of b2)))
  all_goals go_wp2_with (first
   |(go_at_call 40;with_reducible refine (failedQ 4 start _).mono ?_;rintro e3 w3 ⟨rfl,b3⟩;have h3:=h2.below b3;have r3:=r2.but (But.of b3) hlt;have B3:=B2.trans (But.of b3);obtain ⟨p0,p1,p2,p3,p4,p5,p6,p7,p8,p9⟩:=r3.tok;obtain ⟨q0,q1,q2,q3,q4,q5,q6,q7,q8,q9⟩:=r3.flt))
  all_goals refine bodyPost_ret (by simp [results,Tryz.results25,go_sem,p0,p1,p2,p3,p4,q0,q1,q2,q3,q4];try rfl) rfl ?_
  all_goals (obtain ⟨k1,k2⟩:=stored hlt h3 B3 (.int .i64 0) (.int .i64 0) (.int .i64 0) (.int .i64 0) (.string ⟨#[]⟩) (.int .i64 4) (.int .i64 (start:Int)) (.slice none 0 0) (.slice none 0 0) (.string ⟨#[]⟩);exact ⟨rfl,⟨j,g2,k1,trivial⟩,k2⟩)
end Go.Proofs.YtalkinnbfglkdaaGreatDoor.Tok
