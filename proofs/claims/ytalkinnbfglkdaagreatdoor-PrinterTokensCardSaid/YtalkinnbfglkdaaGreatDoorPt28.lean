/-
  Layer 8: characters of literals, as plain data; a result's block of a fault.
  Layer 8: the scanner's method that reads a character of a literal. (Written by wip/gen/token-char.py.)
  Layer 8: the scanner's method that reads a character literal. (Written by wip/gen/token-clit.py.)
  Layer 8: the scanner's method that reads a string literal. (Written by wip/gen/token-slit.py.)
  Layer 8: the scanner's method that reads a string literal. (Written by wip/gen/token-slit.py.)
-/
import Derived.Test.YtalkinnbfglkdaaGreatDoorPt23
set_option maxHeartbeats 8000000
namespace Go.Proofs.YtalkinnbfglkdaaGreatDoor.Tok
open Go.RowKit
set_option linter.unusedVariables false
/-! ### A fault's block -/
def FRes (w:World) (X:Nat):Prop:=w.heap[X]?=some (.cells #[.int .i64 0,.int .i64 0,.slice none 0 0,.slice none 0 0,.string ⟨#[]⟩] 31 (0,0))
theorem FRes.flt {w:World}{X:Nat}(h:FRes w X):w.cell? ⟨X,0,none⟩=some (.int .i64 0)/\w.cell? ⟨X,1,none⟩=some (.int .i64 0)/\w.cell? ⟨X,2,none⟩=some (.slice none 0 0)/\w.cell? ⟨X,3,none⟩=some (.slice none 0 0)/\w.cell? ⟨X,4,none⟩=some (.string ⟨#[]⟩) /\
  w.frozen? ⟨X,0,none⟩=false/\w.frozen? ⟨X,1,none⟩=false/\w.frozen? ⟨X,2,none⟩=false/\w.frozen? ⟨X,3,none⟩=false/\w.frozen? ⟨X,4,none⟩=false:=by
 unfold FRes at h
 refine ⟨?_,?_,?_,?_,?_,?_,?_,?_,?_,?_⟩ <;> simp [World.cell?,World.frozen?,h]
theorem FRes.new (w:World):FRes (w.alloc (.cells #[.int .i64 0,.int .i64 0,.slice none 0 0,.slice none 0 0,.string ⟨#[]⟩] 31)) w.heap.size:=heap_alloc_new w _
theorem FRes.lt {w:World}{X:Nat}(h:FRes w X):X<w.heap.size:=(Array.getElem?_eq_some_iff.1 h).1
theorem FRes.drew {w:World}{X:Nat}(h:FRes w X):FRes w.drew X:=h
theorem FRes.but {w w':World}{X b:Nat}(h:FRes w X) (hb:But b w w') (hn:b<X):FRes w' X:=(hb.block X h.lt (by omega)).trans h
theorem storedF {w w3:World}{b j:Nat}{s:ByteArray}(hlt:b<w.heap.size) (h:Sc w3 b s j) (B:But b w w3) (c0 c1 c2 c3 c4:Value) :
  Sc (((((w3.setCell ⟨w.heap.size,0,none⟩ c0).setCell ⟨w.heap.size,1,none⟩ c1).setCell ⟨w.heap.size,2,none⟩ c2).setCell ⟨w.heap.size,3,none⟩ c3).setCell ⟨w.heap.size,4,none⟩ c4) b s j/\But b w (((((w3.setCell ⟨w.heap.size,0,none⟩ c0).setCell ⟨w.heap.size,1,none⟩ c1).setCell ⟨w.heap.size,2,none⟩ c2).setCell ⟨w.heap.size,3,none⟩ c3).setCell ⟨w.heap.size,4,none⟩ c4):=by
 constructor
 ·iterate 5 refine Sc.put ?_ (by exact hlt) _
  exact h
 ·iterate 5 refine But.put ?_ (by exact Nat.le_refl _) _
  exact B
theorem But.start1 (b:Nat) (w:World) (o1:Obj):But b w (w.alloc o1):=But.of (below_new _ _)
theorem Sc.start1 {w:World}{b:Nat}{s:ByteArray}{i:Nat}(h:Sc w b s i) (o1:Obj):Sc (w.alloc o1) b s i:=h.below (below_new _ _)
/-! ### Characters -/
def hexV (l:List UInt8):Nat:=l.foldl (fun n c=>16*n+(if c.toNat<=57 then c.toNat - 48 else c.toNat - 87)) 0
def cpS (s:ByteArray) (i:Nat):Option (Nat × Nat) :=
 if inB s i 123 123=true then
  if inB s (manyTo (one (isHex s)) (s.size - (i+1)) (i+1)) 125 125=true/\manyTo (one (isHex s)) (s.size - (i+1)) (i+1) - (i+1)<=6/\i+1<manyTo (one (isHex s)) (s.size - (i+1)) (i+1) /\
    Lib.validRune (hexV (s.extract (i+1) (manyTo (one (isHex s)) (s.size - (i+1)) (i+1))).data.toList:Int)=true then
   some (hexV (s.extract (i+1) (manyTo (one (isHex s)) (s.size - (i+1)) (i+1))).data.toList,manyTo (one (isHex s)) (s.size - (i+1)) (i+1)+1)
  else none
 else none
def escS (s:ByteArray) (i:Nat):Option (Nat × Nat) :=
 if inB s i 110 110=true then some (10,i+1) else if inB s i 116 116=true then some (9,i+1) else if inB s i 114 114=true then some (13,i+1)
 else if inB s i 92 92=true then some (92,i+1) else if inB s i 39 39=true then some (39,i+1) else if inB s i 34 34=true then some (34,i+1)
 else if inB s i 117 117=true then cpS s (i+1) else none
inductive Ch where
 | ok (c:Nat) (j:Nat)
 | bad (e:Int) (at':Nat)
def chOf (i:Nat):Option (Nat × Nat)->Ch
 | some (c,j)=>.ok c j
 | none=>.bad 3 i
def charS (s:ByteArray) (start i:Nat):Ch :=
 if endL s i=true then .bad 5 start
 else if inB s i 92 92=true then chOf i (escS s (i+1))
 else if plainB (Utf8.decode s i).1 (Utf8.decode s i).2=true then .ok (Utf8.decode s i).1 (i+(Utf8.decode s i).2) else .bad 3 i
def Ch.val:Ch->Value
 | .ok c _=>.tuple #[.int .i32 (c:Int),fltV 0 0]
 | .bad e a=>.tuple #[.int .i32 0,fltV e a]
def Ch.at' (r:Ch) (j:Nat):Prop:=match r with
 | .ok _ j'=>j=j'
 | .bad _ _=>True
def Chars (s:ByteArray) (b:Nat) (w:World) (r:Ch) (e:Ending) (w':World):Prop:=e=.returned r.val/\(∃ j,j<=s.size/\Sc w' b s j/\r.at' j)/\But b w w'
def EscOK (s:ByteArray):Prop:=∀ (w:World) (b i:Nat),i<=s.size->0<i->inB s (i - 1) 92 92=true->6<b->Tabs w->Sc w b s i ->
 Calls Tryz.prog 64 #[.pointer (some ⟨b,0,none⟩)] w fun e w'=>∃ (c0:Int) (j:Nat),e=.returned (.tuple #[.int .i32 c0,.bool (escS s i).isSome])/\j<=s.size/\Sc w' b s j/\But b w w'/\(∀ c k,escS s i=some (c,k)->c0 =(c:Int)/\j=k)
theorem many_le (s:ByteArray) (i:Nat) (h:i<=s.size):i<=manyTo (one (isHex s)) (s.size - i) i/\manyTo (one (isHex s)) (s.size - i) i<=s.size :=
 manyTo_ge (goes_one (n:=s.size) fun i h=>isHex_lt h) _ _ h
theorem cpS_le {s:ByteArray}{i c j:Nat}(h:cpS s i=some (c,j)):i<j/\j<=s.size/\c<=1114111:=by
 unfold cpS at h
 split at h
 ·rename_i h1
  split at h
  ·rename_i h2
   have:=inB_lt h1
   have g:=many_le s (i+1) (by omega)
   have g2:=inB_lt h2.1
   simp only [Option.some.injEq,Prod.mk.injEq] at h
   have hv:=h2.2.2.2
   rw [h.1] at hv
   simp only [Lib.validRune,decide_eq_true_eq] at hv
   omega
  ·cases h
 ·cases h
theorem escS_le {s:ByteArray}{i c j:Nat}(h:escS s i=some (c,j)):i<j/\j<=s.size/\c<=1114111:=by
 unfold escS at h
 have go:∀ {x:Int}{k:Nat},inB s i x x=true->(some (k,i+1):Option (Nat × Nat))=some (c,j)->k<=1114111->i<j/\j<=s.size/\c<=1114111:=fun hb he hk=>by
  have:=inB_lt hb
  simp only [Option.some.injEq,Prod.mk.injEq] at he
  omega
 split at h
 ·rename_i hb;exact go hb h (by decide)
 split at h
 ·rename_i hb;exact go hb h (by decide)
 split at h
 ·rename_i hb;exact go hb h (by decide)
 split at h
 ·rename_i hb;exact go hb h (by decide)
 split at h
 ·rename_i hb;exact go hb h (by decide)
 split at h
 ·rename_i hb;exact go hb h (by decide)
 split at h
 ·have:=cpS_le h
  omega
 ·cases h
theorem endL_lt {s:ByteArray}{i:Nat}(h:¬ endL s i=true):i<s.size:=by
 unfold endL at h
 split at h
 ·assumption
 ·exact absurd rfl h
theorem charS_le {s:ByteArray}{start i c j:Nat}(h:charS s start i=.ok c j):i<j/\j<=s.size/\c<=1114111:=by
 unfold charS at h
 split at h
 ·cases h
 ·rename_i he
  have hlt:=endL_lt he
  split at h
  ·cases hx:escS s (i+1) with
   | none=>rw [hx] at h;cases h
   | some q =>
    obtain ⟨c',j'⟩:=q
    rw [hx] at h
    injection h with h1 h2
    have:=escS_le hx
    omega
  ·split at h
   ·injection h with h1 h2
    have:=dec_pos s i hlt
    omega
   ·cases h
set_option linter.unusedSimpArgs false
set_option maxRecDepth 100000 in
theorem characterQ (s:ByteArray) (hs:s.size<=65536) (HE:EscOK s) (w:World) (b start i:Nat) (hi':i<=s.size) (hb2:6<b) (hT:Tabs w) (h:Sc w b s i) :
  Calls Tryz.prog 44 #[.pointer (some ⟨b,0,none⟩),.int .i64 (start:Int)] w (Chars s b w (charS s start i)):=by
 obtain ⟨r,hr⟩:∃ r,Hid (charS s start i=r):=⟨_,rfl⟩
 rw [hr.out]
 have hlt:=h.lt
 have cE:=fun w (h:Sc w b s i)=>lineEndsQ s hs w b i hi' h
 cases hA:endL s i
 ·have hl1:i<s.size:=endL_lt (by rw [hA];decide)
  have hl2:i+1<=s.size:=hl1
  have cN:=fun w (h:Sc w b s i)=>nextQ s hs 92 (by decide) w b i hi' h
  simp only [hA] at cE
  cases hB:inB s i 92 92
  ·simp only [hB,adv_f] at cN
   cases hC:plainB (Utf8.decode s i).1 (Utf8.decode s i).2
   ·have hr2:r=.bad 3 i:=by rw [<- hr.out,charS,if_neg (by rw [hA];decide),if_neg (by rw [hB];decide),if_neg (by rw [hC];decide)]
    subst hr2
    clear hr
    have cP:=fun w (T2:Tabs w) (h2:Sc w b s i)=>plainQ s hs w b i hl1 hb2 T2 h2
    rw [hC] at cP
    have z1:=(dec_pos s i hl1).2.1
    generalize Utf8.decode s i=cz at cP hC z1
    go_enter Tryz.func44,Tryz.ntmps44
    go_wp2_with (first
     |(go_at_call 38;with_reducible refine (cE _ (h.start1 _)).mono ?_;rintro e1 w1 ⟨rfl,h1,b1⟩;have r1:=(FRes.new w).but b1 hlt;have B1:=(But.start1 b w _).trans b1;have T1:=hT.but B1 hb2;obtain ⟨d0,d1,g0,g1⟩:=h1.cells)
     |(go_at_call 22;with_reducible refine (cN _ h1).mono ?_;rintro e2 w2 ⟨rfl,h2,b2⟩;have r2:=r1.but b2 hlt;have B2:=B1.trans b2;have T2:=T1.but b2 hb2)
     |(go_at_call 63;with_reducible refine (cP _ T2 h2).mono ?_;rintro e3 w3 ⟨rfl,h3,b3⟩;have r3:=r2.but b3 hlt;have B3:=B2.trans b3;obtain ⟨q0,q1,q2,q3,q4,q5,q6,q7,q8,q9⟩:=r3.flt))
    refine bodyPost_ret (by simp [results,Tryz.results44,go_sem,q0,q1,q2,q3,q4];try rfl) rfl ?_
    (obtain ⟨k1,k2⟩:=storedF hlt h3 B3 (.int .i64 3) (.int .i64 (i:Int)) (.slice none 0 0) (.slice none 0 0) (.string ⟨#[]⟩);exact ⟨rfl,⟨i+cz.2,z1,k1,trivial⟩,k2⟩)
   ·have hr2:r=.ok (Utf8.decode s i).1 (i+(Utf8.decode s i).2):=by rw [<- hr.out,charS,if_neg (by rw [hA];decide),if_neg (by rw [hB];decide),if_pos hC]
    subst hr2
    clear hr
    have cP:=fun w (T2:Tabs w) (h2:Sc w b s i)=>plainQ s hs w b i hl1 hb2 T2 h2
    rw [hC] at cP
    have z1:=(dec_pos s i hl1).2.1
    generalize Utf8.decode s i=cz at cP hC z1 ⊢
    go_enter Tryz.func44,Tryz.ntmps44
    go_wp2_with (first
     |(go_at_call 38;with_reducible refine (cE _ (h.start1 _)).mono ?_;rintro e1 w1 ⟨rfl,h1,b1⟩;have r1:=(FRes.new w).but b1 hlt;have B1:=(But.start1 b w _).trans b1;have T1:=hT.but B1 hb2;obtain ⟨d0,d1,g0,g1⟩:=h1.cells)
     |(go_at_call 22;with_reducible refine (cN _ h1).mono ?_;rintro e2 w2 ⟨rfl,h2,b2⟩;have r2:=r1.but b2 hlt;have B2:=B1.trans b2;have T2:=T1.but b2 hb2)
     |(go_at_call 63;with_reducible refine (cP _ T2 h2).mono ?_;rintro e3 w3 ⟨rfl,h3,b3⟩;have r3:=r2.but b3 hlt;have B3:=B2.trans b3;obtain ⟨q0,q1,q2,q3,q4,q5,q6,q7,q8,q9⟩:=r3.flt))
    refine bodyPost_ret (by simp [results,Tryz.results44,go_sem,q0,q1,q2,q3,q4];try rfl) rfl ?_
    (obtain ⟨k1,k2⟩:=storedF hlt h3 B3 (.int .i64 0) (.int .i64 0) (.slice none 0 0) (.slice none 0 0) (.string ⟨#[]⟩);exact ⟨rfl,⟨i+cz.2,z1,k1,rfl⟩,k2⟩)
  ·simp only [hB,adv_t] at cN
   have hq:inB s (i+1 - 1) 92 92=true:=hB
   cases hC:escS s (i+1) with
   | none =>
    have hr2:r=.bad 3 i:=by rw [<- hr.out,charS,if_neg (by rw [hA];decide),if_pos hB,hC];rfl
    subst hr2
    clear hr
    have cX:=fun w (T2:Tabs w) (h2:Sc w b s (i+1))=>HE w b (i+1) hl2 (by omega) hq hb2 T2 h2
    rw [hC] at cX
    simp only [Option.isSome_none] at cX
    go_enter Tryz.func44,Tryz.ntmps44
    go_wp2_with (first
     |(go_at_call 38;with_reducible refine (cE _ (h.start1 _)).mono ?_;rintro e1 w1 ⟨rfl,h1,b1⟩;have r1:=(FRes.new w).but b1 hlt;have B1:=(But.start1 b w _).trans b1;have T1:=hT.but B1 hb2;obtain ⟨d0,d1,g0,g1⟩:=h1.cells)
     |(go_at_call 22;with_reducible refine (cN _ h1).mono ?_;rintro e2 w2 ⟨rfl,h2,b2⟩;have r2:=r1.but b2 hlt;have B2:=B1.trans b2;have T2:=T1.but b2 hb2)
     |(go_at_call 64;with_reducible refine (cX _ T2 h2).mono ?_;rintro e3 w3 ⟨c0,j,rfl,hj,h3,b3,hcj⟩;have r3:=r2.but b3 hlt;have B3:=B2.trans b3;obtain ⟨q0,q1,q2,q3,q4,q5,q6,q7,q8,q9⟩:=r3.flt))
    refine bodyPost_ret (by simp [results,Tryz.results44,go_sem,q0,q1,q2,q3,q4];try rfl) rfl ?_
    (obtain ⟨k1,k2⟩:=storedF hlt h3 B3 (.int .i64 3) (.int .i64 (i:Int)) (.slice none 0 0) (.slice none 0 0) (.string ⟨#[]⟩);exact ⟨rfl,⟨j,hj,k1,trivial⟩,k2⟩)
   | some q =>
    obtain ⟨c,k⟩:=q
    have hr2:r=.ok c k:=by rw [<- hr.out,charS,if_neg (by rw [hA];decide),if_pos hB,hC];rfl
    subst hr2
    clear hr
    have cX:∀ w,Tabs w->Sc w b s (i+1)->Calls Tryz.prog 64 #[.pointer (some ⟨b,0,none⟩)] w fun e w'=>e=.returned (.tuple #[.int .i32 (c:Int),.bool true])/\Sc w' b s k/\But b w w':=fun w T2 h2 =>
     (HE w b (i+1) hl2 (by omega) hq hb2 T2 h2).mono fun e w' q=>by
      obtain ⟨c0,j,rfl,hj,h3,b3,hcj⟩:=q
      obtain ⟨rfl,rfl⟩:=hcj c k hC
      rw [hC]
      exact ⟨rfl,h3,b3⟩
    have hk:=(escS_le hC).2.1
    go_enter Tryz.func44,Tryz.ntmps44
    go_wp2_with (first
     |(go_at_call 38;with_reducible refine (cE _ (h.start1 _)).mono ?_;rintro e1 w1 ⟨rfl,h1,b1⟩;have r1:=(FRes.new w).but b1 hlt;have B1:=(But.start1 b w _).trans b1;have T1:=hT.but B1 hb2;obtain ⟨d0,d1,g0,g1⟩:=h1.cells)
     |(go_at_call 22;with_reducible refine (cN _ h1).mono ?_;rintro e2 w2 ⟨rfl,h2,b2⟩;have r2:=r1.but b2 hlt;have B2:=B1.trans b2;have T2:=T1.but b2 hb2)
     |(go_at_call 64;with_reducible refine (cX _ T2 h2).mono ?_;rintro e3 w3 ⟨rfl,h3,b3⟩;have r3:=r2.but b3 hlt;have B3:=B2.trans b3;obtain ⟨q0,q1,q2,q3,q4,q5,q6,q7,q8,q9⟩:=r3.flt))
    refine bodyPost_ret (by simp [results,Tryz.results44,go_sem,q0,q1,q2,q3,q4];try rfl) rfl ?_
    (obtain ⟨k1,k2⟩:=storedF hlt h3 B3 (.int .i64 0) (.int .i64 0) (.slice none 0 0) (.slice none 0 0) (.string ⟨#[]⟩);exact ⟨rfl,⟨k,hk,k1,rfl⟩,k2⟩)
 ·have hr2:r=.bad 5 start:=by rw [<- hr.out,charS,if_pos hA]
  subst hr2
  clear hr
  simp only [hA] at cE
  go_enter Tryz.func44,Tryz.ntmps44
  go_wp2_with (first
   |(go_at_call 38;with_reducible refine (cE _ (h.start1 _)).mono ?_;rintro e1 w1 ⟨rfl,h1,b1⟩;have r1:=(FRes.new w).but b1 hlt;have B1:=(But.start1 b w _).trans b1;have T1:=hT.but B1 hb2;obtain ⟨d0,d1,g0,g1⟩:=h1.cells;obtain ⟨q0,q1,q2,q3,q4,q5,q6,q7,q8,q9⟩:=r1.flt))
  refine bodyPost_ret (by simp [results,Tryz.results44,go_sem,q0,q1,q2,q3,q4];try rfl) rfl ?_
  (obtain ⟨k1,k2⟩:=storedF hlt h1 B1 (.int .i64 5) (.int .i64 (start:Int)) (.slice none 0 0) (.slice none 0 0) (.string ⟨#[]⟩);exact ⟨rfl,⟨i,hi',k1,trivial⟩,k2⟩)
def clitEnd (s:ByteArray) (start:Nat):Ch->Tk
 | .bad e a=>.bad e a
 | .ok c j=>if inB s j 39 39=true then .tok 2 (c:Int) ⟨#[]⟩ (j+1) else if endL s j=true then .bad 5 start else .bad 3 start
def clitS (s:ByteArray) (start i:Nat):Tk:=if inB s i 39 39=true then .bad 3 start else clitEnd s start (charS s start i)
theorem charS_bad {s:ByteArray}{start i a:Nat}{e:Int}(h:charS s start i=.bad e a):¬ e=0:=by
 unfold charS at h
 split at h
 ·injection h with h1 h2;rw [<- h1];decide
 ·split at h
  ·cases hx:escS s (i+1) with
   | none=>rw [hx] at h;injection h with h1 h2;rw [<- h1];decide
   | some q=>rw [hx] at h;cases h
  ·split at h
   ·cases h
   ·injection h with h1 h2;rw [<- h1];decide
set_option maxRecDepth 100000 in
theorem charLiteralQ (s:ByteArray) (hs:s.size<=65536) (HE:EscOK s) (w:World) (b start i:Nat) (hi':i<=s.size) (hb2:6<b) (hT:Tabs w) (h:Sc w b s i) :
  Calls Tryz.prog 28 #[.pointer (some ⟨b,0,none⟩),.int .i64 (start:Int)] w (Toks s b w (clitS s start i)):=by
 obtain ⟨r,hr⟩:∃ r,Hid (clitS s start i=r):=⟨_,rfl⟩
 rw [hr.out]
 have hlt:=h.lt
 have cN:=fun w (h:Sc w b s i)=>nextQ s hs 39 (by decide) w b i hi' h
 cases hA:inB s i 39 39
 ·simp only [hA,adv_f] at cN
  cases hC:charS s start i with
  | bad e a =>
   have hr2:r=.bad e a:=by rw [<- hr.out,clitS,if_neg (by rw [hA];decide),hC];rfl
   subst hr2
   clear hr
   have he:=charS_bad hC
   have cC:∀ w,Tabs w->Sc w b s i->Calls Tryz.prog 44 #[.pointer (some ⟨b,0,none⟩),.int .i64 (start:Int)] w fun e' w'=>e'=.returned (.tuple #[.int .i32 0,.agg #[.int .i64 e,.int .i64 (a:Int),.slice none 0 0,.slice none 0 0,.string ⟨#[]⟩]])/\(∃ j,j<=s.size/\Sc w' b s j)/\But b w w':=fun w hT h =>
    (characterQ s hs HE w b start i hi' hb2 hT h).mono fun e' w' q=>by
     rw [hC] at q
     obtain ⟨q1,⟨j,q2,q3,-⟩,q4⟩:=q
     exact ⟨q1,⟨j,q2,q3⟩,q4⟩
   go_enter Tryz.func28,Tryz.ntmps28
   go_wp2_with (first
    |(go_at_call 22;with_reducible refine (cN _ (h.start _ _)).mono ?_;rintro e1 w1 ⟨rfl,h1,b1⟩;have r1:=(Res.new w).but b1 hlt;have B1:=(But.start b w _ _).trans b1;have T1:=hT.but B1 hb2)
    |(go_at_call 44;with_reducible refine (cC _ T1 h1).mono ?_;rintro e2 w2 ⟨rfl,⟨j,hj,h2⟩,b2⟩;have r2:=r1.but b2 hlt;have B2:=B1.trans b2;have r3:=r2.but (But.start1 b w2 (.cells #[.int .i64 e,.int .i64 (a:Int),.slice none 0 0,.slice none 0 0,.string ⟨#[]⟩] 31)) hlt;have hn1:w.heap.size≠w2.heap.size:=(by have:=r2.lt;omega);have hn2:w.heap.size+1≠w2.heap.size:=(by have:=r2.lt;omega);have hn3:=hn1.symm;have hn4:=hn2.symm;obtain ⟨p0,p1,p2,p3,p4,p5,p6,p7,p8,p9⟩:=r3.tok;obtain ⟨q0,q1,q2,q3,q4,q5,q6,q7,q8,q9⟩:=r3.flt))
   go_region
   all_goals go_wp2
   all_goals refine bodyPost_ret (by simp [results,Tryz.results28,go_sem,p0,p1,p2,p3,p4,q0,q1,q2,q3,q4];try rfl) rfl ?_
   all_goals (obtain ⟨k1,k2⟩:=stored hlt (h2.start1 (.cells #[.int .i64 e,.int .i64 (a:Int),.slice none 0 0,.slice none 0 0,.string ⟨#[]⟩] 31)) (B2.trans (But.start1 b w2 (.cells #[.int .i64 e,.int .i64 (a:Int),.slice none 0 0,.slice none 0 0,.string ⟨#[]⟩] 31))) (.int .i64 0) (.int .i64 0) (.int .i64 0) (.int .i64 0) (.string ⟨#[]⟩) (.int .i64 e) (.int .i64 (a:Int)) (.slice none 0 0) (.slice none 0 0) (.string ⟨#[]⟩);exact ⟨rfl,⟨j,hj,k1.drew,trivial⟩,k2.drew⟩)
  | ok c j =>
   have hj:=(charS_le hC).2.1
   have cC:∀ w,Tabs w->Sc w b s i->Calls Tryz.prog 44 #[.pointer (some ⟨b,0,none⟩),.int .i64 (start:Int)] w fun e' w'=>e'=.returned (.tuple #[.int .i32 (c:Int),.agg #[.int .i64 0,.int .i64 0,.slice none 0 0,.slice none 0 0,.string ⟨#[]⟩]])/\j<=s.size/\Sc w' b s j/\But b w w':=fun w hT h =>
    (characterQ s hs HE w b start i hi' hb2 hT h).mono fun e' w' q=>by
     rw [hC] at q
     obtain ⟨q1,⟨j',q2,q3,q5⟩,q4⟩:=q
     have:j'=j:=q5
     subst this
     exact ⟨q1,q2,q3,q4⟩
   have hc:(c:Int)<=1114111:=by have:=(charS_le hC).2.2;omega
   have c3:=fun w (h:Sc w b s j)=>nextQ s hs 39 (by decide) w b j hj h
   cases hB:inB s j 39 39
   ·simp only [hB,adv_f] at c3
    have c4:=fun w (h:Sc w b s j)=>lineEndsQ s hs w b j hj h
    cases hD:endL s j
    ·simp only [hD] at c4
     have hr2:r=.bad 3 start:=by rw [<- hr.out,clitS,if_neg (by rw [hA];decide),hC,clitEnd,if_neg (by rw [hB];decide),if_neg (by rw [hD];decide)]
     subst hr2
     clear hr
     go_enter Tryz.func28,Tryz.ntmps28
     go_wp2_with (first
      |(go_at_call 22;with_reducible refine (cN _ (h.start _ _)).mono ?_;rintro e1 w1 ⟨rfl,h1,b1⟩;have r1:=(Res.new w).but b1 hlt;have B1:=(But.start b w _ _).trans b1;have T1:=hT.but B1 hb2)
      |(go_at_call 44;with_reducible refine (cC _ T1 h1).mono ?_;rintro e2 w2 ⟨rfl,hj,h2,b2⟩;have r2:=r1.but b2 hlt;have B2:=B1.trans b2)
      |(go_at_call 22;with_reducible refine (c3 _ (h2.start1 _)).mono ?_;rintro e3 w3 ⟨rfl,h3,b3⟩;have r3:=(r2.but (But.start1 b _ _) hlt).but b3 hlt;have B3:=(B2.trans (But.start1 b _ _)).trans b3)
      |(go_at_call 38;with_reducible refine (c4 _ h3).mono ?_;rintro e4 w4 ⟨rfl,h4,b4⟩;have r4:=r3.but b4 hlt;have B4:=B3.trans b4)
      |(go_at_call 40;with_reducible refine (failedQ 3 start _).mono ?_;rintro e5 w5 ⟨rfl,b5⟩;have h5:=h4.below b5;have r5:=r4.but (But.of b5) hlt;have B5:=B4.trans (But.of b5);obtain ⟨p0,p1,p2,p3,p4,p5,p6,p7,p8,p9⟩:=r5.tok;obtain ⟨q0,q1,q2,q3,q4,q5,q6,q7,q8,q9⟩:=r5.flt))
     refine bodyPost_ret (by simp [results,Tryz.results28,go_sem,p0,p1,p2,p3,p4,q0,q1,q2,q3,q4];try rfl) rfl ?_
     (obtain ⟨k1,k2⟩:=stored hlt h5 B5 (.int .i64 0) (.int .i64 0) (.int .i64 0) (.int .i64 0) (.string ⟨#[]⟩) (.int .i64 3) (.int .i64 (start:Int)) (.slice none 0 0) (.slice none 0 0) (.string ⟨#[]⟩);exact ⟨rfl,⟨j,hj,k1,trivial⟩,k2⟩)
    ·simp only [hD] at c4
     have hr2:r=.bad 5 start:=by rw [<- hr.out,clitS,if_neg (by rw [hA];decide),hC,clitEnd,if_neg (by rw [hB];decide),if_pos hD]
     subst hr2
     clear hr
     go_enter Tryz.func28,Tryz.ntmps28
     go_wp2_with (first
      |(go_at_call 22;with_reducible refine (cN _ (h.start _ _)).mono ?_;rintro e1 w1 ⟨rfl,h1,b1⟩;have r1:=(Res.new w).but b1 hlt;have B1:=(But.start b w _ _).trans b1;have T1:=hT.but B1 hb2)
      |(go_at_call 44;with_reducible refine (cC _ T1 h1).mono ?_;rintro e2 w2 ⟨rfl,hj,h2,b2⟩;have r2:=r1.but b2 hlt;have B2:=B1.trans b2)
      |(go_at_call 22;with_reducible refine (c3 _ (h2.start1 _)).mono ?_;rintro e3 w3 ⟨rfl,h3,b3⟩;have r3:=(r2.but (But.start1 b _ _) hlt).but b3 hlt;have B3:=(B2.trans (But.start1 b _ _)).trans b3)
      |(go_at_call 38;with_reducible refine (c4 _ h3).mono ?_;rintro e4 w4 ⟨rfl,h4,b4⟩;have r4:=r3.but b4 hlt;have B4:=B3.trans b4)
      |(go_at_call 40;with_reducible refine (failedQ 5 start _).mono ?_;rintro e5 w5 ⟨rfl,b5⟩;have h5:=h4.below b5;have r5:=r4.but (But.of b5) hlt;have B5:=B4.trans (But.of b5);obtain ⟨p0,p1,p2,p3,p4,p5,p6,p7,p8,p9⟩:=r5.tok;obtain ⟨q0,q1,q2,q3,q4,q5,q6,q7,q8,q9⟩:=r5.flt))
     refine bodyPost_ret (by simp [results,Tryz.results28,go_sem,p0,p1,p2,p3,p4,q0,q1,q2,q3,q4];try rfl) rfl ?_
     (obtain ⟨k1,k2⟩:=stored hlt h5 B5 (.int .i64 0) (.int .i64 0) (.int .i64 0) (.int .i64 0) (.string ⟨#[]⟩) (.int .i64 5) (.int .i64 (start:Int)) (.slice none 0 0) (.slice none 0 0) (.string ⟨#[]⟩);exact ⟨rfl,⟨j,hj,k1,trivial⟩,k2⟩)
   ·simp only [hB,adv_t] at c3
    have hj2:=inB_lt hB
    have hr2:r=.tok 2 (c:Int) ⟨#[]⟩ (j+1):=by rw [<- hr.out,clitS,if_neg (by rw [hA];decide),hC,clitEnd,if_pos hB]
    subst hr2
    clear hr
    go_enter Tryz.func28,Tryz.ntmps28
    go_wp2_with (first
     |(go_at_call 22;with_reducible refine (cN _ (h.start _ _)).mono ?_;rintro e1 w1 ⟨rfl,h1,b1⟩;have r1:=(Res.new w).but b1 hlt;have B1:=(But.start b w _ _).trans b1;have T1:=hT.but B1 hb2)
     |(go_at_call 44;with_reducible refine (cC _ T1 h1).mono ?_;rintro e2 w2 ⟨rfl,hj,h2,b2⟩;have r2:=r1.but b2 hlt;have B2:=B1.trans b2)
     |(go_at_call 22;with_reducible refine (c3 _ (h2.start1 _)).mono ?_;rintro e3 w3 ⟨rfl,h3,b3⟩;have r3:=(r2.but (But.start1 b _ _) hlt).but b3 hlt;have B3:=(B2.trans (But.start1 b _ _)).trans b3;obtain ⟨p0,p1,p2,p3,p4,p5,p6,p7,p8,p9⟩:=r3.tok;obtain ⟨q0,q1,q2,q3,q4,q5,q6,q7,q8,q9⟩:=r3.flt))
    refine bodyPost_ret (by simp [results,Tryz.results28,go_sem,p0,p1,p2,p3,p4,q0,q1,q2,q3,q4];try rfl) rfl ?_
    (obtain ⟨k1,k2⟩:=stored hlt h3 B3 (.int .i64 2) (.int .i64 0) (.int .i64 0) (.int .i64 (c:Int)) (.string ⟨#[]⟩) (.int .i64 0) (.int .i64 0) (.slice none 0 0) (.slice none 0 0) (.string ⟨#[]⟩);exact ⟨rfl,⟨j+1,hj2,k1,rfl⟩,k2⟩)
 ·have hr2:r=.bad 3 start:=by rw [<- hr.out,clitS,if_pos hA]
  subst hr2
  clear hr
  simp only [hA,adv_t] at cN
  have hi2:=inB_lt hA
  go_enter Tryz.func28,Tryz.ntmps28
  go_wp2_with (first
   |(go_at_call 22;with_reducible refine (cN _ (h.start _ _)).mono ?_;rintro e1 w1 ⟨rfl,h1,b1⟩;have r1:=(Res.new w).but b1 hlt;have B1:=(But.start b w _ _).trans b1;have T1:=hT.but B1 hb2)
   |(go_at_call 40;with_reducible refine (failedQ 3 start _).mono ?_;rintro e2 w2 ⟨rfl,b2⟩;have h2:=h1.below b2;have r2:=r1.but (But.of b2) hlt;have B2:=B1.trans (But.of b2);obtain ⟨p0,p1,p2,p3,p4,p5,p6,p7,p8,p9⟩:=r2.tok;obtain ⟨q0,q1,q2,q3,q4,q5,q6,q7,q8,q9⟩:=r2.flt))
  refine bodyPost_ret (by simp [results,Tryz.results28,go_sem,p0,p1,p2,p3,p4,q0,q1,q2,q3,q4];try rfl) rfl ?_
  (obtain ⟨k1,k2⟩:=stored hlt h2 B2 (.int .i64 0) (.int .i64 0) (.int .i64 0) (.int .i64 0) (.string ⟨#[]⟩) (.int .i64 3) (.int .i64 (start:Int)) (.slice none 0 0) (.slice none 0 0) (.string ⟨#[]⟩);exact ⟨rfl,⟨i+1,hi2,k1,trivial⟩,k2⟩)
def strGo (s:ByteArray) (start:Nat):Nat->Nat->List UInt8->Tk
 | 0,_,_=>.bad 5 start
 | f+1,i,acc=>if inB s i 34 34=true then .tok 3 0 ⟨acc.toArray⟩ (i+1) else match charS s start i with
  | .bad e a=>.bad e a
  | .ok c j=>strGo s start f j (acc++Lib.encodeRune (c:Int))
def strS (s:ByteArray) (start i:Nat):Tk:=strGo s start (s.size+1 - i) i []
def Bld (w:World) (X:Nat) (l:List UInt8):Prop:=Lib.IsBuilderF 63 5 X X (Lib.byteCells l) w
theorem Bld.lt {w:World}{X:Nat}{l:List UInt8}(h:Bld w X l):X<w.heap.size:=h.elim (fun x=>x.lt) (fun x=>x.lt)
theorem Bld.but {w w':World}{X b:Nat}{l:List UInt8}(h:Bld w X l) (hb:But b w w') (hn:b<X):Bld w' X l:=by
 have go:∀ p,Lib.BuilderAtF 63 5 X X p (Lib.byteCells l) w->Lib.BuilderAtF 63 5 X X p (Lib.byteCells l) w':=fun p h=>by
  have hlt:=h.lt
  obtain ⟨hB,v,hv,hown,hne⟩:=h
  refine ⟨hB,v,(hb.block X hlt (by omega)).trans hv,hown.kept (row:=some b) ⟨hb.os,hb.tape,hb.output,hb.size,fun k hk q=>hb.block k hk (fun e=>q (by rw [e]))⟩ ?_,hne⟩
  rcases hv:v.ownBlock with _ | g
  ·exact Or.inl rfl
  ·right
   have:=(hown.lt g hv).1
   intro e
   injection e with e
   omega
 exact h.elim (fun x=>.inl (go _ x)) (fun x=>.inr (go _ x))
theorem Bld.drew {w:World}{X:Nat}{l:List UInt8}(h:Bld w X l):Bld w.drew X l:=h.elim (fun x=>.inl x.drew) (fun x=>.inr x.drew)
theorem Bld.new (w:World):Bld (w.alloc (.cells #[.pointer none,.slice none 0 0] 63)) w.heap.size [] :=
 .inl ⟨Nat.le_refl _,_,heap_alloc_new w _,World.ownsRowF_nil _ _ _ _,by simp [Value.ownBlock]⟩
theorem Sc.belowB {w w':World}{B b:Nat}{s:ByteArray}{i:Nat}(h:Sc w b s i) (hb:Below B w w') (hlt:b<B):Sc w' b s i:=h.keep (hb.block b hlt)
theorem Res.belowB {w w':World}{B X:Nat}(h:Res w X) (hb:Below B w w') (hlt:X+1<B):Res w' X:=⟨(hb.block X (by omega)).trans h.1,(hb.block (X+1) hlt).trans h.2⟩
theorem But.belowB {w w1 w2:World}{B b:Nat}(h:But b w w1) (hb:Below B w1 w2) (hB:w.heap.size<=B):But b w w2 :=
 ⟨hb.os.trans h.os,hb.tape.trans h.tape,hb.output.trans h.output,Nat.le_trans h.size hb.size,fun k hk hn=>(hb.block k (by omega)).trans (h.block k hk hn)⟩
theorem writeRuneQ (w:World) (X c:Nat) (l:List UInt8) (hc:c<=1114111) (hl:l.length<=1000000) (h:Bld w X l) :
  Calls Tryz.prog 45 #[.pointer (some ⟨X,0,none⟩),.int .i32 (c:Int)] w fun e w'=>(∃ n,e=.returned (.tuple #[.int .i64 n,.nilIface]))/\Bld w' X (l++Lib.encodeRune (c:Int))/\Below X w w':=by
 refine (Tryz.Builder_WriteRune_k X X (Lib.byteCells l) (c:Int) (by omega) (by omega) w h (by rw [Lib.byteCells_length];omega) (Nat.le_of_lt h.lt)).mono ?_
 rintro e w' ⟨rfl,h1,h2,-⟩
 refine ⟨⟨_,rfl⟩,?_,h2⟩
 rw [Bld,Lib.byteCells_append,Lib.byteCells_encodeRune]
 exact .inr h1
theorem stringQ (w:World) (X:Nat) (l:List UInt8) (h:Bld w X l) :
  Calls Tryz.prog 18 #[.pointer (some ⟨X,0,none⟩)] w fun e w'=>e=.returned (.string ⟨l.toArray⟩)/\Below X w w':=by
 refine (Tryz.Builder_String_any_k X X l w h (Nat.le_of_lt h.lt)).mono ?_
 rintro e w' ⟨rfl,-,h2,-⟩
 exact ⟨rfl,h2⟩
theorem enc_le (c:Int):(Lib.encodeRune c).length<=4:=by
 unfold Lib.encodeRune Lib.encodeRuneZ
 rw [List.length_map]
 repeat' split
 all_goals simp
set_option maxRecDepth 100000 in
theorem stringLiteralQ (s:ByteArray) (hs:s.size<=65536) (HE:EscOK s) (w:World) (b start i:Nat) (hi':i<=s.size) (hb2:6<b) (hT:Tabs w) (h:Sc w b s i) :
  Calls Tryz.prog 29 #[.pointer (some ⟨b,0,none⟩),.int .i64 (start:Int)] w (Toks s b w (strS s start i)):=by
 obtain ⟨r,hr⟩:∃ r,Hid (strS s start i=r):=⟨_,rfl⟩
 rw [hr.out]
 have hlt:=h.lt
 have hbX:b<w.heap.size+2:=by omega
 unfold strS at hr
 have r0:=(Res.new w).but (But.start1 b _ (.cells #[.pointer none,.slice none 0 0] 63)) hlt
 have B0:=(But.start b w (.cells #[.int .i64 0,.int .i64 0,.int .i64 0,.int .i64 0,.string ⟨#[]⟩] 37) (.cells #[.int .i64 0,.int .i64 0,.slice none 0 0,.slice none 0 0,.string ⟨#[]⟩] 31)).trans (But.start1 b _ (.cells #[.pointer none,.slice none 0 0] 63))
 have h0:=(h.start (.cells #[.int .i64 0,.int .i64 0,.int .i64 0,.int .i64 0,.string ⟨#[]⟩] 37) (.cells #[.int .i64 0,.int .i64 0,.slice none 0 0,.slice none 0 0,.string ⟨#[]⟩] 31)).start1 (.cells #[.pointer none,.slice none 0 0] 63)
 have D0:=Bld.new ((w.alloc (.cells #[.int .i64 0,.int .i64 0,.int .i64 0,.int .i64 0,.string ⟨#[]⟩] 37)).alloc (.cells #[.int .i64 0,.int .i64 0,.slice none 0 0,.slice none 0 0,.string ⟨#[]⟩] 31))
 have hs2:((w.alloc (.cells #[.int .i64 0,.int .i64 0,.int .i64 0,.int .i64 0,.string ⟨#[]⟩] 37)).alloc (.cells #[.int .i64 0,.int .i64 0,.slice none 0 0,.slice none 0 0,.string ⟨#[]⟩] 31)).heap.size=w.heap.size+2:=by simp
 rw [hs2] at D0
 clear hs2
 go_enter Tryz.func29,Tryz.ntmps29
 go_wp2
 go_loopw [] (fun wr=>∃ f k acc,k<=s.size/\s.size<k+f/\Sc wr b s k/\But b w wr/\Res wr w.heap.size/\Bld wr (w.heap.size+2) acc/\acc.length<=4*k/\Hid (strGo s start f k acc=r)) (fun wr=>s.size - posOf wr b)
 case atStart=>exact ⟨_,i,[],hi',by omega,h0,B0,r0,D0,by simp,hr⟩
 case round =>
  clear h0 B0 r0 D0 hr h
  obtain ⟨f,k,acc,hk,hf,h0,B0,r0,D0,hac,hr⟩:=hrel
  obtain ⟨f',rfl⟩:∃ f',f=f'+1:=⟨f - 1,by omega⟩
  have T0:=hT.but B0 hb2
  have hpk:=h0.pos
  have cN:=nextQ s hs 34 (by decide) wr b k hk h0
  cases hA:inB s k 34 34
  ·simp only [hA,adv_f] at cN
   cases hC:charS s start k with
   | bad e a =>
    have hr2:r=.bad e a:=by rw [<- hr.out,strGo,if_neg (by rw [hA];decide),hC]
    subst hr2
    clear hr
    have he:=charS_bad hC
    have cC:∀ w,Tabs w->Sc w b s k->Calls Tryz.prog 44 #[.pointer (some ⟨b,0,none⟩),.int .i64 (start:Int)] w fun e' w'=>e'=.returned (.tuple #[.int .i32 0,.agg #[.int .i64 e,.int .i64 (a:Int),.slice none 0 0,.slice none 0 0,.string ⟨#[]⟩]])/\(∃ j,j<=s.size/\Sc w' b s j)/\But b w w':=fun w hT h =>
     (characterQ s hs HE w b start k hk hb2 hT h).mono fun e' w' q=>by
      rw [hC] at q
      obtain ⟨q1,⟨j,q2,q3,-⟩,q4⟩:=q
      exact ⟨q1,⟨j,q2,q3⟩,q4⟩
    go_wp2_with (first
   |(go_at_call 22;with_reducible refine cN.mono ?_;rintro e1 w1 ⟨rfl,h1,b1⟩;have r1:=r0.but b1 hlt;have B1:=B0.trans b1;have D1:=D0.but b1 hbX;have T1:=T0.but b1 hb2)
   |(go_at_call 44;with_reducible refine (cC _ T1 h1).mono ?_;rintro e2 w2 ⟨rfl,⟨j,hj,h2⟩,b2⟩;have r2:=r1.but b2 hlt;have B2:=B1.trans b2;have D2:=D1.but b2 hbX;have T2:=T1.but b2 hb2;have r3:=r2.but (But.start1 b w2 (.cells #[.int .i64 e,.int .i64 (a:Int),.slice none 0 0,.slice none 0 0,.string ⟨#[]⟩] 31)) hlt;have hn1:w.heap.size≠w2.heap.size:=(by have:=r2.lt;omega);have hn2:w.heap.size+1≠w2.heap.size:=(by have:=r2.lt;omega);have hn3:=hn1.symm;have hn4:=hn2.symm;obtain ⟨p0,p1,p2,p3,p4,p5,p6,p7,p8,p9⟩:=r3.tok;obtain ⟨q0,q1,q2,q3,q4,q5,q6,q7,q8,q9⟩:=r3.flt))
    go_region
    all_goals go_wp2
    all_goals refine bodyPost_ret (by simp [results,Tryz.results29,go_sem,p0,p1,p2,p3,p4,q0,q1,q2,q3,q4];try rfl) rfl ?_
    all_goals (obtain ⟨k1,k2⟩:=stored hlt (h2.start1 (.cells #[.int .i64 e,.int .i64 (a:Int),.slice none 0 0,.slice none 0 0,.string ⟨#[]⟩] 31)) (B2.trans (But.start1 b w2 (.cells #[.int .i64 e,.int .i64 (a:Int),.slice none 0 0,.slice none 0 0,.string ⟨#[]⟩] 31))) (.int .i64 0) (.int .i64 0) (.int .i64 0) (.int .i64 0) (.string ⟨#[]⟩) (.int .i64 e) (.int .i64 (a:Int)) (.slice none 0 0) (.slice none 0 0) (.string ⟨#[]⟩);exact ⟨rfl,⟨j,hj,k1.drew,trivial⟩,k2.drew⟩)
   | ok c j =>
    obtain ⟨hj1,hj,hc⟩:=charS_le hC
    have hr2:Hid (strGo s start f' j (acc++Lib.encodeRune (c:Int))=r):=by
     have q:=hr.out
     rw [strGo,if_neg (by rw [hA];decide),hC] at q
     exact q
    clear hr
    have cC:∀ w,Tabs w->Sc w b s k->Calls Tryz.prog 44 #[.pointer (some ⟨b,0,none⟩),.int .i64 (start:Int)] w fun e' w'=>e'=.returned (.tuple #[.int .i32 (c:Int),.agg #[.int .i64 0,.int .i64 0,.slice none 0 0,.slice none 0 0,.string ⟨#[]⟩]])/\j<=s.size/\Sc w' b s j/\But b w w':=fun w hT h =>
     (characterQ s hs HE w b start k hk hb2 hT h).mono fun e' w' q=>by
      rw [hC] at q
      obtain ⟨q1,⟨j',q2,q3,q5⟩,q4⟩:=q
      have:j'=j:=q5
      subst this
      exact ⟨q1,q2,q3,q4⟩
    have hac2:(acc++Lib.encodeRune (c:Int)).length<=4*j:=by
     have:=enc_le (c:Int)
     rw [List.length_append]
     omega
    go_wp2_with (first
   |(go_at_call 22;with_reducible refine cN.mono ?_;rintro e1 w1 ⟨rfl,h1,b1⟩;have r1:=r0.but b1 hlt;have B1:=B0.trans b1;have D1:=D0.but b1 hbX;have T1:=T0.but b1 hb2)
   |(go_at_call 44;with_reducible refine (cC _ T1 h1).mono ?_;rintro e2 w2 ⟨rfl,hj,h2,b2⟩;have r2:=r1.but b2 hlt;have B2:=B1.trans b2;have D2:=D1.but b2 hbX;have T2:=T1.but b2 hb2;have r3:=r2.but (But.start1 b w2 (.cells #[.int .i64 0,.int .i64 0,.slice none 0 0,.slice none 0 0,.string ⟨#[]⟩] 31)) hlt;have h3:=h2.start1 (.cells #[.int .i64 0,.int .i64 0,.slice none 0 0,.slice none 0 0,.string ⟨#[]⟩] 31);have B3:=B2.trans (But.start1 b w2 (.cells #[.int .i64 0,.int .i64 0,.slice none 0 0,.slice none 0 0,.string ⟨#[]⟩] 31));have D3:=D2.but (But.start1 b w2 (.cells #[.int .i64 0,.int .i64 0,.slice none 0 0,.slice none 0 0,.string ⟨#[]⟩] 31)) hbX)
   |(go_at_call 45;with_reducible refine (writeRuneQ _ (w.heap.size+2) c acc hc (by omega) D3).mono ?_;rintro e4 w4 ⟨⟨n4,rfl⟩,D4,b4⟩;have r4:=r3.belowB b4 (by omega);have h4:=h3.belowB b4 hbX;have B4:=B3.belowB b4 (by omega)))
    go_roundw
    case rel=>exact ⟨f',j,_,hj,by omega,h4,B4,r4,D4,hac2,hr2⟩
    case measure=>rw [h4.pos,hpk];omega
  ·simp only [hA,adv_t] at cN
   have hk2:=inB_lt hA
   have hr2:r=.tok 3 0 ⟨acc.toArray⟩ (k+1):=by rw [<- hr.out,strGo,if_pos hA]
   subst hr2
   clear hr
   go_wp2_with (first
   |(go_at_call 22;with_reducible refine cN.mono ?_;rintro e1 w1 ⟨rfl,h1,b1⟩;have r1:=r0.but b1 hlt;have B1:=B0.trans b1;have D1:=D0.but b1 hbX;have T1:=T0.but b1 hb2)
   |(go_at_call 18;with_reducible refine (stringQ _ (w.heap.size+2) acc D1).mono ?_;rintro e2 w2 ⟨rfl,b2⟩;have r2:=r1.belowB b2 (by omega);have h2:=h1.belowB b2 hbX;have B2:=B1.belowB b2 (by omega);obtain ⟨p0,p1,p2,p3,p4,p5,p6,p7,p8,p9⟩:=r2.tok;obtain ⟨q0,q1,q2,q3,q4,q5,q6,q7,q8,q9⟩:=r2.flt))
   refine bodyPost_ret (by simp [results,Tryz.results29,go_sem,p0,p1,p2,p3,p4,q0,q1,q2,q3,q4];try rfl) rfl ?_
   (obtain ⟨k1,k2⟩:=stored hlt h2 B2 (.int .i64 3) (.int .i64 0) (.int .i64 0) (.int .i64 0) (.string ⟨acc.toArray⟩) (.int .i64 0) (.int .i64 0) (.slice none 0 0) (.slice none 0 0) (.string ⟨#[]⟩);exact ⟨rfl,⟨k+1,hk2,k1,rfl⟩,k2⟩)
end Go.Proofs.YtalkinnbfglkdaaGreatDoor.Tok
