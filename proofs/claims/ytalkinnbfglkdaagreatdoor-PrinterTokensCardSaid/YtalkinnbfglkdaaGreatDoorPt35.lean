/-
  Layer 8: the tokens of a text, as plain data. (Written by wip/gen/token-scan.py.)
  Layer 8: Scan of the program. (Written by wip/gen/token-scan.py.)
-/
import Derived.Test.YtalkinnbfglkdaaGreatDoorPt32
import Derived.Deep.AppendLies
set_option maxHeartbeats 16000000
namespace Go.Proofs.YtalkinnbfglkdaaGreatDoor.Tok
open Go.RowKit
set_option linter.unusedVariables false
structure T5 where
 k:Int
 at':Int
 len:Int
 n:Int
 t:ByteArray
def cells5 (x:T5):List Value:=[.int .i64 x.k,.int .i64 x.at',.int .i64 x.len,.int .i64 x.n,.string x.t]
def cellsT (l:List T5):List Value:=(l.map cells5).flatten
theorem cellsT_snoc (l:List T5) (x:T5):cellsT (l++[x])=cellsT l++cells5 x:=by simp [cellsT]
inductive Sr where
 | ok (l:List T5)
 | bad (e:Int) (a:Nat)
def sepTo (s:ByteArray) (i:Nat):Nat:=manyTo (sepS s) (s.size - i) i
theorem sepTo_ge {s:ByteArray}{i:Nat}(h:i<=s.size):i<=sepTo s i/\sepTo s i<=s.size:=manyTo_ge (goes_sep s) _ _ h
def scanGo (s:ByteArray):Nat->Nat->List T5->Sr
 | 0,_,l=>.ok l
 | f+1,i,l=>if i<s.size then match tokenS s i with
  | .bad e a=>.bad e a
  | .tok k n t j=>if l.length=16384 then .bad 21 i else scanGo s f (sepTo s j) (l++[⟨k,i,(j:Int) - i,n,t⟩])
  else .ok l
def scanS (s:ByteArray):Sr:=scanGo s (s.size+1) (sepTo s 0) []
theorem strGo_le {s:ByteArray}{start:Nat}:∀ (f i:Nat) (acc:List UInt8) {k n:Int}{t:ByteArray}{j:Nat},strGo s start f i acc=.tok k n t j->i<j/\j<=s.size
 | 0,i,acc,k,n,t,j,h=>by rw [strGo] at h;cases h
 | f+1,i,acc,k,n,t,j,h=>by
  rw [strGo] at h
  split at h
  ·rename_i hb
   have:=inB_lt hb
   injection h with h1 h2 h3 h4
   omega
  ·cases hc:charS s start i with
   | bad e a=>rw [hc] at h;cases h
   | ok c j' =>
    rw [hc] at h
    have:=charS_le hc
    have:=strGo_le f j' _ h
    omega
theorem strGo_bad {s:ByteArray}{start:Nat}:∀ (f i:Nat) (acc:List UInt8) {e:Int}{a:Nat},strGo s start f i acc=.bad e a->¬ e=0
 | 0,i,acc,e,a,h=>by rw [strGo] at h;injection h with h1 h2;rw [<- h1];decide
 | f+1,i,acc,e,a,h=>by
  rw [strGo] at h
  split at h
  ·cases h
  ·cases hc:charS s start i with
   | bad e' a'=>rw [hc] at h;injection h with h1 h2;rw [<- h1];exact charS_bad hc
   | ok c j'=>rw [hc] at h;exact strGo_bad f j' _ h
theorem numS_le {s:ByteArray}{start i:Nat}(hi:i<=s.size) {k n:Int}{t:ByteArray}{j:Nat}(h:numS s start i=.tok k n t j):i<=j/\j<=s.size:=by
 have g:=manyTo_ge (goes_one (n:=s.size) (p:=isDig s) fun i h=>isDig_lt h) (s.size - i) i hi
 unfold numS numAt at h
 split at h
 ·cases h
 ·injection h with h1 h2 h3 h4;omega
theorem wordS_le {s:ByteArray}{start i:Nat}(hi:i<=s.size) {k n:Int}{t:ByteArray}{j:Nat}(h:wordS s start i=.tok k n t j):i<=j/\j<=s.size:=by
 have g:=manyTo_ge (goes_one (n:=s.size) (p:=isLD s) fun i h=>isLD_lt h) (s.size - i) i hi
 unfold wordS wordAt at h
 split at h
 ·injection h with h1 h2 h3 h4;omega
 split at h
 ·cases h
 split at h
 ·cases h
 ·injection h with h1 h2 h3 h4;omega
theorem clitS_le {s:ByteArray}{start i:Nat}{k n:Int}{t:ByteArray}{j:Nat}(h:clitS s start i=.tok k n t j):i<j/\j<=s.size:=by
 unfold clitS at h
 split at h
 ·cases h
 cases hc:charS s start i with
 | bad e a=>rw [hc,clitEnd] at h;cases h
 | ok c j' =>
  rw [hc,clitEnd] at h
  have:=charS_le hc
  split at h
  ·rename_i hb
   have:=inB_lt hb
   injection h with h1 h2 h3 h4;omega
  split at h
  ·cases h
  ·cases h
theorem tokenS_le {s:ByteArray}{i:Nat}(hi:i<s.size) {k n:Int}{t:ByteArray}{j:Nat}(h:tokenS s i=.tok k n t j):i<j/\j<=s.size:=by
 unfold tokenS at h
 split at h
 ·have:=numS_le hi h;omega
 split at h
 ·have:=numS_le hi h;omega
 split at h
 ·have:=wordS_le hi h;omega
 split at h
 ·have:=clitS_le h;omega
 split at h
 ·have:=strGo_le _ _ _ h;omega
 split at h
 ·injection h with h1 h2 h3 h4;omega
 ·unfold symS at h
  split at h
  ·rename_i hb;injection h with h1 h2 h3 h4;omega
  split at h
  ·injection h with h1 h2 h3 h4;omega
  ·cases h
theorem tokenS_bad {s:ByteArray}{i a:Nat}{e:Int}(h:tokenS s i=.bad e a):¬ e=0:=by
 have fin:∀ {x:Int}{y:Nat},x≠0->Tk.bad x y=.bad e a->¬ e=0:=fun hx h=>by injection h with h1 h2;rw [<- h1];exact hx
 unfold tokenS at h
 split at h
 ·unfold numS numAt at h
  split at h
  ·exact fin (by decide) h
  ·cases h
 split at h
 ·unfold numS numAt at h
  split at h
  ·exact fin (by decide) h
  ·cases h
 split at h
 ·unfold wordS wordAt at h
  split at h
  ·cases h
  split at h
  ·exact fin (by decide) h
  split at h
  ·exact fin (by decide) h
  ·cases h
 split at h
 ·unfold clitS at h
  split at h
  ·exact fin (by decide) h
  cases hc:charS s i (i+1) with
  | bad e' a'=>rw [hc,clitEnd] at h;exact fin (charS_bad hc) h
  | ok c j' =>
   rw [hc,clitEnd] at h
   split at h
   ·cases h
   split at h
   ·exact fin (by decide) h
   ·exact fin (by decide) h
 split at h
 ·exact strGo_bad _ _ _ h
 split at h
 ·cases h
 ·unfold symS at h
  split at h
  ·cases h
  split at h
  ·cases h
  ·exact fin (by decide) h
set_option linter.unusedSimpArgs false
theorem infoTok:(Tryz.prog.info? 37).map (fun i=>(i.zero,i.size,i.bytes))=some (some (.agg #[.int .i64 0,.int .i64 0,.int .i64 0,.int .i64 0,.string ⟨#[]⟩]),5,48):=by kernel_rfl
def Own (B:Nat) (w:World) (v:Value) (l:List T5):Prop:=w.ownsRow B 37 5 v l.length (cellsT l)
theorem Own.but {B b:Nat}{w w':World}{v:Value}{l:List T5}(h:Own B w v l) (hb:But b w w') (hlt:b<B):Own B w' v l:=by
 refine World.ownsRow.kept (row:=some b) h ⟨hb.os,hb.tape,hb.output,hb.size,fun k hk q=>hb.block k hk (fun e=>q (by rw [e]))⟩ ?_
 rcases hv:v.ownBlock with _ | g
 ·exact Or.inl rfl
 ·right
  have:=(World.ownsRow.lt h g hv).1
  intro e
  injection e with e
  omega
theorem Own.below {B:Nat}{w w':World}{v:Value}{l:List T5}(h:Own B w v l) (hb:Below w.heap.size w w'):Own B w' v l :=
 World.ownsRow.kept (row:=none) h ⟨hb.os,hb.tape,hb.output,hb.size,fun k hk _=>hb.block k hk⟩ (Classical.em _)
theorem Own.drew {B:Nat}{w:World}{v:Value}{l:List T5}(h:Own B w v l):Own B w.drew v l:=h
theorem Own.grown {B:Nat}{w w':World}{v:Value}{l:List T5}(h:Own B w v l) (hg:w.grownBy w' v.ownBlock) (hB:B<=w.heap.size):Below B w w' :=
 ⟨hg.os,hg.tape,hg.output,hg.size,fun k hk=>hg.block k (by omega) (fun e=>by have:=(World.ownsRow.lt h k e.symm).1;omega)⟩
theorem FRes.belowB {w w':World}{B X:Nat}(h:FRes w X) (hb:Below B w w') (hlt:X<B):FRes w' X:=(hb.block X hlt).trans h
theorem Own.form {B:Nat}{w:World}{v:Value}{l:List T5}(h:Own B w v l):∃ a c,v=.slice a l.length c:=by
 rcases h.2 with ⟨rfl,hn⟩ |⟨g,cap,cur,rfl,-⟩
 ·exact ⟨none,0,by rw [hn]⟩
 ·exact ⟨_,_,rfl⟩
theorem Own.mono {B C:Nat}{w:World}{v:Value}{l:List T5}(h:Own B w v l) (hC:C<=B):Own C w v l:=by
 refine ⟨h.1,?_⟩
 rcases h.2 with h |⟨g,cap,cur,h1,h2,h3⟩
 ·exact Or.inl h
 ·exact Or.inr ⟨g,cap,cur,h1,Nat.le_trans hC h2,h3⟩
theorem FRes.butN {w w':World}{X b:Nat}(h:FRes w X) (hb:But b w w') (hn:X≠b):FRes w' X:=(hb.block X h.lt hn).trans h
def ScanOut (w:World) (r:Sr) (e:Ending) (w':World):Prop:=Below w.heap.size w w'/\match r with
 | .ok l=>∃ v,e=.returned (.tuple #[v,fltV 0 0])/\Own w.heap.size w' v l
 | .bad er a=>e=.returned (.tuple #[.slice none 0 0,fltV er a])
theorem third (w1:World) (o1 o2 o3:Obj):(((w1.alloc o1).alloc o2).alloc o3).drew.heap[w1.heap.size+2]?=some o3:=by
 have:=heap_alloc_new ((w1.alloc o1).alloc o2) o3
 have e:((w1.alloc o1).alloc o2).heap.size=w1.heap.size+2:=by simp
 rw [e] at this
 exact this
theorem putF {B:Nat}{w w':World}(h:Below B w w') (c0 c1 c2 c3 c4:Value) {X:Nat}(hX:B<=X:=by exact Nat.le_refl _):Below B w (((((w'.setCell ⟨X,0,none⟩ c0).setCell ⟨X,1,none⟩ c1).setCell ⟨X,2,none⟩ c2).setCell ⟨X,3,none⟩ c3).setCell ⟨X,4,none⟩ c4):=by
 exact Below.setCell (p:=⟨X,4,none⟩) (Below.setCell (p:=⟨X,3,none⟩) (Below.setCell (p:=⟨X,2,none⟩) (Below.setCell (p:=⟨X,1,none⟩) (Below.setCell (p:=⟨X,0,none⟩) h hX c0) hX c1) hX c2) hX c3) hX c4
theorem But.any (w:World) (p:Addr) (v:Value):But p.block w (w.setCell p v):=⟨rfl,rfl,rfl,by simp [World.setCell],fun k _ hb=>Below.heap_setCell _ _ _ _ hb⟩
theorem Own.put {B C X:Nat}{w:World}{v:Value}{l:List T5}(h:Own C w v l) (hX:X<C) (hB:B<=C) (c0 c1 c2 c3 c4:Value):Own B (((((w.setCell ⟨X,0,none⟩ c0).setCell ⟨X,1,none⟩ c1).setCell ⟨X,2,none⟩ c2).setCell ⟨X,3,none⟩ c3).setCell ⟨X,4,none⟩ c4) v l :=
 ((((((h.but (But.any w ⟨X,0,none⟩ c0) hX).but (But.any _ ⟨X,1,none⟩ c1) hX).but (But.any _ ⟨X,2,none⟩ c2) hX).but (But.any _ ⟨X,3,none⟩ c3) hX).but (But.any _ ⟨X,4,none⟩ c4) hX).mono hB)
set_option maxRecDepth 100000 in
theorem scanQ (s:ByteArray) (hs:s.size<=65536) (HE:EscOK s) (w:World) (hw2:6<w.heap.size) (hT:Tabs w) :
  Calls Tryz.prog 6 #[.string s] w (ScanOut w (scanS s)):=by
 obtain ⟨r,hr⟩:∃ r,Hid (scanS s=r):=⟨_,rfl⟩
 rw [hr.out]
 obtain ⟨i0,hi0,hz0,hz1,hz2⟩:=info_parts infoTok
 obtain ⟨n0,hn0⟩:∃ n:Nat,n=s.size:=⟨_,rfl⟩
 have hsl:¬ (65536:Int) <(s.size:Int):=by omega
 clear hn0
 have hX:w.heap.size<w.heap.size+1:=by omega
 unfold scanS at hr
 have cM:=fun w b i (hi':i<=s.size) (h:Sc w b s i)=>many_separator s hs _ (separatorQ s hs) (goes_sep s) w b i hi' h
 have r00:=(FRes.new w).but (b:=w.heap.size+1) (But.of (below_new _ (.cells #[.string s,.int .i64 0] 56)))
 have hs1:(w.alloc (.cells #[.int .i64 0,.int .i64 0,.slice none 0 0,.slice none 0 0,.string ⟨#[]⟩] 31)).heap.size=w.heap.size+1:=by simp
 have h00:=Sc.new (w.alloc (.cells #[.int .i64 0,.int .i64 0,.slice none 0 0,.slice none 0 0,.string ⟨#[]⟩] 31)) s
 rw [hs1] at h00
 have E00:=Below.then (below_new w (.cells #[.int .i64 0,.int .i64 0,.slice none 0 0,.slice none 0 0,.string ⟨#[]⟩] 31)) (below_new _ (.cells #[.string s,.int .i64 0] 56))
 have T00:=hT.below E00
 go_enter Tryz.func6,Tryz.ntmps6
 go_wp2_with (go_at_call 11;with_reducible refine (cM _ (w.heap.size+1) 0 (Nat.zero_le _) h00).mono ?_;rintro e w1 ⟨rfl,h1,b1⟩)
 have hz:=sepTo_ge (s:=s) (i:=0) (Nat.zero_le _)
 have e0:manyTo (sepS s) (s.size - 0) 0=sepTo s 0:=rfl
 rw [e0] at h1
 have E1:=b1.below (by omega) (Nat.le_refl _) E00
 have r1:=(show FRes _ _ from ((below_new _ (.cells #[.string s,.int .i64 0] 56)).block w.heap.size (by rw [hs1];omega)).trans (FRes.new w)).butN b1 (by omega)
 have o1:Own (w.heap.size+2) w1 (.slice none 0 0) []:=World.ownsRow_nil _ _ _ _
 clear e0 b1 h00 E00 T00 r00 hs1
 go_loopw [4] (fun tk wr=>∃ f k l,k<=s.size/\s.size<k+f/\Sc wr (w.heap.size+1) s k/\Below w.heap.size w wr/\FRes wr w.heap.size/\Own (w.heap.size+2) wr tk l/\l.length<=16384/\Hid (scanGo s f k l=r)) (fun _ wr=>s.size - posOf wr (w.heap.size+1))
 case atStart=>exact ⟨_,_,[],hz.2,by omega,h1,E1,r1,o1,by simp,hr⟩
 case round =>
  clear h1 E1 r1 o1 hr hz
  obtain ⟨f,k,l,hk,hf,h0,E0,r0,o0,hl,hr⟩:=hrel
  obtain ⟨f',rfl⟩:∃ f',f=f'+1:=⟨f - 1,by omega⟩
  have T0:=hT.below E0
  have hpk:=h0.pos
  obtain ⟨c0,c1,c2,c3⟩:=h0.cells
  obtain ⟨va,vc,rfl⟩:=o0.form
  by_cases hlt:k<s.size
  ·have hlt':(k:Int) <(s.size:Int):=by omega
   cases hC:tokenS s k with
   | bad e a =>
    have hr2:r=.bad e a:=by rw [<- hr.out,scanGo,if_pos hlt,hC]
    subst hr2
    clear hr
    have he:=tokenS_bad hC
    have cT:∀ w b,6<b->Tabs w->Sc w b s k->Calls Tryz.prog 13 #[.pointer (some ⟨b,0,none⟩)] w fun e' w'=>e'=.returned (.tuple #[.agg #[.int .i64 0,.int .i64 0,.int .i64 0,.int .i64 0,.string ⟨#[]⟩],.agg #[.int .i64 e,.int .i64 (a:Int),.slice none 0 0,.slice none 0 0,.string ⟨#[]⟩]])/\But b w w':=fun w b hb hT h =>
     (tokenQ s hs HE w b k hlt hb hT h).mono fun e' w' q=>by
      rw [hC] at q
      exact ⟨q.1,q.2.2⟩
    go_wp2_with (go_at_call 13;with_reducible refine (cT _ (w.heap.size+1) (by omega) T0 h0).mono ?_;rintro e1 w1 ⟨rfl,b1⟩;have r1:=r0.butN b1 (by omega);have E1:=b1.below (by omega) (Nat.le_refl _) E0;have r2:=r1.butN (But.start (w.heap.size+1) w1 (.cells #[.int .i64 0,.int .i64 0,.int .i64 0,.int .i64 0,.string ⟨#[]⟩] 37) (.cells #[.int .i64 e,.int .i64 (a:Int),.slice none 0 0,.slice none 0 0,.string ⟨#[]⟩] 31)) (by omega);have hn1:w.heap.size≠w1.heap.size:=(by have:=r1.lt;omega);have hn2:w.heap.size≠w1.heap.size+1:=(by have:=r1.lt;omega);have hn3:=hn1.symm;have hn4:=hn2.symm;obtain ⟨q0,q1,q2,q3,q4,q5,q6,q7,q8,q9⟩:=r2.flt)
    go_region
    all_goals go_wp2
    all_goals refine bodyPost_ret (by simp [results,Tryz.results6,go_sem,q0,q1,q2,q3,q4];try rfl) rfl ?_
    all_goals exact ⟨Below.drew (putF (Below.then E1 (by go_grown)) _ _ _ _ _),rfl⟩
   | tok vk n t j =>
    obtain ⟨hj1,hj2⟩:=tokenS_le hlt hC
    by_cases hL:l.length=16384
    ·have hr2:r=.bad 21 k:=by rw [<- hr.out,scanGo,if_pos hlt,hC];simp only [hL,if_true]
     subst hr2
     clear hr
     have cT:∀ w b,6<b->Tabs w->Sc w b s k->Calls Tryz.prog 13 #[.pointer (some ⟨b,0,none⟩)] w fun e' w'=>e'=.returned (.tuple #[.agg #[.int .i64 vk,.int .i64 0,.int .i64 0,.int .i64 n,.string t],.agg #[.int .i64 0,.int .i64 0,.slice none 0 0,.slice none 0 0,.string ⟨#[]⟩]])/\But b w w':=fun w b hb hT h =>
      (tokenQ s hs HE w b k hlt hb hT h).mono fun e' w' q=>by
       rw [hC] at q
       exact ⟨q.1,q.2.2⟩
     have hL':((l.length:Int)==16384)=true:=by simp;omega
     go_wp2_with (go_at_call 13;with_reducible refine (cT _ (w.heap.size+1) (by omega) T0 h0).mono ?_;rintro e1 w1 ⟨rfl,b1⟩;have r1:=r0.butN b1 (by omega);have E1:=b1.below (by omega) (Nat.le_refl _) E0;have r2:=r1.butN (But.start (w.heap.size+1) w1 (.cells #[.int .i64 vk,.int .i64 0,.int .i64 0,.int .i64 n,.string t] 37) (.cells #[.int .i64 0,.int .i64 0,.slice none 0 0,.slice none 0 0,.string ⟨#[]⟩] 31)) (by omega);obtain ⟨q0,q1,q2,q3,q4,q5,q6,q7,q8,q9⟩:=r2.flt)
     refine bodyPost_ret (by simp [results,Tryz.results6,go_sem,q0,q1,q2,q3,q4];try rfl) rfl ?_
     exact ⟨putF (Below.then E1 (by go_grown)) _ _ _ _ _,rfl⟩
    ·have hr2:Hid (scanGo s f' (sepTo s j) (l++[⟨vk,k,(j:Int) - k,n,t⟩])=r):=by
      have q:=hr.out
      rw [scanGo,if_pos hlt,hC] at q
      simp only [hL,if_false] at q
      exact q
     clear hr
     have cT:∀ w b,6<b->Tabs w->Sc w b s k->Calls Tryz.prog 13 #[.pointer (some ⟨b,0,none⟩)] w fun e' w'=>e'=.returned (.tuple #[.agg #[.int .i64 vk,.int .i64 0,.int .i64 0,.int .i64 n,.string t],.agg #[.int .i64 0,.int .i64 0,.slice none 0 0,.slice none 0 0,.string ⟨#[]⟩]])/\Sc w' b s j/\But b w w':=fun w b hb hT h =>
      (tokenQ s hs HE w b k hlt hb hT h).mono fun e' w' q=>by
       rw [hC] at q
       obtain ⟨q1,⟨j',q2,q3,q5⟩,q4⟩:=q
       have:j'=j:=q5
       subst this
       exact ⟨q1,q3,q4⟩
     have hL':((l.length:Int)==16384)=false:=by simp;omega
     go_wp2_with (go_at_call 13;with_reducible refine (cT _ (w.heap.size+1) (by omega) T0 h0).mono ?_;rintro e1 w1 ⟨rfl,h1,b1⟩;have r1:=r0.butN b1 (by omega);have E1:=b1.below (by omega) (Nat.le_refl _) E0;have o1:=o0.but b1 (by omega);obtain ⟨d0,d1,f0,f1⟩:=h1.cells)
     have dA:∀ o1 o2,((w1.alloc o1).alloc o2).cell? ⟨w.heap.size+1,1,none⟩=some (.int .i64 (j:Int)):=fun o1 o2=>(h1.start o1 o2).cells.2.1
     have hjk0:(0:Int)<=(j:Int) - (k:Int):=by omega
     have hjk1:(j:Int) - (k:Int)<=65536:=by omega
     go_region
     go_wp2_with (at_builtin;refine wpList_append_own _ rfl _ _ 27 rfl (w.heap.size+2) 37 i0 _ 5 48 Tryz.underlying27 hi0 hz0 hz1 hz2 rfl (by decide) _ l.length (cellsT l) rfl (o1.below (by go_grown)) ⟨w1.heap.size+2,0,none⟩ 1 1 [.int .i64 vk,.int .i64 (k:Int),.int .i64 ((j:Int) - (k:Int)),.int .i64 n,.string t] rfl rfl ?c1 ?c2 ?c3 ?c4 ?c5 ?_)
     case c1=>exact World.news_of_block (cs:=#[.int .i64 vk,.int .i64 (k:Int),.int .i64 ((j:Int) - (k:Int)),.int .i64 n,.string t]) (t:=37) (fr:=(0,0)) (third w1 _ _ _)
     case c2=>intro u hu;simp at hu;rcases hu with rfl | rfl | rfl | rfl | rfl <;> rfl
     case c3=>unfold maxLen;omega
     case c4=>omega
     case c5=>have:=h1.lt;simp;omega
     intro v' w2 hown' hgrow _
     have hb1:=h1.lt
     have gW:Below w1.heap.size w1 (((w1.alloc (.cells #[.int .i64 vk,.int .i64 (k:Int),.int .i64 ((j:Int) - (k:Int)),.int .i64 n,.string t] 37)).alloc (.cells #[.int .i64 0,.int .i64 0,.slice none 0 0,.slice none 0 0,.string ⟨#[]⟩] 31)).alloc (.cells #[.int .i64 vk,.int .i64 (k:Int),.int .i64 ((j:Int) - (k:Int)),.int .i64 n,.string t] 37)).drew:=by go_grown
     have g2:Below (w.heap.size+2) (((w1.alloc (.cells #[.int .i64 vk,.int .i64 (k:Int),.int .i64 ((j:Int) - (k:Int)),.int .i64 n,.string t] 37)).alloc (.cells #[.int .i64 0,.int .i64 0,.slice none 0 0,.slice none 0 0,.string ⟨#[]⟩] 31)).alloc (.cells #[.int .i64 vk,.int .i64 (k:Int),.int .i64 ((j:Int) - (k:Int)),.int .i64 n,.string t] 37)).drew w2:=(o1.below gW).grown hgrow (by have:=gW.size;omega)
     have h2:=(h1.below gW).belowB g2 (by omega)
     have r2:=(r1.belowB gW r1.lt).belowB g2 (by omega)
     have E2:Below w.heap.size w w2:=(Below.then E1 gW).trans (g2.mono (by omega))
     have o2:Own (w.heap.size+2) w2 v' (l++[⟨vk,k,(j:Int) - k,n,t⟩]):=by
      rw [Own,List.length_append,cellsT_snoc];exact hown'
     have hl2:(l++[(⟨vk,k,(j:Int) - k,n,t⟩:T5)]).length<=16384:=by rw [List.length_append];simp;omega
     clear hgrow hown' gW g2
     go_wp2_with (go_at_call 11;with_reducible refine (cM _ (w.heap.size+1) j hj2 h2).mono ?_;rintro e w3 ⟨rfl,h3,b3⟩)
     have hz:=sepTo_ge hj2
     have h3':Sc w3 (w.heap.size+1) s (sepTo s j):=h3
     go_roundw
     case rel=>exact ⟨f',sepTo s j,_,hz.2,by omega,h3',b3.below (by omega) (Nat.le_refl _) E2,r2.butN b3 (by omega),o2.but b3 (by omega),hl2,hr2⟩
     case measure=>rw [h3'.pos,hpk];omega
  ·have hr2:r=.ok l:=by rw [<- hr.out,scanGo,if_neg hlt]
   subst hr2
   clear hr
   have hlt':¬ (k:Int) <(s.size:Int):=by omega
   obtain ⟨q0,q1,q2,q3,q4,q5,q6,q7,q8,q9⟩:=r0.flt
   go_wp2
   refine bodyPost_ret (by simp [results,Tryz.results6,go_sem,q0,q1,q2,q3,q4];try rfl) rfl ?_
   exact ⟨putF E0 _ _ _ _ _,_,rfl,o0.put (by omega) (by omega) _ _ _ _ _⟩
end Go.Proofs.YtalkinnbfglkdaaGreatDoor.Tok
