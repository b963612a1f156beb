/-
  Layer 13: the law's helper prim; its fixed programs, laid. (Written by wip/gen/printer-l1.py.)
  Layer 13: the law's lives.
-/
import Derived.Test.YtalkinnbfglkdaaGreatDoorPt45
import Derived.Test.YtalkinnbfglkdaaGreatDoorPt2
import Derived.Handy
set_option maxHeartbeats 8000000
namespace Go.Proofs.YtalkinnbfglkdaaGreatDoor.Syn
open Go.RowKit Go.Shelf Go.Maps Go.Proofs.YtalkinnbfglkdaaGreatDoor.Shape Go.Proofs.YtalkinnbfglkdaaGreatDoor.Draw
set_option linter.unusedVariables false
set_option linter.unusedSimpArgs false
set_option maxRecDepth 100000
theorem i64z:I64 0:=⟨by decide,by decide⟩
theorem noKids (w:World):∃ b off:Nat,(([]:List Nd)≠[]->(none:Option Addr)=some ⟨b,off,none⟩)/\NdsAt w b off []:=⟨0,0,fun h=>absurd rfl h,by rw [NdsAt];trivial⟩
theorem noBody (w:World):∃ b off:Nat,(([]:List St)≠[]->(none:Option Addr)=some ⟨b,off,none⟩)/\StsAt w b off []:=⟨0,0,fun h=>absurd rfl h,by rw [StsAt];trivial⟩
def leafV (k c p o:Int):List Value:=[.int .i64 k,.int .i64 0,.int .i64 c,.string ⟨#[]⟩,.int .i64 p,.int .i64 o,.int .i64 0,.slice none 0 0,.slice none 0 0,.slice none 0 0,.slice none 0 0,.slice none 0 0,.int .i64 0,.int .i64 0,.int .i64 0]
def leafN (k c p o:Int):Nd:=.mk k 0 c ⟨#[]⟩ p o zA [] [] 0 0 0
theorem leaf_at (k c p o:Int) (hk:I64 k/\I64 c/\I64 p/\I64 o) (w:World):NdV w (leafV k c p o) (leafN k c p o):=by
 unfold leafN
 rw [NdV]
 exact ⟨_,_,_,_,none,0,none,0,rfl,⟨hk.1,i64z,hk.2.1,hk.2.2.1,hk.2.2.2,i64z,i64z,i64z⟩,by decide,zA_at w,⟨Nat.zero_le _,by decide⟩,⟨Nat.zero_le _,by decide⟩,noKids w,noBody w⟩
def innV (k c:Int) (b n:Nat):List Value:=[.int .i64 k,.int .i64 0,.int .i64 c,.string ⟨#[]⟩,.int .i64 0,.int .i64 0,.int .i64 0,.slice none 0 0,.slice none 0 0,.slice none 0 0,.slice (some ⟨b,0,none⟩) n n,.slice none 0 0,.int .i64 0,.int .i64 0,.int .i64 0]
def innN (k c:Int) (l:List Nd):Nd:=.mk k 0 c ⟨#[]⟩ 0 0 zA l [] 0 0 0
theorem inn_at (k c:Int) (hk:I64 k/\I64 c) (b:Nat) (l:List Nd) (w:World) (hl:l.length<=1000) (h:NdsAt w b 0 l):NdV w (innV k c b l.length) (innN k c l):=by
 unfold innN
 rw [NdV]
 exact ⟨_,_,_,_,some ⟨b,0,none⟩,l.length,none,0,rfl,⟨hk.1,i64z,hk.2,i64z,i64z,i64z,i64z,i64z⟩,by decide,zA_at w,⟨Nat.le_refl _,by omega⟩,⟨Nat.zero_le _,by decide⟩,⟨b,0,fun _=>rfl,h⟩,noBody w⟩
theorem i64c (x:Int) (h:0<=x/\x<=1000):I64 x:=⟨by omega,by omega⟩
theorem frozen_off (W:World) (cs:Array Value) (T:TypeId) (o:Nat):(W.alloc (.cells cs T)).frozen? ⟨W.heap.size,o,none⟩=false:=by simp
theorem kept_cell {w w':World}{b:Nat}(h:w'.heap[b]?=w.heap[b]?) (o:Nat):w'.cell? ⟨b,o,none⟩=w.cell? ⟨b,o,none⟩:=World.cell?_of_block h
theorem kept_frozen {w w':World}{b:Nat}(h:w'.heap[b]?=w.heap[b]?) (o:Nat):w'.frozen? ⟨b,o,none⟩=w.frozen? ⟨b,o,none⟩:=by simp only [World.frozen?,h]
theorem two_at {W:World}{b:Nat}{c1 c2:List Value}{A B:Nd}(hc:Cells W b 0 (c1++c2)) (hf:∀ o,W.frozen? ⟨b,o,none⟩=false) (h1:NdV W c1 A) (h2:NdV W c2 B):NdsAt W b 0 [A,B]:=by
 have hc:=cells_app hc
 rw [h1.len] at hc
 rw [NdsAt,NdsAt,NdsAt]
 exact ⟨⟨c1,hc.1,h1⟩,hf _,⟨c2,hc.2,h2⟩,hf _,trivial⟩
theorem three_at {W:World}{b:Nat}{c1 c2 c3:List Value}{A B C:Nd}(hc:Cells W b 0 (c1++(c2++c3))) (hf:∀ o,W.frozen? ⟨b,o,none⟩=false) (h1:NdV W c1 A) (h2:NdV W c2 B) (h3:NdV W c3 C):NdsAt W b 0 [A,B,C]:=by
 have hc:=cells_app hc
 rw [h1.len] at hc
 have hd:=cells_app hc.2
 rw [h2.len] at hd
 rw [NdsAt,NdsAt,NdsAt,NdsAt]
 exact ⟨⟨c1,hc.1,h1⟩,hf _,⟨c2,hd.1,h2⟩,hf _,⟨c3,hd.2,h3⟩,hf _,trivial⟩
theorem setRow_other (w:World) (C k:Nat) (cs:Array Value) (h:k≠C):(w.setRow C cs).heap[k]?=w.heap[k]?:=by
 simp only [World.setRow,Array.getElem?_modify]
 rw [if_neg (by omega)]
theorem Below.row {n:Nat}{a w:World}(h:Below n a w) {C:Nat}(hC:n<=C) (cs:Array Value):Below n a (w.setRow C cs) :=
 h.trans ⟨rfl,rfl,rfl,by simp [World.setRow],fun k hk=>setRow_other w C k cs (by omega)⟩
theorem row_cells {w:World}{C:Nat}{cs:List Value}{z:Array Value}{T:TypeId}(hz:w.heap[C]?=some (.cells z T (0,0))):Cells (w.setRow C cs.toArray) C 0 cs:=by
 intro i hi
 have:=setRow_heap w C z cs.toArray T (0,0) hz
 rw [Nat.zero_add]
 simp [World.cell?,this,hi]
theorem wp_load_nd {o:Oper}{a:Act}{w:World}{K:Act->World->Prop}{Q:Exit->Act->World->Prop}{p:Nat}(ho:o.op=.load 49 (.tmp p)) {C:Nat}(hp:a.tmps[p]?.getD undef=.pointer (some ⟨C,0,none⟩))
  {cs:List Value}(hc:Cells w C 0 cs) (hl:cs.length=15) (hk:K (a.put o.dst (.agg cs.toArray)) w):o.wp Tryz.prog a w K Q:=by
 have e:=load_node hc hl
 have ev1:a.eval (.tmp p)=.pointer (some ⟨C,0,none⟩):=by rw [<- hp];simp [Act.eval]
 unfold Oper.wp execOp
 rw [ho]
 simp only [ev1,Sem.run_bind,e,Result.andThen_ok,Sem.run_pure,Oper.upon_value]
 exact hk
theorem primP (p:Int) (w:World):Calls Tryz.prog 10 #[.int .i64 p] w fun e w'=>e=.returned (.agg (leafV 9 2 p 0).toArray)/\w'=w.alloc (.cells (leafV 9 2 p 0).toArray 49):=by
 unfold leafV
 go_enter Tryz.func10,Tryz.ntmps10
 go_wp2_with fail
 go_returns
 exact ⟨rfl,rfl⟩
def sumN:Nd:=innN 14 2 [leafN 17 3 0 1,leafN 9 2 1 0]
def avgN:Nd:=innN 16 2 [sumN,leafN 9 2 4 0,leafN 9 2 20 0]
def avgL:List St:=[.mk 2 0 ⟨#[97,118,103]⟩ 0 zN avgN]
def twoN:Nd:=innN 16 2 [leafN 9 2 9 0,leafN 9 2 11 0]
def twoL:List St:=[.mk 2 0 ⟨#[102]⟩ 0 zN twoN]
def defV (t:ByteArray) (g n:Nat):List Value:=.int .i64 2::.int .i64 0::.string t::.int .i64 0::(zNv++innV 16 2 g n)
def Blk (w:World) (b:Nat) (cs:List Value):Prop:=Cells w b 0 cs/\∀ o,w.frozen? ⟨b,o,none⟩=false
theorem Blk.kept {w w':World}{b:Nat}{cs:List Value}(h:Blk w b cs) (hk:w'.heap[b]?=w.heap[b]?):Blk w' b cs:=⟨fun i hi=>(kept_cell hk _).trans (h.1 i hi),fun o=>(kept_frozen hk o).trans (h.2 o)⟩
theorem Blk.below {w w':World}{b:Nat}{cs:List Value}(h:Blk w b cs) (hl:0<cs.length) (hb:Below w.heap.size w w'):Blk w' b cs:=h.kept (hb.block _ (h.1.lt hl))
theorem blk_new (w:World) (cs:List Value) (T:TypeId):Blk (w.alloc (.cells cs.toArray T)) w.heap.size cs:=⟨cells_new w cs T,fun o=>frozen_off _ _ _ o⟩
abbrev sumK:List Value:=leafV 17 3 0 1++leafV 9 2 1 0
abbrev avgK (b2:Nat):List Value:=innV 14 2 b2 2++(leafV 9 2 4 0++leafV 9 2 20 0)
abbrev twoK:List Value:=leafV 9 2 9 0++leafV 9 2 11 0
theorem lf (k c p o:Int) (h:(0<=k/\k<=1000)/\(0<=c/\c<=1000)/\(0<=p/\p<=1000)/\(0<=o/\o<=1000)) (w:World):NdV w (leafV k c p o) (leafN k c p o) :=
 leaf_at k c p o ⟨i64c _ h.1,i64c _ h.2.1,i64c _ h.2.2.1,i64c _ h.2.2.2⟩ w
theorem sum_at {w:World}{b2:Nat}(h:Blk w b2 sumK):NdV w (innV 14 2 b2 2) sumN :=
 inn_at 14 2 ⟨i64c _ (by decide),i64c _ (by decide)⟩ b2 [leafN 17 3 0 1,leafN 9 2 1 0] _ (by decide) (two_at h.1 h.2 (lf _ _ _ _ (by decide) w) (lf _ _ _ _ (by decide) w))
theorem avg_at {w:World}{b2 g:Nat}(h:Blk w b2 sumK) (hg:Blk w g (avgK b2)):NdV w (innV 16 2 g 3) avgN :=
 inn_at 16 2 ⟨i64c _ (by decide),i64c _ (by decide)⟩ g [sumN,leafN 9 2 4 0,leafN 9 2 20 0] _ (by decide) (three_at hg.1 hg.2 (sum_at h) (lf _ _ _ _ (by decide) w) (lf _ _ _ _ (by decide) w))
theorem two_kids {w:World}{g:Nat}(hg:Blk w g twoK):NdV w (innV 16 2 g 2) twoN :=
 inn_at 16 2 ⟨i64c _ (by decide),i64c _ (by decide)⟩ g [leafN 9 2 9 0,leafN 9 2 11 0] _ (by decide) (two_at hg.1 hg.2 (lf _ _ _ _ (by decide) w) (lf _ _ _ _ (by decide) w))
theorem def_at {w:World}{g n s:Nat}{t:ByteArray}{N:Nd}(ht:t.size<=1000) (hn:NdV w (innV 16 2 g n) N) (hs:Blk w s (defV t g n)):StsAt w s 0 [.mk 2 0 t 0 zN N]:=by
 rw [StsAt]
 refine ⟨⟨defV t g n,hs.1,?_⟩,⟨hs.2 _,hs.2 _⟩,by rw [StsAt];trivial⟩
 rw [StV]
 exact ⟨zNv,innV 16 2 g n,rfl,⟨i64c _ (by decide),i64z,i64z⟩,by omega,zN_at w,hn⟩
def AvgAt (w:World) (s:Nat):Prop:=∃ b2 g,Blk w b2 sumK/\Blk w g (avgK b2)/\Blk w s (defV ⟨#[97,118,103]⟩ g 3)
theorem AvgAt.sts {w:World}{s:Nat}(h:AvgAt w s):StsAt w s 0 avgL:=by
 obtain ⟨b2,g,h1,h2,h3⟩:=h
 exact def_at (by decide) (avg_at h1 h2) h3
theorem AvgAt.below {w w':World}{s:Nat}(h:AvgAt w s) (hb:Below w.heap.size w w'):AvgAt w' s:=by
 obtain ⟨b2,g,h1,h2,h3⟩:=h
 exact ⟨b2,g,h1.below (by decide) hb,h2.below (Nat.zero_lt_succ _) hb,h3.below (Nat.zero_lt_succ _) hb⟩
def TwoAt (w:World) (s:Nat):Prop:=∃ g,Blk w g twoK/\Blk w s (defV ⟨#[102]⟩ g 2)
theorem TwoAt.sts {w:World}{s:Nat}(h:TwoAt w s):StsAt w s 0 twoL:=by
 obtain ⟨g,h1,h2⟩:=h
 exact def_at (by decide) (two_kids h1) h2
theorem TwoAt.below {w w':World}{s:Nat}(h:TwoAt w s) (hb:Below w.heap.size w w'):TwoAt w' s:=by
 obtain ⟨g,h1,h2⟩:=h
 exact ⟨g,h1.below (by decide) hb,h2.below (Nat.zero_lt_succ _) hb⟩
theorem infoProg:(Tryz.prog.info? 24).map (·.size)=some 1:=by kernel_rfl
theorem wp_store_prog {o:Oper}{a:Act}{w:World}{K:Act->World->Prop}{Q:Exit->Act->World->Prop}{p v:Nat}(ho:o.op=.store 24 (.tmp p) (.tmp v)) {C:Nat}(hp:a.tmps.getD p undef=.pointer (some ⟨C,0,none⟩))
  {x z:Value}(hv:a.tmps.getD v undef=.agg #[x]) (hz:w.heap[C]?=some (.cells #[z] 24 (0,0))) (h1:x.oneCell'=true)
  (hk:K (a.put o.dst undef) (w.setRow C #[x])):o.wp Tryz.prog a w K Q:=by
 have e0:=run_storeVar_row (P:=Tryz.prog) w C 24 24 #[z] #[x] hz infoProg rfl (by simp [h1])
 have e:(Instr.storeAt 24 (.pointer (some ⟨C,0,none⟩)) (.agg #[x])).run Tryz.prog w=.ok () (w.setRow C #[x]):=by
  simp only [Instr.storeAt,Instr.sureAddr,Sem.run_bind,Sem.run_pure,Result.andThen]
  exact e0
 have ev1:a.eval (.tmp p)=.pointer (some ⟨C,0,none⟩):=hp
 have ev2:a.eval (.tmp v)=.agg #[x]:=hv
 unfold Oper.wp execOp
 rw [ho]
 simp only [ev1,ev2,Sem.run_bind,e,Result.andThen_ok,Sem.run_pure,Oper.upon_skip]
 exact hk
theorem run_slice_three {c1 c2 c3:List Value}(h1:c1.length=15) (h2:c2.length=15) (h3:c3.length=15) (w:World):(Instr.buildSlice 47 3 #[(0,.agg c1.toArray),(1,.agg c2.toArray),(2,.agg c3.toArray)]).run Tryz.prog w=.ok (.slice (some ⟨w.heap.size,0,none⟩) 3 3) (w.alloc (.cells (c1++(c2++c3)).toArray 49)):=by
 obtain ⟨a0,a1,a2,a3,a4,a5,a6,a7,a8,a9,a10,a11,a12,a13,a14,rfl⟩:=list15 h1
 obtain ⟨c0,c1,c2,c3,c4,c5,c6,c7,c8,c9,c10,c11,c12,c13,c14,rfl⟩:=list15 h2
 obtain ⟨d0,d1,d2,d3,d4,d5,d6,d7,d8,d9,d10,d11,d12,d13,d14,rfl⟩:=list15 h3
 kernel_rfl
theorem wp_slice_three {o:Oper}{a:Act}{w:World}{K:Act->World->Prop}{Q:Exit->Act->World->Prop}{p q r:Nat}(ho:o.op=.buildSlice 47 3 #[(0,.tmp p),(1,.tmp q),(2,.tmp r)]) {c1 c2 c3:List Value}(hp:a.tmps[p]?.getD undef=.agg c1.toArray) (hq:a.tmps[q]?.getD undef=.agg c2.toArray) (hr:a.tmps[r]?.getD undef=.agg c3.toArray)
  (h1:c1.length=15) (h2:c2.length=15) (h3:c3.length=15) (hk:K (a.put o.dst (.slice (some ⟨w.heap.size,0,none⟩) 3 3)) (w.alloc (.cells (c1++(c2++c3)).toArray 49))):o.wp Tryz.prog a w K Q:=by
 have e:=run_slice_three h1 h2 h3 w
 have ev1:a.eval (.tmp p)=.agg c1.toArray:=by rw [<- hp];simp [Act.eval]
 have ev2:a.eval (.tmp q)=.agg c2.toArray:=by rw [<- hq];simp [Act.eval]
 have ev3:a.eval (.tmp r)=.agg c3.toArray:=by rw [<- hr];simp [Act.eval]
 unfold Oper.wp execOp
 rw [ho]
 simp only [List.map_toArray,List.map_cons,List.map_nil,ev1,ev2,ev3,Sem.run_bind,e,Result.andThen_ok,Sem.run_pure,Oper.upon_value]
 exact hk
theorem run_slice_one (t:ByteArray) (g n:Nat) (w:World):(Instr.buildSlice 22 1 #[(0,.agg (defV t g n).toArray)]).run Tryz.prog w=.ok (.slice (some ⟨w.heap.size,0,none⟩) 1 1) (w.alloc (.cells (defV t g n).toArray 53)):=by
 kernel_rfl
theorem wp_slice_one {o:Oper}{a:Act}{w:World}{K:Act->World->Prop}{Q:Exit->Act->World->Prop}{p:Nat}(ho:o.op=.buildSlice 22 1 #[(0,.tmp p)]) {t:ByteArray}{g n:Nat}(hp:a.tmps[p]?.getD undef=.agg (defV t g n).toArray)
  (hk:K (a.put o.dst (.slice (some ⟨w.heap.size,0,none⟩) 1 1)) (w.alloc (.cells (defV t g n).toArray 53))):o.wp Tryz.prog a w K Q:=by
 have e:=run_slice_one t g n w
 have ev1:a.eval (.tmp p)=.agg (defV t g n).toArray:=by rw [<- hp];simp [Act.eval]
 unfold Oper.wp execOp
 rw [ho]
 simp only [List.map_toArray,List.map_cons,List.map_nil,ev1,Sem.run_bind,e,Result.andThen_ok,Sem.run_pure,Oper.upon_value]
 exact hk
def F13 (n b2:Nat) (L:List Value) (t:Nat) (v:Value) (w:World):Prop :=
 if t=8 then v=.agg (innV 14 2 b2 2).toArray
 else if t=9 then v=.agg (leafV 9 2 4 0).toArray
 else if t=10 then v=.agg (leafV 9 2 20 0).toArray
 else if t=11 then ∃ g,v=.slice (some ⟨g,0,none⟩) 3 3/\Blk w g (avgK b2)
 else if t=12 then ∃ g,v=.agg (innV 16 2 g 3).toArray/\Blk w g (avgK b2)
 else if t=13 then ∃ g,v=.agg (defV ⟨#[97,118,103]⟩ g 3).toArray/\Blk w g (avgK b2)
 else if t=14 then ∃ g s,v=.slice (some ⟨s,0,none⟩) 1 1/\Blk w g (avgK b2)/\Blk w s (defV ⟨#[97,118,103]⟩ g 3)
 else if t=15 then ∃ g s,v=.agg #[.slice (some ⟨s,0,none⟩) 1 1]/\Blk w g (avgK b2)/\Blk w s (defV ⟨#[97,118,103]⟩ g 3)
 else if t=2 then ∃ C,v=.pointer (some ⟨C,0,none⟩)/\n<=C/\w.heap[C]?=some (.cells #[.slice none 0 0] 24 (0,0))
 else v=L[t]?.getD undef
theorem F13.mono {n b2:Nat}{L:List Value}(t:Nat) (v:Value) {x y:World}(hb:Below x.heap.size x y) (h:F13 n b2 L t v x):F13 n b2 L t v y:=by
 unfold F13 at h ⊢
 split
 ·rename_i e;rw [if_pos e] at h;exact h
 rename_i e0;rw [if_neg e0] at h
 split
 ·rename_i e;rw [if_pos e] at h;exact h
 rename_i e1;rw [if_neg e1] at h
 split
 ·rename_i e;rw [if_pos e] at h;exact h
 rename_i e2;rw [if_neg e2] at h
 split
 ·rename_i e;rw [if_pos e] at h;obtain ⟨g,h1,h2⟩:=h;exact ⟨g,h1,h2.below (Nat.zero_lt_succ _) hb⟩
 rename_i e3;rw [if_neg e3] at h
 split
 ·rename_i e;rw [if_pos e] at h;obtain ⟨g,h1,h2⟩:=h;exact ⟨g,h1,h2.below (Nat.zero_lt_succ _) hb⟩
 rename_i e4;rw [if_neg e4] at h
 split
 ·rename_i e;rw [if_pos e] at h;obtain ⟨g,h1,h2⟩:=h;exact ⟨g,h1,h2.below (Nat.zero_lt_succ _) hb⟩
 rename_i e5;rw [if_neg e5] at h
 split
 ·rename_i e;rw [if_pos e] at h;obtain ⟨g,s,h1,h2,h3⟩:=h;exact ⟨g,s,h1,h2.below (Nat.zero_lt_succ _) hb,h3.below (Nat.zero_lt_succ _) hb⟩
 rename_i e6;rw [if_neg e6] at h
 split
 ·rename_i e;rw [if_pos e] at h;obtain ⟨g,s,h1,h2,h3⟩:=h;exact ⟨g,s,h1,h2.below (Nat.zero_lt_succ _) hb,h3.below (Nat.zero_lt_succ _) hb⟩
 rename_i e7;rw [if_neg e7] at h
 split
 ·rename_i e;rw [if_pos e] at h;obtain ⟨C,h1,h2,h3⟩:=h;exact ⟨C,h1,h2,(hb.block _ (Array.getElem?_eq_some_iff.1 h3).1).trans h3⟩
 rename_i e8;rw [if_neg e8] at h
 exact h
theorem ne_prog {w:World}{g C:Nat}{cs:List Value}{z:Value}{T:TypeId}{fr:Nat × Nat}(h:Cells w g 0 cs) (hl:20<cs.length) (hz:w.heap[C]?=some (.cells #[z] T fr)):g≠C:=by
 intro e
 subst e
 have:=h 20 hl
 rw [Nat.zero_add] at this
 simp [World.cell?,hz] at this
theorem sum_world (w:World) (o:Obj) (T T2:TypeId):Cells (((w.alloc o).alloc (.cells sumK.toArray T)).alloc (.cells (innV 14 2 (w.heap.size+1) 2).toArray T2)) (w.heap.size+1+1) 0 (innV 14 2 (w.heap.size+1) 2) /\
  Blk (((w.alloc o).alloc (.cells sumK.toArray T)).alloc (.cells (innV 14 2 (w.heap.size+1) 2).toArray T2)) (w.heap.size+1) sumK/\Below w.heap.size w (((w.alloc o).alloc (.cells sumK.toArray T)).alloc (.cells (innV 14 2 (w.heap.size+1) 2).toArray T2)):=by
 have h1:=blk_new (w.alloc o) sumK T
 rw [show (w.alloc o).heap.size=w.heap.size+1 by simp] at h1
 have c:=cells_new ((w.alloc o).alloc (.cells sumK.toArray T)) (innV 14 2 (w.heap.size+1) 2) T2
 rw [show ((w.alloc o).alloc (.cells sumK.toArray T)).heap.size=w.heap.size+1+1 by simp] at c
 exact ⟨c,h1.below (by decide) (below_new _ _),Below.then (Below.then (below_new w _) (below_new _ _)) (below_new _ _)⟩
theorem two_world (w:World) (o1 o2:Obj) (T T2 T3:TypeId):TwoAt (((((w.alloc o1).alloc o2).alloc (.cells twoK.toArray T)).alloc (.cells (defV ⟨#[102]⟩ (w.heap.size+1+1) 2).toArray T2)).alloc (.cells #[.slice (some ⟨w.heap.size+1+1+1,0,none⟩) 1 1] T3)) (w.heap.size+1+1+1) /\
  (((((w.alloc o1).alloc o2).alloc (.cells twoK.toArray T)).alloc (.cells (defV ⟨#[102]⟩ (w.heap.size+1+1) 2).toArray T2)).alloc (.cells #[.slice (some ⟨w.heap.size+1+1+1,0,none⟩) 1 1] T3)).cell? ⟨w.heap.size+1+1+1+1,0,none⟩=some (.slice (some ⟨w.heap.size+1+1+1,0,none⟩) 1 1) /\
  Below w.heap.size w (((((w.alloc o1).alloc o2).alloc (.cells twoK.toArray T)).alloc (.cells (defV ⟨#[102]⟩ (w.heap.size+1+1) 2).toArray T2)).alloc (.cells #[.slice (some ⟨w.heap.size+1+1+1,0,none⟩) 1 1] T3)):=by
 have s2:((w.alloc o1).alloc o2).heap.size=w.heap.size+1+1:=by simp
 have h1:=blk_new ((w.alloc o1).alloc o2) twoK T
 rw [s2] at h1
 have h2:=blk_new (((w.alloc o1).alloc o2).alloc (.cells twoK.toArray T)) (defV ⟨#[102]⟩ (w.heap.size+1+1) 2) T2
 rw [show (((w.alloc o1).alloc o2).alloc (.cells twoK.toArray T)).heap.size=w.heap.size+1+1+1 by simp] at h2
 have c:=World.cell?_alloc_new ((((w.alloc o1).alloc o2).alloc (.cells twoK.toArray T)).alloc (.cells (defV ⟨#[102]⟩ (w.heap.size+1+1) 2).toArray T2)) #[.slice (some ⟨w.heap.size+1+1+1,0,none⟩) 1 1] T3 0
 rw [show ((((w.alloc o1).alloc o2).alloc (.cells twoK.toArray T)).alloc (.cells (defV ⟨#[102]⟩ (w.heap.size+1+1) 2).toArray T2)).heap.size=w.heap.size+1+1+1+1 by simp] at c
 exact ⟨⟨_,(h1.below (by decide) (below_new _ _)).below (by decide) (below_new _ _),h2.below (Nat.zero_lt_succ _) (below_new _ _)⟩,by rw [c];rfl,Below.then (Below.then (Below.then (Below.then (below_new w _) (below_new _ _)) (below_new _ _)) (below_new _ _)) (below_new _ _)⟩
theorem avg_end {wc w:World}{b2 g s C:Nat}(h1:Blk wc b2 sumK) (hb:Below wc.heap.size wc w) (hC:wc.heap.size<=C) (hz:w.heap[C]?=some (.cells #[.slice none 0 0] 24 (0,0))) (h2:Blk w g (avgK b2)) (h3:Blk w s (defV ⟨#[97,118,103]⟩ g 3)) :
  AvgAt (w.setRow C #[.slice (some ⟨s,0,none⟩) 1 1]) s/\(w.setRow C #[.slice (some ⟨s,0,none⟩) 1 1]).cell? ⟨C,0,none⟩=some (.slice (some ⟨s,0,none⟩) 1 1)/\Below wc.heap.size wc (w.setRow C #[.slice (some ⟨s,0,none⟩) 1 1]):=by
 have h1:=h1.below (by decide) hb
 have n1:=ne_prog h1.1 (by decide) hz
 have n2:=ne_prog h2.1 (by show 20<45;decide) hz
 have n3:=ne_prog h3.1 (by show 20<34;decide) hz
 refine ⟨⟨b2,g,h1.kept (setRow_other _ _ _ _ n1),h2.kept (setRow_other _ _ _ _ n2),h3.kept (setRow_other _ _ _ _ n3)⟩,?_,Below.row hb hC _⟩
 have:=row_cells (cs:=[.slice (some ⟨s,0,none⟩) 1 1]) hz 0 (Nat.zero_lt_succ _)
 exact this
theorem lv_noText0:noText ⟨#[]⟩=true:=by rw [<- text_nil,ba_yes rfl]
theorem name_avg:nameB ⟨#[97,118,103]⟩=true:=by decide
theorem name_f:nameB ⟨#[102]⟩=true:=by decide
theorem ok_avg:okN avgN=true:=by
 simp [avgN,sumN,innN,leafN,okN,okK,nonNeg,leafB,innerB,emptyB,lv_noText0,eqA_zA,litB,clsB,sameB,allC,headTakes,opCls,Nd.t,Nd.k,Nd.c,Nd.v,Nd.p,Nd.o,Nd.ks,Nd.bd,Nd.a,Nd.d,Nd.s,Nd.z,St.k,St.a,St.n,St.s,St.te,St.nd,Arr.shape,Arr.kind]
theorem ok_two:okN twoN=true:=by
 simp [twoN,innN,leafN,okN,okK,nonNeg,leafB,innerB,emptyB,lv_noText0,eqA_zA,litB,clsB,sameB,allC,headTakes,opCls,Nd.t,Nd.k,Nd.c,Nd.v,Nd.p,Nd.o,Nd.ks,Nd.bd,Nd.a,Nd.d,Nd.s,Nd.z,St.k,St.a,St.n,St.s,St.te,St.nd,Arr.shape,Arr.kind]
theorem okB_avg:okB avgL=true:=by
 simp [okB,avgL,okL,okS,ok_avg,nodup,dupAt,zero_zN,name_avg,List.range_succ]
 simp [avgN,innN,Nd.t,Nd.k,Nd.c,Nd.v,Nd.p,Nd.o,Nd.ks,Nd.bd,Nd.a,Nd.d,Nd.s,Nd.z,St.k,St.a,St.n,St.s,St.te,St.nd,Arr.shape,Arr.kind]
theorem okB_two:okB twoL=true:=by
 simp [okB,twoL,okL,okS,ok_two,nodup,dupAt,zero_zN,name_f,List.range_succ]
 simp [twoN,innN,Nd.t,Nd.k,Nd.c,Nd.v,Nd.p,Nd.o,Nd.ks,Nd.bd,Nd.a,Nd.d,Nd.s,Nd.z,St.k,St.a,St.n,St.s,St.te,St.nd,Arr.shape,Arr.kind]
theorem siz_avg:sizB avgL=6:=by simp [avgL,avgN,sumN,innN,leafN,sizB,sizS,siz,sizK,zN]
theorem siz_two:sizB twoL=3:=by simp [twoL,twoN,innN,leafN,sizB,sizS,siz,sizK,zN]
theorem right_avg:rightBE avgL=0:=by
 have h1:depB avgL=3:=by simp [avgL,avgN,sumN,innN,leafN,depB,depS,dep,depK,zN]
 have h3:outB avgL=true:=by simp [avgL,avgN,sumN,innN,leafN,outB,menB,menN,menK,zN,Nd.t,Nd.k,Nd.c,Nd.v,Nd.p,Nd.o,Nd.ks,Nd.bd,Nd.a,Nd.d,Nd.s,Nd.z,St.k,St.a,St.n,St.s,St.te,St.nd,Arr.shape,Arr.kind]
 unfold rightBE
 rw [h1,siz_avg,okB_avg,h3];simp [avgL]
theorem right_two:rightBE twoL=0:=by
 have h1:depB twoL=2:=by simp [twoL,twoN,innN,leafN,depB,depS,dep,depK,zN]
 have h3:outB twoL=true:=by simp [twoL,twoN,innN,leafN,outB,menB,menN,menK,zN,Nd.t,Nd.k,Nd.c,Nd.v,Nd.p,Nd.o,Nd.ks,Nd.bd,Nd.a,Nd.d,Nd.s,Nd.z,St.k,St.a,St.n,St.s,St.te,St.nd,Arr.shape,Arr.kind]
 unfold rightBE
 rw [h1,siz_two,okB_two,h3];simp [twoL]
theorem sh_avg:shB litW avgL=[⟨#[97,118,103]⟩,⟨#[60,45]⟩,⟨#[43]⟩,⟨#[47]⟩,⟨#[37]⟩,⟨#[116,97,108,108,121]⟩]:=by
 simp [avgL,avgN,sumN,innN,leafN,shB,shC,shS,shN,shK,kidW,par,hasB,wdB,primT,opT,Nd.t,Nd.k,Nd.c,Nd.v,Nd.p,Nd.o,Nd.ks,Nd.bd,Nd.a,Nd.d,Nd.s,Nd.z,St.k,St.a,St.n,St.s,St.te,St.nd,Arr.shape,Arr.kind]
theorem sh_two:shB litW twoL=[⟨#[102]⟩,⟨#[60,45]⟩,⟨#[60]⟩,⟨#[61]⟩]:=by
 simp [twoL,twoN,innN,leafN,shB,shC,shS,shN,shK,kidW,par,hasB,wdB,primT,opT,Nd.t,Nd.k,Nd.c,Nd.v,Nd.p,Nd.o,Nd.ks,Nd.bd,Nd.a,Nd.d,Nd.s,Nd.z,St.k,St.a,St.n,St.s,St.te,St.nd,Arr.shape,Arr.kind]
theorem long_avg:(if rightBE avgL=0 then longT avgL else [])=[97,118,103,32,60,45,32,43,32,47,32,37,32,116,97,108,108,121,10]:=by
 rw [if_pos right_avg]
 unfold longT
 rw [if_neg (by simp [avgL]),sh_avg]
 decide
theorem short_avg:(if rightBE avgL=0 then shortT avgL else [])=[97,118,103,60,45,43,47,37,116,97,108,108,121]:=by
 rw [if_pos right_avg]
 unfold shortT
 rw [sh_avg]
 decide
theorem short_two:(if rightBE twoL=0 then shortT twoL else [])=[102,60,45,60,32,61]:=by
 rw [if_pos right_two]
 unfold shortT
 rw [sh_two]
 decide
theorem long_nil:(if rightBE []=0 then longT [] else [])=[]:=by
 unfold longT
 rw [if_pos rfl]
 split <;> rfl
def Tb13 (w:World):Prop:=Tab w/\Tok.TZ w/\10<w.heap.size
theorem Tb13.below {w w':World}(h:Tb13 w) (hb:Below w.heap.size w w'):Tb13 w':=⟨h.1.below hb,Tok.TZ.below h.2.1 hb,Nat.lt_of_lt_of_le h.2.2 hb.size⟩
theorem live_long (w:World) (hT:Tb13 w) (s:Nat) (h:AvgAt w s):Calls Tryz.prog 7 #[.agg #[.slice (some ⟨s,0,none⟩) 1 1]] w fun e w'=>e=.returned (.string ⟨#[97,118,103,32,60,45,32,43,32,47,32,37,32,116,97,108,108,121,10]⟩)/\Below w.heap.size w w':=by
 have:=printW (some ⟨s,0,none⟩) 1 s 0 avgL w ⟨Nat.le_refl _,by decide⟩ (fun _=>rfl) h.sts hT.1 hT.2.1 hT.2.2 (by rw [siz_avg];decide)
 rw [long_avg] at this
 exact this
theorem live_short (w:World) (hT:Tb13 w) (s:Nat) (h:AvgAt w s):Calls Tryz.prog 8 #[.agg #[.slice (some ⟨s,0,none⟩) 1 1]] w fun e w'=>e=.returned (.string ⟨#[97,118,103,60,45,43,47,37,116,97,108,108,121]⟩)/\Below w.heap.size w w':=by
 have:=compactW (some ⟨s,0,none⟩) 1 s 0 avgL w ⟨Nat.le_refl _,by decide⟩ (fun _=>rfl) h.sts hT.1 hT.2.1 hT.2.2 (by rw [siz_avg];decide)
 rw [short_avg] at this
 exact this
theorem live_two (w:World) (hT:Tb13 w) (s:Nat) (h:TwoAt w s):Calls Tryz.prog 8 #[.agg #[.slice (some ⟨s,0,none⟩) 1 1]] w fun e w'=>e=.returned (.string ⟨#[102,60,45,60,32,61]⟩)/\Below w.heap.size w w':=by
 have:=compactW (some ⟨s,0,none⟩) 1 s 0 twoL w ⟨Nat.le_refl _,by decide⟩ (fun _=>rfl) h.sts hT.1 hT.2.1 hT.2.2 (by rw [siz_two];decide)
 rw [short_two] at this
 exact this
theorem live_nil (w:World) (hT:Tb13 w):Calls Tryz.prog 7 #[.agg #[.slice none 0 0]] w fun e w'=>e=.returned (.string ⟨#[]⟩)/\Below w.heap.size w w':=by
 have:=printW none 0 0 0 [] w ⟨Nat.le_refl _,by decide⟩ (fun h=>absurd rfl h) (by rw [StsAt];trivial) hT.1 hT.2.1 hT.2.2 (by rw [sizB];decide)
 rw [long_nil] at this
 exact this
theorem livesT (w:World) (hT:Tb13 w):Calls Tryz.prog 5 #[] w fun e w'=>e=.returned (.bool true)/\Below w.heap.size w w':=by
 have K:=fun (P:Int) (w:World)=>primP P w
 unfold leafV at K
 go_enter Tryz.func5,Tryz.ntmps5
 go_upto_region 1 with (fail)
 go_cut [1] (fun s wx=>∃ B b2,s=.pointer (some ⟨B,0,none⟩)/\Cells wx B 0 (innV 14 2 b2 2)/\Blk wx b2 sumK/\Below w.heap.size w wx)
 case first =>
  go_wp2_with (go_at_call 10;((with_reducible refine (K _ _).mono ?_);rintro e w3 ⟨rfl,rfl⟩))
  go_meet
  exact ⟨_,_,rfl,(sum_world w _ _ _).1,(sum_world w _ _ _).2.1,(sum_world w _ _ _).2.2⟩
 case rest =>
  obtain ⟨B,b2,rfl,hp,hs,hb⟩:=hcut
  go_upto_region 2 with (fail)
  go_cut [2] (fun s wx=>∃ C sb,s=.pointer (some ⟨C,0,none⟩)/\wx.cell? ⟨C,0,none⟩=some (.slice (some ⟨sb,0,none⟩) 1 1)/\AvgAt wx sb/\Below w.heap.size w wx)
  case first =>
   have hB0:Below wc.heap.size wc wc.drew:=(Below.refl _ _).drew
   refine wp_region_lastL (l:=[_,_,_,_,_,_,_,_,_]) (last:=_) rfl (by kernel_rfl) (fun _=>0) (fun x y=>Below x.heap.size x y) (F13 wc.heap.size b2) 2 14 (fun x=>Below.refl _ _) (fun _ _ _ h g=>Below.then h g) (fun t v x y hb h=>F13.mono t v hb h) (by kernel_rfl) (by kernel_rfl) rfl (by simp) ?_ ?_ ?_ ?_
   ·intro t v w' ht h
    unfold F13 at h
    iterate 9 rw [if_neg (by omega)] at h
    exact h
   ·intro t ht
    unfold F13
    simp only [List.any_cons,List.any_nil,Bool.or_false,Bool.or_eq_false_iff,beq_eq_false_iff_ne,ne_eq,Option.some.injEq] at ht
    iterate 9 rw [if_neg (by omega)]
   ·refine AllSteps.cons ?_ (AllSteps.cons ?_ (AllSteps.cons ?_ (AllSteps.cons ?_ (AllSteps.cons ?_ (AllSteps.cons ?_ (AllSteps.cons ?_ (AllSteps.cons ?_ (AllSteps.cons ?_ AllSteps.nil))))))))
    ·intro a w' hle H
     have h1:a.tmps[1]?.getD undef=.pointer (some ⟨B,0,none⟩):=H 1 rfl
     refine ⟨trivial,fun K Q hK=>?_⟩
     exact wp_load_nd rfl h1 (hp.below (Below.then hB0 hle)) rfl (hK.out _ _ (Below.refl _ _) rfl)
    ·intro a w' hle H
     refine ⟨trivial,fun K Q hK=>?_⟩
     go_simp
     go_at_call 10
     with_reducible refine (primP _ _).mono ?_
     rintro e w3 ⟨rfl,rfl⟩
     exact hK.out _ _ (below_new _ _) rfl
    ·intro a w' hle H
     refine ⟨trivial,fun K Q hK=>?_⟩
     go_simp
     go_at_call 10
     with_reducible refine (primP _ _).mono ?_
     rintro e w3 ⟨rfl,rfl⟩
     exact hK.out _ _ (below_new _ _) rfl
    ·intro a w' hle H
     have h8:a.tmps[8]?.getD undef=.agg (innV 14 2 b2 2).toArray:=H 8 rfl
     have h9:a.tmps[9]?.getD undef=.agg (leafV 9 2 4 0).toArray:=H 9 rfl
     have h10:a.tmps[10]?.getD undef=.agg (leafV 9 2 20 0).toArray:=H 10 rfl
     refine ⟨trivial,fun K Q hK=>?_⟩
     exact wp_slice_three rfl h8 h9 h10 rfl rfl rfl (hK.out _ _ (below_new _ _) ⟨w'.heap.size,rfl,blk_new _ _ _⟩)
    ·intro a w' hle H
     obtain ⟨g,h11,k11⟩:F13 _ _ _ 11 (a.tmps[11]?.getD undef) w':=H 11 rfl
     refine ⟨trivial,fun K Q hK=>?_⟩
     go_simp
     exact hK.out _ _ (Below.refl _ _) ⟨g,rfl,k11⟩
    ·intro a w' hle H
     obtain ⟨g,h12,k12⟩:F13 _ _ _ 12 (a.tmps[12]?.getD undef) w':=H 12 rfl
     unfold innV at h12
     refine ⟨trivial,fun K Q hK=>?_⟩
     go_simp
     exact hK.out _ _ (Below.refl _ _) ⟨g,rfl,k12⟩
    ·intro a w' hle H
     obtain ⟨g,h13,k13⟩:F13 _ _ _ 13 (a.tmps[13]?.getD undef) w':=H 13 rfl
     refine ⟨trivial,fun K Q hK=>?_⟩
     exact wp_slice_one rfl h13 (hK.out _ _ (below_new _ _) ⟨g,w'.heap.size,rfl,k13.below (Nat.zero_lt_succ _) (below_new _ _),blk_new _ _ _⟩)
    ·intro a w' hle H
     obtain ⟨g,s,h14,k14⟩:F13 _ _ _ 14 (a.tmps[14]?.getD undef) w':=H 14 rfl
     refine ⟨trivial,fun K Q hK=>?_⟩
     go_simp
     exact hK.out _ _ (Below.refl _ _) ⟨g,s,rfl,k14⟩
    ·intro a w' hle H
     refine ⟨trivial,fun K Q hK=>?_⟩
     go_simp
     exact hK.out _ _ (below_new _ _) ⟨w'.heap.size,rfl,by have:=(Below.then hB0 hle).size;exact this,heap_alloc_new _ _⟩
   ·intro g w' hle H
    obtain ⟨C,h2,hC,hz⟩:F13 _ _ _ 2 (g 2) w':=H 2
    obtain ⟨gg,s,h15,k15,k16⟩:F13 _ _ _ 15 (g 15) w':=H 15
    have h3:g 3=undef:=H 3
    obtain ⟨x1,x2,x3⟩:=avg_end hs (Below.then hB0 hle) hC hz k15 k16
    refine wp_store_prog rfl ((show _=g 2 from rfl).trans h2) ((show _=g 15 from rfl).trans h15) hz rfl ?_
    have hfin:Below w.heap.size w (w'.setRow C #[.slice (some ⟨s,0,none⟩) 1 1]):=Below.then hb x3
    generalize w'.setRow C #[.slice (some ⟨s,0,none⟩) 1 1]=W2 at *
    simp only [Act.put,List.range',List.map_cons,List.map_nil,List.take_succ_cons,List.take_zero,List.drop_succ_cons,List.drop_zero,List.cons_append,List.nil_append,Nat.reduceAdd,h2,h3]
    go_wp2_with fail
    go_meet
    exact ⟨C,s,rfl,x2,x1,hfin⟩
  case rest =>
   obtain ⟨C,sb,rfl,hc,ha,hb2⟩:=hcut
   obtain ⟨w2,hw2⟩:∃ w2,wc=w2:=⟨_,rfl⟩
   subst hw2
   clear hp hs hb
   go_upto_region 3 with (fail)
   go_cut [3] (fun s wx=>∃ D sd,s=.pointer (some ⟨D,0,none⟩)/\wx.cell? ⟨D,0,none⟩=some (.slice (some ⟨sd,0,none⟩) 1 1)/\TwoAt wx sd/\Below wc.heap.size wc wx)
   case first =>
    go_wp2_with (go_at_call 10;((with_reducible refine (K _ _).mono ?_);rintro e w3 ⟨rfl,rfl⟩))
    go_meet
    exact ⟨_,_,rfl,(two_world wc _ _ _ _ _).2.1,(two_world wc _ _ _ _ _).1,(two_world wc _ _ _ _ _).2.2⟩
   case rest =>
    obtain ⟨D,sd,rfl,hd,h2,hb3⟩:=hcut
    have c2:=(hb3.cell (cell_lt hc)).trans hc
    have a2:=ha.below hb3
    have B3:=Below.then hb2 hb3
    have q1:((⟨#[97,118,103,32,60,45,32,43,32,47,32,37,32,116,97,108,108,121,10]⟩:ByteArray).toList==(⟨#[97,118,103,32,60,45,32,43,32,47,32,37,32,116,97,108,108,121,10]⟩:ByteArray).toList)=true:=str_yes rfl
    have q2:((⟨#[97,118,103,60,45,43,47,37,116,97,108,108,121]⟩:ByteArray).toList==(⟨#[97,118,103,60,45,43,47,37,116,97,108,108,121]⟩:ByteArray).toList)=true:=str_yes rfl
    have q3:((⟨#[102,60,45,60,32,61]⟩:ByteArray).toList==(⟨#[102,60,45,60,32,61]⟩:ByteArray).toList)=true:=str_yes rfl
    have q4:((⟨#[]⟩:ByteArray).toList==(⟨#[]⟩:ByteArray).toList)=true:=str_yes rfl
    clear hb2 hb3 ha hc K
    go_wp2_with (first |(go_at_call 7;((with_reducible refine Calls.mono (live_long _ (hT.below B3) sb a2) ?_);rintro e w4 ⟨rfl,b4⟩;(have c4:=(b4.cell (cell_lt c2)).trans c2);(have d4:=(b4.cell (cell_lt hd)).trans hd);(have a4:=a2.below b4);(have t4:=h2.below b4);(have B4:=Below.then B3 b4))) |(go_at_call 8;((with_reducible refine Calls.mono (live_short _ (hT.below B4) sb a4) ?_);rintro e w5 ⟨rfl,b5⟩;(have d5:=(b5.cell (cell_lt d4)).trans d4);(have t5:=t4.below b5);(have B5:=Below.then B4 b5))) |(go_at_call 8;((with_reducible refine Calls.mono (live_two _ (hT.below B5) sd t5) ?_);rintro e w6 ⟨rfl,b6⟩;(have B6:=Below.then B5 b6))) |(go_at_call 7;((with_reducible refine Calls.mono (live_nil _ (hT.below B6)) ?_);rintro e w7 ⟨rfl,b7⟩;(have B7:=Below.then B6 b7))))
    go_ret
    exact ⟨rfl,B7⟩
end Go.Proofs.YtalkinnbfglkdaaGreatDoor.Syn
