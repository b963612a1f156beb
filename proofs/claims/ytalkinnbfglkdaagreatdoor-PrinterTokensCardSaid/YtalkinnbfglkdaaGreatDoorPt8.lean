/-
  A region that draws its order and whose calls make memory, but turn none that lay: one walk in the order of the text serves, over the class of the worlds in which what lay in W lies as it lay.
  Layer 10: which words are reserved, by the reference (out of wip/token's TokRes, TokAmong, TokResR).
  Layer 10: which nodes are valid, said of plain data.
  Layer 10: the reference's OpClass, TakesArray, classes, Name. (Written by wip/gen/syn-r5.py.)
  Layer 10: the program's tables of names, and which words and names they make. (Written by wip/gen/syn-tab.py.)
  Layer 10: the program's isName.
  Layer 10: the reference's Same. (Written by wip/gen/syn-r4.py.)
-/
import Derived.Test.YtalkinnbfglkdaaGreatDoorPt4
import Derived.Deep.QuietTactic
import Derived.BigQuiet
import Derived.Laws.Cells
import Derived.WalkKit
import Derived.StillTailTactics
set_option maxHeartbeats 8000000
namespace Go.Proofs.YtalkinnbfglkdaaGreatDoor.Syn
open Go.RowKit Go.Proofs.YtalkinnbfglkdaaGreatDoor.Shape
def Sub (W:World):Type:={ w:World // Below W.heap.size W w }
instance (W:World):Nonempty (Sub W):=⟨⟨W,Below.refl _ _⟩⟩
def Sub.w {W:World}(x:Sub W):World:=x.1
theorem Sub.below {W:World}(x:Sub W):Below W.heap.size W x.w:=x.2
theorem Sub.cell {W:World}(x:Sub W) {b o:Nat}{v:Value}(h:W.cell? ⟨b,o,none⟩=some v):x.w.cell? ⟨b,o,none⟩=some v:=(x.2.cell (cell_lt h)).trans h
theorem sub_of {W w:World}(h:Below W.heap.size W w):∃ x:Sub W,w=x.w:=⟨⟨w,h⟩,rfl⟩
theorem wp_region_sub {P:Program}{W:World}{id:Nat}{Q:Exit->Act->World->Prop}{a:Act}{w:World}{l:List Oper}(hm:P.follows .mixedOrders=true) (hB:Region.lexB .any l.toArray=true) (hW:Below W.heap.size W w)
  (h:wpQuiet P l.toArray (fun w'=>∃ x:Sub W,w'=x.w) (fun a'=>∀ x:Sub W,Q .normal a' x.w) l a):(Code.region id l.toArray true).wp P Q a w:=by
 refine wp_region_quiet (C:=fun w'=>∃ x:Sub W,w'=x.w) hm hB (sub_of hW.drew) ?_
 have e:(fun a'=>∀ w',(∃ x:Sub W,w'=x.w)->Q .normal a' w') =(fun a'=>∀ x:Sub W,Q .normal a' x.w):=by
  funext a'
  exact propext ⟨fun h x=>h _ ⟨x,rfl⟩,fun h w' ⟨x,e⟩=>e ▸ h x⟩
 rw [e]
 simpa using h
theorem sub_call {P:Program}{W:World}{f:FuncId}{args:Array Value}{x:Sub W}{v:Value}(h:Calls P f args x.w fun e w'=>e=.returned v/\Below x.w.heap.size x.w w') :
  Calls P f args x.w fun e w''=>e=.returned v/\∃ y:Sub W,w''=y.w :=
 h.mono fun _ _ ⟨he,hb⟩=>⟨he,sub_of (Below.then x.2 hb)⟩
theorem isAggNode (w:World):(isAgg 49).run Tryz.prog w=.ok true w:=by kernel_rfl
theorem sizeNode (w:World):(sizeOf 49).run Tryz.prog w=.ok 15 w:=by kernel_rfl
theorem load_node {w:World}{b off:Nat}{cs:List Value}(h:Cells w b off cs) (hl:cs.length=15) :
  (Instr.loadAt 49 (.pointer (some ⟨b,off,none⟩))).run Tryz.prog w=.ok (.agg cs.toArray) w:=by
 have e:=run_loadCells_list (P:=Tryz.prog) w ⟨b,off,none⟩ cs (fun j v hv=>by rw [Shape.add_plain];exact h.cell j hv)
 rw [hl] at e
 simp only [Instr.loadAt,Instr.sureAddr,loadVar,Sem.run_bind,Sem.run_pure,Result.andThen_ok,isAggNode,sizeNode,if_true,e]
theorem wp_load_node {w:World}{b off:Nat}{cs:List Value}(h:Cells w b off cs) (hl:cs.length=15) {o:Oper}{a:Act}{t:Nat}{K:Act->World->Prop}{Q:Exit->Act->World->Prop}(ho:o.op=.load 49 (.tmp t)) (ht:a.tmps.getD t undef=.pointer (some ⟨b,off,none⟩))
  (hk:K (a.put o.dst (.agg cs.toArray)) w):o.wp Tryz.prog a w K Q:=by
 have e:=load_node h hl
 have ev:a.eval (.tmp t)=.pointer (some ⟨b,off,none⟩):=ht
 unfold Oper.wp execOp
 rw [ho]
 simp only [ev,Sem.run_bind,e,Result.andThen_ok,Sem.run_pure,Oper.upon_value]
 exact hk
theorem wpList_load_node {ops:Array Oper}{rest:List Oper}{o:Oper}{a:Act}{w:World}{Q:Exit->Act->World->Prop}(hgd:o.guard=none) {t:Nat}(ho:o.op=.load 49 (.tmp t)) {b off:Nat}(ht:a.tmps.getD t undef=.pointer (some ⟨b,off,none⟩))
  {cs:List Value}(h:Cells w b off cs) (hl:cs.length=15) (hk:wpList Tryz.prog ops Q rest (a.put o.dst (.agg cs.toArray)) w):wpList Tryz.prog ops Q (o::rest) a w :=
 wpList_plain hgd fun _ hK=>wp_load_node h hl ho ht (hK _ _ hk)
theorem quiet_load_node {W:World}{b off:Nat}{cs:List Value}(h:Cells W b off cs) (hl:cs.length=15) {o:Oper}{a:Act}{t:Nat}{K:Act->Prop}(ho:o.op=.load 49 (.tmp t)) (ht:a.tmps.getD t undef=.pointer (some ⟨b,off,none⟩))
  (hk:K (a.put o.dst (.agg cs.toArray))):o.quiet Tryz.prog a (fun w'=>∃ x:Sub W,w'=x.w) K:=by
 refine ⟨_,fun w' hw'=>?_,hk⟩
 obtain ⟨x,rfl⟩:=hw'
 have e:=load_node (h.below x.below) hl
 unfold Oper.quietAt execOp
 rw [ho]
 have ev:a.eval (.tmp t)=.pointer (some ⟨b,off,none⟩):=ht
 simp only [ev,Sem.run_bind,e,Result.andThen_ok,Sem.run_pure,Oper.quietUpon,and_self]
end Go.Proofs.YtalkinnbfglkdaaGreatDoor.Syn
namespace Go.Proofs.YtalkinnbfglkdaaGreatDoor.Tok
open Go.RowKit
set_option linter.unusedVariables false
set_option linter.unusedSimpArgs false
set_option maxRecDepth 100000
def resWords:List (List UInt8):=[[88],[89],[70],[71],[115,101,108,102],[97,114,103],[43],[45],[42],[37],[124],[94],[109,105,110],[109,97,120],[60],[60,61],[61],[126,61],[62,61],[62],[97,110,100],[111,114],[110,111,116],[115,104,97,112,101],[114,101,115,104,97,112,101],[116,97,108,108,121],[100,101,112,116,104],[44],[115,116,97,99,107],[105,111,116,97],[116,97,107,101],[100,114,111,112],[102,105,114,115,116],[114,101,118,101,114,115,101],[114,111,116,97,116,101],[116,114,97,110,115,112,111,115,101],[102,114,111,109],[112,105,99,107],[115,101,108,101,99,116],[97,109,101,110,100],[117,112],[100,111,119,110],[115,111,114,116],[102,105,110,100],[105,110],[117,110,105,113,117,101],[119,104,101,114,101],[99,111,112,121],[101,120,112,97,110,100],[99,117,116],[101,110,99,111,100,101],[100,101,99,111,100,101],[98,111,120],[111,112,101,110],[115,97,109,101],[107,105,110,100],[111,114,100],[99,104,114],[102,111,114,109,97,116],[108,101,102,116],[114,105,103,104,116],[47],[92],[101,97,99,104],[115,119,97,112],[111,117,116,101,114],[105,110,110,101,114],[97,116,111,112],[111,118,101,114],[114,97,110,107],[112,111,119,101,114],[115,116,101,110,99,105,108]]
def resB (l:List UInt8):Bool:=resWords.any fun c=>l==c
theorem resB_yes {l c:List UInt8}(hc:c∈resWords) (h:(l==c)=true):resB l=true:=List.any_eq_true.2 ⟨c,hc,h⟩
def noSp (s:List UInt8):Bool:=s.all fun c=>c != 32
def hitB (L s:List UInt8) (i:Nat):Bool:=L.getD i 0==32&&(L.drop (i+1)).take s.length==s&&L.getD (i+1+s.length) 0==32
def amB (L s:List UInt8):Bool:=s.length != 0&&noSp s&&(List.range (L.length - (s.length+1))).any (hitB L s)
theorem u8_eq {x:UInt8}{n:Nat}(hn:n<256):((x.toNat:Int)==(n:Int)) =(x==n.toUInt8):=by
 rw [Bool.eq_iff_iff]
 simp only [beq_iff_eq]
 constructor
 ·intro h
  have:x.toNat=n:=by omega
  apply UInt8.toNat.inj
  rw [this];simp;omega
 ·intro h
  rw [h];simp;omega
def wordsL:List UInt8:=[32,88,32,89,32,70,32,71,32,115,101,108,102,32,97,114,103,32,109,105,110,32,109,97,120,32,97,110,100,32,111,114,32,110,111,116,32,115,104,97,112,101,32,114,101,115,104,97,112,101,32,116,97,108,108,121,32,100,101,112,116,104,32,115,116,97,99,107,32,105,111,116,97,32,116,97,107,101,32,100,114,111,112,32,102,105,114,115,116,32,114,101,118,101,114,115,101,32,114,111,116,97,116,101,32,116,114,97,110,115,112,111,115,101,32,102,114,111,109,32,112,105,99,107,32,115,101,108,101,99,116,32,97,109,101,110,100,32,117,112,32,100,111,119,110,32,115,111,114,116,32,102,105,110,100,32,105,110,32,117,110,105,113,117,101,32,119,104,101,114,101,32,99,111,112,121,32,101,120,112,97,110,100,32,99,117,116,32,101,110,99,111,100,101,32,100,101,99,111,100,101,32,98,111,120,32,111,112,101,110,32,115,97,109,101,32,107,105,110,100,32,111,114,100,32,99,104,114,32,102,111,114,109,97,116,32,108,101,102,116,32,114,105,103,104,116,32,101,97,99,104,32,115,119,97,112,32,111,117,116,101,114,32,105,110,110,101,114,32,114,97,110,107,32,112,111,119,101,114,32,115,116,101,110,99,105,108,32,97,116,111,112,32,111,118,101,114,32]
def namesL:List UInt8:=[32,43,32,45,32,42,32,37,32,124,32,94,32,60,32,60,61,32,61,32,126,61,32,62,61,32,62,32,44,32,47,32,92,32]
def resR (t:List UInt8):Bool:=amB wordsL t || amB namesL t
/-! ### Parts of a list between blanks -/
def spaced:List (List UInt8)->List UInt8
 | []=>[32]
 | x::r=>32::(x++spaced r)
theorem spaced_head (l:List (List UInt8)):∃ r,spaced l=32::r:=by cases l <;> exact ⟨_,rfl⟩
def occ (L t:List UInt8):Bool:=(List.range L.length).any (hitB L t)
theorem hit_cons (c:UInt8) (L t:List UInt8) (i:Nat):hitB (c::L) t (i+1)=hitB L t i:=by
 have e:i+1+1+t.length =(i+1+t.length)+1:=by omega
 rw [hitB,hitB,List.getD_cons_succ,List.drop_succ_cons,e,List.getD_cons_succ]
theorem occ_cons (c:UInt8) (L t:List UInt8):occ (c::L) t =(hitB (c::L) t 0 || occ L t):=by
 have e:occ (c::L) t =(hitB (c::L) t 0 ||(List.range L.length).any fun i=>hitB (c::L) t (i+1)):=by
  rw [occ,List.length_cons,List.range_succ_eq_map,List.any_cons,List.any_map]
  rfl
 rw [e,occ]
 simp only [hit_cons]
theorem occ_skip (x L t:List UInt8) (h:noSp x=true):occ (x++L) t=occ L t:=by
 induction x with
 | nil=>rfl
 | cons c r ih =>
  rw [noSp,List.all_cons,Bool.and_eq_true] at h
  rw [List.cons_append,occ_cons,ih h.2]
  have:hitB (c::(r++L)) t 0=false:=by
   have hc:(c==32)=false:=by simpa using h.1
   rw [hitB,List.getD_cons_zero,hc,Bool.false_and,Bool.false_and]
  rw [this,Bool.false_or]
theorem hit_far {L t:List UInt8}{i:Nat}(h:L.length<=i+1+t.length):hitB L t i=false:=by
 have:L.getD (i+1+t.length) 0=0:=by rw [List.getD_eq_getElem?_getD,List.getElem?_eq_none h];rfl
 rw [hitB,this]
 exact Bool.and_false _
theorem amB_occ (L t:List UInt8):amB L t =(t.length != 0&&noSp t&&occ L t):=by
 have e:(List.range (L.length - (t.length+1))).any (hitB L t)=occ L t:=by
  rw [Bool.eq_iff_iff,occ,List.any_eq_true,List.any_eq_true]
  constructor
  ·rintro ⟨i,hi,h⟩
   exact ⟨i,List.mem_range.2 (by have:=List.mem_range.1 hi;omega),h⟩
  ·rintro ⟨i,hi,h⟩
   refine ⟨i,List.mem_range.2 ?_,h⟩
   rcases Nat.lt_or_ge i (L.length - (t.length+1)) with q | q
   ·exact q
   ·rw [hit_far (by omega)] at h;cases h
 rw [amB,e]
theorem noSp_get {x:List UInt8}(h:noSp x=true) {n:Nat}(hn:n<x.length):x[n]≠32:=by
 rw [noSp,List.all_eq_true] at h
 simpa using h x[n] (List.getElem_mem hn)
theorem hit_first {x t r:List UInt8}(hx:noSp x=true) (ht:noSp t=true):hitB (32::(x++32::r)) t 0 =(t==x):=by
 have e1:hitB (32::(x++32::r)) t 0 =((x++32::r).take t.length==t&&(x++32::r).getD t.length 0==32):=by
  have e:0+1+t.length=t.length+1:=by omega
  rw [hitB,List.getD_cons_zero,e,List.getD_cons_succ]
  rfl
 rw [e1]
 rcases Nat.lt_trichotomy t.length x.length with h | h | h
 ·have q:((x++32::r).getD t.length 0==32)=false:=by
   rw [List.getD_eq_getElem?_getD,List.getElem?_append_left h,List.getElem?_eq_getElem h]
   simpa using noSp_get hx h
  have q2:(t==x)=false:=by rw [beq_eq_false_iff_ne];intro e;rw [e] at h;omega
  rw [q,q2,Bool.and_false]
 ·have q:((x++32::r).getD t.length 0==32)=true:=by
   rw [List.getD_eq_getElem?_getD,h,List.getElem?_append_right (Nat.le_refl _),Nat.sub_self];rfl
  rw [q,Bool.and_true,h,List.take_append_of_le_length (Nat.le_refl _),List.take_length,Bool.eq_iff_iff,beq_iff_eq,beq_iff_eq]
  exact eq_comm
 ·have q:((x++32::r).take t.length==t)=false:=by
   rw [beq_eq_false_iff_ne]
   intro e
   have hlt:x.length<t.length:=h
   apply noSp_get ht hlt
   have e2:((x++32::r).take t.length)[x.length]?=t[x.length]?:=by rw [e]
   rw [List.getElem?_take,if_pos hlt,List.getElem?_append_right (Nat.le_refl _),Nat.sub_self,List.getElem?_eq_getElem hlt] at e2
   simpa using e2.symm
  have q2:(t==x)=false:=by rw [beq_eq_false_iff_ne];intro e;rw [e] at h;omega
  rw [q,q2,Bool.false_and]
theorem occ_spaced {t:List UInt8}(ht:noSp t=true):∀ (ws:List (List UInt8)),(∀ x∈ws,noSp x=true)->occ (spaced ws) t=ws.any fun x=>t==x
 | [],_=>by
  rw [spaced,occ_cons,hit_far (by simp)];rfl
 | x::r,h=>by
  obtain ⟨q,hq⟩:=spaced_head r
  have ih:=occ_spaced ht r fun y hy=>h y (List.mem_cons_of_mem _ hy)
  have hx:=h x List.mem_cons_self
  rw [spaced,occ_cons,occ_skip x _ _ hx,ih,List.any_cons]
  rw [hq,hit_first hx ht]
def ws1:List (List UInt8):=[[88],[89],[70],[71],[115,101,108,102],[97,114,103],[109,105,110],[109,97,120],[97,110,100],[111,114],[110,111,116],[115,104,97,112,101],[114,101,115,104,97,112,101],[116,97,108,108,121],[100,101,112,116,104],[115,116,97,99,107],[105,111,116,97],[116,97,107,101],[100,114,111,112],[102,105,114,115,116],[114,101,118,101,114,115,101],[114,111,116,97,116,101],[116,114,97,110,115,112,111,115,101],[102,114,111,109],[112,105,99,107],[115,101,108,101,99,116],[97,109,101,110,100],[117,112],[100,111,119,110],[115,111,114,116],[102,105,110,100],[105,110],[117,110,105,113,117,101],[119,104,101,114,101],[99,111,112,121],[101,120,112,97,110,100],[99,117,116],[101,110,99,111,100,101],[100,101,99,111,100,101],[98,111,120],[111,112,101,110],[115,97,109,101],[107,105,110,100],[111,114,100],[99,104,114],[102,111,114,109,97,116],[108,101,102,116],[114,105,103,104,116],[101,97,99,104],[115,119,97,112],[111,117,116,101,114],[105,110,110,101,114],[114,97,110,107],[112,111,119,101,114],[115,116,101,110,99,105,108],[97,116,111,112],[111,118,101,114]]
def ws2:List (List UInt8):=[[43],[45],[42],[37],[124],[94],[60],[60,61],[61],[126,61],[62,61],[62],[44],[47],[92]]
theorem words_eq:wordsL=spaced ws1:=by decide
theorem names_eq:namesL=spaced ws2:=by decide
theorem ws_ok:(∀ x∈ws1,noSp x=true)/\(∀ x∈ws2,noSp x=true)/\(∀ x∈ws1,x∈resWords)/\(∀ x∈ws2,x∈resWords)/\(∀ x∈resWords,x∈ws1∨x∈ws2)/\(∀ x∈resWords,(x.length != 0&&noSp x)=true):=by
 refine ⟨by decide,by decide,by decide,by decide,by decide,by decide⟩
theorem res_same (t:List UInt8):resB t=resR t:=by
 obtain ⟨o1,o2,o3,o4,o5,o6⟩:=ws_ok
 rw [resR,amB_occ,amB_occ,words_eq,names_eq,Bool.eq_iff_iff]
 by_cases hn:(t.length != 0&&noSp t)=true
 ·have hnt:noSp t=true:=(Bool.and_eq_true _ _ ▸ hn).2
  rw [hn,Bool.true_and,Bool.true_and,occ_spaced hnt _ o1,occ_spaced hnt _ o2,Bool.or_eq_true,List.any_eq_true,List.any_eq_true,resB,List.any_eq_true]
  constructor
  ·rintro ⟨x,hx,e⟩
   rcases o5 x hx with h | h
   ·exact Or.inl ⟨x,h,e⟩
   ·exact Or.inr ⟨x,h,e⟩
  ·rintro (⟨x,hx,e⟩ |⟨x,hx,e⟩)
   ·exact ⟨x,o3 x hx,e⟩
   ·exact ⟨x,o4 x hx,e⟩
 ·have hf:(t.length != 0&&noSp t)=false:=by simpa using hn
  rw [hf]
  constructor
  ·intro h
   rw [resB,List.any_eq_true] at h
   obtain ⟨x,hx,e⟩:=h
   rw [beq_iff_eq] at e
   subst e
   exact absurd (o6 _ hx) hn
  ·intro h;cases h
end Go.Proofs.YtalkinnbfglkdaaGreatDoor.Tok
namespace Go.Proofs.YtalkinnbfglkdaaGreatDoor.Syn
open Go.RowKit Go.Proofs.YtalkinnbfglkdaaGreatDoor.Shape
set_option maxRecDepth 100000
def lowB (x:UInt8):Bool:=decide (97<=x.toNat/\x.toNat<=122)
def digB (x:UInt8):Bool:=decide (48<=x.toNat/\x.toNat<=57)
def chB (s:ByteArray) (i:Nat):Bool:=if h:i<s.size then lowB s[i] ||(digB s[i]&&i != 0) else true
def nameB (s:ByteArray):Bool:=decide (0<s.size)&&decide (s.size<=32)&&!Tok.resR s.data.toList&&(List.range s.size).all (chB s)
def opCls (o:Int):Int:=if o<1∨11<o then 0 else if o<=5 then 3 else 4
def takesB (N:Nd):Bool:=N.k==17&&(N.o==7 || N.o==8 || N.o==9)
def noText (t:ByteArray):Bool:=t.toList==[]
def emptyB (tx pr op va ki bo:Bool) (N:Nd):Bool:=(tx || noText N.t)&&(pr || N.p==0)&&(op || N.o==0)&&(va || eqA N.v zA)&&(ki ||(N.ks.length:Int)==0)&&(bo ||(N.bd.length:Int)==0)
def clsB (l:List Int) (N:Nd):Bool:=sameB (N.ks.map Nd.c) l
def litB (v:Arr):Bool:=((v.shape.length:Int)==0&&v.kind != 3) ||((v.shape.length:Int)==1&&v.kind==2)
def leafB (N:Nd):Bool :=
 if N.k=1 then emptyB false false false true false false N&&N.c==1&&rightE N.v==0&&litB N.v
 else if N.k=2 then emptyB true false false false false false N&&nameB N.t&&decide (1<=N.c)&&decide (N.c<=4)
 else if N.k=6∨N.k=7∨N.k=8 then emptyB false false false false false false N&&N.c==1
 else if N.k=9 then emptyB false true false false false false N&&N.c==2&&decide (1<=N.p)&&decide (N.p<=55)
 else if N.k=11∨N.k=12∨N.k=13 then emptyB false false false false false false N&&N.c==2
 else if N.k=17 then emptyB false false true false false false N&&opCls N.o != 0&&N.c==opCls N.o
 else false
def allC (l:List Nd):Bool:=l.all fun K=>K.c==1
def headTakes:List Nd->Bool
 | []=>false
 | K::_=>takesB K
theorem headTakes_nil {l:List Nd}(h:l.length=0):headTakes l=false:=by rw [List.eq_nil_of_length_eq_zero h];rfl
theorem headTakes_cons {l:List Nd}(h:0<l.length):headTakes l=takesB l[0]:=by
 match l,h with
 | K::r,_=>rfl
def innerB (N:Nd):Bool :=
 emptyB false false false false true false N &&
 (if N.k=3 then allC N.ks&&N.c==1&&decide (2<=N.ks.length)&&decide (N.ks.length<=1000)
 else if N.k=4 then N.c==1&&clsB [2,1] N
 else if N.k=5 then N.c==1&&clsB [2,1,1] N
 else if N.k=14 then N.c==2&&clsB [3,2] N
 else if N.k=15 then N.c==2&&(if headTakes N.ks=true then clsB [4,2,1] N else clsB [4,2,2] N)
 else if N.k=16 then N.c==2&&(clsB [2,2] N || clsB [2,2,2] N || clsB [1,2,2] N)
 else false)
mutual
def menN (x:Int):Nd->Bool
 | .mk k _ _ _ _ _ _ ks _ _ _ _=>k==x || menK x ks
def menK (x:Int):List Nd->Bool
 | []=>false
 | N::r=>menN x N || menK x r
end
def menB (x:Int) (l:List St):Bool:=l.any fun S=>menN x S.te || menN x S.nd
def outB (l:List St):Bool:=!(l.any fun S=>S.k==3)&&!menB 12 l&&!menB 13 l&&!menB 6 l&&!menB 7 l&&!menB 11 l
def zeroB (N:Nd):Bool:=eqN N zN&&N.a==0&&N.d==0&&N.s==0&&N.z==0
def nonNeg (N:Nd):Bool:=!(decide (N.a<0) || decide (N.d<0) || decide (N.s<0) || decide (N.z<0))
def lastK:List St->Int
 | []=>0
 | [S]=>S.k
 | _::r=>lastK r
def dupAt (l:List St) (j:Nat):Bool:=match l[j]? with
 | none=>false
 | some S=>S.k==2&&(l.take j).any fun T=>T.k==2&&T.n==S.n
def nodup (l:List St):Bool:=(List.range l.length).all fun j=>!dupAt l j
def lamCls (l:List St):Int:=if menB 13 l=true then 4 else if menB 12 l=true then 3 else 2
mutual
def okN : Nd → Bool
  | .mk k a c t p o v ks bd d s z => nonNeg (.mk k a c t p o v ks bd d s z) &&
    (if k = 10 then emptyB false false false false false true (.mk k a c t p o v ks bd d s z) && (bd.length : Int) != 0 && lastK bd == 1 && (decide (bd.length ≤ 1000) && okL bd && nodup bd) && c == lamCls bd
     else leafB (.mk k a c t p o v ks bd d s z) || (innerB (.mk k a c t p o v ks bd d s z) && okK ks))
def okK:List Nd->Bool
 | []=>true
 | N::r=>okN N&&okK r
def okS : St → Bool
  | .mk k a n s te nd => decide (0 ≤ a) && okN nd &&
    (if k = 1 then nd.c == 1 && noText n && s == 0 && zeroB te
     else if k = 2 then nameB n && decide (0 ≤ s) && zeroB te && (decide (nd.c < 3) || nd.k == 10)
     else if k = 3 then nd.c == 1 && okN te && te.c == 1 && noText n && s == 0
     else false)
def okL:List St->Bool
 | []=>true
 | S::r=>okS S&&okL r
end
def okB (l:List St):Bool:=decide (l.length<=1000)&&okL l&&nodup l
def rightBE (l:List St):Int:=if 1000<l.length then 2 else if 60<depB l then 8 else if 16384<sizB l then 21 else if okB l=true/\outB l=true then 0 else 11
set_option linter.unusedVariables false
set_option linter.unusedSimpArgs false
theorem elemCls:Tryz.prog.underlying 163=some (.slice (Tryz.prog.elem 163)):=by kernel_rfl
theorem sizeCls (w:World):(sizeOf (Tryz.prog.elem 163)).run Tryz.prog w=.ok 1 w:=by kernel_rfl
theorem cls_at {w:World}{a:Option Addr}{cap:Nat}{xs:List Int}(h:IntsAt w a cap xs) {k:Nat}(hk:k<xs.length) :
  ∃ b off:Nat,(∀ w':World,(Instr.indexAt 163 (.slice a xs.length cap) (.int .i64 k)).run Tryz.prog w'=.ok (.pointer (some ⟨b,off+k,none⟩)) w')/\w.cell? ⟨b,off+k,none⟩=some (.int .i64 xs[k]):=by
 obtain ⟨h1,h2,h3,b,off,ha,hc⟩:=h
 have hne:xs≠[]:=by intro e;subst e;simp at hk
 have e:=ha hne
 subst e
 refine ⟨b,off,fun w'=>?_,hc k hk⟩
 rw [run_indexAt_slice w' _ _ _ _ .i64 k elemCls,if_pos (by omega),sizeCls]
 show Result.ok _ w'=_
 rw [show ((k:Int).toNat*1)=k by omega,Shape.add_plain]
theorem ch_no {s:ByteArray}{i:Nat}(h:i<s.size) (hc:chB s i=false):(List.range s.size).all (chB s)=false:=by
 rw [List.all_eq_false];exact ⟨i,List.mem_range.2 h,by rw [hc];exact Bool.false_ne_true⟩
theorem tl_no {s : ByteArray} (h : 0 < s.size) : (s.toList == []) = false := by
  rw [ByteArray.toList_eq]
  cases e : s.data.toList with
  | nil => have : s.size = 0 := by show s.data.size = 0; rw [← Array.length_toList, e]; rfl
           omega
  | cons x r => rfl
def primT:List ByteArray:=[⟨#[]⟩,⟨#[43]⟩,⟨#[45]⟩,⟨#[42]⟩,⟨#[37]⟩,⟨#[124]⟩,⟨#[94]⟩,⟨#[109,105,110]⟩,⟨#[109,97,120]⟩,⟨#[60]⟩,⟨#[60,61]⟩,⟨#[61]⟩,⟨#[126,61]⟩,⟨#[62,61]⟩,⟨#[62]⟩,⟨#[97,110,100]⟩,⟨#[111,114]⟩,⟨#[110,111,116]⟩,⟨#[115,104,97,112,101]⟩,⟨#[114,101,115,104,97,112,101]⟩,⟨#[116,97,108,108,121]⟩,⟨#[100,101,112,116,104]⟩,⟨#[44]⟩,⟨#[115,116,97,99,107]⟩,⟨#[105,111,116,97]⟩,⟨#[116,97,107,101]⟩,⟨#[100,114,111,112]⟩,⟨#[102,105,114,115,116]⟩,⟨#[114,101,118,101,114,115,101]⟩,⟨#[114,111,116,97,116,101]⟩,⟨#[116,114,97,110,115,112,111,115,101]⟩,⟨#[102,114,111,109]⟩,⟨#[112,105,99,107]⟩,⟨#[115,101,108,101,99,116]⟩,⟨#[97,109,101,110,100]⟩,⟨#[117,112]⟩,⟨#[100,111,119,110]⟩,⟨#[115,111,114,116]⟩,⟨#[102,105,110,100]⟩,⟨#[105,110]⟩,⟨#[117,110,105,113,117,101]⟩,⟨#[119,104,101,114,101]⟩,⟨#[99,111,112,121]⟩,⟨#[101,120,112,97,110,100]⟩,⟨#[99,117,116]⟩,⟨#[101,110,99,111,100,101]⟩,⟨#[100,101,99,111,100,101]⟩,⟨#[98,111,120]⟩,⟨#[111,112,101,110]⟩,⟨#[115,97,109,101]⟩,⟨#[107,105,110,100]⟩,⟨#[111,114,100]⟩,⟨#[99,104,114]⟩,⟨#[102,111,114,109,97,116]⟩,⟨#[108,101,102,116]⟩,⟨#[114,105,103,104,116]⟩]
def opT:List ByteArray:=[⟨#[]⟩,⟨#[47]⟩,⟨#[92]⟩,⟨#[101,97,99,104]⟩,⟨#[115,119,97,112]⟩,⟨#[111,117,116,101,114]⟩,⟨#[105,110,110,101,114]⟩,⟨#[114,97,110,107]⟩,⟨#[112,111,119,101,114]⟩,⟨#[115,116,101,110,99,105,108]⟩,⟨#[97,116,111,112]⟩,⟨#[111,118,101,114]⟩]
def primV:List Value:=primT.map Value.string
def opV:List Value:=opT.map Value.string
structure Tab (w:World):Prop where
 p:∀ j,j<56->w.cell? ⟨0,j,none⟩=some (.string (primT.getD j ⟨#[]⟩))
 o:∀ j,j<12->w.cell? ⟨1,j,none⟩=some (.string (opT.getD j ⟨#[]⟩))
theorem Tab.below {w w':World}(h:Tab w) (hb:Below w.heap.size w w'):Tab w':=⟨fun j hj=>(hb.cell (cell_lt (h.p j hj))).trans (h.p j hj),fun j hj=>(hb.cell (cell_lt (h.o j hj))).trans (h.o j hj)⟩
theorem Tab.drew {w:World}(h:Tab w):Tab w.drew:=⟨h.p,h.o⟩
theorem vals_at (l:List ByteArray) (j:Nat) (v:Value) (h:(l.map Value.string)[j]?=some v):j<l.length/\v=.string (l.getD j ⟨#[]⟩):=by
 rw [List.getElem?_map,Option.map_eq_some_iff] at h
 obtain ⟨a,ha,rfl⟩:=h
 exact ⟨(List.getElem?_eq_some_iff.1 ha).1,by rw [List.getD_eq_getElem?_getD,ha];rfl⟩
theorem isAggPT (w:World):(isAgg 151).run Tryz.prog w=.ok true w:=by kernel_rfl
theorem sizePT (w:World):(sizeOf 151).run Tryz.prog w=.ok 56 w:=by kernel_rfl
theorem isAggOT (w:World):(isAgg 152).run Tryz.prog w=.ok true w:=by kernel_rfl
theorem sizeOT (w:World):(sizeOf 152).run Tryz.prog w=.ok 12 w:=by kernel_rfl
theorem load_prims {w:World}(h:Tab w):(Instr.loadAt 151 (.pointer (some ⟨0,0,none⟩))).run Tryz.prog w=.ok (.agg primV.toArray) w:=by
 have e:=run_loadCells_list (P:=Tryz.prog) w ⟨0,0,none⟩ primV (fun j v hv=>by obtain ⟨h1,rfl⟩:=vals_at _ _ _ hv;rw [Shape.add_plain,Nat.zero_add];exact h.p j h1)
 rw [show primV.length=56 by rfl] at e
 simp only [Instr.loadAt,Instr.sureAddr,loadVar,Sem.run_bind,Sem.run_pure,Result.andThen_ok,isAggPT,sizePT,if_true,e]
theorem load_ops {w:World}(h:Tab w):(Instr.loadAt 152 (.pointer (some ⟨1,0,none⟩))).run Tryz.prog w=.ok (.agg opV.toArray) w:=by
 have e:=run_loadCells_list (P:=Tryz.prog) w ⟨1,0,none⟩ opV (fun j v hv=>by obtain ⟨h1,rfl⟩:=vals_at _ _ _ hv;rw [Shape.add_plain,Nat.zero_add];exact h.o j h1)
 rw [show opV.length=12 by rfl] at e
 simp only [Instr.loadAt,Instr.sureAddr,loadVar,Sem.run_bind,Sem.run_pure,Result.andThen_ok,isAggOT,sizeOT,if_true,e]
theorem arrPT:Tryz.prog.underlying 151=some (.array 56 9):=by kernel_rfl
theorem arrOT:Tryz.prog.underlying 152=some (.array 12 9):=by kernel_rfl
theorem isAggS (w:World):(isAgg 9).run Tryz.prog w=.ok false w:=by kernel_rfl
theorem sizeS (w:World):(sizeOf 9).run Tryz.prog w=.ok 1 w:=by kernel_rfl
theorem idx_prims (k:Nat) (hk:k<56) (w:World):(Instr.index 151 (.agg primV.toArray) (.int .i64 (k:Int))).run Tryz.prog w=.ok (.string (primT.getD k ⟨#[]⟩)) w:=by
 have h1:(0:Int)<=(k:Int)/\(k:Int) <((56:Nat):Int):=by omega
 have h2:primV.toArray[k*1]?=some (.string (primT.getD k ⟨#[]⟩)):=by
  have hk':k<primT.length:=hk
  rw [Nat.mul_one]
  simp [primV,List.getElem?_map,List.getElem?_eq_getElem hk',List.getD_eq_getElem?_getD]
 simp only [Instr.index,asIntOf,Sem.run_bind,Sem.run_pure,Result.andThen_ok,run_underlying arrPT,h1,and_self,if_true,sizeS,part,isAggS,Bool.false_eq_true,if_false,show (k:Int).toNat=k by omega,h2]
theorem idx_ops (k:Nat) (hk:k<12) (w:World):(Instr.index 152 (.agg opV.toArray) (.int .i64 (k:Int))).run Tryz.prog w=.ok (.string (opT.getD k ⟨#[]⟩)) w:=by
 have h1:(0:Int)<=(k:Int)/\(k:Int) <((12:Nat):Int):=by omega
 have h2:opV.toArray[k*1]?=some (.string (opT.getD k ⟨#[]⟩)):=by
  have hk':k<opT.length:=hk
  rw [Nat.mul_one]
  simp [opV,List.getElem?_map,List.getElem?_eq_getElem hk',List.getD_eq_getElem?_getD]
 simp only [Instr.index,asIntOf,Sem.run_bind,Sem.run_pure,Result.andThen_ok,run_underlying arrOT,h1,and_self,if_true,sizeS,part,isAggS,Bool.false_eq_true,if_false,show (k:Int).toNat=k by omega,h2]
def pWords:List (List UInt8):=[[],[43],[45],[42],[37],[124],[94],[109,105,110],[109,97,120],[60],[60,61],[61],[126,61],[62,61],[62],[97,110,100],[111,114],[110,111,116],[115,104,97,112,101],[114,101,115,104,97,112,101],[116,97,108,108,121],[100,101,112,116,104],[44],[115,116,97,99,107],[105,111,116,97],[116,97,107,101],[100,114,111,112],[102,105,114,115,116],[114,101,118,101,114,115,101],[114,111,116,97,116,101],[116,114,97,110,115,112,111,115,101],[102,114,111,109],[112,105,99,107],[115,101,108,101,99,116],[97,109,101,110,100],[117,112],[100,111,119,110],[115,111,114,116],[102,105,110,100],[105,110],[117,110,105,113,117,101],[119,104,101,114,101],[99,111,112,121],[101,120,112,97,110,100],[99,117,116],[101,110,99,111,100,101],[100,101,99,111,100,101],[98,111,120],[111,112,101,110],[115,97,109,101],[107,105,110,100],[111,114,100],[99,104,114],[102,111,114,109,97,116],[108,101,102,116],[114,105,103,104,116]]
def oWords:List (List UInt8):=[[],[47],[92],[101,97,99,104],[115,119,97,112],[111,117,116,101,114],[105,110,110,101,114],[114,97,110,107],[112,111,119,101,114],[115,116,101,110,99,105,108],[97,116,111,112],[111,118,101,114]]
def wWords:List (List UInt8):=[[115,101,108,102],[97,114,103]]
def resPB (l:List UInt8):Bool:=pWords.any (fun c=>l==c) || oWords.any (fun c=>l==c) || wWords.any (fun c=>l==c)
theorem primT_at:∀ k,k<56->(primT.getD k ⟨#[]⟩).data.toList=pWords.getD k []:=by decide
theorem opT_at:∀ k,k<12->(opT.getD k ⟨#[]⟩).data.toList=oWords.getD k []:=by decide
theorem any_at {l:List (List UInt8)}{s:List UInt8}{k:Nat}(hk:k<l.length) (h:(s==l.getD k [])=true):l.any (fun c=>s==c)=true :=
 List.any_eq_true.2 ⟨l[k],List.getElem_mem hk,by rw [List.getD_eq_getElem?_getD,List.getElem?_eq_getElem hk] at h;exact h⟩
theorem any_no {l:List (List UInt8)}{s:List UInt8}(h:∀ k,k<l.length->(s==l.getD k [])=false):l.any (fun c=>s==c)=false:=by
 rw [List.any_eq_false]
 intro c hc
 obtain ⟨k,hk,rfl⟩:=List.mem_iff_getElem.1 hc
 have:=h k hk
 rw [List.getD_eq_getElem?_getD,List.getElem?_eq_getElem hk] at this
 simpa using this
theorem wpList_load_by {ops:Array Oper}{rest:List Oper}{o:Oper}{a:Act}{w:World}{Q:Exit->Act->World->Prop}(hgd:o.guard=none) {T:TypeId}{x:Operand}(ho:o.op=.load T x) {p:Value}(hx:a.eval x=p) {v:Value}(e:(Instr.loadAt T p).run Tryz.prog w=.ok v w)
  (hk:wpList Tryz.prog ops Q rest (a.put o.dst v) w):wpList Tryz.prog ops Q (o::rest) a w :=
 wpList_plain hgd fun _ hK=>by
  unfold Oper.wp execOp
  rw [ho]
  simp only [hx,Sem.run_bind,e,Result.andThen_ok,Sem.run_pure,Oper.upon_value]
  exact hK _ _ hk
theorem isReservedP (s:ByteArray) (w:World) (hT:Tab w):Calls Tryz.prog 115 #[.string s] w fun e w'=>e=.returned (.bool (resPB s.data.toList))/\w=w':=by
 have hp:=load_prims hT
 have ho:=load_ops hT
 obtain ⟨PV,hPV⟩:∃ PV,primV.toArray=PV:=⟨_,rfl⟩
 obtain ⟨OV,hOV⟩:∃ OV,opV.toArray=OV:=⟨_,rfl⟩
 have hip:=idx_prims
 have hio:=idx_ops
 rw [hPV] at hp hip
 rw [hOV] at ho hio
 clear hPV hOV hT
 obtain ⟨r,hr⟩:∃ r,resPB s.data.toList=r:=⟨_,rfl⟩
 rw [hr]
 have HR:Hid (resPB s.data.toList=r):=hr
 clear hr
 go_enter Tryz.func115,Tryz.ntmps115
 go_wp2_with ((with_reducible show wpList _ _ _ ({ dst:=_,op:=Op.load 151 _,type:=_,pos:=_,after:=_,guard:=none }::_) _ _);refine wpList_load_by rfl rfl rfl hp ?_)
 clear hp
 go_loopw [8] (fun i wr=>∃ j:Nat,j<=56/\i=.int .i64 (j:Int)/\(∀ k,k<j->(s.data.toList==pWords.getD k [])=false)/\w=wr) (fun i _=>56 - (intOf i).toNat)
 case atStart=>exact ⟨0,Nat.zero_le _,rfl,fun k hk=>absurd hk (by omega),by first | rfl | trivial⟩
 case round =>
  obtain ⟨j,hj,rfl,hall,rfl⟩:=hrel
  have HA:Hid (∀ k,k<j->(s.data.toList==pWords.getD k [])=false):=hall
  clear hall
  by_cases hlt:j<56
  ·have hlt':(j:Int)<56:=by omega
   have hi:=hip j hlt
   have hq:(s.toList==(primT.getD j ⟨#[]⟩).toList) =(s.data.toList==pWords.getD j []):=by rw [ByteArray.toList_eq,ByteArray.toList_eq,primT_at j hlt]
   obtain ⟨X,hX⟩:∃ X,primT.getD j ⟨#[]⟩=X:=⟨_,rfl⟩
   rw [hX] at hi hq
   clear hX hip
   cases hc:(s.data.toList==pWords.getD j []) with
   | true =>
    have HG:Hid (r=true):=by unfold Hid;rw [<- HR.out,resPB,any_at hlt hc];rfl
    rw [hc] at hq
    clear HR HA hc
    go_wp2
    go_ret
    exact ⟨ret_bool HG.out.symm,by first | rfl | trivial⟩
   | false =>
    have HG:Hid (∀ k,k<j+1->(s.data.toList==pWords.getD k [])=false):=fun k hk=>by
     rcases Nat.lt_or_ge k j with q | q
     ·exact HA.out k q
     ·obtain rfl:k=j:=by omega
      exact hc
    rw [hc] at hq
    clear HR HA hc
    go_wp2
    go_roundw
    case rel=>exact ⟨j+1,by omega,by go_num,HG.out,by first | rfl | trivial⟩
    case measure=>simp [intOf];omega
  ·obtain rfl:j=56:=by omega
   have HP:Hid (pWords.any (fun c=>s.data.toList==c)=false):=any_no (fun k hk=>HA.out k hk)
   clear HA hip
   go_wp2_with ((with_reducible show wpList _ _ _ ({ dst:=_,op:=Op.load 152 _,type:=_,pos:=_,after:=_,guard:=none }::_) _ _);refine wpList_load_by rfl rfl rfl ho ?_)
   clear ho
   go_loopw [16] (fun i wr=>∃ j:Nat,j<=12/\i=.int .i64 (j:Int)/\(∀ k,k<j->(s.data.toList==oWords.getD k [])=false)/\w=wr) (fun i _=>12 - (intOf i).toNat)
   case atStart=>exact ⟨0,Nat.zero_le _,rfl,fun k hk=>absurd hk (by omega),by first | rfl | trivial⟩
   case round =>
    obtain ⟨j,hj,rfl,hall,rfl⟩:=hrel
    have HA:Hid (∀ k,k<j->(s.data.toList==oWords.getD k [])=false):=hall
    clear hall
    by_cases hlt:j<12
    ·have hlt':(j:Int)<12:=by omega
     have hi:=hio j hlt
     have hq:(s.toList==(opT.getD j ⟨#[]⟩).toList) =(s.data.toList==oWords.getD j []):=by rw [ByteArray.toList_eq,ByteArray.toList_eq,opT_at j hlt]
     obtain ⟨X,hX⟩:∃ X,opT.getD j ⟨#[]⟩=X:=⟨_,rfl⟩
     rw [hX] at hi hq
     clear hX hio
     cases hc:(s.data.toList==oWords.getD j []) with
     | true =>
      have HG:Hid (r=true):=by unfold Hid;rw [<- HR.out,resPB,any_at (l:=oWords) hlt hc];simp
      rw [hc] at hq
      clear HR HA hc HP
      go_wp2
      go_ret
      exact ⟨ret_bool HG.out.symm,by first | rfl | trivial⟩
     | false =>
      have HG:Hid (∀ k,k<j+1->(s.data.toList==oWords.getD k [])=false):=fun k hk=>by
       rcases Nat.lt_or_ge k j with q | q
       ·exact HA.out k q
       ·obtain rfl:k=j:=by omega
        exact hc
      rw [hc] at hq
      clear HR HA hc
      go_wp2
      go_roundw
      case rel=>exact ⟨j+1,by omega,by go_num,HG.out,by first | rfl | trivial⟩
      case measure=>simp [intOf];omega
    ·obtain rfl:j=12:=by omega
     have HO:Hid (oWords.any (fun c=>s.data.toList==c)=false):=any_no (fun k hk=>HA.out k hk)
     clear HA hio
     have HW:Hid (r =((s.data.toList==[115,101,108,102]) ||(s.data.toList==[97,114,103]))):=by unfold Hid;rw [<- HR.out,resPB,HP.out,HO.out];simp [wWords]
     have t1:(s.toList==[115,101,108,102]) =(s.data.toList==[115,101,108,102]):=by rw [ByteArray.toList_eq]
     have t2:(s.toList==[97,114,103]) =(s.data.toList==[97,114,103]):=by rw [ByteArray.toList_eq]
     clear HP HO HR
     cases c1:(s.data.toList==[115,101,108,102]) with
     | true =>
      have HG:Hid (r=true):=by unfold Hid;rw [HW.out,c1];rfl
      rw [c1] at t1
      clear HW c1 t2
      go_wp2
      go_ret
      exact ⟨ret_bool HG.out.symm,by first | rfl | trivial⟩
     | false =>
      cases c2:(s.data.toList==[97,114,103]) with
      | true =>
       have HG:Hid (r=true):=by unfold Hid;rw [HW.out,c1,c2];rfl
       rw [c1] at t1
       rw [c2] at t2
       clear HW c1 c2
       go_wp2
       go_ret
       exact ⟨ret_bool HG.out.symm,by first | rfl | trivial⟩
      | false =>
       have HG:Hid (r=false):=by unfold Hid;rw [HW.out,c1,c2];rfl
       rw [c1] at t1
       rw [c2] at t2
       clear HW c1 c2
       go_wp2
       go_ret
       exact ⟨ret_bool HG.out.symm,by first | rfl | trivial⟩
def lowOnly (l:List UInt8):Bool:=l.all fun x=>lowB x || digB x
theorem big_sub:∀ c∈Tok.resWords,(c∈pWords∨c∈oWords∨c∈wWords)∨lowOnly c=false:=by decide
theorem big_sup:(∀ c∈pWords,c=[]∨c∈Tok.resWords)/\(∀ c∈oWords,c=[]∨c∈Tok.resWords)/\(∀ c∈wWords,c∈Tok.resWords):=by decide
theorem res_low {l:List UInt8}(h0:l≠[]) (h:lowOnly l=true):resPB l=Tok.resR l:=by
 rw [<- Tok.res_same]
 rw [Bool.eq_iff_iff]
 unfold resPB Tok.resB
 simp only [Bool.or_eq_true,List.any_eq_true,beq_iff_eq]
 constructor
 ·rintro ((⟨c,hc,rfl⟩ |⟨c,hc,rfl⟩) |⟨c,hc,rfl⟩)
  ·exact ⟨l,(big_sup.1 l hc).resolve_left h0,rfl⟩
  ·exact ⟨l,(big_sup.2.1 l hc).resolve_left h0,rfl⟩
  ·exact ⟨l,big_sup.2.2 l hc,rfl⟩
 ·rintro ⟨c,hc,rfl⟩
  rcases big_sub l hc with (g | g | g) | g
  ·exact .inl (.inl ⟨l,g,rfl⟩)
  ·exact .inl (.inr ⟨l,g,rfl⟩)
  ·exact .inr ⟨l,g,rfl⟩
  ·rw [h] at g;cases g
theorem low_of {s:ByteArray}(h:(List.range s.size).all (chB s)=true):lowOnly s.data.toList=true:=by
 unfold lowOnly
 rw [List.all_eq_true] at h ⊢
 intro x hx
 obtain ⟨i,hi,rfl⟩:=List.mem_iff_getElem.1 hx
 have hi':i<s.size:=by simpa using hi
 have:=h i (List.mem_range.2 hi')
 rw [chB,dif_pos hi'] at this
 have e:s.data.toList[i]=s[i]:=rfl
 rw [e]
 revert this
 cases lowB s[i] <;> cases digB s[i] <;> simp
theorem isNameP (s:ByteArray) (w:World) (hs:s.size<=9223372036854775807) (hT:Tab w):Calls Tryz.prog 92 #[.string s] w fun e w'=>e=.returned (.bool (nameB s))/\Below w.heap.size w w':=by
 have RP:=isReservedP s w hT
 obtain ⟨r,hr⟩:∃ r,nameB s=r:=⟨_,rfl⟩
 rw [hr]
 unfold nameB at hr
 by_cases h1:s.size<=32
 ·have h1':¬ (32:Int) <(s.size:Int):=by omega
  have hd2:decide (s.size<=32)=true:=decide_eq_true h1
  rw [hd2] at hr
  cases hq:resPB s.data.toList with
  | true =>
   obtain rfl:r=false:=by
    rw [<- hr]
    cases ha:(List.range s.size).all (chB s) with
    | false=>simp
    | true =>
     by_cases h0:s.size=0
     ·simp [h0]
     ·have hne:s.data.toList≠[]:=fun e=>h0 (by have:=congrArg List.length e;simpa using this)
      rw [<- res_low hne (low_of ha),hq];simp
   rw [hq] at RP
   clear hr hd2 hq hT
   go_enter Tryz.func92,Tryz.ntmps92
   go_wp2_with (go_at_call 115;(with_reducible refine RP.mono ?_);rintro e w1 ⟨rfl,rfl⟩)
   go_ret
   exact ⟨rfl,Below.refl _ _⟩
  | false =>
   have hne:s.data.toList≠[]:=fun e=>by rw [e] at hq;revert hq;decide
   have h0:0<s.size:=by
    by_cases g:s.size=0
    ·exact absurd (List.eq_nil_of_length_eq_zero (by rw [Array.length_toList];exact g)) hne
    ·omega
   have e0:=tl_no (s:=s) h0
   have HR:Hid ((List.range s.size).all (chB s)=r):=by
    unfold Hid
    rw [<- hr,decide_eq_true h0]
    cases ha:(List.range s.size).all (chB s) with
    | false=>simp
    | true=>rw [<- res_low hne (low_of ha),hq];rfl
   rw [hq] at RP
   clear hr hd2 hq hT hne
   obtain ⟨n,hn⟩:∃ n,s.size=n:=⟨_,rfl⟩
   have hn32:(n:Int)<=32:=by omega
   go_enter Tryz.func92,Tryz.ntmps92
   go_wp2_with (go_at_call 115;(with_reducible refine RP.mono ?_);rintro e w1 ⟨rfl,rfl⟩)
   go_loopw [15] (fun i wr=>∃ j:Nat,j<=n/\i=.int .i64 (j:Int)/\(∀ k,k<j->chB s k=true)/\Below w.heap.size w wr) (fun i _=>n - (intOf i).toNat)
   case atStart=>exact ⟨0,Nat.zero_le _,rfl,fun k hk=>absurd hk (by omega),Below.refl _ _⟩
   case round =>
    obtain ⟨j,hj,rfl,hall,hb⟩:=hrel
    have HA:Hid (∀ k,k<j->chB s k=true):=hall
    clear hall RP
    by_cases hlt:j<n
    ·have hlt':(j:Int) <(n:Int):=by omega
     have hjs:j<s.size:=by omega
     obtain ⟨x,hx⟩:∃ x:UInt8,s[j]=x:=⟨_,rfl⟩
     have hidx:∀ w,(Instr.index 9 (.string s) (.int .i64 (j:Int))).run Tryz.prog w=.ok (.int .u8 (x.toNat:Int)) w:=fun w=>by
      have e:s[(j:Int).toNat]?=some x:=by rw [show (j:Int).toNat=j by omega,getElem?_pos s j hjs,hx]
      simp only [Instr.index,run_underlying Tryz.underlying9,asIntOf,Sem.run_bind,Sem.run_pure,Result.andThen_ok,if_pos (show (0:Int)<=(j:Int) by omega),e]
     have hcx:chB s j =(lowB x ||(digB x&&j != 0)):=by rw [chB,dif_pos hjs,hx]
     have hxb:(x.toNat:Int)<=255:=by have:=x.toNat_lt;omega
     have HO:chB s j=true->Hid (∀ k,k<j+1->chB s k=true):=fun h k hk=>by
      rcases Nat.lt_or_ge k j with q | q
      ·exact HA.out k q
      ·obtain rfl:k=j:=by omega
       exact h
     have HN:chB s j=false->Hid (r=false):=fun h=>by unfold Hid;rw [<- HR.out];exact ch_no hjs h
     rw [hcx] at HO HN
     clear hcx HA HR hx
     rcases (show (x.toNat<48)∨(48<=x.toNat/\x.toNat<=57)∨(58<=x.toNat/\x.toNat<97)∨(97<=x.toNat/\x.toNat<=122)∨(122<x.toNat) by omega) with hc | hc | hc | hc | hc
     ·have ca':¬ ((97:Int)<=(x.toNat:Int)):=by omega
      have da':decide ((97:Int)<=(x.toNat:Int))=false:=decide_eq_false ca'
      have cb':(x.toNat:Int)<=122:=by omega
      have db':decide ((x.toNat:Int)<=122)=true:=decide_eq_true cb'
      have cc':¬ ((48:Int)<=(x.toNat:Int)):=by omega
      have dc':decide ((48:Int)<=(x.toNat:Int))=false:=decide_eq_false cc'
      have cd':(x.toNat:Int)<=57:=by omega
      have dd':decide ((x.toNat:Int)<=57)=true:=decide_eq_true cd'
      by_cases cz:j=0
      ·have hz:((j:Int)==0)=true:=by subst cz;rfl
       have HT:=HN (by simp [lowB,digB];omega)
       clear HO HN cz
       go_wp2_with fail
       go_region
       all_goals
        go_wp2_with fail
        go_ret
        exact ⟨ret_bool HT.out.symm,by first | exact hb | exact hb.drew⟩
      ·have hz:((j:Int)==0)=false:=by simp;omega
       have HT:=HN (by simp [lowB,digB];omega)
       clear HO HN cz
       go_wp2_with fail
       go_region
       all_goals
        go_wp2_with fail
        go_ret
        exact ⟨ret_bool HT.out.symm,by first | exact hb | exact hb.drew⟩
     ·have ca':¬ ((97:Int)<=(x.toNat:Int)):=by omega
      have da':decide ((97:Int)<=(x.toNat:Int))=false:=decide_eq_false ca'
      have cb':(x.toNat:Int)<=122:=by omega
      have db':decide ((x.toNat:Int)<=122)=true:=decide_eq_true cb'
      have cc':(48:Int)<=(x.toNat:Int):=by omega
      have dc':decide ((48:Int)<=(x.toNat:Int))=true:=decide_eq_true cc'
      have cd':(x.toNat:Int)<=57:=by omega
      have dd':decide ((x.toNat:Int)<=57)=true:=decide_eq_true cd'
      by_cases cz:j=0
      ·have hz:((j:Int)==0)=true:=by subst cz;rfl
       have HT:=HN (by simp [lowB,digB];omega)
       clear HO HN cz
       go_wp2_with fail
       go_region
       all_goals
        go_wp2_with fail
        go_ret
        exact ⟨ret_bool HT.out.symm,by first | exact hb | exact hb.drew⟩
      ·have hz:((j:Int)==0)=false:=by simp;omega
       have HT:=HO (by simp [lowB,digB];omega)
       clear HO HN cz
       go_wp2_with fail
       go_region
       all_goals
        go_wp2_with fail
        go_roundw
        case rel=>exact ⟨j+1,by omega,by go_num,HT.out,by first | exact hb | exact hb.drew⟩
        case measure=>simp [intOf];omega
     ·have ca':¬ ((97:Int)<=(x.toNat:Int)):=by omega
      have da':decide ((97:Int)<=(x.toNat:Int))=false:=decide_eq_false ca'
      have cb':(x.toNat:Int)<=122:=by omega
      have db':decide ((x.toNat:Int)<=122)=true:=decide_eq_true cb'
      have cc':(48:Int)<=(x.toNat:Int):=by omega
      have dc':decide ((48:Int)<=(x.toNat:Int))=true:=decide_eq_true cc'
      have cd':¬ ((x.toNat:Int)<=57):=by omega
      have dd':decide ((x.toNat:Int)<=57)=false:=decide_eq_false cd'
      by_cases cz:j=0
      ·have hz:((j:Int)==0)=true:=by subst cz;rfl
       have HT:=HN (by simp [lowB,digB];omega)
       clear HO HN cz
       go_wp2_with fail
       go_region
       all_goals
        go_wp2_with fail
        go_ret
        exact ⟨ret_bool HT.out.symm,by first | exact hb | exact hb.drew⟩
      ·have hz:((j:Int)==0)=false:=by simp;omega
       have HT:=HN (by simp [lowB,digB];omega)
       clear HO HN cz
       go_wp2_with fail
       go_region
       all_goals
        go_wp2_with fail
        go_ret
        exact ⟨ret_bool HT.out.symm,by first | exact hb | exact hb.drew⟩
     ·have ca':(97:Int)<=(x.toNat:Int):=by omega
      have da':decide ((97:Int)<=(x.toNat:Int))=true:=decide_eq_true ca'
      have cb':(x.toNat:Int)<=122:=by omega
      have db':decide ((x.toNat:Int)<=122)=true:=decide_eq_true cb'
      have cc':(48:Int)<=(x.toNat:Int):=by omega
      have dc':decide ((48:Int)<=(x.toNat:Int))=true:=decide_eq_true cc'
      have cd':¬ ((x.toNat:Int)<=57):=by omega
      have dd':decide ((x.toNat:Int)<=57)=false:=decide_eq_false cd'
      by_cases cz:j=0
      ·have hz:((j:Int)==0)=true:=by subst cz;rfl
       have HT:=HO (by simp [lowB,digB];omega)
       clear HO HN cz
       go_wp2_with fail
       go_region
       all_goals
        go_wp2_with fail
        go_roundw
        case rel=>exact ⟨j+1,by omega,by go_num,HT.out,by first | exact hb | exact hb.drew⟩
        case measure=>simp [intOf];omega
      ·have hz:((j:Int)==0)=false:=by simp;omega
       have HT:=HO (by simp [lowB,digB];omega)
       clear HO HN cz
       go_wp2_with fail
       go_region
       all_goals
        go_wp2_with fail
        go_roundw
        case rel=>exact ⟨j+1,by omega,by go_num,HT.out,by first | exact hb | exact hb.drew⟩
        case measure=>simp [intOf];omega
     ·have ca':(97:Int)<=(x.toNat:Int):=by omega
      have da':decide ((97:Int)<=(x.toNat:Int))=true:=decide_eq_true ca'
      have cb':¬ ((x.toNat:Int)<=122):=by omega
      have db':decide ((x.toNat:Int)<=122)=false:=decide_eq_false cb'
      have cc':(48:Int)<=(x.toNat:Int):=by omega
      have dc':decide ((48:Int)<=(x.toNat:Int))=true:=decide_eq_true cc'
      have cd':¬ ((x.toNat:Int)<=57):=by omega
      have dd':decide ((x.toNat:Int)<=57)=false:=decide_eq_false cd'
      by_cases cz:j=0
      ·have hz:((j:Int)==0)=true:=by subst cz;rfl
       have HT:=HN (by simp [lowB,digB];omega)
       clear HO HN cz
       go_wp2_with fail
       go_region
       all_goals
        go_wp2_with fail
        go_ret
        exact ⟨ret_bool HT.out.symm,by first | exact hb | exact hb.drew⟩
      ·have hz:((j:Int)==0)=false:=by simp;omega
       have HT:=HN (by simp [lowB,digB];omega)
       clear HO HN cz
       go_wp2_with fail
       go_region
       all_goals
        go_wp2_with fail
        go_ret
        exact ⟨ret_bool HT.out.symm,by first | exact hb | exact hb.drew⟩
    ·obtain rfl:j=n:=by omega
     have HT:Hid (r=true):=by
      unfold Hid
      rw [<- HR.out,List.all_eq_true]
      intro k hk
      exact HA.out k (by have:=List.mem_range.1 hk;omega)
     clear HA HR
     go_wp2_with fail
     go_ret
     exact ⟨ret_bool HT.out.symm,hb⟩
 ·have h1':(32:Int) <(s.size:Int):=by omega
  obtain rfl:r=false:=by rw [<- hr,decide_eq_false h1];simp
  clear hr
  go_enter Tryz.func92,Tryz.ntmps92
  go_wp2_with fail
  go_ret
  exact ⟨rfl,Below.refl _ _⟩
end Go.Proofs.YtalkinnbfglkdaaGreatDoor.Syn
namespace Go.Proofs.YtalkinnbfglkdaaGreatDoor.Syn
open Go.RowKit Go.Proofs.YtalkinnbfglkdaaGreatDoor.Shape
set_option linter.unusedVariables false
set_option linter.unusedSimpArgs false
theorem rkB_lt {N:Nd}{r:Nat}(h:rkN N<r+1):rkB N.bd<r:=by
 cases N with | mk k a c t p o v ks bd d s z =>
 rw [rkN] at h;simp only [Nd.bd];omega
end Go.Proofs.YtalkinnbfglkdaaGreatDoor.Syn
