/-
  Layer 10: a map keyed by pointers to nodes: what a look-up and a store leave, whatever the model lets a comparison of pointers answer.
  Layer 10: the program's checkExtent.
  Layer 10: the program's kindCounts and needsLambda.
-/
import Derived.Test.YtalkinnbfglkdaaGreatDoorPt19
import Derived.LaidEqlPtr
import Derived.Maps.OwnIn
import Derived.Maps.Views
import Derived.Shelf.RegionOpen
set_option maxHeartbeats 8000000
namespace Go.Proofs.YtalkinnbfglkdaaGreatDoor.Syn
open Go.RowKit Go.Proofs.YtalkinnbfglkdaaGreatDoor.Shape
set_option linter.unusedVariables false
set_option maxRecDepth 100000
def PMap (w0 w:World) (m:Nat):Prop:=∃ es clock,w.heap[m]?=some (.map es clock)/\∀ e∈es.toList,∃ (b o:Nat) (v:Value) (l:Int),e.key=.pointer (some ⟨b,o,none⟩)/\w0.cell? ⟨b,o,none⟩=some v/\e.val=.int .i64 l
theorem PMap.new (w0 w:World):PMap w0 (w.alloc (.map #[] 0)) w.heap.size:=⟨#[],0,(MapKept.heap_alloc w _).1,fun e h=>by simp at h⟩
theorem PMap.kept {w0 w w':World}{m:Nat}(h:PMap w0 w m) (hk:w'.heap[m]?=w.heap[m]?):PMap w0 w' m:=by
 obtain ⟨es,c,h1,h2⟩:=h;exact ⟨es,c,hk.trans h1,h2⟩
theorem PMap.lt {w0 w:World}{m:Nat}(h:PMap w0 w m):m<w.heap.size:=by
 obtain ⟨es,c,h1,-⟩:=h;exact (Array.getElem?_eq_some_iff.1 h1).1
theorem cells_of {w0 w:World}(hb:Below w0.heap.size w0 w) {b o:Nat}{v:Value}(h:w0.cell? ⟨b,o,none⟩=some v):∃ cs t fr,w.heap[b]?=some (.cells cs t fr):=by
 have h1:w.cell? ⟨b,o,none⟩=some v:=(hb.cell (cell_lt h)).trans h
 unfold World.cell? at h1
 cases hq:w.heap[b]? with
 | none=>simp [hq] at h1
 | some ob =>
  cases ob with
  | cells cs t fr=>exact ⟨cs,t,fr,rfl⟩
  | _=>simp [hq] at h1
theorem run_choose_any {P:Program}(w:World) (q:Question):∃ r k,(choose q).run P w=.ok r (w.drewN k):=by
 by_cases h:q.forced=true
 ·exact ⟨_,0,by simp [h];exact ⟨rfl,rfl⟩⟩
 ·exact ⟨_,1,by simp [h];exact ⟨rfl,rfl⟩⟩
theorem run_sameAddr_soft {P:Program}(w:World) {a b:Addr}{ca cb:Array Value}{ta tb:TypeId}{fa fb:Nat × Nat}(ha:w.heap[a.block]?=some (.cells ca ta fa)) (hb:w.heap[b.block]?=some (.cells cb tb fb)) (hz:w.frozen? a=false) :
  ∃ r k,(sameAddr a b).run P w=.ok r (w.drewN k):=by
 by_cases hbl:a.block=b.block
 ·exact ⟨a==b,0,by simp [sameAddr,hbl];rfl⟩
 ·have h1 : (sameAddr a b).run P w = (mayBeOne a b >>= fun c => if c then (do return (← choose (.extern "sameAddr.stringBytes" 2)) == 1) else pure false).run P w := by
   simp [sameAddr,hbl,hz,noView,viewAt,World.shape?,ha,hb]
  obtain ⟨c,hc⟩:∃ c,(mayBeOne a b).run P w=.ok c w:=by
   have key:∀ r,(mayBeOne a b).run P w=r->∃ c,r=.ok c w:=by
    intro r hr
    simp [mayBeOne,stringish,World.shape?,ha,hb,hz] at hr
    split at hr <;> exact ⟨_,hr.symm⟩
   exact key _ rfl
  rw [h1]
  simp only [Sem.run_bind,hc,Result.andThen_ok]
  cases c with
  | false=>exact ⟨false,0,rfl⟩
  | true =>
   obtain ⟨r, k, hr⟩ := run_choose_any (P := P) w (.extern "sameAddr.stringBytes" 2)
   exact ⟨r==1,k,by simp only [if_true,Sem.run_bind,hr,Result.andThen_ok,Sem.run_pure]⟩
theorem elemPtr:Tryz.prog.underlying 92=some (.pointer 49):=by kernel_rfl
theorem elemMap:Tryz.prog.underlying 113=some (.map 92 3):=by kernel_rfl
theorem zeroInt (w:World):(zeroValue 3).run Tryz.prog w=.ok (.int .i64 0) w:=by kernel_rfl
theorem run_equal_ptr (w:World) {a b:Addr}{ca cb:Array Value}{ta tb:TypeId}{fa fb:Nat × Nat}(ha:w.heap[a.block]?=some (.cells ca ta fa)) (hb:w.heap[b.block]?=some (.cells cb tb fb)) (hz:w.frozen? a=false) :
  ∃ r k,(Op.equal 92 (.pointer (some a)) (.pointer (some b))).run Tryz.prog w=.ok r (w.drewN k):=by
 obtain ⟨r,k,hr⟩:=run_sameAddr_soft (P:=Tryz.prog) w ha hb hz
 refine ⟨r,k,?_⟩
 have h:∀ d:Nat,(Op.equalIn (d+1) 92 (.pointer (some a)) (.pointer (some b))).run Tryz.prog w=.ok r (w.drewN k):=fun d=>by
  simp [Op.equalIn,run_underlying elemPtr,hr]
 simp only [Op.equal,Op.maxDepth,h 9999]
theorem below_drewN {n:Nat}{w0 w:World}(h:Below n w0 w) (k:Nat):Below n w0 (w.drewN k):=⟨h.os,h.tape,h.output,h.size,h.block⟩
theorem run_findAsking {w0:World}{qb qo:Nat}{v0:Value}(hq:w0.cell? ⟨qb,qo,none⟩=some v0) (hz:w0.frozen? ⟨qb,qo,none⟩=false):∀ (es:List MapEntry) (i:Nat) (w:World),Below w0.heap.size w0 w ->
  (∀ e∈es,∃ (b o:Nat) (v:Value) (l:Int),e.key=.pointer (some ⟨b,o,none⟩)/\w0.cell? ⟨b,o,none⟩=some v/\e.val=.int .i64 l) ->
  ∃ r k,(Instr.findAsking 92 (.pointer (some ⟨qb,qo,none⟩)) es i).run Tryz.prog w=.ok r (w.drewN k)/\∀ j v,r=some (j,v)->∃ l:Int,v=.int .i64 l
 | [],i,w,_,_=>⟨none,0,by simp [Instr.findAsking];rfl,fun j v h=>by cases h⟩
 | e::es,i,w,hB,he=>by
  obtain ⟨b,o,v,l,h1,h2,h3⟩:=he e (by simp)
  have hlt:=cell_lt hq
  obtain ⟨ca,ta,fa,ha⟩:=cells_of hB hq
  obtain ⟨cb,tb,fb,hb⟩:=cells_of hB h2
  obtain ⟨r,k,hr⟩:=run_equal_ptr w (a:=⟨qb,qo,none⟩) (b:=⟨b,o,none⟩) ha hb ((hB.frozen (p:=⟨qb,qo,none⟩) hlt).trans hz)
  cases r with
  | true=>exact ⟨some (i,e.val),k,by simp only [Instr.findAsking,Sem.run_bind,h1,hr,Result.andThen_ok,if_true,Sem.run_pure],fun j v' hjv=>by cases hjv;exact ⟨l,h3⟩⟩
  | false =>
   obtain ⟨r2,k2,hr2,hv2⟩:=run_findAsking hq hz es (i+1) (w.drewN k) (below_drewN hB k) (fun x hx=>he x (by simp [hx]))
   refine ⟨r2,k+k2,?_,hv2⟩
   simp only [Instr.findAsking,Sem.run_bind,h1,hr,Result.andThen_ok,Bool.false_eq_true,if_false,hr2,World.drewN_drewN]
theorem run_getMap {P:Program}{w:World}{m:Nat}{es:Array MapEntry}{c:Nat}(h:w.heap[m]?=some (.map es c)):(getObj m).run P w=.ok (.map es c) w:=MapKept.run_getObj_map h
theorem findNow_ptr (t:TypeId) (k:Value):∀ (es:List MapEntry) (i:Nat),Instr.findNow (.pointer t) k es i=none∨(es=[]/\Instr.findNow (.pointer t) k es i=some none)
 | [],_=>.inr ⟨rfl,rfl⟩
 | e::es,i=>.inl (by simp [Instr.findNow,Instr.sameNow])
theorem run_findKey {w0:World}{qb qo:Nat}{v0:Value}(hq:w0.cell? ⟨qb,qo,none⟩=some v0) (hz:w0.frozen? ⟨qb,qo,none⟩=false) (es:List MapEntry) (w:World) (hB:Below w0.heap.size w0 w)
  (he:∀ e∈es,∃ (b o:Nat) (v:Value) (l:Int),e.key=.pointer (some ⟨b,o,none⟩)/\w0.cell? ⟨b,o,none⟩=some v/\e.val=.int .i64 l) :
  ∃ r k,(Instr.findKey 92 (.pointer (some ⟨qb,qo,none⟩)) es).run Tryz.prog w=.ok r (w.drewN k)/\∀ j v,r=some (j,v)->∃ l:Int,v=.int .i64 l:=by
 rcases findNow_ptr 49 (.pointer (some ⟨qb,qo,none⟩)) es 0 with h |⟨h1,h2⟩
 ·obtain ⟨r,k,hr,hv⟩:=run_findAsking hq hz es 0 w hB he
  exact ⟨r,k,by simp only [Instr.findKey,Sem.run_bind,run_underlying elemPtr,Result.andThen_ok,h,hr],hv⟩
 ·exact ⟨none,0,by simp only [Instr.findKey,Sem.run_bind,run_underlying elemPtr,Result.andThen_ok,h2,Sem.run_pure,World.drewN_zero],fun j v h=>by cases h⟩
theorem run_checkKey (w:World) (em:Bool) (a:Option Addr):(Instr.checkKey em 10000 92 (.pointer a)).run Tryz.prog w=.ok () w:=by
 have h:∀ n,(Instr.checkKey em (n+1) 92 (.pointer a)).run Tryz.prog w=.ok () w:=fun n=>by
  simp [Instr.checkKey,run_underlying elemPtr]
 exact h 9999
theorem PMap.look {w0 w:World}{m:Nat}(h:PMap w0 w m) (hB:Below w0.heap.size w0 w) {qb qo:Nat}{v0:Value}(hq:w0.cell? ⟨qb,qo,none⟩=some v0) (hz:w0.frozen? ⟨qb,qo,none⟩=false) :
  ∃ (l:Int) (k:Nat),(Instr.lookup 113 (.map (some m)) (.pointer (some ⟨qb,qo,none⟩)) false).run Tryz.prog w=.ok (.int .i64 l) (w.drewN k):=by
 obtain ⟨es,c,hb,he⟩:=h
 obtain ⟨r,k,hr,hv⟩:=run_findKey hq hz es.toList w hB he
 cases r with
 | none=>exact ⟨0,k,by simp [Instr.lookup,run_underlying elemMap,run_getMap hb,run_checkKey,hr,Result.andThen]⟩
 | some x =>
  obtain ⟨j,v⟩:=x
  obtain ⟨l,rfl⟩:=hv j v rfl
  exact ⟨l,k,by simp [Instr.lookup,run_underlying elemMap,run_getMap hb,run_checkKey,hr,Result.andThen]⟩
theorem run_stays {P:Program}(w:World) (a b:Value):∃ v k,(Instr.keyThatStays a b).run P w=.ok v (w.drewN k)/\(v=a∨v=b):=by
 by_cases h:Instr.sameBits 10000 a b=true
 ·exact ⟨b,0,by simp [Instr.keyThatStays,h,World.drewN_zero],.inr rfl⟩
 ·obtain ⟨r, k, hr⟩ := run_choose_any (P := P) w (.extern "map.whichKeyStays" 2)
  by_cases h0:r=0
  ·exact ⟨b,k,by simp only [Instr.keyThatStays,if_neg h,Sem.run_bind,hr,Result.andThen_ok,if_pos h0,Sem.run_pure],.inr rfl⟩
  ·exact ⟨a,k,by simp only [Instr.keyThatStays,if_neg h,Sem.run_bind,hr,Result.andThen_ok,if_neg h0,Sem.run_pure],.inl rfl⟩
theorem PMap.store {w0 w:World}{m:Nat}(h:PMap w0 w m) (hB:Below w0.heap.size w0 w) {qb qo:Nat}{v0:Value}(hq:w0.cell? ⟨qb,qo,none⟩=some v0) (hz:w0.frozen? ⟨qb,qo,none⟩=false) (l:Int) :
  ∃ w',(Instr.mapUpdate 113 (.map (some m)) (.pointer (some ⟨qb,qo,none⟩)) (.int .i64 l)).run Tryz.prog w=.ok () w'/\PMap w0 w' m/\w.grownBy w' (some m)/\w'.heap.size=w.heap.size:=by
 obtain ⟨es,c,hb,he⟩:=h
 obtain ⟨r,k,hr,hv⟩:=run_findKey hq hz es.toList w hB he
 have hb1:∀ k,(w.drewN k).heap[m]?=some (.map es c):=fun _=>hb
 have grown:∀ k o,w.grownBy (ChangeMaps.setBlock (w.drewN k) m o) (some m):=fun k o =>
  ⟨rfl,rfl,rfl,by simp [ChangeMaps.setBlock],fun i _ hi=>(ChangeMaps.heap_setBlock_other (hb1 k) _ (fun e=>hi (by rw [e])))⟩
 cases r with
 | none =>
  refine ⟨ChangeMaps.setBlock (w.drewN k) m (.map (es.push ⟨.pointer (some ⟨qb,qo,none⟩),.int .i64 l,c⟩) (c+1)),?_,⟨_,_,ChangeMaps.heap_setBlock_same (hb1 k) _,fun e h=>?_⟩,grown k _,by simp [ChangeMaps.setBlock]⟩
  ·simp [Instr.mapUpdate,run_underlying elemMap,run_getMap hb,run_checkKey,hr,MapKept.run_setObj_map _ (hb1 k),Result.andThen,ChangeMaps.setBlock]
  ·simp only [Array.toList_push,List.mem_append,List.mem_singleton] at h
   rcases h with h | rfl
   ·exact he e h
   ·exact ⟨qb,qo,v0,l,rfl,hq,rfl⟩
 | some x =>
  obtain ⟨j,v⟩:=x
  obtain ⟨v2,k2,hs,hv2⟩:=run_stays (P:=Tryz.prog) (w.drewN k) (((es[j]?).map (·.key)).getD (.pointer (some ⟨qb,qo,none⟩))) (.pointer (some ⟨qb,qo,none⟩))
  rw [World.drewN_drewN] at hs
  refine ⟨ChangeMaps.setBlock (w.drewN (k+k2)) m (.map (es.modify j fun e=>{ e with key:=v2,val:=.int .i64 l }) c),?_,⟨_,_,ChangeMaps.heap_setBlock_same (hb1 _) _,fun e h=>?_⟩,grown _ _,by simp [ChangeMaps.setBlock]⟩
  ·simp [Instr.mapUpdate,run_underlying elemMap,run_getMap hb,run_checkKey,hr,hs,MapKept.run_setObj_map _ (hb1 _),Result.andThen,ChangeMaps.setBlock]
  ·obtain ⟨i,hi,rfl⟩:=List.mem_iff_getElem.1 h
   simp only [Array.getElem_toList,Array.getElem_modify]
   have hi':i<es.size:=by simpa using hi
   split
   ·rename_i e
    subst e
    rcases hv2 with e | e
    ·rw [Array.getElem?_eq_getElem hi'] at e
     obtain ⟨b,o,v',l',h1,h2,-⟩:=he es[j] (by simp)
     exact ⟨b,o,v',l,by simp [e,h1],h2,rfl⟩
    ·exact ⟨qb,qo,v0,l,e,hq,rfl⟩
   ·exact he es[i] (by simp)
end Go.Proofs.YtalkinnbfglkdaaGreatDoor.Syn
namespace Go.Proofs.YtalkinnbfglkdaaGreatDoor.Syn
open Go.RowKit Go.Shelf Go.Proofs.YtalkinnbfglkdaaGreatDoor.Shape
set_option linter.unusedVariables false
set_option linter.unusedSimpArgs false
set_option maxRecDepth 100000
attribute [local go_sem] Oper.semAt_some
theorem ownFrom_ex {β γ:Type}{B:Nat}{I:γ->β->World->Prop}(h:∀ c,OwnFrom B (I c)):OwnFrom B (fun s W=>∃ c,I c s W):=fun s W W' row ⟨c,hc⟩ hg hr=>⟨c,h c s W W' row hc hg hr⟩
theorem ownFrom_pmap {β:Type}{B:Nat}{w0:World}{m:Nat}(hm:m<B):OwnFrom B (fun (_:β) W=>PMap w0 W m):=fun _ X Y row hs hg hr=>hs.kept (hg.block m hs.lt (fun e=>by have:=(hr m e.symm).1;omega))
theorem dep_inn {kb ko bb bo:Nat}{N:Nd}{d:Nat}(h:∀ y∈inn kb ko bb bo N,dep y.2<=d):dep N<=d+1:=by
 have h1:depK N.ks<=d:=by
  have:∀ (l:List Nd),(∀ j (hj:j<l.length),dep l[j]<=d)->depK l<=d:=by
   intro l
   induction l with
   | nil=>intro _;rw [depK];omega
   | cons A r ih =>
    intro g
    have g0:=g 0 (by simp)
    have:=ih (fun j hj=>by simpa using g (j+1) (Nat.succ_lt_succ hj))
    simp only [List.getElem_cons_zero] at g0
    rw [depK];omega
  refine this _ (fun j hj=>h ((kb,ko+j*15),N.ks[j]) ?_)
  rw [inn]
  exact List.mem_append_left _ (List.mem_of_getElem? (inK_at kb ko N.ks j hj))
 have h2:depB N.bd<=d:=by
  have:∀ (l:List St),(∀ j (hj:j<l.length),depS l[j]<=d)->depB l<=d:=by
   intro l
   induction l with
   | nil=>intro _;rw [depB];omega
   | cons A r ih =>
    intro g
    have g0:=g 0 (by simp)
    have:=ih (fun j hj=>by simpa using g (j+1) (Nat.succ_lt_succ hj))
    simp only [List.getElem_cons_zero] at g0
    rw [depB];omega
  refine this _ (fun j hj=>?_)
  have hat:=inB_at bb bo N.bd j hj
  rw [depS_eq]
  cases hk:(N.bd[j].k==3) with
  | true =>
   have a1:=h _ (by rw [inn];exact List.mem_append_right _ (List.mem_of_getElem? (hat.1 hk).1))
   have a2:=h _ (by rw [inn];exact List.mem_append_right _ (List.mem_of_getElem? (hat.1 hk).2))
   simp only at a1 a2
   rw [if_pos rfl];omega
  | false =>
   have a2:=h _ (by rw [inn];exact List.mem_append_right _ (List.mem_of_getElem? (hat.2 hk)))
   simp only at a2
   simp only [Bool.false_eq_true,if_false];omega
 rw [dep_eq];omega
def FI (w0 W0:World) (n₂ Bz m Br sp:Nat) (W:World):Prop:=Boxed W Bz 3 (.int .i64 (sp:Int))/\PMap w0 W m/\(∃ q,Boxed W Br 4 (.bool q))/\But n₂ (fun k=>k=Bz∨k=m∨k=Br) W0 W
theorem FI.own {β:Type}{B:Nat}{w0 W0:World}{n₂ Bz m Br sp:Nat}(hm:m<B) (hn:n₂<=W0.heap.size) (hB:n₂<=B):OwnFrom B (fun (_:β) W=>FI w0 W0 n₂ Bz m Br sp W) :=
 OwnFrom.and (Own.from (boxed_own _ _ (fun _:β=>Value.int .i64 (sp:Int))) _) (OwnFrom.and (ownFrom_pmap hm) (OwnFrom.and (ownFrom_ex fun q=>Own.from (boxed_own _ _ (fun _:β=>Value.bool q)) _) (ownFrom_but hn hB)))
def FlatP (N:Nd) {L:List ((Nat × Nat) × Nd)}(lv s sp:Nat) (pre:List (InAt L)):Prop :=
 s<=sp/\sp<=s+sumX siz pre/\(sp<=16384->sp=s+sumX siz pre/\∀ x∈pre,lv+1+dep x.1.2<=61)
theorem But.other {n:Nat}{S:Nat->Prop}{a w:World}(h:But n S a w) {p:Addr}(hp:n<=p.block) (hn:n<=w.heap.size) (u:Value):But n S a (w.setCell p u) :=
 h.trans (But.of_below ((Below.refl n w).setCell hp u))
theorem PMap.set {w0 w:World}{m:Nat}(h:PMap w0 w m) {b o:Nat}(hb:m≠b) (u:Value):PMap w0 (w.setCell ⟨b,o,none⟩ u) m:=h.kept (Below.heap_setCell _ _ _ _ hb)
theorem sumX_small {L:List ((Nat × Nat) × Nd)}{n:Nat}(h:∀ y∈L,siz y.2<=n):∀ (xs:List (InAt L)),sumX siz xs<=xs.length*n
 | []=>by rw [sumX_nil];omega
 | x::r=>by
  have h1:=h x.1 x.2
  have h2:=sumX_small h r
  have h3:sumX siz (x::r)=siz x.1.2+sumX siz r:=by unfold sumX;simp
  rw [h3,List.length_cons,Nat.add_mul];omega
theorem inn_siz (kb ko bb bo:Nat) (N:Nd):(∀ y∈inn kb ko bb bo N,siz y.2+1<=siz N)/\(inn kb ko bb bo N).length<=siz N:=by
 have e:=siz_inn kb ko bb bo N
 have g:∀ (L:List ((Nat × Nat) × Nd)),(∀ y∈L,siz y.2<=sumI siz L)/\L.length<=sumI siz L:=by
  intro L
  induction L with
  | nil=>exact ⟨(fun y h=>by cases h),Nat.le_refl _⟩
  | cons z r ih =>
   rw [sumI_cons]
   have:=siz_pos z.2
   refine ⟨fun y hy=>?_,(by rw [List.length_cons];omega)⟩
   rcases List.mem_cons.1 hy with rfl | hy
   ·omega
   ·have:=ih.1 y hy;omega
 have g1:=g (inn kb ko bb bo N)
 exact ⟨fun y hy=>by have:=g1.1 y hy;omega,by omega⟩
theorem But.more {n:Nat}{S S':Nat->Prop}{w w':World}(h:But n S w w') (g:∀ k,S k->S' k):But n S' w w':=⟨h.os,h.tape,h.output,h.size,fun k hk hs=>h.block k hk (fun q=>hs (g k q))⟩
theorem mem_all {L:List ((Nat × Nat) × Nd)}(x:InAt L):x∈all L:=List.mem_attach _ _
def FlatR (N:Nd) (lv s:Nat) (R:Bool) (s':Nat):Prop :=
 s<=s'/\s'+1<=s+siz N/\(R=true->s'<=16384->s'+1=s+siz N/\lv+dep N<=61)/\(R=false->61<lv+dep N)
def FlatOut (N:Nd) (lv s Bz m:Nat) (w0 w:World) (e:Ending) (w':World):Prop :=
 ∃ R s',e=.returned (.bool R)/\But w.heap.size (fun k=>k=Bz∨k=m) w w'/\Boxed w' Bz 3 (.int .i64 ((s':Nat):Int))/\PMap w0 w' m/\FlatR N lv s R s'
structure FlatV (w0 w:World) (Bz Bm Bf m s:Nat):Prop where
 bz:Boxed w Bz 3 (.int .i64 (s:Int))
 bm:Boxed w Bm 113 (.map (some m))
 bf:Boxed w Bf 114 (.func (.func 66) #[] #[.pointer (some ⟨Bz,0,none⟩),.pointer (some ⟨Bm,0,none⟩),.pointer (some ⟨Bf,0,none⟩)])
 pm:PMap w0 w m
structure FlatD (w0:World) (Bz Bm Bf m:Nat):Prop where
 z:w0.heap.size<=Bz
 m0:w0.heap.size<=m
 zm:Bz≠Bm
 zf:Bz≠Bf
 zz:Bz≠m
 mm:Bm≠m
 fm:Bf≠m
def FlatSpec (r:Nat):Prop:=∀ (N:Nd) (b off Bz Bm Bf m s lv:Nat) (w0 w:World),rkN N<r->NdM w0 b off N->w0.frozen? ⟨b,off,none⟩=false->Below w0.heap.size w0 w->FlatD w0 Bz Bm Bf m->FlatV w0 w Bz Bm Bf m s ->
 siz N<=4000000->s<=(lv+1)*17000000000000->lv<=61 ->
 Calls Tryz.prog 66 #[.pointer (some ⟨b,off,none⟩),.int .i64 (lv:Int),.pointer (some ⟨Bz,0,none⟩),.pointer (some ⟨Bm,0,none⟩),.pointer (some ⟨Bf,0,none⟩)] w (FlatOut N lv s Bz m w0 w)
theorem flat_step (r:Nat) (ih:FlatSpec r):FlatSpec (r+1):=by
 intro N b off Bz Bm Bf m s lv w0 w hr hN hF hB D V hs hsl hlv
 unfold FlatSpec at ih
 obtain ⟨ka,kc,kb,ko,ba,bcc,bb,bo,hO⟩:=hN.old
 have sN:=siz_inn kb ko bb bo N
 have dN:=dep_pos N
 have pN:=siz_pos N
 obtain ⟨bz,bm,bf,pm⟩:=V
 have zl:=bz.lt
 have ml:=bm.lt
 have fl:=bf.lt
 have pl:=pm.lt
 have hle:=hB.size
 have f1:Fence.wide.fn 67:=trivial
 have f2:Fence.wide.fn 90:=trivial
 have f3:Fence.wide.fn 66:=trivial
 obtain ⟨wE,hE⟩:∃ wE,(w.alloc (.cells #[.int .i64 (lv:Int)] 3)).alloc (.cells #[.bool false] 4)=wE:=⟨_,rfl⟩
 have sE:wE.heap.size=w.heap.size+2:=by rw [<- hE];simp
 have eB:But w.heap.size (fun k=>k=Bz∨k=m) w wE:=by rw [<- hE];exact ((But.refl _ _ _).alloc (Nat.le_refl _) _).alloc (by simp) _
 have eL:Boxed wE w.heap.size 3 (.int .i64 (lv:Int)):=by rw [<- hE];exact (Boxed.new _ _ _).alloc _
 have eR:Boxed wE (w.heap.size+1) 4 (.bool false):=by rw [<- hE];have:=Boxed.new (w.alloc (.cells #[.int .i64 (lv:Int)] 3)) 4 (.bool false);rwa [World.size_alloc] at this
 have eZ:Boxed wE Bz 3 (.int .i64 (s:Int)):=by rw [<- hE];exact (bz.alloc _).alloc _
 have eM:Boxed wE Bm 113 (.map (some m)):=by rw [<- hE];exact (bm.alloc _).alloc _
 have eP:PMap w0 wE m:=by rw [<- hE];exact pm.kept ((Below.heap_alloc _ _ _ (by simp;omega)).trans (Below.heap_alloc _ _ _ pl))
 have hBE:Below w0.heap.size w0 wE:=hB.trans (eB.below hle (fun k e=>e.elim (fun e=>by subst e;exact D.z) (fun e=>by subst e;exact D.m0)))
 have cL:=eL.cell
 have cZ:=eZ.cell
 have cM:=eM.cell
 have cR:=eR.cell
 have gR:=eR.frozen
 obtain ⟨v0,hv0⟩:∃ v0,w0.cell? ⟨b,off,none⟩=some v0:=by
  obtain ⟨cs,h1,h2⟩:=hN
  exact ⟨_,by have:=h1 0 h2.pos;simpa using this⟩
 refine (callsIn_wide (n:=9)).1 ?_
 by_cases h61:60<lv
 ·have h61':(60:Int) <(lv:Int):=by omega
  refine callsIn_of_wp_marks Tryz.func66 rfl trivial ?_ rfl
  simp only [Tryz.ntmps66,List.size_toArray,List.length_cons,List.length_nil,Nat.reduceAdd,Nat.reduceSub,Array.replicate_succ,Array.replicate_zero,List.push_toArray,List.append_toArray,List.nil_append,List.cons_append]
  gi_wp2
  have cR':=(eR.set (.bool false)).cell
  exact ⟨.bool false,by simp [results,Tryz.results66,go_sem,cR'],false,s,rfl,eB.other (by simp) (by omega) _,eZ.other (by omega) _,eP.set (by omega) _,Nat.le_refl _,by omega,(fun h=>by cases h),fun _=>by omega⟩
 ·have h61':¬ (60:Int) <(lv:Int):=by omega
  by_cases hsm:16384<s
  ·have hsm':(16384:Int) <(s:Int):=by omega
   obtain ⟨l,k,hrun⟩:=eP.look hBE hv0 hF
   have hrun':(Instr.lookup 113 (.map (some m)) (.pointer (some ⟨b,off,none⟩)) false).run Tryz.prog ((w.alloc (.cells #[.int .i64 (lv:Int)] 3)).alloc (.cells #[.bool false] 4))=.ok (.int .i64 l) (((w.alloc (.cells #[.int .i64 (lv:Int)] 3)).alloc (.cells #[.bool false] 4)).drewN k):=by rw [hE];exact hrun
   by_cases hlk:(lv:Int)<=l
   ·refine callsIn_of_wp_marks Tryz.func66 rfl trivial ?_ rfl
    simp only [Tryz.ntmps66,List.size_toArray,List.length_cons,List.length_nil,Nat.reduceAdd,Nat.reduceSub,Array.replicate_succ,Array.replicate_zero,List.push_toArray,List.append_toArray,List.nil_append,List.cons_append]
    gi_wp2
    have eR2:Boxed (wE.drewN k) (w.heap.size+1) 4 (.bool false):=eR
    have cR':=(eR2.set (.bool true)).cell
    have eB2:But w.heap.size (fun k=>k=Bz∨k=m) w (wE.drewN k):=⟨eB.os,eB.tape,eB.output,eB.size,eB.block⟩
    have eZ2:Boxed (wE.drewN k) Bz 3 (.int .i64 (s:Int)):=eZ
    have eP2:PMap w0 (wE.drewN k) m:=eP.kept rfl
    exact ⟨.bool true,by simp [results,Tryz.results66,go_sem,cR'],true,s,rfl,eB2.other (by simp) (by simp;omega) _,eZ2.other (by omega) _,eP2.set (by omega) _,Nat.le_refl _,by omega,(fun _ h=>by omega),fun h=>by cases h⟩
   ·have eP2:PMap w0 (wE.drewN k) m:=eP.kept rfl
    obtain ⟨wS,hst,pS,gS,qS⟩:=eP2.store (below_drewN hBE k) hv0 hF (lv:Int)
    have hml:some m≠some w.heap.size:=fun e=>by cases e;omega
    refine callsIn_of_wp_marks Tryz.func66 rfl trivial ?_ rfl
    simp only [Tryz.ntmps66,List.size_toArray,List.length_cons,List.length_nil,Nat.reduceAdd,Nat.reduceSub,Array.replicate_succ,Array.replicate_zero,List.push_toArray,List.append_toArray,List.nil_append,List.cons_append]
    gi_wp2_with (gi_at_call 67;refine (within_in Fence.wide _ trivial rfl _ _).mono ?_;rintro e w' ⟨rfl,rfl⟩)
    have eB2:But w.heap.size (fun k=>k=Bz∨k=m) w wS:=eB.trans ⟨gS.os,gS.tape,gS.output,gS.size,fun i hi hn=>gS.block i (by simp;omega) (fun e=>hn (.inr (by cases e;rfl)))⟩
    have eZ2:Boxed wS Bz 3 (.int .i64 (s:Int)):=Boxed.kept (W:=wE.drewN k) eZ gS (fun e=>D.zz (by cases e;rfl))
    have eL2:Boxed wS w.heap.size 3 (.int .i64 (lv:Int)):=Boxed.kept (W:=wE.drewN k) eL gS (fun e=>by cases e;omega)
    have eR2:Boxed wS (w.heap.size+1) 4 (.bool false):=Boxed.kept (W:=wE.drewN k) eR gS (fun e=>by cases e;omega)
    have sE2:wS.heap.size=w.heap.size+2:=qS.trans sE
    clear eB eZ eL eR eP eM hBE cL cZ cM cR gR hE hrun hrun' hst eP2 gS sE qS
    obtain ⟨wE,rfl⟩:∃ wE,wE=wS:=⟨_,rfl⟩
    have eB:=eB2;have eZ:=eZ2;have eL:=eL2;have eR:=eR2;have eP:=pS;have sE:=sE2
    clear eB2 eZ2 eL2 eR2 pS sE2
    have hszE:wE.heap.size=w.heap.size+2:=sE
    obtain ⟨W0,hW0⟩:∃ W0,wE.alloc (.cells #[.pointer (some ⟨b,off,none⟩)] 92)=W0:=⟨_,rfl⟩
    have hsz:W0.heap.size=w.heap.size+3:=by rw [<- hW0];simp [hszE]
    have bN:=Boxed.new wE 92 (.pointer (some ⟨b,off,none⟩))
    have B0:=eB.alloc (by omega) (.cells #[.pointer (some ⟨b,off,none⟩)] 92)
    have z0:=eZ.alloc (.cells #[.pointer (some ⟨b,off,none⟩)] 92)
    have l0:=eL.alloc (.cells #[.pointer (some ⟨b,off,none⟩)] 92)
    have r0:=eR.alloc (.cells #[.pointer (some ⟨b,off,none⟩)] 92)
    have p0:=eP.kept (w':=wE.alloc (.cells #[.pointer (some ⟨b,off,none⟩)] 92)) (Below.heap_alloc _ _ _ (by omega))
    rw [hszE] at bN
    rw [hW0]
    rw [hW0] at bN B0 z0 l0 r0 p0
    clear hW0 eB eZ eL eR eP hszE
    have hBW0:Below w0.heap.size w0 W0:=hB.trans (B0.below hle (fun k e=>e.elim (fun e=>by subst e;exact D.z) (fun e=>by subst e;exact D.m0)))
    have hdz:∀ k,(k=Bz∨k=m∨k=w.heap.size+1)->w0.heap.size<=k:=fun k e=>e.elim (fun e=>by subst e;exact D.z) (fun e=>e.elim (fun e=>by subst e;exact D.m0) (fun e=>by omega))
    have dzz:=D.zz
    have dzm:=D.zm
    have dzf:=D.zf
    have dmm:=D.mm
    have dfm:=D.fm
    have bmW:=B0.boxed bm (fun e=>e.elim (fun e=>dzm e.symm) dmm) ml
    have bfW:=B0.boxed bf (fun e=>e.elim (fun e=>dzf e.symm) dfm) fl
    refine wpIn_rangeFunc_ownG rfl (by decide) (gf:=90) (lb:=#[.pointer (some ⟨w.heap.size+2,0,none⟩)]) rfl f2 (enters_of Tryz.func90 (by kernel_rfl) rfl)
     (within_stops Fence.wide 8 f2 rfl (by decide) (w.heap.size+2) (w.heap.size+3) (fun k=>k=Bz∨k=m∨k=w.heap.size+1) w0 b off N ka kc kb ko ba bcc bb bo hO hdz (by omega) (by omega) (by omega) W0 hBW0 (by omega) bN.cell)
     (fun h k=>h.trans k) (fun W l o o' hl h _ _=>But.put W l o o' (by omega) h) (Below.refl _ _) (fun _=>rfl)
     (fun pre W=>∃ sp,FI w0 W0 (w.heap.size+3) Bz m (w.heap.size+1) sp W/\FlatP N lv s sp pre)
     (fun c pre W=>∃ sp,(FI w0 W0 (w.heap.size+3) Bz m (w.heap.size+1) sp W/\Boxed W (w.heap.size+1) 4 (.bool false))/\(c=.ret/\s<=sp/\61<lv+dep N/\∃ (pre':List (InAt (inn kb ko bb bo N))) (x:InAt (inn kb ko bb bo N)),pre=pre'++[x]/\sp<=s+sumX siz pre'+siz x.1.2))
     (ownFrom_ex fun sp=>OwnFrom.and (FI.own (by omega) (by omega) (by omega)) (ownFrom_pure _ _))
     (fun c=>ownFrom_ex fun sp=>OwnFrom.and (OwnFrom.and (FI.own (by omega) (by omega) (by omega)) (Own.from (boxed_own _ _ (fun _:List (InAt (inn kb ko bb bo N))=>Value.bool false)) _)) (ownFrom_pure _ _))
     ⟨s,⟨z0,p0,⟨_,r0⟩,But.refl _ _ _⟩,by omega,by rw [sumX_nil];omega,fun _=>⟨by rw [sumX_nil];omega,fun x hx=>by cases hx⟩⟩
     (fun x=>{ tmps:=#[.pointer (some ⟨b,off,none⟩),.int .i64 (lv:Int),.pointer (some ⟨Bz,0,none⟩),.pointer (some ⟨Bm,0,none⟩),.pointer (some ⟨Bf,0,none⟩),undef,.pointer (some ⟨w.heap.size,0,none⟩),.pointer (some ⟨w.heap.size+1,0,none⟩),.pointer (some ⟨x.1.1.1,x.1.1.2,none⟩),.int .i64 (lv:Int),.bool false,.int .i64 (s:Int),.bool true,.map (some m),.pointer (some ⟨b,off,none⟩),.int .i64 l,.int .i64 (lv:Int),.bool false,.map (some m),.pointer (some ⟨b,off,none⟩),.int .i64 (lv:Int),.pointer (some ⟨b,off,none⟩),.func (.func 90) #[] #[.pointer (some ⟨w.heap.size+2,0,none⟩)],.pointer (some ⟨x.1.1.1,x.1.1.2,none⟩),undef,undef,undef,undef,undef,undef,undef,undef],defers:=[] }) ?assign ?body ?done ?stop
    case assign =>
     intro l x W K hK
     unfold inPtr
     gi_wp2
     exact hK
    case body =>
     rintro l pre x W ⟨sp,⟨bW,pW,⟨rq,rW⟩,BW⟩,q1,q2,q3⟩ hlt
     have hx:=inn_mem hO x.2
     have cW:=bW.cell
     have gW:=bW.frozen
     have lW:=(BW.boxed l0 (fun e=>by rcases e with e | e | e <;> omega) (by omega)).cell
     have fW:=BW.boxed bfW (fun e=>e.elim (fun e=>dzf e.symm) (fun e=>e.elim dfm (fun e=>by omega))) (by omega)
     have mW:=BW.boxed bmW (fun e=>e.elim (fun e=>dzm e.symm) (fun e=>e.elim dmm (fun e=>by omega))) (by omega)
     have cf:=fW.cell
     have isz:=inn_siz kb ko bb bo N
     have hsm2:=sumX_small (fun y hy=>by have:=isz.1 y hy;omega) (n:=siz N) pre
     have hmul:pre.length*siz N<=4000000*4000000:=Nat.mul_le_mul (by omega) (by omega)
     have hspb:sp+1<=(lv+1+1)*17000000000000:=by omega
     have hspc:(sp:Int)<=2000000000000000:=by omega
     clear hmul hsm2
     have hx1:=isz.1 x.1 x.2
     have z1:=bW.set (.int .i64 ((sp:Int)+1))
     have zz:=But.set (But.refl W.heap.size (fun k=>k=Bz∨k=m) W) (p:=⟨Bz,0,none⟩) (.inl rfl) (.int .i64 ((sp:Int)+1))
     have sW:=BW.size
     have sWS:(W.setCell ⟨Bz,0,none⟩ (.int .i64 ((sp:Int)+1))).heap.size=W.heap.size:=by simp
     have V1:FlatV w0 (W.setCell ⟨Bz,0,none⟩ (.int .i64 ((sp:Int)+1))) Bz Bm Bf m (sp+1):=⟨by exact_mod_cast z1,mW.other (fun e=>dzm e.symm) _,fW.other (fun e=>dzf e.symm) _,pW.set (fun e=>dzz e.symm) _⟩
     have hBW:=hBW0.trans (BW.below (by omega) hdz)
     have hBW1:=hBW.trans (zz.below (by omega) (fun k e=>e.elim (fun e=>by subst e;exact D.z) (fun e=>by subst e;exact D.m0)))
     have IH:=ih x.1.2 x.1.1.1 x.1.1.2 Bz Bm Bf m (sp+1) (lv+1) w0 _ (by have:=hx.rk;omega) hx.at_ hx.soft hBW1 D V1 (by omega) hspb (by omega)
     rw [show ((lv+1:Nat):Int) =(lv:Int)+1 by omega] at IH
     have hdx:=hx.dp
     have hlvc:(lv:Int)<=60:=by omega
     have HQ:Hid (FlatP N lv s sp pre):=⟨q1,q2,q3⟩
     clear q1 q2 q3 V1
     gi_wp2_with (gi_at_call 66;refine (CallsIn.inRound l (callsIn_wide.2 IH)).mono ?_;rintro e w3 ⟨R,s3,rfl,B3,b3,p3,g1,g2,g3,g4⟩;rw [sWS] at B3;(have B4:=zz.trans B3);(have r4:=(B4.boxed rW (fun e=>e.elim (fun e=>by omega) (fun e=>by omega)) (by omega)));(have r5:=r4.cell);(have r6:=r4.frozen);(cases R))
     ·have r7:=r4.set (.bool false)
      have B5:But W.heap.size (fun k=>k=Bz∨k=m∨k=w.heap.size+1) W (w3.setCell ⟨w.heap.size+1,0,none⟩ (.bool false)):=(B4.more (fun k e=>e.elim .inl (fun e=>.inr (.inl e)))).set (p:=⟨w.heap.size+1,0,none⟩) (.inr (.inr rfl)) _
      obtain ⟨q1,q2,q3⟩:=HQ.out
      exact ⟨B5.keeps (fun k e=>by omega) (Nat.le_refl _),s3,⟨⟨b3.other (by omega) _,p3.set (by omega) _,⟨_,r7⟩,BW.trans (B5.mono (by omega))⟩,r7⟩,rfl,by omega,by have:=g4 trivial;omega,pre,x,rfl,by omega⟩
     ·have B5:But W.heap.size (fun k=>k=Bz∨k=m∨k=w.heap.size+1) W w3:=B4.more (fun k e=>e.elim .inl (fun e=>.inr (.inl e)))
      obtain ⟨q1,q2,q3⟩:=HQ.out
      refine ⟨B5.keeps (fun k e=>by omega) (Nat.le_refl _),B5.mono (by omega),s3,⟨b3,p3,⟨_,r4⟩,BW.trans (B5.mono (by omega))⟩,by omega,by rw [sumX_snoc];omega,fun h=>?_⟩
      obtain ⟨a1,a2⟩:=g3 trivial h
      obtain ⟨c1,c2⟩:=q3 (by omega)
      refine ⟨by rw [sumX_snoc];omega,fun y hy=>?_⟩
      rw [List.mem_append,List.mem_singleton] at hy
      rcases hy with hy | rfl
      ·exact c2 y hy
      ·exact a2
    case done =>
     rintro D' ys W hD rfl ⟨sp,⟨bW,pW,⟨rq,rW⟩,BW⟩,q1,q2,q3⟩ hK
     have cR:=rW.cell
     have gR:=rW.frozen
     rw [sumX_all] at q2 q3
     have HQ:Hid (s<=sp/\sp+1<=s+siz N/\(sp<=16384->sp+1=s+siz N/\lv+dep N<=61)):=by
      refine ⟨q1,by omega,fun h=>?_⟩
      obtain ⟨a1,a2⟩:=q3 h
      have:=dep_inn (kb:=kb) (ko:=ko) (bb:=bb) (bo:=bo) (N:=N) (d:=60 - lv) (fun y hy=>by have:=a2 ⟨y,hy⟩ (mem_all _);simp only at this;omega)
      omega
     clear q1 q2 q3
     gi_wp2
     have hK2:(W.setCell ⟨w.heap.size+1,0,none⟩ (.bool true)).heap[D']?=some (.deferred (some [])):=(Below.heap_setCell _ _ _ _ (show D'≠w.heap.size+1 by omega)).trans hK
     have r7:=(rW.set (.bool true)).kept (grownBy_putObj' _ D' (.deferred none)) (fun e=>by cases e;omega)
     have c7:=r7.cell
     refine ⟨by simp,.inl ⟨_,_,rfl,run_takeDeferred hK2,?_⟩⟩
     obtain ⟨q1,q2,q3⟩:=HQ.out
     have B5:But w.heap.size (fun k=>k=Bz∨k=m) w (W.setCell ⟨w.heap.size+1,0,none⟩ (.bool true)):=by
      have h1:But w.heap.size (fun k=>k=Bz∨k=m) W0 W:=⟨BW.os,BW.tape,BW.output,BW.size,fun k hk hs=>BW.block k (by omega) (fun e=>e.elim (fun e=>hs (.inl e)) (fun e=>e.elim (fun e=>hs (.inr e)) (fun e=>by omega)))⟩
      have h2:=BW.size
      exact (B0.trans h1).other (by simp) (by omega) _
     exact ⟨.bool true,by simp [results,Tryz.results66,go_sem,c7],true,sp,rfl,B5.trans (But.put _ D' _ _ (by omega) hK2),(bW.other (by omega) _).kept (grownBy_putObj' _ D' _) (fun e=>by cases e;omega),(pW.set (by omega) _).kept (World.putObj_heap_other (by omega)),q1,q2,fun _=>q3,fun h=>by cases h⟩
    case stop =>
     rintro D' c pre W hD hp ⟨sp,⟨⟨bW,pW,-,BW⟩,rW⟩,rfl,q1,q2,pre',x,rfl,q3⟩ hK
     have h1:=sumX_pre siz hp
     rw [sumX_all,sumX_snoc] at h1
     have r7:=rW.kept (grownBy_putObj' _ D' (.deferred none)) (fun e=>by cases e;omega)
     have c7:=r7.cell
     have B5:But w.heap.size (fun k=>k=Bz∨k=m) w W:=by
      have h1:But w.heap.size (fun k=>k=Bz∨k=m) W0 W:=⟨BW.os,BW.tape,BW.output,BW.size,fun k hk hs=>BW.block k (by omega) (fun e=>e.elim (fun e=>hs (.inl e)) (fun e=>e.elim (fun e=>hs (.inr e)) (fun e=>by omega)))⟩
      exact B0.trans h1
     gi_wp2
     refine ⟨by simp,.inl ⟨_,_,rfl,run_takeDeferred hK,?_⟩⟩
     exact ⟨.bool false,by simp [results,Tryz.results66,go_sem,c7],false,sp,rfl,B5.trans (But.put _ D' _ _ (by omega) hK),bW.kept (grownBy_putObj' _ D' _) (fun e=>by cases e;omega),pW.kept (World.putObj_heap_other (by omega)),q1,by omega,(fun h=>by cases h),fun _=>q2⟩
  ·have hsm':¬ (16384:Int) <(s:Int):=by omega
   refine callsIn_of_wp_marks Tryz.func66 rfl trivial ?_ rfl
   simp only [Tryz.ntmps66,List.size_toArray,List.length_cons,List.length_nil,Nat.reduceAdd,Nat.reduceSub,Array.replicate_succ,Array.replicate_zero,List.push_toArray,List.append_toArray,List.nil_append,List.cons_append]
   gi_wp2_with (gi_at_call 67;refine (within_in Fence.wide _ trivial rfl _ _).mono ?_;rintro e w' ⟨rfl,rfl⟩)
   clear hE eM hBE cL cZ cM cR gR
   have hszE:wE.heap.size=w.heap.size+2:=sE
   obtain ⟨W0,hW0⟩:∃ W0,wE.alloc (.cells #[.pointer (some ⟨b,off,none⟩)] 92)=W0:=⟨_,rfl⟩
   have hsz:W0.heap.size=w.heap.size+3:=by rw [<- hW0];simp [hszE]
   have bN:=Boxed.new wE 92 (.pointer (some ⟨b,off,none⟩))
   have B0:=eB.alloc (by omega) (.cells #[.pointer (some ⟨b,off,none⟩)] 92)
   have z0:=eZ.alloc (.cells #[.pointer (some ⟨b,off,none⟩)] 92)
   have l0:=eL.alloc (.cells #[.pointer (some ⟨b,off,none⟩)] 92)
   have r0:=eR.alloc (.cells #[.pointer (some ⟨b,off,none⟩)] 92)
   have p0:=eP.kept (w':=wE.alloc (.cells #[.pointer (some ⟨b,off,none⟩)] 92)) (Below.heap_alloc _ _ _ (by omega))
   rw [hszE] at bN
   rw [hW0]
   rw [hW0] at bN B0 z0 l0 r0 p0
   clear hW0 eB eZ eL eR eP hszE
   have hBW0:Below w0.heap.size w0 W0:=hB.trans (B0.below hle (fun k e=>e.elim (fun e=>by subst e;exact D.z) (fun e=>by subst e;exact D.m0)))
   have hdz:∀ k,(k=Bz∨k=m∨k=w.heap.size+1)->w0.heap.size<=k:=fun k e=>e.elim (fun e=>by subst e;exact D.z) (fun e=>e.elim (fun e=>by subst e;exact D.m0) (fun e=>by omega))
   have dzz:=D.zz
   have dzm:=D.zm
   have dzf:=D.zf
   have dmm:=D.mm
   have dfm:=D.fm
   have bmW:=B0.boxed bm (fun e=>e.elim (fun e=>dzm e.symm) dmm) ml
   have bfW:=B0.boxed bf (fun e=>e.elim (fun e=>dzf e.symm) dfm) fl
   refine wpIn_rangeFunc_ownG rfl (by decide) (gf:=90) (lb:=#[.pointer (some ⟨w.heap.size+1+1,0,none⟩)]) rfl f2 (enters_of Tryz.func90 (by kernel_rfl) rfl)
    (within_stops Fence.wide 8 f2 rfl (by decide) (w.heap.size+1+1) (w.heap.size+3) (fun k=>k=Bz∨k=m∨k=w.heap.size+1) w0 b off N ka kc kb ko ba bcc bb bo hO hdz (by omega) (by omega) (by omega) W0 hBW0 (by omega) bN.cell)
    (fun h k=>h.trans k) (fun W l o o' hl h _ _=>But.put W l o o' (by omega) h) (Below.refl _ _) (fun _=>rfl)
    (fun pre W=>∃ sp,FI w0 W0 (w.heap.size+3) Bz m (w.heap.size+1) sp W/\FlatP N lv s sp pre)
    (fun c pre W=>∃ sp,(FI w0 W0 (w.heap.size+3) Bz m (w.heap.size+1) sp W/\Boxed W (w.heap.size+1) 4 (.bool false))/\(c=.ret/\s<=sp/\61<lv+dep N/\∃ (pre':List (InAt (inn kb ko bb bo N))) (x:InAt (inn kb ko bb bo N)),pre=pre'++[x]/\sp<=s+sumX siz pre'+siz x.1.2))
    (ownFrom_ex fun sp=>OwnFrom.and (FI.own (by omega) (by omega) (by omega)) (ownFrom_pure _ _))
    (fun c=>ownFrom_ex fun sp=>OwnFrom.and (OwnFrom.and (FI.own (by omega) (by omega) (by omega)) (Own.from (boxed_own _ _ (fun _:List (InAt (inn kb ko bb bo N))=>Value.bool false)) _)) (ownFrom_pure _ _))
    ⟨s,⟨z0,p0,⟨_,r0⟩,But.refl _ _ _⟩,by omega,by rw [sumX_nil];omega,fun _=>⟨by rw [sumX_nil];omega,fun x hx=>by cases hx⟩⟩
    (fun x=>{ tmps:=#[.pointer (some ⟨b,off,none⟩),.int .i64 (lv:Int),.pointer (some ⟨Bz,0,none⟩),.pointer (some ⟨Bm,0,none⟩),.pointer (some ⟨Bf,0,none⟩),undef,.pointer (some ⟨w.heap.size,0,none⟩),.pointer (some ⟨w.heap.size+1,0,none⟩),.pointer (some ⟨x.1.1.1,x.1.1.2,none⟩),.int .i64 (lv:Int),.bool false,.int .i64 (s:Int),.bool false,undef,undef,undef,undef,undef,undef,undef,undef,.pointer (some ⟨b,off,none⟩),.func (.func 90) #[] #[.pointer (some ⟨w.heap.size+1+1,0,none⟩)],.pointer (some ⟨x.1.1.1,x.1.1.2,none⟩),undef,undef,undef,undef,undef,undef,undef,undef],defers:=[] }) ?assign ?body ?done ?stop
   case assign =>
    intro l x W K hK
    unfold inPtr
    gi_wp2
    exact hK
   case body =>
    rintro l pre x W ⟨sp,⟨bW,pW,⟨rq,rW⟩,BW⟩,q1,q2,q3⟩ hlt
    have hx:=inn_mem hO x.2
    have cW:=bW.cell
    have gW:=bW.frozen
    have lW:=(BW.boxed l0 (fun e=>by rcases e with e | e | e <;> omega) (by omega)).cell
    have fW:=BW.boxed bfW (fun e=>e.elim (fun e=>dzf e.symm) (fun e=>e.elim dfm (fun e=>by omega))) (by omega)
    have mW:=BW.boxed bmW (fun e=>e.elim (fun e=>dzm e.symm) (fun e=>e.elim dmm (fun e=>by omega))) (by omega)
    have cf:=fW.cell
    have isz:=inn_siz kb ko bb bo N
    have hsm2:=sumX_small (fun y hy=>by have:=isz.1 y hy;omega) (n:=siz N) pre
    have hmul:pre.length*siz N<=4000000*4000000:=Nat.mul_le_mul (by omega) (by omega)
    have hspb:sp+1<=(lv+1+1)*17000000000000:=by omega
    have hspc:(sp:Int)<=2000000000000000:=by omega
    clear hmul hsm2
    have hx1:=isz.1 x.1 x.2
    have z1:=bW.set (.int .i64 ((sp:Int)+1))
    have zz:=But.set (But.refl W.heap.size (fun k=>k=Bz∨k=m) W) (p:=⟨Bz,0,none⟩) (.inl rfl) (.int .i64 ((sp:Int)+1))
    have sW:=BW.size
    have sWS:(W.setCell ⟨Bz,0,none⟩ (.int .i64 ((sp:Int)+1))).heap.size=W.heap.size:=by simp
    have V1:FlatV w0 (W.setCell ⟨Bz,0,none⟩ (.int .i64 ((sp:Int)+1))) Bz Bm Bf m (sp+1):=⟨by exact_mod_cast z1,mW.other (fun e=>dzm e.symm) _,fW.other (fun e=>dzf e.symm) _,pW.set (fun e=>dzz e.symm) _⟩
    have hBW:=hBW0.trans (BW.below (by omega) hdz)
    have hBW1:=hBW.trans (zz.below (by omega) (fun k e=>e.elim (fun e=>by subst e;exact D.z) (fun e=>by subst e;exact D.m0)))
    have IH:=ih x.1.2 x.1.1.1 x.1.1.2 Bz Bm Bf m (sp+1) (lv+1) w0 _ (by have:=hx.rk;omega) hx.at_ hx.soft hBW1 D V1 (by omega) hspb (by omega)
    rw [show ((lv+1:Nat):Int) =(lv:Int)+1 by omega] at IH
    have hdx:=hx.dp
    have hlvc:(lv:Int)<=60:=by omega
    have HQ:Hid (FlatP N lv s sp pre):=⟨q1,q2,q3⟩
    clear q1 q2 q3 V1
    gi_wp2_with (gi_at_call 66;refine (CallsIn.inRound l (callsIn_wide.2 IH)).mono ?_;rintro e w3 ⟨R,s3,rfl,B3,b3,p3,g1,g2,g3,g4⟩;rw [sWS] at B3;(have B4:=zz.trans B3);(have r4:=(B4.boxed rW (fun e=>e.elim (fun e=>by omega) (fun e=>by omega)) (by omega)));(have r5:=r4.cell);(have r6:=r4.frozen);(cases R))
    ·have r7:=r4.set (.bool false)
     have B5:But W.heap.size (fun k=>k=Bz∨k=m∨k=w.heap.size+1) W (w3.setCell ⟨w.heap.size+1,0,none⟩ (.bool false)):=(B4.more (fun k e=>e.elim .inl (fun e=>.inr (.inl e)))).set (p:=⟨w.heap.size+1,0,none⟩) (.inr (.inr rfl)) _
     obtain ⟨q1,q2,q3⟩:=HQ.out
     exact ⟨B5.keeps (fun k e=>by omega) (Nat.le_refl _),s3,⟨⟨b3.other (by omega) _,p3.set (by omega) _,⟨_,r7⟩,BW.trans (B5.mono (by omega))⟩,r7⟩,rfl,by omega,by have:=g4 trivial;omega,pre,x,rfl,by omega⟩
    ·have B5:But W.heap.size (fun k=>k=Bz∨k=m∨k=w.heap.size+1) W w3:=B4.more (fun k e=>e.elim .inl (fun e=>.inr (.inl e)))
     obtain ⟨q1,q2,q3⟩:=HQ.out
     refine ⟨B5.keeps (fun k e=>by omega) (Nat.le_refl _),B5.mono (by omega),s3,⟨b3,p3,⟨_,r4⟩,BW.trans (B5.mono (by omega))⟩,by omega,by rw [sumX_snoc];omega,fun h=>?_⟩
     obtain ⟨a1,a2⟩:=g3 trivial h
     obtain ⟨c1,c2⟩:=q3 (by omega)
     refine ⟨by rw [sumX_snoc];omega,fun y hy=>?_⟩
     rw [List.mem_append,List.mem_singleton] at hy
     rcases hy with hy | rfl
     ·exact c2 y hy
     ·exact a2
   case done =>
    rintro D' ys W hD rfl ⟨sp,⟨bW,pW,⟨rq,rW⟩,BW⟩,q1,q2,q3⟩ hK
    have cR:=rW.cell
    have gR:=rW.frozen
    rw [sumX_all] at q2 q3
    have HQ:Hid (s<=sp/\sp+1<=s+siz N/\(sp<=16384->sp+1=s+siz N/\lv+dep N<=61)):=by
     refine ⟨q1,by omega,fun h=>?_⟩
     obtain ⟨a1,a2⟩:=q3 h
     have:=dep_inn (kb:=kb) (ko:=ko) (bb:=bb) (bo:=bo) (N:=N) (d:=60 - lv) (fun y hy=>by have:=a2 ⟨y,hy⟩ (mem_all _);simp only at this;omega)
     omega
    clear q1 q2 q3
    gi_wp2
    have hK2:(W.setCell ⟨w.heap.size+1,0,none⟩ (.bool true)).heap[D']?=some (.deferred (some [])):=(Below.heap_setCell _ _ _ _ (show D'≠w.heap.size+1 by omega)).trans hK
    have r7:=(rW.set (.bool true)).kept (grownBy_putObj' _ D' (.deferred none)) (fun e=>by cases e;omega)
    have c7:=r7.cell
    refine ⟨by simp,.inl ⟨_,_,rfl,run_takeDeferred hK2,?_⟩⟩
    obtain ⟨q1,q2,q3⟩:=HQ.out
    have B5:But w.heap.size (fun k=>k=Bz∨k=m) w (W.setCell ⟨w.heap.size+1,0,none⟩ (.bool true)):=by
     have h1:But w.heap.size (fun k=>k=Bz∨k=m) W0 W:=⟨BW.os,BW.tape,BW.output,BW.size,fun k hk hs=>BW.block k (by omega) (fun e=>e.elim (fun e=>hs (.inl e)) (fun e=>e.elim (fun e=>hs (.inr e)) (fun e=>by omega)))⟩
     have h2:=BW.size
     exact (B0.trans h1).other (by simp) (by omega) _
    exact ⟨.bool true,by simp [results,Tryz.results66,go_sem,c7],true,sp,rfl,B5.trans (But.put _ D' _ _ (by omega) hK2),(bW.other (by omega) _).kept (grownBy_putObj' _ D' _) (fun e=>by cases e;omega),(pW.set (by omega) _).kept (World.putObj_heap_other (by omega)),q1,q2,fun _=>q3,fun h=>by cases h⟩
   case stop =>
    rintro D' c pre W hD hp ⟨sp,⟨⟨bW,pW,-,BW⟩,rW⟩,rfl,q1,q2,pre',x,rfl,q3⟩ hK
    have h1:=sumX_pre siz hp
    rw [sumX_all,sumX_snoc] at h1
    have r7:=rW.kept (grownBy_putObj' _ D' (.deferred none)) (fun e=>by cases e;omega)
    have c7:=r7.cell
    have B5:But w.heap.size (fun k=>k=Bz∨k=m) w W:=by
     have h1:But w.heap.size (fun k=>k=Bz∨k=m) W0 W:=⟨BW.os,BW.tape,BW.output,BW.size,fun k hk hs=>BW.block k (by omega) (fun e=>e.elim (fun e=>hs (.inl e)) (fun e=>e.elim (fun e=>hs (.inr e)) (fun e=>by omega)))⟩
     exact B0.trans h1
    gi_wp2
    refine ⟨by simp,.inl ⟨_,_,rfl,run_takeDeferred hK,?_⟩⟩
    exact ⟨.bool false,by simp [results,Tryz.results66,go_sem,c7],false,sp,rfl,B5.trans (But.put _ D' _ _ (by omega) hK),bW.kept (grownBy_putObj' _ D' _) (fun e=>by cases e;omega),pW.kept (World.putObj_heap_other (by omega)),q1,by omega,(fun h=>by cases h),fun _=>q2⟩
theorem flat_all:∀ r,FlatSpec r
 | 0=>fun _ _ _ _ _ _ _ _ _ _ _ h=>absurd h (Nat.not_lt_zero _)
 | r+1=>flat_step r (flat_all r)
def ExtR (N:Nd) (r:Int):Prop:=(siz N<=16385->r=if 61<dep N then 8 else 0)/\(dep N<=61->r=if 16385<siz N then 21 else 0)/\(r=0->siz N<=16385/\dep N<=61)
def ExtOut (N:Nd) (w:World) (e:Ending) (w':World):Prop:=∃ r:Int,e=.returned (.int .i64 r)/\ExtR N r/\Below w.heap.size w w'
theorem ext8 {N:Nd}{s:Nat}(h:FlatR N 0 0 false s):ExtR N 8:=by
 obtain ⟨g1,g2,g3,g4⟩:=h
 have:=g4 rfl
 exact ⟨fun _=>by rw [if_pos (by omega)],fun q=>by omega,fun q=>by omega⟩
theorem ext21 {N:Nd}{s:Nat}(h:FlatR N 0 0 true s) (q:16384<s):ExtR N 21:=by
 obtain ⟨g1,g2,g3,g4⟩:=h
 exact ⟨fun _=>by omega,fun _=>by rw [if_pos (by omega)],fun q=>by omega⟩
theorem ext0 {N:Nd}{s:Nat}(h:FlatR N 0 0 true s) (q:¬ 16384<s):ExtR N 0:=by
 obtain ⟨g1,g2,g3,g4⟩:=h
 obtain ⟨a,c⟩:=g3 rfl (by omega)
 exact ⟨fun _=>by rw [if_neg (by omega)],fun _=>by rw [if_neg (by omega)],fun _=>by omega⟩
theorem extP (N:Nd) (b off:Nat) (w:World) (hN:NdM w b off N) (hF:w.frozen? ⟨b,off,none⟩=false) (hs:siz N<=4000000) :
  Calls Tryz.prog 47 #[.pointer (some ⟨b,off,none⟩)] w (ExtOut N w):=by
 obtain ⟨CV,hCV⟩:∃ CV,Value.func (.func 66) #[] #[.pointer (some ⟨w.heap.size,0,none⟩),.pointer (some ⟨w.heap.size+1+1,0,none⟩),.pointer (some ⟨w.heap.size+1+1+1,0,none⟩)]=CV:=⟨_,rfl⟩
 have b1:=(((Boxed.new w 3 (.int .i64 0)).alloc (.map #[] 0)).alloc (.cells #[.map (some (w.heap.size+1))] 113)).alloc (.cells #[CV] 114)
 have m1:=PMap.new w (w.alloc (.cells #[.int .i64 0] 3))
 have b2:=(Boxed.new ((w.alloc (.cells #[.int .i64 0] 3)).alloc (.map #[] 0)) 113 (.map (some (w.heap.size+1)))).alloc (.cells #[CV] 114)
 have b3:=Boxed.new (((w.alloc (.cells #[.int .i64 0] 3)).alloc (.map #[] 0)).alloc (.cells #[.map (some (w.heap.size+1))] 113)) 114 CV
 simp only [World.size_alloc] at b2 b3 m1
 have m2:PMap w ((((w.alloc (.cells #[.int .i64 0] 3)).alloc (.map #[] 0)).alloc (.cells #[.map (some (w.heap.size+1))] 113)).alloc (.cells #[CV] 114)) (w.heap.size+1) :=
  m1.kept ((Below.heap_alloc _ _ _ (by simp)).trans (Below.heap_alloc _ _ _ (by simp)))
 have hB:Below w.heap.size w ((((w.alloc (.cells #[.int .i64 0] 3)).alloc (.map #[] 0)).alloc (.cells #[.map (some (w.heap.size+1))] 113)).alloc (.cells #[CV] 114)) :=
  ((((Below.refl _ w).alloc (Nat.le_refl _) _).alloc (by simp) _).alloc (by simp;omega) _).alloc (by simp;omega) _
 have K:=flat_all (rkN N+1) N b off w.heap.size (w.heap.size+1+1) (w.heap.size+1+1+1) (w.heap.size+1) 0 0 w _ (Nat.lt_succ_self _) hN hF hB ⟨Nat.le_refl _,by omega,by omega,by omega,by omega,by omega,by omega⟩ ⟨b1,b2,by rw [hCV];exact b3,m2⟩ hs (by omega) (by omega)
 rw [<- hCV,show ((0:Nat):Int)=0 from rfl] at K
 rw [<- hCV] at hB
 clear b1 b2 b3 m1 m2 hCV hN hF
 have hmm:=@run_makeMap Tryz.prog
 go_enter Tryz.func47,Tryz.ntmps47
 go_wp2_with (go_at_call 66;((with_reducible refine K.mono ?_);rintro e w3 ⟨R,s3,rfl,B3,b3,p3,g⟩;(have c3:=b3.cell);(have s16:16384<s3∨¬ 16384<s3:=Decidable.em _);(have t1:16384<s3->(16384:Int) <(s3:Int):=fun h=>by omega);(have t2:¬ 16384<s3->¬ (16384:Int) <(s3:Int):=fun h=>by omega);clear p3 b3;(rcases s16 with q | q);all_goals (first |(have q':=t1 q) |(have q':=t2 q));all_goals (cases R)))
 all_goals
  go_ret
  refine ⟨_,rfl,?_,hB.trans (B3.below (by simp;omega) (fun k e=>by omega))⟩
 ·exact ext8 g
 ·exact ext21 g q
 ·exact ext8 g
 ·exact ext0 g q
end Go.Proofs.YtalkinnbfglkdaaGreatDoor.Syn
namespace Go.Proofs.YtalkinnbfglkdaaGreatDoor.Syn
open Go.RowKit Go.Shelf Go.Maps Go.Proofs.YtalkinnbfglkdaaGreatDoor.Shape
set_option linter.unusedVariables false
set_option linter.unusedSimpArgs false
set_option maxRecDepth 100000
attribute [local go_sem] Oper.semAt_some
theorem mapKC:Tryz.prog.underlying 122=some (.map 39 3):=by kernel_rfl
theorem keyedKC:Keyed Tryz.prog 39:=int_keyed Tryz.underlying39
def KMap (w:World) (m n:Nat) (f:Int->Nat):Prop:=∃ D:DataW Unit,w.ownsMap Tryz.prog 39 (plainElem Tryz.prog 3) m n D/\∀ x:Int,D.atKey (.int .i64 x) (.lit (.int .i64 0))=.lit (.int .i64 (f x:Int))
theorem KMap.new (w:World):KMap (w.alloc (.map #[] 0)) w.heap.size 0 (fun _=>0):=⟨.map [],World.ownsMap_made w _ _ _,fun _=>rfl⟩
theorem KMap.lt {w:World}{m n:Nat}{f:Int->Nat}(h:KMap w m n f):m<w.heap.size:=by obtain ⟨D,h,-⟩:=h;exact h.lt
theorem KMap.kept {w w':World}{m n:Nat}{f:Int->Nat}{row:Option Nat}(h:KMap w m n f) (hg:w.grownBy w' row) (hne:some m≠row):KMap w' m n f:=by
 obtain ⟨D,h,g⟩:=h;exact ⟨D,h.kept hg hne,g⟩
theorem KMap.mono {w:World}{m n n':Nat}{f:Int->Nat}(h:KMap w m n f) (hn:n<=n'):KMap w m n' f:=by obtain ⟨D,h,g⟩:=h;exact ⟨D,h.mono hn,g⟩
theorem wf_i64 {x:Int}(h:I64 x):(Lit.int .i64 x).wf=true:=by
 obtain ⟨h1,h2⟩:=h
 have a1:IntKind.i64.min = -9223372036854775808:=by decide
 have a2:IntKind.i64.max=9223372036854775807:=by decide
 simp only [Lit.wf,a1,a2]
 simp [h1,h2]
theorem KMap.look {w:World}{m n:Nat}{f:Int->Nat}(h:KMap w m n f) {x:Int}(hx:I64 x):(Instr.lookup 122 (.map (some m)) (.int .i64 x) false).run Tryz.prog w=.ok (.int .i64 (f x:Int)) w:=by
 obtain ⟨D,h,g⟩:=h
 obtain ⟨c,hrun,hat,-⟩:=h.lookup_int keyedKC mapKC Tryz.underlying3 (zeroInt w) (keyOf_int_mk Tryz.underlying39 (wf_i64 hx))
 rw [g] at hat
 simp only [DataW.lit.injEq,Lit.int.injEq,true_and] at hat
 rw [hrun,hat]
theorem KMap.bump {w:World}{m n:Nat}{f:Int->Nat}(h:KMap w m n f) (hn:n<maxLen) {x:Int}(hx:I64 x) (hf:f x<=4611686018427387904) :
  ∃ w1,(Instr.mapUpdate 122 (.map (some m)) (.int .i64 x) (.int .i64 ((f x:Int)+1))).run Tryz.prog w=.ok () w1/\KMap w1 m (n+1) (fun y=>f y+(if (x==y)=true then 1 else 0))/\w.grownBy w1 (some m):=by
 obtain ⟨D,h,g⟩:=h
 obtain ⟨w1,hr,h1,hg⟩:=h.update keyedKC mapKC hn (keyOf_int_mk Tryz.underlying39 (wf_i64 hx)) (plainElem_int Tryz.underlying3 (a:=(f x:Int)+1) (wf_i64 ⟨by omega,by omega⟩))
 refine ⟨w1,hr,⟨_,h1,fun y=>?_⟩,hg⟩
 by_cases e:x=y
 ·subst e
  rw [atKey_put_same]
  ·simp
  ·obtain ⟨es,c,-,-,-,e⟩:=h
   exact ⟨_,e⟩
  ·exact keyedKC.key (keyOf_int_mk Tryz.underlying39 (wf_i64 hx))
 ·rw [atKey_put_other]
  ·rw [g];simp [e]
  ·intro q
   simp only [Lit.int.injEq,true_and] at q
   exact e q.symm
theorem ownFrom_kmap {β:Type}{B:Nat}{m:Nat}{n:Nat}{f:Int->Nat}(hm:m<B):OwnFrom B (fun (_:β) W=>KMap W m n f):=fun _ X Y row hs hg hr=>hs.kept hg (fun e=>by have:=(hr m e.symm).1;omega)
theorem sumX_lim (f:Nd->Nat) {L:List ((Nat × Nat) × Nd)}{n:Nat}(h:∀ y∈L,f y.2<=n):∀ (xs:List (InAt L)),sumX f xs<=xs.length*n
 | []=>by rw [sumX_nil];omega
 | x::r=>by
  have h1:=h x.1 x.2
  have h2:=sumX_lim f h r
  have h3:sumX f (x::r)=f x.1.2+sumX f r:=by unfold sumX;simp
  rw [h3,List.length_cons,Nat.add_mul];omega
theorem KMap.cong {w:World}{m n:Nat}{f g:Int->Nat}(h:KMap w m n f) (e:∀ x,f x=g x):KMap w m n g:=by rw [<- (funext e:f=g)];exact h
def capK (d:Nat):Nat:=(100 - d)*500000000
theorem capK_le (d:Nat):capK d<=50000000000:=by unfold capK;omega
theorem capK_step {d e:Nat}(h:e<d) (hd:d<=100):capK d+400000001<=capK e:=by unfold capK;omega
def KcOut (N:Nd) (m n:Nat) (f:Int->Nat) (w:World) (e:Ending) (w':World):Prop :=
 e=.returned (.tuple #[])/\But w.heap.size (·=m) w w'/\∃ n',n<=n'/\n'+1<=n+siz N/\KMap w' m n' (fun x=>f x+occ x N)
def KcSpec (r:Nat):Prop:=∀ (N:Nd) (b off Bm Bc m n:Nat) (f:Int->Nat) (w0 w:World),rkN N<r->NdM w0 b off N->Below w0.heap.size w0 w->Bm≠m->Bc≠m->w0.heap.size<=m ->
 Boxed w Bm 122 (.map (some m))->Boxed w Bc 103 (.func (.func 93) #[] #[.pointer (some ⟨Bm,0,none⟩),.pointer (some ⟨Bc,0,none⟩)])->KMap w m n f ->
 siz N<=20000->dep N<=100->n<=capK (dep N)->(∀ x,f x<=capK (dep N)) ->
 Calls Tryz.prog 93 #[.pointer (some ⟨b,off,none⟩),.pointer (some ⟨Bm,0,none⟩),.pointer (some ⟨Bc,0,none⟩)] w (KcOut N m n f w)
theorem kc_step (r:Nat) (ih:KcSpec r):KcSpec (r+1):=by
 intro N b off Bm Bc m n f w0 w hr hN hB dm dc hm bm bc km hs hd hn hf
 unfold KcSpec at ih
 obtain ⟨ka,kc,kb,ko,ba,bcc,bb,bo,hO⟩:=hN.old
 have sN:=siz_inn kb ko bb bo N
 have oN:=fun x=>occ_inn x kb ko bb bo N
 have isz:=inn_siz kb ko bb bo N
 have ml:=bm.lt
 have cl:=bc.lt
 have kl:=km.lt
 have hcap:=capK_le (dep N)
 have hle:=hB.size
 have f1:Fence.wide.fn 67:=trivial
 have f2:Fence.wide.fn 90:=trivial
 have f3:Fence.wide.fn 93:=trivial
 refine (callsIn_wide (n:=9)).1 ?_
 refine callsIn_of_wp_marks Tryz.func93 rfl trivial ?_ rfl
 simp only [Tryz.ntmps93,List.size_toArray,List.length_cons,List.length_nil,Nat.reduceAdd,Nat.reduceSub,Array.replicate_succ,Array.replicate_zero,List.push_toArray,List.append_toArray,List.nil_append,List.cons_append]
 gi_wp2_with (gi_at_call 67;refine (within_in Fence.wide _ trivial rfl _ _).mono ?_;rintro e w' ⟨rfl,rfl⟩)
 have bN:=Boxed.new w 92 (.pointer (some ⟨b,off,none⟩))
 have B0:But w.heap.size (·=m) w (w.alloc (.cells #[.pointer (some ⟨b,off,none⟩)] 92)):=(But.refl _ _ _).alloc (Nat.le_refl _) _
 have m0:=bm.alloc (.cells #[.pointer (some ⟨b,off,none⟩)] 92)
 have c0:=bc.alloc (.cells #[.pointer (some ⟨b,off,none⟩)] 92)
 have k0:KMap (w.alloc (.cells #[.pointer (some ⟨b,off,none⟩)] 92)) m n f:=km.kept (World.grownBy_alloc w _ none) (by simp)
 have hsz:(w.alloc (.cells #[.pointer (some ⟨b,off,none⟩)] 92)).heap.size=w.heap.size+1:=by simp
 obtain ⟨W0,hW0⟩:∃ W0,w.alloc (.cells #[.pointer (some ⟨b,off,none⟩)] 92)=W0:=⟨_,rfl⟩
 rw [hW0] at bN B0 m0 c0 k0 hsz ⊢
 clear hW0
 have hBW0:Below w0.heap.size w0 W0:=hB.trans (B0.below hle (fun k e=>by subst e;exact hm))
 refine wpIn_rangeFunc_ownG rfl (by decide) (gf:=90) (lb:=#[.pointer (some ⟨w.heap.size,0,none⟩)]) rfl f2 (enters_of Tryz.func90 (by kernel_rfl) rfl)
  (within_stops Fence.wide 8 f2 rfl (by decide) w.heap.size (w.heap.size+1) (·=m) w0 b off N ka kc kb ko ba bcc bb bo hO (fun k e=>by subst e;exact hm) (by omega) (by omega) (by omega) W0 hBW0 (by omega) bN.cell)
  (fun h k=>h.trans k) (fun W l o o' hl h _ _=>But.put W l o o' (by omega) h) (Below.refl _ _) (fun _=>rfl)
  (fun pre W=>∃ n',KMap W m n' (fun x=>f x+sumX (occ1 x) pre)/\But (w.heap.size+1) (·=m) W0 W/\(n<=n'/\n'<=n+sumX siz pre))
  (fun _ _ _=>False)
  (ownFrom_ex fun n'=>fun pre X Y row hs hg hr=>⟨ownFrom_kmap (β:=Unit) (by omega) () X Y row hs.1 hg hr,ownFrom_but (β:=Unit) (by omega) (by omega) () X Y row hs.2.1 hg hr,hs.2.2⟩)
  (fun _ _ _ _ _ hs _ _=>hs)
  ⟨n,by simpa [sumX_nil] using k0,But.refl _ _ _,Nat.le_refl _,by omega⟩
  (fun x=>{ tmps:=#[.pointer (some ⟨b,off,none⟩),.pointer (some ⟨Bm,0,none⟩),.pointer (some ⟨Bc,0,none⟩),undef,.pointer (some ⟨x.1.1.1,x.1.1.2,none⟩),.pointer (some ⟨b,off,none⟩),.func (.func 90) #[] #[.pointer (some ⟨w.heap.size,0,none⟩)],.pointer (some ⟨x.1.1.1,x.1.1.2,none⟩),undef,undef,undef,undef,undef,undef,undef,undef,undef,undef,undef,undef,undef,undef,undef],defers:=[] }) ?assign ?body ?done ?stop
 case assign =>
  intro l x W K hK
  unfold inPtr
  gi_wp2
  exact hK
 case body =>
  rintro l pre x W ⟨n',kW,BW,hn1,hn2⟩ hlt
  have hx:=inn_mem hO x.2
  have hBW:=hBW0.trans (BW.below (by omega) (fun k e=>by subst e;exact hm))
  have mW:=(BW.boxed m0 dm (by omega)).cell
  have cW:=BW.boxed c0 dc (by omega)
  have cc:=cW.cell
  obtain ⟨xk,-,xi,-⟩:=NdM.kcI (hx.at_.below hBW)
  have hm1:=sumX_lim siz (n:=siz N) (fun y hy=>by have:=isz.1 y hy;omega) pre
  have hm2:=fun z=>sumX_lim (occ1 z) (n:=siz N) (fun y hy=>by have:=isz.1 y hy;have:=(occ_le z (rkN y.2+1) y.2 (Nat.lt_succ_self _)).2;omega) pre
  have hmul:pre.length*siz N<=20000*20000:=Nat.mul_le_mul (by omega) (by omega)
  obtain ⟨F,hFF⟩:∃ F:Int->Nat,F =(fun x=>f x+sumX (occ1 x) pre):=⟨_,rfl⟩
  have hFb:∀ z,F z<=capK (dep N)+400000000:=fun z=>by rw [hFF];have:=hf z;have:=hm2 z;simp only;omega
  rw [<- hFF] at kW
  have hdx:=hx.dp
  have kd:KMap W.drew m n' F:=kW
  have hl:=kd.look xi
  obtain ⟨w1,hu,k1,g1⟩:=kd.bump (by unfold maxLen;omega) xi (by have:=hFb x.1.2.k;omega)
  have hFc:(F x.1.2.k:Int)<=4611686018427387904:=by have:=hFb x.1.2.k;omega
  have hwr:IntKind.i64.wrap ((F x.1.2.k:Int)+1) =(F x.1.2.k:Int)+1:=IntWalk.i64_in _ (by omega)
  have hmo:Tryz.prog.follows .mixedOrders=true:=by kernel_rfl
  have B1:But W.heap.size (·=m) W w1:=⟨g1.os,g1.tape,g1.output,g1.size,fun k hk hs=>g1.block k hk (fun e=>hs (by cases e;rfl))⟩
  have hBW1:=hBW.trans (B1.below (by have:=BW.size;omega) (fun k e=>by subst e;exact hm))
  obtain ⟨xk1,-,-,-⟩:=NdM.kcI (hx.at_.below hBW1)
  have bm1:=B1.boxed (BW.boxed m0 dm (by omega)) dm (by have:=BW.size;omega)
  have bc1:=B1.boxed (BW.boxed c0 dc (by omega)) dc (by have:=BW.size;omega)
  have cm1:=bm1.cell
  have cc1:=bc1.cell
  have sW:=BW.size
  have HN:Hid ((n<=n'/\n'<=n+sumX siz pre)/\∀ z,F z=f z+sumX (occ1 z) pre):=⟨⟨hn1,hn2⟩,fun z=>by rw [hFF]⟩
  have HB:Hid ((∀ z,F z<=capK (dep N)+400000000)/\n'+1<=capK (dep N)+400000001):=⟨hFb,by omega⟩
  clear hm1 hm2 hmul hFb hn1 hn2 hFF kd
  by_cases h10:x.1.2.k=10
  ·have k10:(x.1.2.k==10)=true:=by rw [h10];rfl
   have k10':(x.1.2.k != 10)=false:=by rw [h10];rfl
   clear h10
   gi_wp2_with fail
   gi_region_with_o (fail)
   gi_wp2_with fail
   all_goals
    obtain ⟨⟨hn1,hn2⟩,hFz⟩:=HN.out
    have hp:=siz_pos x.1.2
    exact ⟨B1.keeps (fun k e=>by subst e;omega) (Nat.le_refl _),B1.mono (by omega),n'+1,k1.cong (fun z=>by rw [hFz,sumX_snoc,occ1,if_pos k10];omega),BW.trans (B1.mono (by omega)),by omega,by rw [sumX_snoc];omega⟩
  ·have k10:(x.1.2.k==10)=false:=by simpa using h10
   have k10':(x.1.2.k != 10)=true:=by rw [bne,k10];rfl
   clear h10
   have hx1:=isz.1 x.1 x.2
   have hst:=capK_step hdx hd
   have IH:=ih x.1.2 x.1.1.1 x.1.1.2 Bm Bc m (n'+1) (fun y=>F y+(if (x.1.2.k==y)=true then 1 else 0)) w0 w1 (by have:=hx.rk;omega) hx.at_ hBW1 dm dc hm bm1 bc1 k1 (by omega) (by omega) (by have:=HB.out.2;omega) (fun z=>by show F z+(if (x.1.2.k==z)=true then 1 else 0)<=_;have:=HB.out.1 z;split <;> omega)
   gi_wp2_with fail
   gi_region_with_o (fail)
   gi_wp2_with (gi_at_call 93;refine (CallsIn.inRound l (callsIn_wide.2 IH)).mono ?_;rintro e w3 ⟨rfl,B3,n3,q1,q2,k3⟩)
   all_goals
    obtain ⟨⟨hn1,hn2⟩,hFz⟩:=HN.out
    have s1:=B1.size
    have B4:But W.heap.size (·=m) W w3:=B1.trans (B3.mono s1)
    exact ⟨B4.keeps (fun k e=>by subst e;omega) (Nat.le_refl _),B4.mono (by omega),n3,k3.cong (fun z=>by show F z+(if (x.1.2.k==z)=true then 1 else 0)+occ z x.1.2=f z+sumX (occ1 z) (pre++[x]);rw [hFz,sumX_snoc,occ1,if_neg (show ¬ (x.1.2.k==10)=true by rw [k10];decide)];omega),BW.trans (B4.mono (by omega)),by omega,by rw [sumX_snoc];omega⟩
 case done =>
  rintro D ys W hD rfl ⟨n',kW,BW,hn1,hn2⟩ hK
  have hsn:=sumX_all siz (inn kb ko bb bo N)
  gi_wp2
  refine ⟨by simp,.inl ⟨_,_,rfl,run_takeDeferred hK,?_⟩⟩
  exact ⟨_,results_none rfl _ _ _,rfl,(B0.trans (BW.mono (by omega))).trans (But.put W D _ _ (by omega) hK),n',by omega,by omega,(kW.cong (fun z=>by rw [sumX_all,<- oN z])).kept (grownBy_putObj' W D _) (fun e=>by cases e;omega)⟩
 case stop =>
  rintro D c pre W hD hp h hK
  exact h.elim
theorem kc_all:∀ r,KcSpec r
 | 0=>fun _ _ _ _ _ _ _ _ _ _ h=>absurd h (Nat.not_lt_zero _)
 | r+1=>kc_step r (kc_all r)
theorem countsP (N:Nd) (b off:Nat) (w:World) (hN:NdM w b off N) (hs:siz N<=20000) (hd:dep N<=100) :
  Calls Tryz.prog 72 #[.pointer (some ⟨b,off,none⟩)] w fun e w'=>∃ m n,e=.returned (.map (some m))/\Below w.heap.size w w'/\w.heap.size<=m/\KMap w' m n (fun x=>occ x N):=by
 obtain ⟨CV,hCV⟩:∃ CV,Value.func (.func 93) #[] #[.pointer (some ⟨w.heap.size+1,0,none⟩),.pointer (some ⟨w.heap.size+1+1,0,none⟩)]=CV:=⟨_,rfl⟩
 have k1:=((KMap.new w).kept (World.grownBy_alloc _ (.cells #[.map (some w.heap.size)] 122) none) (by simp)).kept (World.grownBy_alloc _ (.cells #[CV] 103) none) (by simp)
 have b2:=(Boxed.new (w.alloc (.map #[] 0)) 122 (.map (some w.heap.size))).alloc (.cells #[CV] 103)
 have b3:=Boxed.new ((w.alloc (.map #[] 0)).alloc (.cells #[.map (some w.heap.size)] 122)) 103 CV
 simp only [World.size_alloc] at b2 b3
 have hB:Below w.heap.size w (((w.alloc (.map #[] 0)).alloc (.cells #[.map (some w.heap.size)] 122)).alloc (.cells #[CV] 103)):=(((Below.refl _ w).alloc (Nat.le_refl _) _).alloc (by simp) _).alloc (by simp;omega) _
 have K:=kc_all (rkN N+1) N b off (w.heap.size+1) (w.heap.size+1+1) w.heap.size 0 _ w _ (Nat.lt_succ_self _) hN hB (by omega) (by omega) (Nat.le_refl _) b2 (by rw [hCV];exact b3) k1 hs hd (Nat.zero_le _) (fun _=>Nat.zero_le _)
 rw [<- hCV] at K hB
 clear b2 b3 k1 hCV hN
 have hmm:=@run_makeMap Tryz.prog
 go_enter Tryz.func72,Tryz.ntmps72
 go_wp2_with (go_at_call 93;((with_reducible refine K.mono ?_);rintro e w3 ⟨rfl,B3,n3,q1,q2,k3⟩;(have c3:=B3.cell (p:=⟨w.heap.size+1,0,none⟩) (by simp) (by simp))))
 go_ret
 exact ⟨_,_,rfl,hB.trans (B3.below (by simp;omega) (fun k e=>by omega)),Nat.le_refl _,k3.cong (fun z=>by omega)⟩
def needB (N:Nd):Bool:=decide (0<occ 6 N+occ 7 N+occ 11 N+occ 12 N+occ 13 N)
theorem needP (N:Nd) (b off:Nat) (w:World) (hN:NdM w b off N) (hs:siz N<=20000) (hd:dep N<=100) :
  Calls Tryz.prog 51 #[.pointer (some ⟨b,off,none⟩)] w fun e w'=>e=.returned (.bool (needB N))/\Below w.heap.size w w':=by
 have K:=countsP N b off w hN hs hd
 have ob:∀ x,occ x N<=20000:=fun x=>by have:=(occ_le x (rkN N+1) N (Nat.lt_succ_self _)).1;omega
 have z:∀ x:Int,0<=x->x<=100->I64 x:=fun x h1 h2=>⟨by omega,by omega⟩
 obtain ⟨r,hr⟩:∃ r,needB N=r:=⟨_,rfl⟩
 rw [hr]
 unfold needB at hr
 have HQ:Hid (decide (0<occ 6 N+occ 7 N+occ 11 N+occ 12 N+occ 13 N)=r):=hr
 clear hr
 have o1:=ob 6
 have o2:=ob 7
 have o3:=ob 11
 have o4:=ob 12
 have o5:=ob 13
 have L1:=fun (w3:World) m n (k3:KMap w3 m n (fun x=>occ x N))=>k3.look (z 6 (by decide) (by decide))
 have L2:=fun (w3:World) m n (k3:KMap w3 m n (fun x=>occ x N))=>k3.look (z 7 (by decide) (by decide))
 have L3:=fun (w3:World) m n (k3:KMap w3 m n (fun x=>occ x N))=>k3.look (z 11 (by decide) (by decide))
 have L4:=fun (w3:World) m n (k3:KMap w3 m n (fun x=>occ x N))=>k3.look (z 12 (by decide) (by decide))
 have L5:=fun (w3:World) m n (k3:KMap w3 m n (fun x=>occ x N))=>k3.look (z 13 (by decide) (by decide))
 clear ob z
 obtain ⟨a1,h1⟩:∃ a,occ 6 N=a:=⟨_,rfl⟩
 obtain ⟨a2,h2⟩:∃ a,occ 7 N=a:=⟨_,rfl⟩
 obtain ⟨a3,h3⟩:∃ a,occ 11 N=a:=⟨_,rfl⟩
 obtain ⟨a4,h4⟩:∃ a,occ 12 N=a:=⟨_,rfl⟩
 obtain ⟨a5,h5⟩:∃ a,occ 13 N=a:=⟨_,rfl⟩
 simp only [h1] at L1
 simp only [h2] at L2
 simp only [h3] at L3
 simp only [h4] at L4
 simp only [h5] at L5
 rw [h1] at o1;rw [h2] at o2;rw [h3] at o3;rw [h4] at o4;rw [h5] at o5
 rw [h1,h2,h3,h4,h5] at HQ
 clear h1 h2 h3 h4 h5
 by_cases h:0<a1+a2+a3+a4+a5
 ·have h':(0:Int) <(a1:Int)+(a2:Int)+(a3:Int)+(a4:Int)+(a5:Int):=by omega
  have HR:Hid (r=true):=by unfold Hid;rw [<- HQ.out,decide_eq_true h]
  clear h
  go_enter Tryz.func51,Tryz.ntmps51
  go_wp2_with (go_at_call 72;((with_reducible refine K.mono ?_);rintro e w3 ⟨m,n,rfl,B3,hm,k3⟩;(have l1:=L1 _ _ _ k3);(have l2:=L2 _ _ _ k3);(have l3:=L3 _ _ _ k3);(have l4:=L4 _ _ _ k3);(have l5:=L5 _ _ _ k3)))
  go_ret
  exact ⟨ret_bool HR.out.symm,B3⟩
 ·have h':¬ (0:Int) <(a1:Int)+(a2:Int)+(a3:Int)+(a4:Int)+(a5:Int):=by omega
  have HR:Hid (r=false):=by unfold Hid;rw [<- HQ.out,decide_eq_false h]
  clear h
  go_enter Tryz.func51,Tryz.ntmps51
  go_wp2_with (go_at_call 72;((with_reducible refine K.mono ?_);rintro e w3 ⟨m,n,rfl,B3,hm,k3⟩;(have l1:=L1 _ _ _ k3);(have l2:=L2 _ _ _ k3);(have l3:=L3 _ _ _ k3);(have l4:=L4 _ _ _ k3);(have l5:=L5 _ _ _ k3)))
  go_ret
  exact ⟨ret_bool (by rw [HR.out];exact decide_eq_false (by omega)),B3⟩
end Go.Proofs.YtalkinnbfglkdaaGreatDoor.Syn
