/-
  A region that draws its order of evaluation, shown operation by operation and not order by order. Each temporary has a fact (F) that stands while the world grows (le). If each operation, in any state in which the facts of the temporaries that it looks at stand, leaves its own temporary's fact, then all facts stand behind the region, whatever order was drawn. (The premises: every operation writes one temporary, and waits for the operations whose temporaries it looks at: 'fed', a test by computation.)
  A region that draws its order and ends with a store: all operations but the last go by facts (XDraw); the last waits for all of them and is shown once.
  A region that draws its order, in which some operations form a chain (each waits for the one before it, and may write what the chain owns) and the others only look (the world stays; each has one value, that of the list L); the last operation waits for all. Shown operation by operation: what is said of the world, of the chain's last value and of the free operation's value (none: not run yet) is J k behind k operations of the chain (g: the temporaries' values). The free operation, fi, is bound to no place in the chain.
-/
import Derived.RegionTactic
import Derived.Deep.RegionHeld
namespace Go.Proofs.YtalkinnbfglkdaaGreatDoor.Draw
open Go
def looks (gd : Nat → Nat) (o : Oper) : List Nat :=
  (o.op.operands.toList.filterMap fun | .tmp t => some t | _ => none) ++
  (match o.guard with
   | some (g, _) => [gd g]
   | none => [])
def fed (gd : Nat → Nat) (n : Nat) (ops : Array Oper) : Bool :=
  (List.range ops.size).all fun i => match ops[i]? with
   | none => true
   | some o => (match o.op with | .select _ _ => false | _ => true) && (match o.dst with | some d => decide (d < n) | none => false) &&
     (o.after.all fun e => decide (e.on < i)) &&
     (match o.guard with | some (g, _) => (match ops[g]? with | some og => og.dst == some (gd g) | none => false) | none => true) &&
     (List.range ops.size).all fun j => match ops[j]? with
        | none => true
        | some oj => (match oj.dst with | none => true | some dj => !(looks gd o).contains dj || o.after.any fun e => Region.binds .any e && e.on == j)
def StepOK (P:Program) (gd:Nat->Nat) (le:World->World->Prop) (F:Nat->Value->World->Prop) (w0:World) (o:Oper):Prop :=
 ∀ (a:Act) (w:World),le w0 w->(∀ t,(looks gd o).contains t=true->F t (a.tmps[t]?.getD undef) w) ->
  (match o.guard with | some (g,b)=>a.tmps[gd g]?.getD undef=.bool b | none=>True) /\
  ∀ (K:Act->World->Prop) (Q:Exit->Act->World->Prop),Shut (∀ v w',le w w'->F (o.dst.getD 0) v w'->K (a.put o.dst v) w')->o.wp P a w K Q
def AllSteps (p:Oper->Prop):List Oper->Prop
 | []=>True
 | o::l=>p o/\AllSteps p l
theorem AllSteps.nil {p:Oper->Prop}:AllSteps p []:=trivial
theorem AllSteps.cons {p:Oper->Prop}{o:Oper}{l:List Oper}(h:p o) (hs:AllSteps p l):AllSteps p (o::l):=⟨h,hs⟩
theorem AllSteps.at {p:Oper->Prop}:∀ {l:List Oper},AllSteps p l->∀ {i:Nat}{o:Oper},l[i]?=some o->p o
 | [],_,i,o,h=>by simp at h
 | x::l,hs,0,o,h=>by simp at h;exact h ▸ hs.1
 | x::l,hs,i+1,o,h=>AllSteps.at hs.2 (by simpa using h)
structure Midst (ops:Array Oper) (le:World->World->Prop) (F:Nat->Value->World->Prop) (n:Nat) (ds:List Deferred) (w0:World) (listed:Array Bool) (a:Act) (w:World):Prop where
 size:listed.size=ops.size
 tsize:a.tmps.size=n
 defers:a.defers=ds
 world:le w0 w
 fact:∀ t,(∀ (i:Nat) (o:Oper),ops[i]?=some o->o.dst=some t->listed.getD i false=true)->F t (a.tmps[t]?.getD undef) w
theorem fed_at {gd:Nat->Nat}{n:Nat}{ops:Array Oper}(h:fed gd n ops=true) {i:Nat}{o:Oper}(hi:ops[i]?=some o) :
  (∃ d,o.dst=some d/\d<n)/\(∀ e∈o.after,e.on<i) /\
  (∀ g b,o.guard=some (g,b)->∃ og,ops[g]?=some og/\og.dst=some (gd g)) /\
  (∀ j oj dj,ops[j]?=some oj->oj.dst=some dj->(looks gd o).contains dj=true->∃ e∈o.after,Region.binds .any e=true/\e.on=j):=by
 have hlt:i<ops.size:=(Array.getElem?_eq_some_iff.1 hi).1
 unfold fed at h
 rw [List.all_eq_true] at h
 have h1:=h i (List.mem_range.2 hlt)
 rw [hi] at h1
 simp only [Bool.and_eq_true] at h1
 obtain ⟨⟨⟨⟨-,h2⟩,h3⟩,h4⟩,h5⟩:=h1
 refine ⟨?_,?_,?_,?_⟩
 ·cases hd:o.dst with
  | none=>rw [hd] at h2;cases h2
  | some d=>rw [hd] at h2;exact ⟨d,rfl,by simpa using h2⟩
 ·intro e he
  rw [Array.all_eq_true_iff_forall_mem] at h3
  simpa using h3 e he
 ·intro g b hg
  rw [hg] at h4
  cases hog:ops[g]? with
  | none=>simp [hog] at h4
  | some og=>simp [hog] at h4;exact ⟨og,rfl,h4⟩
 ·intro j oj dj hj hdj hl
  have hjlt:j<ops.size:=(Array.getElem?_eq_some_iff.1 hj).1
  rw [List.all_eq_true] at h5
  have h6:=h5 j (List.mem_range.2 hjlt)
  rw [hj] at h6
  simp only [hdj,hl,Bool.not_true,Bool.false_or] at h6
  rw [Array.any_eq_true'] at h6
  obtain ⟨e,he,hh⟩:=h6
  simp only [Bool.and_eq_true,beq_iff_eq] at hh
  exact ⟨e,he,hh.1,hh.2⟩
theorem wanted_of {gd:Nat->Nat}{ops:Array Oper}{o:Oper}{a:Act}
  (hog:∀ g b,o.guard=some (g,b)->∃ og,ops[g]?=some og/\og.dst=some (gd g))
  (h:match o.guard with | some (g,b)=>a.tmps[gd g]?.getD undef=.bool b | none=>True):Region.wanted o (yielded ops a.tmps)=true:=by
 unfold Region.wanted
 cases hg:o.guard with
 | none=>rfl
 | some gb =>
  obtain ⟨g,b⟩:=gb
  rw [hg] at h
  obtain ⟨og,h1,h2⟩:=hog g b hg
  simp only at h
  have h3:a.tmps[gd g]?=some (.bool b):=by
   cases hx:a.tmps[gd g]? with
   | none=>rw [hx] at h;exact absurd h (by simp [undef])
   | some v=>rw [hx] at h;simpa using h
  simp [yielded,h1,h2,h3]
theorem Midst.step {P:Program}{ops:Array Oper}{Q:Exit->Act->World->Prop}{gd:Nat->Nat}{le:World->World->Prop}{F:Nat->Value->World->Prop}{n:Nat}{ds:List Deferred}{w0:World}
  (htrans:∀ x y z,le x y->le y z->le x z) (hF:∀ t v x y,le x y->F t v x->F t v y) (hfed:fed gd n ops=true)
  (hstep:∀ (i:Nat) (o:Oper),ops[i]?=some o->StepOK P gd le F w0 o)
  {listed:Array Bool}{a:Act}{w:World}(hm:Midst ops le F n ds w0 listed a w) {i:Nat}(hi:i∈Region.ready .any ops listed) :
  wpOp P ops Q i (fun a' w'=>Midst ops le F n ds w0 (listed.setIfInBounds i true) a' w') a w:=by
 obtain ⟨hun,o,ho,hall⟩:=mem_ready.1 hi
 obtain ⟨⟨d,hd,hdn⟩,-,hguard,hdep⟩:=fed_at hfed ho
 have hlook:∀ t,(looks gd o).contains t=true->F t (a.tmps[t]?.getD undef) w:=fun t ht =>
  hm.fact t fun j oj hj hdj=>by
   obtain ⟨e,he,hb,rfl⟩:=hdep j oj t hj hdj ht
   exact hall e he hb
 obtain ⟨hg,hrun⟩:=hstep i o ho a w hm.world hlook
 unfold wpOp
 simp only [ho,wanted_of hguard hg,if_true]
 refine .inl (hrun _ Q (fun v w' hle hv=>?_))
 rw [hd] at hv ⊢
 refine ⟨by simp [hm.size],by simp [Act.put,hm.tsize],by simp [Act.put,hm.defers],htrans _ _ _ hm.world hle,fun t ht=>?_⟩
 by_cases htd:t=d
 ·subst htd
  have:t<a.tmps.size:=by rw [hm.tsize];exact hdn
  simpa [Act.put,this] using hv
 ·have hne:d≠t:=fun h=>htd h.symm
  have h1:(a.put (some d) v).tmps[t]?=a.tmps[t]?:=by simp [Act.put,Array.getElem?_setIfInBounds_ne hne]
  rw [h1]
  refine hF t _ _ _ hle (hm.fact t fun j oj hj hdj=>?_)
  have h2:=ht j oj hj hdj
  have hij:i≠j:=fun h=>by
   subst h
   rw [ho] at hj
   cases hj
   rw [hd] at hdj
   exact hne (by simpa using hdj)
  rwa [getD_set_ne false hij] at h2
theorem least_false (listed:Array Bool):∀ m,m<=listed.size->(∀ i,i<m->listed.getD i false=true)∨∃ i,i<m/\listed.getD i true=false/\∀ j,j<i->listed.getD j false=true
 | 0,_=>.inl fun i h=>absurd h (Nat.not_lt_zero i)
 | m+1,hm=>by
  rcases least_false listed m (by omega) with h |⟨i,hi,h1,h2⟩
  ·have hlt:m<listed.size:=by omega
   cases hx:listed[m] with
   | true =>
    refine .inl fun i hi=>?_
    rcases Nat.lt_or_ge i m with h' | h'
    ·exact h i h'
    ·have:i=m:=by omega
     subst this
     simp [hlt,hx]
   | false=>exact .inr ⟨m,by omega,by simp [hlt,hx],h⟩
  ·exact .inr ⟨i,by omega,h1,h2⟩
theorem ready_nil_of {ops:Array Oper}{listed:Array Bool}(h:∀ i,i<ops.size->listed.getD i true=true):Region.ready .any ops listed=[]:=by
 cases hr:Region.ready .any ops listed with
 | nil=>rfl
 | cons x xs =>
  have hx:x∈Region.ready .any ops listed:=by rw [hr];exact List.mem_cons_self ..
  obtain ⟨h0,o,ho,-⟩:=mem_ready.1 hx
  rw [h x (Array.getElem?_eq_some_iff.1 ho).1] at h0
  cases h0
theorem count_zero {listed:Array Bool}(h:listed.toList.count false=0):∀ i,listed.getD i true=true:=by
 intro i
 cases hx:listed[i]? with
 | none=>simp [hx]
 | some b =>
  cases b with
  | true=>simp [hx]
  | false =>
   exfalso
   have:false∈listed.toList:=by
    rw [Array.mem_toList_iff]
    exact Array.mem_of_getElem? hx
   exact absurd (List.count_pos_iff.2 this) (by omega)
theorem count_set {listed:Array Bool}{i:Nat}(h:listed.getD i true=false):(listed.setIfInBounds i true).toList.count false+1=listed.toList.count false:=by
 have hlt:i<listed.size:=by
  rcases Nat.lt_or_ge i listed.size with h' | h'
  ·exact h'
  ·simp [Array.getElem?_eq_none h'] at h
 have hx:listed.toList[i]'(by simpa using hlt)=false:=by
  simp [hlt] at h
  simpa using h
 have hpos:0<listed.toList.count false:=List.count_pos_iff.2 (by rw [<- hx];exact List.getElem_mem _)
 rw [Array.toList_setIfInBounds,List.count_set (by simpa using hlt),hx]
 have h1:(if (false==false)=true then 1 else 0)=1:=rfl
 have h2:(if (true==false)=true then 1 else 0)=0:=rfl
 rw [h1,h2]
 omega
def waits (m:Nat) (o:Oper):Bool:=(List.range m).all (fun i=>o.after.any fun e=>Region.binds .any e&&e.on==i)&&o.after.all fun e=>decide (e.on<m)
structure MidL (front:Array Oper) (last:Oper) (le:World->World->Prop) (F:Nat->Value->World->Prop) (n:Nat) (ds:List Deferred) (w0:World) (listed:Array Bool) (a:Act) (w:World):Prop where
 size:listed.size=front.size+1
 open_:listed.getD front.size true=false
 tsize:a.tmps.size=n
 defers:a.defers=ds
 world:le w0 w
 fact:∀ t,(∀ (i:Nat) (o:Oper),front[i]?=some o->o.dst=some t->listed.getD i false=true)->F t (a.tmps[t]?.getD undef) w
theorem push_at {front:Array Oper}{last:Oper}{i:Nat}{o:Oper}(h:(front.push last)[i]?=some o):(i<front.size/\front[i]?=some o)∨(i=front.size/\o=last):=by
 rw [Array.getElem?_push] at h
 split at h
 ·rename_i e
  right;exact ⟨e,by simpa using h.symm⟩
 ·left
  exact ⟨(Array.getElem?_eq_some_iff.1 h).1,h⟩
theorem front_at {front:Array Oper}{last:Oper}{i:Nat}{o:Oper}(h:front[i]?=some o):(front.push last)[i]?=some o:=by
 have hlt:=(Array.getElem?_eq_some_iff.1 h).1
 rw [Array.getElem?_push,if_neg (by omega)]
 exact h
theorem wanted_front {gd:Nat->Nat}{front:Array Oper}{last:Oper}{o:Oper}{a:Act}
  (hog:∀ g b,o.guard=some (g,b)->∃ og,front[g]?=some og/\og.dst=some (gd g))
  (h:match o.guard with | some (g,b)=>a.tmps[gd g]?.getD undef=.bool b | none=>True):Region.wanted o (yielded (front.push last) a.tmps)=true :=
 wanted_of (gd:=gd) (fun g b hg=>by obtain ⟨og,h1,h2⟩:=hog g b hg;exact ⟨og,front_at h1,h2⟩) h
theorem MidL.step {P:Program}{front:Array Oper}{last:Oper}{Q:Exit->Act->World->Prop}{gd:Nat->Nat}{le:World->World->Prop}{F:Nat->Value->World->Prop}{n:Nat}{ds:List Deferred}{w0:World}
  (htrans:∀ x y z,le x y->le y z->le x z) (hF:∀ t v x y,le x y->F t v x->F t v y) (hfed:fed gd n front=true)
  (hstep:∀ (i:Nat) (o:Oper),front[i]?=some o->StepOK P gd le F w0 o)
  {listed:Array Bool}{a:Act}{w:World}(hm:MidL front last le F n ds w0 listed a w) {i:Nat}(hlt:i<front.size) (hi:i∈Region.ready .any (front.push last) listed) :
  wpOp P (front.push last) Q i (fun a' w'=>MidL front last le F n ds w0 (listed.setIfInBounds i true) a' w') a w:=by
 obtain ⟨hun,o,ho',hall⟩:=mem_ready.1 hi
 have ho:front[i]?=some o:=by
  rcases push_at ho' with ⟨-,h⟩ |⟨h,-⟩
  ·exact h
  ·omega
 obtain ⟨⟨d,hd,hdn⟩,-,hguard,hdep⟩:=fed_at hfed ho
 have hlook:∀ t,(looks gd o).contains t=true->F t (a.tmps[t]?.getD undef) w:=fun t ht =>
  hm.fact t fun j oj hj hdj=>by
   obtain ⟨e,he,hb,rfl⟩:=hdep j oj t hj hdj ht
   exact hall e he hb
 obtain ⟨hg,hrun⟩:=hstep i o ho a w hm.world hlook
 unfold wpOp
 simp only [ho',wanted_front hguard hg,if_true]
 refine .inl (hrun _ Q (fun v w' hle hv=>?_))
 rw [hd] at hv ⊢
 refine ⟨by simp [hm.size],by rw [getD_set_ne true (by omega)];exact hm.open_,by simp [Act.put,hm.tsize],by simp [Act.put,hm.defers],htrans _ _ _ hm.world hle,fun t ht=>?_⟩
 by_cases htd:t=d
 ·subst htd
  have:t<a.tmps.size:=by rw [hm.tsize];exact hdn
  simpa [Act.put,this] using hv
 ·have hne:d≠t:=fun h=>htd h.symm
  have h1:(a.put (some d) v).tmps[t]?=a.tmps[t]?:=by simp [Act.put,Array.getElem?_setIfInBounds_ne hne]
  rw [h1]
  refine hF t _ _ _ hle (hm.fact t fun j oj hj hdj=>?_)
  have h2:=ht j oj hj hdj
  have hij:i≠j:=fun h=>by
   subst h
   rw [ho] at hj
   cases hj
   rw [hd] at hdj
   exact hne (by simpa using hdj)
  rwa [getD_set_ne false hij] at h2
theorem waits_at {m:Nat}{o:Oper}(h:waits m o=true):(∀ i,i<m->∃ e∈o.after,Region.binds .any e=true/\e.on=i)/\∀ e∈o.after,e.on<m:=by
 unfold waits at h
 rw [Bool.and_eq_true,List.all_eq_true,Array.all_eq_true_iff_forall_mem] at h
 refine ⟨fun i hi=>?_,fun e he=>by simpa using h.2 e he⟩
 have:=h.1 i (List.mem_range.2 hi)
 rw [Array.any_eq_true'] at this
 obtain ⟨e,he,hh⟩:=this
 simp only [Bool.and_eq_true,beq_iff_eq] at hh
 exact ⟨e,he,hh.1,hh.2⟩
theorem wpAny_of_midL {P:Program}{front:Array Oper}{last:Oper}{Q:Exit->Act->World->Prop}{gd:Nat->Nat}{le:World->World->Prop}{F:Nat->Value->World->Prop}{n:Nat}{ds:List Deferred}{w0:World}
  (htrans:∀ x y z,le x y->le y z->le x z) (hF:∀ t v x y,le x y->F t v x->F t v y) (hfed:fed gd n front=true) (hw:waits front.size last=true) (hlg:last.guard=none)
  (hstep:∀ (i:Nat) (o:Oper),front[i]?=some o->StepOK P gd le F w0 o)
  (hfin:∀ a w,a.tmps.size=n->a.defers=ds->le w0 w->(∀ t,F t (a.tmps[t]?.getD undef) w)->last.wp P a w (fun a' w'=>Q .normal a' w') Q) :
  ∀ (fuel:Nat) (listed:Array Bool) (a:Act) (w:World),listed.toList.count false<=fuel->MidL front last le F n ds w0 listed a w->wpAny P .any (front.push last) Q fuel listed a w:=by
 obtain ⟨hw1,hw2⟩:=waits_at hw
 have last_ready:∀ (listed:Array Bool) (a:Act) (w:World),MidL front last le F n ds w0 listed a w->(∀ i,i<front.size->listed.getD i false=true)->front.size∈Region.ready .any (front.push last) listed:=by
  intro listed a w hm h
  exact mem_ready.2 ⟨hm.open_,last,by simp,fun e he _=>h _ (hw2 e he)⟩
 have none_left:∀ (listed:Array Bool) (a:Act) (w:World),MidL front last le F n ds w0 listed a w->Region.ready .any (front.push last) listed=[]->False:=by
  intro listed a w hm hr
  have hall:∀ i,i<front.size->listed.getD i false=true:=by
   rcases least_false listed front.size (by rw [hm.size];omega) with h |⟨i,hi,h1,h2⟩
   ·exact h
   ·exfalso
    have hmem:i∈Region.ready .any (front.push last) listed:=by
     refine mem_ready.2 ⟨h1,front[i],front_at (by simp [hi]),fun e he _=>?_⟩
     exact h2 _ ((fed_at hfed (by simp [hi])).2.1 e he)
    rw [hr] at hmem
    cases hmem
  have:=last_ready listed a w hm hall
  rw [hr] at this
  cases this
 intro fuel
 induction fuel with
 | zero =>
  intro listed a w hc hm
  exfalso
  have q:=count_zero (listed:=listed) (by omega) front.size
  rw [hm.open_] at q
  cases q
 | succ fuel ih =>
  intro listed a w hc hm
  refine ⟨fun hr=>absurd hr (fun hr=>none_left listed a w hm hr),fun i hi=>?_⟩
  have hc':=count_set (mem_ready.1 hi).1
  obtain ⟨hun,o,ho,hall⟩:=mem_ready.1 hi
  rcases push_at ho with ⟨hlt,-⟩ |⟨rfl,rfl⟩
  ·exact wpOp_mono (fun a' w' hm'=>ih _ a' w' (by omega) hm') (MidL.step htrans hF hfed hstep hm hlt hi)
  ·have hfr:∀ i,i<front.size->listed.getD i false=true:=fun i hi=>by
    obtain ⟨e,he,hb,rfl⟩:=hw1 i hi
    exact hall e he hb
   have run:=hfin a w hm.tsize hm.defers hm.world fun t=>hm.fact t fun i o hi _=>hfr i (Array.getElem?_eq_some_iff.1 hi).1
   have full:∀ i,i <(front.push o).size->(listed.setIfInBounds front.size true).getD i true=true:=by
    intro i hi2
    by_cases e:i=front.size
    ·subst e
     have:front.size<listed.size:=by rw [hm.size];omega
     simp [this]
    ·rw [getD_set_ne true (by omega)]
     have hlt:i<front.size:=by simp at hi2;omega
     have h1:=hfr i hlt
     have:i<listed.size:=by rw [hm.size];omega
     simpa [this] using h1
   unfold wpOp
   have hwt:Region.wanted o (yielded (front.push o) a.tmps)=true:=by unfold Region.wanted;rw [hlg]
   simp only [ho,hwt,if_true]
   refine .inl ?_
   refine Oper.wp_mono (fun a' w' hq=>?_) run
   have hr:=ready_nil_of (ops:=front.push o) full
   cases fuel with
   | zero=>exact ⟨hr,hq⟩
   | succ f=>exact ⟨fun _=>hq,fun i hi=>by rw [hr] at hi;cases hi⟩
theorem wp_region_last {P:Program}{l:List Oper}{last:Oper}{Q:Exit->Act->World->Prop}{id:Nat}{a0:Act}{w:World}(hm:P.follows .mixedOrders=true)
  (gd:Nat->Nat) (le:World->World->Prop) (F:Nat->Value->World->Prop) (n:Nat)
  (hrefl:∀ x,le x x) (htrans:∀ x y z,le x y->le y z->le x z) (hF:∀ t v x y,le x y->F t v x->F t v y)
  (hn:a0.tmps.size=n) (hfed:fed gd n l.toArray=true) (hw:waits l.length last=true) (hlg:last.guard=none)
  (h0:∀ t,(l.any fun o=>o.dst==some t)=false->F t (a0.tmps[t]?.getD undef) { w with drawn:=w.drawn+1 })
  (hstep:AllSteps (StepOK P gd le F { w with drawn:=w.drawn+1 }) l)
  (hfin:∀ a w',a.tmps.size=n->a.defers=a0.defers->le { w with drawn:=w.drawn+1 } w'->(∀ t,F t (a.tmps[t]?.getD undef) w')->last.wp P a w' (fun a' w'=>Q .normal a' w') Q) :
  (Code.region id (l.toArray.push last) true).wp P Q a0 w:=by
 refine wp_region_any hm (wpAny_of_midL htrans hF hfed (by simpa using hw) hlg (fun i o ho=>hstep.at (i:=i) (by simpa using ho)) hfin _ _ _ _ ?_ ⟨by simp,by simp,hn,rfl,hrefl _,fun t ht=>h0 t ?_⟩)
 ·simp
 ·rw [List.any_eq_false]
  intro o ho hd
  obtain ⟨i,hi,hio⟩:=List.mem_iff_getElem.1 ho
  have:=ht i o (by simp [hi,hio]) (by simpa using hd)
  have h2:i<l.length+1:=by omega
  simp [h2] at this
theorem wp_region_last' {P:Program}{ops:Array Oper}{l:List Oper}{last:Oper}{Q:Exit->Act->World->Prop}{id:Nat}{a0:Act}{w:World}(hops:ops=l.toArray.push last) (hm:P.follows .mixedOrders=true)
  (gd:Nat->Nat) (le:World->World->Prop) (F:Nat->Value->World->Prop) (n:Nat)
  (hrefl:∀ x,le x x) (htrans:∀ x y z,le x y->le y z->le x z) (hF:∀ t v x y,le x y->F t v x->F t v y)
  (hn:a0.tmps.size=n) (hfed:fed gd n l.toArray=true) (hw:waits l.length last=true) (hlg:last.guard=none)
  (h0:∀ t,(l.any fun o=>o.dst==some t)=false->F t (a0.tmps[t]?.getD undef) { w with drawn:=w.drawn+1 })
  (hstep:AllSteps (StepOK P gd le F { w with drawn:=w.drawn+1 }) l)
  (hfin:∀ a w',a.tmps.size=n->a.defers=a0.defers->le { w with drawn:=w.drawn+1 } w'->(∀ t,F t (a.tmps[t]?.getD undef) w')->last.wp P a w' (fun a' w'=>Q .normal a' w') Q) :
  (Code.region id ops true).wp P Q a0 w:=by
 subst hops
 exact wp_region_last hm gd le F n hrefl htrans hF hn hfed hw hlg h0 hstep hfin
theorem rows_mid2 (tm:Array Value) (L:List Value) (lo n:Nat) (hsz:tm.size=L.length) (hn:lo+n<=L.length) (hf:∀ t,t<lo∨lo+n<=t->tm[t]?.getD undef=L[t]?.getD undef) :
  tm =(L.take lo++(List.range' lo n).map (fun t=>tm[t]?.getD undef)++L.drop (lo+n)).toArray:=by
 refine Array.ext (by simp [hsz];omega) fun i h1 h2=>?_
 have e:tm[i]=tm[i]?.getD undef:=by simp [h1]
 have hL:i<L.length:=by omega
 rw [e]
 simp only [List.getElem_toArray]
 rcases Nat.lt_or_ge i lo with hi | hi
 ·rw [List.getElem_append_left (by simp;omega),List.getElem_append_left (by simp;omega),List.getElem_take,hf i (Or.inl hi)]
  simp [hL]
 ·rcases Nat.lt_or_ge i (lo+n) with hi2 | hi2
  ·rw [List.getElem_append_left (by simp;omega),List.getElem_append_right (by simp;omega)]
   simp only [List.getElem_map,List.getElem_range',List.length_take]
   rw [show lo+1*(i - min lo L.length)=i by omega]
  ·rw [List.getElem_append_right (by simp;omega),hf i (Or.inr hi2)]
   simp only [List.getElem_drop,List.length_append,List.length_take,List.length_map,List.length_range']
   rw [List.getElem?_eq_getElem hL]
   simp only [Option.getD_some]
   congr 1
   omega
theorem wp_region_lastL {P:Program}{ops:Array Oper}{l:List Oper}{last:Oper}{Q:Exit->Act->World->Prop}{id:Nat}{L:List Value}{ds:List Deferred}{w:World}(hops:ops=l.toArray.push last) (hm:P.follows .mixedOrders=true)
  (gd:Nat->Nat) (le:World->World->Prop) (F:List Value->Nat->Value->World->Prop) (lo n:Nat)
  (hrefl:∀ x,le x x) (htrans:∀ x y z,le x y->le y z->le x z) (hF:∀ t v x y,le x y->F L t v x->F L t v y)
  (hfed:fed gd L.length l.toArray=true) (hw:waits l.length last=true) (hlg:last.guard=none) (hn:lo+n<=L.length)
  (hout:∀ t v w,t<lo∨lo+n<=t->F L t v w->v=L[t]?.getD undef)
  (h0:∀ t,(l.any fun o=>o.dst==some t)=false->F L t (L[t]?.getD undef) w.drew)
  (hstep:AllSteps (StepOK P gd le (F L) w.drew) l)
  (hfin:∀ (g:Nat->Value) w',le w.drew w'->(∀ t,F L t (g t) w')->last.wp P ⟨(L.take lo++(List.range' lo n).map g++L.drop (lo+n)).toArray,ds⟩ w' (fun a' w'=>Q .normal a' w') Q) :
  (Code.region id ops true).wp P Q ⟨L.toArray,ds⟩ w:=by
 refine wp_region_last' hops hm gd le (F L) L.length hrefl htrans hF (by simp) hfed hw hlg (fun t ht=>by simpa using h0 t ht) hstep ?_
 rintro ⟨tm,ds'⟩ w' hsz hds hle H
 simp only at hds hsz
 subst hds
 have:=rows_mid2 tm L lo n hsz hn fun t ht=>hout t _ w' ht (H t)
 rw [this]
 exact hfin (fun t=>tm[t]?.getD undef) w' hle H
def chained (ops : Array Oper) (ch : List Nat) : Bool :=
  (List.range ch.length).all fun k => match ops[ch.getD k 0]? with
   | none => false
   | some o => o.guard.isNone && (k == 0 || (decide (ch.getD (k - 1) 0 < ch.getD k 0) && o.after.any fun e => Region.binds .any e && e.on == ch.getD (k - 1) 0))
def single (ops:Array Oper):Bool :=
 (List.range ops.size).all fun i=>(List.range ops.size).all fun j=>i==j ||(ops[i]?.bind (·.dst)) !=(ops[j]?.bind (·.dst))
def freeOK (gd:Nat->Nat) (ops:Array Oper) (fi fd:Nat):Bool :=
 ((List.range ops.size).all fun i=>i==fi ||(ops[i]?.bind (·.dst)) != some fd) &&
 (match ops[fi]? with | some o=>o.dst==some fd&&o.guard.isNone | none=>(List.range ops.size).all fun i=>match ops[i]? with | some o=>!(looks gd o).contains fd | none=>true)
def Look (P:Program) (gd:Nat->Nat) (chd:List Nat) (fd:Nat) (V:Nat->Value) (W:World->Prop) (o:Oper):Prop :=
 ∀ (a:Act) (w:World),W w->(∀ t,(looks gd o).contains t=true->chd.contains t=false->t≠fd->a.tmps[t]?.getD undef=V t) ->
  (match o.guard with | some (g,b)=>a.tmps[gd g]?.getD undef=.bool b | none=>True) /\
  ∀ (K:Act->World->Prop) (Q:Exit->Act->World->Prop),Shut (K (a.put o.dst (V (o.dst.getD 0))) w)->o.wp P a w K Q
def upd (g:Nat->Value) (d:Nat) (v:Value) (t:Nat):Value:=if t=d then v else g t
def Link (P:Program) (gd:Nat->Nat) (chd:List Nat) (fd:Nat) (V:Nat->Value) (J J':(Nat->Value)->Option Value->World->Prop) (o:Oper):Prop :=
 ∀ (a:Act) (w:World) (x:Option Value),J (fun t=>a.tmps[t]?.getD undef) x w->((looks gd o).contains fd=true->x=some (a.tmps[fd]?.getD undef))->(∀ t,(looks gd o).contains t=true->chd.contains t=false->t≠fd->a.tmps[t]?.getD undef=V t) ->
  ∀ (K:Act->World->Prop) (Q:Exit->Act->World->Prop),Shut (∀ v w',J' (upd (fun t=>a.tmps[t]?.getD undef) (o.dst.getD 0) v) x w'->K (a.put o.dst v) w')->o.wp P a w K Q
def Free (P:Program) (gd:Nat->Nat) (chd:List Nat) (fd:Nat) (V:Nat->Value) (J:Nat->(Nat->Value)->Option Value->World->Prop) (o:Oper):Prop :=
 ∀ (a:Act) (w:World) (k:Nat) (v:Nat->Value),J k v none w->(∀ t,(looks gd o).contains t=true->chd.contains t=false->t≠fd->a.tmps[t]?.getD undef=V t) ->
  ∀ (K:Act->World->Prop) (Q:Exit->Act->World->Prop),Shut (∀ u w',J k v (some u) w'->K (a.put o.dst u) w')->o.wp P a w K Q
def waitsT (ops:Array Oper) (last:Oper):Bool :=
 (last.after.all fun e=>decide (e.on<ops.size))&&(List.range ops.size).all fun i=>(last.after.any fun e=>Region.binds .any e&&e.on==i) ||
  (List.range ops.size).any fun j=>decide (i<j)&&match ops[j]? with | some o=>o.after.any fun e=>Region.binds .any e&&e.on==i | none=>false
theorem waitsT_at {ops:Array Oper}{last:Oper}(h:waitsT ops last=true) {listed:Array Bool}(hc:∀ (i:Nat) (o:Oper) (e:Edge),ops[i]?=some o->listed.getD i false=true->e∈o.after->Region.binds .any e=true->listed.getD e.on false=true)
  (hd:∀ e∈last.after,Region.binds .any e=true->listed.getD e.on false=true):∀ (n i:Nat),ops.size - i<=n->i<ops.size->listed.getD i false=true
 | 0,i,hn,hi=>by omega
 | n+1,i,hn,hi=>by
  unfold waitsT at h
  have h0:=h
  rw [Bool.and_eq_true,List.all_eq_true] at h
  have:=h.2 i (List.mem_range.2 hi)
  rw [Bool.or_eq_true,Array.any_eq_true',List.any_eq_true] at this
  rcases this with ⟨e,he,hh⟩ |⟨j,hj,hh⟩
  ·simp only [Bool.and_eq_true,beq_iff_eq] at hh
   rw [<- hh.2];exact hd e he hh.1
  ·rw [Bool.and_eq_true,decide_eq_true_eq] at hh
   have hjl:=List.mem_range.1 hj
   rw [Array.getElem?_eq_getElem hjl] at hh
   simp only [Array.any_eq_true'] at hh
   obtain ⟨hij,e,he,hb⟩:=hh
   simp only [Bool.and_eq_true,beq_iff_eq] at hb
   rw [<- hb.2]
   exact hc j ops[j] e (by simp [hjl]) (waitsT_at h0 hc hd n j (by omega) hjl) he hb.1
structure MidC (ops:Array Oper) (last:Oper) (ch chd:List Nat) (fi fd:Nat) (V:Nat->Value) (n:Nat) (J:Nat->(Nat->Value)->Option Value->World->Prop) (ds:List Deferred) (listed:Array Bool) (a:Act) (w:World):Prop where
 size:listed.size=ops.size+1
 open_:listed.getD ops.size true=false
 tsize:a.tmps.size=n
 defers:a.defers=ds
 closed:∀ (i:Nat) (o:Oper) (e:Edge),ops[i]?=some o->listed.getD i false=true->e∈o.after->Region.binds .any e=true->listed.getD e.on false=true
 fact:∀ t,chd.contains t=false->t≠fd->(∀ (i:Nat) (o:Oper),ops[i]?=some o->o.dst=some t->listed.getD i false=true)->a.tmps[t]?.getD undef=V t
 chain:∃ k,k<=ch.length/\(∀ j,j<ch.length->(listed.getD (ch.getD j 0) false=true ↔ j<k))/\J k (fun t=>a.tmps[t]?.getD undef) (if listed.getD fi false=true/\fi<ops.size then some (a.tmps[fd]?.getD undef) else none) w
theorem chained_at {ops:Array Oper}{ch:List Nat}(h:chained ops ch=true) {k:Nat}(hk:k<ch.length):∃ o,ops[ch.getD k 0]?=some o/\o.guard=none/\(0<k->ch.getD (k - 1) 0<ch.getD k 0/\∃ e∈o.after,Region.binds .any e=true/\e.on=ch.getD (k - 1) 0):=by
 unfold chained at h
 rw [List.all_eq_true] at h
 have h1:=h k (List.mem_range.2 hk)
 cases ho:ops[ch.getD k 0]? with
 | none=>rw [ho] at h1;cases h1
 | some o =>
  rw [ho] at h1
  simp only [Bool.and_eq_true,Option.isNone_iff_eq_none,Bool.or_eq_true,beq_iff_eq,decide_eq_true_eq] at h1
  refine ⟨o,rfl,h1.1,fun hp=>?_⟩
  rcases h1.2 with h2 |⟨h2,h3⟩
  ·omega
  ·rw [Array.any_eq_true'] at h3
   obtain ⟨e,he,hh⟩:=h3
   simp only [Bool.and_eq_true,beq_iff_eq] at hh
   exact ⟨h2,e,he,hh.1,hh.2⟩
theorem chain_mono {ops:Array Oper}{ch:List Nat}(h:chained ops ch=true):∀ {j k:Nat},j<k->k<ch.length->ch.getD j 0<ch.getD k 0
 | j,0,hj,_=>absurd hj (Nat.not_lt_zero _)
 | j,k+1,hj,hk=>by
  obtain ⟨o,-,-,h3⟩:=chained_at h hk
  have h3:=(h3 (by omega)).1
  rw [Nat.add_sub_cancel] at h3
  rcases Nat.lt_or_ge j k with g | g
  ·exact Nat.lt_trans (chain_mono h g (by omega)) h3
  ·have:j=k:=by omega
   subst this;exact h3
theorem chain_inj {ops:Array Oper}{ch:List Nat}(h:chained ops ch=true) {j k:Nat}(hj:j<ch.length) (hk:k<ch.length) (e:ch.getD j 0=ch.getD k 0):j=k:=by
 rcases Nat.lt_trichotomy j k with g | g | g
 ·have:=chain_mono h g hk;omega
 ·exact g
 ·have:=chain_mono h g hj;omega
theorem single_at {ops:Array Oper}(h:single ops=true) {i j:Nat}{o p:Oper}(hi:ops[i]?=some o) (hj:ops[j]?=some p) (e:o.dst=p.dst):i=j:=by
 unfold single at h
 rw [List.all_eq_true] at h
 have h1:=h i (List.mem_range.2 (Array.getElem?_eq_some_iff.1 hi).1)
 rw [List.all_eq_true] at h1
 have h2:=h1 j (List.mem_range.2 (Array.getElem?_eq_some_iff.1 hj).1)
 simp only [hi,hj,Option.bind_some,e,Bool.or_eq_true,beq_iff_eq,bne_self_eq_false,Bool.false_eq_true,or_false] at h2
 exact h2
theorem contains_at {ch:List Nat}{k i:Nat}(hk:k<ch.length) (e:ch.getD k 0=i):ch.contains i=true:=by
 rw [List.contains_iff_mem,<- e]
 have:ch.getD k 0=ch[k]:=by simp [hk]
 rw [this];exact List.getElem_mem hk
theorem free_at {gd:Nat->Nat}{ops:Array Oper}{fi fd:Nat}(h:freeOK gd ops fi fd=true):(∀ (i:Nat) (o:Oper) (d:Nat),ops[i]?=some o->o.dst=some d->i≠fi->d≠fd) /\
  (∀ o,ops[fi]?=some o->o.dst=some fd/\o.guard=none)/\(ops.size<=fi->∀ (i:Nat) (o:Oper),ops[i]?=some o->(looks gd o).contains fd=false):=by
 unfold freeOK at h
 rw [Bool.and_eq_true,List.all_eq_true] at h
 obtain ⟨h1,h2⟩:=h
 refine ⟨fun i o d hi hd hne e=>?_,fun o ho=>?_,fun hs i o hi=>?_⟩
 ·have:=h1 i (List.mem_range.2 (Array.getElem?_eq_some_iff.1 hi).1)
  rw [hi] at this
  simp only [Option.bind_some,hd,e,Bool.or_eq_true,beq_iff_eq,bne_self_eq_false,Bool.false_eq_true,or_false] at this
  exact hne this
 ·rw [ho] at h2
  simpa using h2
 ·rw [Array.getElem?_eq_none hs] at h2
  simp only [List.all_eq_true] at h2
  have:=h2 i (List.mem_range.2 (Array.getElem?_eq_some_iff.1 hi).1)
  rw [hi] at this
  simpa using this
theorem put_other (a:Act) {d t:Nat}(v:Value) (h:d≠t):(a.put (some d) v).tmps[t]?=a.tmps[t]?:=by simp [Act.put,Array.getElem?_setIfInBounds_ne h]
theorem put_self {a:Act}{d:Nat}(v:Value) (h:d<a.tmps.size):(a.put (some d) v).tmps[d]?.getD undef=v:=by simp [Act.put,h]
theorem MidC.step {P:Program}{ops:Array Oper}{last:Oper}{Q:Exit->Act->World->Prop}{gd:Nat->Nat}{ch chd:List Nat}{fi fd n:Nat}{V:Nat->Value}{J:Nat->(Nat->Value)->Option Value->World->Prop}{W:World->Prop}{ds:List Deferred}
  (hfed:fed gd n ops=true) (hch:chained ops ch=true) (hsg:single ops=true) (hfr:freeOK gd ops fi fd=true) (hcf:ch.contains fi=false) (hcd:chd=ch.map fun i=>((ops[i]?.bind (·.dst)).getD 0)) (hW:∀ k v x w,J k v x w->W w) (hS0:∀ k g g' x w,k<=ch.length->(∀ j,j<k->g (chd.getD j 0)=g' (chd.getD j 0))->J k g x w->J k g' x w)
  (hlook:∀ (i:Nat) (o:Oper),ops[i]?=some o->ch.contains i=false->i≠fi->Look P gd chd fd V W o) (hfree:∀ o,ops[fi]?=some o->Free P gd chd fd V J o)
  (hlink:∀ (k:Nat) (o:Oper),k<ch.length->ops[ch.getD k 0]?=some o->Link P gd chd fd V (J k) (J (k+1)) o)
  {listed:Array Bool}{a:Act}{w:World}(hm:MidC ops last ch chd fi fd V n J ds listed a w) {i:Nat}(hio:i<ops.size) (hi:i∈Region.ready .any (ops.push last) listed) :
  wpOp P (ops.push last) Q i (fun a' w'=>MidC ops last ch chd fi fd V n J ds (listed.setIfInBounds i true) a' w') a w:=by
 obtain ⟨hun,o,hop,hall⟩:=mem_ready.1 hi
 have ho:ops[i]?=some o:=by
  rcases push_at hop with ⟨-,h⟩ |⟨h,-⟩
  ·exact h
  ·omega
 obtain ⟨hf1,hf2,hf3⟩:=free_at hfr
 obtain ⟨⟨d,hd,hdn⟩,-,hguard,hdep⟩:=fed_at hfed ho
 have hilt:i<listed.size:=by rw [hm.size];omega
 have hun':listed.getD i false=false:=by
  have h1:listed.getD i true=listed[i]:=by simp [hilt]
  have h2:listed.getD i false=listed[i]:=by simp [hilt]
  rw [h2,<- h1];exact hun
 have hF:∀ t,(looks gd o).contains t=true->chd.contains t=false->t≠fd->a.tmps[t]?.getD undef=V t:=fun t ht hc hn =>
  hm.fact t hc hn fun j oj hj hdj=>by
   obtain ⟨e,he,hb,rfl⟩:=hdep j oj t hj hdj ht
   exact hall e he hb
 obtain ⟨k,hkl,hlist,hS⟩:=hm.chain
 have hset:(listed.setIfInBounds i true).getD i false=true:=by simp [hilt]
 have hda:d<a.tmps.size:=by rw [hm.tsize];exact hdn
 have keepC:∀ (m:Nat) (p:Oper) (e:Edge),ops[m]?=some p->(listed.setIfInBounds i true).getD m false=true->e∈p.after->Region.binds .any e=true->(listed.setIfInBounds i true).getD e.on false=true:=by
  intro m p e hp hl he hb
  have up:∀ q,listed.getD q false=true->(listed.setIfInBounds i true).getD q false=true:=fun q hq=>by
   by_cases g:i=q
   ·subst g;exact hset
   ·rw [getD_set_ne false g];exact hq
  by_cases g:i=m
  ·subst g
   rw [ho] at hp
   cases hp
   exact up _ (hall e he hb)
  ·rw [getD_set_ne false g] at hl
   exact up _ (hm.closed m p e hp hl he hb)
 have keepF:∀ (v:Value),(chd.contains d=false->d≠fd->v=V d)->∀ t,chd.contains t=false->t≠fd->(∀ (j:Nat) (oj:Oper),ops[j]?=some oj->oj.dst=some t->(listed.setIfInBounds i true).getD j false=true)->(a.put o.dst v).tmps[t]?.getD undef=V t:=by
  intro v hv t hc hn ht
  rw [hd]
  by_cases htd:t=d
  ·subst htd
   rw [put_self v hda];exact hv hc hn
  ·rw [put_other a v (fun h=>htd h.symm)]
   refine hm.fact t hc hn fun j oj hj hdj=>?_
   have h2:=ht j oj hj hdj
   have hij:i≠j:=fun h=>by
    subst h
    rw [ho] at hj
    cases hj
    rw [hd] at hdj
    exact htd (by simpa using hdj.symm)
   rwa [getD_set_ne false hij] at h2
 have chd_at:∀ j,j<ch.length->chd.getD j 0 =((ops[ch.getD j 0]?.bind (·.dst)).getD 0):=fun j hj=>by
  subst hcd
  simp [hj]
 have td_ne:ch.contains i=false->∀ j,j<ch.length->d≠chd.getD j 0:=fun hc j hj=>by
  rw [chd_at j hj]
  obtain ⟨o2,ho2,-,-⟩:=chained_at hch hj
  obtain ⟨⟨d2,hd2,-⟩,-⟩:=fed_at hfed ho2
  rw [ho2,Option.bind_some,hd2]
  intro g
  have g:d=d2:=g
  have:=single_at hsg ho ho2 (by rw [hd,hd2,g])
  rw [this,contains_at hj rfl] at hc
  cases hc
 have keepL:ch.contains i=false->∀ m,m<ch.length->((listed.setIfInBounds i true).getD (ch.getD m 0) false=true ↔ m<k):=fun hc m hmm=>by
  have hne:i≠ch.getD m 0:=fun g=>by rw [contains_at hmm g.symm] at hc;cases hc
  rw [getD_set_ne false hne,hlist m hmm]
 by_cases hc:ch.contains i=true
 ·have hifi:i≠fi:=fun e=>by rw [e,hcf] at hc;cases hc
  obtain ⟨j,hj,hji⟩:∃ j,j<ch.length/\ch.getD j 0=i:=by
   obtain ⟨j,hj,e⟩:=List.getElem_of_mem (List.contains_iff_mem.1 hc)
   exact ⟨j,hj,by simp [hj,e]⟩
  obtain ⟨o',ho',hgn,hpre⟩:=chained_at hch hj
  rw [hji,ho] at ho'
  cases ho'
  have hjk:j=k:=by
   have h1:¬ j<k:=fun g=>by
    have:=(hlist j hj).2 g
    rw [hji,hun'] at this
    cases this
   rcases Nat.lt_or_ge k j with g | g
   ·exfalso
    obtain ⟨-,e,he,hb,heq⟩:=hpre (by omega)
    have h2:=hall e he hb
    have h3:listed.getD (ch.getD (j - 1) 0) false=true:=by rw [<- heq];exact h2
    have:=(hlist (j - 1) (by omega)).1 h3
    omega
   ·omega
  subst hjk
  have hfo:(looks gd o).contains fd=true->(if listed.getD fi false=true/\fi<ops.size then some (a.tmps[fd]?.getD undef) else none)=some (a.tmps[fd]?.getD undef):=fun hl=>by
   rcases Nat.lt_or_ge fi ops.size with g | g
   ·have hof:=hf2 ops[fi] (by simp [g])
    obtain ⟨e,he,hb,e3⟩:=hdep fi ops[fi] fd (by simp [g]) hof.1 hl
    have:=hall e he hb
    rw [e3] at this
    rw [if_pos ⟨this,g⟩]
   ·rw [hf3 g i o ho] at hl;cases hl
  have hrun:=hlink j o hj (by rw [hji];exact ho) a w _ hS hfo hF
  unfold wpOp
  have hwant:Region.wanted o (yielded (ops.push last) a.tmps)=true:=by unfold Region.wanted;rw [hgn]
  simp only [hop,hwant,if_true]
  refine .inl (hrun _ Q (fun v w' hv=>?_))
  have hdj:chd.getD j 0=d:=by rw [chd_at j hj,hji,ho,Option.bind_some,hd];rfl
  have hdc:chd.contains d=true:=by
   rw [<- hdj]
   exact contains_at (ch:=chd) (k:=j) (by rw [hcd];simpa using hj) rfl
  refine ⟨by simp [hm.size],by rw [getD_set_ne true (by omega)];exact hm.open_,by rw [hd];simp [Act.put,hm.tsize],by rw [hd];simp [Act.put,hm.defers],keepC,keepF v (fun h=>by rw [hdc] at h;cases h),j+1,by omega,fun m hmm=>?_,?_⟩
  ·by_cases e:m=j
   ·subst e;rw [hji,hset];simp
   ·have hne:i≠ch.getD m 0:=fun g=>e (chain_inj hch hmm hj (by rw [hji];exact g.symm))
    rw [getD_set_ne false hne,hlist m hmm];omega
  ·rw [hd,put_other a v (hf1 i o d ho hd hifi),getD_set_ne false hifi]
   refine hS0 _ _ _ _ _ (by omega) (fun m _=>?_) hv
   show upd _ (o.dst.getD 0) v _=_
   rw [hd]
   show upd _ d v _=_
   unfold upd
   split
   ·rename_i e;rw [e,put_self v hda]
   ·rename_i e;rw [put_other a v (fun h=>e h.symm)]
 ·have hc:ch.contains i=false:=by simpa using hc
  by_cases hif:i=fi
  ·subst hif
   obtain ⟨hdf,hgn⟩:=hf2 o ho
   have hdf:d=fd:=by rw [hd] at hdf;simpa using hdf
   subst hdf
   rw [if_neg (by rw [hun'];simp)] at hS
   have hrun:=hfree o ho a w k _ hS hF
   unfold wpOp
   have hwant:Region.wanted o (yielded (ops.push last) a.tmps)=true:=by unfold Region.wanted;rw [hgn]
   simp only [hop,hwant,if_true]
   refine .inl (hrun _ Q (fun u w' hv=>?_))
   refine ⟨by simp [hm.size],by rw [getD_set_ne true (by omega)];exact hm.open_,by rw [hd];simp [Act.put,hm.tsize],by rw [hd];simp [Act.put,hm.defers],keepC,keepF u (fun _ h=>absurd rfl h),k,hkl,keepL hc,?_⟩
   rw [hd,if_pos ⟨hset,hio⟩,put_self u hda]
   exact hS0 _ _ _ _ _ hkl (fun m h1=>by rw [put_other a u (td_ne hc m (by omega))]) hv
  ·obtain ⟨hg,hrun⟩:=hlook i o ho hc hif a w (hW _ _ _ _ hS) hF
   unfold wpOp
   simp only [hop,wanted_front hguard hg,if_true]
   refine .inl (hrun _ Q ?_)
   have hv:V (o.dst.getD 0)=V d:=by rw [hd];rfl
   refine ⟨by simp [hm.size],by rw [getD_set_ne true (by omega)];exact hm.open_,by rw [hd];simp [Act.put,hm.tsize],by rw [hd];simp [Act.put,hm.defers],keepC,keepF _ (fun _ _=>hv),k,hkl,keepL hc,?_⟩
   rw [hd,put_other a _ (hf1 i o d ho hd hif),getD_set_ne false hif]
   exact hS0 _ _ _ _ _ hkl (fun m h1=>by rw [put_other a _ (td_ne hc m (by omega))]) hS
theorem wpAny_of_midC {P:Program}{ops:Array Oper}{last:Oper}{Q:Exit->Act->World->Prop}{gd:Nat->Nat}{ch chd:List Nat}{fi fd n:Nat}{V:Nat->Value}{J:Nat->(Nat->Value)->Option Value->World->Prop}{W:World->Prop}{ds:List Deferred}
  (hfed:fed gd n ops=true) (hw:waitsT ops last=true) (hlg:last.guard=none) (hch:chained ops ch=true) (hsg:single ops=true) (hfr:freeOK gd ops fi fd=true) (hcf:ch.contains fi=false) (hcd:chd=ch.map fun i=>((ops[i]?.bind (·.dst)).getD 0)) (hW:∀ k v x w,J k v x w->W w) (hS0:∀ k g g' x w,k<=ch.length->(∀ j,j<k->g (chd.getD j 0)=g' (chd.getD j 0))->J k g x w->J k g' x w)
  (hlook:∀ (i:Nat) (o:Oper),ops[i]?=some o->ch.contains i=false->i≠fi->Look P gd chd fd V W o) (hfree:∀ o,ops[fi]?=some o->Free P gd chd fd V J o)
  (hlink:∀ (k:Nat) (o:Oper),k<ch.length->ops[ch.getD k 0]?=some o->Link P gd chd fd V (J k) (J (k+1)) o)
  (hfin:∀ a w x,a.tmps.size=n->a.defers=ds->(∀ t,chd.contains t=false->t≠fd->a.tmps[t]?.getD undef=V t)->J ch.length (fun t=>a.tmps[t]?.getD undef) x w->last.wp P a w (fun a' w'=>Q .normal a' w') Q) :
  ∀ (fuel:Nat) (listed:Array Bool) (a:Act) (w:World),listed.toList.count false<=fuel->MidC ops last ch chd fi fd V n J ds listed a w->wpAny P .any (ops.push last) Q fuel listed a w:=by
 have hw2:∀ e∈last.after,e.on<ops.size:=fun e he=>by
  have h:=hw
  unfold waitsT at h
  rw [Bool.and_eq_true,Array.all_eq_true_iff_forall_mem] at h
  simpa using h.1 e he
 have last_ready:∀ (listed:Array Bool) (a:Act) (w:World),MidC ops last ch chd fi fd V n J ds listed a w->(∀ i,i<ops.size->listed.getD i false=true)->ops.size∈Region.ready .any (ops.push last) listed:=by
  intro listed a w hm h
  exact mem_ready.2 ⟨hm.open_,last,by simp,fun e he _=>h _ (hw2 e he)⟩
 have none_left:∀ (listed:Array Bool) (a:Act) (w:World),MidC ops last ch chd fi fd V n J ds listed a w->Region.ready .any (ops.push last) listed=[]->False:=by
  intro listed a w hm hr
  have hall:∀ i,i<ops.size->listed.getD i false=true:=by
   rcases least_false listed ops.size (by rw [hm.size];omega) with h |⟨i,hi,h1,h2⟩
   ·exact h
   ·exfalso
    have hmem:i∈Region.ready .any (ops.push last) listed:=by
     refine mem_ready.2 ⟨h1,ops[i],front_at (by simp [hi]),fun e he _=>?_⟩
     exact h2 _ ((fed_at hfed (by simp [hi])).2.1 e he)
    rw [hr] at hmem
    cases hmem
  have:=last_ready listed a w hm hall
  rw [hr] at this
  cases this
 intro fuel
 induction fuel with
 | zero =>
  intro listed a w hc hm
  exfalso
  have q:=count_zero (listed:=listed) (by omega) ops.size
  rw [hm.open_] at q
  cases q
 | succ fuel ih =>
  intro listed a w hc hm
  refine ⟨fun hr=>absurd hr (fun hr=>none_left listed a w hm hr),fun i hi=>?_⟩
  have hc':=count_set (mem_ready.1 hi).1
  obtain ⟨hun,o,ho,hall⟩:=mem_ready.1 hi
  rcases push_at ho with ⟨hlt,-⟩ |⟨rfl,rfl⟩
  ·exact wpOp_mono (fun a' w' hm'=>ih _ a' w' (by omega) hm') (MidC.step hfed hch hsg hfr hcf hcd hW hS0 hlook hfree hlink hm (Array.getElem?_eq_some_iff.1 (show ops[i]?=some o by first | assumption | exact (by rcases push_at ho with ⟨-,h⟩ |⟨h,-⟩ <;> first | exact h | omega))).1 hi)
  ·have hfr2:∀ i,i<ops.size->listed.getD i false=true:=fun i hi=>waitsT_at hw hm.closed (fun e he hb=>hall e he hb) ops.size i (by omega) hi
   obtain ⟨k,hkl,hlist,hS⟩:=hm.chain
   have hk:k=ch.length:=by
    rcases Nat.lt_or_ge k ch.length with g | g
    ·obtain ⟨o2,ho2,-⟩:=chained_at hch g
     have:=(hlist k g).1 (hfr2 _ (Array.getElem?_eq_some_iff.1 ho2).1)
     omega
    ·omega
   subst hk
   have run:=hfin a w _ hm.tsize hm.defers (fun t hc hn=>hm.fact t hc hn fun i o hi _=>hfr2 i (Array.getElem?_eq_some_iff.1 hi).1) hS
   have full:∀ i,i <(ops.push o).size->(listed.setIfInBounds ops.size true).getD i true=true:=by
    intro i hi2
    by_cases e:i=ops.size
    ·subst e
     have:ops.size<listed.size:=by rw [hm.size];omega
     simp [this]
    ·rw [getD_set_ne true (by omega)]
     have hlt:i<ops.size:=by simp at hi2;omega
     have h1:=hfr2 i hlt
     have:i<listed.size:=by rw [hm.size];omega
     simpa [this] using h1
   unfold wpOp
   have hwt:Region.wanted o (yielded (ops.push o) a.tmps)=true:=by unfold Region.wanted;rw [hlg]
   simp only [ho,hwt,if_true]
   refine .inl ?_
   refine Oper.wp_mono (fun a' w' hq=>?_) run
   have hr:=ready_nil_of (ops:=ops.push o) full
   cases fuel with
   | zero=>exact ⟨hr,hq⟩
   | succ f=>exact ⟨fun _=>hq,fun i hi=>by rw [hr] at hi;cases hi⟩
def vAt (L0:List Value) (lo:Nat) (vals:List Value) (t:Nat):Value:=if t<lo then L0[t]?.getD undef else if t<lo+vals.length then vals[t - lo]?.getD undef else L0[t]?.getD undef
theorem vAt_eq (L0:List Value) (lo:Nat) (vals:List Value) (h:lo+vals.length<=L0.length) (t:Nat):(L0.take lo++(vals++L0.drop (lo+vals.length)))[t]?.getD undef=vAt L0 lo vals t:=by
 unfold vAt
 have hl:(L0.take lo).length=lo:=by simp;omega
 split
 ·rw [List.getElem?_append_left (by omega),List.getElem?_take,if_pos (by assumption)]
 ·rw [List.getElem?_append_right (by omega),hl]
  split
  ·rw [List.getElem?_append_left (by omega)]
  ·rw [List.getElem?_append_right (by omega),List.getElem?_drop]
   congr 2;omega
def Step (P:Program) (gd:Nat->Nat) (ch chd:List Nat) (fi fd:Nat) (V:Nat->Value) (J:Nat->(Nat->Value)->Option Value->World->Prop) (W:World->Prop) (i:Nat) (o:Oper):Prop :=
 (ch.contains i=false->i≠fi->Look P gd chd fd V W o)/\(i=fi->Free P gd chd fd V J o)/\∀ k,k<ch.length->ch.getD k 0=i->Link P gd chd fd V (J k) (J (k+1)) o
theorem Step.look {P:Program}{gd:Nat->Nat}{ch chd:List Nat}{fi fd:Nat}{V:Nat->Value}{J:Nat->(Nat->Value)->Option Value->World->Prop}{W:World->Prop}{i:Nat}{o:Oper}(h:ch.contains i=false) (hn:(i==fi)=false) (hl:Look P gd chd fd V W o):Step P gd ch chd fi fd V J W i o :=
 ⟨fun _ _=>hl,fun e=>absurd e (by simpa using hn),fun k hk e=>absurd ((contains_at hk e).symm.trans h) (by decide)⟩
theorem Step.free {P:Program}{gd:Nat->Nat}{ch chd:List Nat}{fi fd:Nat}{V:Nat->Value}{J:Nat->(Nat->Value)->Option Value->World->Prop}{W:World->Prop}{i:Nat}{o:Oper}(h:ch.contains i=false) (hn:i=fi) (hl:Free P gd chd fd V J o):Step P gd ch chd fi fd V J W i o :=
 ⟨fun _ g=>absurd hn g,fun _=>hl,fun k hk e=>absurd ((contains_at hk e).symm.trans h) (by decide)⟩
theorem Step.link {P:Program}{gd:Nat->Nat}{ops:Array Oper}{ch chd:List Nat}{fi fd:Nat}{V:Nat->Value}{J:Nat->(Nat->Value)->Option Value->World->Prop}{W:World->Prop}{i:Nat}{o:Oper}(hch:chained ops ch=true) (k:Nat) (hk:k<ch.length) (he:ch.getD k 0=i) (hn:(i==fi)=false)
  (hl:Link P gd chd fd V (J k) (J (k+1)) o):Step P gd ch chd fi fd V J W i o :=
 ⟨fun h=>absurd ((contains_at hk he).symm.trans h) (by decide),fun e=>absurd e (by simpa using hn),fun j hj e=>by
  obtain rfl:=chain_inj hch hj hk (e.trans he.symm)
  exact hl⟩
def AllIx (p:Nat->Oper->Prop):Nat->List Oper->Prop
 | _,[]=>True
 | k,o::l=>p k o/\AllIx p (k+1) l
theorem AllIx.at {p:Nat->Oper->Prop}:∀ {l:List Oper}{k i:Nat}{o:Oper},AllIx p k l->l[i]?=some o->p (k+i) o
 | [],_,i,o,_,h=>by simp at h
 | x::l,k,0,o,hs,h=>by simp at h;exact h ▸ hs.1
 | x::l,k,i+1,o,hs,h=>by
  have:=AllIx.at (k:=k+1) (i:=i) hs.2 (by simpa using h)
  rw [show k+(i+1)=k+1+i by omega];exact this
theorem wp_region_chainS {P:Program}{ops:Array Oper}{l:List Oper}{last:Oper}{Q:Exit->Act->World->Prop}{id:Nat}{L0:List Value}{ds:List Deferred}{w:World}(hops:ops=l.toArray.push last) (hm:P.follows .mixedOrders=true)
  (gd:Nat->Nat) (ch chd:List Nat) (fi fd lo:Nat) (vals:List Value) (fin:(Nat->Value)->List Value) (J:Nat->(Nat->Value)->Option Value->World->Prop) (W:World->Prop)
  (hlo:lo+vals.length<=L0.length) (hfed:fed gd L0.length l.toArray=true) (hw:waitsT l.toArray last=true) (hlg:last.guard=none) (hch:chained l.toArray ch=true) (hsg:single l.toArray=true) (hfr:freeOK gd l.toArray fi fd=true) (hcf:ch.contains fi=false) (hcd:chd=ch.map fun i=>((l.toArray[i]?.bind (·.dst)).getD 0))
  (hse:((List.range vals.length).all fun i=>l.any fun o=>o.dst==some (lo+i))=true)
  (hW:∀ k v x w,J k v x w->W w) (hS0:∀ k g g' x w,k<=ch.length->(∀ j,j<k->g (chd.getD j 0)=g' (chd.getD j 0))->J k g x w->J k g' x w) (hs:J 0 (fun _=>undef) none w.drew)
  (hst:chained l.toArray ch=true->AllIx (Step P gd ch chd fi fd (vAt L0 lo vals) J W) 0 l)
  (hfl:∀ g,fin g =(List.range vals.length).map fun i=>if chd.contains (lo+i)=true∨lo+i=fd then g (lo+i) else vals[i]?.getD undef)
  (hcl:(chd.all fun d=>decide (lo<=d/\d<lo+vals.length))=true) (hfd:(decide (lo<=fd/\fd<lo+vals.length) || decide (L0.length<=fd))=true)
  (hfin:∀ (g:Nat->Value) x w',J ch.length g x w'->last.wp P ⟨(L0.take lo++(fin g++L0.drop (lo+vals.length))).toArray,ds⟩ w' (fun a' w'=>Q .normal a' w') Q) :
  (Code.region id ops true).wp P Q ⟨L0.toArray,ds⟩ w:=by
 have hst:=hst hch
 subst hops
 refine wp_region_any hm (wpAny_of_midC (V:=vAt L0 lo vals) hfed hw hlg hch hsg hfr hcf hcd hW hS0 (fun i o ho hc hn=>?_) (fun o ho=>?_) (fun k o hk ho=>?_) ?_ _ _ _ _ ?_ ⟨by simp,by simp,by simp,rfl,fun i o e ho hl=>?_,fun t hc hn ht=>?_,0,Nat.zero_le _,fun j hj=>?_,?_⟩)
 ·have:=(hst.at (i:=i) (by simpa using ho)).1
  rw [Nat.zero_add] at this
  exact this hc hn
 ·have:=(hst.at (i:=fi) (by simpa using ho)).2.1
  rw [Nat.zero_add] at this
  exact this rfl
 ·have:=(hst.at (i:=ch.getD k 0) (by simpa using ho)).2.2 k hk (by rw [Nat.zero_add])
  exact this
 ·rintro ⟨tm,ds'⟩ w' x hsz hds hF hS
  simp only at hds hsz
  subst hds
  have hfg:(fin fun t=>tm[t]?.getD undef).length=vals.length:=by rw [hfl];simp
  have hcd2:∀ d∈chd,lo<=d/\d<lo+vals.length:=fun d hd=>by
   rw [List.all_eq_true] at hcl
   simpa using hcl d hd
  have E2:=fun t=>vAt_eq L0 lo (fin fun t=>tm[t]?.getD undef) (by rw [hfg];exact hlo) t
  rw [hfg] at E2
  have:tm =(L0.take lo++((fin fun t=>tm[t]?.getD undef)++L0.drop (lo+vals.length))).toArray:=by
   refine Array.ext (by rw [hsz];simp [hfg];omega) fun t h1 h2=>?_
   have e:tm[t]=tm[t]?.getD undef:=by simp [h1]
   have h3:t <(L0.take lo++((fin fun t=>tm[t]?.getD undef)++L0.drop (lo+vals.length))).length:=by simpa using h2
   have e2:(L0.take lo++((fin fun t=>tm[t]?.getD undef)++L0.drop (lo+vals.length))).toArray[t] =(L0.take lo++((fin fun t=>tm[t]?.getD undef)++L0.drop (lo+vals.length)))[t]?.getD undef:=by rw [List.getElem?_eq_getElem h3];rfl
   rw [e2,E2,e]
   unfold vAt
   rw [hfg]
   have hLt:t<L0.length:=by rw [<- hsz];exact h1
   by_cases hc:chd.contains t=true∨t=fd
   ·have hin:lo<=t/\t<lo+vals.length:=by
     rcases hc with hc | rfl
     ·exact hcd2 t (List.contains_iff_mem.1 hc)
     ·rw [Bool.or_eq_true,decide_eq_true_eq,decide_eq_true_eq] at hfd
      rcases hfd with h | h
      ·exact h
      ·omega
    rw [if_neg (by omega),if_pos hin.2,hfl,List.getElem?_map,List.getElem?_range (by omega)]
    simp only [Option.map_some,Option.getD_some]
    rw [show lo+(t - lo)=t by omega,if_pos hc]
   ·have hc1:chd.contains t=false:=by
     cases h:chd.contains t with
     | true=>exact absurd (Or.inl h) hc
     | false=>rfl
    rw [hF t hc1 (fun e=>hc (Or.inr e))]
    unfold vAt
    split
    ·rfl
    ·split
     ·rw [hfl,List.getElem?_map,List.getElem?_range (by omega)]
      simp only [Option.map_some,Option.getD_some]
      rw [show lo+(t - lo)=t by omega,if_neg hc]
     ·rfl
  rw [this]
  exact hfin (fun t=>tm[t]?.getD undef) x w' hS
 ·simp
 ·have hi:i<l.length:=by simpa using (Array.getElem?_eq_some_iff.1 ho).1
  have hi2:i<l.length+1:=by omega
  simp [hi2] at hl
 ·have e:L0.toArray[t]?.getD undef=L0[t]?.getD undef:=by simp
  rw [e]
  have hno:(l.any fun o=>o.dst==some t)=false:=by
   rw [List.any_eq_false]
   intro o ho hd
   obtain ⟨i,hi,hio⟩:=List.mem_iff_getElem.1 ho
   have:=ht i o (by simp [hi,hio]) (by simpa using hd)
   have h2:i<l.length+1:=by omega
   simp [h2] at this
  unfold vAt
  split
  ·rfl
  ·split
   ·exfalso
    rw [List.all_eq_true] at hse
    have:=hse (t - lo) (List.mem_range.2 (by omega))
    rw [show lo+(t - lo)=t by omega,hno] at this
    cases this
   ·rfl
 ·obtain ⟨o,ho,-⟩:=chained_at hch hj
  have h2:ch.getD j 0<l.length:=by simpa using (Array.getElem?_eq_some_iff.1 ho).1
  have h3:ch.getD j 0<l.length+1:=by omega
  simp only [Nat.not_lt_zero,iff_false]
  obtain ⟨x,hx⟩:∃ x,ch.getD j 0=x:=⟨_,rfl⟩
  rw [hx] at h3 ⊢
  simp [h3]
 ·rw [if_neg]
  ·exact hS0 _ _ _ _ _ (Nat.zero_le _) (fun m h1=>absurd h1 (Nat.not_lt_zero _)) hs
  ·rintro ⟨h1,h2⟩
   have h2:fi<l.length:=by simpa using h2
   have h3:fi<l.length+1:=by omega
   simp [h3] at h1
end Go.Proofs.YtalkinnbfglkdaaGreatDoor.Draw
