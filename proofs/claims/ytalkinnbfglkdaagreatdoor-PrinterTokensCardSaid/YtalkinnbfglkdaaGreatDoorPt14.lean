/-
  Layer 10: statements and nodes loaded and stored as a whole.
-/
import Derived.Test.YtalkinnbfglkdaaGreatDoorPt8
import Derived.Deep.WholeRow
namespace Go.Proofs.YtalkinnbfglkdaaGreatDoor.Syn
open Go.RowKit Go.Proofs.YtalkinnbfglkdaaGreatDoor.Shape
set_option maxRecDepth 100000
theorem ArrAt.one {w:World}{v0 v1 v2 v3:Value}{A:Arr}(h:ArrAt w (.agg #[v0,v1,v2,v3]) A):v0.oneCell'=true/\v1.oneCell'=true/\v2.oneCell'=true/\v3.oneCell'=true:=by
 cases A with | mk k sh nu it =>
 rw [ArrAt] at h
 obtain ⟨sa,sc,na,nc,ia,ic,e,-⟩:=h
 have e':[v0,v1,v2,v3]=[Value.int .i64 k,.slice sa sh.length sc,.slice na nu.length nc,.slice ia it.length ic]:=by simpa using e
 simp only [List.cons.injEq,and_true] at e'
 obtain ⟨rfl,rfl,rfl,rfl⟩:=e'
 exact ⟨rfl,rfl,rfl,rfl⟩
theorem NdV.one {w:World}{cs:List Value}{N:Nd}(h:NdV w cs N):∀ v∈cs,v.oneCell'=true:=by
 obtain ⟨v0,v1,v2,v3,ka,kc,ba,bc,kb,ko,bb,bo,O⟩:=h.open
 have e:=O.eq
 subst e
 obtain ⟨a0,a1,a2,a3⟩:=ArrAt.one O.arr
 intro v hv
 simp only [List.mem_cons,List.not_mem_nil,or_false] at hv
 rcases hv with rfl | rfl | rfl | rfl | rfl | rfl | rfl | rfl | rfl | rfl | rfl | rfl | rfl | rfl | rfl <;> first | rfl | assumption
theorem StV.one {w:World}{cs:List Value}{S:St}(h:StV w cs S):∀ v∈cs,v.oneCell'=true:=by
 cases S with | mk k a n s te nd =>
 rw [StV] at h
 obtain ⟨ct,cn,rfl,-,-,h1,h2⟩:=h
 intro v hv
 simp only [List.mem_cons,List.mem_append] at hv
 rcases hv with rfl | rfl | rfl | rfl | hv | hv
 ·rfl
 ·rfl
 ·rfl
 ·rfl
 ·exact h1.one v hv
 ·exact h2.one v hv
theorem StV.len {w:World}{cs:List Value}{S:St}(h:StV w cs S):cs.length=34:=by
 cases S;rw [StV] at h;obtain ⟨ct,cn,rfl,-,-,h1,h2⟩:=h
 simp [h1.len,h2.len]
theorem isAggStmt (w:World):(isAgg 53).run Tryz.prog w=.ok true w:=by kernel_rfl
theorem sizeStmt (w:World):(sizeOf 53).run Tryz.prog w=.ok 34 w:=by kernel_rfl
theorem load_stmt {w:World}{b off:Nat}{cs:List Value}(h:Cells w b off cs) (hl:cs.length=34) :
  (Instr.loadAt 53 (.pointer (some ⟨b,off,none⟩))).run Tryz.prog w=.ok (.agg cs.toArray) w:=by
 have e:=run_loadCells_list (P:=Tryz.prog) w ⟨b,off,none⟩ cs (fun j v hv=>by rw [Shape.add_plain];exact h.cell j hv)
 rw [hl] at e
 simp only [Instr.loadAt,Instr.sureAddr,loadVar,Sem.run_bind,Sem.run_pure,Result.andThen_ok,isAggStmt,sizeStmt,if_true,e]
theorem wpList_load_stmt {ops:Array Oper}{rest:List Oper}{o:Oper}{a:Act}{w:World}{Q:Exit->Act->World->Prop}(hgd:o.guard=none) {t:Nat}(ho:o.op=.load 53 (.tmp t)) {b off:Nat}(ht:a.tmps.getD t undef=.pointer (some ⟨b,off,none⟩))
  {cs:List Value}(h:Cells w b off cs) (hl:cs.length=34) (hk:wpList Tryz.prog ops Q rest (a.put o.dst (.agg cs.toArray)) w):wpList Tryz.prog ops Q (o::rest) a w :=
 wpList_plain hgd fun _ hK=>by
  have e:=load_stmt h hl
  have ev:a.eval (.tmp t)=.pointer (some ⟨b,off,none⟩):=ht
  unfold Oper.wp execOp
  rw [ho]
  simp only [ev,Sem.run_bind,e,Result.andThen_ok,Sem.run_pure,Oper.upon_value]
  exact hK _ _ hk
theorem store_whole {w:World}{T:TypeId}{cs:List Value}{z:Array Value}{n:Nat}(hi:(Tryz.prog.info? T).map (·.size)=some n) (hl:cs.length=n) (hz:z.size=n) (h1:∀ v∈cs,v.oneCell'=true) :
  (Instr.storeAt T (.pointer (some ⟨w.heap.size,0,none⟩)) (.agg cs.toArray)).run Tryz.prog (w.alloc (.cells z T))=.ok () (w.alloc (.cells cs.toArray T)):=by
 have hsz:∀ W:World,(sizeOf T).run Tryz.prog W=.ok n W:=by
  intro W
  cases hq:Tryz.prog.info? T with
  | none=>rw [hq] at hi;cases hi
  | some i=>rw [hq] at hi;simp at hi;simp [sizeOf,typeInfo,hq,hi]
 have e:=run_storeCells_new (P:=Tryz.prog) w T z cs.toArray (by rw [hi];simp [hl]) (by simp [hl,hz]) (by rw [Array.all_eq_true_iff_forall_mem];intro v hv;exact h1 v (by simpa using hv))
 have e2:cs.toArray.size=n:=by simpa using hl
 simp only [Instr.storeAt,Instr.sureAddr,storeVar,Sem.run_bind,Sem.run_pure,Result.andThen_ok,hsz,Value.cells,e2,ne_eq,not_true_eq_false,if_false]
 simpa using e
theorem wpList_store_whole {ops:Array Oper}{rest:List Oper}{o:Oper}{a:Act}{w:World}{Q:Exit->Act->World->Prop}(hgd:o.guard=none) {T:TypeId}{p v:Nat}(ho:o.op=.store T (.tmp p) (.tmp v)) (hp:a.tmps.getD p undef=.pointer (some ⟨w.heap.size,0,none⟩))
  {cs:List Value}(hv:a.tmps.getD v undef=.agg cs.toArray) {z:Array Value}{n:Nat}(hi:(Tryz.prog.info? T).map (·.size)=some n) (hl:cs.length=n) (hz:z.size=n) (h1:∀ v∈cs,v.oneCell'=true)
  (hk:wpList Tryz.prog ops Q rest (a.put o.dst undef) (w.alloc (.cells cs.toArray T))):wpList Tryz.prog ops Q (o::rest) a (w.alloc (.cells z T)) :=
 wpList_plain hgd fun _ hK=>by
  have e:=store_whole (w:=w) hi hl hz h1
  have ev1:a.eval (.tmp p)=.pointer (some ⟨w.heap.size,0,none⟩):=hp
  have ev2:a.eval (.tmp v)=.agg cs.toArray:=hv
  unfold Oper.wp execOp
  rw [ho]
  simp only [ev1,ev2,Sem.run_bind,e,Result.andThen_ok,Sem.run_pure,Oper.upon_skip]
  exact hK _ _ hk
theorem infoStmt:(Tryz.prog.info? 53).map (·.size)=some 34:=by kernel_rfl
theorem infoNode:(Tryz.prog.info? 49).map (·.size)=some 15:=by kernel_rfl
theorem cells_new (w:World) (cs:List Value) (t:TypeId):Cells (w.alloc (.cells cs.toArray t)) w.heap.size 0 cs:=(NPar.new w cs t).2
def NF (w:World) (B:Nat) (N:Nd) (ka:Option Addr) (kc:Nat) (ba:Option Addr) (bc:Nat):Prop:=w.cell? ⟨B,0,none⟩=some (.int .i64 N.k)/\w.cell? ⟨B,1,none⟩=some (.int .i64 N.a)/\w.cell? ⟨B,2,none⟩=some (.int .i64 N.c)/\w.cell? ⟨B,3,none⟩=some (.string N.t)/\w.cell? ⟨B,4,none⟩=some (.int .i64 N.p)/\w.cell? ⟨B,5,none⟩=some (.int .i64 N.o)/\w.cell? ⟨B,10,none⟩=some (.slice ka N.ks.length kc)/\w.cell? ⟨B,11,none⟩=some (.slice ba N.bd.length bc)/\w.cell? ⟨B,12,none⟩=some (.int .i64 N.d)/\w.cell? ⟨B,13,none⟩=some (.int .i64 N.s)/\w.cell? ⟨B,14,none⟩=some (.int .i64 N.z)
theorem NF.below {w w':World}{B:Nat}{N:Nd}{ka:Option Addr}{kc:Nat}{ba:Option Addr}{bc:Nat}(h:NF w B N ka kc ba bc) (hb:Below w.heap.size w w'):NF w' B N ka kc ba bc:=by
 obtain ⟨h0,h1,h2,h3,h4,h5,h10,h11,h12,h13,h14⟩:=h
 exact ⟨(hb.cell (cell_lt h0)).trans h0,(hb.cell (cell_lt h1)).trans h1,(hb.cell (cell_lt h2)).trans h2,(hb.cell (cell_lt h3)).trans h3,(hb.cell (cell_lt h4)).trans h4,(hb.cell (cell_lt h5)).trans h5,(hb.cell (cell_lt h10)).trans h10,(hb.cell (cell_lt h11)).trans h11,(hb.cell (cell_lt h12)).trans h12,(hb.cell (cell_lt h13)).trans h13,(hb.cell (cell_lt h14)).trans h14⟩
theorem NF.drew {w:World}{B:Nat}{N:Nd}{ka:Option Addr}{kc:Nat}{ba:Option Addr}{bc:Nat}(h:NF w B N ka kc ba bc):NF w.drew B N ka kc ba bc:=h
theorem Open.nf {w w':World}{cs:List Value}{N:Nd}{v0 v1 v2 v3:Value}{ka:Option Addr}{kc:Nat}{ba:Option Addr}{bc kb ko bb bo B:Nat}(O:Open w cs N v0 v1 v2 v3 ka kc ba bc kb ko bb bo) (h:Cells w' B 0 cs):NF w' B N ka kc ba bc:=by
 have e:=O.eq
 subst e
 exact ⟨h.zero 0 rfl,h.zero 1 rfl,h.zero 2 rfl,h.zero 3 rfl,h.zero 4 rfl,h.zero 5 rfl,h.zero 10 rfl,h.zero 11 rfl,h.zero 12 rfl,h.zero 13 rfl,h.zero 14 rfl⟩
end Go.Proofs.YtalkinnbfglkdaaGreatDoor.Syn
