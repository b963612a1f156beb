/-
  Layer 10: statements and nodes loaded and stored as a whole.
  Layer 10: the reference's inner. (Written by wip/gen/syn-r8.py.)
  Layer 10: the reference's inner. (Written by wip/gen/syn-r8.py.)
  Layer 10: the reference's inner. (Written by wip/gen/syn-r8.py.)
  Layer 10: the reference's mentions, bodyMentions, outside. (Written by wip/gen/syn-r9.py.)
  Layer 10: the reference's body. (Written by wip/gen/syn-r10.py.)
  Layer 10: the reference's lambda and valid. (Written by wip/gen/syn-r11.py.)
  Layer 10: a statement built round a node, and a slice of one statement.
-/
import Derived.Test.YtmfhdcpajgjgpaaGreatDoorPd8
import Derived.Deep.WholeRow
import Derived.Test.YtmfhdcpajgjgpaaGreatDoorPd12
set_option maxHeartbeats 40000000
namespace Go.Proofs.YtmfhdcpajgjgpaaGreatDoor.Syn
open Go.RowKit Go.Proofs.YtmfhdcpajgjgpaaGreatDoor.Shape
set_option maxRecDepth 100000
theorem ArrAt.one {w:World}{v0 v1 v2 v3:Value}{A:Arr}(h:ArrAt w (.agg #[v0,v1,v2,v3]) A):v0.oneCell'=true/\v1.oneCell'=true/\v2.oneCell'=true/\v3.oneCell'=true:=by
 cases A with | mk k sh nu it =>
 rw [ArrAt] at h
 obtain ⟨sa,sc,na,nc,ia,ic,e,-⟩:=h
 have e':[v0,v1,v2,v3]=[Value.int .i64 k,.slice sa sh.length sc,.slice na nu.length nc,.slice ia it.length ic]:=by simpa using e
 simp only [List.cons.injEq,and_true] at e'
 obtain ⟨rfl,rfl,rfl,rfl⟩:=e'
 exact ⟨rfl,rfl,rfl,rfl⟩
theorem NdV.one {w:World}{cs:List Value}{N:Nd}(h:NdV w cs N):∀ v∈cs,v.oneCell'=true:=by
 obtain ⟨v0,v1,v2,v3,ka,kc,ba,bc,kb,ko,bb,bo,O⟩:=h.open
 have e:=O.eq
 subst e
 obtain ⟨a0,a1,a2,a3⟩:=ArrAt.one O.arr
 intro v hv
 simp only [List.mem_cons,List.not_mem_nil,or_false] at hv
 rcases hv with rfl | rfl | rfl | rfl | rfl | rfl | rfl | rfl | rfl | rfl | rfl | rfl | rfl | rfl | rfl <;> first | rfl | assumption
theorem StV.one {w:World}{cs:List Value}{S:St}(h:StV w cs S):∀ v∈cs,v.oneCell'=true:=by
 cases S with | mk k a n s te nd =>
 rw [StV] at h
 obtain ⟨ct,cn,rfl,-,-,h1,h2⟩:=h
 intro v hv
 simp only [List.mem_cons,List.mem_append] at hv
 rcases hv with rfl | rfl | rfl | rfl | hv | hv
 ·rfl
 ·rfl
 ·rfl
 ·rfl
 ·exact h1.one v hv
 ·exact h2.one v hv
theorem StV.len {w:World}{cs:List Value}{S:St}(h:StV w cs S):cs.length=34:=by
 cases S;rw [StV] at h;obtain ⟨ct,cn,rfl,-,-,h1,h2⟩:=h
 simp [h1.len,h2.len]
theorem isAggStmt (w:World):(isAgg 44).run Tryz.prog w=.ok true w:=by kernel_rfl
theorem sizeStmt (w:World):(sizeOf 44).run Tryz.prog w=.ok 34 w:=by kernel_rfl
theorem load_stmt {w:World}{b off:Nat}{cs:List Value}(h:Cells w b off cs) (hl:cs.length=34) :
  (Instr.loadAt 44 (.pointer (some ⟨b,off,none⟩))).run Tryz.prog w=.ok (.agg cs.toArray) w:=by
 have e:=run_loadCells_list (P:=Tryz.prog) w ⟨b,off,none⟩ cs (fun j v hv=>by rw [Shape.add_plain];exact h.cell j hv)
 rw [hl] at e
 simp only [Instr.loadAt,Instr.sureAddr,loadVar,Sem.run_bind,Sem.run_pure,Result.andThen_ok,isAggStmt,sizeStmt,if_true,e]
theorem zZ {ops:Array Oper}{rest:List Oper}{o:Oper}{a:Act}{w:World}{Q:Exit->Act->World->Prop}(hgd:o.guard=none) {t:Nat}(ho:o.op=.load 44 (.tmp t)) {b off:Nat}(ht:a.tmps.getD t undef=.pointer (some ⟨b,off,none⟩))
  {cs:List Value}(h:Cells w b off cs) (hl:cs.length=34) (hk:wpList Tryz.prog ops Q rest (a.put o.dst (.agg cs.toArray)) w):wpList Tryz.prog ops Q (o::rest) a w :=
 wpList_plain hgd fun _ hK=>by
  have e:=load_stmt h hl
  have ev:a.eval (.tmp t)=.pointer (some ⟨b,off,none⟩):=ht
  unfold Oper.wp execOp
  rw [ho]
  simp only [ev,Sem.run_bind,e,Result.andThen_ok,Sem.run_pure,Oper.upon_value]
  exact hK _ _ hk
theorem store_whole {w:World}{T:TypeId}{cs:List Value}{z:Array Value}{n:Nat}(hi:(Tryz.prog.info? T).map (·.size)=some n) (hl:cs.length=n) (hz:z.size=n) (h1:∀ v∈cs,v.oneCell'=true) :
  (Instr.storeAt T (.pointer (some ⟨w.heap.size,0,none⟩)) (.agg cs.toArray)).run Tryz.prog (w.alloc (.cells z T))=.ok () (w.alloc (.cells cs.toArray T)):=by
 have hsz:∀ W:World,(sizeOf T).run Tryz.prog W=.ok n W:=by
  intro W
  cases hq:Tryz.prog.info? T with
  | none=>rw [hq] at hi;cases hi
  | some i=>rw [hq] at hi;simp at hi;simp [sizeOf,typeInfo,hq,hi]
 have e:=run_storeCells_new (P:=Tryz.prog) w T z cs.toArray (by rw [hi];simp [hl]) (by simp [hl,hz]) (by rw [Array.all_eq_true_iff_forall_mem];intro v hv;exact h1 v (by simpa using hv))
 have e2:cs.toArray.size=n:=by simpa using hl
 simp only [Instr.storeAt,Instr.sureAddr,storeVar,Sem.run_bind,Sem.run_pure,Result.andThen_ok,hsz,Value.cells,e2,ne_eq,not_true_eq_false,if_false]
 simpa using e
theorem zG {ops:Array Oper}{rest:List Oper}{o:Oper}{a:Act}{w:World}{Q:Exit->Act->World->Prop}(hgd:o.guard=none) {T:TypeId}{p v:Nat}(ho:o.op=.store T (.tmp p) (.tmp v)) (hp:a.tmps.getD p undef=.pointer (some ⟨w.heap.size,0,none⟩))
  {cs:List Value}(hv:a.tmps.getD v undef=.agg cs.toArray) {z:Array Value}{n:Nat}(hi:(Tryz.prog.info? T).map (·.size)=some n) (hl:cs.length=n) (hz:z.size=n) (h1:∀ v∈cs,v.oneCell'=true)
  (hk:wpList Tryz.prog ops Q rest (a.put o.dst undef) (w.alloc (.cells cs.toArray T))):wpList Tryz.prog ops Q (o::rest) a (w.alloc (.cells z T)) :=
 wpList_plain hgd fun _ hK=>by
  have e:=store_whole (w:=w) hi hl hz h1
  have ev1:a.eval (.tmp p)=.pointer (some ⟨w.heap.size,0,none⟩):=hp
  have ev2:a.eval (.tmp v)=.agg cs.toArray:=hv
  unfold Oper.wp execOp
  rw [ho]
  simp only [ev1,ev2,Sem.run_bind,e,Result.andThen_ok,Sem.run_pure,Oper.upon_skip]
  exact hK _ _ hk
theorem ky:(Tryz.prog.info? 44).map (·.size)=some 34:=by kernel_rfl
theorem zp:(Tryz.prog.info? 40).map (·.size)=some 15:=by kernel_rfl
theorem zL (w:World) (cs:List Value) (t:TypeId):Cells (w.alloc (.cells cs.toArray t)) w.heap.size 0 cs:=(NPar.new w cs t).2
def NF (w:World) (B:Nat) (N:Nd) (ka:Option Addr) (kc:Nat) (ba:Option Addr) (bc:Nat):Prop:=w.cell? ⟨B,0,none⟩=some (.int .i64 N.k)/\w.cell? ⟨B,1,none⟩=some (.int .i64 N.a)/\w.cell? ⟨B,2,none⟩=some (.int .i64 N.c)/\w.cell? ⟨B,3,none⟩=some (.string N.t)/\w.cell? ⟨B,4,none⟩=some (.int .i64 N.p)/\w.cell? ⟨B,5,none⟩=some (.int .i64 N.o)/\w.cell? ⟨B,10,none⟩=some (.slice ka N.ks.length kc)/\w.cell? ⟨B,11,none⟩=some (.slice ba N.bd.length bc)/\w.cell? ⟨B,12,none⟩=some (.int .i64 N.d)/\w.cell? ⟨B,13,none⟩=some (.int .i64 N.s)/\w.cell? ⟨B,14,none⟩=some (.int .i64 N.z)
theorem NF.below {w w':World}{B:Nat}{N:Nd}{ka:Option Addr}{kc:Nat}{ba:Option Addr}{bc:Nat}(h:NF w B N ka kc ba bc) (hb:Below w.heap.size w w'):NF w' B N ka kc ba bc:=by
 obtain ⟨h0,h1,h2,h3,h4,h5,h10,h11,h12,h13,h14⟩:=h
 exact ⟨(hb.cell (zD h0)).trans h0,(hb.cell (zD h1)).trans h1,(hb.cell (zD h2)).trans h2,(hb.cell (zD h3)).trans h3,(hb.cell (zD h4)).trans h4,(hb.cell (zD h5)).trans h5,(hb.cell (zD h10)).trans h10,(hb.cell (zD h11)).trans h11,(hb.cell (zD h12)).trans h12,(hb.cell (zD h13)).trans h13,(hb.cell (zD h14)).trans h14⟩
theorem NF.drew {w:World}{B:Nat}{N:Nd}{ka:Option Addr}{kc:Nat}{ba:Option Addr}{bc:Nat}(h:NF w B N ka kc ba bc):NF w.drew B N ka kc ba bc:=h
theorem Open.nf {w w':World}{cs:List Value}{N:Nd}{v0 v1 v2 v3:Value}{ka:Option Addr}{kc:Nat}{ba:Option Addr}{bc kb ko bb bo B:Nat}(O:Open w cs N v0 v1 v2 v3 ka kc ba bc kb ko bb bo) (h:Cells w' B 0 cs):NF w' B N ka kc ba bc:=by
 have e:=O.eq
 subst e
 exact ⟨h.zero 0 rfl,h.zero 1 rfl,h.zero 2 rfl,h.zero 3 rfl,h.zero 4 rfl,h.zero 5 rfl,h.zero 10 rfl,h.zero 11 rfl,h.zero 12 rfl,h.zero 13 rfl,h.zero 14 rfl⟩
set_option linter.unusedVariables false
set_option linter.unusedSimpArgs false
theorem innerK16 (cs:List Value) (N:Nd) (w:World) (h:NdV w cs N) (hk:N.k=16):Calls Tryz.prog 77 #[.agg cs.toArray] w fun e w'=>e=.returned (.bool (zO N))/\Below w.heap.size w w':=by
 have hN:=h
 obtain ⟨v0,v1,v2,v3,ka,kc,ba,bc,kb,ko,bb,bo,O⟩:=h.open
 have lC:=h.len
 have hC0:=zL w cs 40
 have BN:=below_new w (.cells cs.toArray 40)
 have hF0:=O.nf hC0
 obtain ⟨p0,p1,p2,p3,p4,p5,p10,p11,p12,p13,p14⟩:=id hF0
 have SE:=xf cs N _ (hN.below BN)
 have k3:(N.k==3)=false:=by rw [hk];rfl
 have k4:(N.k==4)=false:=by rw [hk];rfl
 have k5:(N.k==5)=false:=by rw [hk];rfl
 have k14:(N.k==14)=false:=by rw [hk];rfl
 have k15:(N.k==15)=false:=by rw [hk];rfl
 have k16:(N.k==16)=true:=by rw [hk];rfl
 obtain ⟨r,hr⟩:∃ r,zO N=r:=⟨_,rfl⟩
 rw [hr]
 rw [zO,if_neg (by simp [hk]),if_neg (by simp [hk]),if_neg (by simp [hk]),if_neg (by simp [hk]),if_neg (by simp [hk]),if_pos (by simp [hk])] at hr
 obtain ⟨E,hE⟩:∃ E,zF false false false false true false N=E:=⟨_,rfl⟩
 rw [hE] at SE hr
 clear hE
 have CL1:=fun w' (g:Below w.heap.size w w') {a:Option Addr}(gi:IntsAt w' a 2 [2,2])=>kT cs N a 2 [2,2] w' (hN.below g) gi
 obtain ⟨C1,hC1⟩:∃ C,clsB [2,2] N=C:=⟨_,rfl⟩
 rw [hC1] at hr
 simp only [hC1,List.length_cons,List.length_nil,Nat.reduceAdd] at CL1
 clear hC1
 have CL2:=fun w' (g:Below w.heap.size w w') {a:Option Addr}(gi:IntsAt w' a 3 [2,2,2])=>kT cs N a 3 [2,2,2] w' (hN.below g) gi
 obtain ⟨C2,hC2⟩:∃ C,clsB [2,2,2] N=C:=⟨_,rfl⟩
 rw [hC2] at hr
 simp only [hC2,List.length_cons,List.length_nil,Nat.reduceAdd] at CL2
 clear hC2
 have CL3:=fun w' (g:Below w.heap.size w w') {a:Option Addr}(gi:IntsAt w' a 3 [1,2,2])=>kT cs N a 3 [1,2,2] w' (hN.below g) gi
 obtain ⟨C3,hC3⟩:∃ C,clsB [1,2,2] N=C:=⟨_,rfl⟩
 rw [hC3] at hr
 simp only [hC3,List.length_cons,List.length_nil,Nat.reduceAdd] at CL3
 clear hC3
 clear O h hk
 cases e0:(E) with
 | false =>
  rw [e0] at SE
  obtain rfl:r=false:=by rw [<- hr,e0];simp
  clear hr
  go_enter Tryz.func77,Tryz.ntmps77
  go_wp2_with (first |(go_at_call 100;((with_reducible refine SE.mono ?_);rintro e w3 ⟨rfl,b3⟩;(have B3:=Below.then BN b3);(have hF3:=hF0.below b3);(obtain ⟨s0,s1,s2,s3,s4,s5,s10,s11,s12,s13,s14⟩:=id hF3);(have hC3:=hC0.below b3))) |((with_reducible show wpList _ _ _ (⟨_,Op.load 40 _,_,_,_,none⟩::_) _ _);refine zB rfl rfl rfl hC0 lC ?_) | fail)
  go_ret
  exact ⟨rfl,B3⟩
 | true =>
  rw [e0] at SE
  cases e1:(N.c==2) with
  | false =>
   obtain rfl:r=false:=by rw [<- hr,e0,e1];simp
   clear hr
   go_enter Tryz.func77,Tryz.ntmps77
   go_wp2_with (first |(go_at_call 100;((with_reducible refine SE.mono ?_);rintro e w3 ⟨rfl,b3⟩;(have B3:=Below.then BN b3);(have hF3:=hF0.below b3);(obtain ⟨s0,s1,s2,s3,s4,s5,s10,s11,s12,s13,s14⟩:=id hF3);(have hC3:=hC0.below b3))) |((with_reducible show wpList _ _ _ (⟨_,Op.load 40 _,_,_,_,none⟩::_) _ _);refine zB rfl rfl rfl hC0 lC ?_) | fail)
   go_ret
   exact ⟨rfl,B3⟩
  | true =>
   cases e2:(C1) with
   | false =>
    simp only [e2] at CL1
    cases e3:(C2) with
    | false =>
     simp only [e3] at CL2
     cases e4:(C3) with
     | false =>
      simp only [e4] at CL3
      obtain rfl:r=false:=by rw [<- hr,e0,e1,e2,e3,e4];simp
      clear hr
      go_enter Tryz.func77,Tryz.ntmps77
      go_wp2_with (first |(go_at_call 100;((with_reducible refine SE.mono ?_);rintro e w3 ⟨rfl,b3⟩;(have B3:=Below.then BN b3);(have hF3:=hF0.below b3);(obtain ⟨s0,s1,s2,s3,s4,s5,s10,s11,s12,s13,s14⟩:=id hF3);(have hC3:=hC0.below b3))) |((with_reducible show wpList _ _ _ (⟨_,Op.load 40 _,_,_,_,none⟩::_) _ _);refine zB rfl rfl rfl hC0 lC ?_) |((with_reducible show wpList _ _ _ (⟨_,Op.load 40 _,_,_,_,_⟩::_) _ _);refine zC rfl rfl rfl hC3 lC ?_) |((with_reducible show wpList _ _ _ (⟨_,Op.load 40 _,_,_,_,_⟩::_) _ _);refine zC rfl rfl rfl hC4 lC ?_) |((with_reducible show wpList _ _ _ (⟨_,Op.load 40 _,_,_,_,_⟩::_) _ _);refine zC rfl rfl rfl hC5 lC ?_) |(go_at_call 103;((with_reducible refine (CL1 _ (Below.then B3 (below_new _ _)) (wP _ 2 2 _ (by decide) (by decide))).mono ?_);rintro e w4 ⟨rfl,b4⟩;have B4:=Below.then (Below.then B3 (below_new _ _)) b4;(have hC4:=(hC3.below (below_new _ _)).below b4))) |(go_at_call 103;((with_reducible refine (CL2 _ (Below.then B4 (below_new _ _)) (xS _ 2 2 2 _ (by decide) (by decide) (by decide))).mono ?_);rintro e w5 ⟨rfl,b5⟩;have B5:=Below.then (Below.then B4 (below_new _ _)) b5;(have hC5:=(hC4.below (below_new _ _)).below b5))) |(go_at_call 103;((with_reducible refine (CL3 _ (Below.then B5 (below_new _ _)) (xS _ 1 2 2 _ (by decide) (by decide) (by decide))).mono ?_);rintro e w6 ⟨rfl,b6⟩;have B6:=Below.then (Below.then B5 (below_new _ _)) b6;(have hC6:=(hC5.below (below_new _ _)).below b6))) | fail)
      go_ret
      exact ⟨rfl,B6⟩
     | true =>
      simp only [e4] at CL3
      obtain rfl:r=true:=by rw [<- hr,e0,e1,e2,e3,e4];simp
      clear hr
      go_enter Tryz.func77,Tryz.ntmps77
      go_wp2_with (first |(go_at_call 100;((with_reducible refine SE.mono ?_);rintro e w3 ⟨rfl,b3⟩;(have B3:=Below.then BN b3);(have hF3:=hF0.below b3);(obtain ⟨s0,s1,s2,s3,s4,s5,s10,s11,s12,s13,s14⟩:=id hF3);(have hC3:=hC0.below b3))) |((with_reducible show wpList _ _ _ (⟨_,Op.load 40 _,_,_,_,none⟩::_) _ _);refine zB rfl rfl rfl hC0 lC ?_) |((with_reducible show wpList _ _ _ (⟨_,Op.load 40 _,_,_,_,_⟩::_) _ _);refine zC rfl rfl rfl hC3 lC ?_) |((with_reducible show wpList _ _ _ (⟨_,Op.load 40 _,_,_,_,_⟩::_) _ _);refine zC rfl rfl rfl hC4 lC ?_) |((with_reducible show wpList _ _ _ (⟨_,Op.load 40 _,_,_,_,_⟩::_) _ _);refine zC rfl rfl rfl hC5 lC ?_) |(go_at_call 103;((with_reducible refine (CL1 _ (Below.then B3 (below_new _ _)) (wP _ 2 2 _ (by decide) (by decide))).mono ?_);rintro e w4 ⟨rfl,b4⟩;have B4:=Below.then (Below.then B3 (below_new _ _)) b4;(have hC4:=(hC3.below (below_new _ _)).below b4))) |(go_at_call 103;((with_reducible refine (CL2 _ (Below.then B4 (below_new _ _)) (xS _ 2 2 2 _ (by decide) (by decide) (by decide))).mono ?_);rintro e w5 ⟨rfl,b5⟩;have B5:=Below.then (Below.then B4 (below_new _ _)) b5;(have hC5:=(hC4.below (below_new _ _)).below b5))) |(go_at_call 103;((with_reducible refine (CL3 _ (Below.then B5 (below_new _ _)) (xS _ 1 2 2 _ (by decide) (by decide) (by decide))).mono ?_);rintro e w6 ⟨rfl,b6⟩;have B6:=Below.then (Below.then B5 (below_new _ _)) b6;(have hC6:=(hC5.below (below_new _ _)).below b6))) | fail)
      go_ret
      exact ⟨rfl,B6⟩
    | true =>
     simp only [e3] at CL2
     obtain rfl:r=true:=by rw [<- hr,e0,e1,e2,e3];simp
     clear hr
     go_enter Tryz.func77,Tryz.ntmps77
     go_wp2_with (first |(go_at_call 100;((with_reducible refine SE.mono ?_);rintro e w3 ⟨rfl,b3⟩;(have B3:=Below.then BN b3);(have hF3:=hF0.below b3);(obtain ⟨s0,s1,s2,s3,s4,s5,s10,s11,s12,s13,s14⟩:=id hF3);(have hC3:=hC0.below b3))) |((with_reducible show wpList _ _ _ (⟨_,Op.load 40 _,_,_,_,none⟩::_) _ _);refine zB rfl rfl rfl hC0 lC ?_) |((with_reducible show wpList _ _ _ (⟨_,Op.load 40 _,_,_,_,_⟩::_) _ _);refine zC rfl rfl rfl hC3 lC ?_) |((with_reducible show wpList _ _ _ (⟨_,Op.load 40 _,_,_,_,_⟩::_) _ _);refine zC rfl rfl rfl hC4 lC ?_) |((with_reducible show wpList _ _ _ (⟨_,Op.load 40 _,_,_,_,_⟩::_) _ _);refine zC rfl rfl rfl hC5 lC ?_) |(go_at_call 103;((with_reducible refine (CL1 _ (Below.then B3 (below_new _ _)) (wP _ 2 2 _ (by decide) (by decide))).mono ?_);rintro e w4 ⟨rfl,b4⟩;have B4:=Below.then (Below.then B3 (below_new _ _)) b4;(have hC4:=(hC3.below (below_new _ _)).below b4))) |(go_at_call 103;((with_reducible refine (CL2 _ (Below.then B4 (below_new _ _)) (xS _ 2 2 2 _ (by decide) (by decide) (by decide))).mono ?_);rintro e w5 ⟨rfl,b5⟩;have B5:=Below.then (Below.then B4 (below_new _ _)) b5;(have hC5:=(hC4.below (below_new _ _)).below b5))) | fail)
     go_ret
     exact ⟨rfl,B5⟩
   | true =>
    simp only [e2] at CL1
    obtain rfl:r=true:=by rw [<- hr,e0,e1,e2];simp
    clear hr
    go_enter Tryz.func77,Tryz.ntmps77
    go_wp2_with (first |(go_at_call 100;((with_reducible refine SE.mono ?_);rintro e w3 ⟨rfl,b3⟩;(have B3:=Below.then BN b3);(have hF3:=hF0.below b3);(obtain ⟨s0,s1,s2,s3,s4,s5,s10,s11,s12,s13,s14⟩:=id hF3);(have hC3:=hC0.below b3))) |((with_reducible show wpList _ _ _ (⟨_,Op.load 40 _,_,_,_,none⟩::_) _ _);refine zB rfl rfl rfl hC0 lC ?_) |((with_reducible show wpList _ _ _ (⟨_,Op.load 40 _,_,_,_,_⟩::_) _ _);refine zC rfl rfl rfl hC3 lC ?_) |((with_reducible show wpList _ _ _ (⟨_,Op.load 40 _,_,_,_,_⟩::_) _ _);refine zC rfl rfl rfl hC4 lC ?_) |((with_reducible show wpList _ _ _ (⟨_,Op.load 40 _,_,_,_,_⟩::_) _ _);refine zC rfl rfl rfl hC5 lC ?_) |(go_at_call 103;((with_reducible refine (CL1 _ (Below.then B3 (below_new _ _)) (wP _ 2 2 _ (by decide) (by decide))).mono ?_);rintro e w4 ⟨rfl,b4⟩;have B4:=Below.then (Below.then B3 (below_new _ _)) b4;(have hC4:=(hC3.below (below_new _ _)).below b4))) | fail)
    go_ret
    exact ⟨rfl,B4⟩
theorem innerK15 (cs:List Value) (N:Nd) (w:World) (h:NdV w cs N) (hk:N.k=15):Calls Tryz.prog 77 #[.agg cs.toArray] w fun e w'=>e=.returned (.bool (zO N))/\Below w.heap.size w w':=by
 have hN:=h
 obtain ⟨v0,v1,v2,v3,ka,kc,ba,bc,kb,ko,bb,bo,O⟩:=h.open
 have lC:=h.len
 have hC0:=zL w cs 40
 have BN:=below_new w (.cells cs.toArray 40)
 have hF0:=O.nf hC0
 obtain ⟨p0,p1,p2,p3,p4,p5,p10,p11,p12,p13,p14⟩:=id hF0
 have SE:=xf cs N _ (hN.below BN)
 have k3:(N.k==3)=false:=by rw [hk];rfl
 have k4:(N.k==4)=false:=by rw [hk];rfl
 have k5:(N.k==5)=false:=by rw [hk];rfl
 have k14:(N.k==14)=false:=by rw [hk];rfl
 have k15:(N.k==15)=true:=by rw [hk];rfl
 have k16:(N.k==16)=false:=by rw [hk];rfl
 obtain ⟨r,hr⟩:∃ r,zO N=r:=⟨_,rfl⟩
 rw [hr]
 rw [zO,if_neg (by simp [hk]),if_neg (by simp [hk]),if_neg (by simp [hk]),if_neg (by simp [hk]),if_pos (by simp [hk])] at hr
 obtain ⟨E,hE⟩:∃ E,zF false false false false true false N=E:=⟨_,rfl⟩
 rw [hE] at SE hr
 clear hE
 have CL1:=fun w' (g:Below w.heap.size w w') {a:Option Addr}(gi:IntsAt w' a 3 [4,2,1])=>kT cs N a 3 [4,2,1] w' (hN.below g) gi
 obtain ⟨C1,hC1⟩:∃ C,clsB [4,2,1] N=C:=⟨_,rfl⟩
 rw [hC1] at hr
 simp only [hC1,List.length_cons,List.length_nil,Nat.reduceAdd] at CL1
 clear hC1
 have CL2:=fun w' (g:Below w.heap.size w w') {a:Option Addr}(gi:IntsAt w' a 3 [4,2,2])=>kT cs N a 3 [4,2,2] w' (hN.below g) gi
 obtain ⟨C2,hC2⟩:∃ C,clsB [4,2,2] N=C:=⟨_,rfl⟩
 rw [hC2] at hr
 simp only [hC2,List.length_cons,List.length_nil,Nat.reduceAdd] at CL2
 clear hC2
 have hk1:N.ks.length<=9223372036854775807:=by have:=O.kl;omega
 by_cases hz:N.ks.length=0
 ·have e0':=vb hz
  rw [e0'] at hr
  have hz':¬ ((0:Int) <(N.ks.length:Int)):=by omega
  clear O h hk e0' hz
  cases e0:(E) with
  | false =>
   rw [e0] at SE
   obtain rfl:r=false:=by rw [<- hr,e0];simp
   clear hr
   go_enter Tryz.func77,Tryz.ntmps77
   go_wp2_with (first |(go_at_call 100;((with_reducible refine SE.mono ?_);rintro e w3 ⟨rfl,b3⟩;(have B3:=Below.then BN b3);(have hF3:=hF0.below b3);(obtain ⟨s0,s1,s2,s3,s4,s5,s10,s11,s12,s13,s14⟩:=id hF3);(have hC3:=hC0.below b3))) |((with_reducible show wpList _ _ _ (⟨_,Op.load 40 _,_,_,_,none⟩::_) _ _);refine zB rfl rfl rfl hC0 lC ?_) | fail)
   go_ret
   exact ⟨rfl,B3⟩
  | true =>
   rw [e0] at SE
   cases e1:(N.c==2) with
   | false =>
    obtain rfl:r=false:=by rw [<- hr,e0,e1];simp
    clear hr
    go_enter Tryz.func77,Tryz.ntmps77
    go_wp2_with (first |(go_at_call 100;((with_reducible refine SE.mono ?_);rintro e w3 ⟨rfl,b3⟩;(have B3:=Below.then BN b3);(have hF3:=hF0.below b3);(obtain ⟨s0,s1,s2,s3,s4,s5,s10,s11,s12,s13,s14⟩:=id hF3);(have hC3:=hC0.below b3))) |((with_reducible show wpList _ _ _ (⟨_,Op.load 40 _,_,_,_,none⟩::_) _ _);refine zB rfl rfl rfl hC0 lC ?_) | fail)
    go_ret
    exact ⟨rfl,B3⟩
   | true =>
    cases e2:(C2) with
    | false =>
     simp only [e2] at CL2
     obtain rfl:r=false:=by rw [<- hr,e0,e1,e2];simp
     clear hr
     go_enter Tryz.func77,Tryz.ntmps77
     go_wp2_with (first |(go_at_call 100;((with_reducible refine SE.mono ?_);rintro e w3 ⟨rfl,b3⟩;(have B3:=Below.then BN b3);(have hF3:=hF0.below b3);(obtain ⟨s0,s1,s2,s3,s4,s5,s10,s11,s12,s13,s14⟩:=id hF3);(have hC3:=hC0.below b3))) |((with_reducible show wpList _ _ _ (⟨_,Op.load 40 _,_,_,_,none⟩::_) _ _);refine zB rfl rfl rfl hC0 lC ?_) |((with_reducible show wpList _ _ _ (⟨_,Op.load 40 _,_,_,_,_⟩::_) _ _);refine zC rfl rfl rfl hC3 lC ?_) |((with_reducible show wpList _ _ _ (⟨_,Op.load 40 _,_,_,_,_⟩::_) _ _);refine zC rfl rfl rfl hC4 lC ?_) |((with_reducible show wpList _ _ _ (⟨_,Op.load 40 _,_,_,_,_⟩::_) _ _);refine zC rfl rfl rfl hC5 lC ?_) |(go_at_call 103;((with_reducible refine (CL2 _ (Below.then B3 (below_new _ _)) (xS _ 4 2 2 _ (by decide) (by decide) (by decide))).mono ?_);rintro e w4 ⟨rfl,b4⟩;have B4:=Below.then (Below.then B3 (below_new _ _)) b4;(have hC4:=(hC3.below (below_new _ _)).below b4))) | fail)
     go_ret
     exact ⟨rfl,B4⟩
    | true =>
     simp only [e2] at CL2
     obtain rfl:r=true:=by rw [<- hr,e0,e1,e2];simp
     clear hr
     go_enter Tryz.func77,Tryz.ntmps77
     go_wp2_with (first |(go_at_call 100;((with_reducible refine SE.mono ?_);rintro e w3 ⟨rfl,b3⟩;(have B3:=Below.then BN b3);(have hF3:=hF0.below b3);(obtain ⟨s0,s1,s2,s3,s4,s5,s10,s11,s12,s13,s14⟩:=id hF3);(have hC3:=hC0.below b3))) |((with_reducible show wpList _ _ _ (⟨_,Op.load 40 _,_,_,_,none⟩::_) _ _);refine zB rfl rfl rfl hC0 lC ?_) |((with_reducible show wpList _ _ _ (⟨_,Op.load 40 _,_,_,_,_⟩::_) _ _);refine zC rfl rfl rfl hC3 lC ?_) |((with_reducible show wpList _ _ _ (⟨_,Op.load 40 _,_,_,_,_⟩::_) _ _);refine zC rfl rfl rfl hC4 lC ?_) |((with_reducible show wpList _ _ _ (⟨_,Op.load 40 _,_,_,_,_⟩::_) _ _);refine zC rfl rfl rfl hC5 lC ?_) |(go_at_call 103;((with_reducible refine (CL2 _ (Below.then B3 (below_new _ _)) (xS _ 4 2 2 _ (by decide) (by decide) (by decide))).mono ?_);rintro e w4 ⟨rfl,b4⟩;have B4:=Below.then (Below.then B3 (below_new _ _)) b4;(have hC4:=(hC3.below (below_new _ _)).below b4))) | fail)
     go_ret
     exact ⟨rfl,B4⟩
 ·have hz':(0:Int) <(N.ks.length:Int):=by omega
  have hz0:0<N.ks.length:=by omega
  have hi:=zR (ic:=kc) (k:=0) rfl O.ka hz0
  simp only [Int.ofNat_zero,Nat.zero_mul,Nat.add_zero] at hi
  obtain ⟨ds,hd,hM⟩:=O.kat.at hz0
  simp only [Nat.zero_mul,Nat.add_zero] at hd
  have e0':=vC hz0
  rw [e0'] at hr
  have TR:=fun w' (g:Below w.heap.size w w')=>takesR ds N.ks[0] w' (hM.below g)
  have lD:=hM.len
  obtain ⟨T,hT⟩:∃ T,xp N.ks[0]=T:=⟨_,rfl⟩
  rw [hT] at hr
  simp only [hT] at TR
  clear O h hk e0' hz hT hM
  cases e0:(E) with
  | false =>
   rw [e0] at SE
   obtain rfl:r=false:=by rw [<- hr,e0];simp
   clear hr
   go_enter Tryz.func77,Tryz.ntmps77
   go_wp2_with (first |(go_at_call 100;((with_reducible refine SE.mono ?_);rintro e w3 ⟨rfl,b3⟩;(have B3:=Below.then BN b3);(have hF3:=hF0.below b3);(obtain ⟨s0,s1,s2,s3,s4,s5,s10,s11,s12,s13,s14⟩:=id hF3);(have hC3:=hC0.below b3))) |((with_reducible show wpList _ _ _ (⟨_,Op.load 40 _,_,_,_,none⟩::_) _ _);refine zB rfl rfl rfl hC0 lC ?_) | fail)
   go_ret
   exact ⟨rfl,B3⟩
  | true =>
   rw [e0] at SE
   cases eT:(T) with
   | false =>
    simp only [eT] at TR
    cases e1:(N.c==2) with
    | false =>
     obtain rfl:r=false:=by rw [<- hr,e0,eT,e1];simp
     clear hr
     go_enter Tryz.func77,Tryz.ntmps77
     go_wp2_with (first |(go_at_call 100;((with_reducible refine SE.mono ?_);rintro e w3 ⟨rfl,b3⟩;(have B3:=Below.then BN b3);(have hF3:=hF0.below b3);(obtain ⟨s0,s1,s2,s3,s4,s5,s10,s11,s12,s13,s14⟩:=id hF3);(have hC3:=hC0.below b3))) |((with_reducible show wpList _ _ _ (⟨_,Op.load 40 _,_,_,_,none⟩::_) _ _);refine zB rfl rfl rfl hC0 lC ?_) |((with_reducible show wpList _ _ _ (⟨_,Op.load 40 _,_,_,_,_⟩::_) _ _);refine zC rfl rfl rfl hC3 lC ?_) |((with_reducible show wpList _ _ _ (⟨_,Op.load 40 _,_,_,_,_⟩::_) _ _);refine zC rfl rfl rfl hC4 lC ?_) |((with_reducible show wpList _ _ _ (⟨_,Op.load 40 _,_,_,_,_⟩::_) _ _);refine zC rfl rfl rfl hC5 lC ?_) |((with_reducible show wpList _ _ _ (⟨_,Op.load 40 _,_,_,_,_⟩::_) _ _);refine zC rfl rfl rfl (hd.below B3) lD ?_) |(go_at_call 104;((with_reducible refine (TR _ B3).mono ?_);rintro e w4 ⟨rfl,b4⟩;(have B4:=Below.then B3 b4);(obtain ⟨z0,z1,z2,z3,z4,z5,z10,z11,z12,z13,z14⟩:=hF3.below b4);(have hC4:=hC3.below b4))) | fail)
     go_ret
     exact ⟨rfl,B4⟩
    | true =>
     cases e2:(C2) with
     | false =>
      simp only [e2] at CL2
      obtain rfl:r=false:=by rw [<- hr,e0,eT,e1,e2];simp
      clear hr
      go_enter Tryz.func77,Tryz.ntmps77
      go_wp2_with (first |(go_at_call 100;((with_reducible refine SE.mono ?_);rintro e w3 ⟨rfl,b3⟩;(have B3:=Below.then BN b3);(have hF3:=hF0.below b3);(obtain ⟨s0,s1,s2,s3,s4,s5,s10,s11,s12,s13,s14⟩:=id hF3);(have hC3:=hC0.below b3))) |((with_reducible show wpList _ _ _ (⟨_,Op.load 40 _,_,_,_,none⟩::_) _ _);refine zB rfl rfl rfl hC0 lC ?_) |((with_reducible show wpList _ _ _ (⟨_,Op.load 40 _,_,_,_,_⟩::_) _ _);refine zC rfl rfl rfl hC3 lC ?_) |((with_reducible show wpList _ _ _ (⟨_,Op.load 40 _,_,_,_,_⟩::_) _ _);refine zC rfl rfl rfl hC4 lC ?_) |((with_reducible show wpList _ _ _ (⟨_,Op.load 40 _,_,_,_,_⟩::_) _ _);refine zC rfl rfl rfl hC5 lC ?_) |((with_reducible show wpList _ _ _ (⟨_,Op.load 40 _,_,_,_,_⟩::_) _ _);refine zC rfl rfl rfl (hd.below B3) lD ?_) |(go_at_call 104;((with_reducible refine (TR _ B3).mono ?_);rintro e w4 ⟨rfl,b4⟩;(have B4:=Below.then B3 b4);(obtain ⟨z0,z1,z2,z3,z4,z5,z10,z11,z12,z13,z14⟩:=hF3.below b4);(have hC4:=hC3.below b4))) |(go_at_call 103;((with_reducible refine (CL2 _ (Below.then B4 (below_new _ _)) (xS _ 4 2 2 _ (by decide) (by decide) (by decide))).mono ?_);rintro e w5 ⟨rfl,b5⟩;have B5:=Below.then (Below.then B4 (below_new _ _)) b5;(have hC5:=(hC4.below (below_new _ _)).below b5))) | fail)
      go_ret
      exact ⟨rfl,B5⟩
     | true =>
      simp only [e2] at CL2
      obtain rfl:r=true:=by rw [<- hr,e0,eT,e1,e2];simp
      clear hr
      go_enter Tryz.func77,Tryz.ntmps77
      go_wp2_with (first |(go_at_call 100;((with_reducible refine SE.mono ?_);rintro e w3 ⟨rfl,b3⟩;(have B3:=Below.then BN b3);(have hF3:=hF0.below b3);(obtain ⟨s0,s1,s2,s3,s4,s5,s10,s11,s12,s13,s14⟩:=id hF3);(have hC3:=hC0.below b3))) |((with_reducible show wpList _ _ _ (⟨_,Op.load 40 _,_,_,_,none⟩::_) _ _);refine zB rfl rfl rfl hC0 lC ?_) |((with_reducible show wpList _ _ _ (⟨_,Op.load 40 _,_,_,_,_⟩::_) _ _);refine zC rfl rfl rfl hC3 lC ?_) |((with_reducible show wpList _ _ _ (⟨_,Op.load 40 _,_,_,_,_⟩::_) _ _);refine zC rfl rfl rfl hC4 lC ?_) |((with_reducible show wpList _ _ _ (⟨_,Op.load 40 _,_,_,_,_⟩::_) _ _);refine zC rfl rfl rfl hC5 lC ?_) |((with_reducible show wpList _ _ _ (⟨_,Op.load 40 _,_,_,_,_⟩::_) _ _);refine zC rfl rfl rfl (hd.below B3) lD ?_) |(go_at_call 104;((with_reducible refine (TR _ B3).mono ?_);rintro e w4 ⟨rfl,b4⟩;(have B4:=Below.then B3 b4);(obtain ⟨z0,z1,z2,z3,z4,z5,z10,z11,z12,z13,z14⟩:=hF3.below b4);(have hC4:=hC3.below b4))) |(go_at_call 103;((with_reducible refine (CL2 _ (Below.then B4 (below_new _ _)) (xS _ 4 2 2 _ (by decide) (by decide) (by decide))).mono ?_);rintro e w5 ⟨rfl,b5⟩;have B5:=Below.then (Below.then B4 (below_new _ _)) b5;(have hC5:=(hC4.below (below_new _ _)).below b5))) | fail)
      go_ret
      exact ⟨rfl,B5⟩
   | true =>
    simp only [eT] at TR
    cases e1:(N.c==2) with
    | false =>
     obtain rfl:r=false:=by rw [<- hr,e0,eT,e1];simp
     clear hr
     go_enter Tryz.func77,Tryz.ntmps77
     go_wp2_with (first |(go_at_call 100;((with_reducible refine SE.mono ?_);rintro e w3 ⟨rfl,b3⟩;(have B3:=Below.then BN b3);(have hF3:=hF0.below b3);(obtain ⟨s0,s1,s2,s3,s4,s5,s10,s11,s12,s13,s14⟩:=id hF3);(have hC3:=hC0.below b3))) |((with_reducible show wpList _ _ _ (⟨_,Op.load 40 _,_,_,_,none⟩::_) _ _);refine zB rfl rfl rfl hC0 lC ?_) |((with_reducible show wpList _ _ _ (⟨_,Op.load 40 _,_,_,_,_⟩::_) _ _);refine zC rfl rfl rfl hC3 lC ?_) |((with_reducible show wpList _ _ _ (⟨_,Op.load 40 _,_,_,_,_⟩::_) _ _);refine zC rfl rfl rfl hC4 lC ?_) |((with_reducible show wpList _ _ _ (⟨_,Op.load 40 _,_,_,_,_⟩::_) _ _);refine zC rfl rfl rfl hC5 lC ?_) |((with_reducible show wpList _ _ _ (⟨_,Op.load 40 _,_,_,_,_⟩::_) _ _);refine zC rfl rfl rfl (hd.below B3) lD ?_) |(go_at_call 104;((with_reducible refine (TR _ B3).mono ?_);rintro e w4 ⟨rfl,b4⟩;(have B4:=Below.then B3 b4);(obtain ⟨z0,z1,z2,z3,z4,z5,z10,z11,z12,z13,z14⟩:=hF3.below b4);(have hC4:=hC3.below b4))) | fail)
     go_ret
     exact ⟨rfl,B4⟩
    | true =>
     cases e2:(C1) with
     | false =>
      simp only [e2] at CL1
      obtain rfl:r=false:=by rw [<- hr,e0,eT,e1,e2];simp
      clear hr
      go_enter Tryz.func77,Tryz.ntmps77
      go_wp2_with (first |(go_at_call 100;((with_reducible refine SE.mono ?_);rintro e w3 ⟨rfl,b3⟩;(have B3:=Below.then BN b3);(have hF3:=hF0.below b3);(obtain ⟨s0,s1,s2,s3,s4,s5,s10,s11,s12,s13,s14⟩:=id hF3);(have hC3:=hC0.below b3))) |((with_reducible show wpList _ _ _ (⟨_,Op.load 40 _,_,_,_,none⟩::_) _ _);refine zB rfl rfl rfl hC0 lC ?_) |((with_reducible show wpList _ _ _ (⟨_,Op.load 40 _,_,_,_,_⟩::_) _ _);refine zC rfl rfl rfl hC3 lC ?_) |((with_reducible show wpList _ _ _ (⟨_,Op.load 40 _,_,_,_,_⟩::_) _ _);refine zC rfl rfl rfl hC4 lC ?_) |((with_reducible show wpList _ _ _ (⟨_,Op.load 40 _,_,_,_,_⟩::_) _ _);refine zC rfl rfl rfl hC5 lC ?_) |((with_reducible show wpList _ _ _ (⟨_,Op.load 40 _,_,_,_,_⟩::_) _ _);refine zC rfl rfl rfl (hd.below B3) lD ?_) |(go_at_call 104;((with_reducible refine (TR _ B3).mono ?_);rintro e w4 ⟨rfl,b4⟩;(have B4:=Below.then B3 b4);(obtain ⟨z0,z1,z2,z3,z4,z5,z10,z11,z12,z13,z14⟩:=hF3.below b4);(have hC4:=hC3.below b4))) |(go_at_call 103;((with_reducible refine (CL1 _ (Below.then B4 (below_new _ _)) (xS _ 4 2 1 _ (by decide) (by decide) (by decide))).mono ?_);rintro e w5 ⟨rfl,b5⟩;have B5:=Below.then (Below.then B4 (below_new _ _)) b5;(have hC5:=(hC4.below (below_new _ _)).below b5))) | fail)
      go_ret
      exact ⟨rfl,B5⟩
     | true =>
      simp only [e2] at CL1
      obtain rfl:r=true:=by rw [<- hr,e0,eT,e1,e2];simp
      clear hr
      go_enter Tryz.func77,Tryz.ntmps77
      go_wp2_with (first |(go_at_call 100;((with_reducible refine SE.mono ?_);rintro e w3 ⟨rfl,b3⟩;(have B3:=Below.then BN b3);(have hF3:=hF0.below b3);(obtain ⟨s0,s1,s2,s3,s4,s5,s10,s11,s12,s13,s14⟩:=id hF3);(have hC3:=hC0.below b3))) |((with_reducible show wpList _ _ _ (⟨_,Op.load 40 _,_,_,_,none⟩::_) _ _);refine zB rfl rfl rfl hC0 lC ?_) |((with_reducible show wpList _ _ _ (⟨_,Op.load 40 _,_,_,_,_⟩::_) _ _);refine zC rfl rfl rfl hC3 lC ?_) |((with_reducible show wpList _ _ _ (⟨_,Op.load 40 _,_,_,_,_⟩::_) _ _);refine zC rfl rfl rfl hC4 lC ?_) |((with_reducible show wpList _ _ _ (⟨_,Op.load 40 _,_,_,_,_⟩::_) _ _);refine zC rfl rfl rfl hC5 lC ?_) |((with_reducible show wpList _ _ _ (⟨_,Op.load 40 _,_,_,_,_⟩::_) _ _);refine zC rfl rfl rfl (hd.below B3) lD ?_) |(go_at_call 104;((with_reducible refine (TR _ B3).mono ?_);rintro e w4 ⟨rfl,b4⟩;(have B4:=Below.then B3 b4);(obtain ⟨z0,z1,z2,z3,z4,z5,z10,z11,z12,z13,z14⟩:=hF3.below b4);(have hC4:=hC3.below b4))) |(go_at_call 103;((with_reducible refine (CL1 _ (Below.then B4 (below_new _ _)) (xS _ 4 2 1 _ (by decide) (by decide) (by decide))).mono ?_);rintro e w5 ⟨rfl,b5⟩;have B5:=Below.then (Below.then B4 (below_new _ _)) b5;(have hC5:=(hC4.below (below_new _ _)).below b5))) | fail)
      go_ret
      exact ⟨rfl,B5⟩
theorem innerR (cs:List Value) (N:Nd) (w:World) (h:NdV w cs N):Calls Tryz.prog 77 #[.agg cs.toArray] w fun e w'=>e=.returned (.bool (zO N))/\Below w.heap.size w w':=by
 by_cases h3:N.k=3
 ·exact innerK3 cs N w h h3
 by_cases h4:N.k=4
 ·exact innerK4 cs N w h h4
 by_cases h5:N.k=5
 ·exact innerK5 cs N w h h5
 by_cases h14:N.k=14
 ·exact innerK14 cs N w h h14
 by_cases h15:N.k=15
 ·exact innerK15 cs N w h h15
 by_cases h16:N.k=16
 ·exact innerK16 cs N w h h16
 exact innerNo cs N w h ⟨h3,h4,h5,h14,h15,h16⟩
theorem menN_eq (x:Int) (N:Nd):menN x N =(N.k==x || menK x N.ks):=by cases N;rw [menN];rfl
theorem menK_at {x:Int}:∀ {l:List Nd}{j:Nat}(h:j<l.length),menN x l[j]=true->menK x l=true
 | [],_,h,_=>absurd h (by simp)
 | N::r,0,_,h=>by rw [menK];simp at h;rw [h];rfl
 | N::r,j+1,h,g=>by rw [menK,menK_at (l:=r) (by simpa using h) (by simpa using g),Bool.or_true]
theorem menK_no {x:Int}:∀ {l:List Nd},(∀ i (h:i<l.length),menN x l[i]=false)->menK x l=false
 | [],_=>by rw [menK]
 | N::r,h=>by
  have h0:=h 0 (by simp)
  simp only [List.getElem_cons_zero] at h0
  rw [menK,h0,menK_no (l:=r) (fun i hi=>by simpa using h (i+1) (Nat.succ_lt_succ hi))];rfl
theorem menB_at {x:Int}{l:List St}{j:Nat}(h:j<l.length) (g:(menN x l[j].te || menN x l[j].nd)=true):menB x l=true:=by
 rw [menB,List.any_eq_true];exact ⟨l[j],List.getElem_mem h,g⟩
theorem menB_no {x:Int}{l:List St}(h:∀ i (hi:i<l.length),(menN x l[i].te || menN x l[i].nd)=false):menB x l=false:=by
 rw [menB,List.any_eq_false];intro S hS
 obtain ⟨i,hi,rfl⟩:=List.mem_iff_getElem.1 hS
 rw [h i hi];exact Bool.false_ne_true
def MenR (r:Nat):Prop:=∀ (cs:List Value) (N:Nd) (x:Int) (w:World),rkN N<r->NdV w cs N ->
 Calls Tryz.prog 80 #[.agg cs.toArray,.int .i64 x] w fun e w'=>e=.returned (.bool (menN x N))/\Below w.heap.size w w'
theorem menR_step (r:Nat) (ih:MenR r):MenR (r+1):=by
 intro cs N x w hr h
 unfold MenR at ih
 obtain ⟨v0,v1,v2,v3,ka,kc,ba,bc,kb,ko,bb,bo,O⟩:=h.open
 have he:=O.eq
 subst he
 have hP:=NPar.new w [.int .i64 N.k,.int .i64 N.a,.int .i64 N.c,.string N.t,.int .i64 N.p,.int .i64 N.o,v0,v1,v2,v3,.slice ka N.ks.length kc,.slice ba N.bd.length bc,.int .i64 N.d,.int .i64 N.s,.int .i64 N.z] 40
 have BN:=below_new w (.cells [.int .i64 N.k,.int .i64 N.a,.int .i64 N.c,.string N.t,.int .i64 N.p,.int .i64 N.o,v0,v1,v2,v3,.slice ka N.ks.length kc,.slice ba N.bd.length bc,.int .i64 N.d,.int .i64 N.s,.int .i64 N.z].toArray 40)
 obtain ⟨p0,p1,p2,p3,p4,p5,p6,p7,p8,p9,p10,p11,p12,p13,p14⟩:=hP.fip
 have hk1:N.ks.length<=9223372036854775807:=by have:=O.kl;omega
 have HQ:Hid (menN x N =(N.k==x || menK x N.ks)):=menN_eq x N
 cases ck:(N.k==x) with
 | true =>
  have HF:Hid (menN x N=true):=by unfold Hid;rw [HQ.out,ck];rfl
  clear ih O h HQ
  go_enter Tryz.func80,Tryz.ntmps80
  go_wp2
  go_ret
  exact ⟨ret_bool HF.out.symm,BN⟩
 | false =>
  have HK:Hid (menN x N=menK x N.ks):=by unfold Hid;rw [HQ.out,ck];rfl
  clear HQ
  go_enter Tryz.func80,Tryz.ntmps80
  go_wp2
  clear p0 p1 p2 p3 p4 p5 p6 p7 p8 p9 p10 p11 p12 p13 p14 ck
  go_loopw [5] (fun i wr=>∃ j:Nat,j<=N.ks.length/\i=.int .i64 j/\NPar wr w.heap.size [.int .i64 N.k,.int .i64 N.a,.int .i64 N.c,.string N.t,.int .i64 N.p,.int .i64 N.o,v0,v1,v2,v3,.slice ka N.ks.length kc,.slice ba N.bd.length bc,.int .i64 N.d,.int .i64 N.s,.int .i64 N.z]/\Below w.heap.size w wr/\∀ i (h1:i<N.ks.length),i<j->menN x N.ks[i]=false) (fun i _=>N.ks.length - (intOf i).toNat)
  case atStart=>exact ⟨0,Nat.zero_le _,rfl,hP,BN,fun j _ hj=>absurd hj (Nat.not_lt_zero _)⟩
  case round =>
   obtain ⟨j,hj,rfl,hP,hb,he⟩:=hrel
   have HE:Hid (∀ i (h1:i<N.ks.length),i<j->menN x N.ks[i]=false):=he
   clear he
   obtain ⟨-,-,-,-,-,-,-,-,-,-,p10,p11,-,-,-⟩:=hP.fip
   by_cases hlt:j<N.ks.length
   ·have hi:=zR (ic:=kc) rfl O.ka hlt
    obtain ⟨cs,hc,hN⟩:=(NdsAt.below hb O.kat).at hlt
    have l1:=hN.len
    have IH:=ih cs N.ks[j] x wr (by have:=zk N hlt;omega) hN
    cases cm:menN x N.ks[j] with
    | true =>
     have HF:Hid (menN x N=true):=by unfold Hid;rw [HK.out,menK_at hlt cm]
     rw [cm] at IH
     clear ih O h hN HK
     go_wp2_with (first |(refine zB rfl rfl rfl hc l1 ?_) |(go_at_call 80;((with_reducible refine IH.mono ?_);rintro e w2 ⟨rfl,b2⟩)))
     go_ret
     exact ⟨ret_bool HF.out.symm,Below.then hb b2⟩
    | false =>
     have HC:Hid (menN x N.ks[j]=false):=cm
     rw [cm] at IH
     clear ih O h hN HK cm
     go_wp2_with (first |(refine zB rfl rfl rfl hc l1 ?_) |(go_at_call 80;((with_reducible refine IH.mono ?_);rintro e w2 ⟨rfl,b2⟩)))
     go_roundw
     case rel=>exact ⟨j+1,by omega,by go_num,hP.below b2,Below.then hb b2,fun i h1 hi=>by
      by_cases e:i=j
      ·subst e;exact HC.out
      ·exact HE.out i h1 (by omega)⟩
     case measure=>simp [intOf];omega
   ·obtain rfl:j=N.ks.length:=by omega
    have HF:Hid (menN x N=false):=by unfold Hid;rw [HK.out];exact menK_no (fun i hi=>HE.out i hi hi)
    clear ih
    go_wp2_with fail
    go_ret
    exact ⟨ret_bool HF.out.symm,hb⟩
theorem menR_all:∀ r,MenR r
 | 0=>fun cs N x w hr=>absurd hr (Nat.not_lt_zero _)
 | r+1=>menR_step r (menR_all r)
theorem menR (cs:List Value) (N:Nd) (x:Int) (w:World) (h:NdV w cs N) :
  Calls Tryz.prog 80 #[.agg cs.toArray,.int .i64 x] w fun e w'=>e=.returned (.bool (menN x N))/\Below w.heap.size w w' :=
 menR_all (rkN N+1) cs N x w (Nat.lt_succ_self _) h
theorem menBR (ba:Option Addr) (bc bb bo:Nat) (l:List St) (x:Int) (w:World) (ha:l≠[]->ba=some ⟨bb,bo,none⟩) (hat:StsAt w bb bo l) (hl:l.length<=9223372036854775807) :
  Calls Tryz.prog 55 #[.slice ba l.length bc,.int .i64 x] w fun e w'=>e=.returned (.bool (menB x l))/\Below w.heap.size w w':=by
 go_enter Tryz.func55,Tryz.ntmps55
 go_wp2
 go_loopw [5] (fun i wr=>∃ j:Nat,j<=l.length/\i=.int .i64 j/\Below w.heap.size w wr/\∀ i (h1:i<l.length),i<j->(menN x l[i].te || menN x l[i].nd)=false) (fun i _=>l.length - (intOf i).toNat)
 case atStart=>exact ⟨0,Nat.zero_le _,rfl,Below.refl _ _,fun j _ hj=>absurd hj (Nat.not_lt_zero _)⟩
 case round =>
  obtain ⟨j,hj,rfl,hb,he⟩:=hrel
  have HE:Hid (∀ i (h1:i<l.length),i<j->(menN x l[i].te || menN x l[i].nd)=false):=he
  clear he
  by_cases hlt:j<l.length
  ·have hi:=zg (ic:=bc) rfl ha hlt
   have hS:=(StsAt.below hb hat).at hlt
   obtain ⟨cs,hc,hN⟩:=hS.test
   obtain ⟨ds,hd,hM⟩:=hS.node
   have l1:=hN.len
   have l2:=hM.len
   obtain ⟨c0,c1,c2,c3,c4,c5,c6,c7,c8,c9,c10,c11,c12,c13,c14,rfl⟩:=kI l1
   obtain ⟨d0,d1,d2,d3,d4,d5,d6,d7,d8,d9,d10,d11,d12,d13,d14,rfl⟩:=kI l2
   obtain ⟨m0,m1,m2,m3,m4,m5,m6,m7,m8,m9,m10,m11,m12,m13,m14⟩:=hc.fif
   have IH1:=menR _ l[j].te x wr hN
   have IH2:=fun w' (g:Below wr.heap.size wr w')=>menR _ l[j].nd x w' (hM.below g)
   cases cm:menN x l[j].te with
   | true =>
    have HF:Hid (menB x l=true):=by unfold Hid;exact menB_at hlt (by rw [cm];rfl)
    rw [cm] at IH1
    clear hS hN hM
    go_wp2_with (first |(go_at_call 80;((with_reducible refine IH1.mono ?_);rintro e w2 ⟨rfl,b2⟩)))
    go_ret
    exact ⟨ret_bool HF.out.symm,Below.then hb b2⟩
   | false =>
    rw [cm] at IH1
    cases cn:menN x l[j].nd with
    | true =>
     have HF:Hid (menB x l=true):=by unfold Hid;exact menB_at hlt (by rw [cn,Bool.or_true])
     simp only [cn] at IH2
     clear hS hN hM
     go_wp2_with (first |(go_at_call 80;((with_reducible refine IH1.mono ?_);rintro e w2 ⟨rfl,b2⟩;(obtain ⟨n0,n1,n2,n3,n4,n5,n6,n7,n8,n9,n10,n11,n12,n13,n14⟩:=(hd.below b2).fif))) |(go_at_call 80;((with_reducible refine (IH2 _ b2).mono ?_);rintro e w3 ⟨rfl,b3⟩)))
     go_ret
     exact ⟨ret_bool HF.out.symm,Below.then (Below.then hb b2) b3⟩
    | false =>
     have HC:Hid ((menN x l[j].te || menN x l[j].nd)=false):=by unfold Hid;rw [cm,cn];rfl
     simp only [cn] at IH2
     clear hS hN hM cm cn
     go_wp2_with (first |(go_at_call 80;((with_reducible refine IH1.mono ?_);rintro e w2 ⟨rfl,b2⟩;(obtain ⟨n0,n1,n2,n3,n4,n5,n6,n7,n8,n9,n10,n11,n12,n13,n14⟩:=(hd.below b2).fif))) |(go_at_call 80;((with_reducible refine (IH2 _ b2).mono ?_);rintro e w3 ⟨rfl,b3⟩)))
     go_roundw
     case rel=>exact ⟨j+1,by omega,by go_num,Below.then (Below.then hb b2) b3,fun i h1 hi=>by
      by_cases e:i=j
      ·subst e;exact HC.out
      ·exact HE.out i h1 (by omega)⟩
     case measure=>simp [intOf];omega
  ·obtain rfl:j=l.length:=by omega
   have HF:Hid (menB x l=false):=menB_no (fun i hi=>HE.out i hi hi)
   go_wp2_with fail
   go_ret
   exact ⟨ret_bool HF.out.symm,hb⟩
theorem grd_at {l:List St}{j:Nat}(h:j<l.length) (g:(l[j].k==3)=true):outB l=false:=by
 rw [outB,List.any_eq_true.2 ⟨l[j],List.getElem_mem h,g⟩];rfl
theorem grd_no {l:List St}(h:∀ i (hi:i<l.length),(l[i].k==3)=false):(l.any fun S=>S.k==3)=false:=by
 rw [List.any_eq_false];intro S hS
 obtain ⟨i,hi,rfl⟩:=List.mem_iff_getElem.1 hS
 rw [h i hi];exact Bool.false_ne_true
theorem outR (ba:Option Addr) (bc bb bo:Nat) (l:List St) (w:World) (ha:l≠[]->ba=some ⟨bb,bo,none⟩) (hat:StsAt w bb bo l) (hl:l.length<=9223372036854775807) :
  Calls Tryz.prog 34 #[.slice ba l.length bc] w fun e w'=>e=.returned (.bool (outB l))/\Below w.heap.size w w':=by
 go_enter Tryz.func34,Tryz.ntmps34
 go_wp2
 go_loopw [3] (fun i wr=>∃ j:Nat,j<=l.length/\i=.int .i64 j/\Below w.heap.size w wr/\∀ i (h1:i<l.length),i<j->(l[i].k==3)=false) (fun i _=>l.length - (intOf i).toNat)
 case atStart=>exact ⟨0,Nat.zero_le _,rfl,Below.refl _ _,fun j _ hj=>absurd hj (Nat.not_lt_zero _)⟩
 case round =>
  obtain ⟨j,hj,rfl,hb,he⟩:=hrel
  have HE:Hid (∀ i (h1:i<l.length),i<j->(l[i].k==3)=false):=he
  clear he
  by_cases hlt:j<l.length
  ·have hi:=zg (ic:=bc) rfl ha hlt
   have hS:=((StsAt.below hb hat).at hlt).head.1
   cases c3:(l[j].k==3) with
   | true =>
    have HF:Hid (outB l=false):=grd_at hlt c3
    go_wp2_with fail
    go_ret
    exact ⟨ret_bool HF.out.symm,hb⟩
   | false =>
    have HC:Hid ((l[j].k==3)=false):=c3
    go_wp2_with fail
    go_roundw
    case rel=>exact ⟨j+1,by omega,by go_num,hb,fun i h1 hi=>by
     by_cases e:i=j
     ·subst e;exact HC.out
     ·exact HE.out i h1 (by omega)⟩
    case measure=>simp [intOf];omega
  ·obtain rfl:j=l.length:=by omega
   have HG:Hid ((l.any fun S=>S.k==3)=false):=grd_no (fun i hi=>HE.out i hi hi)
   have M:=fun x w' (g:Below wr.heap.size wr w')=>menBR ba bc bb bo l x w' ha (StsAt.below g (StsAt.below hb hat)) hl
   have HO:Hid (outB l =(!menB 12 l&&!menB 13 l&&!menB 6 l&&!menB 7 l&&!menB 11 l)):=by unfold Hid;rw [outB,HG.out];rfl
   clear HE HG
   have M0:=M 12
   cases e0:menB 12 l with
   | true =>
    simp only [e0] at M0
    have HF:Hid (outB l=false):=by unfold Hid;rw [HO.out,e0];simp
    clear HO M
    go_wp2_with (first |(go_at_call 55;((with_reducible refine (M0 _ (Below.refl _ _)).mono ?_);rintro e w2 ⟨rfl,a2⟩;have b2:=a2)))
    go_ret
    exact ⟨ret_bool HF.out.symm,Below.then hb b2⟩
   | false =>
    simp only [e0] at M0
    have M1:=M 13
    cases e1:menB 13 l with
    | true =>
     simp only [e1] at M1
     have HF:Hid (outB l=false):=by unfold Hid;rw [HO.out,e0,e1];simp
     clear HO M
     go_wp2_with (first |(go_at_call 55;((with_reducible refine (M0 _ (Below.refl _ _)).mono ?_);rintro e w2 ⟨rfl,a2⟩;have b2:=a2)) |(go_at_call 55;((with_reducible refine (M1 _ b2).mono ?_);rintro e w3 ⟨rfl,a3⟩;have b3:=Below.then b2 a3)))
     go_ret
     exact ⟨ret_bool HF.out.symm,Below.then hb b3⟩
    | false =>
     simp only [e1] at M1
     have M2:=M 6
     cases e2:menB 6 l with
     | true =>
      simp only [e2] at M2
      have HF:Hid (outB l=false):=by unfold Hid;rw [HO.out,e0,e1,e2];simp
      clear HO M
      go_wp2_with (first |(go_at_call 55;((with_reducible refine (M0 _ (Below.refl _ _)).mono ?_);rintro e w2 ⟨rfl,a2⟩;have b2:=a2)) |(go_at_call 55;((with_reducible refine (M1 _ b2).mono ?_);rintro e w3 ⟨rfl,a3⟩;have b3:=Below.then b2 a3)) |(go_at_call 55;((with_reducible refine (M2 _ b3).mono ?_);rintro e w4 ⟨rfl,a4⟩;have b4:=Below.then b3 a4)))
      go_ret
      exact ⟨ret_bool HF.out.symm,Below.then hb b4⟩
     | false =>
      simp only [e2] at M2
      have M3:=M 7
      cases e3:menB 7 l with
      | true =>
       simp only [e3] at M3
       have HF:Hid (outB l=false):=by unfold Hid;rw [HO.out,e0,e1,e2,e3];simp
       clear HO M
       go_wp2_with (first |(go_at_call 55;((with_reducible refine (M0 _ (Below.refl _ _)).mono ?_);rintro e w2 ⟨rfl,a2⟩;have b2:=a2)) |(go_at_call 55;((with_reducible refine (M1 _ b2).mono ?_);rintro e w3 ⟨rfl,a3⟩;have b3:=Below.then b2 a3)) |(go_at_call 55;((with_reducible refine (M2 _ b3).mono ?_);rintro e w4 ⟨rfl,a4⟩;have b4:=Below.then b3 a4)) |(go_at_call 55;((with_reducible refine (M3 _ b4).mono ?_);rintro e w5 ⟨rfl,a5⟩;have b5:=Below.then b4 a5)))
       go_ret
       exact ⟨ret_bool HF.out.symm,Below.then hb b5⟩
      | false =>
       simp only [e3] at M3
       have M4:=M 11
       cases e4:menB 11 l with
       | true =>
        simp only [e4] at M4
        have HF:Hid (outB l=false):=by unfold Hid;rw [HO.out,e0,e1,e2,e3,e4];simp
        clear HO M
        go_wp2_with (first |(go_at_call 55;((with_reducible refine (M0 _ (Below.refl _ _)).mono ?_);rintro e w2 ⟨rfl,a2⟩;have b2:=a2)) |(go_at_call 55;((with_reducible refine (M1 _ b2).mono ?_);rintro e w3 ⟨rfl,a3⟩;have b3:=Below.then b2 a3)) |(go_at_call 55;((with_reducible refine (M2 _ b3).mono ?_);rintro e w4 ⟨rfl,a4⟩;have b4:=Below.then b3 a4)) |(go_at_call 55;((with_reducible refine (M3 _ b4).mono ?_);rintro e w5 ⟨rfl,a5⟩;have b5:=Below.then b4 a5)) |(go_at_call 55;((with_reducible refine (M4 _ b5).mono ?_);rintro e w6 ⟨rfl,a6⟩;have b6:=Below.then b5 a6)))
        go_ret
        exact ⟨ret_bool HF.out.symm,Below.then hb b6⟩
       | false =>
        simp only [e4] at M4
        have HF:Hid (outB l=true):=by unfold Hid;rw [HO.out,e0,e1,e2,e3,e4];simp
        clear HO M
        go_wp2_with (first |(go_at_call 55;((with_reducible refine (M0 _ (Below.refl _ _)).mono ?_);rintro e w2 ⟨rfl,a2⟩;have b2:=a2)) |(go_at_call 55;((with_reducible refine (M1 _ b2).mono ?_);rintro e w3 ⟨rfl,a3⟩;have b3:=Below.then b2 a3)) |(go_at_call 55;((with_reducible refine (M2 _ b3).mono ?_);rintro e w4 ⟨rfl,a4⟩;have b4:=Below.then b3 a4)) |(go_at_call 55;((with_reducible refine (M3 _ b4).mono ?_);rintro e w5 ⟨rfl,a5⟩;have b5:=Below.then b4 a5)) |(go_at_call 55;((with_reducible refine (M4 _ b5).mono ?_);rintro e w6 ⟨rfl,a6⟩;have b6:=Below.then b5 a6)))
        go_ret
        exact ⟨ret_bool HF.out.symm,Below.then hb b6⟩
theorem okL_at:∀ {l:List St}{j:Nat}(h:j<l.length),okS l[j]=false->okL l=false
 | [],_,h,_=>absurd h (by simp)
 | S::r,0,_,h=>by rw [okL];simp at h;rw [h];rfl
 | S::r,j+1,h,g=>by rw [okL,okL_at (l:=r) (by simpa using h) (by simpa using g),Bool.and_false]
theorem okL_all:∀ {l:List St},(∀ i (h:i<l.length),okS l[i]=true)->okL l=true
 | [],_=>by rw [okL]
 | S::r,h=>by
  have h0:=h 0 (by simp)
  simp only [List.getElem_cons_zero] at h0
  rw [okL,h0,okL_all (l:=r) (fun i hi=>by simpa using h (i+1) (Nat.succ_lt_succ hi))];rfl
theorem okB_bad {l:List St}{j:Nat}(h:j<l.length) (g:okS l[j]=false∨qJ l j=true):okB l=false:=by
 rcases g with g | g
 ·rw [okB,okL_at h g];simp
 ·have:vY l=false:=by rw [vY,List.all_eq_false];exact ⟨j,List.mem_range.2 h,by rw [g];decide⟩
  rw [okB,this,Bool.and_false]
theorem okB_good {l:List St}(h0:l.length<=1000) (h:∀ i (hi:i<l.length),okS l[i]=true/\qJ l i=false):okB l=true:=by
 rw [okB,okL_all (fun i hi=>(h i hi).1),decide_eq_true h0]
 have:vY l=true:=by rw [vY,List.all_eq_true];intro i hi;rw [(h i (List.mem_range.1 hi)).2];rfl
 rw [this];rfl
theorem okS_eq (S:St):okS S =(decide (0<=S.a)&&okN S.nd&&(if S.k=1 then S.nd.c==1&&zQ S.n&&S.s==0&&qH S.te else if S.k=2 then zu S.n&&decide (0<=S.s)&&qH S.te&&(decide (S.nd.c<3) || S.nd.k==10) else if S.k=3 then S.nd.c==1&&okN S.te&&S.te.c==1&&zQ S.n&&S.s==0 else false)):=by
 cases S;rw [okS];rfl
theorem dup_eq {l:List St}{j:Nat}(h:j<l.length):qJ l j =(l[j].k==2&&(l.take j).any fun T=>T.k==2&&T.n==l[j].n):=by
 rw [qJ,List.getElem?_eq_getElem h]
theorem dup_yes {l:List St}{j q:Nat}(h:j<l.length) (hq:q<j) (k2:(l[j].k==2)=true) (g1:(l[q].k==2)=true) (g2:(l[q].n==l[j].n)=true):qJ l j=true:=by
 rw [dup_eq h,k2,Bool.true_and,List.any_eq_true]
 exact ⟨l[q],by rw [List.mem_take_iff_getElem];exact ⟨q,by omega,rfl⟩,by rw [g1,g2];rfl⟩
theorem dup_no {l:List St}{j:Nat}(h:j<l.length) (g:∀ q (hq:q<l.length),q<j->(l[q].k==2&&l[q].n==l[j].n)=false):qJ l j=false:=by
 rw [dup_eq h]
 have:((l.take j).any fun T=>T.k==2&&T.n==l[j].n)=false:=by
  rw [List.any_eq_false];intro T hT
  obtain ⟨q,hq,rfl⟩:=List.mem_take_iff_getElem.1 hT
  rw [g q (by omega) (by omega)];exact Bool.false_ne_true
 rw [this,Bool.and_false]
theorem dup_not {l:List St}{j:Nat}(h:j<l.length) (k2:(l[j].k==2)=false):qJ l j=false:=by rw [dup_eq h,k2];rfl
def SF (w:World) (B:Nat) (S:St):Prop:=w.cell? ⟨B,0,none⟩=some (.int .i64 S.k)/\w.cell? ⟨B,1,none⟩=some (.int .i64 S.a)/\w.cell? ⟨B,2,none⟩=some (.string S.n)/\w.cell? ⟨B,3,none⟩=some (.int .i64 S.s) /\
 w.cell? ⟨B,21,none⟩=some (.int .i64 S.nd.c)/\w.cell? ⟨B,19,none⟩=some (.int .i64 S.nd.k)/\w.cell? ⟨B,6,none⟩=some (.int .i64 S.te.c)
theorem SF.below {w w':World}{B:Nat}{S:St}(h:SF w B S) (hb:Below w.heap.size w w'):SF w' B S:=by
 obtain ⟨h0,h1,h2,h3,h4,h5,h6⟩:=h
 exact ⟨(hb.cell (zD h0)).trans h0,(hb.cell (zD h1)).trans h1,(hb.cell (zD h2)).trans h2,(hb.cell (zD h3)).trans h3,(hb.cell (zD h4)).trans h4,(hb.cell (zD h5)).trans h5,(hb.cell (zD h6)).trans h6⟩
theorem NdM.kc {w:World}{b off:Nat}{N:Nd}(h:NdM w b off N):w.cell? ⟨b,off,none⟩=some (.int .i64 N.k)/\w.cell? ⟨b,off+2,none⟩=some (.int .i64 N.c):=by
 obtain ⟨cs,h1,h2⟩:=h
 obtain ⟨v0,v1,v2,v3,ka,kc,ba,bc,kb,ko,bb,bo,O⟩:=h2.open
 have e:=O.eq
 subst e
 exact ⟨h1.cell 0 rfl,h1.cell 2 rfl⟩
theorem SF.of {w:World}{B:Nat}{S:St}(h:StM w B 0 S):SF w B S:=by
 have h1:=h.head
 have h2:=h.test.kc
 have h3:=h.node.kc
 simp only [Nat.zero_add,Nat.reduceAdd] at h1 h2 h3
 exact ⟨h1.1,h1.2.1,h1.2.2.1,h1.2.2.2,h3.2,h3.1,h2.2⟩
def yB (r:Nat):Prop:=∀ (cs:List Value) (N:Nd) (w:World),rkN N<r->NdV w cs N ->
 Calls Tryz.prog 52 #[.agg cs.toArray] w fun e w'=>e=.returned (.bool (okN N))/\Below w.heap.size w w'
theorem StV.ns {w:World}{cs:List Value}{S:St}(h:StV w cs S):S.n.size<=9223372036854775807:=by
 cases S;rw [StV] at h;obtain ⟨ct,cn,-,-,h,-⟩:=h;exact h
theorem bodyR (r:Nat) (ih:yB r) (ba:Option Addr) (bc bb bo:Nat) (l:List St) (w:World) (hr:rkB l<r) (ha:l≠[]->ba=some ⟨bb,bo,none⟩) (hat:StsAt w bb bo l) (hl:l.length<=9223372036854775807) :
  Calls Tryz.prog 33 #[.slice ba l.length bc] w fun e w'=>e=.returned (.bool (okB l))/\Below w.heap.size w w':=by
 unfold yB at ih
 by_cases h0:l.length<=1000
 ·have h0':(l.length:Int)<=1000:=by omega
  go_enter Tryz.func33,Tryz.ntmps33
  go_wp2
  go_loopw [3] (fun i wr=>∃ j:Nat,j<=l.length/\i=.int .i64 j/\Below w.heap.size w wr/\∀ i (h1:i<l.length),i<j->okS l[i]=true/\qJ l i=false) (fun i _=>l.length - (intOf i).toNat)
  case atStart=>exact ⟨0,Nat.zero_le _,rfl,Below.refl _ _,fun j _ hj=>absurd hj (Nat.not_lt_zero _)⟩
  case round =>
   obtain ⟨j,hj,rfl,hb,he⟩:=hrel
   have HE:Hid (∀ i (h1:i<l.length),i<j->okS l[i]=true/\qJ l i=false):=he
   clear he
   by_cases hlt:j<l.length
   ·have hi:=zg (ic:=bc) rfl ha hlt
    obtain ⟨cs,hc,hV⟩:=(StsAt.below hb hat).at hlt
    have lS:=hV.len
    have oS:=hV.one
    have B1:=below_new wr (.cells cs.toArray 44)
    have hM:StM (wr.alloc (.cells cs.toArray 44)) wr.heap.size 0 l[j]:=⟨cs,zL wr cs _,hV.below B1⟩
    have hF:=SF.of hM
    obtain ⟨ct,hct,hT⟩:=hM.test
    obtain ⟨cn,hcn,hN⟩:=hM.node
    simp only [Nat.zero_add] at hct hcn
    have lt:=hT.len
    have ln:=hN.len
    have hrk:=xz hlt
    have q1:=qL l[j].te
    have q2:=qL l[j].nd
    have IN:=ih cn l[j].nd _ (by omega) hN
    have IT:=fun w' (g:Below _ _ w')=>ih ct l[j].te w' (by omega) (hT.below g)
    have ZT:=fun w' (g:Below _ _ w')=>zeroR ct l[j].te w' (hT.below g)
    have NR:=fun w'=>nameR l[j].n w' hV.ns
    have HQ:Hid (okS l[j] =(decide (0<=l[j].a)&&okN l[j].nd&&(if l[j].k=1 then l[j].nd.c==1&&zQ l[j].n&&l[j].s==0&&qH l[j].te else if l[j].k=2 then zu l[j].n&&decide (0<=l[j].s)&&qH l[j].te&&(decide (l[j].nd.c<3) || l[j].nd.k==10) else if l[j].k=3 then l[j].nd.c==1&&okN l[j].te&&l[j].te.c==1&&zQ l[j].n&&l[j].s==0 else false))):=okS_eq _
    have HF:okS l[j]=false∨qJ l j=true->Hid (okB l=false):=fun h=>okB_bad hlt h
    have HS:okS l[j]=true->qJ l j=false->Hid (∀ i (h1:i<l.length),i<j+1->okS l[i]=true/\qJ l i=false):=fun h1 h2 i hi hij=>by
     by_cases e:i=j
     ·subst e;exact ⟨h1,h2⟩
     ·exact HE.out i hi (by omega)
    have HD:=@dup_yes l j
    have HD2:=@dup_no l j hlt
    have HD3:=@dup_not l j hlt
    obtain ⟨y0,y1,y2,y3,y4,y5,y6⟩:=id hF
    have BW:=Below.then hb B1
    clear hV hM ih
    obtain ⟨OT,hOT⟩:∃ OT,okN l[j].te=OT:=⟨_,rfl⟩
    obtain ⟨ON,hON⟩:∃ ON,okN l[j].nd=ON:=⟨_,rfl⟩
    obtain ⟨ZB,hZB⟩:∃ ZB,qH l[j].te=ZB:=⟨_,rfl⟩
    obtain ⟨NB,hNB⟩:∃ NB,zu l[j].n=NB:=⟨_,rfl⟩
    rw [hON] at IN
    simp only [hOT] at IT
    simp only [hZB] at ZT
    simp only [hNB] at NR
    rw [hOT,hON,hZB,hNB] at HQ
    clear hOT hON hZB hNB
    by_cases h1:0<=l[j].a
    ·have a0:=decide_eq_true h1
     have h1':¬ (l[j].a<0):=by omega
     cases g0:ON with
     | false =>
      rw [g0] at IN
      have HG:=HF (Or.inl (by rw [HQ.out,a0,g0];simp))
      clear HQ HF HS HD HD2 HD3 HE
      go_wp2_with (first |((with_reducible show wpList _ _ _ (⟨_,Op.load 44 _,_,_,_,none⟩::_) _ _);refine zZ rfl rfl rfl hc lS ?_) |((with_reducible show wpList _ _ _ (⟨_,Op.store 44 _ _,_,_,_,none⟩::_) _ _);refine zG rfl rfl rfl rfl ky lS rfl oS ?_) |((with_reducible show wpList _ _ _ (⟨_,Op.load 40 _,_,_,_,_⟩::_) _ _);refine zC rfl rfl rfl hcn ln ?_) |(go_at_call 52;((with_reducible refine IN.mono ?_);rintro e w2 ⟨rfl,b2⟩;(have hF2:=hF.below b2);(obtain ⟨z0,z1,z2,z3,z4,z5,z6⟩:=id hF2))))
      go_ret
      exact ⟨ret_bool HG.out.symm,Below.then BW b2⟩
     | true =>
      rw [g0] at IN
      go_upto_region 9 with (first |((with_reducible show wpList _ _ _ (⟨_,Op.load 44 _,_,_,_,none⟩::_) _ _);refine zZ rfl rfl rfl hc lS ?_) |((with_reducible show wpList _ _ _ (⟨_,Op.store 44 _ _,_,_,_,none⟩::_) _ _);refine zG rfl rfl rfl rfl ky lS rfl oS ?_) |((with_reducible show wpList _ _ _ (⟨_,Op.load 40 _,_,_,_,_⟩::_) _ _);refine zC rfl rfl rfl hcn ln ?_) |(go_at_call 52;((with_reducible refine IN.mono ?_);rintro e w2 ⟨rfl,b2⟩;(have hF2:=hF.below b2);(obtain ⟨z0,z1,z2,z3,z4,z5,z6⟩:=id hF2))))
      by_cases k1:l[j].k=1
      ·have k1':(l[j].k==1)=true:=by rw [k1];rfl
       have k2':(l[j].k==2)=false:=by rw [k1];rfl
       rw [if_pos k1] at HQ
       clear k1
       cases f1:(l[j].nd.c==1) with
       | false =>
        have HG:=HF (Or.inl (by rw [HQ.out,a0,g0,f1];simp))
        have f1':(l[j].nd.c != 1)=true:=by rw [bne,f1];rfl
        clear HQ HF HS HD HD2 HD3 HE
        go_wp2_with (first | fail)
        go_ret
        exact ⟨ret_bool HG.out.symm,Below.then BW b2⟩
       | true =>
        have f1':(l[j].nd.c != 1)=false:=by rw [bne,f1];rfl
        cases f2:(zQ l[j].n) with
        | false =>
         have HG:=HF (Or.inl (by rw [HQ.out,a0,g0,f1,f2];simp))
         unfold zQ at f2
         clear HQ HF HS HD HD2 HD3 HE
         go_wp2_with (first | fail)
         go_ret
         exact ⟨ret_bool HG.out.symm,Below.then BW b2⟩
        | true =>
         have f2':=f2;unfold zQ at f2'
         cases f3:(l[j].s==0) with
         | false =>
          have HG:=HF (Or.inl (by rw [HQ.out,a0,g0,f1,f2,f3];simp))
          have f3':(l[j].s != 0)=true:=by rw [bne,f3];rfl
          clear HQ HF HS HD HD2 HD3 HE
          go_wp2_with (first | fail)
          go_ret
          exact ⟨ret_bool HG.out.symm,Below.then BW b2⟩
         | true =>
          have f3':(l[j].s != 0)=false:=by rw [bne,f3];rfl
          cases f4:(ZB) with
          | false =>
           have HG:=HF (Or.inl (by rw [HQ.out,a0,g0,f1,f2,f3,f4];simp))
           simp only [f4] at ZT
           clear HQ HF HS HD HD2 HD3 HE
           go_wp2_with (first |((with_reducible show wpList _ _ _ (⟨_,Op.load 40 _,_,_,_,_⟩::_) _ _);refine zC rfl rfl rfl (hct.below b2) lt ?_) |(go_at_call 53;((with_reducible refine (ZT _ b2).mono ?_);rintro e w3 ⟨rfl,b3⟩;(obtain ⟨u0,u1,u2,u3,u4,u5,u6⟩:=(hF.below b2).below b3))))
           go_ret
           exact ⟨ret_bool HG.out.symm,Below.then (Below.then BW b2) b3⟩
          | true =>
           have HG:=HS (by rw [HQ.out,a0,g0,f1,f2,f3,f4];simp) (HD3 k2')
           simp only [f4] at ZT
           clear HQ HF HS HD HD2 HD3 HE
           go_wp2_with (first |((with_reducible show wpList _ _ _ (⟨_,Op.load 40 _,_,_,_,_⟩::_) _ _);refine zC rfl rfl rfl (hct.below b2) lt ?_) |(go_at_call 53;((with_reducible refine (ZT _ b2).mono ?_);rintro e w3 ⟨rfl,b3⟩;(obtain ⟨u0,u1,u2,u3,u4,u5,u6⟩:=(hF.below b2).below b3))))
           go_roundw
           case rel=>exact ⟨j+1,by omega,by go_num,Below.then (Below.then BW b2) b3,HG.out⟩
           case measure=>simp [intOf];omega
      ·have k1':(l[j].k==1)=false:=by simpa using k1
       rw [if_neg k1] at HQ
       clear k1
       by_cases k2:l[j].k=2
       ·have k2':(l[j].k==2)=true:=by rw [k2];rfl
        rw [if_pos k2] at HQ
        clear k2
        go_wp2_with fail
        go_loopw [5] (fun i wx=>∃ q:Nat,q<=j/\i=.int .i64 q/\SF wx wr.heap.size l[j]/\Below w2.heap.size w2 wx/\∀ i (h1:i<l.length),i<q->(l[i].k==2&&l[i].n==l[j].n)=false) (fun i _=>j - (intOf i).toNat)
        case atStart=>exact ⟨0,Nat.zero_le _,rfl,hF2,Below.refl _ _,fun q _ hq=>absurd hq (Nat.not_lt_zero _)⟩
        case round =>
         clear z0 z1 z2 z3 z4 z5 z6 hF2
         obtain ⟨q,hq,rfl,hX,hbx,hen⟩:=hrel
         have HN:Hid (∀ i (h1:i<l.length),i<q->(l[i].k==2&&l[i].n==l[j].n)=false):=hen
         clear hen
         obtain ⟨z0,z1,z2,z3,z4,z5,z6⟩:=id hX
         by_cases hqj:q<j
         ·have hqj':(q:Int) <(j:Int):=by omega
          have hql:q<l.length:=by omega
          have hi2:=zg (ic:=bc) rfl ha hql
          have hS2:=((StsAt.below (Below.then (Below.then BW b2) hbx) hat).at hql).head
          obtain ⟨x0,-,x2,-⟩:=hS2
          cases d1:(l[q].k==2) with
          | false =>
           have HC:Hid ((l[q].k==2&&l[q].n==l[j].n)=false):=by unfold Hid;rw [d1];rfl
           clear HQ HF HS HD HD2 HD3 HE
           go_wp2_with fail
           go_quiet (fail)
           go_wp2_with fail
           go_roundw
           case rel=>exact ⟨q+1,by omega,by go_num,hX,Below.then hbx (Shape.below_drewN _),fun i h1 hi=>by
            by_cases e:i=q
            ·subst e;exact HC.out
            ·exact HN.out i h1 (by omega)⟩
           case measure=>simp [intOf];omega
          | true =>
           by_cases d2:l[q].n=l[j].n
           ·have HG:=HF (Or.inr (HD hlt hqj k2' d1 (vG d2)))
            have d2':=kA d2
            clear HQ HF HS HD HD2 HD3 HE d2
            go_wp2_with fail
            go_quiet (fail)
            go_wp2_with fail
            go_ret
            exact ⟨ret_bool HG.out.symm,Below.then (Below.then (Below.then BW b2) hbx) (Shape.below_drewN _)⟩
           ·have HC:Hid ((l[q].k==2&&l[q].n==l[j].n)=false):=by unfold Hid;rw [ba_no d2,Bool.and_false]
            have d2':=str_no d2
            clear HQ HF HS HD HD2 HD3 HE d2
            go_wp2_with fail
            go_quiet (fail)
            go_wp2_with fail
            go_roundw
            case rel=>exact ⟨q+1,by omega,by go_num,hX,Below.then hbx (Shape.below_drewN _),fun i h1 hi=>by
             by_cases e:i=q
             ·subst e;exact HC.out
             ·exact HN.out i h1 (by omega)⟩
            case measure=>simp [intOf];omega
         ·obtain rfl:q=j:=by omega
          have hqj':¬ ((q:Int) <(q:Int)):=by omega
          have HDN:=HD2 (fun i h1 hi=>HN.out i h1 hi)
          have b6:=Below.then b2 hbx
          cases f1:NB with
          | false =>
           simp only [f1] at NR
           have HG:=HF (Or.inl (by rw [HQ.out,a0,g0,f1];simp))
           clear HQ HF HS HD HD2 HD3 HDN
           go_wp2_with (first |(go_at_call 54;((with_reducible refine (NR _).mono ?_);rintro e w5 ⟨rfl,rfl⟩)))
           go_ret
           exact ⟨ret_bool HG.out.symm,Below.then BW b6⟩
          | true =>
           simp only [f1] at NR
           by_cases f2:0<=l[q].s
           ·have f2':decide (l[q].s<0)=false:=decide_eq_false (by omega)
            have g2:=decide_eq_true f2
            cases f3:ZB with
            | false =>
             simp only [f3] at ZT
             have HG:=HF (Or.inl (by rw [HQ.out,a0,g0,f1,g2,f3];simp))
             clear HQ HF HS HD HD2 HD3 HDN
             go_wp2_with (first |(go_at_call 54;((with_reducible refine (NR _).mono ?_);rintro e w5 ⟨rfl,rfl⟩)) |((with_reducible show wpList _ _ _ (⟨_,Op.load 40 _,_,_,_,_⟩::_) _ _);refine zC rfl rfl rfl (hct.below b6) lt ?_) |(go_at_call 53;((with_reducible refine (ZT _ b6).mono ?_);rintro e w3 ⟨rfl,b3⟩;(obtain ⟨u0,u1,u2,u3,u4,u5,u6⟩:=hX.below b3))))
             go_ret
             exact ⟨ret_bool HG.out.symm,Below.then (Below.then BW b6) b3⟩
            | true =>
             simp only [f3] at ZT
             by_cases f4:l[q].nd.c<3
             ·have g4:=decide_eq_true f4
              have HG:=HS (by rw [HQ.out,a0,g0,f1,g2,f3,g4];simp) HDN
              clear HQ HF HS HD HD2 HD3 HDN
              go_wp2_with (first |(go_at_call 54;((with_reducible refine (NR _).mono ?_);rintro e w5 ⟨rfl,rfl⟩)) |((with_reducible show wpList _ _ _ (⟨_,Op.load 40 _,_,_,_,_⟩::_) _ _);refine zC rfl rfl rfl (hct.below b6) lt ?_) |(go_at_call 53;((with_reducible refine (ZT _ b6).mono ?_);rintro e w3 ⟨rfl,b3⟩;(obtain ⟨u0,u1,u2,u3,u4,u5,u6⟩:=hX.below b3))))
              go_roundw
              case rel=>exact ⟨q+1,by omega,by go_num,Below.then (Below.then BW b6) b3,HG.out⟩
              case measure=>simp [intOf];omega
             ·have g4:=decide_eq_false f4
              have f4':(3:Int)<=l[q].nd.c:=by omega
              cases f5:(l[q].nd.k==10) with
              | false =>
               have f5':(l[q].nd.k != 10)=true:=by rw [bne,f5];rfl
               have HG:=HF (Or.inl (by rw [HQ.out,a0,g0,f1,g2,f3,g4,f5];simp))
               clear HQ HF HS HD HD2 HD3 HDN
               go_wp2_with (first |(go_at_call 54;((with_reducible refine (NR _).mono ?_);rintro e w5 ⟨rfl,rfl⟩)) |((with_reducible show wpList _ _ _ (⟨_,Op.load 40 _,_,_,_,_⟩::_) _ _);refine zC rfl rfl rfl (hct.below b6) lt ?_) |(go_at_call 53;((with_reducible refine (ZT _ b6).mono ?_);rintro e w3 ⟨rfl,b3⟩;(obtain ⟨u0,u1,u2,u3,u4,u5,u6⟩:=hX.below b3))))
               go_ret
               exact ⟨ret_bool HG.out.symm,Below.then (Below.then BW b6) b3⟩
              | true =>
               have f5':(l[q].nd.k != 10)=false:=by rw [bne,f5];rfl
               have HG:=HS (by rw [HQ.out,a0,g0,f1,g2,f3,g4,f5];simp) HDN
               clear HQ HF HS HD HD2 HD3 HDN
               go_wp2_with (first |(go_at_call 54;((with_reducible refine (NR _).mono ?_);rintro e w5 ⟨rfl,rfl⟩)) |((with_reducible show wpList _ _ _ (⟨_,Op.load 40 _,_,_,_,_⟩::_) _ _);refine zC rfl rfl rfl (hct.below b6) lt ?_) |(go_at_call 53;((with_reducible refine (ZT _ b6).mono ?_);rintro e w3 ⟨rfl,b3⟩;(obtain ⟨u0,u1,u2,u3,u4,u5,u6⟩:=hX.below b3))))
               go_roundw
               case rel=>exact ⟨q+1,by omega,by go_num,Below.then (Below.then BW b6) b3,HG.out⟩
               case measure=>simp [intOf];omega
           ·have f2':l[q].s<0:=by omega
            have g2:=decide_eq_false f2
            have HG:=HF (Or.inl (by rw [HQ.out,a0,g0,f1,g2];simp))
            clear HQ HF HS HD HD2 HD3 HDN
            go_wp2_with (first |(go_at_call 54;((with_reducible refine (NR _).mono ?_);rintro e w5 ⟨rfl,rfl⟩)))
            go_ret
            exact ⟨ret_bool HG.out.symm,Below.then BW b6⟩
       ·have k2':(l[j].k==2)=false:=by simpa using k2
        rw [if_neg k2] at HQ
        clear k2
        by_cases k3:l[j].k=3
        ·have k3':(l[j].k==3)=true:=by rw [k3];rfl
         rw [if_pos k3] at HQ
         clear k3
         cases f1:(l[j].nd.c==1) with
         | false =>
          have HG:=HF (Or.inl (by rw [HQ.out,a0,g0,f1];simp))
          have f1':(l[j].nd.c != 1)=true:=by rw [bne,f1];rfl
          clear HQ HF HS HD HD2 HD3 HE
          go_wp2_with (first | fail)
          go_ret
          exact ⟨ret_bool HG.out.symm,Below.then BW b2⟩
         | true =>
          have f1':(l[j].nd.c != 1)=false:=by rw [bne,f1];rfl
          cases f2:(OT) with
          | false =>
           have HG:=HF (Or.inl (by rw [HQ.out,a0,g0,f1,f2];simp))
           simp only [f2] at IT
           clear HQ HF HS HD HD2 HD3 HE
           go_wp2_with (first |((with_reducible show wpList _ _ _ (⟨_,Op.load 40 _,_,_,_,_⟩::_) _ _);refine zC rfl rfl rfl (hct.below b2) lt ?_) |(go_at_call 52;((with_reducible refine (IT _ b2).mono ?_);rintro e w3 ⟨rfl,b3⟩;(obtain ⟨u0,u1,u2,u3,u4,u5,u6⟩:=(hF.below b2).below b3))))
           go_ret
           exact ⟨ret_bool HG.out.symm,Below.then (Below.then BW b2) b3⟩
          | true =>
           simp only [f2] at IT
           cases f3:(l[j].te.c==1) with
           | false =>
            have HG:=HF (Or.inl (by rw [HQ.out,a0,g0,f1,f2,f3];simp))
            have f3':(l[j].te.c != 1)=true:=by rw [bne,f3];rfl
            clear HQ HF HS HD HD2 HD3 HE
            go_wp2_with (first |((with_reducible show wpList _ _ _ (⟨_,Op.load 40 _,_,_,_,_⟩::_) _ _);refine zC rfl rfl rfl (hct.below b2) lt ?_) |(go_at_call 52;((with_reducible refine (IT _ b2).mono ?_);rintro e w3 ⟨rfl,b3⟩;(obtain ⟨u0,u1,u2,u3,u4,u5,u6⟩:=(hF.below b2).below b3))))
            go_ret
            exact ⟨ret_bool HG.out.symm,Below.then (Below.then BW b2) b3⟩
           | true =>
            have f3':(l[j].te.c != 1)=false:=by rw [bne,f3];rfl
            cases f4:(zQ l[j].n) with
            | false =>
             have HG:=HF (Or.inl (by rw [HQ.out,a0,g0,f1,f2,f3,f4];simp))
             unfold zQ at f4
             clear HQ HF HS HD HD2 HD3 HE
             go_wp2_with (first |((with_reducible show wpList _ _ _ (⟨_,Op.load 40 _,_,_,_,_⟩::_) _ _);refine zC rfl rfl rfl (hct.below b2) lt ?_) |(go_at_call 52;((with_reducible refine (IT _ b2).mono ?_);rintro e w3 ⟨rfl,b3⟩;(obtain ⟨u0,u1,u2,u3,u4,u5,u6⟩:=(hF.below b2).below b3))))
             go_ret
             exact ⟨ret_bool HG.out.symm,Below.then (Below.then BW b2) b3⟩
            | true =>
             have f4':=f4;unfold zQ at f4'
             cases f5:(l[j].s==0) with
             | false =>
              have HG:=HF (Or.inl (by rw [HQ.out,a0,g0,f1,f2,f3,f4,f5];simp))
              have f5':(l[j].s != 0)=true:=by rw [bne,f5];rfl
              clear HQ HF HS HD HD2 HD3 HE
              go_wp2_with (first |((with_reducible show wpList _ _ _ (⟨_,Op.load 40 _,_,_,_,_⟩::_) _ _);refine zC rfl rfl rfl (hct.below b2) lt ?_) |(go_at_call 52;((with_reducible refine (IT _ b2).mono ?_);rintro e w3 ⟨rfl,b3⟩;(obtain ⟨u0,u1,u2,u3,u4,u5,u6⟩:=(hF.below b2).below b3))))
              go_ret
              exact ⟨ret_bool HG.out.symm,Below.then (Below.then BW b2) b3⟩
             | true =>
              have HG:=HS (by rw [HQ.out,a0,g0,f1,f2,f3,f4,f5];simp) (HD3 k2')
              have f5':(l[j].s != 0)=false:=by rw [bne,f5];rfl
              clear HQ HF HS HD HD2 HD3 HE
              go_wp2_with (first |((with_reducible show wpList _ _ _ (⟨_,Op.load 40 _,_,_,_,_⟩::_) _ _);refine zC rfl rfl rfl (hct.below b2) lt ?_) |(go_at_call 52;((with_reducible refine (IT _ b2).mono ?_);rintro e w3 ⟨rfl,b3⟩;(obtain ⟨u0,u1,u2,u3,u4,u5,u6⟩:=(hF.below b2).below b3))))
              go_roundw
              case rel=>exact ⟨j+1,by omega,by go_num,Below.then (Below.then BW b2) b3,HG.out⟩
              case measure=>simp [intOf];omega
        ·have k3':(l[j].k==3)=false:=by simpa using k3
         rw [if_neg k3] at HQ
         clear k3
         have HG:=HF (Or.inl (by rw [HQ.out,a0,g0];simp))
         clear HQ HF HS HD HD2 HD3 HE
         go_wp2_with (first | fail)
         go_ret
         exact ⟨ret_bool HG.out.symm,Below.then BW b2⟩
    ·have a0:=decide_eq_false h1
     have h1':l[j].a<0:=by omega
     have HG:=HF (Or.inl (by rw [HQ.out,a0];simp))
     clear HQ HF HS HD HD2 HD3 HE
     go_wp2_with (first |((with_reducible show wpList _ _ _ (⟨_,Op.load 44 _,_,_,_,none⟩::_) _ _);refine zZ rfl rfl rfl hc lS ?_) |((with_reducible show wpList _ _ _ (⟨_,Op.store 44 _ _,_,_,_,none⟩::_) _ _);refine zG rfl rfl rfl rfl ky lS rfl oS ?_))
     go_ret
     exact ⟨ret_bool HG.out.symm,BW⟩
   ·obtain rfl:j=l.length:=by omega
    have HG:Hid (okB l=true):=okB_good h0 (fun i hi=>HE.out i hi hi)
    clear ih
    go_wp2_with fail
    go_ret
    exact ⟨ret_bool HG.out.symm,hb⟩
 ·have h0':¬ ((l.length:Int)<=1000):=by omega
  have HG:Hid (okB l=false):=by unfold Hid;rw [okB,decide_eq_false h0];rfl
  clear ih
  go_enter Tryz.func33,Tryz.ntmps33
  go_wp2
  go_ret
  exact ⟨ret_bool HG.out.symm,Below.refl _ _⟩
def lamB (N:Nd):Bool:=zF false false false false false true N&&(N.bd.length:Int) != 0&&kR N.bd==1&&okB N.bd&&N.c==vq N.bd
theorem okN_eq (N:Nd):okN N =(qW N&&(if N.k=10 then lamB N else zM N ||(zO N&&okK N.ks))):=by
 cases N with | mk k a c t p o v ks bd d s z =>
 rw [okN];rfl
theorem okK_at:∀ {l:List Nd}{j:Nat}(h:j<l.length),okN l[j]=false->okK l=false
 | [],_,h,_=>absurd h (by simp)
 | S::r,0,_,h=>by rw [okK];simp at h;rw [h];rfl
 | S::r,j+1,h,g=>by rw [okK,okK_at (l:=r) (by simpa using h) (by simpa using g),Bool.and_false]
theorem okK_all:∀ {l:List Nd},(∀ i (h:i<l.length),okN l[i]=true)->okK l=true
 | [],_=>by rw [okK]
 | S::r,h=>by
  have h0:=h 0 (by simp)
  simp only [List.getElem_cons_zero] at h0
  rw [okK,h0,okK_all (l:=r) (fun i hi=>by simpa using h (i+1) (Nat.succ_lt_succ hi))];rfl
theorem lastK_at:∀ {l:List St}(h:0<l.length),kR l=l[l.length - 1].k
 | [S],_=>rfl
 | S::T::r,_=>by
  rw [kR,lastK_at (l:=T::r) (by simp)]
  ·simp
  ·simp
theorem lambdaR (r:Nat) (ih:yB r) (cs:List Value) (N:Nd) (w:World) (hr0:rkN N<r+1) (h:NdV w cs N) :
  Calls Tryz.prog 75 #[.agg cs.toArray] w fun e w'=>e=.returned (.bool (lamB N))/\Below w.heap.size w w':=by
 have hN:=h
 obtain ⟨v0,v1,v2,v3,ka,kc,ba,bc,kb,ko,bb,bo,O⟩:=h.open
 have lC:=h.len
 have hC0:=zL w cs 40
 have BN:=below_new w (.cells cs.toArray 40)
 have hF0:=O.nf hC0
 obtain ⟨p0,p1,p2,p3,p4,p5,p10,p11,p12,p13,p14⟩:=id hF0
 have hk2:N.bd.length<=9223372036854775807:=by have:=O.bl;omega
 have SE:=emptyEb cs N _ (hN.below BN)
 have hrb:=rkB_lt hr0
 have BR:=fun w' (g:Below w.heap.size w w')=>bodyR r ih ba bc bb bo N.bd w' hrb O.ba (StsAt.below g O.bat) hk2
 obtain ⟨rr,hr⟩:∃ rr,lamB N=rr:=⟨_,rfl⟩
 rw [hr]
 unfold lamB at hr
 obtain ⟨E,hE⟩:∃ E,zF false false false false false true N=E:=⟨_,rfl⟩
 rw [hE] at SE hr
 clear hE
 obtain ⟨K,hK⟩:∃ K,okB N.bd=K:=⟨_,rfl⟩
 rw [hK] at hr
 simp only [hK] at BR
 clear hK ih
 cases e0:E with
 | false =>
  rw [e0] at SE
  obtain rfl:rr=false:=by rw [<- hr,e0];simp
  clear hr O h hN
  go_enter Tryz.func75,Tryz.ntmps75
  go_wp2_with (first |((with_reducible show wpList _ _ _ (⟨_,Op.load 40 _,_,_,_,none⟩::_) _ _);refine zB rfl rfl rfl hC0 lC ?_) |(go_at_call 100;((with_reducible refine SE.mono ?_);rintro e w3 ⟨rfl,b3⟩;(have B3:=Below.then BN b3);(have hF3:=hF0.below b3);(obtain ⟨s0,s1,s2,s3,s4,s5,s10,s11,s12,s13,s14⟩:=id hF3))))
  go_ret
  exact ⟨rfl,B3⟩
 | true =>
  rw [e0] at SE
  by_cases hz:N.bd.length=0
  ·have e1:((N.bd.length:Int)==0)=true:=by rw [hz];rfl
   have e1':((N.bd.length:Int) != 0)=false:=by rw [hz];rfl
   clear hz
   obtain rfl:rr=false:=by rw [<- hr,e0,e1'];simp
   clear hr O h hN
   go_enter Tryz.func75,Tryz.ntmps75
   go_wp2_with (first |((with_reducible show wpList _ _ _ (⟨_,Op.load 40 _,_,_,_,none⟩::_) _ _);refine zB rfl rfl rfl hC0 lC ?_) |(go_at_call 100;((with_reducible refine SE.mono ?_);rintro e w3 ⟨rfl,b3⟩;(have B3:=Below.then BN b3);(have hF3:=hF0.below b3);(obtain ⟨s0,s1,s2,s3,s4,s5,s10,s11,s12,s13,s14⟩:=id hF3))))
   go_ret
   exact ⟨rfl,B3⟩
  ·have e1:((N.bd.length:Int)==0)=false:=beq_eq_false_iff_ne.2 (by omega)
   have e1':((N.bd.length:Int) != 0)=true:=by rw [bne,e1];rfl
   obtain ⟨q,hq,hq2⟩:∃ q:Nat,(N.bd.length:Int) - 1 =(q:Int)/\q=N.bd.length - 1:=⟨N.bd.length - 1,by omega,rfl⟩
   have hql:q<N.bd.length:=by omega
   have hi:=zg (ic:=bc) (k:=q) rfl O.ba hql
   have hL:=fun w' (g:Below w.heap.size w w')=>((StsAt.below g O.bat).at hql).head.1
   have hlk:kR N.bd=N.bd[q].k:=by subst hq2;exact lastK_at (by omega)
   rw [hlk,e0,e1'] at hr
   clear hq2 hz hlk
   cases e2:(N.bd[q].k==1) with
   | false =>
    have e2':(N.bd[q].k != 1)=true:=by rw [bne,e2];rfl
    obtain rfl:rr=false:=by rw [<- hr,e2];simp
    clear hr O h hN
    go_enter Tryz.func75,Tryz.ntmps75
    go_wp2_with (first |((with_reducible show wpList _ _ _ (⟨_,Op.load 40 _,_,_,_,none⟩::_) _ _);refine zB rfl rfl rfl hC0 lC ?_) |(go_at_call 100;((with_reducible refine SE.mono ?_);rintro e w3 ⟨rfl,b3⟩;(have B3:=Below.then BN b3);(have hF3:=hF0.below b3);(obtain ⟨s0,s1,s2,s3,s4,s5,s10,s11,s12,s13,s14⟩:=id hF3);(have hL3:=hL _ B3))))
    go_ret
    exact ⟨rfl,B3⟩
   | true =>
    have e2':(N.bd[q].k != 1)=false:=by rw [bne,e2];rfl
    cases e3:K with
    | false =>
     simp only [e3] at BR
     obtain rfl:rr=false:=by rw [<- hr,e2,e3];simp
     clear hr O h hN
     go_enter Tryz.func75,Tryz.ntmps75
     go_wp2_with (first |((with_reducible show wpList _ _ _ (⟨_,Op.load 40 _,_,_,_,none⟩::_) _ _);refine zB rfl rfl rfl hC0 lC ?_) |(go_at_call 100;((with_reducible refine SE.mono ?_);rintro e w3 ⟨rfl,b3⟩;(have B3:=Below.then BN b3);(have hF3:=hF0.below b3);(obtain ⟨s0,s1,s2,s3,s4,s5,s10,s11,s12,s13,s14⟩:=id hF3);(have hL3:=hL _ B3))) |(go_at_call 33;((with_reducible refine (BR _ B3).mono ?_);rintro e w4 ⟨rfl,b4⟩;(have B4:=Below.then B3 b4);(have hF4:=hF3.below b4);(obtain ⟨z0,z1,z2,z3,z4,z5,z10,z11,z12,z13,z14⟩:=id hF4))))
     go_ret
     exact ⟨rfl,B4⟩
    | true =>
     simp only [e3] at BR
     have M12:=fun w' (g:Below w.heap.size w w')=>menBR ba bc bb bo N.bd 12 w' O.ba (StsAt.below g O.bat) hk2
     have M13:=fun w' (g:Below w.heap.size w w')=>menBR ba bc bb bo N.bd 13 w' O.ba (StsAt.below g O.bat) hk2
     unfold vq at hr
     obtain ⟨F,hF⟩:∃ F,menB 12 N.bd=F:=⟨_,rfl⟩
     obtain ⟨G,hG⟩:∃ G,menB 13 N.bd=G:=⟨_,rfl⟩
     rw [hF,hG,e2,e3] at hr
     simp only [hF] at M12
     simp only [hG] at M13
     clear hF hG O h hN
     go_enter Tryz.func75,Tryz.ntmps75
     go_upto_region 3 with (first |((with_reducible show wpList _ _ _ (⟨_,Op.load 40 _,_,_,_,none⟩::_) _ _);refine zB rfl rfl rfl hC0 lC ?_) |(go_at_call 100;((with_reducible refine SE.mono ?_);rintro e w3 ⟨rfl,b3⟩;(have B3:=Below.then BN b3);(have hF3:=hF0.below b3);(obtain ⟨s0,s1,s2,s3,s4,s5,s10,s11,s12,s13,s14⟩:=id hF3);(have hL3:=hL _ B3))) |(go_at_call 33;((with_reducible refine (BR _ B3).mono ?_);rintro e w4 ⟨rfl,b4⟩;(have B4:=Below.then B3 b4);(have hF4:=hF3.below b4);(obtain ⟨z0,z1,z2,z3,z4,z5,z10,z11,z12,z13,z14⟩:=id hF4))))
     have M12x:=fun x:Sub w4=>M12 x.w (Below.then B4 x.below)
     have M13x:=fun x:Sub w4=>M13 x.w (Below.then B4 x.below)
     have y11:=fun x:Sub w4=>x.cell z11
     refine zE (W:=w4) (by kernel_rfl) (by kernel_rfl) (Below.refl _ _) ?_
     repeat (go_big_quiet_step ((first |(go_at_call 55;with_reducible exact zI (M12x _)) |(go_at_call 55;with_reducible exact zI (M13x _)))))
     refine wpQuiet_nil ?_
     intro x
     have bx:=x.below
     have hF5:=hF4.below bx
     generalize x.w=w5 at *
     obtain ⟨x0,x1,x2,x3,x4,x5,x10,x11,x12,x13,x14⟩:=id hF5
     cases G with
     | true =>
      have hr':(N.c==4)=rr:=by rw [<- hr];simp
      subst hr'
      go_wp2_with fail
      go_ret
      exact ⟨rfl,Below.then B4 bx⟩
     | false =>
      cases F with
      | true =>
       have hr':(N.c==3)=rr:=by rw [<- hr];simp
       subst hr'
       go_wp2_with fail
       go_ret
       exact ⟨rfl,Below.then B4 bx⟩
      | false =>
       have hr':(N.c==2)=rr:=by rw [<- hr];simp
       subst hr'
       go_wp2_with fail
       go_ret
       exact ⟨rfl,Below.then B4 bx⟩
theorem validR_step (r:Nat) (ih:yB r):yB (r+1):=by
 intro cs N w hr0 h
 have hN:=h
 obtain ⟨v0,v1,v2,v3,ka,kc,ba,bc,kb,ko,bb,bo,O⟩:=h.open
 have lC:=h.len
 have hC0:=zL w cs 40
 have BN:=below_new w (.cells cs.toArray 40)
 have hF0:=O.nf hC0
 obtain ⟨p0,p1,p2,p3,p4,p5,p10,p11,p12,p13,p14⟩:=id hF0
 have hk1:N.ks.length<=9223372036854775807:=by have:=O.kl;omega
 have LR:=lambdaR r ih cs N _ hr0 (hN.below BN)
 have LF:=leafR cs N _ (hN.below BN)
 have IR:=fun w' (g:Below w.heap.size w w')=>innerR cs N w' (hN.below g)
 have HQ:Hid (okN N =(qW N&&(if N.k=10 then lamB N else zM N ||(zO N&&okK N.ks)))):=okN_eq N
 unfold yB at ih
 by_cases n0:N.a<0
 ·have HG:Hid (okN N=false):=by unfold Hid;rw [HQ.out,qW,decide_eq_true n0];simp
  clear HQ ih LR LF IR O h hN
  go_enter Tryz.func52,Tryz.ntmps52
  go_wp2
  go_ret
  exact ⟨ret_bool HG.out.symm,BN⟩
 ·skip
  by_cases n1:N.d<0
  ·have HG:Hid (okN N=false):=by unfold Hid;rw [HQ.out,qW,decide_eq_true n1];simp
   clear HQ ih LR LF IR O h hN
   go_enter Tryz.func52,Tryz.ntmps52
   go_wp2
   go_ret
   exact ⟨ret_bool HG.out.symm,BN⟩
  ·skip
   by_cases n2:N.s<0
   ·have HG:Hid (okN N=false):=by unfold Hid;rw [HQ.out,qW,decide_eq_true n2];simp
    clear HQ ih LR LF IR O h hN
    go_enter Tryz.func52,Tryz.ntmps52
    go_wp2
    go_ret
    exact ⟨ret_bool HG.out.symm,BN⟩
   ·skip
    by_cases n3:N.z<0
    ·have HG:Hid (okN N=false):=by unfold Hid;rw [HQ.out,qW,decide_eq_true n3];simp
     clear HQ ih LR LF IR O h hN
     go_enter Tryz.func52,Tryz.ntmps52
     go_wp2
     go_ret
     exact ⟨ret_bool HG.out.symm,BN⟩
    ·skip
     have HP:qW N=true:=by rw [qW,decide_eq_false n0,decide_eq_false n1,decide_eq_false n2,decide_eq_false n3];rfl
     by_cases k10:N.k=10
     ·have k10':(N.k==10)=true:=by rw [k10];rfl
      have HG:Hid (okN N=lamB N):=by unfold Hid;rw [HQ.out,HP,if_pos k10];rfl
      clear HQ ih LF IR O h hN k10
      go_enter Tryz.func52,Tryz.ntmps52
      go_wp2_with (first |((with_reducible show wpList _ _ _ (⟨_,Op.load 40 _,_,_,_,none⟩::_) _ _);refine zB rfl rfl rfl hC0 lC ?_) |(go_at_call 75;((with_reducible refine LR.mono ?_);rintro e w3 ⟨rfl,b3⟩)))
      go_ret
      exact ⟨ret_bool HG.out.symm,Below.then BN b3⟩
     ·have k10':(N.k==10)=false:=by simpa using k10
      have HG:Hid (okN N =(zM N ||(zO N&&okK N.ks))):=by unfold Hid;rw [HQ.out,HP,if_neg k10];rfl
      clear HQ HP LR k10
      cases f1:zM N with
      | true =>
       rw [f1] at LF
       have HH:Hid (okN N=true):=by unfold Hid;rw [HG.out,f1];rfl
       clear HG ih IR O h hN f1
       go_enter Tryz.func52,Tryz.ntmps52
       go_wp2_with (first |((with_reducible show wpList _ _ _ (⟨_,Op.load 40 _,_,_,_,none⟩::_) _ _);refine zB rfl rfl rfl hC0 lC ?_) |(go_at_call 76;((with_reducible refine LF.mono ?_);rintro e w3 ⟨rfl,b3⟩)))
       go_ret
       exact ⟨ret_bool HH.out.symm,Below.then BN b3⟩
      | false =>
       rw [f1] at LF
       cases f2:zO N with
       | false =>
        simp only [f2] at IR
        have HH:Hid (okN N=false):=by unfold Hid;rw [HG.out,f1,f2];rfl
        clear HG ih O h hN f1 f2
        go_enter Tryz.func52,Tryz.ntmps52
        go_wp2_with (first |((with_reducible show wpList _ _ _ (⟨_,Op.load 40 _,_,_,_,none⟩::_) _ _);refine zB rfl rfl rfl hC0 lC ?_) |(go_at_call 76;((with_reducible refine LF.mono ?_);rintro e w3 ⟨rfl,b3⟩;(have hC3:=hC0.below b3))) |((with_reducible show wpList _ _ _ (⟨_,Op.load 40 _,_,_,_,none⟩::_) _ _);refine zB rfl rfl rfl hC3 lC ?_) |(go_at_call 77;((with_reducible refine (IR _ (Below.then BN b3)).mono ?_);rintro e w4 ⟨rfl,b4⟩)))
        go_ret
        exact ⟨ret_bool HH.out.symm,Below.then (Below.then BN b3) b4⟩
       | true =>
        simp only [f2] at IR
        have HK:Hid (okN N=okK N.ks):=by unfold Hid;rw [HG.out,f1,f2];simp
        clear HG f1 f2
        go_enter Tryz.func52,Tryz.ntmps52
        go_wp2_with (first |((with_reducible show wpList _ _ _ (⟨_,Op.load 40 _,_,_,_,none⟩::_) _ _);refine zB rfl rfl rfl hC0 lC ?_) |(go_at_call 76;((with_reducible refine LF.mono ?_);rintro e w3 ⟨rfl,b3⟩;(have hC3:=hC0.below b3))) |((with_reducible show wpList _ _ _ (⟨_,Op.load 40 _,_,_,_,none⟩::_) _ _);refine zB rfl rfl rfl hC3 lC ?_) |(go_at_call 77;((with_reducible refine (IR _ (Below.then BN b3)).mono ?_);rintro e w4 ⟨rfl,b4⟩;(have hF4:=(hF0.below b3).below b4);(have B4:=Below.then (Below.then BN b3) b4))))
        clear p0 p1 p2 p3 p4 p5 p10 p11 p12 p13 p14
        go_loopw [3] (fun i wr=>∃ j:Nat,j<=N.ks.length/\i=.int .i64 j/\NF wr w.heap.size N ka kc ba bc/\Below w.heap.size w wr/\∀ i (h1:i<N.ks.length),i<j->okN N.ks[i]=true) (fun i _=>N.ks.length - (intOf i).toNat)
        case atStart=>exact ⟨0,Nat.zero_le _,rfl,hF4,B4,fun j _ hj=>absurd hj (Nat.not_lt_zero _)⟩
        case round =>
         obtain ⟨j,hj,rfl,hP,hb,he⟩:=hrel
         have HE:Hid (∀ i (h1:i<N.ks.length),i<j->okN N.ks[i]=true):=he
         clear he hF4 B4
         obtain ⟨p0,p1,p2,p3,p4,p5,p10,p11,p12,p13,p14⟩:=id hP
         by_cases hlt:j<N.ks.length
         ·have hi:=zR (ic:=kc) rfl O.ka hlt
          obtain ⟨ds,hd,hM⟩:=(NdsAt.below hb O.kat).at hlt
          have lD:=hM.len
          have IH:=ih ds N.ks[j] wr (by have:=zk N hlt;omega) hM
          cases cm:okN N.ks[j] with
          | false =>
           have HF:Hid (okN N=false):=by unfold Hid;rw [HK.out,okK_at hlt cm]
           rw [cm] at IH
           clear ih O h hN hM HK LF IR
           go_wp2_with (first |((with_reducible show wpList _ _ _ (⟨_,Op.load 40 _,_,_,_,none⟩::_) _ _);refine zB rfl rfl rfl hd lD ?_) |(go_at_call 52;((with_reducible refine IH.mono ?_);rintro e w5 ⟨rfl,b5⟩)))
           go_ret
           exact ⟨ret_bool HF.out.symm,Below.then hb b5⟩
          | true =>
           have HC:Hid (okN N.ks[j]=true):=cm
           rw [cm] at IH
           clear ih O h hN hM HK LF IR cm
           go_wp2_with (first |((with_reducible show wpList _ _ _ (⟨_,Op.load 40 _,_,_,_,none⟩::_) _ _);refine zB rfl rfl rfl hd lD ?_) |(go_at_call 52;((with_reducible refine IH.mono ?_);rintro e w5 ⟨rfl,b5⟩)))
           go_roundw
           case rel=>exact ⟨j+1,by omega,by go_num,hP.below b5,Below.then hb b5,fun i h1 hi=>by
            by_cases e:i=j
            ·subst e;exact HC.out
            ·exact HE.out i h1 (by omega)⟩
           case measure=>simp [intOf];omega
         ·obtain rfl:j=N.ks.length:=by omega
          have HF:Hid (okN N=true):=by unfold Hid;rw [HK.out];exact okK_all (fun i hi=>HE.out i hi hi)
          clear ih O h hN LF IR
          go_wp2_with fail
          go_ret
          exact ⟨ret_bool HF.out.symm,hb⟩
theorem vf:∀ r,yB r
 | 0=>fun cs N w hr=>absurd hr (Nat.not_lt_zero _)
 | r+1=>validR_step r (vf r)
theorem validR (cs:List Value) (N:Nd) (w:World) (h:NdV w cs N) :
  Calls Tryz.prog 52 #[.agg cs.toArray] w fun e w'=>e=.returned (.bool (okN N))/\Below w.heap.size w w' :=
 vf (rkN N+1) cs N w (Nat.lt_succ_self _) h
theorem refBodyR (ba:Option Addr) (bc bb bo:Nat) (l:List St) (w:World) (ha:l≠[]->ba=some ⟨bb,bo,none⟩) (hat:StsAt w bb bo l) (hl:l.length<=9223372036854775807) :
  Calls Tryz.prog 33 #[.slice ba l.length bc] w fun e w'=>e=.returned (.bool (okB l))/\Below w.heap.size w w' :=
 bodyR (rkB l+1) (vf _) ba bc bb bo l w (Nat.lt_succ_self _) ha hat hl
theorem xY {P:Program}{ops:Array Oper}{rest:List Oper}{o:Oper}{a:Act}{w w':World}{Q:Exit->Act->World->Prop}{v:Value}(hw:Region.wanted o (yielded ops a.tmps)=true) (hr:(execOp a.eval o).run P w=.ok (.value v) w')
  (hk:wpList P ops Q rest (a.put o.dst v) w'):wpList P ops Q (o::rest) a w :=
 wpList_step fun _ hK=>by rw [if_pos hw];unfold Oper.wp;rw [hr];exact hK _ _ hk
end Go.Proofs.YtmfhdcpajgjgpaaGreatDoor.Syn
