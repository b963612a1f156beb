/-
  Layer 10: the library's Repeat of one class; the program's isStrand.
  Layer 10: the program's isLiteral, isZero, isDefinition.
  Layer 10: the program's hasOnlyItsFields. (Written by wip/gen/syn-p11.py.)
  Layer 10: the program's fitsKind. (Written by wip/gen/syn-p12.py.)
  Layer 10: what the program's checks ask for is what the document's say (mathematics); maps of names.
  Layer 10: the program's isBody, over a contract of isValid.
  Layer 10: the program's isBody, over a contract of isValid. (Written by wip/gen/syn-p14.py.)
-/
import Derived.Test.YtmfhdcpajgjgpaaGreatDoorPd21
import Derived.Test.YtmfhdcpajgjgpaaGreatDoorShelf
import Derived.Laws.CopyOwn
import Derived.Test.YtmfhdcpajgjgpaaGreatDoorPd22
import Derived.Test.YtmfhdcpajgjgpaaGreatDoorPd12
import Derived.StringKeys
import Derived.WalkMore
set_option maxHeartbeats 16000000
namespace Go.Proofs.YtmfhdcpajgjgpaaGreatDoor.Syn
open Go.RowKit Go.Proofs.YtmfhdcpajgjgpaaGreatDoor.Shape
set_option linter.unusedVariables false
set_option linter.unusedSimpArgs false
set_option maxRecDepth 100000
theorem mul1 (n:Nat) (hn:n<=1000) (w:World):Calls Tryz.prog 64 #[.int .u64 1,.int .u64 (n:Int)] w fun e w'=>e=.returned (.tuple #[.int .u64 0,.int .u64 (n:Int)])/\w=w':=by
 have h:=Tryz.bits_Mul 1 n (by decide) (by omega) w
 rw [show ((1*n / 18446744073709551616:Nat):Int)=0 by rw [Nat.one_mul,Nat.div_eq_of_lt (by omega)];rfl,show ((1*n % 18446744073709551616:Nat):Int) =(n:Int) by rw [Nat.one_mul,Nat.mod_eq_of_lt (by omega)]] at h
 exact h.mono fun e w' ⟨h1,h2⟩=>⟨h1,h2.symm⟩
theorem infoCls':(Tryz.prog.info? 30).map (fun i=>(i.zero,i.size,i.bytes))=some (some (.int .i64 0),1,8):=by kernel_rfl
theorem sizeCls1:(Tryz.prog.info? 30).map (·.size)=some 1:=by kernel_rfl
theorem run_makeCls (w:World) (n:Nat) (hn:n*8<=140737488351232):(Instr.makeSlice 137 (.int .i64 (n:Int)) (.int .i64 (n:Int))).run Tryz.prog w=.ok (.slice (some ⟨w.heap.size,0,none⟩) n n) (w.alloc (.cells (madeCells #[.int .i64 0] n) 30)):=by
 obtain ⟨i0,hi,hz0,hz1,hz2⟩:=info_parts infoCls'
 have:=run_make (P:=Tryz.prog) w 137 30 i0 _ Tryz.underlying137 hi hz0 .i64 .i64 n n (by omega) (Int.le_refl _) (by rw [hz2];omega) (by omega)
 rw [hz1,Nat.mul_one] at this
 simp only [Int.toNat_natCast] at this
 exact this
def xl (m n:Nat):List Value:=List.replicate m (.int .i64 1)++List.replicate (n - m) (.int .i64 0)
def Ones (w:World) (g m n:Nat):Prop:=w.heap[g]?=some (.cells (xl m n).toArray 30 (0,0))
theorem onesL_len {m n:Nat}(h:m<=n):(xl m n).length=n:=by unfold xl;simp;omega
theorem ones_new (w:World) (n:Nat):Ones (w.alloc (.cells (madeCells #[.int .i64 0] n) 30)) w.heap.size 0 n:=by
 unfold Ones
 rw [heap_alloc_new]
 have:madeCells #[.int .i64 0] n =(xl 0 n).toArray:=by
  unfold xl madeCells
  apply Array.ext
  ·simp
  ·intro i h1 h2
   simp [Nat.mod_one]
 rw [this]
theorem ones_cell {w:World}{g m n:Nat}(h:Ones w g m n) {j:Nat}(hj:j<m) (hm:m<=n):w.cell? ⟨g,j,none⟩=some (.int .i64 1):=by
 unfold Ones at h
 have h2:(xl m n).toArray[j]?=some (.int .i64 1):=by
  have:(xl m n)[j]?=some (.int .i64 1):=by unfold xl;rw [List.getElem?_append_left (by simpa using hj)];simp [hj]
  simpa using this
 simp [World.cell?,h,h2]
theorem ones_row (m k n:Nat) (h:m+k<=n):(xl m n).take m++(List.replicate k (Value.int .i64 1)++(xl m n).drop (m+k))=xl (m+k) n:=by
 unfold xl
 rw [List.take_append_of_le_length (by simp),List.take_of_length_le (by simp),List.drop_append,List.drop_of_length_le (by simp),List.nil_append,List.length_replicate,List.drop_replicate,<- List.append_assoc,List.replicate_append_replicate,
  show n - m - (m+k - m)=n - (m+k) by omega]
theorem copy_ones {w:World}{g m n k:Nat}(h:Ones w g m n) (dL dC sL sC:Nat) (a:Addr) (hk:Nat.min sL dL=k) (hmk:m+k<=n) (hsrc:∀ j,j<k->w.cell? (a.add j)=some (.int .i64 1)) :
  ∃ W,(∀ ty,(Builtin.copy_ #[137,137] ty #[.slice (some ⟨g,m,none⟩) dL dC,.slice (some a) sL sC]).run Tryz.prog w=.ok (goInt k) W)/\Ones W g (m+k) n/\∀ (B:Nat) (w0:World),Below B w0 w->B<=g->Below B w0 W:=by
 have hc:=fun ty=>run_copy_wide (P:=Tryz.prog) w 137 137 ty 30 g m dL dC a sL sC 1 _ 30 (List.replicate k (.int .i64 1)) Tryz.underlying137 sizeCls1 h (by rw [List.length_replicate,hk,Nat.mul_one])
  (fun j v hj=>by
   have hjk:j<k:=by simpa using (List.getElem?_eq_some_iff.1 hj).1
   rw [hsrc j hjk]
   rw [List.getElem?_replicate_of_lt hjk] at hj
   exact hj) (by rw [List.length_replicate,List.size_toArray,onesL_len (by omega)];exact hmk) (fun u hu=>by rw [(List.mem_replicate.1 hu).2];rfl)
 rw [hk] at hc
 refine ⟨_,hc,?_,fun B w0 hb hB=>below_setRow hb hB _⟩
 unfold Ones
 rw [setRow_heap w g _ _ _ _ h]
 have:=ones_row m k n hmk
 rw [List.length_replicate]
 simp only [List.toList_toArray]
 rw [this]
theorem repeatP (a:Option Addr) (cap n:Nat) (w:World) (hl:IntsAt w a cap [1]) (h2:2<=n) (hn:n<=1000) :
  Calls Tryz.prog 115 #[.slice a 1 cap,.int .i64 (n:Int)] w fun e w'=>∃ b,e=.returned (.slice (some ⟨b,0,none⟩) n n)/\Ones w' b n n/\Below w.heap.size w w':=by
 have hn1:(n:Int)<=1000:=by omega
 have hn0:(2:Int)<=(n:Int):=by omega
 have M:=mul1 n hn
 have hm:=run_makeCls w n (by omega)
 have b0:=below_new w (.cells (madeCells #[.int .i64 0] n) 30)
 obtain ⟨-,-,-,sb,so,ha,hc⟩:=hl
 have ha:=ha (by simp)
 subst ha
 have hc0:=hc 0 (by simp)
 simp only [Nat.add_zero,List.getElem_cons_zero] at hc0
 have hc1:=(b0.cell (zD hc0)).trans hc0
 obtain ⟨W1,hcp,o1,bb1⟩:=copy_ones (ones_new w n) n n 1 cap ⟨sb,so,none⟩ (k:=1) (Nat.min_eq_left (by omega)) (by omega) (fun j hj=>by (obtain rfl:j=0:=(by omega));rw [Shape.add_plain,Nat.add_zero];exact hc1)
 have b1:=bb1 _ _ b0 (Nat.le_refl _)
 rw [Nat.zero_add] at o1
 clear bb1 hc hc0 hc1
 go_enter Tryz.func115,Tryz.ntmps115
 go_wp2_with (go_at_call 64;((with_reducible refine (M _).mono ?_);rintro e w3 ⟨rfl,rfl⟩))
 go_loopw [8] (fun i wr=>∃ m:Nat,1<=m/\m<=n/\i=.int .i64 (m:Int)/\Ones wr w.heap.size m n/\Below w.heap.size w wr) (fun i _=>n - (intOf i).toNat)
 case atStart=>exact ⟨1,Nat.le_refl _,by omega,rfl,o1,b1⟩
 case round =>
  clear o1 b1 hcp
  obtain ⟨m,hm1,hmn,rfl,ho,hb⟩:=hrel
  by_cases hlt:m<n
  ·have hlt':(m:Int) <(n:Int):=by omega
   obtain ⟨k,hk⟩:∃ k,Nat.min m (n - m)=k:=⟨_,rfl⟩
   have hk1:k<=m:=by rw [<- hk];exact Nat.min_le_left _ _
   have hk2:k<=n - m:=by rw [<- hk];exact Nat.min_le_right _ _
   have hk3:0<k:=by rw [<- hk];exact Nat.lt_min.2 ⟨by omega,by omega⟩
   have hod:Ones wr.drew w.heap.size m n:=ho
   obtain ⟨W2,hcp,o2,bb2⟩:=copy_ones hod (n - m) (n - m) m n ⟨w.heap.size,0,none⟩ (k:=k) hk (by omega) (fun j hj=>by rw [Shape.add_plain,Nat.zero_add];exact ones_cell hod (by omega) hmn)
   have b2:=bb2 _ _ hb.drew (Nat.le_refl _)
   have s1:∀ w':World,(Instr.slice 137 (.slice (some ⟨w.heap.size,0,none⟩) n n) (some (.int .i64 (m:Int))) none none).run Tryz.prog w'=.ok (.slice (some ⟨w.heap.size,m,none⟩) (n - m) (n - m)) w':=fun w'=>by
    rw [run_slice_l w' _ _ _ _ elemCls .i64 _ (by omega) (by omega),sizeCls]
    simp only [Result.andThen_ok,sliced,if_neg (show ¬ n=m by omega),Int.toNat_natCast,Option.map_some,Nat.mul_one,Shape.add_plain,Nat.zero_add]
   have s2:∀ w':World,(Instr.slice 137 (.slice (some ⟨w.heap.size,0,none⟩) n n) none (some (.int .i64 (m:Int))) none).run Tryz.prog w'=.ok (.slice (some ⟨w.heap.size,0,none⟩) m n) w':=fun w'=>by
    rw [run_slice_h w' _ _ _ _ elemCls .i64 _ (by omega) (by omega),sizeCls]
    simp only [Result.andThen_ok,sliced,if_neg (show ¬ n=0 by omega),Int.toNat_natCast,Option.map_some,Nat.zero_mul,Shape.add_plain,Nat.add_zero,Nat.sub_zero]
   have hw:IntKind.i64.wrap ((m:Int)+(k:Int)) =(m:Int)+(k:Int):=IntWalk.i64_in _ (by omega)
   have hkk:(k:Int)<=1000:=by omega
   clear hk bb2 ho
   go_wp2_with fail
   go_region
   all_goals
    go_wp2_with fail
    go_roundw
    case rel=>exact ⟨m+k,by omega,by omega,by go_num,o2,b2⟩
    case measure=>simp [intOf];omega
  ·obtain rfl:m=n:=by omega
   go_wp2_with fail
   go_ret
   exact ⟨_,rfl,ho,hb⟩
theorem ones_ints {w:World}{b n:Nat}(h:Ones w b n n) (hn:n<=1000):IntsAt w (some ⟨b,0,none⟩) n (List.replicate n 1):=by
 refine ⟨by simp,by omega,fun x hx=>by rw [(List.mem_replicate.1 hx).2];decide,b,0,fun _=>rfl,fun i hi=>?_⟩
 rw [List.length_replicate] at hi
 rw [Nat.zero_add,ones_cell h hi (Nat.le_refl _)]
 simp
def qy (N:Nd):Bool:=decide (2<=N.ks.length)&&decide (N.ks.length<=1000)&&allC N.ks
theorem cls_rep (N:Nd):clsB (List.replicate N.ks.length 1) N=allC N.ks:=by
 unfold clsB allC
 have:∀ l:List Nd,zt (l.map Nd.c) (List.replicate l.length 1)=l.all fun K=>K.c==1:=by
  intro l
  induction l with
  | nil=>rfl
  | cons A r ih =>
   rw [List.map_cons,List.length_cons,List.replicate_succ,List.all_cons,<- ih]
   unfold zt
   by_cases h1:A.c=1
   ·simp [h1]
   ·simp [h1]
 exact this _
theorem isStrandP (N:Nd) (b off:Nat) (w:World) (h:NdM w b off N):Calls Tryz.prog 92 #[.pointer (some ⟨b,off,none⟩)] w fun e w'=>e=.returned (.bool (qy N))/\Below w.heap.size w w':=by
 obtain ⟨cs,v0,v1,v2,v3,ka,kc,ba,bc,kb,ko,bb,bo,O,hC,lC,G⟩:=h.opn
 obtain ⟨-,-,-,-,-,-,-,-,-,-,g10,-,-,-,-⟩:=id G
 obtain ⟨n,hn⟩:∃ n,N.ks.length=n:=⟨_,rfl⟩
 have hq:qy N =(decide (2<=n)&&decide (n<=1000)&&clsB (List.replicate n 1) N):=by rw [qy,<- cls_rep,hn]
 obtain ⟨r,hr⟩:∃ r,qy N=r:=⟨_,rfl⟩
 rw [hr] at hq ⊢
 have HQ:Hid (r =(decide (2<=n)&&decide (n<=1000)&&clsB (List.replicate n 1) N)):=hq
 rw [hn] at g10
 clear hq hr hn O hC G
 by_cases h2:2<=n
 ·have h2':¬ (n:Int)<2:=by omega
  by_cases h3:n<=1000
  ·have h3':¬ (1000:Int) <(n:Int):=by omega
   have B1:=below_new w (.cells #[.int .i64 1] 30)
   have I1:IntsAt (w.alloc (.cells #[.int .i64 1] 30)) (some ⟨w.heap.size,0,none⟩) 1 [1]:=wv w _ [1] (yz (by intro z hz;simp at hz;subst hz;decide)) (by simp)
   have R:=repeatP _ 1 n _ I1 h2 h3
   have K:=fun w' bb (g:Below w.heap.size w w') (o:Ones w' bb n n)=>hasKidsP N b off _ n (List.replicate n 1) w' (h.below g) (ones_ints o h3)
   simp only [List.length_replicate] at K
   obtain ⟨C,hC⟩:∃ C,clsB (List.replicate n 1) N=C:=⟨_,rfl⟩
   rw [hC] at HQ
   simp only [hC] at K
   have HR:Hid (r=C):=by unfold Hid;rw [HQ.out,decide_eq_true h2,decide_eq_true h3];rfl
   clear hC HQ I1 h
   have g11:=(B1.cell (zD g10)).trans g10
   go_enter Tryz.func92,Tryz.ntmps92
   go_wp2_with (first |(go_at_call 115;((with_reducible refine R.mono ?_);rintro e w3 ⟨bk,rfl,o3,b3⟩;(have B3:=Below.then B1 b3);(have K3:=K _ _ B3 o3))) |(go_at_call 93;((with_reducible refine K3.mono ?_);rintro e w4 ⟨rfl,b4⟩)))
   go_ret
   exact ⟨ret_bool HR.out.symm,Below.then B3 b4⟩
  ·have h3':(1000:Int) <(n:Int):=by omega
   have HR:Hid (r=false):=by unfold Hid;rw [HQ.out,decide_eq_false h3];simp
   clear HQ h h3
   go_enter Tryz.func92,Tryz.ntmps92
   go_wp2_with fail
   go_ret
   exact ⟨ret_bool HR.out.symm,Below.refl _ _⟩
 ·have h2':(n:Int)<2:=by omega
  have HR:Hid (r=false):=by unfold Hid;rw [HQ.out,decide_eq_false h2];rfl
  clear HQ h h2
  go_enter Tryz.func92,Tryz.ntmps92
  go_wp2_with fail
  go_ret
  exact ⟨ret_bool HR.out.symm,Below.refl _ _⟩
theorem right_kind {A:Arr}(h:zo A=0):A.kind=1∨A.kind=2∨A.kind=3:=by
 obtain ⟨k,sh,nu,it⟩:=A
 unfold zo at h
 by_cases hk:k<1∨3<k
 ·rw [chk_kind hk] at h;cases h
 ·show k=1∨k=2∨k=3
  omega
def lit0 (A:Arr):Bool:=(A.kind==1&&(A.shape.length:Int)==0) ||(A.kind==2&&decide ((A.shape.length:Int)<=1))
def litP (A:Arr):Bool:=zo A==0&&litB A
theorem litP_eq (A:Arr):litP A =(lit0 A&&zo A==0):=by
 by_cases h:zo A=0
 ·have hb:(zo A==0)=true:=by rw [h];rfl
  unfold litP
  rw [hb,Bool.true_and,Bool.and_true]
  unfold litB lit0
  generalize A.shape.length=n
  rcases right_kind h with e | e | e
  ·rw [e];rcases n with _ | n <;> simp
  ·rw [e];rcases n with _ | _ | n
   ·simp
   ·simp
   ·have h1:¬ (((n+1+1:Nat):Int)<=1):=by omega
    have h2:((((n+1+1:Nat):Int))==0)=false:=by simp;omega
    have h3:((((n+1+1:Nat):Int))==1)=false:=by simp;omega
    rw [h2,h3,decide_eq_false h1];simp
  ·rw [e];simp
 ·have hb:(zo A==0)=false:=by simpa using h
  unfold litP
  rw [hb];simp
theorem isLiteralP (v0 v1 v2 v3:Value) (A:Arr) (w:World) (h:ArrAt w (.agg #[v0,v1,v2,v3]) A):Calls Tryz.prog 91 #[.agg #[v0,v1,v2,v3]] w fun e w'=>e=.returned (.bool (litP A))/\Below w.heap.size w w':=by
 rw [litP_eq]
 obtain ⟨k,sh,nu,it⟩:=A
 have hA:=h
 rw [ArrAt] at h
 obtain ⟨sa,sc,na,nc,ia,ic,e,-⟩:=h
 obtain ⟨rfl,rfl,rfl,rfl⟩:v0=.int .i64 k/\v1=.slice sa sh.length sc/\v2=.slice na nu.length nc/\v3=.slice ia it.length ic:=by
  simpa using e
 clear e
 have B1:=below_new w (.cells #[.int .i64 k,.slice sa sh.length sc,.slice na nu.length nc,.slice ia it.length ic] 37)
 have R:=rightQ _ _ _ (hA.below B1)
 clear hA
 obtain ⟨q,hq⟩:∃ q,zo (.mk k sh nu it)=q:=⟨_,rfl⟩
 rw [hq] at R ⊢
 obtain ⟨r,hr⟩:∃ r,(lit0 (.mk k sh nu it)&&q==0)=r:=⟨_,rfl⟩
 rw [hr]
 have HQ:Hid (((k==1&&(sh.length:Int)==0) ||(k==2&&decide ((sh.length:Int)<=1))&&true)=lit0 (.mk k sh nu it)):=by unfold Hid;simp [lit0,Arr.kind,Arr.shape];rfl
 obtain ⟨t,ht⟩:∃ t,lit0 (.mk k sh nu it)=t:=⟨_,rfl⟩
 rw [ht] at HQ hr
 have HR:Hid ((t&&q==0)=r):=hr
 clear hr ht hq
 by_cases k1:k=1
 ·subst k1
  cases z0:((sh.length:Int)==0) with
  | true =>
   have HG:Hid (r =(q==0)):=by unfold Hid;rw [<- HR.out,<- HQ.out,z0];rfl
   clear HQ HR
   go_enter Tryz.func91,Tryz.ntmps91
   go_wp2_with (go_at_call 114;((with_reducible refine R.mono ?_);rintro e w3 ⟨rfl,b3⟩))
   go_ret
   exact ⟨ret_bool HG.out.symm,Below.then B1 b3⟩
  | false =>
   have HG:Hid (r=false):=by unfold Hid;rw [<- HR.out,<- HQ.out,z0];rfl
   clear HQ HR R
   go_enter Tryz.func91,Tryz.ntmps91
   go_wp2_with fail
   go_ret
   exact ⟨ret_bool HG.out.symm,B1⟩
 ·have k1':(k==1)=false:=by simpa using k1
  by_cases k2:k=2
  ·subst k2
   by_cases z0:(sh.length:Int)<=1
   ·have HG:Hid (r =(q==0)):=by unfold Hid;rw [<- HR.out,<- HQ.out,decide_eq_true z0];rfl
    clear HQ HR
    go_enter Tryz.func91,Tryz.ntmps91
    go_wp2_with (go_at_call 114;((with_reducible refine R.mono ?_);rintro e w3 ⟨rfl,b3⟩))
    go_ret
    exact ⟨ret_bool HG.out.symm,Below.then B1 b3⟩
   ·have HG:Hid (r=false):=by unfold Hid;rw [<- HR.out,<- HQ.out,decide_eq_false z0];rfl
    clear HQ HR R
    go_enter Tryz.func91,Tryz.ntmps91
    go_wp2_with fail
    go_ret
    exact ⟨ret_bool HG.out.symm,B1⟩
  ·have k2':(k==2)=false:=by simpa using k2
   have HG:Hid (r=false):=by unfold Hid;rw [<- HR.out,<- HQ.out,k1',k2'];rfl
   clear HQ HR R k1 k2
   go_enter Tryz.func91,Tryz.ntmps91
   go_wp2_with fail
   go_ret
   exact ⟨ret_bool HG.out.symm,B1⟩
theorem xm (w:World):NdM (w.alloc (.cells zNv.toArray 40)) w.heap.size 0 zN:=NdV.mem (zN_at w) _
theorem isZeroP (N:Nd) (b off:Nat) (w:World) (h:NdM w b off N):Calls Tryz.prog 61 #[.pointer (some ⟨b,off,none⟩)] w fun e w'=>e=.returned (.bool (qH N))/\Below w.heap.size w w':=by
 obtain ⟨cs,v0,v1,v2,v3,ka,kc,ba,bc,kb,ko,bb,bo,O,hC,lC,G⟩:=h.opn
 obtain ⟨-,g1,-,-,-,-,-,-,-,-,-,-,g12,g13,g14⟩:=id G
 have B1:=below_new w (.cells zNv.toArray 40)
 have C:=qp b off w.heap.size 0 N zN _ (h.below B1) (xm w)
 unfold zNv at C B1
 obtain ⟨q,hq⟩:∃ q,eqN N zN=q:=⟨_,rfl⟩
 obtain ⟨r,hr⟩:∃ r,qH N=r:=⟨_,rfl⟩
 rw [hr]
 rw [hq] at C
 have HQ:Hid ((q&&N.a==0&&N.d==0&&N.s==0&&N.z==0)=r):=by unfold Hid;rw [<- hr,qH,hq]
 clear hr hq h O hC G lC
 cases ca:(N.a==0) with
 | false =>
  have HG:Hid (r=false):=by unfold Hid;rw [<- HQ.out,ca];simp
  clear HQ C
  go_enter Tryz.func61,Tryz.ntmps61
  go_wp2_with fail
  go_ret
  exact ⟨ret_bool HG.out.symm,Below.refl _ _⟩
 | true =>
 cases cd:(N.d==0) with
 | false =>
  have HG:Hid (r=false):=by unfold Hid;rw [<- HQ.out,cd];simp
  clear HQ C
  go_enter Tryz.func61,Tryz.ntmps61
  go_wp2_with fail
  go_ret
  exact ⟨ret_bool HG.out.symm,Below.refl _ _⟩
 | true =>
 cases c3:(N.s==0) with
 | false =>
  have HG:Hid (r=false):=by unfold Hid;rw [<- HQ.out,c3];simp
  clear HQ C
  go_enter Tryz.func61,Tryz.ntmps61
  go_wp2_with fail
  go_ret
  exact ⟨ret_bool HG.out.symm,Below.refl _ _⟩
 | true =>
 cases c4:(N.z==0) with
 | false =>
  have HG:Hid (r=false):=by unfold Hid;rw [<- HQ.out,c4];simp
  clear HQ C
  go_enter Tryz.func61,Tryz.ntmps61
  go_wp2_with fail
  go_ret
  exact ⟨ret_bool HG.out.symm,Below.refl _ _⟩
 | true =>
  have HG:Hid (r=q):=by unfold Hid;rw [<- HQ.out,ca,cd,c3,c4];simp
  clear HQ
  go_enter Tryz.func61,Tryz.ntmps61
  go_wp2_with (go_at_call 83;((with_reducible refine C.mono ?_);rintro e w3 ⟨rfl,b3⟩))
  go_ret
  exact ⟨ret_bool HG.out.symm,Below.then B1 b3⟩
def defB (S:St):Bool:=zu S.n&&decide (0<=S.s)&&qH S.te&&(S.nd.c==1 || S.nd.c==2 || S.nd.k==10)
theorem isDefinitionP (S:St) (b off:Nat) (w:World) (h:StM w b off S) (hs:S.n.size<=9223372036854775807) (hT:Tab w):Calls Tryz.prog 62 #[.pointer (some ⟨b,off,none⟩)] w fun e w'=>e=.returned (.bool (defB S))/\Below w.heap.size w w':=by
 obtain ⟨-,-,x2,x3⟩:=h.head
 have I:=isNameP S.n w hs hT
 have Z:=fun w' (g:Below w.heap.size w w')=>isZeroP S.te b (off+4) w' (h.test.below g)
 have HN:=h.node
 obtain ⟨cs,v0,v1,v2,v3,ka,kc,ba,bc,kb,ko,bb,bo,O,hC,lC,G⟩:=HN.opn
 have L:b<w.heap.size:=zD x2
 obtain ⟨r,hr⟩:∃ r,defB S=r:=⟨_,rfl⟩
 obtain ⟨q,hq⟩:∃ q,qH S.te=q:=⟨_,rfl⟩
 obtain ⟨m,hm⟩:∃ m,zu S.n=m:=⟨_,rfl⟩
 rw [hr]
 simp only [hq] at Z
 rw [hm] at I
 have HQ:Hid ((m&&decide (0<=S.s)&&q&&(S.nd.c==1 || S.nd.c==2 || S.nd.k==10))=r):=by unfold Hid;rw [<- hr,defB,hq,hm]
 clear hr hq hm h hT O hC lC HN
 cases m with
 | false =>
  have HG:Hid (r=false):=by unfold Hid;rw [<- HQ.out];rfl
  clear HQ Z G
  go_enter Tryz.func62,Tryz.ntmps62
  go_wp2_with (go_at_call 84;((with_reducible refine I.mono ?_);rintro e w3 ⟨rfl,b3⟩))
  go_ret
  exact ⟨ret_bool HG.out.symm,b3⟩
 | true =>
 by_cases c3:S.s<0
 ·have HG:Hid (r=false):=by unfold Hid;rw [<- HQ.out,decide_eq_false (by omega)];rfl
  clear HQ Z G
  go_enter Tryz.func62,Tryz.ntmps62
  go_wp2_with (go_at_call 84;((with_reducible refine I.mono ?_);rintro e w3 ⟨rfl,b3⟩;(have y3:=(b3.cell (zD x3)).trans x3)))
  go_ret
  exact ⟨ret_bool HG.out.symm,b3⟩
 ·rw [decide_eq_true (by omega:0<=S.s)] at HQ
  cases q with
  | false =>
   have HG:Hid (r=false):=by unfold Hid;rw [<- HQ.out];rfl
   clear HQ G
   go_enter Tryz.func62,Tryz.ntmps62
   go_wp2_with (first |(go_at_call 84;((with_reducible refine I.mono ?_);rintro e w3 ⟨rfl,b3⟩;(have y3:=(b3.cell (zD x3)).trans x3);(have Z3:=Z _ b3))) |(go_at_call 61;((with_reducible refine Z3.mono ?_);rintro e w4 ⟨rfl,b4⟩)))
   go_ret
   exact ⟨ret_bool HG.out.symm,Below.then b3 b4⟩
  | true =>
   have HG:Hid (r =(S.nd.c==1 || S.nd.c==2 || S.nd.k==10)):=by unfold Hid;rw [<- HQ.out];rfl
   clear HQ
   cases d1:(S.nd.c==1) with
   | true =>
    rw [d1] at HG
    go_enter Tryz.func62,Tryz.ntmps62
    go_wp2_with (first |(go_at_call 84;((with_reducible refine I.mono ?_);rintro e w3 ⟨rfl,b3⟩;(have y3:=(b3.cell (zD x3)).trans x3);(have Z3:=Z _ b3))) |(go_at_call 61;((with_reducible refine Z3.mono ?_);rintro e w4 ⟨rfl,b4⟩;(obtain ⟨z0,-,z2,-⟩:=G.below (Below.then b3 b4));clear G)))
    go_ret
    exact ⟨ret_bool HG.out.symm,Below.then b3 b4⟩
   | false =>
   rw [d1] at HG
   cases d2:(S.nd.c==2) with
   | true =>
    rw [d2] at HG
    go_enter Tryz.func62,Tryz.ntmps62
    go_wp2_with (first |(go_at_call 84;((with_reducible refine I.mono ?_);rintro e w3 ⟨rfl,b3⟩;(have y3:=(b3.cell (zD x3)).trans x3);(have Z3:=Z _ b3))) |(go_at_call 61;((with_reducible refine Z3.mono ?_);rintro e w4 ⟨rfl,b4⟩;(obtain ⟨z0,-,z2,-⟩:=G.below (Below.then b3 b4));clear G)))
    go_ret
    exact ⟨ret_bool HG.out.symm,Below.then b3 b4⟩
   | false =>
    rw [d2] at HG
    go_enter Tryz.func62,Tryz.ntmps62
    go_wp2_with (first |(go_at_call 84;((with_reducible refine I.mono ?_);rintro e w3 ⟨rfl,b3⟩;(have y3:=(b3.cell (zD x3)).trans x3);(have Z3:=Z _ b3))) |(go_at_call 61;((with_reducible refine Z3.mono ?_);rintro e w4 ⟨rfl,b4⟩;(obtain ⟨z0,-,z2,-⟩:=G.below (Below.then b3 b4));clear G)))
    go_ret
    exact ⟨ret_bool HG.out.symm,Below.then b3 b4⟩
theorem Cells.put {w:World}{b:Nat}{cs:List Value}(h:Cells w b 0 cs) (i:Nat) (v:Value):Cells (w.setCell ⟨b,i,none⟩ v) b 0 (cs.set i v):=by
 intro j hj
 have hj':j<cs.length:=by simpa using hj
 have hc:=h j hj'
 simp only [Nat.zero_add] at hc ⊢
 by_cases e:i=j
 ·subst e
  rw [World.cell?_setCell_same _ _ _ hc];simp
 ·rw [World.cell?_setCell_other _ _ _ _ (by intro q;injection q with _ q2;exact e q2),hc]
  simp [e]
theorem eqK_nil (l:List Nd):eqK l [] =((l.length:Int)==0):=by
 cases l with
 | nil=>simp [eqK]
 | cons A r =>
  have:(((A::r).length:Int)==0)=false:=by simp;omega
  rw [this,eqK] <;> intros <;> simp_all
theorem eqB_nil (l:List St):eqB l [] =((l.length:Int)==0):=by
 cases l with
 | nil=>simp [eqB]
 | cons A r =>
  have:(((A::r).length:Int)==0)=false:=by simp;omega
  rw [this,eqB] <;> intros <;> simp_all
theorem text_nil (t:ByteArray):(t==(⟨#[]⟩:ByteArray))=zQ t:=by
 have h:(⟨#[]⟩:ByteArray).toList=[]:=by rw [ByteArray.toList_eq]
 unfold zQ
 rw [ba_beq,<- str_eq,h]
theorem xJ:eqA zA zA=true:=by decide
theorem kS (a:Int) (t:ByteArray) (p o:Int) (v:Arr) (ks:List Nd) (bd:List St) (d s z:Int):eqN (.mk 0 a 0 t p o v ks bd d s z) zN =(zQ t&&p==0&&o==0&&eqA v zA&&(ks.length:Int)==0&&(bd.length:Int)==0):=by
 unfold zN
 rw [eqN,eqK_nil,eqB_nil,text_nil];simp
def stV (N:Nd):Nd:=.mk 0 N.a 0 N.t N.p N.o zA N.ks N.bd N.d N.s N.z
def ceV (cs:List Value):List Value:=(((((cs.set 0 (.int .i64 0)).set 2 (.int .i64 0)).set 6 (.int .i64 0)).set 7 (.slice none 0 0)).set 8 (.slice none 0 0)).set 9 (.slice none 0 0)
theorem eq_stV (N:Nd):eqN (stV N) zN=zF false false false true false false N:=by
 unfold stV zF
 rw [kS]
 simp [xJ,zQ]
theorem nd_stV {w:World}{cs:List Value}{N:Nd}{v0 v1 v2 v3:Value}{ka:Option Addr}{kc:Nat}{ba:Option Addr}{bc kb ko bb bo:Nat}(O:Open w cs N v0 v1 v2 v3 ka kc ba bc kb ko bb bo):NdV w (ceV cs) (stV N):=by
 have e:=O.eq
 subst e
 obtain ⟨b0,b1,b2,b3,b4,b5,b6,b7⟩:=O.bd
 have z:I64 0:=⟨by decide,by decide⟩
 unfold stV
 rw [NdV]
 exact ⟨_,_,_,_,ka,kc,ba,bc,rfl,⟨z,b1,z,b3,b4,b5,b6,b7⟩,O.ts,xK w,O.kl,O.bl,⟨kb,ko,O.ka,O.kat⟩,⟨bb,bo,O.ba,O.bat⟩⟩
def stT (N:Nd):Nd:=.mk 0 N.a 0 ⟨#[]⟩ N.p N.o N.v N.ks N.bd N.d N.s N.z
def ceT (cs:List Value):List Value:=((cs.set 0 (.int .i64 0)).set 2 (.int .i64 0)).set 3 (.string ⟨#[]⟩)
theorem eq_stT (N:Nd):eqN (stT N) zN=zF true false false false false false N:=by
 unfold stT zF
 rw [kS]
 simp [xJ,zQ]
theorem nd_stT {w:World}{cs:List Value}{N:Nd}{v0 v1 v2 v3:Value}{ka:Option Addr}{kc:Nat}{ba:Option Addr}{bc kb ko bb bo:Nat}(O:Open w cs N v0 v1 v2 v3 ka kc ba bc kb ko bb bo):NdV w (ceT cs) (stT N):=by
 have e:=O.eq
 subst e
 obtain ⟨b0,b1,b2,b3,b4,b5,b6,b7⟩:=O.bd
 have z:I64 0:=⟨by decide,by decide⟩
 unfold stT
 rw [NdV]
 exact ⟨v0,v1,v2,v3,ka,kc,ba,bc,rfl,⟨z,b1,z,b3,b4,b5,b6,b7⟩,by decide,O.arr,O.kl,O.bl,⟨kb,ko,O.ka,O.kat⟩,⟨bb,bo,O.ba,O.bat⟩⟩
def stK (N:Nd):Nd:=.mk 0 N.a 0 N.t N.p N.o N.v [] N.bd N.d N.s N.z
def ceK (cs:List Value):List Value:=((cs.set 0 (.int .i64 0)).set 2 (.int .i64 0)).set 10 (.slice none 0 0)
theorem eq_stK (N:Nd):eqN (stK N) zN=zF false false false false true false N:=by
 unfold stK zF
 rw [kS]
 simp [xJ,zQ]
theorem nd_stK {w:World}{cs:List Value}{N:Nd}{v0 v1 v2 v3:Value}{ka:Option Addr}{kc:Nat}{ba:Option Addr}{bc kb ko bb bo:Nat}(O:Open w cs N v0 v1 v2 v3 ka kc ba bc kb ko bb bo):NdV w (ceK cs) (stK N):=by
 have e:=O.eq
 subst e
 obtain ⟨b0,b1,b2,b3,b4,b5,b6,b7⟩:=O.bd
 have z:I64 0:=⟨by decide,by decide⟩
 unfold stK
 rw [NdV]
 exact ⟨v0,v1,v2,v3,none,0,ba,bc,rfl,⟨z,b1,z,b3,b4,b5,b6,b7⟩,O.ts,O.arr,⟨Nat.zero_le _,by decide⟩,O.bl,⟨0,0,fun h=>absurd rfl h,by rw [NdsAt];trivial⟩,⟨bb,bo,O.ba,O.bat⟩⟩
def stP (N:Nd):Nd:=.mk 0 N.a 0 N.t 0 N.o N.v N.ks N.bd N.d N.s N.z
def ceP (cs:List Value):List Value:=((cs.set 0 (.int .i64 0)).set 2 (.int .i64 0)).set 4 (.int .i64 0)
theorem eq_stP (N:Nd):eqN (stP N) zN=zF false true false false false false N:=by
 unfold stP zF
 rw [kS]
 simp [xJ,zQ]
theorem nd_stP {w:World}{cs:List Value}{N:Nd}{v0 v1 v2 v3:Value}{ka:Option Addr}{kc:Nat}{ba:Option Addr}{bc kb ko bb bo:Nat}(O:Open w cs N v0 v1 v2 v3 ka kc ba bc kb ko bb bo):NdV w (ceP cs) (stP N):=by
 have e:=O.eq
 subst e
 obtain ⟨b0,b1,b2,b3,b4,b5,b6,b7⟩:=O.bd
 have z:I64 0:=⟨by decide,by decide⟩
 unfold stP
 rw [NdV]
 exact ⟨v0,v1,v2,v3,ka,kc,ba,bc,rfl,⟨z,b1,z,z,b4,b5,b6,b7⟩,O.ts,O.arr,O.kl,O.bl,⟨kb,ko,O.ka,O.kat⟩,⟨bb,bo,O.ba,O.bat⟩⟩
def stB (N:Nd):Nd:=.mk 0 N.a 0 N.t N.p N.o N.v N.ks [] N.d N.s N.z
def ceB (cs:List Value):List Value:=((cs.set 0 (.int .i64 0)).set 2 (.int .i64 0)).set 11 (.slice none 0 0)
theorem eq_stB (N:Nd):eqN (stB N) zN=zF false false false false false true N:=by
 unfold stB zF
 rw [kS]
 simp [xJ,zQ]
theorem nd_stB {w:World}{cs:List Value}{N:Nd}{v0 v1 v2 v3:Value}{ka:Option Addr}{kc:Nat}{ba:Option Addr}{bc kb ko bb bo:Nat}(O:Open w cs N v0 v1 v2 v3 ka kc ba bc kb ko bb bo):NdV w (ceB cs) (stB N):=by
 have e:=O.eq
 subst e
 obtain ⟨b0,b1,b2,b3,b4,b5,b6,b7⟩:=O.bd
 have z:I64 0:=⟨by decide,by decide⟩
 unfold stB
 rw [NdV]
 exact ⟨v0,v1,v2,v3,ka,kc,none,0,rfl,⟨z,b1,z,b3,b4,b5,b6,b7⟩,O.ts,O.arr,O.kl,⟨Nat.zero_le _,by decide⟩,⟨kb,ko,O.ka,O.kat⟩,⟨0,0,fun h=>absurd rfl h,by rw [StsAt];trivial⟩⟩
def stO (N:Nd):Nd:=.mk 0 N.a 0 N.t N.p 0 N.v N.ks N.bd N.d N.s N.z
def ceO (cs:List Value):List Value:=((cs.set 0 (.int .i64 0)).set 2 (.int .i64 0)).set 5 (.int .i64 0)
theorem eq_stO (N:Nd):eqN (stO N) zN=zF false false true false false false N:=by
 unfold stO zF
 rw [kS]
 simp [xJ,zQ]
theorem nd_stO {w:World}{cs:List Value}{N:Nd}{v0 v1 v2 v3:Value}{ka:Option Addr}{kc:Nat}{ba:Option Addr}{bc kb ko bb bo:Nat}(O:Open w cs N v0 v1 v2 v3 ka kc ba bc kb ko bb bo):NdV w (ceO cs) (stO N):=by
 have e:=O.eq
 subst e
 obtain ⟨b0,b1,b2,b3,b4,b5,b6,b7⟩:=O.bd
 have z:I64 0:=⟨by decide,by decide⟩
 unfold stO
 rw [NdV]
 exact ⟨v0,v1,v2,v3,ka,kc,ba,bc,rfl,⟨z,b1,z,b3,z,b5,b6,b7⟩,O.ts,O.arr,O.kl,O.bl,⟨kb,ko,O.ka,O.kat⟩,⟨bb,bo,O.ba,O.bat⟩⟩
def stE (N:Nd):Nd:=.mk 0 N.a 0 N.t N.p N.o N.v N.ks N.bd N.d N.s N.z
def ceE (cs:List Value):List Value:=(cs.set 0 (.int .i64 0)).set 2 (.int .i64 0)
theorem eq_stE (N:Nd):eqN (stE N) zN=zF false false false false false false N:=by
 unfold stE zF
 rw [kS]
 simp [xJ,zQ]
theorem nd_stE {w:World}{cs:List Value}{N:Nd}{v0 v1 v2 v3:Value}{ka:Option Addr}{kc:Nat}{ba:Option Addr}{bc kb ko bb bo:Nat}(O:Open w cs N v0 v1 v2 v3 ka kc ba bc kb ko bb bo):NdV w (ceE cs) (stE N):=by
 have e:=O.eq
 subst e
 obtain ⟨b0,b1,b2,b3,b4,b5,b6,b7⟩:=O.bd
 have z:I64 0:=⟨by decide,by decide⟩
 unfold stE
 rw [NdV]
 exact ⟨v0,v1,v2,v3,ka,kc,ba,bc,rfl,⟨z,b1,z,b3,b4,b5,b6,b7⟩,O.ts,O.arr,O.kl,O.bl,⟨kb,ko,O.ka,O.kat⟩,⟨bb,bo,O.ba,O.bat⟩⟩
def qT (N:Nd):Bool :=
 if N.k=1 then zF false false false true false false N else if N.k=2 then zF true false false false false false N
 else if N.k=3∨N.k=4∨N.k=5∨N.k=14∨N.k=15∨N.k=16 then zF false false false false true false N
 else if N.k=9 then zF false true false false false false N else if N.k=10 then zF false false false false false true N else if N.k=17 then zF false false true false false false N else zF false false false false false false N
def onlyB (N:Nd):Bool:=qW N&&qT N
theorem call_stV {w:World}{cs:List Value}{N:Nd}{v0 v1 v2 v3:Value}{ka:Option Addr}{kc:Nat}{ba:Option Addr}{bc kb ko bb bo:Nat}(O:Open w cs N v0 v1 v2 v3 ka kc ba bc kb ko bb bo) :
  Calls Tryz.prog 83 #[.pointer (some ⟨w.heap.size,0,none⟩),.pointer (some ⟨w.heap.size+1,0,none⟩)] ((w.alloc (.cells (ceV cs).toArray 40)).alloc (.cells zNv.toArray 40)) fun e w'=>e=.returned (.bool (zF false false false true false false N))/\Below w.heap.size w w':=by
 have B:=below_new w (.cells (ceV cs).toArray 40)
 have M:NdM (w.alloc (.cells (ceV cs).toArray 40)) w.heap.size 0 (stV N):=(nd_stV O).mem _
 have hs:(w.alloc (.cells (ceV cs).toArray 40)).heap.size=w.heap.size+1:=by simp
 have C:=qp _ 0 _ 0 (stV N) zN _ (M.below (below_new _ (.cells zNv.toArray 40))) (xm _)
 rw [hs,eq_stV] at C
 exact C.mono (fun e w' ⟨h1,h2⟩=>⟨h1,Below.then (Below.then B (below_new _ _)) h2⟩)
theorem call_stT {w:World}{cs:List Value}{N:Nd}{v0 v1 v2 v3:Value}{ka:Option Addr}{kc:Nat}{ba:Option Addr}{bc kb ko bb bo:Nat}(O:Open w cs N v0 v1 v2 v3 ka kc ba bc kb ko bb bo) :
  Calls Tryz.prog 83 #[.pointer (some ⟨w.heap.size,0,none⟩),.pointer (some ⟨w.heap.size+1,0,none⟩)] ((w.alloc (.cells (ceT cs).toArray 40)).alloc (.cells zNv.toArray 40)) fun e w'=>e=.returned (.bool (zF true false false false false false N))/\Below w.heap.size w w':=by
 have B:=below_new w (.cells (ceT cs).toArray 40)
 have M:NdM (w.alloc (.cells (ceT cs).toArray 40)) w.heap.size 0 (stT N):=(nd_stT O).mem _
 have hs:(w.alloc (.cells (ceT cs).toArray 40)).heap.size=w.heap.size+1:=by simp
 have C:=qp _ 0 _ 0 (stT N) zN _ (M.below (below_new _ (.cells zNv.toArray 40))) (xm _)
 rw [hs,eq_stT] at C
 exact C.mono (fun e w' ⟨h1,h2⟩=>⟨h1,Below.then (Below.then B (below_new _ _)) h2⟩)
theorem xV {w:World}{cs:List Value}{N:Nd}{v0 v1 v2 v3:Value}{ka:Option Addr}{kc:Nat}{ba:Option Addr}{bc kb ko bb bo:Nat}(O:Open w cs N v0 v1 v2 v3 ka kc ba bc kb ko bb bo) :
  Calls Tryz.prog 83 #[.pointer (some ⟨w.heap.size,0,none⟩),.pointer (some ⟨w.heap.size+1,0,none⟩)] ((w.alloc (.cells (ceK cs).toArray 40)).alloc (.cells zNv.toArray 40)) fun e w'=>e=.returned (.bool (zF false false false false true false N))/\Below w.heap.size w w':=by
 have B:=below_new w (.cells (ceK cs).toArray 40)
 have M:NdM (w.alloc (.cells (ceK cs).toArray 40)) w.heap.size 0 (stK N):=(nd_stK O).mem _
 have hs:(w.alloc (.cells (ceK cs).toArray 40)).heap.size=w.heap.size+1:=by simp
 have C:=qp _ 0 _ 0 (stK N) zN _ (M.below (below_new _ (.cells zNv.toArray 40))) (xm _)
 rw [hs,eq_stK] at C
 exact C.mono (fun e w' ⟨h1,h2⟩=>⟨h1,Below.then (Below.then B (below_new _ _)) h2⟩)
theorem call_stP {w:World}{cs:List Value}{N:Nd}{v0 v1 v2 v3:Value}{ka:Option Addr}{kc:Nat}{ba:Option Addr}{bc kb ko bb bo:Nat}(O:Open w cs N v0 v1 v2 v3 ka kc ba bc kb ko bb bo) :
  Calls Tryz.prog 83 #[.pointer (some ⟨w.heap.size,0,none⟩),.pointer (some ⟨w.heap.size+1,0,none⟩)] ((w.alloc (.cells (ceP cs).toArray 40)).alloc (.cells zNv.toArray 40)) fun e w'=>e=.returned (.bool (zF false true false false false false N))/\Below w.heap.size w w':=by
 have B:=below_new w (.cells (ceP cs).toArray 40)
 have M:NdM (w.alloc (.cells (ceP cs).toArray 40)) w.heap.size 0 (stP N):=(nd_stP O).mem _
 have hs:(w.alloc (.cells (ceP cs).toArray 40)).heap.size=w.heap.size+1:=by simp
 have C:=qp _ 0 _ 0 (stP N) zN _ (M.below (below_new _ (.cells zNv.toArray 40))) (xm _)
 rw [hs,eq_stP] at C
 exact C.mono (fun e w' ⟨h1,h2⟩=>⟨h1,Below.then (Below.then B (below_new _ _)) h2⟩)
theorem call_stB {w:World}{cs:List Value}{N:Nd}{v0 v1 v2 v3:Value}{ka:Option Addr}{kc:Nat}{ba:Option Addr}{bc kb ko bb bo:Nat}(O:Open w cs N v0 v1 v2 v3 ka kc ba bc kb ko bb bo) :
  Calls Tryz.prog 83 #[.pointer (some ⟨w.heap.size,0,none⟩),.pointer (some ⟨w.heap.size+1,0,none⟩)] ((w.alloc (.cells (ceB cs).toArray 40)).alloc (.cells zNv.toArray 40)) fun e w'=>e=.returned (.bool (zF false false false false false true N))/\Below w.heap.size w w':=by
 have B:=below_new w (.cells (ceB cs).toArray 40)
 have M:NdM (w.alloc (.cells (ceB cs).toArray 40)) w.heap.size 0 (stB N):=(nd_stB O).mem _
 have hs:(w.alloc (.cells (ceB cs).toArray 40)).heap.size=w.heap.size+1:=by simp
 have C:=qp _ 0 _ 0 (stB N) zN _ (M.below (below_new _ (.cells zNv.toArray 40))) (xm _)
 rw [hs,eq_stB] at C
 exact C.mono (fun e w' ⟨h1,h2⟩=>⟨h1,Below.then (Below.then B (below_new _ _)) h2⟩)
theorem call_stO {w:World}{cs:List Value}{N:Nd}{v0 v1 v2 v3:Value}{ka:Option Addr}{kc:Nat}{ba:Option Addr}{bc kb ko bb bo:Nat}(O:Open w cs N v0 v1 v2 v3 ka kc ba bc kb ko bb bo) :
  Calls Tryz.prog 83 #[.pointer (some ⟨w.heap.size,0,none⟩),.pointer (some ⟨w.heap.size+1,0,none⟩)] ((w.alloc (.cells (ceO cs).toArray 40)).alloc (.cells zNv.toArray 40)) fun e w'=>e=.returned (.bool (zF false false true false false false N))/\Below w.heap.size w w':=by
 have B:=below_new w (.cells (ceO cs).toArray 40)
 have M:NdM (w.alloc (.cells (ceO cs).toArray 40)) w.heap.size 0 (stO N):=(nd_stO O).mem _
 have hs:(w.alloc (.cells (ceO cs).toArray 40)).heap.size=w.heap.size+1:=by simp
 have C:=qp _ 0 _ 0 (stO N) zN _ (M.below (below_new _ (.cells zNv.toArray 40))) (xm _)
 rw [hs,eq_stO] at C
 exact C.mono (fun e w' ⟨h1,h2⟩=>⟨h1,Below.then (Below.then B (below_new _ _)) h2⟩)
theorem call_stE {w:World}{cs:List Value}{N:Nd}{v0 v1 v2 v3:Value}{ka:Option Addr}{kc:Nat}{ba:Option Addr}{bc kb ko bb bo:Nat}(O:Open w cs N v0 v1 v2 v3 ka kc ba bc kb ko bb bo) :
  Calls Tryz.prog 83 #[.pointer (some ⟨w.heap.size,0,none⟩),.pointer (some ⟨w.heap.size+1,0,none⟩)] ((w.alloc (.cells (ceE cs).toArray 40)).alloc (.cells zNv.toArray 40)) fun e w'=>e=.returned (.bool (zF false false false false false false N))/\Below w.heap.size w w':=by
 have B:=below_new w (.cells (ceE cs).toArray 40)
 have M:NdM (w.alloc (.cells (ceE cs).toArray 40)) w.heap.size 0 (stE N):=(nd_stE O).mem _
 have hs:(w.alloc (.cells (ceE cs).toArray 40)).heap.size=w.heap.size+1:=by simp
 have C:=qp _ 0 _ 0 (stE N) zN _ (M.below (below_new _ (.cells zNv.toArray 40))) (xm _)
 rw [hs,eq_stE] at C
 exact C.mono (fun e w' ⟨h1,h2⟩=>⟨h1,Below.then (Below.then B (below_new _ _)) h2⟩)
theorem onlyP (N:Nd) (b off:Nat) (w:World) (h:NdM w b off N):Calls Tryz.prog 69 #[.pointer (some ⟨b,off,none⟩)] w fun e w'=>e=.returned (.bool (onlyB N))/\Below w.heap.size w w':=by
 obtain ⟨cs,v0,v1,v2,v3,ka,kc,ba,bc,kb,ko,bb,bo,O,hC,lC,G⟩:=h.opn
 obtain ⟨g0,g1,-,-,-,-,-,-,-,-,-,-,g12,g13,g14⟩:=id G
 have oC:=O.ndv.one
 have hC0:=zL w cs 40
 have F:=O.nf hC0
 obtain ⟨r,hr⟩:∃ r,onlyB N=r:=⟨_,rfl⟩
 rw [hr]
 have HQ:Hid ((qW N&&qT N)=r):=hr
 clear hr h
 unfold qW at HQ
 by_cases na:N.a<0
 ·have HG:Hid (r=false):=by unfold Hid;rw [<- HQ.out,decide_eq_true na];simp
  clear HQ O hC G F oC
  go_enter Tryz.func69,Tryz.ntmps69
  go_wp2_with fail
  go_ret
  exact ⟨ret_bool HG.out.symm,Below.refl _ _⟩
 by_cases nd:N.d<0
 ·have HG:Hid (r=false):=by unfold Hid;rw [<- HQ.out,decide_eq_true nd];simp
  clear HQ O hC G F oC
  go_enter Tryz.func69,Tryz.ntmps69
  go_wp2_with fail
  go_ret
  exact ⟨ret_bool HG.out.symm,Below.refl _ _⟩
 by_cases ns:N.s<0
 ·have HG:Hid (r=false):=by unfold Hid;rw [<- HQ.out,decide_eq_true ns];simp
  clear HQ O hC G F oC
  go_enter Tryz.func69,Tryz.ntmps69
  go_wp2_with fail
  go_ret
  exact ⟨ret_bool HG.out.symm,Below.refl _ _⟩
 by_cases nz:N.z<0
 ·have HG:Hid (r=false):=by unfold Hid;rw [<- HQ.out,decide_eq_true nz];simp
  clear HQ O hC G F oC
  go_enter Tryz.func69,Tryz.ntmps69
  go_wp2_with fail
  go_ret
  exact ⟨ret_bool HG.out.symm,Below.refl _ _⟩
 have HK:Hid (qT N=r):=by unfold Hid;rw [<- HQ.out,decide_eq_false na,decide_eq_false nd,decide_eq_false ns,decide_eq_false nz];simp
 clear HQ G
 unfold qT at HK
 obtain ⟨p0,p1,p2,p3,p4,p5,p10,p11,p12,p13,p14⟩:=id F
 have B0:=below_new w (.cells cs.toArray 40)
 have hne:¬ w.heap.size=b:=by have:=zD g0;intro e;subst e;exact absurd this (Nat.lt_irrefl _)
 have k0:=((below_new w (.cells ((cs.set 0 (.int .i64 0)).set 2 (.int .i64 0)).toArray 40)).cell (zD g0)).trans g0
 by_cases k1:N.k=1
 ·rw [k1] at g0 k0 p0
  simp only [k1] at HK
  have HK:=(show Hid (zF false false false true false false N=r) from HK)
  clear k1
  have C:=call_stV O
  unfold zNv ceV at C
  obtain ⟨q,hq⟩:∃ q,zF false false false true false false N=q:=⟨_,rfl⟩
  rw [hq] at C HK
  clear hq O F
  go_enter Tryz.func69,Tryz.ntmps69
  go_wp2_with (first |((with_reducible show wpList _ _ _ (⟨_,Op.load 40 _,_,_,_,none⟩::_) _ _);refine zB rfl rfl rfl hC lC ?_) |((with_reducible show wpList _ _ _ (⟨_,Op.store 40 _ _,_,_,_,none⟩::_) _ _);refine zG rfl rfl rfl rfl zp lC rfl oC ?_) |(go_at_call 83;((with_reducible refine C.mono ?_);rintro e w3 ⟨rfl,b3⟩)))
  go_ret
  exact ⟨ret_bool HK.out,b3⟩
 by_cases k2:N.k=2
 ·rw [k2] at g0 k0 p0
  simp only [k2] at HK
  have HK:=(show Hid (zF true false false false false false N=r) from HK)
  clear k2 k1
  have C:=call_stT O
  unfold zNv ceT at C
  obtain ⟨q,hq⟩:∃ q,zF true false false false false false N=q:=⟨_,rfl⟩
  rw [hq] at C HK
  clear hq O F
  go_enter Tryz.func69,Tryz.ntmps69
  go_wp2_with (first |((with_reducible show wpList _ _ _ (⟨_,Op.load 40 _,_,_,_,none⟩::_) _ _);refine zB rfl rfl rfl hC lC ?_) |((with_reducible show wpList _ _ _ (⟨_,Op.store 40 _ _,_,_,_,none⟩::_) _ _);refine zG rfl rfl rfl rfl zp lC rfl oC ?_) |(go_at_call 83;((with_reducible refine C.mono ?_);rintro e w3 ⟨rfl,b3⟩)))
  go_ret
  exact ⟨ret_bool HK.out,b3⟩
 by_cases k3:N.k=3
 ·rw [k3] at g0 k0 p0
  simp only [k3] at HK
  have HK:=(show Hid (zF false false false false true false N=r) from HK)
  clear k3 k1 k2
  have C:=xV O
  unfold zNv ceK at C
  obtain ⟨q,hq⟩:∃ q,zF false false false false true false N=q:=⟨_,rfl⟩
  rw [hq] at C HK
  clear hq O F
  go_enter Tryz.func69,Tryz.ntmps69
  go_wp2_with (first |((with_reducible show wpList _ _ _ (⟨_,Op.load 40 _,_,_,_,none⟩::_) _ _);refine zB rfl rfl rfl hC lC ?_) |((with_reducible show wpList _ _ _ (⟨_,Op.store 40 _ _,_,_,_,none⟩::_) _ _);refine zG rfl rfl rfl rfl zp lC rfl oC ?_) |(go_at_call 83;((with_reducible refine C.mono ?_);rintro e w3 ⟨rfl,b3⟩)))
  go_ret
  exact ⟨ret_bool HK.out,b3⟩
 by_cases k4:N.k=4
 ·rw [k4] at g0 k0 p0
  simp only [k4] at HK
  have HK:=(show Hid (zF false false false false true false N=r) from HK)
  clear k4 k1 k2 k3
  have C:=xV O
  unfold zNv ceK at C
  obtain ⟨q,hq⟩:∃ q,zF false false false false true false N=q:=⟨_,rfl⟩
  rw [hq] at C HK
  clear hq O F
  go_enter Tryz.func69,Tryz.ntmps69
  go_wp2_with (first |((with_reducible show wpList _ _ _ (⟨_,Op.load 40 _,_,_,_,none⟩::_) _ _);refine zB rfl rfl rfl hC lC ?_) |((with_reducible show wpList _ _ _ (⟨_,Op.store 40 _ _,_,_,_,none⟩::_) _ _);refine zG rfl rfl rfl rfl zp lC rfl oC ?_) |(go_at_call 83;((with_reducible refine C.mono ?_);rintro e w3 ⟨rfl,b3⟩)))
  go_ret
  exact ⟨ret_bool HK.out,b3⟩
 by_cases k5:N.k=5
 ·rw [k5] at g0 k0 p0
  simp only [k5] at HK
  have HK:=(show Hid (zF false false false false true false N=r) from HK)
  clear k5 k1 k2 k3 k4
  have C:=xV O
  unfold zNv ceK at C
  obtain ⟨q,hq⟩:∃ q,zF false false false false true false N=q:=⟨_,rfl⟩
  rw [hq] at C HK
  clear hq O F
  go_enter Tryz.func69,Tryz.ntmps69
  go_wp2_with (first |((with_reducible show wpList _ _ _ (⟨_,Op.load 40 _,_,_,_,none⟩::_) _ _);refine zB rfl rfl rfl hC lC ?_) |((with_reducible show wpList _ _ _ (⟨_,Op.store 40 _ _,_,_,_,none⟩::_) _ _);refine zG rfl rfl rfl rfl zp lC rfl oC ?_) |(go_at_call 83;((with_reducible refine C.mono ?_);rintro e w3 ⟨rfl,b3⟩)))
  go_ret
  exact ⟨ret_bool HK.out,b3⟩
 by_cases k14:N.k=14
 ·rw [k14] at g0 k0 p0
  simp only [k14] at HK
  have HK:=(show Hid (zF false false false false true false N=r) from HK)
  clear k14 k1 k2 k3 k4 k5
  have C:=xV O
  unfold zNv ceK at C
  obtain ⟨q,hq⟩:∃ q,zF false false false false true false N=q:=⟨_,rfl⟩
  rw [hq] at C HK
  clear hq O F
  go_enter Tryz.func69,Tryz.ntmps69
  go_wp2_with (first |((with_reducible show wpList _ _ _ (⟨_,Op.load 40 _,_,_,_,none⟩::_) _ _);refine zB rfl rfl rfl hC lC ?_) |((with_reducible show wpList _ _ _ (⟨_,Op.store 40 _ _,_,_,_,none⟩::_) _ _);refine zG rfl rfl rfl rfl zp lC rfl oC ?_) |(go_at_call 83;((with_reducible refine C.mono ?_);rintro e w3 ⟨rfl,b3⟩)))
  go_ret
  exact ⟨ret_bool HK.out,b3⟩
 by_cases k15:N.k=15
 ·rw [k15] at g0 k0 p0
  simp only [k15] at HK
  have HK:=(show Hid (zF false false false false true false N=r) from HK)
  clear k15 k1 k2 k3 k4 k5 k14
  have C:=xV O
  unfold zNv ceK at C
  obtain ⟨q,hq⟩:∃ q,zF false false false false true false N=q:=⟨_,rfl⟩
  rw [hq] at C HK
  clear hq O F
  go_enter Tryz.func69,Tryz.ntmps69
  go_wp2_with (first |((with_reducible show wpList _ _ _ (⟨_,Op.load 40 _,_,_,_,none⟩::_) _ _);refine zB rfl rfl rfl hC lC ?_) |((with_reducible show wpList _ _ _ (⟨_,Op.store 40 _ _,_,_,_,none⟩::_) _ _);refine zG rfl rfl rfl rfl zp lC rfl oC ?_) |(go_at_call 83;((with_reducible refine C.mono ?_);rintro e w3 ⟨rfl,b3⟩)))
  go_ret
  exact ⟨ret_bool HK.out,b3⟩
 by_cases k16:N.k=16
 ·rw [k16] at g0 k0 p0
  simp only [k16] at HK
  have HK:=(show Hid (zF false false false false true false N=r) from HK)
  clear k16 k1 k2 k3 k4 k5 k14 k15
  have C:=xV O
  unfold zNv ceK at C
  obtain ⟨q,hq⟩:∃ q,zF false false false false true false N=q:=⟨_,rfl⟩
  rw [hq] at C HK
  clear hq O F
  go_enter Tryz.func69,Tryz.ntmps69
  go_wp2_with (first |((with_reducible show wpList _ _ _ (⟨_,Op.load 40 _,_,_,_,none⟩::_) _ _);refine zB rfl rfl rfl hC lC ?_) |((with_reducible show wpList _ _ _ (⟨_,Op.store 40 _ _,_,_,_,none⟩::_) _ _);refine zG rfl rfl rfl rfl zp lC rfl oC ?_) |(go_at_call 83;((with_reducible refine C.mono ?_);rintro e w3 ⟨rfl,b3⟩)))
  go_ret
  exact ⟨ret_bool HK.out,b3⟩
 by_cases k9:N.k=9
 ·rw [k9] at g0 k0 p0
  simp only [k9] at HK
  have HK:=(show Hid (zF false true false false false false N=r) from HK)
  clear k9 k1 k2 k3 k4 k5 k14 k15 k16
  have C:=call_stP O
  unfold zNv ceP at C
  obtain ⟨q,hq⟩:∃ q,zF false true false false false false N=q:=⟨_,rfl⟩
  rw [hq] at C HK
  clear hq O F
  go_enter Tryz.func69,Tryz.ntmps69
  go_wp2_with (first |((with_reducible show wpList _ _ _ (⟨_,Op.load 40 _,_,_,_,none⟩::_) _ _);refine zB rfl rfl rfl hC lC ?_) |((with_reducible show wpList _ _ _ (⟨_,Op.store 40 _ _,_,_,_,none⟩::_) _ _);refine zG rfl rfl rfl rfl zp lC rfl oC ?_) |(go_at_call 83;((with_reducible refine C.mono ?_);rintro e w3 ⟨rfl,b3⟩)))
  go_ret
  exact ⟨ret_bool HK.out,b3⟩
 by_cases k10:N.k=10
 ·rw [k10] at g0 k0 p0
  simp only [k10] at HK
  have HK:=(show Hid (zF false false false false false true N=r) from HK)
  clear k10 k1 k2 k3 k4 k5 k14 k15 k16 k9
  have C:=call_stB O
  unfold zNv ceB at C
  obtain ⟨q,hq⟩:∃ q,zF false false false false false true N=q:=⟨_,rfl⟩
  rw [hq] at C HK
  clear hq O F
  go_enter Tryz.func69,Tryz.ntmps69
  go_wp2_with (first |((with_reducible show wpList _ _ _ (⟨_,Op.load 40 _,_,_,_,none⟩::_) _ _);refine zB rfl rfl rfl hC lC ?_) |((with_reducible show wpList _ _ _ (⟨_,Op.store 40 _ _,_,_,_,none⟩::_) _ _);refine zG rfl rfl rfl rfl zp lC rfl oC ?_) |(go_at_call 83;((with_reducible refine C.mono ?_);rintro e w3 ⟨rfl,b3⟩)))
  go_ret
  exact ⟨ret_bool HK.out,b3⟩
 by_cases k17:N.k=17
 ·rw [k17] at g0 k0 p0
  simp only [k17] at HK
  have HK:=(show Hid (zF false false true false false false N=r) from HK)
  clear k17 k1 k2 k3 k4 k5 k14 k15 k16 k9 k10
  have C:=call_stO O
  unfold zNv ceO at C
  obtain ⟨q,hq⟩:∃ q,zF false false true false false false N=q:=⟨_,rfl⟩
  rw [hq] at C HK
  clear hq O F
  go_enter Tryz.func69,Tryz.ntmps69
  go_wp2_with (first |((with_reducible show wpList _ _ _ (⟨_,Op.load 40 _,_,_,_,none⟩::_) _ _);refine zB rfl rfl rfl hC lC ?_) |((with_reducible show wpList _ _ _ (⟨_,Op.store 40 _ _,_,_,_,none⟩::_) _ _);refine zG rfl rfl rfl rfl zp lC rfl oC ?_) |(go_at_call 83;((with_reducible refine C.mono ?_);rintro e w3 ⟨rfl,b3⟩)))
  go_ret
  exact ⟨ret_bool HK.out,b3⟩
 have HK:Hid (zF false false false false false false N=r):=by unfold Hid;rw [<- HK.out];simp [k1,k2,k3,k4,k5,k14,k15,k16,k9,k10,k17]
 have e1:(N.k==1)=false:=by simpa using k1
 have e2:(N.k==2)=false:=by simpa using k2
 have e3:(N.k==3)=false:=by simpa using k3
 have e4:(N.k==4)=false:=by simpa using k4
 have e5:(N.k==5)=false:=by simpa using k5
 have e14:(N.k==14)=false:=by simpa using k14
 have e15:(N.k==15)=false:=by simpa using k15
 have e16:(N.k==16)=false:=by simpa using k16
 have e9:(N.k==9)=false:=by simpa using k9
 have e10:(N.k==10)=false:=by simpa using k10
 have e17:(N.k==17)=false:=by simpa using k17
 clear k1 k2 k3 k4 k5 k14 k15 k16 k9 k10 k17
 have C:=call_stE O
 unfold zNv ceE at C
 obtain ⟨q,hq⟩:∃ q,zF false false false false false false N=q:=⟨_,rfl⟩
 rw [hq] at C HK
 clear hq O F
 go_enter Tryz.func69,Tryz.ntmps69
 go_wp2_with (first |((with_reducible show wpList _ _ _ (⟨_,Op.load 40 _,_,_,_,none⟩::_) _ _);refine zB rfl rfl rfl hC lC ?_) |((with_reducible show wpList _ _ _ (⟨_,Op.store 40 _ _,_,_,_,none⟩::_) _ _);refine zG rfl rfl rfl rfl zp lC rfl oC ?_) |(go_at_call 83;((with_reducible refine C.mono ?_);rintro e w3 ⟨rfl,b3⟩)))
 go_ret
 exact ⟨ret_bool HK.out,b3⟩
def vg (N:Nd):Bool:=clsB [2,2] N || clsB [2,2,2] N || clsB [1,2,2] N
def fitB (lam:Bool) (N:Nd):Bool :=
 if N.k=1 then N.c==1&&litP N.v
 else if N.k=2 then decide (1<=N.c)&&decide (N.c<=4)&&zu N.t
 else if N.k=6∨N.k=7∨N.k=8 then N.c==1
 else if N.k=3 then N.c==1&&qy N
 else if N.k=4 then N.c==1&&clsB [2,1] N
 else if N.k=5 then N.c==1&&clsB [2,1,1] N
 else if N.k=9 then N.c==2&&decide (1<=N.p)&&decide (N.p<=55)
 else if N.k=11∨N.k=12∨N.k=13 then N.c==2
 else if N.k=10 then lam
 else if N.k=14 then N.c==2&&clsB [3,2] N
 else if N.k=15 then N.c==2&&clsB [4,2,ropC (zj N.ks)] N
 else if N.k=16 then N.c==2&&vg N
 else if N.k=17 then decide (1<=N.o)&&decide (N.o<=11)&&N.c==opP N.o
 else false
theorem ropC_small (b:Bool):0<=ropC b/\ropC b<=4:=by cases b <;> decide
theorem fitP (N:Nd) (lam:Bool) (b off:Nat) (w:World) (h:NdM w b off N) (hT:Tab w)
  (HL:N.k=10->∀ n,Calls Tryz.prog 94 #[.pointer (some ⟨b,off,none⟩)] (w.drewN n) fun e w'=>e=.returned (.bool lam)/\Below w.heap.size (w.drewN n) w') :
  Calls Tryz.prog 70 #[.pointer (some ⟨b,off,none⟩)] w fun e w'=>e=.returned (.bool (fitB lam N))/\Below w.heap.size w w':=by
 obtain ⟨cs,v0,v1,v2,v3,ka,kc,ba,bc,kb,ko,bb,bo,O,hC,lC,G⟩:=h.opn
 obtain ⟨g0,-,g2,g3,g4,g5,g6,g7,g8,g9,-⟩:=id G
 have BD:∀ n,Below w.heap.size w (w.drewN n):=fun n=>⟨rfl,rfl,rfl,Nat.le_refl _,fun _ _=>rfl⟩
 obtain ⟨r,hr⟩:∃ r,fitB lam N=r:=⟨_,rfl⟩
 rw [hr]
 have HQ:Hid (fitB lam N=r):=hr
 have ts:=O.ts
 have ar:=O.arr
 clear hr O G hC lC
 unfold fitB at HQ
 by_cases k1:N.k=1
 ·rw [k1] at g0
  simp only [k1] at HQ
  have HQ:=(show Hid ((N.c==1&&litP N.v)=r) from HQ)
  cases c1:(N.c==1) with
  | false =>
   have HG:Hid (r=false):=by unfold Hid;rw [<- HQ.out,c1];rfl
   clear HQ HL h k1 ts ar hT
   go_enter Tryz.func70,Tryz.ntmps70
   go_wp2_with fail
   go_quiet (fail)
   go_wp2_with (fail)
   go_ret
   exact ⟨ret_bool HG.out.symm,BD _⟩
  | true =>
   have HG:Hid (r=litP N.v):=by unfold Hid;rw [<- HQ.out,c1];rfl
   have K:∀ n,Calls Tryz.prog 91 #[.agg #[v0,v1,v2,v3]] (w.drewN n) fun e w'=>e=.returned (.bool (litP N.v))/\Below w.heap.size (w.drewN n) w':=fun n=>isLiteralP v0 v1 v2 v3 N.v (w.drewN n) (ar.below (BD n))
   generalize litP N.v=q at K HG
   clear HQ HL k1 ts ar hT
   go_enter Tryz.func70,Tryz.ntmps70
   go_wp2_with fail
   go_quiet (fail)
   go_wp2_with ((go_at_call 91;((with_reducible refine (K _).mono ?_);rintro e w3 ⟨rfl,b3⟩)))
   go_ret
   exact ⟨ret_bool HG.out.symm,Below.then (BD _) b3⟩
 by_cases k2:N.k=2
 ·rw [k2] at g0
  simp only [k2] at HQ
  have HQ:=(show Hid ((decide (1<=N.c)&&decide (N.c<=4)&&zu N.t)=r) from HQ)
  by_cases c1:1<=N.c
  ·by_cases c2:N.c<=4
   ·have HG:Hid (r=zu N.t):=by unfold Hid;rw [<- HQ.out,decide_eq_true c1,decide_eq_true c2];rfl
    have K:∀ n,Calls Tryz.prog 84 #[.string N.t] (w.drewN n) fun e w'=>e=.returned (.bool (zu N.t))/\Below w.heap.size (w.drewN n) w':=fun n=>isNameP N.t (w.drewN n) ts (hT.below (BD n))
    generalize zu N.t=q at K HG
    clear HQ HL k1 k2 ts ar hT
    go_enter Tryz.func70,Tryz.ntmps70
    go_wp2_with fail
    go_quiet (fail)
    go_wp2_with ((go_at_call 84;((with_reducible refine (K _).mono ?_);rintro e w3 ⟨rfl,b3⟩)))
    go_ret
    exact ⟨ret_bool HG.out.symm,Below.then (BD _) b3⟩
   ·have HG:Hid (r=false):=by unfold Hid;rw [<- HQ.out,decide_eq_false c2];simp
    clear HQ HL h k1 k2 ts ar hT
    go_enter Tryz.func70,Tryz.ntmps70
    go_wp2_with fail
    go_quiet (fail)
    go_wp2_with (fail)
    go_ret
    exact ⟨ret_bool HG.out.symm,BD _⟩
  ·have HG:Hid (r=false):=by unfold Hid;rw [<- HQ.out,decide_eq_false c1];simp
   clear HQ HL h k1 k2 ts ar hT
   go_enter Tryz.func70,Tryz.ntmps70
   go_wp2_with fail
   go_quiet (fail)
   go_wp2_with (fail)
   go_ret
   exact ⟨ret_bool HG.out.symm,BD _⟩
 by_cases k6:N.k=6
 ·rw [k6] at g0
  simp only [k6] at HQ
  have HQ:=(show Hid ((N.c==1)=r) from HQ)
  have HG:Hid (r =(N.c==1)):=HQ.out.symm
  clear HQ HL h k1 k2 k6 ts ar hT
  go_enter Tryz.func70,Tryz.ntmps70
  go_wp2_with fail
  go_quiet (fail)
  go_wp2_with (fail)
  go_ret
  exact ⟨ret_bool HG.out.symm,BD _⟩
 by_cases k7:N.k=7
 ·rw [k7] at g0
  simp only [k7] at HQ
  have HQ:=(show Hid ((N.c==1)=r) from HQ)
  have HG:Hid (r =(N.c==1)):=HQ.out.symm
  clear HQ HL h k1 k2 k6 k7 ts ar hT
  go_enter Tryz.func70,Tryz.ntmps70
  go_wp2_with fail
  go_quiet (fail)
  go_wp2_with (fail)
  go_ret
  exact ⟨ret_bool HG.out.symm,BD _⟩
 by_cases k8:N.k=8
 ·rw [k8] at g0
  simp only [k8] at HQ
  have HQ:=(show Hid ((N.c==1)=r) from HQ)
  have HG:Hid (r =(N.c==1)):=HQ.out.symm
  clear HQ HL h k1 k2 k6 k7 k8 ts ar hT
  go_enter Tryz.func70,Tryz.ntmps70
  go_wp2_with fail
  go_quiet (fail)
  go_wp2_with (fail)
  go_ret
  exact ⟨ret_bool HG.out.symm,BD _⟩
 by_cases k3:N.k=3
 ·rw [k3] at g0
  simp only [k3] at HQ
  have HQ:=(show Hid ((N.c==1&&qy N)=r) from HQ)
  cases c1:(N.c==1) with
  | false =>
   have HG:Hid (r=false):=by unfold Hid;rw [<- HQ.out,c1];rfl
   clear HQ HL h k1 k2 k6 k7 k8 k3 ts ar hT
   go_enter Tryz.func70,Tryz.ntmps70
   go_wp2_with fail
   go_quiet (fail)
   go_wp2_with (fail)
   go_ret
   exact ⟨ret_bool HG.out.symm,BD _⟩
  | true =>
   have HG:Hid (r=qy N):=by unfold Hid;rw [<- HQ.out,c1];rfl
   have K:∀ n,Calls Tryz.prog 92 #[.pointer (some ⟨b,off,none⟩)] (w.drewN n) fun e w'=>e=.returned (.bool (qy N))/\Below w.heap.size (w.drewN n) w':=fun n=>isStrandP N b off (w.drewN n) (h.below (BD n))
   generalize qy N=q at K HG
   clear HQ HL k1 k2 k6 k7 k8 k3 ts ar hT
   go_enter Tryz.func70,Tryz.ntmps70
   go_wp2_with fail
   go_quiet (fail)
   go_wp2_with ((go_at_call 92;((with_reducible refine (K _).mono ?_);rintro e w3 ⟨rfl,b3⟩)))
   go_ret
   exact ⟨ret_bool HG.out.symm,Below.then (BD _) b3⟩
 by_cases k4:N.k=4
 ·rw [k4] at g0
  simp only [k4] at HQ
  have HQ:=(show Hid ((N.c==1&&clsB [2,1] N)=r) from HQ)
  cases c1:(N.c==1) with
  | false =>
   have HG:Hid (r=false):=by unfold Hid;rw [<- HQ.out,c1];rfl
   clear HQ HL h k1 k2 k6 k7 k8 k3 k4 ts ar hT
   go_enter Tryz.func70,Tryz.ntmps70
   go_wp2_with fail
   go_quiet (fail)
   go_wp2_with (fail)
   go_ret
   exact ⟨ret_bool HG.out.symm,BD _⟩
  | true =>
   have HG:Hid (r=clsB [2,1] N):=by unfold Hid;rw [<- HQ.out,c1];rfl
   have K:∀ n,Calls Tryz.prog 93 #[.pointer (some ⟨b,off,none⟩),.slice (some ⟨w.heap.size,0,none⟩) 2 2] ((w.drewN n).alloc (.cells #[.int .i64 2,.int .i64 1] 30)) fun e w'=>e=.returned (.bool (clsB [2,1] N))/\Below w.heap.size (w.drewN n) w':=fun n=>kids2 N b off 2 1 (by decide) (by decide) (w.drewN n) (h.below (BD n))
   generalize clsB [2,1] N=q at K HG
   clear HQ HL k1 k2 k6 k7 k8 k3 k4 ts ar hT
   go_enter Tryz.func70,Tryz.ntmps70
   go_wp2_with fail
   go_quiet (fail)
   go_wp2_with ((go_at_call 93;((with_reducible refine (K _).mono ?_);rintro e w3 ⟨rfl,b3⟩)))
   go_ret
   exact ⟨ret_bool HG.out.symm,Below.then (BD _) b3⟩
 by_cases k5:N.k=5
 ·rw [k5] at g0
  simp only [k5] at HQ
  have HQ:=(show Hid ((N.c==1&&clsB [2,1,1] N)=r) from HQ)
  cases c1:(N.c==1) with
  | false =>
   have HG:Hid (r=false):=by unfold Hid;rw [<- HQ.out,c1];rfl
   clear HQ HL h k1 k2 k6 k7 k8 k3 k4 k5 ts ar hT
   go_enter Tryz.func70,Tryz.ntmps70
   go_wp2_with fail
   go_quiet (fail)
   go_wp2_with (fail)
   go_ret
   exact ⟨ret_bool HG.out.symm,BD _⟩
  | true =>
   have HG:Hid (r=clsB [2,1,1] N):=by unfold Hid;rw [<- HQ.out,c1];rfl
   have K:∀ n,Calls Tryz.prog 93 #[.pointer (some ⟨b,off,none⟩),.slice (some ⟨w.heap.size,0,none⟩) 3 3] ((w.drewN n).alloc (.cells #[.int .i64 2,.int .i64 1,.int .i64 1] 30)) fun e w'=>e=.returned (.bool (clsB [2,1,1] N))/\Below w.heap.size (w.drewN n) w':=fun n=>kids3 N b off 2 1 1 (by decide) (by decide) (by decide) (w.drewN n) (h.below (BD n))
   generalize clsB [2,1,1] N=q at K HG
   clear HQ HL k1 k2 k6 k7 k8 k3 k4 k5 ts ar hT
   go_enter Tryz.func70,Tryz.ntmps70
   go_wp2_with fail
   go_quiet (fail)
   go_wp2_with ((go_at_call 93;((with_reducible refine (K _).mono ?_);rintro e w3 ⟨rfl,b3⟩)))
   go_ret
   exact ⟨ret_bool HG.out.symm,Below.then (BD _) b3⟩
 by_cases k9:N.k=9
 ·rw [k9] at g0
  simp only [k9] at HQ
  have HQ:=(show Hid ((N.c==2&&decide (1<=N.p)&&decide (N.p<=55))=r) from HQ)
  cases c1:(N.c==2) with
  | false =>
   have HG:Hid (r=false):=by unfold Hid;rw [<- HQ.out,c1];rfl
   clear HQ HL h k1 k2 k6 k7 k8 k3 k4 k5 k9 ts ar hT
   go_enter Tryz.func70,Tryz.ntmps70
   go_wp2_with fail
   go_quiet (fail)
   go_wp2_with (fail)
   go_ret
   exact ⟨ret_bool HG.out.symm,BD _⟩
  | true =>
   by_cases c2:1<=N.p
   ·have HG:Hid (r=decide (N.p<=55)):=by unfold Hid;rw [<- HQ.out,c1,decide_eq_true c2];rfl
    clear HQ HL h k1 k2 k6 k7 k8 k3 k4 k5 k9 ts ar hT
    go_enter Tryz.func70,Tryz.ntmps70
    go_wp2_with fail
    go_quiet (fail)
    go_wp2_with (fail)
    go_ret
    exact ⟨ret_bool HG.out.symm,BD _⟩
   ·have HG:Hid (r=false):=by unfold Hid;rw [<- HQ.out,c1,decide_eq_false c2];rfl
    clear HQ HL h k1 k2 k6 k7 k8 k3 k4 k5 k9 ts ar hT
    go_enter Tryz.func70,Tryz.ntmps70
    go_wp2_with fail
    go_quiet (fail)
    go_wp2_with (fail)
    go_ret
    exact ⟨ret_bool HG.out.symm,BD _⟩
 by_cases k11:N.k=11
 ·rw [k11] at g0
  simp only [k11] at HQ
  have HQ:=(show Hid ((N.c==2)=r) from HQ)
  have HG:Hid (r =(N.c==2)):=HQ.out.symm
  clear HQ HL h k1 k2 k6 k7 k8 k3 k4 k5 k9 k11 ts ar hT
  go_enter Tryz.func70,Tryz.ntmps70
  go_wp2_with fail
  go_quiet (fail)
  go_wp2_with (fail)
  go_ret
  exact ⟨ret_bool HG.out.symm,BD _⟩
 by_cases k12:N.k=12
 ·rw [k12] at g0
  simp only [k12] at HQ
  have HQ:=(show Hid ((N.c==2)=r) from HQ)
  have HG:Hid (r =(N.c==2)):=HQ.out.symm
  clear HQ HL h k1 k2 k6 k7 k8 k3 k4 k5 k9 k11 k12 ts ar hT
  go_enter Tryz.func70,Tryz.ntmps70
  go_wp2_with fail
  go_quiet (fail)
  go_wp2_with (fail)
  go_ret
  exact ⟨ret_bool HG.out.symm,BD _⟩
 by_cases k13:N.k=13
 ·rw [k13] at g0
  simp only [k13] at HQ
  have HQ:=(show Hid ((N.c==2)=r) from HQ)
  have HG:Hid (r =(N.c==2)):=HQ.out.symm
  clear HQ HL h k1 k2 k6 k7 k8 k3 k4 k5 k9 k11 k12 k13 ts ar hT
  go_enter Tryz.func70,Tryz.ntmps70
  go_wp2_with fail
  go_quiet (fail)
  go_wp2_with (fail)
  go_ret
  exact ⟨ret_bool HG.out.symm,BD _⟩
 by_cases k10:N.k=10
 ·rw [k10] at g0
  simp only [k10] at HQ
  have HQ:=(show Hid (lam=r) from HQ)
  have HG:Hid (r=lam):=HQ.out.symm
  have K:=HL k10
  clear HQ HL h k1 k2 k6 k7 k8 k3 k4 k5 k9 k11 k12 k13 k10 ts ar hT
  go_enter Tryz.func70,Tryz.ntmps70
  go_wp2_with fail
  go_quiet (fail)
  go_wp2_with ((go_at_call 94;((with_reducible refine (K _).mono ?_);rintro e w3 ⟨rfl,b3⟩)))
  go_ret
  exact ⟨ret_bool HG.out.symm,Below.then (BD _) b3⟩
 by_cases k14:N.k=14
 ·rw [k14] at g0
  simp only [k14] at HQ
  have HQ:=(show Hid ((N.c==2&&clsB [3,2] N)=r) from HQ)
  cases c1:(N.c==2) with
  | false =>
   have HG:Hid (r=false):=by unfold Hid;rw [<- HQ.out,c1];rfl
   clear HQ HL h k1 k2 k6 k7 k8 k3 k4 k5 k9 k11 k12 k13 k10 k14 ts ar hT
   go_enter Tryz.func70,Tryz.ntmps70
   go_wp2_with fail
   go_quiet (fail)
   go_wp2_with (fail)
   go_ret
   exact ⟨ret_bool HG.out.symm,BD _⟩
  | true =>
   have HG:Hid (r=clsB [3,2] N):=by unfold Hid;rw [<- HQ.out,c1];rfl
   have K:∀ n,Calls Tryz.prog 93 #[.pointer (some ⟨b,off,none⟩),.slice (some ⟨w.heap.size,0,none⟩) 2 2] ((w.drewN n).alloc (.cells #[.int .i64 3,.int .i64 2] 30)) fun e w'=>e=.returned (.bool (clsB [3,2] N))/\Below w.heap.size (w.drewN n) w':=fun n=>kids2 N b off 3 2 (by decide) (by decide) (w.drewN n) (h.below (BD n))
   generalize clsB [3,2] N=q at K HG
   clear HQ HL k1 k2 k6 k7 k8 k3 k4 k5 k9 k11 k12 k13 k10 k14 ts ar hT
   go_enter Tryz.func70,Tryz.ntmps70
   go_wp2_with fail
   go_quiet (fail)
   go_wp2_with ((go_at_call 93;((with_reducible refine (K _).mono ?_);rintro e w3 ⟨rfl,b3⟩)))
   go_ret
   exact ⟨ret_bool HG.out.symm,Below.then (BD _) b3⟩
 by_cases k15:N.k=15
 ·rw [k15] at g0
  simp only [k15] at HQ
  have HQ:=(show Hid ((N.c==2&&clsB [4,2,ropC (zj N.ks)] N)=r) from HQ)
  cases c1:(N.c==2) with
  | false =>
   have HG:Hid (r=false):=by unfold Hid;rw [<- HQ.out,c1];rfl
   clear HQ HL h k1 k2 k6 k7 k8 k3 k4 k5 k9 k11 k12 k13 k10 k14 k15 ts ar hT
   go_enter Tryz.func70,Tryz.ntmps70
   go_wp2_with fail
   go_quiet (fail)
   go_wp2_with (fail)
   go_ret
   exact ⟨ret_bool HG.out.symm,BD _⟩
  | true =>
   have HG:Hid (r=clsB [4,2,ropC (zj N.ks)] N):=by unfold Hid;rw [<- HQ.out,c1];rfl
   have R:=fun n=>rightOpP N b off (w.drewN n) (h.below (BD n))
   have K:∀ n,Calls Tryz.prog 93 #[.pointer (some ⟨b,off,none⟩),.slice (some ⟨w.heap.size,0,none⟩) 3 3] ((w.drewN n).alloc (.cells #[.int .i64 4,.int .i64 2,.int .i64 (ropC (zj N.ks))] 30)) fun e w'=>e=.returned (.bool (clsB [4,2,ropC (zj N.ks)] N))/\Below w.heap.size (w.drewN n) w':=fun n=>kids3 N b off 4 2 (ropC (zj N.ks)) (by decide) (by decide) (ropC_small _) (w.drewN n) (h.below (BD n))
   generalize clsB [4,2,ropC (zj N.ks)] N=q at K HG
   clear HQ HL k1 k2 k6 k7 k8 k3 k4 k5 k9 k11 k12 k13 k10 k14 k15 ts ar hT
   go_enter Tryz.func70,Tryz.ntmps70
   go_wp2_with fail
   go_quiet (fail)
   go_wp2_with (first |(go_at_call 95;((with_reducible refine (R _).mono ?_);rintro e w3 ⟨rfl,rfl⟩)) |(go_at_call 93;((with_reducible refine (K _).mono ?_);rintro e w3 ⟨rfl,b3⟩)))
   go_ret
   exact ⟨ret_bool HG.out.symm,Below.then (BD _) b3⟩
 by_cases k16:N.k=16
 ·rw [k16] at g0
  simp only [k16] at HQ
  have HQ:=(show Hid ((N.c==2&&vg N)=r) from HQ)
  cases c1:(N.c==2) with
  | false =>
   have HG:Hid (r=false):=by unfold Hid;rw [<- HQ.out,c1];rfl
   clear HQ HL h k1 k2 k6 k7 k8 k3 k4 k5 k9 k11 k12 k13 k10 k14 k15 k16 ts ar hT
   go_enter Tryz.func70,Tryz.ntmps70
   go_wp2_with fail
   go_quiet (fail)
   go_wp2_with (fail)
   go_ret
   exact ⟨ret_bool HG.out.symm,BD _⟩
  | true =>
   have HG:Hid (r=vg N):=by unfold Hid;rw [<- HQ.out,c1];rfl
   have K:∀ n,Calls Tryz.prog 96 #[.pointer (some ⟨b,off,none⟩)] (w.drewN n) fun e w'=>e=.returned (.bool (vg N))/\Below w.heap.size (w.drewN n) w':=fun n=>isTrainP N b off (w.drewN n) (h.below (BD n))
   generalize vg N=q at K HG
   clear HQ HL k1 k2 k6 k7 k8 k3 k4 k5 k9 k11 k12 k13 k10 k14 k15 k16 ts ar hT
   go_enter Tryz.func70,Tryz.ntmps70
   go_wp2_with fail
   go_quiet (fail)
   go_wp2_with ((go_at_call 96;((with_reducible refine (K _).mono ?_);rintro e w3 ⟨rfl,b3⟩)))
   go_ret
   exact ⟨ret_bool HG.out.symm,Below.then (BD _) b3⟩
 by_cases k17:N.k=17
 ·rw [k17] at g0
  simp only [k17] at HQ
  have HQ:=(show Hid ((decide (1<=N.o)&&decide (N.o<=11)&&N.c==opP N.o)=r) from HQ)
  by_cases c1:1<=N.o
  ·have d1:decide (1<=N.o)=true:=decide_eq_true c1
   by_cases c2:N.o<=11
   ·have d2:decide (N.o<=11)=true:=decide_eq_true c2
    have HG:Hid (r =(N.c==opP N.o)):=by unfold Hid;rw [<- HQ.out,d1,d2];rfl
    have K:=fun w'=>operatorClassP N.o w'
    generalize opP N.o=q at K HG
    clear HQ HL h k1 k2 k6 k7 k8 k3 k4 k5 k9 k11 k12 k13 k10 k14 k15 k16 k17 ts ar hT
    go_enter Tryz.func70,Tryz.ntmps70
    go_wp2_with fail
    go_quiet (fail)
    go_wp2_with fail
    go_quiet ((go_at_call 97;((with_reducible refine (K _).mono ?_);rintro e w3 ⟨rfl,rfl⟩;exact ⟨rfl,_,rfl⟩)))
    go_wp2_with fail
    go_ret
    exact ⟨ret_bool HG.out.symm,⟨rfl,rfl,rfl,Nat.le_refl _,fun _ _=>rfl⟩⟩
   ·have d2:decide (N.o<=11)=false:=decide_eq_false c2
    have HG:Hid (r=false):=by unfold Hid;rw [<- HQ.out,d1,d2];rfl
    clear HQ HL h k1 k2 k6 k7 k8 k3 k4 k5 k9 k11 k12 k13 k10 k14 k15 k16 k17 ts ar hT
    go_enter Tryz.func70,Tryz.ntmps70
    go_wp2_with fail
    go_quiet (fail)
    go_wp2_with fail
    go_quiet (fail)
    go_wp2_with fail
    go_ret
    exact ⟨ret_bool HG.out.symm,⟨rfl,rfl,rfl,Nat.le_refl _,fun _ _=>rfl⟩⟩
  ·have d1:decide (1<=N.o)=false:=decide_eq_false c1
   have HG:Hid (r=false):=by unfold Hid;rw [<- HQ.out,d1];rfl
   clear HQ HL h k1 k2 k6 k7 k8 k3 k4 k5 k9 k11 k12 k13 k10 k14 k15 k16 k17 ts ar hT
   go_enter Tryz.func70,Tryz.ntmps70
   go_wp2_with fail
   go_quiet (fail)
   go_wp2_with fail
   go_quiet (fail)
   go_wp2_with fail
   go_ret
   exact ⟨ret_bool HG.out.symm,⟨rfl,rfl,rfl,Nat.le_refl _,fun _ _=>rfl⟩⟩
 have HG:Hid (r=false):=by unfold Hid;rw [<- HQ.out];simp [k1,k2,k6,k7,k8,k3,k4,k5,k9,k11,k12,k13,k10,k14,k15,k16,k17]
 have e1:(N.k==1)=false:=by simpa using k1
 have e2:(N.k==2)=false:=by simpa using k2
 have e6:(N.k==6)=false:=by simpa using k6
 have e7:(N.k==7)=false:=by simpa using k7
 have e8:(N.k==8)=false:=by simpa using k8
 have e3:(N.k==3)=false:=by simpa using k3
 have e4:(N.k==4)=false:=by simpa using k4
 have e5:(N.k==5)=false:=by simpa using k5
 have e9:(N.k==9)=false:=by simpa using k9
 have e11:(N.k==11)=false:=by simpa using k11
 have e12:(N.k==12)=false:=by simpa using k12
 have e13:(N.k==13)=false:=by simpa using k13
 have e10:(N.k==10)=false:=by simpa using k10
 have e14:(N.k==14)=false:=by simpa using k14
 have e15:(N.k==15)=false:=by simpa using k15
 have e16:(N.k==16)=false:=by simpa using k16
 have e17:(N.k==17)=false:=by simpa using k17
 clear HQ HL h k1 k2 k6 k7 k8 k3 k4 k5 k9 k11 k12 k13 k10 k14 k15 k16 k17 ts ar hT
 go_enter Tryz.func70,Tryz.ntmps70
 go_wp2_with fail
 go_quiet (fail)
 go_wp2_with (fail)
 go_ret
 exact ⟨ret_bool HG.out.symm,BD _⟩
end Go.Proofs.YtmfhdcpajgjgpaaGreatDoor.Syn
namespace Go.Proofs.YtmfhdcpajgjgpaaGreatDoor.Syn
open Go.RowKit Go.Shelf Go.Maps Go.Proofs.YtmfhdcpajgjgpaaGreatDoor.Shape
set_option linter.unusedVariables false
set_option linter.unusedSimpArgs false
set_option maxRecDepth 100000
def yr (N:Nd):Int:=if 0<occ 13 N then 4 else if 0<occ 12 N then 3 else 2
def lamP (N:Nd):Bool:=decide (0<N.bd.length)&&kR N.bd==1&&okB N.bd&&N.c==yr N
theorem int_len {α:Type}(l:List α):((l.length:Int)==0)=true ↔ l=[]:=by
 cases l with
 | nil=>simp
 | cons x r=>simp;omega
theorem qe {tx pr op va bo:Bool}{N:Nd}(h:zF tx pr op va false bo N=true):N.ks=[]:=by
 unfold zF at h
 simp only [Bool.and_eq_true,Bool.false_or,Bool.or_eq_true] at h
 exact (int_len _).1 h.1.2
theorem vu {tx pr op va ki:Bool}{N:Nd}(h:zF tx pr op va ki false N=true):N.bd=[]:=by
 unfold zF at h
 simp only [Bool.and_eq_true,Bool.false_or,Bool.or_eq_true] at h
 exact (int_len _).1 h.2
theorem qj (N:Nd):okN N =(qW N&&(if N.k=10 then zF false false false false false true N&&(N.bd.length:Int) != 0&&kR N.bd==1&&okB N.bd&&N.c==vq N.bd else zM N ||(zO N&&okK N.ks))):=by
 cases N;rw [okN];rfl
theorem okK_nil:okK []=true:=by rw [okK]
theorem occ_bare {x:Int}{N:Nd}(h:N.bd=[]):occ x N=occK x N.ks:=by rw [occ_eq,h,occB];omega
theorem ok_bd {N:Nd}(h:okN N=true) (hk:¬ N.k=10):N.bd=[]:=by
 rw [qj,if_neg hk] at h
 simp only [Bool.and_eq_true,Bool.or_eq_true] at h
 rcases h.2 with h | h
 ·unfold zM at h
  split at h
  ·simp only [Bool.and_eq_true] at h;exact vu h.1.1.1
  split at h
  ·simp only [Bool.and_eq_true] at h;exact vu h.1.1.1
  split at h
  ·simp only [Bool.and_eq_true] at h;exact vu h.1
  split at h
  ·simp only [Bool.and_eq_true] at h;exact vu h.1.1.1
  split at h
  ·simp only [Bool.and_eq_true] at h;exact vu h.1
  split at h
  ·simp only [Bool.and_eq_true] at h;exact vu h.1.1
  ·cases h
 ·unfold zO at h
  simp only [Bool.and_eq_true] at h
  exact vu h.1.1
theorem leaf_ks {N:Nd}(h:zM N=true):N.ks=[]:=by
 unfold zM at h
 split at h
 ·simp only [Bool.and_eq_true] at h;exact qe h.1.1.1
 split at h
 ·simp only [Bool.and_eq_true] at h;exact qe h.1.1.1
 split at h
 ·simp only [Bool.and_eq_true] at h;exact qe h.1
 split at h
 ·simp only [Bool.and_eq_true] at h;exact qe h.1.1.1
 split at h
 ·simp only [Bool.and_eq_true] at h;exact qe h.1
 split at h
 ·simp only [Bool.and_eq_true] at h;exact qe h.1.1
 ·cases h
theorem ok_ks10 {N:Nd}(h:okN N=true) (hk:N.k=10):N.ks=[]:=by
 rw [qj,if_pos hk] at h
 simp only [Bool.and_eq_true] at h
 exact qe h.2.1.1.1.1
theorem ok_kids {N:Nd}(h:okN N=true) (hk:¬ N.k=10):okK N.ks=true:=by
 rw [qj,if_neg hk] at h
 simp only [Bool.and_eq_true,Bool.or_eq_true] at h
 rcases h.2 with h | h
 ·rw [leaf_ks h,okK_nil]
 ·exact h.2
theorem menN_eqP (x:Int) (N:Nd):menN x N =(N.k==x || menK x N.ks):=by cases N;rw [menN];rfl
theorem occ1_men (x:Int):∀ (r:Nat) (N:Nd),rkN N<r->okN N=true->(decide (0<occ1 x N)=menN x N)
 | 0,_,h,_=>absurd h (Nat.not_lt_zero _)
 | r+1,N,h,ok=>by
  have hK:∀ l:List Nd,(∀ j (hj:j<l.length),rkN l[j]<r)->okK l=true->decide (0<occK x l)=menK x l:=by
   intro l
   induction l with
   | nil=>intro _ _;rw [occK,menK];rfl
   | cons A q ih =>
    intro h1 h2
    rw [okK,Bool.and_eq_true] at h2
    have e1:=occ1_men x r A (h1 0 (Nat.zero_lt_succ _)) h2.1
    have e2:=ih (fun j hj=>h1 (j+1) (Nat.succ_lt_succ hj)) h2.2
    rw [occK,menK,<- e1,<- e2]
    show decide (0<occ1 x A+occK x q)=_
    by_cases p1:0<occ1 x A
    ·rw [decide_eq_true (by omega),decide_eq_true p1];rfl
    ·by_cases p2:0<occK x q
     ·rw [decide_eq_true (by omega),decide_eq_true p2];simp
     ·rw [decide_eq_false (by omega),decide_eq_false p1,decide_eq_false p2];rfl
  rw [menN_eqP]
  unfold occ1
  by_cases hk:N.k=10
  ·have e10:(N.k==10)=true:=by simpa using hk
   rw [ok_ks10 ok hk,menK,e10]
   cases (N.k==x) <;> simp
  ·have e10:(N.k==10)=false:=by simpa using hk
   have e:=hK N.ks (fun j hj=>by have:=zk N hj;omega) (ok_kids ok hk)
   rw [e10,occ_bare (ok_bd ok hk),<- e]
   cases (N.k==x) with
   | false=>simp
   | true=>simp;omega
theorem eqN_zN {N:Nd}(h:qH N=true):N.k=0/\N.ks=[]:=by
 unfold qH at h
 simp only [Bool.and_eq_true] at h
 have e:=h.1.1.1.1
 cases N with | mk k a c t p o v ks bd d s z =>
 unfold zN at e
 rw [eqN,eqK_nil] at e
 simp only [Bool.and_eq_true,beq_iff_eq] at e
 exact ⟨e.1.1.1.1.1.1.1,(show ks=[] from by simpa using e.1.2)⟩
theorem men_zero {x:Int}(hx:¬ x=0) {N:Nd}(h:qH N=true):menN x N=false:=by
 obtain ⟨h1,h2⟩:=eqN_zN h
 rw [menN_eqP,h1,h2,menK]
 have:((0:Int)==x)=false:=by rw [beq_eq_false_iff_ne];intro e;exact hx e.symm
 rw [this];rfl
theorem qE {S:St}(h:okS S=true):okN S.nd=true/\(S.k=3->okN S.te=true)/\(¬ S.k=3->qH S.te=true):=by
 cases S with | mk k a n s te nd =>
 rw [okS] at h
 simp only [Bool.and_eq_true] at h
 refine ⟨h.1.2,fun e=>?_,fun e=>?_⟩
 ·have e':k=3:=e
  subst e'
  have:=h.2
  simp only [show ¬ ((3:Int)=1) by decide,show ¬ ((3:Int)=2) by decide,if_false,if_true,Bool.and_eq_true] at this
  exact this.1.1.1.2
 ·have e':¬ k=3:=e
  have:=h.2
  split at this
  ·simp only [Bool.and_eq_true] at this;exact this.2
  split at this
  ·simp only [Bool.and_eq_true] at this;exact this.1.2
  ·first | cases this |(rw [if_neg e'] at this;cases this)
theorem occS_men {x:Int}(hx:¬ x=0) {S:St}(h:okS S=true):decide (0<occS x S) =(menN x S.te || menN x S.nd):=by
 obtain ⟨h1,h2,h3⟩:=qE h
 have e1:=occ1_men x _ S.nd (Nat.lt_succ_self _) h1
 rw [occS_eq]
 show decide (0 <(if (S.k==3)=true then occ1 x S.te else 0)+occ1 x S.nd)=_
 by_cases hk:S.k=3
 ·have e2:=occ1_men x _ S.te (Nat.lt_succ_self _) (h2 hk)
  have e3:(S.k==3)=true:=by simpa using hk
  rw [e3,if_pos rfl,<- e1,<- e2]
  by_cases p1:0<occ1 x S.te
  ·rw [decide_eq_true (by omega),decide_eq_true p1];rfl
  ·by_cases p2:0<occ1 x S.nd
   ·rw [decide_eq_true (by omega),decide_eq_true p2];simp
   ·rw [decide_eq_false (by omega),decide_eq_false p1,decide_eq_false p2];rfl
 ·have e3:(S.k==3)=false:=by simpa using hk
  rw [e3,men_zero hx (h3 hk),<- e1];simp
theorem kQ {x:Int}(hx:¬ x=0):∀ {l:List St},okL l=true->decide (0<occB x l)=menB x l
 | [],_=>by rw [occB];rfl
 | S::r,h=>by
  rw [okL,Bool.and_eq_true] at h
  have e1:=occS_men hx h.1
  have e2:=kQ hx h.2
  have e3:menB x (S::r) =((menN x S.te || menN x S.nd) || menB x r):=by unfold menB;rw [List.any_cons]
  rw [occB,e3,<- e1,<- e2]
  by_cases p1:0<occS x S
  ·rw [decide_eq_true (by omega),decide_eq_true p1];rfl
  ·by_cases p2:0<occB x r
   ·rw [decide_eq_true (by omega),decide_eq_true p2];simp
   ·rw [decide_eq_false (by omega),decide_eq_false p1,decide_eq_false p2];rfl
theorem lam_cls {N:Nd}(h:N.ks=[]) (h2:okL N.bd=true):yr N=vq N.bd:=by
 have e:∀ x,occ x N=occB x N.bd:=fun x=>by rw [occ_eq,h,occK];omega
 unfold yr vq
 rw [e,e,<- kQ (by decide) h2,<- kQ (by decide) h2]
 simp
theorem opP_cls (o c:Int):(kD o != 0&&c==kD o) =(decide (1<=o)&&decide (o<=11)&&c==opP o):=by
 unfold kD opP
 by_cases h1:1<=o
 ·by_cases h2:o<=11
  ·rw [decide_eq_true h1,decide_eq_true h2,if_neg (by omega)]
   by_cases h3:o<=5
   ·rw [if_pos h3,if_pos (by omega)];simp
   ·rw [if_neg h3,if_neg (by omega)];simp
  ·rw [decide_eq_false h2,if_pos (by omega)];simp
 ·rw [decide_eq_false h1,if_pos (by omega)];simp
theorem yQ (N:Nd):okN N =(onlyB N&&fitB (lamP N) N&&okK N.ks):=by
 rw [qj]
 unfold onlyB
 have ha:(qW N&&qT N&&fitB (lamP N) N&&okK N.ks) =(qW N&&(qT N&&(fitB (lamP N) N&&okK N.ks))):=by simp only [Bool.and_assoc]
 rw [ha]
 congr 1
 by_cases k10:N.k=10
 ·rw [if_pos k10]
  unfold qT fitB
  simp only [k10]
  show _ =(zF false false false false false true N&&(lamP N&&okK N.ks))
  cases hE:zF false false false false false true N with
  | false=>simp
  | true =>
   have hk:=qe hE
   rw [hk,okK_nil,Bool.and_true,Bool.true_and,Bool.true_and]
   unfold lamP
   cases hO:okB N.bd with
   | false=>simp
   | true =>
    have hL:okL N.bd=true:=by unfold okB at hO;simp only [Bool.and_eq_true] at hO;exact hO.1.2
    rw [lam_cls hk hL]
    have:((N.bd.length:Int) != 0)=decide (0<N.bd.length):=by
     by_cases h:0<N.bd.length
     ·rw [decide_eq_true h];simp;intro e;rw [e] at h;exact absurd h (by decide)
     ·rw [decide_eq_false h];simp;exact List.eq_nil_of_length_eq_zero (by omega)
    rw [this]
 ·rw [if_neg k10]
  have leaf:∀ (E F:Bool),zM N =(E&&F)->zO N=false->qT N=E->fitB (lamP N) N=F->(E=true->N.ks=[])->(zM N ||(zO N&&okK N.ks)) =(qT N&&(fitB (lamP N) N&&okK N.ks)):=by
   intro E F h1 h2 h3 h4 h5
   rw [h1,h2,h3,h4]
   cases E with
   | false=>simp
   | true=>rw [h5 rfl,okK_nil];simp
  have inner:∀ (E F:Bool),zM N=false->zO N =(E&&F)->qT N=E->fitB (lamP N) N=F->(zM N ||(zO N&&okK N.ks)) =(qT N&&(fitB (lamP N) N&&okK N.ks)):=by
   intro E F h1 h2 h3 h4
   rw [h1,h2,h3,h4];simp [Bool.and_assoc]
  by_cases k1:N.k=1
  ·refine leaf (zF false false false true false false N) (N.c==1&&litP N.v) ?_ ?_ ?_ ?_ qe
   ·unfold zM litP;simp only [k1];simp [Bool.and_assoc]
   ·unfold zO;simp only [k1];simp
   ·unfold qT;simp only [k1];simp
   ·unfold fitB;simp only [k1];simp
  by_cases k2:N.k=2
  ·refine leaf (zF true false false false false false N) (decide (1<=N.c)&&decide (N.c<=4)&&zu N.t) ?_ ?_ ?_ ?_ qe
   ·unfold zM;simp only [k2];simp only [show ¬ ((2:Int)=1) by decide,if_false,if_true];cases zu N.t <;> simp [Bool.and_assoc]
   ·unfold zO;simp only [k2];simp
   ·unfold qT;simp only [k2];simp
   ·unfold fitB;simp only [k2];simp
  by_cases k3:N.k=3
  ·refine inner (zF false false false false true false N) (N.c==1&&qy N) ?_ ?_ ?_ ?_
   ·unfold zM;simp only [k3];simp
   ·unfold zO qy;simp only [k3];simp only [if_true];cases allC N.ks <;> cases (N.c==1) <;> simp
   ·unfold qT;simp only [k3];simp
   ·unfold fitB;simp only [k3];simp
  by_cases k4:N.k=4
  ·refine inner (zF false false false false true false N) (N.c==1&&clsB [2,1] N) ?_ ?_ ?_ ?_
   ·unfold zM;simp only [k4];simp
   ·unfold zO;simp only [k4];simp
   ·unfold qT;simp only [k4];simp
   ·unfold fitB;simp only [k4];simp
  by_cases k5:N.k=5
  ·refine inner (zF false false false false true false N) (N.c==1&&clsB [2,1,1] N) ?_ ?_ ?_ ?_
   ·unfold zM;simp only [k5];simp
   ·unfold zO;simp only [k5];simp
   ·unfold qT;simp only [k5];simp
   ·unfold fitB;simp only [k5];simp
  by_cases k14:N.k=14
  ·refine inner (zF false false false false true false N) (N.c==2&&clsB [3,2] N) ?_ ?_ ?_ ?_
   ·unfold zM;simp only [k14];simp
   ·unfold zO;simp only [k14];simp
   ·unfold qT;simp only [k14];simp
   ·unfold fitB;simp only [k14];simp
  by_cases k15:N.k=15
  ·refine inner (zF false false false false true false N) (N.c==2&&clsB [4,2,ropC (zj N.ks)] N) ?_ ?_ ?_ ?_
   ·unfold zM;simp only [k15];simp
   ·unfold zO;simp only [k15];simp;cases zj N.ks <;> simp [ropC]
   ·unfold qT;simp only [k15];simp
   ·unfold fitB;simp only [k15];simp
  by_cases k16:N.k=16
  ·refine inner (zF false false false false true false N) (N.c==2&&vg N) ?_ ?_ ?_ ?_
   ·unfold zM;simp only [k16];simp
   ·unfold zO vg;simp only [k16];simp
   ·unfold qT;simp only [k16];simp
   ·unfold fitB;simp only [k16];simp
  by_cases k9:N.k=9
  ·refine leaf (zF false true false false false false N) (N.c==2&&decide (1<=N.p)&&decide (N.p<=55)) ?_ ?_ ?_ ?_ qe
   ·unfold zM;simp only [k9];simp [Bool.and_assoc]
   ·unfold zO;simp only [k9];simp
   ·unfold qT;simp only [k9];simp
   ·unfold fitB;simp only [k9];simp
  by_cases k17:N.k=17
  ·refine leaf (zF false false true false false false N) (decide (1<=N.o)&&decide (N.o<=11)&&N.c==opP N.o) ?_ ?_ ?_ ?_ qe
   ·rw [<- opP_cls];unfold zM;simp only [k17];simp [Bool.and_assoc]
   ·unfold zO;simp only [k17];simp
   ·unfold qT;simp only [k17];simp
   ·unfold fitB;simp only [k17];simp
  by_cases k6:N.k=6∨N.k=7∨N.k=8
  ·refine leaf (zF false false false false false false N) (N.c==1) ?_ ?_ ?_ ?_ qe
   ·unfold zM;rcases k6 with e | e | e <;> simp [e]
   ·unfold zO;rcases k6 with e | e | e <;> simp [e]
   ·unfold qT;rcases k6 with e | e | e <;> simp [e]
   ·unfold fitB;rcases k6 with e | e | e <;> simp [e]
  by_cases k11:N.k=11∨N.k=12∨N.k=13
  ·refine leaf (zF false false false false false false N) (N.c==2) ?_ ?_ ?_ ?_ qe
   ·unfold zM;rcases k11 with e | e | e <;> simp [e]
   ·unfold zO;rcases k11 with e | e | e <;> simp [e]
   ·unfold qT;rcases k11 with e | e | e <;> simp [e]
   ·unfold fitB;rcases k11 with e | e | e <;> simp [e]
  ·refine leaf (zF false false false false false false N) false ?_ ?_ ?_ ?_ qe
   ·unfold zM;simp [k1,k2,k6,k9,k11,k17]
   ·unfold zO;simp [k3,k4,k5,k14,k15,k16]
   ·unfold qT;simp [k1,k2,k3,k4,k5,k9,k10,k14,k15,k16,k17]
   ·unfold fitB;simp [k1,k2,k3,k4,k5,k6,k9,k10,k11,k14,k15,k16,k17]
attribute [local go_sem] Oper.semAt_some
theorem mapSB:Tryz.prog.underlying 98=some (.map 9 4):=by kernel_rfl
theorem keyedS:Keyed Tryz.prog 9:=string_keyed Tryz.underlying9
theorem zeroBool (w:World):(zeroValue 4).run Tryz.prog w=.ok (.bool false) w:=by kernel_rfl
def SMap (w:World) (m n:Nat) (f:ByteArray->Bool):Prop:=∃ D:DataW Unit,w.ownsMap Tryz.prog 9 (plainElem Tryz.prog 4) m n D/\∀ s:ByteArray,D.atKey (.string s.data.toList) (.lit (.bool false))=.lit (.bool (f s))
theorem SMap.new (w:World):SMap (w.alloc (.map #[] 0)) w.heap.size 0 (fun _=>false):=⟨.map [],World.ownsMap_made w _ _ _,fun _=>rfl⟩
theorem SMap.lt {w:World}{m n:Nat}{f:ByteArray->Bool}(h:SMap w m n f):m<w.heap.size:=by obtain ⟨D,h,-⟩:=h;exact h.lt
theorem SMap.kept {w w':World}{m n:Nat}{f:ByteArray->Bool}{row:Option Nat}(h:SMap w m n f) (hg:w.grownBy w' row) (hne:some m≠row):SMap w' m n f:=by
 obtain ⟨D,h,g⟩:=h;exact ⟨D,h.kept hg hne,g⟩
theorem SMap.below {w w':World}{m n:Nat}{f:ByteArray->Bool}(h:SMap w m n f) (hb:Below w.heap.size w w'):SMap w' m n f :=
 h.kept (row:=none) ⟨hb.os,hb.tape,hb.output,hb.size,fun i hi _=>hb.block i hi⟩ (by simp)
theorem SMap.cong {w:World}{m n:Nat}{f g:ByteArray->Bool}(h:SMap w m n f) (e:∀ x,f x=g x):SMap w m n g:=by rw [<- (funext e:f=g)];exact h
theorem SMap.look {w:World}{m n:Nat}{f:ByteArray->Bool}(h:SMap w m n f) {s:ByteArray}(hs:s.size<=9223372036854775807):(Instr.lookup 98 (.map (some m)) (.string s) false).run Tryz.prog w=.ok (.bool (f s)) w:=by
 obtain ⟨D,h,g⟩:=h
 obtain ⟨v,ps,hrun,hv⟩:=h.lookup keyedS mapSB (zeroBool w) (plainElem_bool Tryz.underlying4 false) (Go.WideMaps.keyOf_string_mk Tryz.underlying9 (by simpa [maxLen] using hs))
 rw [g] at hv
 unfold plainElem at hv
 rw [Tryz.underlying4] at hv
 cases v <;> simp at hv
 rw [hrun,hv.1]
theorem data_inj {a b:ByteArray}(h:a.data.toList=b.data.toList):a=b:=by
 cases a with | mk x=>cases b with | mk y=>exact congrArg ByteArray.mk (Array.toList_inj.1 h)
theorem SMap.put {w:World}{m n:Nat}{f:ByteArray->Bool}(h:SMap w m n f) (hn:n<maxLen) {s:ByteArray}(hs:s.size<=9223372036854775807) :
  ∃ w1,(Instr.mapUpdate 98 (.map (some m)) (.string s) (.bool true)).run Tryz.prog w=.ok () w1/\SMap w1 m (n+1) (fun y=>f y || s==y)/\w.grownBy w1 (some m):=by
 obtain ⟨D,h,g⟩:=h
 obtain ⟨w1,hr,h1,hg⟩:=h.update keyedS mapSB hn (Go.WideMaps.keyOf_string_mk Tryz.underlying9 (s:=s) (by simpa [maxLen] using hs)) (plainElem_bool Tryz.underlying4 true)
 refine ⟨w1,hr,⟨_,h1,fun y=>?_⟩,hg⟩
 by_cases e:s=y
 ·subst e
  rw [atKey_put_same]
  ·show _=DataW.lit (Lit.bool (f s || s==s))
   rw [vG rfl];simp
  ·obtain ⟨es,c,-,-,-,e⟩:=h
   exact ⟨_,e⟩
  ·exact keyedS.key (Go.WideMaps.keyOf_string_mk Tryz.underlying9 (by simpa [maxLen] using hs))
 ·rw [atKey_put_other]
  ·show _=DataW.lit (Lit.bool (f y || s==y))
   rw [g,ba_no e];simp
  ·intro q
   simp only [Lit.string.injEq] at q
   exact e (data_inj q).symm
/-! What the loop over the statements knows. -/
def seen (l:List St) (j:Nat) (s:ByteArray):Bool:=(l.take j).any fun T=>T.k==2&&T.n==s
def wA (l:List St) (j:Nat):Prop:=∀ i (h:i<l.length),i<j->okS l[i]=true/\qJ l i=false
theorem dup_at {l:List St}{j:Nat}(h:j<l.length):qJ l j =(l[j].k==2&&seen l j l[j].n):=by
 unfold qJ seen
 rw [List.getElem?_eq_getElem h]
theorem seen_step {l:List St}{j:Nat}(h:j<l.length) (s:ByteArray):seen l (j+1) s =(seen l j s ||(l[j].k==2&&l[j].n==s)):=by
 unfold seen
 rw [List.take_add_one,List.getElem?_eq_getElem h,List.any_append];simp
theorem okL_allP {l:List St}:okL l=true ↔ ∀ i (h:i<l.length),okS l[i]=true:=by
 induction l with
 | nil=>rw [okL];simp
 | cons S r ih =>
  rw [okL,Bool.and_eq_true,ih]
  constructor
  ·rintro ⟨h1,h2⟩ i hi
   cases i with
   | zero=>exact h1
   | succ i=>exact h2 i (by simpa using hi)
  ·intro h
   exact ⟨h 0 (by simp),fun i hi=>h (i+1) (by simpa using hi)⟩
theorem ok_end {l:List St}(h:l.length<=1000) (g:wA l l.length):okB l=true:=by
 unfold okB vY
 rw [decide_eq_true h,okL_allP.2 (fun i hi=>(g i hi hi).1)]
 simp only [Bool.true_and,List.all_eq_true,List.mem_range]
 intro j hj
 rw [(g j hj hj).2];rfl
theorem ok_bad {l:List St}{j:Nat}(h:j<l.length) (g:okS l[j]=false∨qJ l j=true):okB l=false:=by
 unfold okB vY
 rcases g with g | g
 ·have:okL l=false:=by
   rw [<- Bool.not_eq_true,okL_allP]
   intro q
   rw [q j h] at g;cases g
  rw [this];simp
 ·have:((List.range l.length).all fun j=>!qJ l j)=false:=by
   rw [List.all_eq_false]
   exact ⟨j,List.mem_range.2 h,by rw [g];simp⟩
  rw [this];simp
theorem vN (S : St) : okS S = (decide (0 ≤ S.a) && okN S.nd &&
    (if S.k = 1 then S.nd.c == 1 && zQ S.n && S.s == 0 && qH S.te
     else if S.k = 2 then zu S.n && decide (0 ≤ S.s) && qH S.te && (decide (S.nd.c < 3) || S.nd.k == 10)
     else if S.k = 3 then S.nd.c == 1 && okN S.te && S.te.c == 1 && zQ S.n && S.s == 0 else false)) := by cases S; rw [okS]; rfl
theorem ok_c {N:Nd}(h:okN N=true):1<=N.c:=by
 rw [qj] at h
 simp only [Bool.and_eq_true] at h
 have h2:=h.2
 split at h2
 ·simp only [Bool.and_eq_true,beq_iff_eq] at h2
  have:=h2.2
  unfold vq at this
  split at this
  ·omega
  split at this <;> omega
 ·simp only [Bool.and_eq_true,Bool.or_eq_true] at h2
  rcases h2 with h |⟨h,-⟩
  ·unfold zM at h
   split at h
   ·simp only [Bool.and_eq_true,beq_iff_eq] at h;omega
   split at h
   ·simp only [Bool.and_eq_true,decide_eq_true_eq] at h;omega
   split at h
   ·simp only [Bool.and_eq_true,beq_iff_eq] at h;omega
   split at h
   ·simp only [Bool.and_eq_true,beq_iff_eq] at h;omega
   split at h
   ·simp only [Bool.and_eq_true,beq_iff_eq] at h;omega
   split at h
   ·simp only [Bool.and_eq_true,beq_iff_eq,bne_iff_ne] at h
    have h1:=h.1.2
    have h2:=h.2
    unfold kD at h1 h2
    split at h2
    ·simp_all
    split at h2 <;> omega
   ·cases h
  ·unfold zO at h
   simp only [Bool.and_eq_true] at h
   have h:=h.2
   split at h
   ·simp only [Bool.and_eq_true,beq_iff_eq] at h;omega
   split at h
   ·simp only [Bool.and_eq_true,beq_iff_eq] at h;omega
   split at h
   ·simp only [Bool.and_eq_true,beq_iff_eq] at h;omega
   split at h
   ·simp only [Bool.and_eq_true,beq_iff_eq] at h;omega
   split at h
   ·simp only [Bool.and_eq_true,beq_iff_eq] at h;omega
   split at h
   ·simp only [Bool.and_eq_true,beq_iff_eq] at h;omega
   ·cases h
theorem def_ok {S:St}(h:okN S.nd=true):defB S =(zu S.n&&decide (0<=S.s)&&qH S.te&&(decide (S.nd.c<3) || S.nd.k==10)):=by
 have hc:=ok_c h
 unfold defB
 congr 1
 congr 1
 by_cases h1:S.nd.c<3
 ·rw [decide_eq_true h1]
  by_cases e:S.nd.c=1
  ·rw [e];rfl
  ·have:S.nd.c=2:=by omega
   rw [this];rfl
 ·rw [decide_eq_false h1]
  have e1:(S.nd.c==1)=false:=by rw [beq_eq_false_iff_ne];omega
  have e2:(S.nd.c==2)=false:=by rw [beq_eq_false_iff_ne];omega
  rw [e1,e2];rfl
theorem good_step {l:List St}{j:Nat}(h:wA l j) (hl:j<l.length) (h1:okS l[j]=true) (h2:qJ l j=false):wA l (j+1):=by
 intro i hi hj
 by_cases e:i=j
 ·subst e;exact ⟨h1,h2⟩
 ·exact h i hi (by omega)
theorem StM.ns {w:World}{b off:Nat}{S:St}(h:StM w b off S):S.n.size<=9223372036854775807:=by
 obtain ⟨cs,h1,h2⟩:=h
 cases S with | mk k a n s te nd =>
 rw [StV] at h2
 obtain ⟨ct,cn,-,-,h3,-⟩:=h2
 exact h3
def xW (r:Nat):Prop:=∀ (b off:Nat) (N:Nd) (w:World),rkN N<r->NdM w b off N->Tab w->siz N<=20000->dep N<=100 ->
 Calls Tryz.prog 47 #[.pointer (some ⟨b,off,none⟩)] w fun e w'=>e=.returned (.bool (okN N))/\Below w.heap.size w w'
def PF (w:World) (b off:Nat) (S:St):Prop:=w.cell? ⟨b,off,none⟩=some (.int .i64 S.k)/\w.cell? ⟨b,off+1,none⟩=some (.int .i64 S.a)/\w.cell? ⟨b,off+2,none⟩=some (.string S.n)/\w.cell? ⟨b,off+3,none⟩=some (.int .i64 S.s) /\
 w.cell? ⟨b,off+4+2,none⟩=some (.int .i64 S.te.c)/\w.cell? ⟨b,off+19+2,none⟩=some (.int .i64 S.nd.c)
theorem StM.sf {w:World}{b off:Nat}{S:St}(h:StM w b off S):PF w b off S:=by
 obtain ⟨x0,x1,x2,x3⟩:=h.head
 obtain ⟨cs,v0,v1,v2,v3,ka,kc,ba,bc,kb,ko,bb,bo,O,hC,lC,G⟩:=h.test.opn
 obtain ⟨-,-,t2,-⟩:=G
 obtain ⟨cs',v0',v1',v2',v3',ka',kc',ba',bc',kb',ko',bb',bo',O',hC',lC',G'⟩:=h.node.opn
 obtain ⟨-,-,n2,-⟩:=G'
 exact ⟨x0,x1,x2,x3,t2,n2⟩
def unB (S:St):Bool:=zQ S.n&&S.s==0
theorem isBodyP (r:Nat) (ih:xW r) (ba:Option Addr) (bc bb bo:Nat) (l:List St) (w:World) (hrk:∀ j (h:j<l.length),rkN l[j].te<r/\rkN l[j].nd<r)
  (hsz:∀ j (h:j<l.length),siz l[j].nd<=20000/\dep l[j].nd<=100/\(l[j].k=3->siz l[j].te<=20000/\dep l[j].te<=100)) (hl:l.length<=9223372036854775807)
  (ha:l≠[]->ba=some ⟨bb,bo,none⟩) (hat:StsAt w bb bo l) (hT:Tab w) :
  Calls Tryz.prog 41 #[.slice ba l.length bc] w fun e w'=>e=.returned (.bool (okB l))/\Below w.heap.size w w':=by
 have hmm:=@run_makeMap Tryz.prog
 by_cases hn:l.length<=1000
 ·have HN:Hid (l.length<=1000):=hn
  have hn':¬ (1000:Int) <(l.length:Int):=by omega
  go_enter Tryz.func41,Tryz.ntmps41
  go_wp2_with fail
  go_step3
  go_wp2_with fail
  go_step3
  go_wp2_with fail
  clear hn'
  go_loopw [4,13] (fun v i wr=>∃ (j n:Nat),j<=l.length/\n<=j/\v=.int .i64 j/\i=.int .i64 j/\Below w.heap.size w wr/\SMap wr w.heap.size n (seen l j)/\wA l j) (fun _ i _=>l.length - (intOf i).toNat)
  case atStart=>exact ⟨0,0,Nat.zero_le _,Nat.le_refl _,rfl,rfl,below_new _ _,(SMap.new w).cong (fun s=>by unfold seen;simp),fun i _ hi=>absurd hi (Nat.not_lt_zero _)⟩
  case round =>
   obtain ⟨j,n,hj,hnj,rfl,rfl,hb,hM,he⟩:=hrel
   have HE:Hid (wA l j):=he
   clear he
   by_cases hlt:j<l.length
   ·have hjl:((j:Int)==(l.length:Int))=false:=by rw [beq_eq_false_iff_ne];omega
    have hi:=zg (ic:=bc) rfl ha hlt
    have hS:=(StsAt.below hb hat).at hlt
    have hns:=hS.ns
    have hTw:=hT.below hb
    obtain ⟨r1,r2⟩:=hrk j hlt
    obtain ⟨s1,s2,s3⟩:=hsz j hlt
    have K1:=ih _ _ l[j].nd wr r2 hS.node hTw s1 s2
    have F:=fun w' (g:Below wr.heap.size wr w')=>(hS.below g).sf
    obtain ⟨x0,x1,x2,x3,x4,x5⟩:=hS.sf
    have HQ:Hid (okS l[j]=_):=vN l[j]
    have BAD:(okS l[j]=false∨qJ l j=true)->Hid (okB l=false):=fun h=>ok_bad hlt h
    have STEP:okS l[j]=true->qJ l j=false->Hid (wA l (j+1)):=fun h1 h2=>good_step HE.out hlt h1 h2
    have DUP:Hid (qJ l j =(l[j].k==2&&seen l j l[j].n)):=dup_at hlt
    have SEEN:Hid (∀ s,seen l (j+1) s =(seen l j s ||(l[j].k==2&&l[j].n==s))):=fun s=>seen_step hlt s
    have U:=fun w' (g:Below wr.heap.size wr w')=>isUnnamedP l[j] _ _ w' (hS.below g)
    have Z:=fun w' (g:Below wr.heap.size wr w')=>isZeroP l[j].te _ _ w' (hS.test.below g)
    have D:=fun w' (g:Below wr.heap.size wr w')=>isDefinitionP l[j] _ _ w' (hS.below g) hns (hTw.below g)
    have V:=fun (e:l[j].k=3) w' (g:Below wr.heap.size wr w')=>ih _ _ l[j].te w' r1 (hS.test.below g) (hTw.below g) (s3 e).1 (s3 e).2
    have LK:=hM.look hns
    have LL:=hM.lt
    have MM:=fun w' (g:Below wr.heap.size wr w')=>(hM.below g)
    clear hS ih hrk hsz hat hT ha hTw r1 r2 s1 s2 s3
    by_cases na:l[j].a<0
    ·have HB:=BAD (Or.inl (by rw [HQ.out,decide_eq_false (by omega)];rfl))
     clear HQ BAD STEP DUP SEEN HE K1 F U Z D V LK LL MM hM
     go_wp2_with (fail)
     (try rw [Exit.noGoto_ret])
     go_ret
     exact ⟨ret_bool HB.out.symm,hb⟩
    have na':(0:Int)<=l[j].a:=by omega
    have HQ:=(show Hid (okS l[j] =(okN l[j].nd&&_)) from (by have:=HQ.out;rw [decide_eq_true na',Bool.true_and] at this;exact this))
    clear na'
    cases q1:okN l[j].nd with
    | false =>
     rw [q1] at K1
     have HB:=BAD (Or.inl (by rw [HQ.out,q1];rfl))
     clear HQ BAD STEP DUP SEEN HE U Z D V LK LL MM hM q1
     go_wp2_with ((go_at_call 47;((with_reducible refine K1.mono ?_);rintro e w3 ⟨rfl,b3⟩;(obtain ⟨y0,y1,y2,y3,y4,y5⟩:=F _ b3))))
     (try rw [Exit.noGoto_ret])
     go_ret
     exact ⟨ret_bool HB.out.symm,Below.then hb b3⟩
    | true =>
    have DD:=def_ok q1
    rw [q1] at K1
    have HQ:=(show Hid (okS l[j]=_) from (by have:=HQ.out;rw [q1,Bool.true_and] at this;exact this))
    clear q1
    have DE:Hid (defB l[j]=_):=DD
    clear DD
    by_cases k1:l[j].k=1
    ·rw [k1] at x0
     have F:∀ w' (g:Below wr.heap.size wr w'),PF w' bb (bo+j*34) l[j]/\w'.cell? ⟨bb,bo+j*34,none⟩=some (.int .i64 1):=fun w' g=>⟨F w' g,by rw [<- k1];exact (F w' g).1⟩
     have HQ:=(show Hid (okS l[j] =(l[j].nd.c==1&&zQ l[j].n&&l[j].s==0&&qH l[j].te)) from (by have:=HQ.out;rw [if_pos k1] at this;exact this))
     have DUP:Hid (qJ l j=false):=by unfold Hid;rw [DUP.out,k1];rfl
     have SEEN:Hid (∀ s,seen l j s=seen l (j+1) s):=fun s=>by rw [SEEN.out,k1];simp
     clear k1 D V LK DE
     have HU:Hid (unB l[j] =(zQ l[j].n&&l[j].s==0)):=rfl
     have U:=fun w' g=>(show Calls Tryz.prog 60 #[.pointer (some ⟨bb,bo+j*34,none⟩)] w' fun e w''=>e=.returned (.bool (unB l[j]))/\w'=w'' from U w' g)
     have HQ:=(show Hid (okS l[j] =(l[j].nd.c==1&&unB l[j]&&qH l[j].te)) from (by unfold Hid;rw [HQ.out,HU.out];simp [Bool.and_assoc]))
     clear HU
     cases qu:unB l[j] with
     | false =>
      simp only [qu] at U
      have HB:=BAD (Or.inl (by rw [HQ.out,qu];simp))
      clear HQ BAD STEP DUP SEEN HE Z LL MM hM qu
      go_wp2_with (first |(go_at_call 47;((with_reducible refine K1.mono ?_);rintro e w3 ⟨rfl,b3⟩;(obtain ⟨⟨-,y1,y2,y3,y4,y5⟩,y0⟩:=F _ b3);(have U3:=U _ b3))) |(go_at_call 60;((with_reducible refine U3.mono ?_);rintro e w33 ⟨rfl,rfl⟩)))
      (try rw [Exit.noGoto_ret])
      go_ret
      exact ⟨ret_bool HB.out.symm,Below.then hb b3⟩
     | true =>
     simp only [qu] at U
     cases qz:qH l[j].te with
     | false =>
      simp only [qz] at Z
      have HB:=BAD (Or.inl (by rw [HQ.out,qz];simp))
      clear HQ BAD STEP DUP SEEN HE LL MM hM qu qz
      go_wp2_with (first |(go_at_call 47;((with_reducible refine K1.mono ?_);rintro e w3 ⟨rfl,b3⟩;(obtain ⟨⟨-,y1,y2,y3,y4,y5⟩,y0⟩:=F _ b3);(have U3:=U _ b3);(have Z3:=Z _ b3))) |(go_at_call 60;((with_reducible refine U3.mono ?_);rintro e w33 ⟨rfl,rfl⟩)) |(go_at_call 61;((with_reducible refine Z3.mono ?_);rintro e w4 ⟨rfl,b4⟩;(have b34:=Below.then b3 b4);(obtain ⟨⟨-,z1,z2,z3,z4,z5⟩,z0⟩:=F _ b34))))
      (try rw [Exit.noGoto_ret])
      go_ret
      exact ⟨ret_bool HB.out.symm,Below.then hb b34⟩
     | true =>
     simp only [qz] at Z
     cases qc:(l[j].nd.c==1) with
     | false =>
      have qc':(l[j].nd.c != 1)=true:=by rw [bne,qc];rfl
      have HB:=BAD (Or.inl (by rw [HQ.out,qc];simp))
      clear HQ BAD STEP DUP SEEN HE LL MM hM qu qz
      go_wp2_with (first |(go_at_call 47;((with_reducible refine K1.mono ?_);rintro e w3 ⟨rfl,b3⟩;(obtain ⟨⟨-,y1,y2,y3,y4,y5⟩,y0⟩:=F _ b3);(have U3:=U _ b3);(have Z3:=Z _ b3))) |(go_at_call 60;((with_reducible refine U3.mono ?_);rintro e w33 ⟨rfl,rfl⟩)) |(go_at_call 61;((with_reducible refine Z3.mono ?_);rintro e w4 ⟨rfl,b4⟩;(have b34:=Below.then b3 b4);(obtain ⟨⟨-,z1,z2,z3,z4,z5⟩,z0⟩:=F _ b34))))
      (try rw [Exit.noGoto_ret])
      go_ret
      exact ⟨ret_bool HB.out.symm,Below.then hb b34⟩
     | true =>
     have qc':(l[j].nd.c != 1)=false:=by rw [bne,qc];rfl
     have HG:=STEP (by rw [HQ.out,qu,qz,qc];rfl) DUP.out
     clear HQ BAD STEP DUP LL hM qu qz
     go_wp2_with (first |(go_at_call 47;((with_reducible refine K1.mono ?_);rintro e w3 ⟨rfl,b3⟩;(obtain ⟨⟨-,y1,y2,y3,y4,y5⟩,y0⟩:=F _ b3);(have U3:=U _ b3);(have Z3:=Z _ b3))) |(go_at_call 60;((with_reducible refine U3.mono ?_);rintro e w33 ⟨rfl,rfl⟩)) |(go_at_call 61;((with_reducible refine Z3.mono ?_);rintro e w4 ⟨rfl,b4⟩;(have b34:=Below.then b3 b4);(obtain ⟨⟨-,z1,z2,z3,z4,z5⟩,z0⟩:=F _ b34))))
     go_roundw
     case rel=>exact ⟨j+1,n,by omega,by omega,by go_num,by go_num,Below.then hb b34,(MM _ b34).cong SEEN.out,HG.out⟩
     case measure=>simp [intOf];omega
    by_cases k2:l[j].k=2
    ·rw [k2] at x0
     have F:∀ w' (g:Below wr.heap.size wr w'),PF w' bb (bo+j*34) l[j]/\w'.cell? ⟨bb,bo+j*34,none⟩=some (.int .i64 2):=fun w' g=>⟨F w' g,by rw [<- k2];exact (F w' g).1⟩
     have HQ:=(show Hid (okS l[j]=defB l[j]) from (by have:=HQ.out;rw [if_neg (by rw [k2];decide),if_pos k2] at this;unfold Hid;rw [this,DE.out]))
     have DUP:Hid (qJ l j=seen l j l[j].n):=by unfold Hid;rw [DUP.out,k2];rfl
     have SEEN:Hid (∀ s,(seen l j s || l[j].n==s)=seen l (j+1) s):=fun s=>by rw [SEEN.out,k2];rfl
     clear k2 k1 U Z V DE
     have LM:=fun w' (g:Below wr.heap.size wr w')=>(MM w' g).look hns
     cases qs:seen l j l[j].n with
     | true =>
      simp only [qs] at LM
      have HB:=BAD (Or.inr (by rw [DUP.out,qs]))
      clear HQ BAD STEP DUP SEEN HE LK LL MM hM D qs
      go_wp2_with (first |(go_at_call 47;((with_reducible refine K1.mono ?_);rintro e w3 ⟨rfl,b3⟩;(obtain ⟨⟨-,y1,y2,y3,y4,y5⟩,y0⟩:=F _ b3);(have LM3:=LM _ b3))))
      (try rw [Exit.noGoto_ret])
      go_ret
      exact ⟨ret_bool HB.out.symm,Below.then hb b3⟩
     | false =>
     simp only [qs] at LM
     cases qd:defB l[j] with
     | false =>
      simp only [qd] at D
      have HB:=BAD (Or.inl (by rw [HQ.out,qd]))
      clear HQ BAD STEP DUP SEEN HE LK LL MM hM qs qd
      go_wp2_with (first |(go_at_call 47;((with_reducible refine K1.mono ?_);rintro e w3 ⟨rfl,b3⟩;(obtain ⟨⟨-,y1,y2,y3,y4,y5⟩,y0⟩:=F _ b3);(have LM3:=LM _ b3);(have D3:=D _ b3))) |(go_at_call 62;((with_reducible refine D3.mono ?_);rintro e w4 ⟨rfl,b4⟩;(have b34:=Below.then b3 b4);(obtain ⟨⟨-,z1,z2,z3,z4,z5⟩,z0⟩:=F _ b34))))
      (try rw [Exit.noGoto_ret])
      go_ret
      exact ⟨ret_bool HB.out.symm,Below.then hb b34⟩
     | true =>
     simp only [qd] at D
     have HG:=STEP (by rw [HQ.out,qd]) (by rw [DUP.out,qs])
     have PUT:=fun w' (g:Below wr.heap.size wr w')=>(MM w' g).put (show n<maxLen by simp only [maxLen];omega) hns
     clear HQ BAD STEP DUP LK LL MM hM qs qd
     go_wp2_with (first |(go_at_call 47;((with_reducible refine K1.mono ?_);rintro e w3 ⟨rfl,b3⟩;(obtain ⟨⟨-,y1,y2,y3,y4,y5⟩,y0⟩:=F _ b3);(have LM3:=LM _ b3);(have D3:=D _ b3))) |(go_at_call 62;((with_reducible refine D3.mono ?_);rintro e w4 ⟨rfl,b4⟩;(have b34:=Below.then b3 b4);(obtain ⟨⟨-,z1,z2,z3,z4,z5⟩,z0⟩:=F _ b34);(obtain ⟨w5,hr5,S5,G5⟩:=PUT _ b34))))
     go_roundw
     case rel=>exact ⟨j+1,n+1,by omega,by omega,by go_num,by go_num,(Below.then hb b34).grown G5 (by have:=(Below.then hb b34).size;omega) (fun k e=>by injection e with e;omega),S5.cong SEEN.out,HG.out⟩
     case measure=>simp [intOf];omega
    by_cases k3:l[j].k=3
    ·rw [k3] at x0
     have F:∀ w' (g:Below wr.heap.size wr w'),PF w' bb (bo+j*34) l[j]/\w'.cell? ⟨bb,bo+j*34,none⟩=some (.int .i64 3):=fun w' g=>⟨F w' g,by rw [<- k3];exact (F w' g).1⟩
     have HQ:=(show Hid (okS l[j] =(l[j].nd.c==1&&okN l[j].te&&l[j].te.c==1&&zQ l[j].n&&l[j].s==0)) from (by have:=HQ.out;rw [if_neg (by rw [k3];decide),if_neg (by rw [k3];decide),if_pos k3] at this;exact this))
     have DUP:Hid (qJ l j=false):=by unfold Hid;rw [DUP.out,k3];rfl
     have SEEN:Hid (∀ s,seen l j s=seen l (j+1) s):=fun s=>by rw [SEEN.out,k3];simp
     have V:=V k3
     clear k1 k2 k3 D Z LK DE
     have HU:Hid (unB l[j] =(zQ l[j].n&&l[j].s==0)):=rfl
     have U:=fun w' g=>(show Calls Tryz.prog 60 #[.pointer (some ⟨bb,bo+j*34,none⟩)] w' fun e w''=>e=.returned (.bool (unB l[j]))/\w'=w'' from U w' g)
     have HQ:=(show Hid (okS l[j] =(l[j].nd.c==1&&okN l[j].te&&l[j].te.c==1&&unB l[j])) from (by unfold Hid;rw [HQ.out,HU.out];simp [Bool.and_assoc]))
     clear HU
     cases qu:unB l[j] with
     | false =>
      simp only [qu] at U
      have HB:=BAD (Or.inl (by rw [HQ.out,qu];simp))
      clear HQ BAD STEP DUP SEEN HE V LL MM hM qu
      go_wp2_with (first |(go_at_call 47;((with_reducible refine K1.mono ?_);rintro e w3 ⟨rfl,b3⟩;(obtain ⟨⟨-,y1,y2,y3,y4,y5⟩,y0⟩:=F _ b3);(have U3:=U _ b3))) |(go_at_call 60;((with_reducible refine U3.mono ?_);rintro e w33 ⟨rfl,rfl⟩)))
      (try rw [Exit.noGoto_ret])
      go_ret
      exact ⟨ret_bool HB.out.symm,Below.then hb b3⟩
     | true =>
     simp only [qu] at U
     cases qz:okN l[j].te with
     | false =>
      simp only [qz] at V
      have HB:=BAD (Or.inl (by rw [HQ.out,qz];simp))
      clear HQ BAD STEP DUP SEEN HE LL MM hM qu qz
      go_wp2_with (first |(go_at_call 47;((with_reducible refine K1.mono ?_);rintro e w3 ⟨rfl,b3⟩;(obtain ⟨⟨-,y1,y2,y3,y4,y5⟩,y0⟩:=F _ b3);(have U3:=U _ b3);(have V3:=V _ b3))) |(go_at_call 60;((with_reducible refine U3.mono ?_);rintro e w33 ⟨rfl,rfl⟩)) |(go_at_call 47;((with_reducible refine V3.mono ?_);rintro e w4 ⟨rfl,b4⟩;(have b34:=Below.then b3 b4);(obtain ⟨⟨-,z1,z2,z3,z4,z5⟩,z0⟩:=F _ b34))))
      (try rw [Exit.noGoto_ret])
      go_ret
      exact ⟨ret_bool HB.out.symm,Below.then hb b34⟩
     | true =>
     simp only [qz] at V
     cases qt:(l[j].te.c==1) with
     | false =>
      have qt':(l[j].te.c != 1)=true:=by rw [bne,qt];rfl
      have HB:=BAD (Or.inl (by rw [HQ.out,qt];simp))
      clear HQ BAD STEP DUP SEEN HE LL MM hM qu qz
      go_wp2_with (first |(go_at_call 47;((with_reducible refine K1.mono ?_);rintro e w3 ⟨rfl,b3⟩;(obtain ⟨⟨-,y1,y2,y3,y4,y5⟩,y0⟩:=F _ b3);(have U3:=U _ b3);(have V3:=V _ b3))) |(go_at_call 60;((with_reducible refine U3.mono ?_);rintro e w33 ⟨rfl,rfl⟩)) |(go_at_call 47;((with_reducible refine V3.mono ?_);rintro e w4 ⟨rfl,b4⟩;(have b34:=Below.then b3 b4);(obtain ⟨⟨-,z1,z2,z3,z4,z5⟩,z0⟩:=F _ b34))))
      (try rw [Exit.noGoto_ret])
      go_ret
      exact ⟨ret_bool HB.out.symm,Below.then hb b34⟩
     | true =>
     have qt':(l[j].te.c != 1)=false:=by rw [bne,qt];rfl
     cases qc:(l[j].nd.c==1) with
     | false =>
      have qc':(l[j].nd.c != 1)=true:=by rw [bne,qc];rfl
      have HB:=BAD (Or.inl (by rw [HQ.out,qc];simp))
      clear HQ BAD STEP DUP SEEN HE LL MM hM qu qz
      go_wp2_with (first |(go_at_call 47;((with_reducible refine K1.mono ?_);rintro e w3 ⟨rfl,b3⟩;(obtain ⟨⟨-,y1,y2,y3,y4,y5⟩,y0⟩:=F _ b3);(have U3:=U _ b3);(have V3:=V _ b3))) |(go_at_call 60;((with_reducible refine U3.mono ?_);rintro e w33 ⟨rfl,rfl⟩)) |(go_at_call 47;((with_reducible refine V3.mono ?_);rintro e w4 ⟨rfl,b4⟩;(have b34:=Below.then b3 b4);(obtain ⟨⟨-,z1,z2,z3,z4,z5⟩,z0⟩:=F _ b34))))
      (try rw [Exit.noGoto_ret])
      go_ret
      exact ⟨ret_bool HB.out.symm,Below.then hb b34⟩
     | true =>
     have qc':(l[j].nd.c != 1)=false:=by rw [bne,qc];rfl
     have HG:=STEP (by rw [HQ.out,qu,qz,qc,qt];rfl) DUP.out
     clear HQ BAD STEP DUP LL hM qu qz
     go_wp2_with (first |(go_at_call 47;((with_reducible refine K1.mono ?_);rintro e w3 ⟨rfl,b3⟩;(obtain ⟨⟨-,y1,y2,y3,y4,y5⟩,y0⟩:=F _ b3);(have U3:=U _ b3);(have V3:=V _ b3))) |(go_at_call 60;((with_reducible refine U3.mono ?_);rintro e w33 ⟨rfl,rfl⟩)) |(go_at_call 47;((with_reducible refine V3.mono ?_);rintro e w4 ⟨rfl,b4⟩;(have b34:=Below.then b3 b4);(obtain ⟨⟨-,z1,z2,z3,z4,z5⟩,z0⟩:=F _ b34))))
     go_roundw
     case rel=>exact ⟨j+1,n,by omega,by omega,by go_num,by go_num,Below.then hb b34,(MM _ b34).cong SEEN.out,HG.out⟩
     case measure=>simp [intOf];omega
    ·have HB:=BAD (Or.inl (by rw [HQ.out,if_neg k1,if_neg k2,if_neg k3]))
     have e1:(l[j].k==1)=false:=by simpa using k1
     have e2:(l[j].k==2)=false:=by simpa using k2
     have e3:(l[j].k==3)=false:=by simpa using k3
     clear k1 k2 k3 U Z D V DE
     clear HQ BAD STEP DUP SEEN HE LK LL MM hM
     go_wp2_with ((go_at_call 47;((with_reducible refine K1.mono ?_);rintro e w3 ⟨rfl,b3⟩;(obtain ⟨y0,y1,y2,y3,y4,y5⟩:=F _ b3))))
     (try rw [Exit.noGoto_ret])
     go_ret
     exact ⟨ret_bool HB.out.symm,Below.then hb b3⟩
   ·obtain rfl:j=l.length:=by omega
    have HG:Hid (okB l=true):=ok_end HN.out HE.out
    clear hM HE
    go_wp2_with fail
    (try rw [Exit.noGoto_ret])
    go_ret
    exact ⟨ret_bool HG.out.symm,hb⟩
 ·have hn':(1000:Int) <(l.length:Int):=by omega
  have HG:Hid (okB l=false):=by unfold Hid okB;rw [decide_eq_false hn];rfl
  clear ih hrk hsz hat
  go_enter Tryz.func41,Tryz.ntmps41
  go_wp2_with fail
  go_step3
  go_wp2_with fail
  (try rw [Exit.noGoto_ret])
  go_ret
  exact ⟨ret_bool HG.out.symm,Below.refl _ _⟩
end Go.Proofs.YtmfhdcpajgjgpaaGreatDoor.Syn
