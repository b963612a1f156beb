/-
  Layer 10: the library's Repeat of one class; the program's isStrand.
  Layer 10: the program's isLiteral, isZero, isDefinition.
-/
import Derived.Test.YtalkinnbfglkdaaGreatDoorPt19
import Derived.Test.YtalkinnbfglkdaaGreatDoorShelf
import Derived.Laws.CopyOwn
import Derived.Test.YtalkinnbfglkdaaGreatDoorPt24
import Derived.Test.YtalkinnbfglkdaaGreatDoorPt13
set_option maxHeartbeats 8000000
namespace Go.Proofs.YtalkinnbfglkdaaGreatDoor.Syn
open Go.RowKit Go.Proofs.YtalkinnbfglkdaaGreatDoor.Shape
set_option linter.unusedVariables false
set_option linter.unusedSimpArgs false
set_option maxRecDepth 100000
theorem mul1 (n:Nat) (hn:n<=1000) (w:World):Calls Tryz.prog 73 #[.int .u64 1,.int .u64 (n:Int)] w fun e w'=>e=.returned (.tuple #[.int .u64 0,.int .u64 (n:Int)])/\w=w':=by
 have h:=Tryz.bits_Mul 1 n (by decide) (by omega) w
 rw [show ((1*n / 18446744073709551616:Nat):Int)=0 by rw [Nat.one_mul,Nat.div_eq_of_lt (by omega)];rfl,show ((1*n % 18446744073709551616:Nat):Int) =(n:Int) by rw [Nat.one_mul,Nat.mod_eq_of_lt (by omega)]] at h
 exact h.mono fun e w' ⟨h1,h2⟩=>⟨h1,h2.symm⟩
theorem infoCls':(Tryz.prog.info? 40).map (fun i=>(i.zero,i.size,i.bytes))=some (some (.int .i64 0),1,8):=by kernel_rfl
theorem sizeCls1:(Tryz.prog.info? 40).map (·.size)=some 1:=by kernel_rfl
theorem run_makeCls (w:World) (n:Nat) (hn:n*8<=140737488351232):(Instr.makeSlice 163 (.int .i64 (n:Int)) (.int .i64 (n:Int))).run Tryz.prog w=.ok (.slice (some ⟨w.heap.size,0,none⟩) n n) (w.alloc (.cells (madeCells #[.int .i64 0] n) 40)):=by
 obtain ⟨i0,hi,hz0,hz1,hz2⟩:=info_parts infoCls'
 have:=run_make (P:=Tryz.prog) w 163 40 i0 _ Tryz.underlying163 hi hz0 .i64 .i64 n n (by omega) (Int.le_refl _) (by rw [hz2];omega) (by omega)
 rw [hz1,Nat.mul_one] at this
 simp only [Int.toNat_natCast] at this
 exact this
def onesL (m n:Nat):List Value:=List.replicate m (.int .i64 1)++List.replicate (n - m) (.int .i64 0)
def Ones (w:World) (g m n:Nat):Prop:=w.heap[g]?=some (.cells (onesL m n).toArray 40 (0,0))
theorem onesL_len {m n:Nat}(h:m<=n):(onesL m n).length=n:=by unfold onesL;simp;omega
theorem ones_new (w:World) (n:Nat):Ones (w.alloc (.cells (madeCells #[.int .i64 0] n) 40)) w.heap.size 0 n:=by
 unfold Ones
 rw [heap_alloc_new]
 have:madeCells #[.int .i64 0] n =(onesL 0 n).toArray:=by
  unfold onesL madeCells
  apply Array.ext
  ·simp
  ·intro i h1 h2
   simp [Nat.mod_one]
 rw [this]
theorem ones_cell {w:World}{g m n:Nat}(h:Ones w g m n) {j:Nat}(hj:j<m) (hm:m<=n):w.cell? ⟨g,j,none⟩=some (.int .i64 1):=by
 unfold Ones at h
 have h2:(onesL m n).toArray[j]?=some (.int .i64 1):=by
  have:(onesL m n)[j]?=some (.int .i64 1):=by unfold onesL;rw [List.getElem?_append_left (by simpa using hj)];simp [hj]
  simpa using this
 simp [World.cell?,h,h2]
theorem ones_row (m k n:Nat) (h:m+k<=n):(onesL m n).take m++(List.replicate k (Value.int .i64 1)++(onesL m n).drop (m+k))=onesL (m+k) n:=by
 unfold onesL
 rw [List.take_append_of_le_length (by simp),List.take_of_length_le (by simp),List.drop_append,List.drop_of_length_le (by simp),List.nil_append,List.length_replicate,List.drop_replicate,<- List.append_assoc,List.replicate_append_replicate,
  show n - m - (m+k - m)=n - (m+k) by omega]
theorem copy_ones {w:World}{g m n k:Nat}(h:Ones w g m n) (dL dC sL sC:Nat) (a:Addr) (hk:Nat.min sL dL=k) (hmk:m+k<=n) (hsrc:∀ j,j<k->w.cell? (a.add j)=some (.int .i64 1)) :
  ∃ W,(∀ ty,(Builtin.copy_ #[163,163] ty #[.slice (some ⟨g,m,none⟩) dL dC,.slice (some a) sL sC]).run Tryz.prog w=.ok (goInt k) W)/\Ones W g (m+k) n/\∀ (B:Nat) (w0:World),Below B w0 w->B<=g->Below B w0 W:=by
 have hc:=fun ty=>run_copy_wide (P:=Tryz.prog) w 163 163 ty 40 g m dL dC a sL sC 1 _ 40 (List.replicate k (.int .i64 1)) Tryz.underlying163 sizeCls1 h (by rw [List.length_replicate,hk,Nat.mul_one])
  (fun j v hj=>by
   have hjk:j<k:=by simpa using (List.getElem?_eq_some_iff.1 hj).1
   rw [hsrc j hjk]
   rw [List.getElem?_replicate_of_lt hjk] at hj
   exact hj) (by rw [List.length_replicate,List.size_toArray,onesL_len (by omega)];exact hmk) (fun u hu=>by rw [(List.mem_replicate.1 hu).2];rfl)
 rw [hk] at hc
 refine ⟨_,hc,?_,fun B w0 hb hB=>below_setRow hb hB _⟩
 unfold Ones
 rw [setRow_heap w g _ _ _ _ h]
 have:=ones_row m k n hmk
 rw [List.length_replicate]
 simp only [List.toList_toArray]
 rw [this]
theorem repeatP (a:Option Addr) (cap n:Nat) (w:World) (hl:IntsAt w a cap [1]) (h2:2<=n) (hn:n<=1000) :
  Calls Tryz.prog 118 #[.slice a 1 cap,.int .i64 (n:Int)] w fun e w'=>∃ b,e=.returned (.slice (some ⟨b,0,none⟩) n n)/\Ones w' b n n/\Below w.heap.size w w':=by
 have hn1:(n:Int)<=1000:=by omega
 have hn0:(2:Int)<=(n:Int):=by omega
 have M:=mul1 n hn
 have hm:=run_makeCls w n (by omega)
 have b0:=below_new w (.cells (madeCells #[.int .i64 0] n) 40)
 obtain ⟨-,-,-,sb,so,ha,hc⟩:=hl
 have ha:=ha (by simp)
 subst ha
 have hc0:=hc 0 (by simp)
 simp only [Nat.add_zero,List.getElem_cons_zero] at hc0
 have hc1:=(b0.cell (cell_lt hc0)).trans hc0
 obtain ⟨W1,hcp,o1,bb1⟩:=copy_ones (ones_new w n) n n 1 cap ⟨sb,so,none⟩ (k:=1) (Nat.min_eq_left (by omega)) (by omega) (fun j hj=>by (obtain rfl:j=0:=(by omega));rw [Shape.add_plain,Nat.add_zero];exact hc1)
 have b1:=bb1 _ _ b0 (Nat.le_refl _)
 rw [Nat.zero_add] at o1
 clear bb1 hc hc0 hc1
 go_enter Tryz.func118,Tryz.ntmps118
 go_wp2_with (go_at_call 73;((with_reducible refine (M _).mono ?_);rintro e w3 ⟨rfl,rfl⟩))
 go_loopw [8] (fun i wr=>∃ m:Nat,1<=m/\m<=n/\i=.int .i64 (m:Int)/\Ones wr w.heap.size m n/\Below w.heap.size w wr) (fun i _=>n - (intOf i).toNat)
 case atStart=>exact ⟨1,Nat.le_refl _,by omega,rfl,o1,b1⟩
 case round =>
  clear o1 b1 hcp
  obtain ⟨m,hm1,hmn,rfl,ho,hb⟩:=hrel
  by_cases hlt:m<n
  ·have hlt':(m:Int) <(n:Int):=by omega
   obtain ⟨k,hk⟩:∃ k,Nat.min m (n - m)=k:=⟨_,rfl⟩
   have hk1:k<=m:=by rw [<- hk];exact Nat.min_le_left _ _
   have hk2:k<=n - m:=by rw [<- hk];exact Nat.min_le_right _ _
   have hk3:0<k:=by rw [<- hk];exact Nat.lt_min.2 ⟨by omega,by omega⟩
   have hod:Ones wr.drew w.heap.size m n:=ho
   obtain ⟨W2,hcp,o2,bb2⟩:=copy_ones hod (n - m) (n - m) m n ⟨w.heap.size,0,none⟩ (k:=k) hk (by omega) (fun j hj=>by rw [Shape.add_plain,Nat.zero_add];exact ones_cell hod (by omega) hmn)
   have b2:=bb2 _ _ hb.drew (Nat.le_refl _)
   have s1:∀ w':World,(Instr.slice 163 (.slice (some ⟨w.heap.size,0,none⟩) n n) (some (.int .i64 (m:Int))) none none).run Tryz.prog w'=.ok (.slice (some ⟨w.heap.size,m,none⟩) (n - m) (n - m)) w':=fun w'=>by
    rw [run_slice_l w' _ _ _ _ elemCls .i64 _ (by omega) (by omega),sizeCls]
    simp only [Result.andThen_ok,sliced,if_neg (show ¬ n=m by omega),Int.toNat_natCast,Option.map_some,Nat.mul_one,Shape.add_plain,Nat.zero_add]
   have s2:∀ w':World,(Instr.slice 163 (.slice (some ⟨w.heap.size,0,none⟩) n n) none (some (.int .i64 (m:Int))) none).run Tryz.prog w'=.ok (.slice (some ⟨w.heap.size,0,none⟩) m n) w':=fun w'=>by
    rw [run_slice_h w' _ _ _ _ elemCls .i64 _ (by omega) (by omega),sizeCls]
    simp only [Result.andThen_ok,sliced,if_neg (show ¬ n=0 by omega),Int.toNat_natCast,Option.map_some,Nat.zero_mul,Shape.add_plain,Nat.add_zero,Nat.sub_zero]
   have hw:IntKind.i64.wrap ((m:Int)+(k:Int)) =(m:Int)+(k:Int):=IntWalk.i64_in _ (by omega)
   have hkk:(k:Int)<=1000:=by omega
   clear hk bb2 ho
   go_wp2_with fail
   go_region
   all_goals
    go_wp2_with fail
    go_roundw
    case rel=>exact ⟨m+k,by omega,by omega,by go_num,o2,b2⟩
    case measure=>simp [intOf];omega
  ·obtain rfl:m=n:=by omega
   go_wp2_with fail
   go_ret
   exact ⟨_,rfl,ho,hb⟩
theorem ones_ints {w:World}{b n:Nat}(h:Ones w b n n) (hn:n<=1000):IntsAt w (some ⟨b,0,none⟩) n (List.replicate n 1):=by
 refine ⟨by simp,by omega,fun x hx=>by rw [(List.mem_replicate.1 hx).2];decide,b,0,fun _=>rfl,fun i hi=>?_⟩
 rw [List.length_replicate] at hi
 rw [Nat.zero_add,ones_cell h hi (Nat.le_refl _)]
 simp
def strandB (N:Nd):Bool:=decide (2<=N.ks.length)&&decide (N.ks.length<=1000)&&allC N.ks
theorem cls_rep (N:Nd):clsB (List.replicate N.ks.length 1) N=allC N.ks:=by
 unfold clsB allC
 have:∀ l:List Nd,sameB (l.map Nd.c) (List.replicate l.length 1)=l.all fun K=>K.c==1:=by
  intro l
  induction l with
  | nil=>rfl
  | cons A r ih =>
   rw [List.map_cons,List.length_cons,List.replicate_succ,List.all_cons,<- ih]
   unfold sameB
   by_cases h1:A.c=1
   ·simp [h1]
   ·simp [h1]
 exact this _
theorem isStrandP (N:Nd) (b off:Nat) (w:World) (h:NdM w b off N):Calls Tryz.prog 99 #[.pointer (some ⟨b,off,none⟩)] w fun e w'=>e=.returned (.bool (strandB N))/\Below w.heap.size w w':=by
 obtain ⟨cs,v0,v1,v2,v3,ka,kc,ba,bc,kb,ko,bb,bo,O,hC,lC,G⟩:=h.opn
 obtain ⟨-,-,-,-,-,-,-,-,-,-,g10,-,-,-,-⟩:=id G
 obtain ⟨n,hn⟩:∃ n,N.ks.length=n:=⟨_,rfl⟩
 have hq:strandB N =(decide (2<=n)&&decide (n<=1000)&&clsB (List.replicate n 1) N):=by rw [strandB,<- cls_rep,hn]
 obtain ⟨r,hr⟩:∃ r,strandB N=r:=⟨_,rfl⟩
 rw [hr] at hq ⊢
 have HQ:Hid (r =(decide (2<=n)&&decide (n<=1000)&&clsB (List.replicate n 1) N)):=hq
 rw [hn] at g10
 clear hq hr hn O hC G
 by_cases h2:2<=n
 ·have h2':¬ (n:Int)<2:=by omega
  by_cases h3:n<=1000
  ·have h3':¬ (1000:Int) <(n:Int):=by omega
   have B1:=below_new w (.cells #[.int .i64 1] 40)
   have I1:IntsAt (w.alloc (.cells #[.int .i64 1] 40)) (some ⟨w.heap.size,0,none⟩) 1 [1]:=cls_new w _ [1] (i64_small (by intro z hz;simp at hz;subst hz;decide)) (by simp)
   have R:=repeatP _ 1 n _ I1 h2 h3
   have K:=fun w' bb (g:Below w.heap.size w w') (o:Ones w' bb n n)=>hasKidsP N b off _ n (List.replicate n 1) w' (h.below g) (ones_ints o h3)
   simp only [List.length_replicate] at K
   obtain ⟨C,hC⟩:∃ C,clsB (List.replicate n 1) N=C:=⟨_,rfl⟩
   rw [hC] at HQ
   simp only [hC] at K
   have HR:Hid (r=C):=by unfold Hid;rw [HQ.out,decide_eq_true h2,decide_eq_true h3];rfl
   clear hC HQ I1 h
   have g11:=(B1.cell (cell_lt g10)).trans g10
   go_enter Tryz.func99,Tryz.ntmps99
   go_wp2_with (first |(go_at_call 118;((with_reducible refine R.mono ?_);rintro e w3 ⟨bk,rfl,o3,b3⟩;(have B3:=Below.then B1 b3);(have K3:=K _ _ B3 o3))) |(go_at_call 100;((with_reducible refine K3.mono ?_);rintro e w4 ⟨rfl,b4⟩)))
   go_ret
   exact ⟨ret_bool HR.out.symm,Below.then B3 b4⟩
  ·have h3':(1000:Int) <(n:Int):=by omega
   have HR:Hid (r=false):=by unfold Hid;rw [HQ.out,decide_eq_false h3];simp
   clear HQ h h3
   go_enter Tryz.func99,Tryz.ntmps99
   go_wp2_with fail
   go_ret
   exact ⟨ret_bool HR.out.symm,Below.refl _ _⟩
 ·have h2':(n:Int)<2:=by omega
  have HR:Hid (r=false):=by unfold Hid;rw [HQ.out,decide_eq_false h2];rfl
  clear HQ h h2
  go_enter Tryz.func99,Tryz.ntmps99
  go_wp2_with fail
  go_ret
  exact ⟨ret_bool HR.out.symm,Below.refl _ _⟩
theorem right_kind {A:Arr}(h:rightE A=0):A.kind=1∨A.kind=2∨A.kind=3:=by
 obtain ⟨k,sh,nu,it⟩:=A
 unfold rightE at h
 by_cases hk:k<1∨3<k
 ·rw [chk_kind hk] at h;cases h
 ·show k=1∨k=2∨k=3
  omega
def lit0 (A:Arr):Bool:=(A.kind==1&&(A.shape.length:Int)==0) ||(A.kind==2&&decide ((A.shape.length:Int)<=1))
def litP (A:Arr):Bool:=rightE A==0&&litB A
theorem litP_eq (A:Arr):litP A =(lit0 A&&rightE A==0):=by
 by_cases h:rightE A=0
 ·have hb:(rightE A==0)=true:=by rw [h];rfl
  unfold litP
  rw [hb,Bool.true_and,Bool.and_true]
  unfold litB lit0
  generalize A.shape.length=n
  rcases right_kind h with e | e | e
  ·rw [e];rcases n with _ | n <;> simp
  ·rw [e];rcases n with _ | _ | n
   ·simp
   ·simp
   ·have h1:¬ (((n+1+1:Nat):Int)<=1):=by omega
    have h2:((((n+1+1:Nat):Int))==0)=false:=by simp;omega
    have h3:((((n+1+1:Nat):Int))==1)=false:=by simp;omega
    rw [h2,h3,decide_eq_false h1];simp
  ·rw [e];simp
 ·have hb:(rightE A==0)=false:=by simpa using h
  unfold litP
  rw [hb];simp
theorem isLiteralP (v0 v1 v2 v3:Value) (A:Arr) (w:World) (h:ArrAt w (.agg #[v0,v1,v2,v3]) A):Calls Tryz.prog 98 #[.agg #[v0,v1,v2,v3]] w fun e w'=>e=.returned (.bool (litP A))/\Below w.heap.size w w':=by
 rw [litP_eq]
 obtain ⟨k,sh,nu,it⟩:=A
 have hA:=h
 rw [ArrAt] at h
 obtain ⟨sa,sc,na,nc,ia,ic,e,-⟩:=h
 obtain ⟨rfl,rfl,rfl,rfl⟩:v0=.int .i64 k/\v1=.slice sa sh.length sc/\v2=.slice na nu.length nc/\v3=.slice ia it.length ic:=by
  simpa using e
 clear e
 have B1:=below_new w (.cells #[.int .i64 k,.slice sa sh.length sc,.slice na nu.length nc,.slice ia it.length ic] 46)
 have R:=rightQ _ _ _ (hA.below B1)
 clear hA
 obtain ⟨q,hq⟩:∃ q,rightE (.mk k sh nu it)=q:=⟨_,rfl⟩
 rw [hq] at R ⊢
 obtain ⟨r,hr⟩:∃ r,(lit0 (.mk k sh nu it)&&q==0)=r:=⟨_,rfl⟩
 rw [hr]
 have HQ:Hid (((k==1&&(sh.length:Int)==0) ||(k==2&&decide ((sh.length:Int)<=1))&&true)=lit0 (.mk k sh nu it)):=by unfold Hid;simp [lit0,Arr.kind,Arr.shape];rfl
 obtain ⟨t,ht⟩:∃ t,lit0 (.mk k sh nu it)=t:=⟨_,rfl⟩
 rw [ht] at HQ hr
 have HR:Hid ((t&&q==0)=r):=hr
 clear hr ht hq
 by_cases k1:k=1
 ·subst k1
  cases z0:((sh.length:Int)==0) with
  | true =>
   have HG:Hid (r =(q==0)):=by unfold Hid;rw [<- HR.out,<- HQ.out,z0];rfl
   clear HQ HR
   go_enter Tryz.func98,Tryz.ntmps98
   go_wp2_with (go_at_call 117;((with_reducible refine R.mono ?_);rintro e w3 ⟨rfl,b3⟩))
   go_ret
   exact ⟨ret_bool HG.out.symm,Below.then B1 b3⟩
  | false =>
   have HG:Hid (r=false):=by unfold Hid;rw [<- HR.out,<- HQ.out,z0];rfl
   clear HQ HR R
   go_enter Tryz.func98,Tryz.ntmps98
   go_wp2_with fail
   go_ret
   exact ⟨ret_bool HG.out.symm,B1⟩
 ·have k1':(k==1)=false:=by simpa using k1
  by_cases k2:k=2
  ·subst k2
   by_cases z0:(sh.length:Int)<=1
   ·have HG:Hid (r =(q==0)):=by unfold Hid;rw [<- HR.out,<- HQ.out,decide_eq_true z0];rfl
    clear HQ HR
    go_enter Tryz.func98,Tryz.ntmps98
    go_wp2_with (go_at_call 117;((with_reducible refine R.mono ?_);rintro e w3 ⟨rfl,b3⟩))
    go_ret
    exact ⟨ret_bool HG.out.symm,Below.then B1 b3⟩
   ·have HG:Hid (r=false):=by unfold Hid;rw [<- HR.out,<- HQ.out,decide_eq_false z0];rfl
    clear HQ HR R
    go_enter Tryz.func98,Tryz.ntmps98
    go_wp2_with fail
    go_ret
    exact ⟨ret_bool HG.out.symm,B1⟩
  ·have k2':(k==2)=false:=by simpa using k2
   have HG:Hid (r=false):=by unfold Hid;rw [<- HR.out,<- HQ.out,k1',k2'];rfl
   clear HQ HR R k1 k2
   go_enter Tryz.func98,Tryz.ntmps98
   go_wp2_with fail
   go_ret
   exact ⟨ret_bool HG.out.symm,B1⟩
theorem zN_mem (w:World):NdM (w.alloc (.cells zNv.toArray 49)) w.heap.size 0 zN:=NdV.mem (zN_at w) _
theorem isZeroP (N:Nd) (b off:Nat) (w:World) (h:NdM w b off N):Calls Tryz.prog 70 #[.pointer (some ⟨b,off,none⟩)] w fun e w'=>e=.returned (.bool (zeroB N))/\Below w.heap.size w w':=by
 obtain ⟨cs,v0,v1,v2,v3,ka,kc,ba,bc,kb,ko,bb,bo,O,hC,lC,G⟩:=h.opn
 obtain ⟨-,g1,-,-,-,-,-,-,-,-,-,-,g12,g13,g14⟩:=id G
 have B1:=below_new w (.cells zNv.toArray 49)
 have C:=sameNodeP b off w.heap.size 0 N zN _ (h.below B1) (zN_mem w)
 unfold zNv at C B1
 obtain ⟨q,hq⟩:∃ q,eqN N zN=q:=⟨_,rfl⟩
 obtain ⟨r,hr⟩:∃ r,zeroB N=r:=⟨_,rfl⟩
 rw [hr]
 rw [hq] at C
 have HQ:Hid ((q&&N.a==0&&N.d==0&&N.s==0&&N.z==0)=r):=by unfold Hid;rw [<- hr,zeroB,hq]
 clear hr hq h O hC G lC
 cases ca:(N.a==0) with
 | false =>
  have HG:Hid (r=false):=by unfold Hid;rw [<- HQ.out,ca];simp
  clear HQ C
  go_enter Tryz.func70,Tryz.ntmps70
  go_wp2_with fail
  go_ret
  exact ⟨ret_bool HG.out.symm,Below.refl _ _⟩
 | true =>
 cases cd:(N.d==0) with
 | false =>
  have HG:Hid (r=false):=by unfold Hid;rw [<- HQ.out,cd];simp
  clear HQ C
  go_enter Tryz.func70,Tryz.ntmps70
  go_wp2_with fail
  go_ret
  exact ⟨ret_bool HG.out.symm,Below.refl _ _⟩
 | true =>
 cases c3:(N.s==0) with
 | false =>
  have HG:Hid (r=false):=by unfold Hid;rw [<- HQ.out,c3];simp
  clear HQ C
  go_enter Tryz.func70,Tryz.ntmps70
  go_wp2_with fail
  go_ret
  exact ⟨ret_bool HG.out.symm,Below.refl _ _⟩
 | true =>
 cases c4:(N.z==0) with
 | false =>
  have HG:Hid (r=false):=by unfold Hid;rw [<- HQ.out,c4];simp
  clear HQ C
  go_enter Tryz.func70,Tryz.ntmps70
  go_wp2_with fail
  go_ret
  exact ⟨ret_bool HG.out.symm,Below.refl _ _⟩
 | true =>
  have HG:Hid (r=q):=by unfold Hid;rw [<- HQ.out,ca,cd,c3,c4];simp
  clear HQ
  go_enter Tryz.func70,Tryz.ntmps70
  go_wp2_with (go_at_call 91;((with_reducible refine C.mono ?_);rintro e w3 ⟨rfl,b3⟩))
  go_ret
  exact ⟨ret_bool HG.out.symm,Below.then B1 b3⟩
def defB (S:St):Bool:=nameB S.n&&decide (0<=S.s)&&zeroB S.te&&(S.nd.c==1 || S.nd.c==2 || S.nd.k==10)
theorem isDefinitionP (S:St) (b off:Nat) (w:World) (h:StM w b off S) (hs:S.n.size<=9223372036854775807) (hT:Tab w):Calls Tryz.prog 71 #[.pointer (some ⟨b,off,none⟩)] w fun e w'=>e=.returned (.bool (defB S))/\Below w.heap.size w w':=by
 obtain ⟨-,-,x2,x3⟩:=h.head
 have I:=isNameP S.n w hs hT
 have Z:=fun w' (g:Below w.heap.size w w')=>isZeroP S.te b (off+4) w' (h.test.below g)
 have HN:=h.node
 obtain ⟨cs,v0,v1,v2,v3,ka,kc,ba,bc,kb,ko,bb,bo,O,hC,lC,G⟩:=HN.opn
 have L:b<w.heap.size:=cell_lt x2
 obtain ⟨r,hr⟩:∃ r,defB S=r:=⟨_,rfl⟩
 obtain ⟨q,hq⟩:∃ q,zeroB S.te=q:=⟨_,rfl⟩
 obtain ⟨m,hm⟩:∃ m,nameB S.n=m:=⟨_,rfl⟩
 rw [hr]
 simp only [hq] at Z
 rw [hm] at I
 have HQ:Hid ((m&&decide (0<=S.s)&&q&&(S.nd.c==1 || S.nd.c==2 || S.nd.k==10))=r):=by unfold Hid;rw [<- hr,defB,hq,hm]
 clear hr hq hm h hT O hC lC HN
 cases m with
 | false =>
  have HG:Hid (r=false):=by unfold Hid;rw [<- HQ.out];rfl
  clear HQ Z G
  go_enter Tryz.func71,Tryz.ntmps71
  go_wp2_with (go_at_call 92;((with_reducible refine I.mono ?_);rintro e w3 ⟨rfl,b3⟩))
  go_ret
  exact ⟨ret_bool HG.out.symm,b3⟩
 | true =>
 by_cases c3:S.s<0
 ·have HG:Hid (r=false):=by unfold Hid;rw [<- HQ.out,decide_eq_false (by omega)];rfl
  clear HQ Z G
  go_enter Tryz.func71,Tryz.ntmps71
  go_wp2_with (go_at_call 92;((with_reducible refine I.mono ?_);rintro e w3 ⟨rfl,b3⟩;(have y3:=(b3.cell (cell_lt x3)).trans x3)))
  go_ret
  exact ⟨ret_bool HG.out.symm,b3⟩
 ·rw [decide_eq_true (by omega:0<=S.s)] at HQ
  cases q with
  | false =>
   have HG:Hid (r=false):=by unfold Hid;rw [<- HQ.out];rfl
   clear HQ G
   go_enter Tryz.func71,Tryz.ntmps71
   go_wp2_with (first |(go_at_call 92;((with_reducible refine I.mono ?_);rintro e w3 ⟨rfl,b3⟩;(have y3:=(b3.cell (cell_lt x3)).trans x3);(have Z3:=Z _ b3))) |(go_at_call 70;((with_reducible refine Z3.mono ?_);rintro e w4 ⟨rfl,b4⟩)))
   go_ret
   exact ⟨ret_bool HG.out.symm,Below.then b3 b4⟩
  | true =>
   have HG:Hid (r =(S.nd.c==1 || S.nd.c==2 || S.nd.k==10)):=by unfold Hid;rw [<- HQ.out];rfl
   clear HQ
   cases d1:(S.nd.c==1) with
   | true =>
    rw [d1] at HG
    go_enter Tryz.func71,Tryz.ntmps71
    go_wp2_with (first |(go_at_call 92;((with_reducible refine I.mono ?_);rintro e w3 ⟨rfl,b3⟩;(have y3:=(b3.cell (cell_lt x3)).trans x3);(have Z3:=Z _ b3))) |(go_at_call 70;((with_reducible refine Z3.mono ?_);rintro e w4 ⟨rfl,b4⟩;(obtain ⟨z0,-,z2,-⟩:=G.below (Below.then b3 b4));clear G)))
    go_ret
    exact ⟨ret_bool HG.out.symm,Below.then b3 b4⟩
   | false =>
   rw [d1] at HG
   cases d2:(S.nd.c==2) with
   | true =>
    rw [d2] at HG
    go_enter Tryz.func71,Tryz.ntmps71
    go_wp2_with (first |(go_at_call 92;((with_reducible refine I.mono ?_);rintro e w3 ⟨rfl,b3⟩;(have y3:=(b3.cell (cell_lt x3)).trans x3);(have Z3:=Z _ b3))) |(go_at_call 70;((with_reducible refine Z3.mono ?_);rintro e w4 ⟨rfl,b4⟩;(obtain ⟨z0,-,z2,-⟩:=G.below (Below.then b3 b4));clear G)))
    go_ret
    exact ⟨ret_bool HG.out.symm,Below.then b3 b4⟩
   | false =>
    rw [d2] at HG
    go_enter Tryz.func71,Tryz.ntmps71
    go_wp2_with (first |(go_at_call 92;((with_reducible refine I.mono ?_);rintro e w3 ⟨rfl,b3⟩;(have y3:=(b3.cell (cell_lt x3)).trans x3);(have Z3:=Z _ b3))) |(go_at_call 70;((with_reducible refine Z3.mono ?_);rintro e w4 ⟨rfl,b4⟩;(obtain ⟨z0,-,z2,-⟩:=G.below (Below.then b3 b4));clear G)))
    go_ret
    exact ⟨ret_bool HG.out.symm,Below.then b3 b4⟩
end Go.Proofs.YtalkinnbfglkdaaGreatDoor.Syn
