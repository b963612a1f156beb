/-
  Layer 10: the program's isLambda and isValid.
  Layer 10: the program's RightNode.
  Layer 10: the program's Right.
  Layer 10: the writer of Show: a list of strings of one's own behind a pointer; add, slices.Contains.
  Layer 10: the program's word. (Written by wip/gen/syn-s2.py.)
  Layer 10: what Show writes, as a list of words; the program's part.
  Layer 10: the writer's method lambda. (Written by wip/gen/syn-s4.py.)
  Layer 10: the writer's method node. (Written by wip/gen/syn-s5.py.)
  Layer 10: the program's Show.
-/
import Derived.Test.YtalkinnbfglkdaaGreatDoorPt36
import Derived.Test.YtalkinnbfglkdaaGreatDoorPt25
import Derived.Test.YtalkinnbfglkdaaGreatDoorPt30
import Derived.Deep.AppendLies
import Derived.Test.YtalkinnbfglkdaaGreatDoorShelf
set_option maxHeartbeats 16000000
namespace Go.Proofs.YtalkinnbfglkdaaGreatDoor.Syn
open Go.RowKit Go.Shelf Go.Maps Go.Proofs.YtalkinnbfglkdaaGreatDoor.Shape
set_option linter.unusedVariables false
set_option linter.unusedSimpArgs false
set_option maxRecDepth 100000
theorem sizK_at:∀ {l:List Nd}{j:Nat}(h:j<l.length),siz l[j]<=sizK l
 | [],_,h=>absurd h (by simp)
 | N::r,0,_=>by simp only [List.getElem_cons_zero,sizK];omega
 | N::r,j+1,h=>by
  have:=sizK_at (l:=r) (j:=j) (by simpa using h)
  simp only [List.getElem_cons_succ,sizK];omega
theorem sizB_at:∀ {l:List St}{j:Nat}(h:j<l.length),sizS l[j]<=sizB l
 | [],_,h=>absurd h (by simp)
 | N::r,0,_=>by simp only [List.getElem_cons_zero,sizB];omega
 | N::r,j+1,h=>by
  have:=sizB_at (l:=r) (j:=j) (by simpa using h)
  simp only [List.getElem_cons_succ,sizB];omega
theorem kid_small (N:Nd) {j:Nat}(h:j<N.ks.length):siz N.ks[j]<siz N/\dep N.ks[j]<dep N:=by
 have h1:=sizK_at h
 have h2:=depK_at h
 rw [siz_eq N,dep_eq N];omega
theorem stmt_small {l:List St}{j:Nat}(h:j<l.length):siz l[j].nd<=sizB l/\dep l[j].nd<=depB l/\(l[j].k=3->siz l[j].te<=sizB l/\dep l[j].te<=depB l):=by
 have h1:=sizB_at h
 have h2:=depB_at' h
 rw [sizS_eq] at h1
 rw [depS_eq] at h2
 refine ⟨by omega,by omega,fun e=>?_⟩
 have e':(l[j].k==3)=true:=by simpa using e
 rw [e',if_pos rfl] at h1 h2
 exact ⟨by omega,by omega⟩
theorem lastK_atP:∀ {l:List St}(h:0<l.length),lastK l =(l[l.length - 1]'(by omega)).k
 | [],h=>absurd h (by simp)
 | [S],_=>by rw [lastK];rfl
 | S::T::r,_=>by
  have:=lastK_atP (l:=T::r) (by simp)
  rw [lastK,this]
  ·rfl
  ·simp
theorem okK_allP {l:List Nd}:okK l=true ↔ ∀ i (h:i<l.length),okN l[i]=true:=by
 induction l with
 | nil=>rw [okK];simp
 | cons S r ih =>
  rw [okK,Bool.and_eq_true,ih]
  constructor
  ·rintro ⟨h1,h2⟩ i hi
   cases i with
   | zero=>exact h1
   | succ i=>exact h2 i (by simpa using hi)
  ·intro h
   exact ⟨h 0 (by simp),fun i hi=>h (i+1) (by simpa using hi)⟩
theorem isLambdaP (r:Nat) (ih:ValidSpec r) (N:Nd) (b off:Nat) (w:World) (hr:rkN N<=r) (h:NdM w b off N) (hT:Tab w) (hs:siz N<=20000) (hd:dep N<=100) :
  Calls Tryz.prog 101 #[.pointer (some ⟨b,off,none⟩)] w fun e w'=>e=.returned (.bool (lamP N))/\Below w.heap.size w w':=by
 obtain ⟨cs,v0,v1,v2,v3,ka,kc,ba,bc,kb,ko,bb,bo,O,hC,lC,G⟩:=h.opn
 obtain ⟨-,-,g2,-,-,-,-,-,-,-,-,g11,-,-,-⟩:=id G
 have hbl:=O.bl
 obtain ⟨R,hR⟩:∃ R,lamP N=R:=⟨_,rfl⟩
 rw [hR]
 have HQ:Hid ((decide (0<N.bd.length)&&lastK N.bd==1&&okB N.bd&&N.c==occCls N)=R):=hR
 clear hR
 by_cases h0:0<N.bd.length
 ·have h0':¬ ((N.bd.length:Int) - 1<0):=by omega
  rw [decide_eq_true h0] at HQ
  have hi:∀ w',(Instr.indexAt 22 (.slice ba N.bd.length bc) (.int .i64 ((N.bd.length:Int) - 1))).run Tryz.prog w'=.ok (.pointer (some ⟨bb,bo+(N.bd.length - 1)*34,none⟩)) w':=by
   have:=stmts_at (ia:=ba) (ic:=bc) (b:=bb) (off:=bo) rfl O.ba (show N.bd.length - 1<N.bd.length by omega)
   rwa [show ((N.bd.length - 1:Nat):Int) =(N.bd.length:Int) - 1 by omega] at this
  have x0:=(O.bat.at (show N.bd.length - 1<N.bd.length by omega)).head.1
  rw [<- lastK_atP h0] at x0
  by_cases hl:lastK N.bd=1
  ·have hl':(lastK N.bd != 1)=false:=by rw [hl];rfl
   have e1:(lastK N.bd==1)=true:=by rw [hl];rfl
   rw [e1] at HQ
   clear e1
   have hB:=fun (j:Nat) (hj:j<N.bd.length)=>stmt_small (l:=N.bd) hj
   have sB:=siz_eq N
   have dB:=dep_eq N
   have K:=isBodyP r ih ba bc bb bo N.bd w (fun j hj=>by have:=rk_body N hj;omega) (fun j hj=>by
    obtain ⟨a1,a2,a3⟩:=hB j hj
    exact ⟨by omega,by omega,fun e=>by have:=a3 e;omega⟩) (by omega) O.ba O.bat hT
   have CC:=fun w' (g:Below w.heap.size w w')=>countsP N b off w' (h.below g) hs hd
   have c2:=fun w' (g:Below w.heap.size w w')=>(g.cell (cell_lt g2)).trans g2
   have L1:=fun (w3:World) m n (k3:KMap w3 m n (fun x=>occ x N))=>k3.look (show I64 13 from ⟨by decide,by decide⟩)
   have L2:=fun (w3:World) m n (k3:KMap w3 m n (fun x=>occ x N))=>k3.look (show I64 12 from ⟨by decide,by decide⟩)
   have o1:occ 13 N<=20000:=by have:=(occ_le 13 (rkN N+1) N (Nat.lt_succ_self _)).1;omega
   have o2:occ 12 N<=20000:=by have:=(occ_le 12 (rkN N+1) N (Nat.lt_succ_self _)).1;omega
   clear hB sB dB O h hC G hT ih hl hr hs hd lC
   cases qb:okB N.bd with
   | false =>
    rw [qb] at K HQ
    have HG:Hid (R=false):=by unfold Hid;rw [<- HQ.out];rfl
    clear HQ CC c2 L1 L2
    go_enter Tryz.func101,Tryz.ntmps101
    go_wp2_with (go_at_call 50;((with_reducible refine K.mono ?_);rintro e w3 ⟨rfl,b3⟩))
    go_ret
    exact ⟨ret_bool HG.out.symm,b3⟩
   | true =>
    rw [qb] at K HQ
    have HK:Hid ((N.c==occCls N)=R):=by unfold Hid;rw [<- HQ.out];rfl
    clear HQ qb
    unfold occCls at HK
    by_cases p1:0<occ 13 N
    ·have p1':(0:Int) <(occ 13 N:Int):=by omega
     have HG:Hid (R =(N.c==4)):=by unfold Hid;rw [<- HK.out,if_pos p1]
     clear HK p1
     obtain ⟨a1,ha1⟩:∃ a,occ 13 N=a:=⟨_,rfl⟩
     simp only [ha1] at L1 p1' o1
     go_enter Tryz.func101,Tryz.ntmps101
     go_wp2_with (first |(go_at_call 50;((with_reducible refine K.mono ?_);rintro e w3 ⟨rfl,b3⟩;(have C3:=CC _ b3))) |(go_at_call 72;((with_reducible refine C3.mono ?_);rintro e w4 ⟨m,n,rfl,b4,-,k4⟩;(have l1:=L1 _ _ _ k4);(have b34:=Below.then b3 b4);(have z2:=c2 _ b34))))
     go_ret
     exact ⟨ret_bool HG.out.symm,b34⟩
    ·have p1':¬ ((0:Int) <(occ 13 N:Int)):=by omega
     by_cases p2:0<occ 12 N
     ·have p2':(0:Int) <(occ 12 N:Int):=by omega
      have HG:Hid (R =(N.c==3)):=by unfold Hid;rw [<- HK.out,if_neg p1,if_pos p2]
      clear HK p1 p2
      obtain ⟨a1,ha1⟩:∃ a,occ 13 N=a:=⟨_,rfl⟩
      simp only [ha1] at L1 p1' o1
      obtain ⟨a2,ha2⟩:∃ a,occ 12 N=a:=⟨_,rfl⟩
      simp only [ha2] at L2 p2' o2
      go_enter Tryz.func101,Tryz.ntmps101
      go_wp2_with (first |(go_at_call 50;((with_reducible refine K.mono ?_);rintro e w3 ⟨rfl,b3⟩;(have C3:=CC _ b3))) |(go_at_call 72;((with_reducible refine C3.mono ?_);rintro e w4 ⟨m,n,rfl,b4,-,k4⟩;(have l1:=L1 _ _ _ k4);(have l2:=L2 _ _ _ k4);(have b34:=Below.then b3 b4);(have z2:=c2 _ b34))))
      go_ret
      exact ⟨ret_bool HG.out.symm,b34⟩
     ·have p2':¬ ((0:Int) <(occ 12 N:Int)):=by omega
      have HG:Hid (R =(N.c==2)):=by unfold Hid;rw [<- HK.out,if_neg p1,if_neg p2]
      clear HK p1 p2
      obtain ⟨a1,ha1⟩:∃ a,occ 13 N=a:=⟨_,rfl⟩
      simp only [ha1] at L1 p1' o1
      obtain ⟨a2,ha2⟩:∃ a,occ 12 N=a:=⟨_,rfl⟩
      simp only [ha2] at L2 p2' o2
      go_enter Tryz.func101,Tryz.ntmps101
      go_wp2_with (first |(go_at_call 50;((with_reducible refine K.mono ?_);rintro e w3 ⟨rfl,b3⟩;(have C3:=CC _ b3))) |(go_at_call 72;((with_reducible refine C3.mono ?_);rintro e w4 ⟨m,n,rfl,b4,-,k4⟩;(have l1:=L1 _ _ _ k4);(have l2:=L2 _ _ _ k4);(have b34:=Below.then b3 b4);(have z2:=c2 _ b34))))
      go_ret
      exact ⟨ret_bool HG.out.symm,b34⟩
  ·have hl':(lastK N.bd != 1)=true:=by simpa using hl
   have e1:(lastK N.bd==1)=false:=by simpa using hl
   have HG:Hid (R=false):=by unfold Hid;rw [<- HQ.out,e1];rfl
   clear HQ e1 hl O h hC G hT ih hr hs hd
   go_enter Tryz.func101,Tryz.ntmps101
   go_wp2_with fail
   go_ret
   exact ⟨ret_bool HG.out.symm,Below.refl _ _⟩
 ·have h0':((N.bd.length:Int) - 1<0):=by omega
  have HG:Hid (R=false):=by unfold Hid;rw [<- HQ.out,decide_eq_false h0];rfl
  clear HQ O h hC G hT ih hr hs hd
  go_enter Tryz.func101,Tryz.ntmps101
  go_wp2_with fail
  go_ret
  exact ⟨ret_bool HG.out.symm,Below.refl _ _⟩
theorem valid_step (r:Nat) (ih:ValidSpec r):ValidSpec (r+1):=by
 intro b off N w hr h hT hs hd
 obtain ⟨cs,v0,v1,v2,v3,ka,kc,ba,bc,kb,ko,bb,bo,O,hC,lC,G⟩:=h.opn
 obtain ⟨-,-,-,-,-,-,-,-,-,-,g10,-⟩:=id G
 have hkl:=O.kl
 obtain ⟨R,hR⟩:∃ R,okN N=R:=⟨_,rfl⟩
 rw [hR]
 have HQ:Hid ((onlyB N&&fitB (lamP N) N&&okK N.ks)=R):=by unfold Hid;rw [<- ok_eq,hR]
 clear hR
 have K1:=onlyP N b off w h
 have K2:=fun w' (g:Below w.heap.size w w')=>fitP N (lamP N) b off w' (h.below g) (hT.below g) (fun _ n=>isLambdaP r ih N b off (w'.drewN n) (by omega) ((h.below g).below ⟨rfl,rfl,rfl,Nat.le_refl _,fun _ _=>rfl⟩) ((hT.below g).below ⟨rfl,rfl,rfl,Nat.le_refl _,fun _ _=>rfl⟩) hs hd)
 cases q1:onlyB N with
 | false =>
  rw [q1] at K1 HQ
  have HG:Hid (R=false):=by unfold Hid;rw [<- HQ.out];rfl
  clear HQ K2 O h hC G hT ih hr hs hd
  go_enter Tryz.func56,Tryz.ntmps56
  go_wp2_with (go_at_call 77;((with_reducible refine K1.mono ?_);rintro e w3 ⟨rfl,b3⟩))
  go_ret
  exact ⟨ret_bool HG.out.symm,b3⟩
 | true =>
  rw [q1] at K1 HQ
  cases q2:fitB (lamP N) N with
  | false =>
   rw [q2] at HQ
   simp only [q2] at K2
   have HG:Hid (R=false):=by unfold Hid;rw [<- HQ.out];rfl
   clear HQ O h hC G hT ih hr hs hd
   go_enter Tryz.func56,Tryz.ntmps56
   go_wp2_with (first |(go_at_call 77;((with_reducible refine K1.mono ?_);rintro e w3 ⟨rfl,b3⟩;(have K3:=K2 _ b3))) |(go_at_call 78;((with_reducible refine K3.mono ?_);rintro e w4 ⟨rfl,b4⟩)))
   go_ret
   exact ⟨ret_bool HG.out.symm,Below.then b3 b4⟩
  | true =>
   rw [q2] at HQ
   simp only [q2] at K2
   have HK:Hid (okK N.ks=R):=by unfold Hid;rw [<- HQ.out];rfl
   clear HQ
   have c10:=fun w' (g:Below w.heap.size w w')=>(g.cell (cell_lt g10)).trans g10
   have IH:=fun j (hj:j<N.ks.length) w' (g:Below w.heap.size w w')=>ih _ _ N.ks[j] w' (by have:=rk_kid N hj;omega) ((NdsAt.below g O.kat).at hj) (hT.below g) (by have:=kid_small N hj;omega) (by have:=kid_small N hj;omega)
   have oka:=O.ka
   clear O h hC G hT ih hr hs hd
   go_enter Tryz.func56,Tryz.ntmps56
   go_wp2_with (first |(go_at_call 77;((with_reducible refine K1.mono ?_);rintro e w3 ⟨rfl,b3⟩;(have K3:=K2 _ b3))) |(go_at_call 78;((with_reducible refine K3.mono ?_);rintro e w4 ⟨rfl,b4⟩;(have b34:=Below.then b3 b4);(have z10:=c10 _ b34);clear K1 K2 K3)))
   go_loopw [17] (fun i wr=>∃ j:Nat,j<=N.ks.length/\i=.int .i64 j/\Below w.heap.size w wr/\∀ i (h:i<N.ks.length),i<j->okN N.ks[i]=true) (fun i _=>N.ks.length - (intOf i).toNat)
   case atStart=>exact ⟨0,Nat.zero_le _,rfl,b34,fun i _ hi=>absurd hi (Nat.not_lt_zero _)⟩
   case round =>
    obtain ⟨j,hj,rfl,hb,he⟩:=hrel
    have HE:Hid (∀ i (h:i<N.ks.length),i<j->okN N.ks[i]=true):=he
    clear he
    by_cases hlt:j<N.ks.length
    ·have hi:=kids_at (ic:=kc) rfl oka hlt
     have y10:=c10 _ hb
     have K:=IH j hlt wr hb
     cases q:okN N.ks[j] with
     | false =>
      rw [q] at K
      have HG:Hid (R=false):=by
       unfold Hid
       rw [<- HK.out,<- Bool.not_eq_true,okK_allP]
       intro h
       rw [h j hlt] at q;cases q
      clear q
      go_wp2_with (go_at_call 56;((with_reducible refine K.mono ?_);rintro e w5 ⟨rfl,b5⟩))
      go_ret
      exact ⟨ret_bool HG.out.symm,Below.then hb b5⟩
     | true =>
      rw [q] at K
      have HC:Hid (okN N.ks[j]=true):=q
      clear q
      go_wp2_with (go_at_call 56;((with_reducible refine K.mono ?_);rintro e w5 ⟨rfl,b5⟩))
      go_roundw
      case rel=>exact ⟨j+1,by omega,by go_num,Below.then hb b5,fun i h1 h2=>by
       by_cases e:i=j
       ·subst e;exact HC.out
       ·exact HE.out i h1 (by omega)⟩
      case measure=>simp [intOf];omega
    ·have HG:Hid (R=true):=by
      unfold Hid
      rw [<- HK.out,okK_allP]
      exact fun i hi=>HE.out i hi (by omega)
     go_wp2_with fail
     go_ret
     exact ⟨ret_bool HG.out.symm,hb⟩
theorem valid_all:∀ r,ValidSpec r
 | 0=>fun b off N w hr=>absurd hr (Nat.not_lt_zero _)
 | r+1=>valid_step r (valid_all r)
theorem validP (N:Nd) (b off:Nat) (w:World) (h:NdM w b off N) (hT:Tab w) (hs:siz N<=20000) (hd:dep N<=100) :
  Calls Tryz.prog 56 #[.pointer (some ⟨b,off,none⟩)] w fun e w'=>e=.returned (.bool (okN N))/\Below w.heap.size w w' :=
 valid_all (rkN N+1) b off N w (Nat.lt_succ_self _) h hT hs hd
def topN (N:Nd):Nd:=.mk 0 0 0 ⟨#[]⟩ 0 0 zA [N] [] 0 0 0
def topB (l:List St):Nd:=.mk 0 0 0 ⟨#[]⟩ 0 0 zA [] l 0 0 0
theorem siz_topN (N:Nd):siz (topN N)=siz N+1:=by unfold topN;rw [siz,sizK,sizK,sizB]
theorem dep_topN (N:Nd):dep (topN N)=dep N+1:=by unfold topN;rw [dep,depK,depK,depB];omega
theorem siz_topB (l:List St):siz (topB l)=sizB l+1:=by unfold topB;rw [siz,sizK];omega
theorem dep_topB (l:List St):dep (topB l)=depB l+1:=by unfold topB;rw [dep,depK];omega
theorem occ_topB (x:Int) (l:List St):occ x (topB l)=occB x l:=by unfold topB;rw [occ,occK];omega
theorem zero_zN:zeroB zN=true:=by
 have e:eqN zN zN=_:=eq_empty 0 ⟨#[]⟩ 0 0 zA [] [] 0 0 0
 unfold zeroB
 rw [e,<- text_nil,ba_yes rfl,eqA_zA];rfl
theorem frozen_new (W:World) (cs:Array Value) (T:TypeId) (n:Nat) (hn:n=W.heap.size):(W.alloc (.cells cs T)).frozen? ⟨n,0,none⟩=false:=by subst hn;simp
theorem dec_sum (a b c d e:Nat):decide (0<a+b+c+d+e) =(decide (0<a) || decide (0<b) || decide (0<c) || decide (0<d) || decide (0<e)):=by
 by_cases h:0<a+b+c+d+e
 ·rw [decide_eq_true h]
  rcases (by omega:0<a∨0<b∨0<c∨0<d∨0<e) with q | q | q | q | q <;> rw [decide_eq_true q] <;> simp
 ·rw [decide_eq_false h,decide_eq_false (by omega),decide_eq_false (by omega),decide_eq_false (by omega),decide_eq_false (by omega),decide_eq_false (by omega)];rfl
theorem need_topB {l:List St}(h:okL l=true) (g:(l.any fun S=>S.k==3)=false):outB l=!needB (topB l):=by
 unfold needB outB
 rw [occ_topB,occ_topB,occ_topB,occ_topB,occ_topB,dec_sum,occB_men (by decide) h,occB_men (by decide) h,occB_men (by decide) h,occB_men (by decide) h,occB_men (by decide) h,g]
 cases menB 6 l <;> cases menB 7 l <;> cases menB 11 l <;> cases menB 12 l <;> cases menB 13 l <;> rfl
/-! The node round another. -/
def topV (a:Option Addr) (n c:Nat):List Value:=[.int .i64 0,.int .i64 0,.int .i64 0,.string ⟨#[]⟩,.int .i64 0,.int .i64 0,.int .i64 0,.slice none 0 0,.slice none 0 0,.slice none 0 0,.slice a n c,.slice none 0 0,.int .i64 0,.int .i64 0,.int .i64 0]
def topW (a:Option Addr) (n c:Nat):List Value:=[.int .i64 0,.int .i64 0,.int .i64 0,.string ⟨#[]⟩,.int .i64 0,.int .i64 0,.int .i64 0,.slice none 0 0,.slice none 0 0,.slice none 0 0,.slice none 0 0,.slice a n c,.int .i64 0,.int .i64 0,.int .i64 0]
theorem run_build_top (a:Option Addr) (n c:Nat) (w:World):(Instr.build 49 #[(7,.slice a n c)]).run Tryz.prog w=.ok (.agg (topV a n c).toArray) w:=by kernel_rfl
theorem run_build_topB (a:Option Addr) (n c:Nat) (w:World):(Instr.build 49 #[(8,.slice a n c)]).run Tryz.prog w=.ok (.agg (topW a n c).toArray) w:=by kernel_rfl
theorem run_slice_node {cs:List Value}(hl:cs.length=15) (w:World):(Instr.buildSlice 47 1 #[(0,.agg cs.toArray)]).run Tryz.prog w=.ok (.slice (some ⟨w.heap.size,0,none⟩) 1 1) (w.alloc (.cells cs.toArray 49)):=by
 obtain ⟨c0,c1,c2,c3,c4,c5,c6,c7,c8,c9,c10,c11,c12,c13,c14,rfl⟩:=list15 hl
 kernel_rfl
theorem wpList_slice_node {ops:Array Oper}{rest:List Oper}{o:Oper}{a:Act}{w:World}{Q:Exit->Act->World->Prop}(hw:Region.wanted o (yielded ops a.tmps)=true) {t:Nat}(ho:o.op=.buildSlice 47 1 #[(0,.tmp t)])
  {cs:List Value}(ht:a.tmps.getD t undef=.agg cs.toArray) (hl:cs.length=15) (hk:wpList Tryz.prog ops Q rest (a.put o.dst (.slice (some ⟨w.heap.size,0,none⟩) 1 1)) (w.alloc (.cells cs.toArray 49))):wpList Tryz.prog ops Q (o::rest) a w:=by
 refine wpList_value hw ?_ hk
 have ev:a.eval (.tmp t)=.agg cs.toArray:=ht
 unfold execOp
 rw [ho]
 have e:=run_slice_node hl w
 simp only [List.map_toArray,List.map_cons,List.map_nil,ev,Sem.run_bind,e,Result.andThen_ok,Sem.run_pure]
theorem wpList_build_top {ops:Array Oper}{rest:List Oper}{o:Oper}{a:Act}{w:World}{Q:Exit->Act->World->Prop}(hw:Region.wanted o (yielded ops a.tmps)=true) {t:Nat}(ho:o.op=.build 49 #[(7,.tmp t)])
  {d:Option Addr}{n c:Nat}(ht:a.tmps.getD t undef=.slice d n c) (hk:wpList Tryz.prog ops Q rest (a.put o.dst (.agg (topV d n c).toArray)) w):wpList Tryz.prog ops Q (o::rest) a w:=by
 refine wpList_value hw ?_ hk
 have ev:a.eval (.tmp t)=.slice d n c:=ht
 unfold execOp
 rw [ho]
 have e:=run_build_top d n c w
 simp only [List.map_toArray,List.map_cons,List.map_nil,ev,Sem.run_bind,e,Result.andThen_ok,Sem.run_pure]
theorem wpList_build_topB {ops:Array Oper}{rest:List Oper}{o:Oper}{a:Act}{w:World}{Q:Exit->Act->World->Prop}(hw:Region.wanted o (yielded ops a.tmps)=true) {t:Nat}(ho:o.op=.build 49 #[(8,.tmp t)])
  {d:Option Addr}{n c:Nat}(ht:a.tmps.getD t undef=.slice d n c) (hk:wpList Tryz.prog ops Q rest (a.put o.dst (.agg (topW d n c).toArray)) w):wpList Tryz.prog ops Q (o::rest) a w:=by
 refine wpList_value hw ?_ hk
 have ev:a.eval (.tmp t)=.slice d n c:=ht
 unfold execOp
 rw [ho]
 have e:=run_build_topB d n c w
 simp only [List.map_toArray,List.map_cons,List.map_nil,ev,Sem.run_bind,e,Result.andThen_ok,Sem.run_pure]
theorem topW_len (a:Option Addr) (n c:Nat):(topW a n c).length=15:=rfl
theorem topV_one (a:Option Addr) (n c:Nat):∀ v∈topV a n c,v.oneCell'=true:=by
 intro v hv;simp only [topV,List.mem_cons,List.not_mem_nil,or_false] at hv
 rcases hv with rfl | rfl | rfl | rfl | rfl | rfl | rfl | rfl | rfl | rfl | rfl | rfl | rfl | rfl | rfl <;> rfl
theorem topW_one (a:Option Addr) (n c:Nat):∀ v∈topW a n c,v.oneCell'=true:=by
 intro v hv;simp only [topW,List.mem_cons,List.not_mem_nil,or_false] at hv
 rcases hv with rfl | rfl | rfl | rfl | rfl | rfl | rfl | rfl | rfl | rfl | rfl | rfl | rfl | rfl | rfl <;> rfl
theorem wpList_store_at {ops:Array Oper}{rest:List Oper}{o:Oper}{a:Act}{w:World}{Q:Exit->Act->World->Prop}(hgd:o.guard=none) {T:TypeId}{p v b:Nat}(ho:o.op=.store T (.tmp p) (.tmp v)) (hp:a.tmps.getD p undef=.pointer (some ⟨b,0,none⟩)) (hb:b=w.heap.size)
  {cs:List Value}(hv:a.tmps.getD v undef=.agg cs.toArray) {z:Array Value}{n:Nat}(hi:(Tryz.prog.info? T).map (·.size)=some n) (hl:cs.length=n) (hz:z.size=n) (h1:∀ v∈cs,v.oneCell'=true)
  (hk:wpList Tryz.prog ops Q rest (a.put o.dst undef) (w.alloc (.cells cs.toArray T))):wpList Tryz.prog ops Q (o::rest) a (w.alloc (.cells z T)):=by
 subst hb
 exact wpList_store_whole hgd ho hp hv hi hl hz h1 hk
theorem top_at {w:World}{cs:List Value}{N:Nd}(h:NdV w cs N) (T U:TypeId):NdM ((w.alloc (.cells cs.toArray T)).alloc (.cells (topV (some ⟨w.heap.size,0,none⟩) 1 1).toArray U)) (w.heap.size+1) 0 (topN N):=by
 have B1:=below_new w (.cells cs.toArray T)
 have k:NdsAt (w.alloc (.cells cs.toArray T)) w.heap.size 0 [N]:=by
  rw [NdsAt]
  exact ⟨⟨cs,cells_new w cs T,h.below B1⟩,by simp,by rw [NdsAt];trivial⟩
 have hs:(w.alloc (.cells cs.toArray T)).heap.size=w.heap.size+1:=by simp
 have:=NdV.mem (w:=w.alloc (.cells cs.toArray T)) (cs:=topV (some ⟨w.heap.size,0,none⟩) 1 1) (N:=topN N) (by
  unfold topN;rw [NdV]
  have z:I64 0:=⟨by decide,by decide⟩
  exact ⟨_,_,_,_,some ⟨w.heap.size,0,none⟩,1,none,0,rfl,⟨z,z,z,z,z,z,z,z⟩,by decide,zA_at _,⟨Nat.le_refl _,by decide⟩,⟨Nat.zero_le _,by decide⟩,⟨w.heap.size,0,fun _=>rfl,k⟩,⟨0,0,fun h=>absurd rfl h,by rw [StsAt];trivial⟩⟩) U
 rw [hs] at this
 exact this
theorem topB_at {w:World}{ba:Option Addr}{bc bb bo:Nat}{l:List St}(ha:l≠[]->ba=some ⟨bb,bo,none⟩) (hat:StsAt w bb bo l) (hl:l.length<=bc/\bc<=9223372036854775807) (U:TypeId):NdM (w.alloc (.cells (topW ba l.length bc).toArray U)) w.heap.size 0 (topB l) :=
 NdV.mem (w:=w) (cs:=topW ba l.length bc) (N:=topB l) (by
  unfold topB;rw [NdV]
  have z:I64 0:=⟨by decide,by decide⟩
  exact ⟨_,_,_,_,none,0,ba,bc,rfl,⟨z,z,z,z,z,z,z,z⟩,by decide,zA_at _,⟨Nat.zero_le _,by decide⟩,hl,⟨0,0,fun h=>absurd rfl h,by rw [NdsAt];trivial⟩,⟨bb,bo,ha,hat⟩⟩) U
theorem right1P (cs:List Value) (S:St) (w:World) (h:StV w cs S):Calls Tryz.prog 49 #[.agg cs.toArray] w fun e w'=>e=.returned (.bool (S.k==3))/\Below w.heap.size w w':=by
 have hM:StM (w.alloc (.cells cs.toArray 53)) w.heap.size 0 S:=⟨cs,cells_new w cs _,h.below (below_new _ _)⟩
 have x0:=hM.head.1
 have BN:=below_new w (.cells cs.toArray 53)
 clear hM h
 go_enter Tryz.func49,Tryz.ntmps49
 go_wp2_with fail
 go_ret
 exact ⟨rfl,BN⟩
def anyG (l:List St):Bool:=l.any fun S=>S.k==3
theorem anyG_at {l:List St}{j:Nat}(h:j<l.length) (e:(l[j].k==3)=true):anyG l=true:=by
 unfold anyG;rw [List.any_eq_true];exact ⟨l[j],List.getElem_mem h,e⟩
theorem anyG_no {l:List St}(h:∀ i (h:i<l.length),(l[i].k==3)=false):anyG l=false:=by
 unfold anyG;rw [List.any_eq_false]
 intro S hS
 obtain ⟨i,hi,rfl⟩:=List.getElem_of_mem hS
 rw [h i hi];exact Bool.false_ne_true
theorem indexGP (ba:Option Addr) (bc bb bo:Nat) (l:List St) (w:World) (hl:l.length<=9223372036854775807) (ha:l≠[]->ba=some ⟨bb,bo,none⟩) (hat:StsAt w bb bo l) :
  Calls Tryz.prog 68 #[.slice ba l.length bc,.func (.func 49) #[] #[]] w fun e w'=>∃ x:Int,e=.returned (.int .i64 x)/\decide (0<=x)=anyG l/\-1<=x/\x<=9223372036854775807/\Below w.heap.size w w':=by
 go_enter Tryz.func68,Tryz.ntmps68
 go_wp2_with fail
 go_loopw [8] (fun i wr=>∃ j:Nat,j<=l.length/\i=.int .i64 j/\Below w.heap.size w wr/\∀ i (h:i<l.length),i<j->(l[i].k==3)=false) (fun i _=>l.length - (intOf i).toNat)
 case atStart=>exact ⟨0,Nat.zero_le _,rfl,Below.refl _ _,fun i _ hi=>absurd hi (Nat.not_lt_zero _)⟩
 case round =>
  obtain ⟨j,hj,rfl,hb,he⟩:=hrel
  have HE:Hid (∀ i (h:i<l.length),i<j->(l[i].k==3)=false):=he
  clear he
  by_cases hlt:j<l.length
  ·have hi:=stmts_at (ic:=bc) rfl ha hlt
   obtain ⟨cs,hc,hS⟩:=(StsAt.below hb hat).at hlt
   have lS:=hS.len
   have K:=right1P cs l[j] wr hS
   cases q:(l[j].k==3) with
   | true =>
    rw [q] at K
    have HG:Hid (anyG l=true):=anyG_at hlt q
    clear q hS
    go_wp2_with (first |((with_reducible show wpList _ _ _ ({ dst:=_,op:=Op.load 53 _,type:=_,pos:=_,after:=_,guard:=none }::_) _ _);refine wpList_load_stmt rfl rfl rfl hc lS ?_) |(go_at_call 49;((with_reducible refine K.mono ?_);rintro e w3 ⟨rfl,b3⟩)))
    go_ret
    exact ⟨_,rfl,by rw [HG.out,decide_eq_true (by omega)],by omega,by omega,Below.then hb b3⟩
   | false =>
    rw [q] at K
    have HC:Hid ((l[j].k==3)=false):=q
    clear q hS
    go_wp2_with (first |((with_reducible show wpList _ _ _ ({ dst:=_,op:=Op.load 53 _,type:=_,pos:=_,after:=_,guard:=none }::_) _ _);refine wpList_load_stmt rfl rfl rfl hc lS ?_) |(go_at_call 49;((with_reducible refine K.mono ?_);rintro e w3 ⟨rfl,b3⟩)))
    go_roundw
    case rel=>exact ⟨j+1,by omega,by go_num,Below.then hb b3,fun i h1 h2=>by
     by_cases e:i=j
     ·subst e;exact HC.out
     ·exact HE.out i h1 (by omega)⟩
    case measure=>simp [intOf];omega
  ·have HG:Hid (anyG l=false):=anyG_no (fun i hi=>HE.out i hi (by omega))
   go_wp2_with fail
   go_ret
   exact ⟨-1,rfl,by rw [HG.out];decide,by decide,by decide,hb⟩
theorem containsGP (ba:Option Addr) (bc bb bo:Nat) (l:List St) (w:World) (hl:l.length<=9223372036854775807) (ha:l≠[]->ba=some ⟨bb,bo,none⟩) (hat:StsAt w bb bo l) :
  Calls Tryz.prog 48 #[.slice ba l.length bc,.func (.func 49) #[] #[]] w fun e w'=>e=.returned (.bool (anyG l))/\Below w.heap.size w w':=by
 have K:=indexGP ba bc bb bo l w hl ha hat
 obtain ⟨r,hr⟩:∃ r,anyG l=r:=⟨_,rfl⟩
 rw [hr] at K ⊢
 clear hr hat
 go_enter Tryz.func48,Tryz.ntmps48
 go_wp2_with (go_at_call 68;((with_reducible refine K.mono ?_);rintro e w3 ⟨x,rfl,hx,hx1,hx2,b3⟩;(have HX:Hid (decide (0<=x)=r):=hx);clear hx))
 go_ret
 exact ⟨ret_bool HX.out,b3⟩
def RpR (l:List St) (x:Int):Prop:=(x=0 ↔ rightBE l=0)/\(sizB l<=16384->x=rightBE l)
theorem rp_long {l:List St}(h:1000<l.length):RpR l 2:=by
 unfold RpR rightBE;rw [if_pos h];exact ⟨Iff.rfl,fun _=>rfl⟩
theorem rp_ext {l:List St}{x:Int}(hl:¬ 1000<l.length) (h:ExtR (topB l) x) (hx:¬ x=0):RpR l x:=by
 obtain ⟨h1,h2,h3⟩:=h
 rw [siz_topB] at h1 h2
 rw [dep_topB] at h1 h2
 unfold RpR rightBE
 rw [if_neg hl]
 by_cases d:60<depB l
 ·rw [if_pos d]
  refine ⟨⟨fun e=>absurd e hx,fun e=>absurd e (by decide)⟩,fun q=>?_⟩
  rw [h1 (by omega),if_pos (by omega)]
 ·rw [if_neg d]
  have h2':=h2 (by omega)
  by_cases s:16384<sizB l
  ·rw [if_pos s];rw [if_pos (by omega)] at h2'
   exact ⟨⟨fun e=>absurd e hx,fun e=>absurd e (by decide)⟩,fun q=>by omega⟩
  ·rw [if_neg (by omega)] at h2';exact absurd h2' hx
theorem rp_rest {l:List St}(hl:¬ 1000<l.length) (h:ExtR (topB l) 0) (r:Int) (hr:r=if okB l=true/\outB l=true then 0 else 11):RpR l r:=by
 obtain ⟨h1,h2,h3⟩:=h
 obtain ⟨h3,h4⟩:=h3 rfl
 rw [siz_topB] at h3
 rw [dep_topB] at h4
 have e:r=rightBE l:=by unfold rightBE;rw [if_neg hl,if_neg (by omega),if_neg (by omega)];exact hr
 exact ⟨by rw [e],fun _=>e⟩
theorem out_guard {l:List St}(h:anyG l=true):outB l=false:=by
 unfold outB;unfold anyG at h;rw [h];rfl
theorem rightP (ba:Option Addr) (bc bb bo:Nat) (l:List St) (w:World) (hl:l.length<=bc/\bc<=9223372036854775807) (ha:l≠[]->ba=some ⟨bb,bo,none⟩) (hat:StsAt w bb bo l) (hT:Tab w) (hs:sizB l<=2000000) :
  Calls Tryz.prog 31 #[.agg #[.slice ba l.length bc]] w fun e w'=>∃ x:Int,e=.returned (.int .i64 x)/\RpR l x/\Below w.heap.size w w':=by
 have B1:=below_new w (.cells #[.slice ba l.length bc] 24)
 by_cases hn:1000<l.length
 ·have HG:Hid (RpR l 2):=rp_long hn
  have hn':(1000:Int) <(l.length:Int):=by omega
  clear hat hT hs
  go_enter Tryz.func31,Tryz.ntmps31
  go_wp2_with fail
  go_ret
  exact ⟨2,rfl,HG.out,B1⟩
 ·have HN:Hid (¬ 1000<l.length):=hn
  have hn':¬ (1000:Int) <(l.length:Int):=by omega
  have T:=topB_at ha (StsAt.below B1 hat) hl 49
  have B2:=Below.then B1 (below_new _ (.cells (topW ba l.length bc).toArray 49))
  rw [show (w.alloc (.cells #[.slice ba l.length bc] 24)).heap.size=w.heap.size+1 by simp] at T
  have E:=extP (topB l) (w.heap.size+1) 0 _ T (frozen_new _ _ _ _ (by simp)) (by rw [siz_topB];omega)
  have c0:((w.alloc (.cells #[.slice ba l.length bc] 24)).alloc (.cells (topW ba l.length bc).toArray 49)).cell? ⟨w.heap.size,0,none⟩=some (.slice ba l.length bc) :=
   ((below_new _ _).cell (by simp)).trans (by simp)
  have E:=E.mono (R':=fun e w'=>∃ x:Int,e=.returned (.int .i64 x)/\ExtR (topB l) x/\Below w.heap.size w w'/\w'.cell? ⟨w.heap.size,0,none⟩=some (.slice ba l.length bc)/\NdM w' (w.heap.size+1) 0 (topB l)) (by
   rintro e w' ⟨x,h1,h2,h3⟩
   exact ⟨x,h1,h2,Below.then B2 h3,(h3.cell (cell_lt c0)).trans c0,T.below h3⟩)
  have GG:=fun w' (g:Below w.heap.size w w')=>containsGP ba bc bb bo l w' (by omega) ha (StsAt.below g hat)
  have VV:=fun w' (g:Below w.heap.size w w') (q:sizB l<=20000/\depB l<=100)=>isBodyP (rkB l+1) (valid_all _) ba bc bb bo l w' (fun j hj=>by have:=rkB_at hj;have:=rkN_pos l[j].te;have:=rkN_pos l[j].nd;omega) (fun j hj=>by
   obtain ⟨a1,a2,a3⟩:=stmt_small hj
   exact ⟨by omega,by omega,fun e=>by have:=a3 e;omega⟩) (by omega) ha (StsAt.below g hat) (hT.below g)
  have NN:=fun w' (m:NdM w' (w.heap.size+1) 0 (topB l))=>needP (topB l) (w.heap.size+1) 0 w' m
  obtain ⟨P,hP⟩:∃ P,anyG l=P:=⟨_,rfl⟩
  have HP:Hid (anyG l=P):=hP
  obtain ⟨V,hV⟩:∃ V,okB l=V:=⟨_,rfl⟩
  have HV:Hid (okB l=V):=hV
  obtain ⟨U,hU⟩:∃ U,needB (topB l)=U:=⟨_,rfl⟩
  have HU:Hid (needB (topB l)=U):=hU
  simp only [hP] at GG
  simp only [hV] at VV
  simp only [hU] at NN
  have SD:Hid (ExtR (topB l) 0->sizB l<=16384/\depB l<=60):=fun h=>by
   have:=h.2.2 rfl;rw [siz_topB,dep_topB] at this;omega
  have oV:=topW_one ba l.length bc
  have lV:=topW_len ba l.length bc
  clear hV hU hP T hT hs hat c0
  have SD1:∀ x,ExtR (topB l) x->x=0->sizB l<=20000/\depB l<=100:=fun x h e=>by subst e;have:=SD.out h;omega
  have SD3:∀ x,ExtR (topB l) x->x=0->siz (topB l)<=20000:=fun x h e=>by subst e;have:=SD.out h;rw [siz_topB];omega
  have SD4:∀ x,ExtR (topB l) x->x=0->dep (topB l)<=100:=fun x h e=>by subst e;have:=SD.out h;rw [dep_topB];omega
  have X1:∀ x,ExtR (topB l) x->(x != 0)=true->RpR l x:=fun x h e=>rp_ext HN.out h (by simpa using e)
  have X2:∀ x r,ExtR (topB l) x->x=0->(r=if okB l=true/\outB l=true then 0 else 11)->RpR l r:=fun x r h e q=>by subst e;exact rp_rest HN.out h r q
  cases P with
  | true =>
   have HR:Hid ((11:Int)=if okB l=true/\outB l=true then 0 else 11):=by unfold Hid;rw [if_neg (by rw [out_guard HP.out];simp)]
   clear HV HU HP hn
   go_enter Tryz.func31,Tryz.ntmps31
   go_wp2_with (first |((with_reducible show wpList _ _ _ ({ dst:=_,op:=Op.build 49 _,type:=_,pos:=_,after:=_,guard:=none }::_) _ _);refine wpList_build_topB rfl rfl rfl ?_) |((with_reducible show wpList _ _ _ ({ dst:=_,op:=Op.store 49 _ _,type:=_,pos:=_,after:=_,guard:=none }::_) _ _);refine wpList_store_at rfl rfl rfl (by simp) rfl infoNode lV rfl oV ?_) |(go_at_call 47;((with_reducible refine E.mono ?_);rintro e w4 ⟨x,rfl,hx,b4,c4,t4⟩;(have G4:=GG _ b4);(have N4:=NN _ t4);(have hx0:(x=0/\(x != 0)=false)∨(x != 0)=true:=by cases q:(x != 0) with | true=>exact Or.inr rfl | false=>exact Or.inl ⟨by simpa using q,rfl⟩);rcases hx0 with ⟨x0,hx0⟩ | hx0)) |(go_at_call 48;((with_reducible refine G4.mono ?_);rintro e w5 ⟨rfl,b5⟩;(have b45:=Below.then b4 b5);(have c5:=(b5.cell (cell_lt c4)).trans c4);(have V5:=VV _ b45 (SD1 _ hx x0)))) |(go_at_call 50;((with_reducible refine V5.mono ?_);rintro e w6 ⟨rfl,b6⟩;(have N6:=NN _ ((t4.below b5).below b6) (SD3 _ hx x0) (SD4 _ hx x0)))) |(go_at_call 51;((with_reducible refine N6.mono ?_);rintro e w7 ⟨rfl,b7⟩)))
   all_goals go_ret
   ·exact ⟨11,rfl,X2 _ _ hx x0 HR.out,b45⟩
   ·exact ⟨_,rfl,X1 _ hx hx0,b4⟩
  | false =>
  cases V with
  | false =>
   have HR:Hid ((11:Int)=if okB l=true/\outB l=true then 0 else 11):=by unfold Hid;rw [if_neg (by rw [HV.out];simp)]
   clear HV HU HP hn
   go_enter Tryz.func31,Tryz.ntmps31
   go_wp2_with (first |((with_reducible show wpList _ _ _ ({ dst:=_,op:=Op.build 49 _,type:=_,pos:=_,after:=_,guard:=none }::_) _ _);refine wpList_build_topB rfl rfl rfl ?_) |((with_reducible show wpList _ _ _ ({ dst:=_,op:=Op.store 49 _ _,type:=_,pos:=_,after:=_,guard:=none }::_) _ _);refine wpList_store_at rfl rfl rfl (by simp) rfl infoNode lV rfl oV ?_) |(go_at_call 47;((with_reducible refine E.mono ?_);rintro e w4 ⟨x,rfl,hx,b4,c4,t4⟩;(have G4:=GG _ b4);(have N4:=NN _ t4);(have hx0:(x=0/\(x != 0)=false)∨(x != 0)=true:=by cases q:(x != 0) with | true=>exact Or.inr rfl | false=>exact Or.inl ⟨by simpa using q,rfl⟩);rcases hx0 with ⟨x0,hx0⟩ | hx0)) |(go_at_call 48;((with_reducible refine G4.mono ?_);rintro e w5 ⟨rfl,b5⟩;(have b45:=Below.then b4 b5);(have c5:=(b5.cell (cell_lt c4)).trans c4);(have V5:=VV _ b45 (SD1 _ hx x0)))) |(go_at_call 50;((with_reducible refine V5.mono ?_);rintro e w6 ⟨rfl,b6⟩;(have N6:=NN _ ((t4.below b5).below b6) (SD3 _ hx x0) (SD4 _ hx x0)))) |(go_at_call 51;((with_reducible refine N6.mono ?_);rintro e w7 ⟨rfl,b7⟩)))
   all_goals go_ret
   ·exact ⟨11,rfl,X2 _ _ hx x0 HR.out,Below.then b45 b6⟩
   ·exact ⟨_,rfl,X1 _ hx hx0,b4⟩
  | true =>
   have HO:=need_topB (show okL l=true from by have:=HV.out;unfold okB at this;simp only [Bool.and_eq_true] at this;exact this.1.2) HP.out
   rw [HU.out] at HO
   cases U with
   | true =>
    have HR:Hid ((11:Int)=if okB l=true/\outB l=true then 0 else 11):=by unfold Hid;rw [if_neg (by rw [HO];simp)]
    clear HV HU HO HP hn
    go_enter Tryz.func31,Tryz.ntmps31
    go_wp2_with (first |((with_reducible show wpList _ _ _ ({ dst:=_,op:=Op.build 49 _,type:=_,pos:=_,after:=_,guard:=none }::_) _ _);refine wpList_build_topB rfl rfl rfl ?_) |((with_reducible show wpList _ _ _ ({ dst:=_,op:=Op.store 49 _ _,type:=_,pos:=_,after:=_,guard:=none }::_) _ _);refine wpList_store_at rfl rfl rfl (by simp) rfl infoNode lV rfl oV ?_) |(go_at_call 47;((with_reducible refine E.mono ?_);rintro e w4 ⟨x,rfl,hx,b4,c4,t4⟩;(have G4:=GG _ b4);(have N4:=NN _ t4);(have hx0:(x=0/\(x != 0)=false)∨(x != 0)=true:=by cases q:(x != 0) with | true=>exact Or.inr rfl | false=>exact Or.inl ⟨by simpa using q,rfl⟩);rcases hx0 with ⟨x0,hx0⟩ | hx0)) |(go_at_call 48;((with_reducible refine G4.mono ?_);rintro e w5 ⟨rfl,b5⟩;(have b45:=Below.then b4 b5);(have c5:=(b5.cell (cell_lt c4)).trans c4);(have V5:=VV _ b45 (SD1 _ hx x0)))) |(go_at_call 50;((with_reducible refine V5.mono ?_);rintro e w6 ⟨rfl,b6⟩;(have N6:=NN _ ((t4.below b5).below b6) (SD3 _ hx x0) (SD4 _ hx x0)))) |(go_at_call 51;((with_reducible refine N6.mono ?_);rintro e w7 ⟨rfl,b7⟩)))
    all_goals go_ret
    ·exact ⟨11,rfl,X2 _ _ hx x0 HR.out,Below.then b45 (Below.then b6 b7)⟩
    ·exact ⟨_,rfl,X1 _ hx hx0,b4⟩
   | false =>
    have HR:Hid ((0:Int)=if okB l=true/\outB l=true then 0 else 11):=by unfold Hid;rw [if_pos ⟨HV.out,by rw [HO];rfl⟩]
    clear HV HU HO HP hn
    go_enter Tryz.func31,Tryz.ntmps31
    go_wp2_with (first |((with_reducible show wpList _ _ _ ({ dst:=_,op:=Op.build 49 _,type:=_,pos:=_,after:=_,guard:=none }::_) _ _);refine wpList_build_topB rfl rfl rfl ?_) |((with_reducible show wpList _ _ _ ({ dst:=_,op:=Op.store 49 _ _,type:=_,pos:=_,after:=_,guard:=none }::_) _ _);refine wpList_store_at rfl rfl rfl (by simp) rfl infoNode lV rfl oV ?_) |(go_at_call 47;((with_reducible refine E.mono ?_);rintro e w4 ⟨x,rfl,hx,b4,c4,t4⟩;(have G4:=GG _ b4);(have N4:=NN _ t4);(have hx0:(x=0/\(x != 0)=false)∨(x != 0)=true:=by cases q:(x != 0) with | true=>exact Or.inr rfl | false=>exact Or.inl ⟨by simpa using q,rfl⟩);rcases hx0 with ⟨x0,hx0⟩ | hx0)) |(go_at_call 48;((with_reducible refine G4.mono ?_);rintro e w5 ⟨rfl,b5⟩;(have b45:=Below.then b4 b5);(have c5:=(b5.cell (cell_lt c4)).trans c4);(have V5:=VV _ b45 (SD1 _ hx x0)))) |(go_at_call 50;((with_reducible refine V5.mono ?_);rintro e w6 ⟨rfl,b6⟩;(have N6:=NN _ ((t4.below b5).below b6) (SD3 _ hx x0) (SD4 _ hx x0)))) |(go_at_call 51;((with_reducible refine N6.mono ?_);rintro e w7 ⟨rfl,b7⟩)))
    all_goals go_ret
    ·exact ⟨0,rfl,X2 _ _ hx x0 HR.out,Below.then b45 (Below.then b6 b7)⟩
    ·exact ⟨_,rfl,X1 _ hx hx0,b4⟩
theorem infoStrS:(Tryz.prog.info? 9).map (fun i=>(i.zero,i.size,i.bytes))=some (some (.string ⟨#[]⟩),1,16):=by kernel_rfl
def OwnS (B:Nat) (w:World) (v:Value) (l:List ByteArray):Prop:=w.ownsRow B 9 1 v l.length (l.map Value.string)
theorem OwnS.but {B b:Nat}{w w':World}{v:Value}{l:List ByteArray}(h:OwnS B w v l) (hb:w.grownBy w' (some b)) (hlt:b<B):OwnS B w' v l:=by
 refine World.ownsRow.kept (row:=some b) h hb ?_
 rcases hv:v.ownBlock with _ | g
 ·exact Or.inl rfl
 ·right
  have:=(World.ownsRow.lt h g hv).1
  intro e
  injection e with e
  omega
theorem OwnS.below {B:Nat}{w w':World}{v:Value}{l:List ByteArray}(h:OwnS B w v l) (hb:Below w.heap.size w w'):OwnS B w' v l :=
 World.ownsRow.kept (row:=none) h ⟨hb.os,hb.tape,hb.output,hb.size,fun k hk _=>hb.block k hk⟩ (Classical.em _)
theorem OwnS.grown {B:Nat}{w w':World}{v:Value}{l:List ByteArray}(h:OwnS B w v l) (hg:w.grownBy w' v.ownBlock) (hB:B<=w.heap.size):Below B w w' :=
 ⟨hg.os,hg.tape,hg.output,hg.size,fun k hk=>hg.block k (by omega) (fun e=>by have:=(World.ownsRow.lt h k e.symm).1;omega)⟩
theorem OwnS.form {B:Nat}{w:World}{v:Value}{l:List ByteArray}(h:OwnS B w v l):∃ a c,v=.slice a l.length c:=by
 rcases h.2 with ⟨rfl,hn⟩ |⟨g,cap,cur,rfl,-⟩
 ·exact ⟨none,0,by rw [hn]⟩
 ·exact ⟨_,_,rfl⟩
theorem grown_set (w:World) (P:Nat) (v:Value):w.grownBy (w.setCell ⟨P,0,none⟩ v) (some P) :=
 ⟨rfl,rfl,rfl,by simp [World.setCell],fun k _ hk=>Below.heap_setCell _ _ _ _ (fun e=>hk (by rw [e]))⟩
def Wr (w:World) (P:Nat) (l:List ByteArray):Prop:=∃ v,w.cell? ⟨P,0,none⟩=some v/\w.frozen? ⟨P,0,none⟩=false/\OwnS (P+1) w v l
theorem Wr.lt {w:World}{P:Nat}{l:List ByteArray}(h:Wr w P l):P<w.heap.size:=by obtain ⟨v,h,-⟩:=h;exact cell_lt h
theorem Wr.below {w w':World}{P:Nat}{l:List ByteArray}(h:Wr w P l) (hb:Below w.heap.size w w'):Wr w' P l:=by
 obtain ⟨v,h1,h2,h3⟩:=h
 exact ⟨v,(hb.cell (cell_lt h1)).trans h1,(hb.frozen (p:=⟨P,0,none⟩) (cell_lt h1)).trans h2,h3.below hb⟩
def Words (w:World) (b:Nat) (m:List ByteArray):Prop:=∀ j u,(m.map Value.string)[j]?=some u->w.cell? ((⟨b,0,none⟩:Addr).add j)=some u
theorem Words.new (w:World) (m:List ByteArray) (T:TypeId):Words (w.alloc (.cells (m.map Value.string).toArray T)) w.heap.size m:=by
 intro j u hj
 have hadd:(⟨w.heap.size,0,none⟩:Addr).add j =⟨w.heap.size,j,none⟩:=by unfold Addr.add;split <;> simp_all
 rw [hadd,World.cell?_alloc_new]
 simpa using hj
theorem str_one (l:List ByteArray):∀ u∈l.map Value.string,u.oneCell'=true:=by
 intro u hu
 obtain ⟨x,-,rfl⟩:=List.mem_map.1 hu
 rfl
theorem wpList_words {ops:Array Oper}{rest:List Oper}{o:Oper}{a:Act}{w:World}{Q:Exit->Act->World->Prop}(hgd:o.guard=none) (s x:Operand)
  (ho:o.op=.call { callee:=.builtin .append,args:=#[s,x],argTypes:=#[100,100] }) (B:Nat)
  (v:Value) (hs:a.eval s=v) (l:List ByteArray) (hown:OwnS B w v l) (hB:B<=w.heap.size) (b c:Nat) (m:List ByteArray) (n:Nat) (hn:n=m.length) (hx:a.eval x=.slice (some ⟨b,0,none⟩) n c) (hm:Words w b m)
  (hl:l.length+m.length<=4000000)
  (h:∀ v' w',OwnS B w' v' (l++m)->Below B w w'->wpList Tryz.prog ops Q rest (a.put o.dst v') w') :
  wpList Tryz.prog ops Q (o::rest) a w:=by
 subst hn
 obtain ⟨i0,hi,hz0,hz1,hz2⟩:=info_parts infoStrS
 refine wpList_append_own _ hgd _ _ 100 ho B 9 i0 _ 1 16 Tryz.underlying100 hi hz0 hz1 hz2 rfl (by decide) v l.length (l.map Value.string) hs hown ⟨b,0,none⟩ m.length c (m.map Value.string) hx (by simp) hm (str_one m) (by unfold maxLen;omega) (by omega) hB ?_
 intro v' w' hown' hgrow _
 refine h v' w' ?_ (hown.grown hgrow hB)
 rw [OwnS,List.length_append,List.map_append]
 exact hown'
def WrOut (P:Nat) (w:World) (l:List ByteArray) (e:Ending) (w':World):Prop:=e=.returned (.tuple #[])/\Below P w w'/\Wr w' P l
theorem addP (P:Nat) (l m:List ByteArray) (b c n:Nat) (w:World) (h:Wr w P l) (hn:n=m.length) (hm:Words w b m) (hl:l.length+m.length<=4000000) :
  Calls Tryz.prog 81 #[.pointer (some ⟨P,0,none⟩),.slice (some ⟨b,0,none⟩) n c] w (WrOut P w (l++m)):=by
 have hlt:=h.lt
 obtain ⟨v,h1,h2,h3⟩:=h
 go_enter Tryz.func81,Tryz.ntmps81
 go_wp2_with ((with_reducible show wpList _ _ _ ({ dst:=_,op:=Op.call { callee:=Callee.builtin Builtin.append,args:=_,argTypes:=_ },type:=_,pos:=_,after:=_,guard:=none }::_) _ _);refine wpList_words rfl _ _ rfl (P+1) v rfl l h3 hlt b c m n hn rfl hm hl ?_;intro v2 w2 o2 b2;obtain ⟨a2,k2,rfl⟩:=o2.form;have o3:=(show OwnS (P+1) w2 (.slice a2 (l.length+m.length) k2) (l++m) from by rw [<- List.length_append];exact o2);have c2:=(b2.cell (p:=⟨P,0,none⟩) (Nat.lt_succ_self _)).trans h1;have f2:=(b2.frozen (p:=⟨P,0,none⟩) (Nat.lt_succ_self _)).trans h2)
 refine bodyPost_ret (results_none rfl _ _ _) rfl ?_
 refine ⟨rfl,Below.setCell (b2.mono (Nat.le_succ _)) (Nat.le_refl _) _,?_⟩
 refine ⟨_,World.cell?_setCell_same _ _ _ c2,?_,o3.but (grown_set _ _ _) (Nat.lt_succ_self _)⟩
 simpa using f2
theorem elemKin:Tryz.prog.underlying 148=some (.slice (Tryz.prog.elem 148)):=by kernel_rfl
theorem sizeKin (w:World):(sizeOf (Tryz.prog.elem 148)).run Tryz.prog w=.ok 1 w:=by kernel_rfl
theorem kinds_at {w:World}{a:Option Addr}{cap:Nat}{xs:List Int}(h:IntsAt w a cap xs) {k:Nat}(hk:k<xs.length) :
  ∃ b off:Nat,(∀ w':World,(Instr.indexAt 148 (.slice a xs.length cap) (.int .i64 k)).run Tryz.prog w'=.ok (.pointer (some ⟨b,off+k,none⟩)) w')/\w.cell? ⟨b,off+k,none⟩=some (.int .i64 xs[k]):=by
 obtain ⟨h1,h2,h3,b,off,ha,hc⟩:=h
 have hne:xs≠[]:=by intro e;subst e;simp at hk
 have e:=ha hne
 subst e
 refine ⟨b,off,fun w'=>?_,hc k hk⟩
 rw [run_indexAt_slice w' _ _ _ _ .i64 k elemKin,if_pos (by omega),sizeKin]
 show Result.ok _ w'=_
 unfold Addr.add
 simp
def hasB (l:List Int) (x:Int):Bool:=l.any fun y=>y==x
theorem indexKP (a:Option Addr) (cap:Nat) (l:List Int) (x:Int) (w:World) (h:IntsAt w a cap l) :
  Calls Tryz.prog 121 #[.slice a l.length cap,.int .i64 x] w fun e w'=>∃ r:Int,e=.returned (.int .i64 r)/\decide (0<=r)=hasB l x/\w=w':=by
 have hl:=h.len
 have hcp:=h.2.1
 go_enter Tryz.func121,Tryz.ntmps121
 go_wp2_with fail
 go_loopw [8] (fun i wr=>∃ j:Nat,j<=l.length/\i=.int .i64 j/\w=wr/\∀ i (h:i<l.length),i<j->(l[i]==x)=false) (fun i _=>l.length - (intOf i).toNat)
 case atStart=>exact ⟨0,Nat.zero_le _,rfl,rfl,fun i _ hi=>absurd hi (Nat.not_lt_zero _)⟩
 case round =>
  obtain ⟨j,hj,rfl,rfl,he⟩:=hrel
  have HE:Hid (∀ i (h:i<l.length),i<j->(l[i]==x)=false):=he
  clear he
  by_cases hlt:j<l.length
  ·obtain ⟨b2,off2,hi2,hc2⟩:=kinds_at (h:IntsAt w a cap l) hlt
   cases q:(l[j]==x) with
   | true =>
    have q':(x==l[j])=true:=beq_iff_eq.2 (beq_iff_eq.1 q).symm
    have HG:Hid (hasB l x=true):=by unfold Hid hasB;rw [List.any_eq_true];exact ⟨l[j],List.getElem_mem hlt,q⟩
    clear q
    go_wp2_with fail
    go_ret
    exact ⟨_,rfl,by rw [HG.out,decide_eq_true (by omega)],rfl⟩
   | false =>
    have q':(x==l[j])=false:=beq_eq_false_iff_ne.2 (fun e=>(beq_eq_false_iff_ne.1 q) e.symm)
    have HC:Hid ((l[j]==x)=false):=q
    clear q
    go_wp2_with fail
    go_roundw
    case rel=>exact ⟨j+1,by omega,by go_num,trivial,fun i h1 h2=>by
     by_cases e:i=j
     ·subst e;exact HC.out
     ·exact HE.out i h1 (by omega)⟩
    case measure=>simp [intOf];omega
  ·have HG:Hid (hasB l x=false):=by
    unfold Hid hasB;rw [List.any_eq_false]
    intro y hy
    obtain ⟨i,hi,rfl⟩:=List.getElem_of_mem hy
    rw [HE.out i hi (by omega)];exact Bool.false_ne_true
   go_wp2_with fail
   go_ret
   refine ⟨-1,?_,?_,?_⟩
   ·rfl
   ·rw [HG.out];decide
   ·rfl
theorem containsKP (a:Option Addr) (cap n:Nat) (l:List Int) (x:Int) (w:World) (hn:n=l.length) (h:IntsAt w a cap l) :
  Calls Tryz.prog 105 #[.slice a n cap,.int .i64 x] w fun e w'=>e=.returned (.bool (hasB l x))/\w=w':=by
 subst hn
 have K:=indexKP a cap l x w h
 obtain ⟨r,hr⟩:∃ r,hasB l x=r:=⟨_,rfl⟩
 rw [hr] at K ⊢
 clear hr h
 go_enter Tryz.func105,Tryz.ntmps105
 go_wp2_with (go_at_call 121;((with_reducible refine K.mono ?_);rintro e w3 ⟨y,rfl,hx,rfl⟩;(have HX:Hid (decide (0<=y)=r):=hx);clear hx))
 go_ret
 exact ⟨ret_bool HX.out,rfl⟩
theorem arrPT2:Tryz.prog.underlying 151=some (.array (Tryz.prog.arrayLen 151) (Tryz.prog.elem 151)):=by kernel_rfl
theorem arrOT2:Tryz.prog.underlying 152=some (.array (Tryz.prog.arrayLen 152) (Tryz.prog.elem 152)):=by kernel_rfl
theorem lenPT:Tryz.prog.arrayLen 151=56:=by kernel_rfl
theorem lenOT:Tryz.prog.arrayLen 152=12:=by kernel_rfl
theorem elPT (w:World):(sizeOf (Tryz.prog.elem 151)).run Tryz.prog w=.ok 1 w:=by kernel_rfl
theorem elOT (w:World):(sizeOf (Tryz.prog.elem 152)).run Tryz.prog w=.ok 1 w:=by kernel_rfl
theorem IDX9 (m:Nat) (hm:m<56) (w:World):(Instr.indexAt 151 (.pointer (some ⟨0,0,none⟩)) (.int .i64 (m:Int))).run Tryz.prog w=.ok (.pointer (some ⟨0,m,none⟩)) w:=by
 rw [run_indexAt_array w _ _ .i64 m arrPT2,lenPT,if_pos (by omega),elPT]
 show Result.ok _ w=_
 rw [show ((m:Int).toNat*1)=m by omega,Shape.add_plain,Nat.zero_add]
theorem IDX17 (m:Nat) (hm:m<12) (w:World):(Instr.indexAt 152 (.pointer (some ⟨1,0,none⟩)) (.int .i64 (m:Int))).run Tryz.prog w=.ok (.pointer (some ⟨1,m,none⟩)) w:=by
 rw [run_indexAt_array w _ _ .i64 m arrOT2,lenOT,if_pos (by omega),elOT]
 show Result.ok _ w=_
 rw [show ((m:Int).toNat*1)=m by omega,Shape.add_plain,Nat.zero_add]
def wdB (lt:Arr->ByteArray) (N:Nd):ByteArray :=
 if N.k=1 then lt N.v else if N.k=2 then N.t else if N.k=6 then ⟨#[88]⟩ else if N.k=7 then ⟨#[89]⟩ else if N.k=8 then ⟨#[97,114,103]⟩
 else if N.k=9 then primT.getD N.p.toNat ⟨#[]⟩ else if N.k=11 then ⟨#[115,101,108,102]⟩ else if N.k=12 then ⟨#[70]⟩ else if N.k=13 then ⟨#[71]⟩
 else if N.k=17 then opT.getD N.o.toNat ⟨#[]⟩ else ⟨#[]⟩
def LitOK (W0:World) (A:Arr) (s:ByteArray):Prop:=∀ v w,Below W0.heap.size W0 w->ArrAt w v A->Calls Tryz.prog 106 #[v] w fun e w'=>e=.returned (.string s)/\Below w.heap.size w w'
theorem ok_prim {N:Nd}(h:okN N=true) (hk:N.k=9):1<=N.p/\N.p<=55:=by
 rw [okN_eqP,if_neg (by rw [hk];decide)] at h
 unfold leafB innerB at h
 simp only [hk] at h
 simp at h
 omega
theorem ok_op {N:Nd}(h:okN N=true) (hk:N.k=17):1<=N.o/\N.o<=11:=by
 rw [ok_eq] at h
 unfold fitB at h
 simp only [hk] at h
 simp at h
 omega
theorem wordP (lt:Arr->ByteArray) (N:Nd) (b off:Nat) (W0 w:World) (hb:Below W0.heap.size W0 w) (h:NdM w b off N) (hT:Tab w) (hok:okN N=true) (HL:N.k=1->LitOK W0 N.v (lt N.v))
  (hk:¬ N.k=3/\¬ N.k=4/\¬ N.k=5/\¬ N.k=10/\¬ N.k=14/\¬ N.k=15/\¬ N.k=16) :
  Calls Tryz.prog 82 #[.pointer (some ⟨b,off,none⟩)] w fun e w'=>e=.returned (.string (wdB lt N))/\Below w.heap.size w w':=by
 obtain ⟨cs,v0,v1,v2,v3,ka,kc,ba,bc,kb,ko,bb,bo,O,hC,lC,G⟩:=h.opn
 obtain ⟨g0,-,g2,g3,g4,g5,g6,g7,g8,g9,-⟩:=id G
 obtain ⟨r,hr⟩:∃ r,wdB lt N=r:=⟨_,rfl⟩
 rw [hr]
 have HQ:Hid (wdB lt N=r):=hr
 have ar:=O.arr
 have O9:=ok_prim hok
 have O17:=ok_op hok
 clear hr O G hC lC h
 unfold wdB at HQ
 by_cases k1:N.k=1
 ·rw [k1] at g0
  simp only [k1] at HQ
  have HG:Hid (lt N.v=r):=HQ
  have K:=HL k1 (.agg #[v0,v1,v2,v3]) w hb ar
  clear HQ O9 O17 hT hok hk k1
  go_enter Tryz.func82,Tryz.ntmps82
  go_wp2_with (go_at_call 106;((with_reducible refine K.mono ?_);rintro e w3 ⟨rfl,b3⟩))
  go_ret
  exact ⟨by rw [<- HG.out];rfl,b3⟩
 by_cases k2:N.k=2
 ·rw [k2] at g0
  simp only [k2] at HQ
  have HG:Hid (N.t=r):=HQ
  clear HQ O9 O17 hT hok hk HL k1 k2
  go_enter Tryz.func82,Tryz.ntmps82
  go_wp2_with fail
  go_ret
  exact ⟨by rw [<- HG.out];rfl,Below.refl _ _⟩
 by_cases k6:N.k=6
 ·rw [k6] at g0
  simp only [k6] at HQ
  have HG:Hid (⟨#[88]⟩=r):=HQ
  clear HQ O9 O17 hT hok hk HL k1 k2 k6
  go_enter Tryz.func82,Tryz.ntmps82
  go_wp2_with fail
  go_ret
  exact ⟨by rw [<- HG.out];rfl,Below.refl _ _⟩
 by_cases k7:N.k=7
 ·rw [k7] at g0
  simp only [k7] at HQ
  have HG:Hid (⟨#[89]⟩=r):=HQ
  clear HQ O9 O17 hT hok hk HL k1 k2 k6 k7
  go_enter Tryz.func82,Tryz.ntmps82
  go_wp2_with fail
  go_ret
  exact ⟨by rw [<- HG.out];rfl,Below.refl _ _⟩
 by_cases k8:N.k=8
 ·rw [k8] at g0
  simp only [k8] at HQ
  have HG:Hid (⟨#[97,114,103]⟩=r):=HQ
  clear HQ O9 O17 hT hok hk HL k1 k2 k6 k7 k8
  go_enter Tryz.func82,Tryz.ntmps82
  go_wp2_with fail
  go_ret
  exact ⟨by rw [<- HG.out];rfl,Below.refl _ _⟩
 by_cases k9:N.k=9
 ·rw [k9] at g0
  simp only [k9] at HQ
  have HG:Hid (primT.getD N.p.toNat ⟨#[]⟩=r):=HQ
  obtain ⟨o1,o2⟩:=O9 k9
  obtain ⟨m,hm⟩:∃ m:Nat,N.p =(m:Int):=⟨N.p.toNat,by omega⟩
  rw [hm] at g4 o1 o2 HG
  have c1:=hT.p m (by omega)
  rw [Int.toNat_natCast] at HG
  have hi:∀ w',(Instr.indexAt 151 (.pointer (some ⟨0,0,none⟩)) (.int .i64 (m:Int))).run Tryz.prog w'=.ok (.pointer (some ⟨0,m,none⟩)) w':=fun w'=>by
   exact IDX9 m (by omega) w'
  clear HQ O9 O17 hT hok hk hm HL k1 k2 k6 k7 k8 k9
  go_enter Tryz.func82,Tryz.ntmps82
  go_wp2_with fail
  go_ret
  exact ⟨by rw [<- HG.out];rfl,Below.refl _ _⟩
 by_cases k11:N.k=11
 ·rw [k11] at g0
  simp only [k11] at HQ
  have HG:Hid (⟨#[115,101,108,102]⟩=r):=HQ
  clear HQ O9 O17 hT hok hk HL k1 k2 k6 k7 k8 k9 k11
  go_enter Tryz.func82,Tryz.ntmps82
  go_wp2_with fail
  go_ret
  exact ⟨by rw [<- HG.out];rfl,Below.refl _ _⟩
 by_cases k12:N.k=12
 ·rw [k12] at g0
  simp only [k12] at HQ
  have HG:Hid (⟨#[70]⟩=r):=HQ
  clear HQ O9 O17 hT hok hk HL k1 k2 k6 k7 k8 k9 k11 k12
  go_enter Tryz.func82,Tryz.ntmps82
  go_wp2_with fail
  go_ret
  exact ⟨by rw [<- HG.out];rfl,Below.refl _ _⟩
 by_cases k13:N.k=13
 ·rw [k13] at g0
  simp only [k13] at HQ
  have HG:Hid (⟨#[71]⟩=r):=HQ
  clear HQ O9 O17 hT hok hk HL k1 k2 k6 k7 k8 k9 k11 k12 k13
  go_enter Tryz.func82,Tryz.ntmps82
  go_wp2_with fail
  go_ret
  exact ⟨by rw [<- HG.out];rfl,Below.refl _ _⟩
 by_cases k17:N.k=17
 ·rw [k17] at g0
  simp only [k17] at HQ
  have HG:Hid (opT.getD N.o.toNat ⟨#[]⟩=r):=HQ
  obtain ⟨o1,o2⟩:=O17 k17
  obtain ⟨m,hm⟩:∃ m:Nat,N.o =(m:Int):=⟨N.o.toNat,by omega⟩
  rw [hm] at g5 o1 o2 HG
  have c1:=hT.o m (by omega)
  rw [Int.toNat_natCast] at HG
  have hi:∀ w',(Instr.indexAt 152 (.pointer (some ⟨1,0,none⟩)) (.int .i64 (m:Int))).run Tryz.prog w'=.ok (.pointer (some ⟨1,m,none⟩)) w':=fun w'=>by
   exact IDX17 m (by omega) w'
  clear HQ O9 O17 hT hok hk hm HL k1 k2 k6 k7 k8 k9 k11 k12 k13 k17
  go_enter Tryz.func82,Tryz.ntmps82
  go_wp2_with fail
  go_ret
  exact ⟨by rw [<- HG.out];rfl,Below.refl _ _⟩
 exfalso
 rw [ok_eq] at hok
 obtain ⟨h3,h4,h5,h10,h14,h15,h16⟩:=hk
 simp [fitB,k1,k2,k6,k7,k8,k9,k11,k12,k13,k17,h3,h4,h5,h10,h14,h15,h16] at hok
def par (enc:List Int) (x:Int × List ByteArray):List ByteArray:=if hasB enc x.1=true then ⟨#[40]⟩::(x.2++[⟨#[41]⟩]) else x.2
def kidW (l:List (Int × List ByteArray)) (i:Nat):Int × List ByteArray:=l.getD i (0,[])
mutual
def shN (lt:Arr->ByteArray):Nd->List ByteArray
 | .mk k a c t p o v ks bd d s z =>
  if k=3 then (shK lt ks).flatMap (par [3,4,5])
  else if k=4 then par [16] (kidW (shK lt ks) 0)++par [] (kidW (shK lt ks) 1)
  else if k=5 then par [4,5] (kidW (shK lt ks) 1)++(par [16] (kidW (shK lt ks) 0)++par [] (kidW (shK lt ks) 2))
  else if k=10 then ⟨#[123]⟩::(shB lt bd++[⟨#[125]⟩])
  else if k=14 then par [16] (kidW (shK lt ks) 1)++par [] (kidW (shK lt ks) 0)
  else if k=15 then par [16] (kidW (shK lt ks) 1)++(par [] (kidW (shK lt ks) 0)++par [3,4,5,16,14,15] (kidW (shK lt ks) 2))
  else if k=16 then (shK lt ks).flatMap (par [4,5,16])
  else [wdB lt (.mk k a c t p o v ks bd d s z)]
def shK (lt:Arr->ByteArray):List Nd->List (Int × List ByteArray)
 | []=>[]
 | N::r=>(N.k,shN lt N)::shK lt r
def shS (lt:Arr->ByteArray):St->List ByteArray
 | .mk k a n s te nd=>(if k=2 then [n,⟨#[60,45]⟩] else if k=3 then shN lt te++[⟨#[58]⟩] else [])++shN lt nd
def shB (lt:Arr->ByteArray):List St->List ByteArray
 | []=>[]
 | S::r=>shS lt S++shC lt r
def shC (lt:Arr->ByteArray):List St->List ByteArray
 | []=>[]
 | S::r=>⟨#[59]⟩::(shS lt S++shC lt r)
end
theorem shN_eq (lt:Arr->ByteArray) (N:Nd):shN lt N =
 if N.k=3 then (shK lt N.ks).flatMap (par [3,4,5])
 else if N.k=4 then par [16] (kidW (shK lt N.ks) 0)++par [] (kidW (shK lt N.ks) 1)
 else if N.k=5 then par [4,5] (kidW (shK lt N.ks) 1)++(par [16] (kidW (shK lt N.ks) 0)++par [] (kidW (shK lt N.ks) 2))
 else if N.k=10 then ⟨#[123]⟩::(shB lt N.bd++[⟨#[125]⟩])
 else if N.k=14 then par [16] (kidW (shK lt N.ks) 1)++par [] (kidW (shK lt N.ks) 0)
 else if N.k=15 then par [16] (kidW (shK lt N.ks) 1)++(par [] (kidW (shK lt N.ks) 0)++par [3,4,5,16,14,15] (kidW (shK lt N.ks) 2))
 else if N.k=16 then (shK lt N.ks).flatMap (par [4,5,16])
 else [wdB lt N]:=by cases N;rw [shN];rfl
theorem shS_eq (lt:Arr->ByteArray) (S:St):shS lt S =(if S.k=2 then [S.n,⟨#[60,45]⟩] else if S.k=3 then shN lt S.te++[⟨#[58]⟩] else [])++shN lt S.nd:=by cases S;rw [shS];rfl
theorem shK_map (lt:Arr->ByteArray):∀ l:List Nd,shK lt l=l.map fun N=>(N.k,shN lt N)
 | []=>by rw [shK];rfl
 | N::r=>by rw [shK,shK_map lt r];rfl
theorem par_len (enc:List Int) (x:Int × List ByteArray):(par enc x).length<=x.2.length+2:=by
 unfold par;split
 ·simp
 ·omega
theorem shC_len (lt:Arr->ByteArray):∀ (l:List St),(∀ j (h:j<l.length),(shS lt l[j]).length+1<=8*sizS l[j])->(shC lt l).length<=8*sizB l
 | [],_=>by rw [shC];exact Nat.zero_le _
 | S::r,h=>by
  have h0:(shS lt S).length+1<=8*sizS S:=h 0 (by simp)
  have h1:=shC_len lt r (fun j hj=>by have:=h (j+1) (by simpa using hj);simpa using this)
  rw [shC,sizB,List.length_cons,List.length_append];omega
theorem shB_len (lt:Arr->ByteArray):∀ (l:List St),(∀ j (h:j<l.length),(shS lt l[j]).length+1<=8*sizS l[j])->(shB lt l).length<=8*sizB l
 | [],_=>by rw [shB];exact Nat.zero_le _
 | S::r,h=>by
  have h0:(shS lt S).length+1<=8*sizS S:=h 0 (by simp)
  have h1:=shC_len lt r (fun j hj=>by have:=h (j+1) (by simpa using hj);simpa using this)
  rw [shB,sizB,List.length_append];omega
theorem flat_len (lt:Arr->ByteArray) (enc:List Int):∀ (l:List Nd),(∀ j (h:j<l.length),(shN lt l[j]).length+5<=8*siz l[j])->((shK lt l).flatMap (par enc)).length<=8*sizK l
 | [],_=>by rw [shK];exact Nat.zero_le _
 | N::r,h=>by
  have h0:(shN lt N).length+5<=8*siz N:=h 0 (by simp)
  have h1:=flat_len lt enc r (fun j hj=>by have:=h (j+1) (by simpa using hj);simpa using this)
  have h2:=par_len enc (N.k,shN lt N)
  rw [shK,List.flatMap_cons,List.length_append,sizK]
  simp only at h2
  omega
theorem cls2 {N:Nd}{x y:Int}(h:clsB [x,y] N=true):∃ A B,N.ks=[A,B]:=by
 unfold clsB sameB at h
 simp only [decide_eq_true_eq] at h
 match hk:N.ks,h with
 | [A,B],_=>exact ⟨A,B,rfl⟩
 | [],h=>simp at h
 | [A],h=>simp at h
 | A::B::C::r,h=>simp at h
theorem cls3 {N:Nd}{x y z:Int}(h:clsB [x,y,z] N=true):∃ A B C,N.ks=[A,B,C]:=by
 unfold clsB sameB at h
 simp only [decide_eq_true_eq] at h
 match hk:N.ks,h with
 | [A,B,C],_=>exact ⟨A,B,C,rfl⟩
 | [],h=>simp at h
 | [A],h=>simp at h
 | [A,B],h=>simp at h
 | A::B::C::D::r,h=>simp at h
theorem ok_k4 {N:Nd}(h:okN N=true) (hk:N.k=4):∃ A B,N.ks=[A,B]:=by
 rw [ok_eq] at h;unfold fitB at h;simp only [hk] at h;simp at h;exact cls2 h.1.2.2
theorem ok_k5 {N:Nd}(h:okN N=true) (hk:N.k=5):∃ A B C,N.ks=[A,B,C]:=by
 rw [ok_eq] at h;unfold fitB at h;simp only [hk] at h;simp at h;exact cls3 h.1.2.2
theorem ok_k14 {N:Nd}(h:okN N=true) (hk:N.k=14):∃ A B,N.ks=[A,B]:=by
 rw [ok_eq] at h;unfold fitB at h;simp only [hk] at h;simp at h;exact cls2 h.1.2.2
theorem ok_k15 {N:Nd}(h:okN N=true) (hk:N.k=15):∃ A B C,N.ks=[A,B,C]:=by
 rw [ok_eq] at h;unfold fitB at h;simp only [hk] at h;simp at h;exact cls3 h.1.2.2
theorem ok_kidsAll {N:Nd}(h:okN N=true):okK N.ks=true:=by
 rw [ok_eq] at h;simp only [Bool.and_eq_true] at h;exact h.2
theorem ok_k10 {N:Nd}(h:okN N=true) (hk:N.k=10):okL N.bd=true:=by
 rw [okN_eqP,if_pos hk] at h;simp only [Bool.and_eq_true] at h
 have:=h.2.1.2;unfold okB at this;simp only [Bool.and_eq_true] at this;exact this.1.2
theorem okS_k {S:St}(h:okS S=true):S.k=1∨S.k=2∨S.k=3:=by
 rw [okS_eqP] at h
 simp only [Bool.and_eq_true] at h
 have h:=h.2
 split at h
 ·left;assumption
 split at h
 ·right;left;assumption
 split at h
 ·right;right;assumption
 ·cases h
theorem stmt_len (lt:Arr->ByteArray) {S:St}(h:okS S=true) (h1:(shN lt S.nd).length+5<=8*siz S.nd) (h2:S.k=3->(shN lt S.te).length+5<=8*siz S.te):(shS lt S).length+1<=8*sizS S:=by
 rw [shS_eq,sizS_eq,List.length_append]
 rcases okS_k h with e | e | e
 ·rw [if_neg (by omega),if_neg (by omega)];simp;omega
 ·rw [if_pos e];simp;omega
 ·have:=h2 e
  have e':(S.k==3)=true:=by simpa using e
  rw [if_neg (by omega),if_pos e,e',if_pos rfl];simp;omega
theorem shN_len (lt:Arr->ByteArray):∀ (r:Nat) (N:Nd),rkN N<r->okN N=true->(shN lt N).length+5<=8*siz N
 | 0,_,h,_=>absurd h (Nat.not_lt_zero _)
 | r+1,N,h,ok=>by
  have hk:=okK_allP.1 (ok_kidsAll ok)
  have IH:=fun j (hj:j<N.ks.length)=>shN_len lt r N.ks[j] (by have:=rk_kid N hj;omega) (hk j hj)
  have p1:=siz_eq N
  rw [shN_eq]
  by_cases k3:N.k=3
  ·rw [if_pos k3]
   have:=flat_len lt [3,4,5] N.ks IH
   omega
  by_cases k4:N.k=4
  ·rw [if_neg k3,if_pos k4]
   obtain ⟨A,B,e⟩:=ok_k4 ok k4
   simp only [e] at IH p1 ⊢
   have a:=IH 0 (by simp)
   have b:=IH 1 (by simp)
   have q1:=par_len [16] (A.k,shN lt A)
   have q2:=par_len [] (B.k,shN lt B)
   simp only [sizK] at p1
   simp only [List.getElem_cons_zero,List.getElem_cons_succ] at a b
   simp only at q1 q2
   rw [shK_map]
   show (par [16] (A.k,shN lt A)++par [] (B.k,shN lt B)).length+5<=_
   rw [List.length_append];omega
  by_cases k5:N.k=5
  ·rw [if_neg k3,if_neg k4,if_pos k5]
   obtain ⟨A,B,C,e⟩:=ok_k5 ok k5
   simp only [e] at IH p1 ⊢
   have a:=IH 0 (by simp)
   have b:=IH 1 (by simp)
   have c:=IH 2 (by simp)
   have q1:=par_len [4,5] (B.k,shN lt B)
   have q2:=par_len [16] (A.k,shN lt A)
   have q3:=par_len [] (C.k,shN lt C)
   simp only [sizK] at p1
   simp only [List.getElem_cons_zero,List.getElem_cons_succ] at a b c
   simp only at q1 q2 q3
   rw [shK_map]
   show (par [4,5] (B.k,shN lt B)++(par [16] (A.k,shN lt A)++par [] (C.k,shN lt C))).length+5<=_
   rw [List.length_append,List.length_append];omega
  by_cases k10:N.k=10
  ·rw [if_neg k3,if_neg k4,if_neg k5,if_pos k10]
   have ol:=okL_allP.1 (ok_k10 ok k10)
   have:=shB_len lt N.bd (fun j hj=>stmt_len lt (ol j hj) (shN_len lt r _ (by have:=rk_body N hj;omega) (okS_nd (ol j hj)).1) (fun e=>shN_len lt r _ (by have:=rk_body N hj;omega) ((okS_nd (ol j hj)).2.1 e)))
   simp only [List.length_cons,List.length_append,List.length_nil]
   omega
  by_cases k14:N.k=14
  ·rw [if_neg k3,if_neg k4,if_neg k5,if_neg k10,if_pos k14]
   obtain ⟨A,B,e⟩:=ok_k14 ok k14
   simp only [e] at IH p1 ⊢
   have a:=IH 0 (by simp)
   have b:=IH 1 (by simp)
   have q1:=par_len [16] (B.k,shN lt B)
   have q2:=par_len [] (A.k,shN lt A)
   simp only [sizK] at p1
   simp only [List.getElem_cons_zero,List.getElem_cons_succ] at a b
   simp only at q1 q2
   rw [shK_map]
   show (par [16] (B.k,shN lt B)++par [] (A.k,shN lt A)).length+5<=_
   rw [List.length_append];omega
  by_cases k15:N.k=15
  ·rw [if_neg k3,if_neg k4,if_neg k5,if_neg k10,if_neg k14,if_pos k15]
   obtain ⟨A,B,C,e⟩:=ok_k15 ok k15
   simp only [e] at IH p1 ⊢
   have a:=IH 0 (by simp)
   have b:=IH 1 (by simp)
   have c:=IH 2 (by simp)
   have q1:=par_len [16] (B.k,shN lt B)
   have q2:=par_len [] (A.k,shN lt A)
   have q3:=par_len [3,4,5,16,14,15] (C.k,shN lt C)
   simp only [sizK] at p1
   simp only [List.getElem_cons_zero,List.getElem_cons_succ] at a b c
   simp only at q1 q2 q3
   rw [shK_map]
   show (par [16] (B.k,shN lt B)++(par [] (A.k,shN lt A)++par [3,4,5,16,14,15] (C.k,shN lt C))).length+5<=_
   rw [List.length_append,List.length_append];omega
  by_cases k16:N.k=16
  ·rw [if_neg k3,if_neg k4,if_neg k5,if_neg k10,if_neg k14,if_neg k15,if_pos k16]
   have:=flat_len lt [4,5,16] N.ks IH
   omega
  rw [if_neg k3,if_neg k4,if_neg k5,if_neg k10,if_neg k14,if_neg k15,if_neg k16]
  simp;omega
/-! The writer's add,of one word and of two. -/
theorem add1 (P:Nat) (l:List ByteArray) (s:ByteArray) (w:World) (h:Wr w P l) (hl:l.length+1<=4000000) :
  Calls Tryz.prog 81 #[.pointer (some ⟨P,0,none⟩),.slice (some ⟨w.heap.size,0,none⟩) 1 1] (w.alloc (.cells #[.string s] 9)) (WrOut P w (l++[s])) :=
 (addP P l [s] w.heap.size 1 1 _ (h.below (below_new _ _)) rfl (Words.new w [s] 9) (by simpa using hl)).mono fun e w' ⟨h1,h2,h3⟩=>⟨h1,((below_new w _).mono (Nat.le_of_lt h.lt)).trans h2,h3⟩
theorem add2 (P:Nat) (l:List ByteArray) (s t:ByteArray) (w:World) (h:Wr w P l) (hl:l.length+2<=4000000) :
  Calls Tryz.prog 81 #[.pointer (some ⟨P,0,none⟩),.slice (some ⟨w.heap.size,0,none⟩) 2 2] (w.alloc (.cells #[.string s,.string t] 9)) (WrOut P w (l++[s,t])) :=
 (addP P l [s,t] w.heap.size 2 2 _ (h.below (below_new _ _)) rfl (Words.new w [s,t] 9) (by simpa using hl)).mono fun e w' ⟨h1,h2,h3⟩=>⟨h1,((below_new w _).mono (Nat.le_of_lt h.lt)).trans h2,h3⟩
def NodeS (lt:Arr->ByteArray) (W0:World) (P:Nat) (N:Nd) (b off:Nat):Prop:=∀ w l,Below W0.heap.size W0 w->Wr w P l->l.length+8*siz N<=4000000 ->
 Calls Tryz.prog 57 #[.pointer (some ⟨P,0,none⟩),.pointer (some ⟨b,off,none⟩)] w (WrOut P w (l++shN lt N))
theorem partP (lt:Arr->ByteArray) (W0:World) (P:Nat) (hP:W0.heap.size<=P) (N:Nd) (b off:Nat) (hN:NdM W0 b off N) (NS:NodeS lt W0 P N b off) (hlen:(shN lt N).length+5<=8*siz N)
  (enc:List Int) (a:Option Addr) (cap n:Nat) (w:World) (l:List ByteArray) (hb:Below W0.heap.size W0 w) (hw:Wr w P l) (he:IntsAt w a cap enc) (hn:n=enc.length) (hl:l.length+8*siz N+2<=4000000) :
  Calls Tryz.prog 79 #[.pointer (some ⟨P,0,none⟩),.pointer (some ⟨b,off,none⟩),.slice a n cap] w (WrOut P w (l++par enc (N.k,shN lt N))):=by
 have K:=containsKP a cap n enc N.k w hn he
 obtain ⟨cs,v0,v1,v2,v3,ka,kc,ba,bc,kb,ko,bb,bo,O,hC,lC,G⟩:=(hN.below hb).opn
 obtain ⟨g0,-⟩:=G
 have HL:Hid (l.length+8*siz N+2<=4000000):=hl
 have HN:Hid ((shN lt N).length+5<=8*siz N):=hlen
 clear O hC lC hN he hl hlen hn
 cases q:hasB enc N.k with
 | false =>
  rw [q] at K
  have e:par enc (N.k,shN lt N)=shN lt N:=by unfold par;simp only [q];rfl
  rw [e]
  have C:=NS w l hb hw (by have:=HL.out;omega)
  clear NS e q
  go_enter Tryz.func79,Tryz.ntmps79
  go_wp2_with (first |(go_at_call 105;((with_reducible refine K.mono ?_);rintro e w3 ⟨rfl,rfl⟩)) |(go_at_call 57;((with_reducible refine C.mono ?_);rintro e w4 ⟨rfl,b4,W4⟩)))
  refine bodyPost_ret (results_none rfl _ _ _) rfl ?_
  exact ⟨rfl,b4,W4⟩
 | true =>
  rw [q] at K
  have e:par enc (N.k,shN lt N) =⟨#[40]⟩::(shN lt N++[⟨#[41]⟩]):=by unfold par;simp only [q];rfl
  rw [e]
  have A1:=add1 P l ⟨#[40]⟩ w hw (by have:=HL.out;omega)
  have C:=fun w3 (b3:Below P w w3) (W3:Wr w3 P (l++[⟨#[40]⟩]))=>NS w3 _ (hb.trans (b3.mono hP)) W3 (by have:=HL.out;simp;omega)
  have A2:=fun w4 (W4:Wr w4 P (l++[⟨#[40]⟩]++shN lt N))=>add1 P _ ⟨#[41]⟩ w4 W4 (by have:=HL.out;have:=HN.out;simp;omega)
  clear NS e q
  go_enter Tryz.func79,Tryz.ntmps79
  go_wp2_with (first |(go_at_call 105;((with_reducible refine K.mono ?_);rintro e w3 ⟨rfl,rfl⟩)) |(go_at_call 81;((with_reducible refine A1.mono ?_);rintro e w3 ⟨rfl,b3,W3⟩;(have C3:=C _ b3 W3))) |(go_at_call 57;((with_reducible refine C3.mono ?_);rintro e w4 ⟨rfl,b4,W4⟩;(have A4:=A2 _ W4))) |(go_at_call 81;((with_reducible refine A4.mono ?_);rintro e w5 ⟨rfl,b5,W5⟩)))
  refine bodyPost_ret (results_none rfl _ _ _) rfl ?_
  refine ⟨rfl,(b3.trans b4).trans b5,?_⟩
  have e:l++⟨#[40]⟩::(shN lt N++[⟨#[41]⟩])=l++[⟨#[40]⟩]++shN lt N++[⟨#[41]⟩]:=by simp
  rw [e];exact W5
mutual
def lqN (R:Arr->Prop):Nd->Prop
 | .mk k _ _ _ _ _ v ks bd _ _ _=>(k=1->R v)/\lqK R ks/\lqB R bd
def lqK (R:Arr->Prop):List Nd->Prop
 | []=>True
 | N::r=>lqN R N/\lqK R r
def lqS (R:Arr->Prop):St->Prop
 | .mk k _ _ _ te nd=>(k=3->lqN R te)/\lqN R nd
def lqB (R:Arr->Prop):List St->Prop
 | []=>True
 | S::r=>lqS R S/\lqB R r
end
theorem lqN_eq (R:Arr->Prop) (N:Nd):lqN R N =((N.k=1->R N.v)/\lqK R N.ks/\lqB R N.bd):=by cases N;rw [lqN];rfl
theorem lqS_eq (R:Arr->Prop) (S:St):lqS R S =((S.k=3->lqN R S.te)/\lqN R S.nd):=by cases S;rw [lqS];rfl
theorem lqK_at {R:Arr->Prop}:∀ {l:List Nd},lqK R l->∀ {j:Nat}(h:j<l.length),lqN R l[j]
 | [],_,_,h=>absurd h (by simp)
 | N::r,h,0,_=>by rw [lqK] at h;exact h.1
 | N::r,h,j+1,hj=>by rw [lqK] at h;exact lqK_at h.2 (by simpa using hj)
theorem lqB_at {R:Arr->Prop}:∀ {l:List St},lqB R l->∀ {j:Nat}(h:j<l.length),lqS R l[j]
 | [],_,_,h=>absurd h (by simp)
 | N::r,h,0,_=>by rw [lqB] at h;exact h.1
 | N::r,h,j+1,hj=>by rw [lqB] at h;exact lqB_at h.2 (by simpa using hj)
def NodeSpec (lt:Arr->ByteArray) (r:Nat):Prop:=∀ (W0:World) (P:Nat) (N:Nd) (b off:Nat),W0.heap.size<=P->Tab W0->rkN N<r->NdM W0 b off N->okN N=true->lqN (fun A=>LitOK W0 A (lt A)) N->NodeS lt W0 P N b off
theorem shC_app (lt:Arr->ByteArray):∀ (a b:List St),shC lt (a++b)=shC lt a++shC lt b
 | [],b=>by simp [shC]
 | S::r,b=>by rw [List.cons_append,shC,shC_app lt r b,shC];simp
def sepW (j:Nat):List ByteArray:=if 0<j then [⟨#[59]⟩] else []
theorem shB_step (lt:Arr->ByteArray) {l:List St}{j:Nat}(h:j<l.length):shB lt (l.take (j+1))=shB lt (l.take j)++(sepW j++shS lt l[j]):=by
 cases l with
 | nil=>simp at h
 | cons S r =>
  cases j with
  | zero=>simp [shB,shC,sepW]
  | succ j =>
   have hj:j<r.length:=by simpa using h
   rw [List.take_succ_cons,List.take_succ_cons,shB,shB,List.take_add_one,shC_app,List.getElem?_eq_getElem hj]
   simp [shC,sepW]
theorem sizB_appS (a b:List St):sizB (a++b)=sizB a+sizB b:=by
 induction a with
 | nil=>simp [sizB]
 | cons S r ih=>rw [List.cons_append,sizB,sizB,ih];omega
theorem sizB_takeS {l:List St}{j:Nat}(h:j<l.length):sizB (l.take j)+sizS l[j]<=sizB l:=by
 have e:l=l.take j++(l[j]::l.drop (j+1)):=by rw [List.getElem_cons_drop,List.take_append_drop]
 have:=sizB_appS (l.take j) (l[j]::l.drop (j+1))
 rw [<- e,sizB] at this
 omega
theorem lambdaP (lt:Arr->ByteArray) (r:Nat) (ih:NodeSpec lt r) (W0:World) (P:Nat) (N:Nd) (b off:Nat) (hP:W0.heap.size<=P) (hT:Tab W0) (hr:rkN N<=r) (hN:NdM W0 b off N) (ok:okN N=true) (k10:N.k=10)
  (lq:lqN (fun A=>LitOK W0 A (lt A)) N) (w:World) (l:List ByteArray) (hb:Below W0.heap.size W0 w) (hw:Wr w P l) (hl:l.length+8*siz N<=4000000) :
  Calls Tryz.prog 80 #[.pointer (some ⟨P,0,none⟩),.pointer (some ⟨b,off,none⟩)] w (WrOut P w (l++⟨#[123]⟩::(shB lt N.bd++[⟨#[125]⟩]))):=by
 obtain ⟨cs,v0,v1,v2,v3,ka,kc,ba,bc,kb,ko,bb,bo,O,hC,lC,G⟩:=hN.opn
 obtain ⟨-,-,-,-,-,-,-,-,-,-,-,g11,-,-,-⟩:=id G
 have g11w:=fun w' (g:Below W0.heap.size W0 w')=>(g.cell (cell_lt g11)).trans g11
 have h11:=g11w w hb
 have obl:=O.bl
 have oba:=O.ba
 have ol:=okL_allP.1 (ok_k10 ok k10)
 rw [lqN_eq] at lq
 have sN:=siz_eq N
 have IH:=fun (j:Nat) (hj:j<N.bd.length)=>And.intro (ih W0 P N.bd[j].nd bb (bo+j*34+19) hP hT (by have:=rk_body N hj;omega) (O.bat.at hj).node (okS_nd (ol j hj)).1 (by have:=lqB_at lq.2.2 hj;rw [lqS_eq] at this;exact this.2))
  (fun e:N.bd[j].k=3=>ih W0 P N.bd[j].te bb (bo+j*34+4) hP hT (by have:=rk_body N hj;omega) (O.bat.at hj).test ((okS_nd (ol j hj)).2.1 e) (by have:=lqB_at lq.2.2 hj;rw [lqS_eq] at this;exact this.1 e))
 have FS:=fun (j:Nat) (hj:j<N.bd.length) w' (g:Below W0.heap.size W0 w')=>((StsAt.below g O.bat).at hj).head
 have LN:=fun (j:Nat) (hj:j<N.bd.length)=>shN_len lt _ N.bd[j].nd (Nat.lt_succ_self _) (okS_nd (ol j hj)).1
 have LT:=fun (j:Nat) (hj:j<N.bd.length) (e:N.bd[j].k=3)=>shN_len lt _ N.bd[j].te (Nat.lt_succ_self _) ((okS_nd (ol j hj)).2.1 e)
 have LB:∀ j,j<=N.bd.length->(shB lt (N.bd.take j)).length<=8*sizB (N.bd.take j):=fun j hj=>shB_len lt _ (fun i hi=>by
  have hi2:i<N.bd.length:=by have:=hi;simp at this;omega
  have e:(N.bd.take j)[i]=N.bd[i]:=by simp
  rw [e]
  exact stmt_len lt (ol i hi2) (LN i hi2) (LT i hi2))
 have HL:Hid (l.length+8*siz N<=4000000):=hl
 have A0:=add1 P l ⟨#[123]⟩ w hw (by omega)
 have KS:=fun (j:Nat) (hj:j<N.bd.length)=>okS_k (ol j hj)
 clear O hC G lC ol ih hT lq hl
 go_enter Tryz.func80,Tryz.ntmps80
 go_wp2_with (go_at_call 81;((with_reducible refine A0.mono ?_);rintro e w3 ⟨rfl,b3,W3⟩;(have g3:=hb.trans (b3.mono hP));(have h11':=g11w _ g3)))
 go_loopw [14] (fun i wr=>∃ j:Nat,j<=N.bd.length/\i=.int .i64 j/\Below P w wr/\Wr wr P (l++[⟨#[123]⟩]++shB lt (N.bd.take j))) (fun i _=>N.bd.length - (intOf i).toNat)
 case atStart=>exact ⟨0,Nat.zero_le _,rfl,b3,by rw [List.take_zero,shB,List.append_nil];exact W3⟩
 case round =>
  obtain ⟨j,hj,rfl,hbr,hW⟩:=hrel
  clear h11' A0 W3
  have gr:=hb.trans (hbr.mono hP)
  have y11:=g11w _ gr
  by_cases hlt:j<N.bd.length
  ·have hi:=stmts_at (ic:=bc) rfl oba hlt
   obtain ⟨I1,I2⟩:=IH j hlt
   obtain ⟨x0,-,x2,-⟩:=FS j hlt wr gr
   have FO:=FS j hlt
   have T1:=LB j hj
   have T2:=sizB_takeS hlt
   have T4:=LN j hlt
   have T5:=LT j hlt
   have T6:=sizS_eq N.bd[j]
   have HS:Hid (shB lt (N.bd.take (j+1))=shB lt (N.bd.take j)++(sepW j++shS lt N.bd[j])):=shB_step lt hlt
   have HSS:Hid (shS lt N.bd[j] =(if N.bd[j].k=2 then [N.bd[j].n,⟨#[60,45]⟩] else if N.bd[j].k=3 then shN lt N.bd[j].te++[⟨#[58]⟩] else [])++shN lt N.bd[j].nd):=shS_eq lt _
   have KK:=KS j hlt
   have HT:Hid ((shB lt (N.bd.take j)).length<=8*sizB (N.bd.take j)/\sizB (N.bd.take j)+sizS N.bd[j]<=sizB N.bd/\(shN lt N.bd[j].nd).length+5<=8*siz N.bd[j].nd/\siz N=sizK N.ks+sizB N.bd+1):=⟨T1,T2,T4,sN⟩
   obtain ⟨L,hL⟩:∃ L,shB lt (N.bd.take j)=L:=⟨_,rfl⟩
   clear T1 T2 T4 IH FS LB LN LT KS
   by_cases hj0:j=0
   ·have hj1:¬ (0:Int) <(j:Int):=by omega
    have SW:Hid (sepW j=[]):=by unfold Hid sepW;rw [if_neg (by omega)]
    clear hj0
    by_cases k1:N.bd[j].k=1
    ·have KE:Hid (N.bd[j].k=1):=k1
     have F:∀ w' (g:Below W0.heap.size W0 w'),w'.cell? ⟨bb,bo+j*34,none⟩=some (.int .i64 1)/\True/\w'.cell? ⟨bb,bo+j*34+2,none⟩=some (.string N.bd[j].n)/\True:=fun w' g=>by
      obtain ⟨f0,-,f2,-⟩:=FO w' g
      rw [k1] at f0
      exact ⟨f0,trivial,f2,trivial⟩
     clear FO
     rw [k1] at x0
     have HT5:Hid (sizS N.bd[j]=siz N.bd[j].nd):=by unfold Hid;rw [T6,k1];simp
     clear I2
     clear T5 T6 KK k1
     have N1:=fun w' (g:Below W0.heap.size W0 w') (q:Wr w' P (l++[⟨#[123]⟩]++shB lt (N.bd.take j)))=>I1 w' _ g q (by have:=HL.out;have:=HT.out;have:=HT5.out;simp;omega)
     have N5:=N1 wr gr hW
     clear hL L HL HT HT5
     go_wp2_with (first |(go_at_call 57;((with_reducible refine N5.mono ?_);rintro e w6 ⟨rfl,b6,W6⟩)))
     go_roundw
     case rel=>exact ⟨j+1,by omega,by go_num,hbr.trans b6,by
      rw [HS.out,HSS.out,SW.out,KE.out]
      have q:=W6
      simp only [reduceIte,show ¬ ((1:Int)=2) by decide,show ¬ ((1:Int)=3) by decide,show ¬ ((3:Int)=2) by decide,if_false,List.append_assoc,List.cons_append,List.nil_append,List.append_nil] at q ⊢
      exact q⟩
     case measure=>simp [intOf];omega
    by_cases k2:N.bd[j].k=2
    ·have KE:Hid (N.bd[j].k=2):=k2
     have F:∀ w' (g:Below W0.heap.size W0 w'),w'.cell? ⟨bb,bo+j*34,none⟩=some (.int .i64 2)/\True/\w'.cell? ⟨bb,bo+j*34+2,none⟩=some (.string N.bd[j].n)/\True:=fun w' g=>by
      obtain ⟨f0,-,f2,-⟩:=FO w' g
      rw [k2] at f0
      exact ⟨f0,trivial,f2,trivial⟩
     clear FO
     rw [k2] at x0
     have HT5:Hid (sizS N.bd[j]=siz N.bd[j].nd):=by unfold Hid;rw [T6,k2];simp
     clear I2
     clear T5 T6 KK k1 k2
     have A2:=fun w' (q:Wr w' P (l++[⟨#[123]⟩]++shB lt (N.bd.take j)))=>add2 P _ N.bd[j].n ⟨#[60,45]⟩ w' q (by have:=HL.out;have:=HT.out;have:=HT5.out;simp;omega)
     have N1:=fun w' (g:Below W0.heap.size W0 w') (q:Wr w' P ((l++[⟨#[123]⟩]++shB lt (N.bd.take j))++[N.bd[j].n,⟨#[60,45]⟩]))=>I1 w' _ g q (by have:=HL.out;have:=HT.out;have:=HT5.out;simp;omega)
     have A5:=A2 wr hW
     clear hL L HL HT HT5
     go_wp2_with (first |(go_at_call 81;((with_reducible refine A5.mono ?_);rintro e w5 ⟨rfl,b5,W5⟩;(have B5:=hbr.trans b5);(have g5:=hb.trans (B5.mono hP));(have N5:=N1 _ g5 W5))) |(go_at_call 57;((with_reducible refine N5.mono ?_);rintro e w6 ⟨rfl,b6,W6⟩)))
     go_roundw
     case rel=>exact ⟨j+1,by omega,by go_num,B5.trans b6,by
      rw [HS.out,HSS.out,SW.out,KE.out]
      have q:=W6
      simp only [reduceIte,show ¬ ((1:Int)=2) by decide,show ¬ ((1:Int)=3) by decide,show ¬ ((3:Int)=2) by decide,if_false,List.append_assoc,List.cons_append,List.nil_append,List.append_nil] at q ⊢
      exact q⟩
     case measure=>simp [intOf];omega
    ·have k3:N.bd[j].k=3:=by omega
     have KE:Hid (N.bd[j].k=3):=k3
     have F:∀ w' (g:Below W0.heap.size W0 w'),w'.cell? ⟨bb,bo+j*34,none⟩=some (.int .i64 3)/\True/\w'.cell? ⟨bb,bo+j*34+2,none⟩=some (.string N.bd[j].n)/\True:=fun w' g=>by
      obtain ⟨f0,-,f2,-⟩:=FO w' g
      rw [k3] at f0
      exact ⟨f0,trivial,f2,trivial⟩
     clear FO
     rw [k3] at x0
     have I2:=I2 k3
     have HT5:Hid ((shN lt N.bd[j].te).length+5<=8*siz N.bd[j].te/\sizS N.bd[j]=siz N.bd[j].te+siz N.bd[j].nd):=⟨T5 k3,by rw [T6,k3];rfl⟩
     clear T5 T6 KK k1 k2 k3
     have N0:=fun w' (g:Below W0.heap.size W0 w') (q:Wr w' P (l++[⟨#[123]⟩]++shB lt (N.bd.take j)))=>I2 w' _ g q (by have:=HL.out;have:=HT.out;have:=HT5.out;simp;omega)
     have A2:=fun w' (q:Wr w' P ((l++[⟨#[123]⟩]++shB lt (N.bd.take j))++shN lt N.bd[j].te))=>add1 P _ ⟨#[58]⟩ w' q (by have:=HL.out;have:=HT.out;have:=HT5.out;simp;omega)
     have N1:=fun w' (g:Below W0.heap.size W0 w') (q:Wr w' P ((l++[⟨#[123]⟩]++shB lt (N.bd.take j))++shN lt N.bd[j].te++[⟨#[58]⟩]))=>I1 w' _ g q (by have:=HL.out;have:=HT.out;have:=HT5.out;simp;omega)
     have N4:=N0 wr gr hW
     clear hL L HL HT HT5
     go_wp2_with (first |(go_at_call 57;((with_reducible refine N4.mono ?_);rintro e w5 ⟨rfl,b5,W5⟩;(have B5:=hbr.trans b5);(have A5:=A2 _ W5))) |(go_at_call 81;((with_reducible refine A5.mono ?_);rintro e w55 ⟨rfl,b55,W55⟩;(have B55:=B5.trans b55);(have g55:=hb.trans (B55.mono hP));(have N5:=N1 _ g55 W55))) |(go_at_call 57;((with_reducible refine N5.mono ?_);rintro e w6 ⟨rfl,b6,W6⟩)))
     go_roundw
     case rel=>exact ⟨j+1,by omega,by go_num,B55.trans b6,by
      rw [HS.out,HSS.out,SW.out,KE.out]
      have q:=W6
      simp only [reduceIte,show ¬ ((1:Int)=2) by decide,show ¬ ((1:Int)=3) by decide,show ¬ ((3:Int)=2) by decide,if_false,List.append_assoc,List.cons_append,List.nil_append,List.append_nil] at q ⊢
      exact q⟩
     case measure=>simp [intOf];omega
   ·have hj1:(0:Int) <(j:Int):=by omega
    have SW:Hid (sepW j=[⟨#[59]⟩]):=by unfold Hid sepW;rw [if_pos (by omega)]
    have AS:=add1 P _ ⟨#[59]⟩ wr hW (by have:=HL.out;have:=HT.out;simp;omega)
    by_cases k1:N.bd[j].k=1
    ·have KE:Hid (N.bd[j].k=1):=k1
     have F:∀ w' (g:Below W0.heap.size W0 w'),w'.cell? ⟨bb,bo+j*34,none⟩=some (.int .i64 1)/\True/\w'.cell? ⟨bb,bo+j*34+2,none⟩=some (.string N.bd[j].n)/\True:=fun w' g=>by
      obtain ⟨f0,-,f2,-⟩:=FO w' g
      rw [k1] at f0
      exact ⟨f0,trivial,f2,trivial⟩
     clear FO
     rw [k1] at x0
     have HT5:Hid (sizS N.bd[j]=siz N.bd[j].nd):=by unfold Hid;rw [T6,k1];simp
     clear I2
     clear T5 T6 KK k1
     have N1:=fun w' (g:Below W0.heap.size W0 w') (q:Wr w' P (l++[⟨#[123]⟩]++shB lt (N.bd.take j)++[⟨#[59]⟩]))=>I1 w' _ g q (by have:=HL.out;have:=HT.out;have:=HT5.out;simp;omega)
     clear hL L HL HT HT5
     go_wp2_with (first |(go_at_call 81;((with_reducible refine AS.mono ?_);rintro e w4 ⟨rfl,b4,W4⟩;(have B4:=hbr.trans b4);(have g4:=hb.trans (B4.mono hP));(obtain ⟨z0,-,z2,-⟩:=F _ g4);(have N5:=N1 _ g4 W4))) |(go_at_call 57;((with_reducible refine N5.mono ?_);rintro e w6 ⟨rfl,b6,W6⟩)))
     go_roundw
     case rel=>exact ⟨j+1,by omega,by go_num,B4.trans b6,by
      rw [HS.out,HSS.out,SW.out,KE.out]
      have q:=W6
      simp only [reduceIte,show ¬ ((1:Int)=2) by decide,show ¬ ((1:Int)=3) by decide,show ¬ ((3:Int)=2) by decide,if_false,List.append_assoc,List.cons_append,List.nil_append,List.append_nil] at q ⊢
      exact q⟩
     case measure=>simp [intOf];omega
    by_cases k2:N.bd[j].k=2
    ·have KE:Hid (N.bd[j].k=2):=k2
     have F:∀ w' (g:Below W0.heap.size W0 w'),w'.cell? ⟨bb,bo+j*34,none⟩=some (.int .i64 2)/\True/\w'.cell? ⟨bb,bo+j*34+2,none⟩=some (.string N.bd[j].n)/\True:=fun w' g=>by
      obtain ⟨f0,-,f2,-⟩:=FO w' g
      rw [k2] at f0
      exact ⟨f0,trivial,f2,trivial⟩
     clear FO
     rw [k2] at x0
     have HT5:Hid (sizS N.bd[j]=siz N.bd[j].nd):=by unfold Hid;rw [T6,k2];simp
     clear I2
     clear T5 T6 KK k1 k2
     have A2:=fun w' (q:Wr w' P (l++[⟨#[123]⟩]++shB lt (N.bd.take j)++[⟨#[59]⟩]))=>add2 P _ N.bd[j].n ⟨#[60,45]⟩ w' q (by have:=HL.out;have:=HT.out;have:=HT5.out;simp;omega)
     have N1:=fun w' (g:Below W0.heap.size W0 w') (q:Wr w' P ((l++[⟨#[123]⟩]++shB lt (N.bd.take j)++[⟨#[59]⟩])++[N.bd[j].n,⟨#[60,45]⟩]))=>I1 w' _ g q (by have:=HL.out;have:=HT.out;have:=HT5.out;simp;omega)
     clear hL L HL HT HT5
     go_wp2_with (first |(go_at_call 81;((with_reducible refine AS.mono ?_);rintro e w4 ⟨rfl,b4,W4⟩;(have B4:=hbr.trans b4);(have g4:=hb.trans (B4.mono hP));(obtain ⟨z0,-,z2,-⟩:=F _ g4);(have A5:=A2 _ W4))) |(go_at_call 81;((with_reducible refine A5.mono ?_);rintro e w5 ⟨rfl,b5,W5⟩;(have B5:=B4.trans b5);(have g5:=hb.trans (B5.mono hP));(have N5:=N1 _ g5 W5))) |(go_at_call 57;((with_reducible refine N5.mono ?_);rintro e w6 ⟨rfl,b6,W6⟩)))
     go_roundw
     case rel=>exact ⟨j+1,by omega,by go_num,B5.trans b6,by
      rw [HS.out,HSS.out,SW.out,KE.out]
      have q:=W6
      simp only [reduceIte,show ¬ ((1:Int)=2) by decide,show ¬ ((1:Int)=3) by decide,show ¬ ((3:Int)=2) by decide,if_false,List.append_assoc,List.cons_append,List.nil_append,List.append_nil] at q ⊢
      exact q⟩
     case measure=>simp [intOf];omega
    ·have k3:N.bd[j].k=3:=by omega
     have KE:Hid (N.bd[j].k=3):=k3
     have F:∀ w' (g:Below W0.heap.size W0 w'),w'.cell? ⟨bb,bo+j*34,none⟩=some (.int .i64 3)/\True/\w'.cell? ⟨bb,bo+j*34+2,none⟩=some (.string N.bd[j].n)/\True:=fun w' g=>by
      obtain ⟨f0,-,f2,-⟩:=FO w' g
      rw [k3] at f0
      exact ⟨f0,trivial,f2,trivial⟩
     clear FO
     rw [k3] at x0
     have I2:=I2 k3
     have HT5:Hid ((shN lt N.bd[j].te).length+5<=8*siz N.bd[j].te/\sizS N.bd[j]=siz N.bd[j].te+siz N.bd[j].nd):=⟨T5 k3,by rw [T6,k3];rfl⟩
     clear T5 T6 KK k1 k2 k3
     have N0:=fun w' (g:Below W0.heap.size W0 w') (q:Wr w' P (l++[⟨#[123]⟩]++shB lt (N.bd.take j)++[⟨#[59]⟩]))=>I2 w' _ g q (by have:=HL.out;have:=HT.out;have:=HT5.out;simp;omega)
     have A2:=fun w' (q:Wr w' P ((l++[⟨#[123]⟩]++shB lt (N.bd.take j)++[⟨#[59]⟩])++shN lt N.bd[j].te))=>add1 P _ ⟨#[58]⟩ w' q (by have:=HL.out;have:=HT.out;have:=HT5.out;simp;omega)
     have N1:=fun w' (g:Below W0.heap.size W0 w') (q:Wr w' P ((l++[⟨#[123]⟩]++shB lt (N.bd.take j)++[⟨#[59]⟩])++shN lt N.bd[j].te++[⟨#[58]⟩]))=>I1 w' _ g q (by have:=HL.out;have:=HT.out;have:=HT5.out;simp;omega)
     clear hL L HL HT HT5
     go_wp2_with (first |(go_at_call 81;((with_reducible refine AS.mono ?_);rintro e w4 ⟨rfl,b4,W4⟩;(have B4:=hbr.trans b4);(have g4:=hb.trans (B4.mono hP));(obtain ⟨z0,-,z2,-⟩:=F _ g4);(have N4:=N0 _ g4 W4))) |(go_at_call 57;((with_reducible refine N4.mono ?_);rintro e w5 ⟨rfl,b5,W5⟩;(have B5:=B4.trans b5);(have A5:=A2 _ W5))) |(go_at_call 81;((with_reducible refine A5.mono ?_);rintro e w55 ⟨rfl,b55,W55⟩;(have B55:=B5.trans b55);(have g55:=hb.trans (B55.mono hP));(have N5:=N1 _ g55 W55))) |(go_at_call 57;((with_reducible refine N5.mono ?_);rintro e w6 ⟨rfl,b6,W6⟩)))
     go_roundw
     case rel=>exact ⟨j+1,by omega,by go_num,B55.trans b6,by
      rw [HS.out,HSS.out,SW.out,KE.out]
      have q:=W6
      simp only [reduceIte,show ¬ ((1:Int)=2) by decide,show ¬ ((1:Int)=3) by decide,show ¬ ((3:Int)=2) by decide,if_false,List.append_assoc,List.cons_append,List.nil_append,List.append_nil] at q ⊢
      exact q⟩
     case measure=>simp [intOf];omega
  ·obtain rfl:j=N.bd.length:=by omega
   have T1:=LB _ hj
   rw [List.take_length] at T1 hW
   have A9:=add1 P _ ⟨#[125]⟩ wr hW (by have:=HL.out;simp;omega)
   clear IH FS LB LN LT KS T1
   go_wp2_with (go_at_call 81;((with_reducible refine A9.mono ?_);rintro e w9 ⟨rfl,b9,W9⟩))
   refine bodyPost_ret (results_none rfl _ _ _) rfl ?_
   refine ⟨rfl,hbr.trans b9,?_⟩
   have e:l++⟨#[123]⟩::(shB lt N.bd++[⟨#[125]⟩])=l++[⟨#[123]⟩]++shB lt N.bd++[⟨#[125]⟩]:=by simp
   rw [e];exact W9
theorem partA (lt:Arr->ByteArray) (W0:World) (P:Nat) (hP:W0.heap.size<=P) (N:Nd) (b off:Nat) (hN:NdM W0 b off N) (NS:NodeS lt W0 P N b off) (hlen:(shN lt N).length+5<=8*siz N)
  (enc:List Int) (he:∀ x∈enc,I64 x) (h6:enc.length<=1000) (w:World) (l:List ByteArray) (hb:Below W0.heap.size W0 w) (hw:Wr w P l) (hl:l.length+8*siz N+2<=4000000) :
  Calls Tryz.prog 79 #[.pointer (some ⟨P,0,none⟩),.pointer (some ⟨b,off,none⟩),.slice (some ⟨w.heap.size,0,none⟩) enc.length enc.length] (w.alloc (.cells (enc.map (Value.int .i64)).toArray 39)) (WrOut P w (l++par enc (N.k,shN lt N))) :=
 (partP lt W0 P hP N b off hN NS hlen enc _ enc.length enc.length _ l (hb.trans ((below_new w _).mono (Nat.le_trans hP (Nat.le_of_lt hw.lt)))) (hw.below (below_new w _)) (cls_new w _ enc he h6) rfl hl).mono fun e w' ⟨h1,h2,h3⟩=>⟨h1,((below_new w _).mono (Nat.le_of_lt hw.lt)).trans h2,h3⟩
theorem part0 (lt:Arr->ByteArray) (W0:World) (P:Nat) (hP:W0.heap.size<=P) (N:Nd) (b off:Nat) (hN:NdM W0 b off N) (NS:NodeS lt W0 P N b off) (hlen:(shN lt N).length+5<=8*siz N)
  (w:World) (l:List ByteArray) (hb:Below W0.heap.size W0 w) (hw:Wr w P l) (hl:l.length+8*siz N+2<=4000000) :
  Calls Tryz.prog 79 #[.pointer (some ⟨P,0,none⟩),.pointer (some ⟨b,off,none⟩),.slice none 0 0] w (WrOut P w (l++par [] (N.k,shN lt N))) :=
 partP lt W0 P hP N b off hN NS hlen [] _ 0 0 _ l hb hw ⟨Nat.zero_le _,by decide,fun x hx=>absurd hx (by simp),0,0,fun h=>absurd rfl h,fun i hi=>absurd hi (by simp)⟩ rfl hl
theorem i64_kinds {l:List Int}(h:∀ x∈l,0<=x/\x<=100):∀ x∈l,I64 x:=fun x hx=>by have:=h x hx;exact ⟨by omega,by omega⟩
theorem shK_app (lt:Arr->ByteArray) (a b:List Nd):shK lt (a++b)=shK lt a++shK lt b:=by rw [shK_map,shK_map,shK_map,List.map_append]
theorem flat_step' (lt:Arr->ByteArray) (enc:List Int) {l:List Nd}{j:Nat}(h:j<l.length):(shK lt (l.take (j+1))).flatMap (par enc) =(shK lt (l.take j)).flatMap (par enc)++par enc (l[j].k,shN lt l[j]):=by
 rw [List.take_add_one,List.getElem?_eq_getElem h,shK_app,List.flatMap_append]
 simp [shK]
theorem sizK_appS (a b:List Nd):sizK (a++b)=sizK a+sizK b:=by
 induction a with
 | nil=>simp [sizK]
 | cons S r ih=>rw [List.cons_append,sizK,sizK,ih];omega
theorem sizK_takeS {l:List Nd}{j:Nat}(h:j<l.length):sizK (l.take j)+siz l[j]<=sizK l:=by
 have e:l=l.take j++(l[j]::l.drop (j+1)):=by rw [List.getElem_cons_drop,List.take_append_drop]
 have:=sizK_appS (l.take j) (l[j]::l.drop (j+1))
 rw [<- e,sizK] at this
 omega
theorem node_step (lt:Arr->ByteArray) (r:Nat) (ih:NodeSpec lt r):NodeSpec lt (r+1):=by
 intro W0 P N b off hP hT hr hN ok lq w l hb hw hl
 obtain ⟨cs,v0,v1,v2,v3,ka,kc,ba,bc,kb,ko,bb,bo,O,hC,lC,G⟩:=hN.opn
 obtain ⟨g0,-,-,-,-,-,-,-,-,-,g10,-,-,-,-⟩:=id G
 have g10w:=fun w' (g:Below W0.heap.size W0 w')=>(g.cell (cell_lt g10)).trans g10
 have h10:=g10w w hb
 have h0:=(hb.cell (cell_lt g0)).trans g0
 have okl:=O.kl
 have oka:=O.ka
 have okK:=okK_allP.1 (ok_kidsAll ok)
 have lq':=lq
 rw [lqN_eq] at lq'
 have sN:=siz_eq N
 have IH:=fun (j:Nat) (hj:j<N.ks.length)=>ih W0 P N.ks[j] kb (ko+j*15) hP hT (by have:=rk_kid N hj;omega) (O.kat.at hj) (okK j hj) (lqK_at lq'.2.1 hj)
 have KM:=fun (j:Nat) (hj:j<N.ks.length)=>O.kat.at hj
 have LN:=fun (j:Nat) (hj:j<N.ks.length)=>shN_len lt _ N.ks[j] (Nat.lt_succ_self _) (okK j hj)
 have LF:∀ enc j,j<=N.ks.length->((shK lt (N.ks.take j)).flatMap (par enc)).length<=8*sizK (N.ks.take j):=fun enc j hj=>flat_len lt enc _ (fun i hi=>by
  have hi2:i<N.ks.length:=by have:=hi;simp at this;omega
  have e:(N.ks.take j)[i]=N.ks[i]:=by simp
  rw [e]
  exact LN i hi2)
 have HL:Hid (l.length+8*siz N<=4000000):=hl
 have HR:Hid (shN lt N=_):=shN_eq lt N
 have LAM:N.k=10->Calls Tryz.prog 80 #[.pointer (some ⟨P,0,none⟩),.pointer (some ⟨b,off,none⟩)] w (WrOut P w (l++⟨#[123]⟩::(shB lt N.bd++[⟨#[125]⟩]))):=fun e=>lambdaP lt r ih W0 P N b off hP hT (by omega) hN ok e lq w l hb hw hl
 have WORD:=fun hk=>wordP lt N b off W0 w hb (hN.below hb) (hT.below hb) ok lq'.1 hk
 have H4:=ok_k4 ok
 have H5:=ok_k5 ok
 have H14:=ok_k14 ok
 have H15:=ok_k15 ok
 clear O hC G lC okK ih hT lq lq' hl hN ok
 obtain ⟨R,hR⟩:∃ R,shN lt N=R:=⟨_,rfl⟩
 rw [hR] at HR ⊢
 clear hR
 by_cases k3:N.k=3
 ·rw [k3] at h0
  have HR:Hid (R =(shK lt N.ks).flatMap (par [3,4,5])):=by have:=HR.out;rw [if_pos k3] at this;exact this
  clear LAM WORD H4 H5 H14 H15 k3
  have FS:=fun (j:Nat) (hj:j<N.ks.length)=>flat_step' lt [3,4,5] hj
  have LF:=LF [3,4,5]
  go_enter Tryz.func57,Tryz.ntmps57
  go_wp2_with fail
  go_loopw [22] (fun i wr=>∃ j:Nat,j<=N.ks.length/\i=.int .i64 j/\Below P w wr/\Wr wr P (l++(shK lt (N.ks.take j)).flatMap (par [3,4,5]))) (fun i _=>N.ks.length - (intOf i).toNat)
  case atStart=>exact ⟨0,Nat.zero_le _,rfl,⟨rfl,rfl,rfl,Nat.le_refl _,fun _ _=>rfl⟩,by rw [List.take_zero,shK];simpa using hw⟩
  case round =>
   obtain ⟨j,hj,rfl,hbr,hW⟩:=hrel
   have gr:=hb.trans (hbr.mono hP)
   have y10:=g10w _ gr
   by_cases hlt:j<N.ks.length
   ·have hi:=kids_at (ic:=kc) rfl oka hlt
    have HF:Hid _:=FS j hlt
    have A:Calls Tryz.prog 79 #[.pointer (some ⟨P,0,none⟩),.pointer (some ⟨kb,ko+j*15,none⟩),.slice (some ⟨wr.heap.size,0,none⟩) 3 3] (wr.alloc (.cells #[.int .i64 3,.int .i64 4,.int .i64 5] 39)) (WrOut P wr (l++(shK lt (N.ks.take j)).flatMap (par [3,4,5])++par [3,4,5] (N.ks[j].k,shN lt N.ks[j]))) :=
     partA lt W0 P hP N.ks[j] kb (ko+j*15) (KM j hlt) (IH j hlt) (LN j hlt) [3,4,5] (i64_kinds (by decide)) (by decide) wr _ gr hW (by have:=HL.out;have:=LF j hj;have:=sizK_takeS hlt;simp only [List.length_append];omega)
    clear IH KM LN LF FS hW
    go_wp2_with (go_at_call 79;((with_reducible refine A.mono ?_);rintro e w3 ⟨rfl,b3,W3⟩))
    go_roundw
    case rel=>exact ⟨j+1,by omega,by go_num,hbr.trans b3,by rw [HF.out,<- List.append_assoc];exact W3⟩
    case measure=>simp [intOf];omega
   ·obtain rfl:j=N.ks.length:=by omega
    rw [List.take_length] at hW
    clear IH KM LN LF FS
    go_wp2_with fail
    refine bodyPost_ret (results_none rfl _ _ _) rfl ?_
    exact ⟨rfl,hbr,by rw [HR.out];exact hW⟩
 by_cases k4:N.k=4
 ·rw [k4] at h0
  have HR:Hid (R=par [16] (kidW (shK lt N.ks) 0)++par [] (kidW (shK lt N.ks) 1)):=by have:=HR.out;rw [if_neg k3,if_pos k4] at this;exact this
  obtain ⟨A,B,eK⟩:=H4 k4
  clear LAM WORD H4 H5 H14 H15 LF k3 k4
  have I0:NodeS lt W0 P A kb (ko):=by have:=IH 0 (by rw [eK];simp);simp only [eK] at this;exact this
  have M0:NdM W0 kb (ko) A:=by have:=KM 0 (by rw [eK];simp);simp only [eK] at this;exact this
  have L0:(shN lt A).length+5<=8*siz A:=by have:=LN 0 (by rw [eK];simp);simp only [eK] at this;exact this
  have hi0:∀ w',(Instr.indexAt 47 (.slice ka 2 kc) (.int .i64 0)).run Tryz.prog w'=.ok (.pointer (some ⟨kb,ko,none⟩)) w':=fun w'=>kids_at (ic:=kc) (l:=N.ks) (k:=0) (by rw [eK];rfl) oka (by rw [eK];simp) w'
  have I1:NodeS lt W0 P B kb (ko+15):=by have:=IH 1 (by rw [eK];simp);simp only [eK] at this;exact this
  have M1:NdM W0 kb (ko+15) B:=by have:=KM 1 (by rw [eK];simp);simp only [eK] at this;exact this
  have L1:(shN lt B).length+5<=8*siz B:=by have:=LN 1 (by rw [eK];simp);simp only [eK] at this;exact this
  have hi1:∀ w',(Instr.indexAt 47 (.slice ka 2 kc) (.int .i64 1)).run Tryz.prog w'=.ok (.pointer (some ⟨kb,ko+15,none⟩)) w':=fun w'=>kids_at (ic:=kc) (l:=N.ks) (k:=1) (by rw [eK];rfl) oka (by rw [eK];simp) w'
  have HS:Hid (siz N=siz A+siz B+sizB N.bd+1):=by unfold Hid;rw [sN,eK];simp only [sizK];omega
  have HR2:Hid (R=par [16] (A.k,shN lt A)++par [] (B.k,shN lt B)):=by unfold Hid;rw [HR.out,eK,shK_map];rfl
  have c10w:∀ w' (g:Below W0.heap.size W0 w'),w'.cell? ⟨b,off+10,none⟩=some (.slice ka 2 kc):=fun w' g=>by have:=g10w w' g;rw [eK] at this;exact this
  clear h10
  have h10:=c10w w hb
  clear IH KM LN HR eK sN oka okl g10w g10
  have P0:∀ w' (g:Below W0.heap.size W0 w') (q:Wr w' P (l)),Calls Tryz.prog 79 #[.pointer (some ⟨P,0,none⟩),.pointer (some ⟨kb,ko,none⟩),.slice (some ⟨w'.heap.size,0,none⟩) 1 1] (w'.alloc (.cells #[.int .i64 16] 39)) (WrOut P w' (l++par [16] (A.k,shN lt A))):=fun w' g q =>
   partA lt W0 P hP A kb (ko) M0 I0 L0 [16] (i64_kinds (by decide)) (by decide) w' _ g q (by have:=HL.out;have:=HS.out;have q:=HL.out;(try simp only [List.length_append]);omega)
  have P1:∀ w' (g:Below W0.heap.size W0 w') (q:Wr w' P (l++par [16] (A.k,shN lt A))),Calls Tryz.prog 79 #[.pointer (some ⟨P,0,none⟩),.pointer (some ⟨kb,ko+15,none⟩),.slice none 0 0] w' (WrOut P w' (l++par [16] (A.k,shN lt A)++par [] (B.k,shN lt B))):=fun w' g q =>
   part0 lt W0 P hP B kb (ko+15) M1 I1 L1 w' _ g q (by have:=HL.out;have:=HS.out;have:=L0;have:(par [16] (A.k,shN lt A)).length<=(shN lt A).length+2:=par_len _ _;have q:=HL.out;(try simp only [List.length_append]);omega)
  have Q0:=P0 w hb hw
  clear M0 I0 L0 M1 I1 L1 HL HS hw
  go_enter Tryz.func57,Tryz.ntmps57
  go_wp2_with (first |(go_at_call 79;((with_reducible refine Q0.mono ?_);rintro e w3 ⟨rfl,b0,W0⟩;(have g20:=(hb).trans (b0.mono hP));(have c0:=c10w _ g20);(have Q1:=P1 _ g20 W0))) |(go_at_call 79;((with_reducible refine Q1.mono ?_);rintro e w4 ⟨rfl,b1,W1⟩)))
  refine bodyPost_ret (results_none rfl _ _ _) rfl ?_
  exact ⟨rfl,(b0.trans b1),by rw [HR2.out];have q:=W1;simp only [List.append_assoc] at q ⊢;exact q⟩
 by_cases k5:N.k=5
 ·rw [k5] at h0
  have HR:Hid (R=par [4,5] (kidW (shK lt N.ks) 1)++(par [16] (kidW (shK lt N.ks) 0)++par [] (kidW (shK lt N.ks) 2))):=by have:=HR.out;rw [if_neg k3,if_neg k4,if_pos k5] at this;exact this
  obtain ⟨A,B,C,eK⟩:=H5 k5
  clear LAM WORD H4 H5 H14 H15 LF k3 k4 k5
  have I0:NodeS lt W0 P A kb (ko):=by have:=IH 0 (by rw [eK];simp);simp only [eK] at this;exact this
  have M0:NdM W0 kb (ko) A:=by have:=KM 0 (by rw [eK];simp);simp only [eK] at this;exact this
  have L0:(shN lt A).length+5<=8*siz A:=by have:=LN 0 (by rw [eK];simp);simp only [eK] at this;exact this
  have hi0:∀ w',(Instr.indexAt 47 (.slice ka 3 kc) (.int .i64 0)).run Tryz.prog w'=.ok (.pointer (some ⟨kb,ko,none⟩)) w':=fun w'=>kids_at (ic:=kc) (l:=N.ks) (k:=0) (by rw [eK];rfl) oka (by rw [eK];simp) w'
  have I1:NodeS lt W0 P B kb (ko+15):=by have:=IH 1 (by rw [eK];simp);simp only [eK] at this;exact this
  have M1:NdM W0 kb (ko+15) B:=by have:=KM 1 (by rw [eK];simp);simp only [eK] at this;exact this
  have L1:(shN lt B).length+5<=8*siz B:=by have:=LN 1 (by rw [eK];simp);simp only [eK] at this;exact this
  have hi1:∀ w',(Instr.indexAt 47 (.slice ka 3 kc) (.int .i64 1)).run Tryz.prog w'=.ok (.pointer (some ⟨kb,ko+15,none⟩)) w':=fun w'=>kids_at (ic:=kc) (l:=N.ks) (k:=1) (by rw [eK];rfl) oka (by rw [eK];simp) w'
  have I2:NodeS lt W0 P C kb (ko+30):=by have:=IH 2 (by rw [eK];simp);simp only [eK] at this;exact this
  have M2:NdM W0 kb (ko+30) C:=by have:=KM 2 (by rw [eK];simp);simp only [eK] at this;exact this
  have L2:(shN lt C).length+5<=8*siz C:=by have:=LN 2 (by rw [eK];simp);simp only [eK] at this;exact this
  have hi2:∀ w',(Instr.indexAt 47 (.slice ka 3 kc) (.int .i64 2)).run Tryz.prog w'=.ok (.pointer (some ⟨kb,ko+30,none⟩)) w':=fun w'=>kids_at (ic:=kc) (l:=N.ks) (k:=2) (by rw [eK];rfl) oka (by rw [eK];simp) w'
  have HS:Hid (siz N=siz A+siz B+siz C+sizB N.bd+1):=by unfold Hid;rw [sN,eK];simp only [sizK];omega
  have HR2:Hid (R=par [4,5] (B.k,shN lt B)++(par [16] (A.k,shN lt A)++par [] (C.k,shN lt C))):=by unfold Hid;rw [HR.out,eK,shK_map];rfl
  have c10w:∀ w' (g:Below W0.heap.size W0 w'),w'.cell? ⟨b,off+10,none⟩=some (.slice ka 3 kc):=fun w' g=>by have:=g10w w' g;rw [eK] at this;exact this
  clear h10
  have h10:=c10w w hb
  clear IH KM LN HR eK sN oka okl g10w g10
  have P0:∀ w' (g:Below W0.heap.size W0 w') (q:Wr w' P (l)),Calls Tryz.prog 79 #[.pointer (some ⟨P,0,none⟩),.pointer (some ⟨kb,ko+15,none⟩),.slice (some ⟨w'.heap.size,0,none⟩) 2 2] (w'.alloc (.cells #[.int .i64 4,.int .i64 5] 39)) (WrOut P w' (l++par [4,5] (B.k,shN lt B))):=fun w' g q =>
   partA lt W0 P hP B kb (ko+15) M1 I1 L1 [4,5] (i64_kinds (by decide)) (by decide) w' _ g q (by have:=HL.out;have:=HS.out;have q:=HL.out;(try simp only [List.length_append]);omega)
  have P1:∀ w' (g:Below W0.heap.size W0 w') (q:Wr w' P (l++par [4,5] (B.k,shN lt B))),Calls Tryz.prog 79 #[.pointer (some ⟨P,0,none⟩),.pointer (some ⟨kb,ko,none⟩),.slice (some ⟨w'.heap.size,0,none⟩) 1 1] (w'.alloc (.cells #[.int .i64 16] 39)) (WrOut P w' (l++par [4,5] (B.k,shN lt B)++par [16] (A.k,shN lt A))):=fun w' g q =>
   partA lt W0 P hP A kb (ko) M0 I0 L0 [16] (i64_kinds (by decide)) (by decide) w' _ g q (by have:=HL.out;have:=HS.out;have:=L1;have:(par [4,5] (B.k,shN lt B)).length<=(shN lt B).length+2:=par_len _ _;have q:=HL.out;(try simp only [List.length_append]);omega)
  have P2:∀ w' (g:Below W0.heap.size W0 w') (q:Wr w' P (l++par [4,5] (B.k,shN lt B)++par [16] (A.k,shN lt A))),Calls Tryz.prog 79 #[.pointer (some ⟨P,0,none⟩),.pointer (some ⟨kb,ko+30,none⟩),.slice none 0 0] w' (WrOut P w' (l++par [4,5] (B.k,shN lt B)++par [16] (A.k,shN lt A)++par [] (C.k,shN lt C))):=fun w' g q =>
   part0 lt W0 P hP C kb (ko+30) M2 I2 L2 w' _ g q (by have:=HL.out;have:=HS.out;have:=L1;have:(par [4,5] (B.k,shN lt B)).length<=(shN lt B).length+2:=par_len _ _;have:=L0;have:(par [16] (A.k,shN lt A)).length<=(shN lt A).length+2:=par_len _ _;have q:=HL.out;(try simp only [List.length_append]);omega)
  have Q0:=P0 w hb hw
  clear M0 I0 L0 M1 I1 L1 M2 I2 L2 HL HS hw
  go_enter Tryz.func57,Tryz.ntmps57
  go_wp2_with (first |(go_at_call 79;((with_reducible refine Q0.mono ?_);rintro e w3 ⟨rfl,b0,W0⟩;(have g20:=(hb).trans (b0.mono hP));(have c0:=c10w _ g20);(have Q1:=P1 _ g20 W0))) |(go_at_call 79;((with_reducible refine Q1.mono ?_);rintro e w4 ⟨rfl,b1,W1⟩;(have g21:=(g20).trans (b1.mono hP));(have c1:=c10w _ g21);(have Q2:=P2 _ g21 W1))) |(go_at_call 79;((with_reducible refine Q2.mono ?_);rintro e w5 ⟨rfl,b2,W2⟩)))
  refine bodyPost_ret (results_none rfl _ _ _) rfl ?_
  exact ⟨rfl,((b0.trans b1).trans b2),by rw [HR2.out];have q:=W2;simp only [List.append_assoc] at q ⊢;exact q⟩
 by_cases k10:N.k=10
 ·rw [k10] at h0
  have HR:Hid (R =⟨#[123]⟩::(shB lt N.bd++[⟨#[125]⟩])):=by have:=HR.out;rw [if_neg k3,if_neg k4,if_neg k5,if_pos k10] at this;exact this
  have C:=LAM k10
  clear LAM WORD H4 H5 H14 H15 LF IH KM LN k3 k4 k5 k10
  go_enter Tryz.func57,Tryz.ntmps57
  go_wp2_with (go_at_call 80;((with_reducible refine C.mono ?_);rintro e w3 ⟨rfl,b3,W3⟩))
  refine bodyPost_ret (results_none rfl _ _ _) rfl ?_
  exact ⟨rfl,b3,by rw [HR.out];exact W3⟩
 by_cases k14:N.k=14
 ·rw [k14] at h0
  have HR:Hid (R=par [16] (kidW (shK lt N.ks) 1)++par [] (kidW (shK lt N.ks) 0)):=by have:=HR.out;rw [if_neg k3,if_neg k4,if_neg k5,if_neg k10,if_pos k14] at this;exact this
  obtain ⟨A,B,eK⟩:=H14 k14
  clear LAM WORD H4 H5 H14 H15 LF k3 k4 k5 k10 k14
  have I0:NodeS lt W0 P A kb (ko):=by have:=IH 0 (by rw [eK];simp);simp only [eK] at this;exact this
  have M0:NdM W0 kb (ko) A:=by have:=KM 0 (by rw [eK];simp);simp only [eK] at this;exact this
  have L0:(shN lt A).length+5<=8*siz A:=by have:=LN 0 (by rw [eK];simp);simp only [eK] at this;exact this
  have hi0:∀ w',(Instr.indexAt 47 (.slice ka 2 kc) (.int .i64 0)).run Tryz.prog w'=.ok (.pointer (some ⟨kb,ko,none⟩)) w':=fun w'=>kids_at (ic:=kc) (l:=N.ks) (k:=0) (by rw [eK];rfl) oka (by rw [eK];simp) w'
  have I1:NodeS lt W0 P B kb (ko+15):=by have:=IH 1 (by rw [eK];simp);simp only [eK] at this;exact this
  have M1:NdM W0 kb (ko+15) B:=by have:=KM 1 (by rw [eK];simp);simp only [eK] at this;exact this
  have L1:(shN lt B).length+5<=8*siz B:=by have:=LN 1 (by rw [eK];simp);simp only [eK] at this;exact this
  have hi1:∀ w',(Instr.indexAt 47 (.slice ka 2 kc) (.int .i64 1)).run Tryz.prog w'=.ok (.pointer (some ⟨kb,ko+15,none⟩)) w':=fun w'=>kids_at (ic:=kc) (l:=N.ks) (k:=1) (by rw [eK];rfl) oka (by rw [eK];simp) w'
  have HS:Hid (siz N=siz A+siz B+sizB N.bd+1):=by unfold Hid;rw [sN,eK];simp only [sizK];omega
  have HR2:Hid (R=par [16] (B.k,shN lt B)++par [] (A.k,shN lt A)):=by unfold Hid;rw [HR.out,eK,shK_map];rfl
  have c10w:∀ w' (g:Below W0.heap.size W0 w'),w'.cell? ⟨b,off+10,none⟩=some (.slice ka 2 kc):=fun w' g=>by have:=g10w w' g;rw [eK] at this;exact this
  clear h10
  have h10:=c10w w hb
  clear IH KM LN HR eK sN oka okl g10w g10
  have P0:∀ w' (g:Below W0.heap.size W0 w') (q:Wr w' P (l)),Calls Tryz.prog 79 #[.pointer (some ⟨P,0,none⟩),.pointer (some ⟨kb,ko+15,none⟩),.slice (some ⟨w'.heap.size,0,none⟩) 1 1] (w'.alloc (.cells #[.int .i64 16] 39)) (WrOut P w' (l++par [16] (B.k,shN lt B))):=fun w' g q =>
   partA lt W0 P hP B kb (ko+15) M1 I1 L1 [16] (i64_kinds (by decide)) (by decide) w' _ g q (by have:=HL.out;have:=HS.out;have q:=HL.out;(try simp only [List.length_append]);omega)
  have P1:∀ w' (g:Below W0.heap.size W0 w') (q:Wr w' P (l++par [16] (B.k,shN lt B))),Calls Tryz.prog 79 #[.pointer (some ⟨P,0,none⟩),.pointer (some ⟨kb,ko,none⟩),.slice none 0 0] w' (WrOut P w' (l++par [16] (B.k,shN lt B)++par [] (A.k,shN lt A))):=fun w' g q =>
   part0 lt W0 P hP A kb (ko) M0 I0 L0 w' _ g q (by have:=HL.out;have:=HS.out;have:=L1;have:(par [16] (B.k,shN lt B)).length<=(shN lt B).length+2:=par_len _ _;have q:=HL.out;(try simp only [List.length_append]);omega)
  have Q0:=P0 w hb hw
  clear M0 I0 L0 M1 I1 L1 HL HS hw
  go_enter Tryz.func57,Tryz.ntmps57
  go_wp2_with (first |(go_at_call 79;((with_reducible refine Q0.mono ?_);rintro e w3 ⟨rfl,b0,W0⟩;(have g20:=(hb).trans (b0.mono hP));(have c0:=c10w _ g20);(have Q1:=P1 _ g20 W0))) |(go_at_call 79;((with_reducible refine Q1.mono ?_);rintro e w4 ⟨rfl,b1,W1⟩)))
  refine bodyPost_ret (results_none rfl _ _ _) rfl ?_
  exact ⟨rfl,(b0.trans b1),by rw [HR2.out];have q:=W1;simp only [List.append_assoc] at q ⊢;exact q⟩
 by_cases k15:N.k=15
 ·rw [k15] at h0
  have HR:Hid (R=par [16] (kidW (shK lt N.ks) 1)++(par [] (kidW (shK lt N.ks) 0)++par [3,4,5,16,14,15] (kidW (shK lt N.ks) 2))):=by have:=HR.out;rw [if_neg k3,if_neg k4,if_neg k5,if_neg k10,if_neg k14,if_pos k15] at this;exact this
  obtain ⟨A,B,C,eK⟩:=H15 k15
  clear LAM WORD H4 H5 H14 H15 LF k3 k4 k5 k10 k14 k15
  have I0:NodeS lt W0 P A kb (ko):=by have:=IH 0 (by rw [eK];simp);simp only [eK] at this;exact this
  have M0:NdM W0 kb (ko) A:=by have:=KM 0 (by rw [eK];simp);simp only [eK] at this;exact this
  have L0:(shN lt A).length+5<=8*siz A:=by have:=LN 0 (by rw [eK];simp);simp only [eK] at this;exact this
  have hi0:∀ w',(Instr.indexAt 47 (.slice ka 3 kc) (.int .i64 0)).run Tryz.prog w'=.ok (.pointer (some ⟨kb,ko,none⟩)) w':=fun w'=>kids_at (ic:=kc) (l:=N.ks) (k:=0) (by rw [eK];rfl) oka (by rw [eK];simp) w'
  have I1:NodeS lt W0 P B kb (ko+15):=by have:=IH 1 (by rw [eK];simp);simp only [eK] at this;exact this
  have M1:NdM W0 kb (ko+15) B:=by have:=KM 1 (by rw [eK];simp);simp only [eK] at this;exact this
  have L1:(shN lt B).length+5<=8*siz B:=by have:=LN 1 (by rw [eK];simp);simp only [eK] at this;exact this
  have hi1:∀ w',(Instr.indexAt 47 (.slice ka 3 kc) (.int .i64 1)).run Tryz.prog w'=.ok (.pointer (some ⟨kb,ko+15,none⟩)) w':=fun w'=>kids_at (ic:=kc) (l:=N.ks) (k:=1) (by rw [eK];rfl) oka (by rw [eK];simp) w'
  have I2:NodeS lt W0 P C kb (ko+30):=by have:=IH 2 (by rw [eK];simp);simp only [eK] at this;exact this
  have M2:NdM W0 kb (ko+30) C:=by have:=KM 2 (by rw [eK];simp);simp only [eK] at this;exact this
  have L2:(shN lt C).length+5<=8*siz C:=by have:=LN 2 (by rw [eK];simp);simp only [eK] at this;exact this
  have hi2:∀ w',(Instr.indexAt 47 (.slice ka 3 kc) (.int .i64 2)).run Tryz.prog w'=.ok (.pointer (some ⟨kb,ko+30,none⟩)) w':=fun w'=>kids_at (ic:=kc) (l:=N.ks) (k:=2) (by rw [eK];rfl) oka (by rw [eK];simp) w'
  have HS:Hid (siz N=siz A+siz B+siz C+sizB N.bd+1):=by unfold Hid;rw [sN,eK];simp only [sizK];omega
  have HR2:Hid (R=par [16] (B.k,shN lt B)++(par [] (A.k,shN lt A)++par [3,4,5,16,14,15] (C.k,shN lt C))):=by unfold Hid;rw [HR.out,eK,shK_map];rfl
  have c10w:∀ w' (g:Below W0.heap.size W0 w'),w'.cell? ⟨b,off+10,none⟩=some (.slice ka 3 kc):=fun w' g=>by have:=g10w w' g;rw [eK] at this;exact this
  clear h10
  have h10:=c10w w hb
  clear IH KM LN HR eK sN oka okl g10w g10
  have P0:∀ w' (g:Below W0.heap.size W0 w') (q:Wr w' P (l)),Calls Tryz.prog 79 #[.pointer (some ⟨P,0,none⟩),.pointer (some ⟨kb,ko+15,none⟩),.slice (some ⟨w'.heap.size,0,none⟩) 1 1] (w'.alloc (.cells #[.int .i64 16] 39)) (WrOut P w' (l++par [16] (B.k,shN lt B))):=fun w' g q =>
   partA lt W0 P hP B kb (ko+15) M1 I1 L1 [16] (i64_kinds (by decide)) (by decide) w' _ g q (by have:=HL.out;have:=HS.out;have q:=HL.out;(try simp only [List.length_append]);omega)
  have P1:∀ w' (g:Below W0.heap.size W0 w') (q:Wr w' P (l++par [16] (B.k,shN lt B))),Calls Tryz.prog 79 #[.pointer (some ⟨P,0,none⟩),.pointer (some ⟨kb,ko,none⟩),.slice none 0 0] w' (WrOut P w' (l++par [16] (B.k,shN lt B)++par [] (A.k,shN lt A))):=fun w' g q =>
   part0 lt W0 P hP A kb (ko) M0 I0 L0 w' _ g q (by have:=HL.out;have:=HS.out;have:=L1;have:(par [16] (B.k,shN lt B)).length<=(shN lt B).length+2:=par_len _ _;have q:=HL.out;(try simp only [List.length_append]);omega)
  have P2:∀ w' (g:Below W0.heap.size W0 w') (q:Wr w' P (l++par [16] (B.k,shN lt B)++par [] (A.k,shN lt A))),Calls Tryz.prog 79 #[.pointer (some ⟨P,0,none⟩),.pointer (some ⟨kb,ko+30,none⟩),.slice (some ⟨w'.heap.size,0,none⟩) 6 6] (w'.alloc (.cells #[.int .i64 3,.int .i64 4,.int .i64 5,.int .i64 16,.int .i64 14,.int .i64 15] 39)) (WrOut P w' (l++par [16] (B.k,shN lt B)++par [] (A.k,shN lt A)++par [3,4,5,16,14,15] (C.k,shN lt C))):=fun w' g q =>
   partA lt W0 P hP C kb (ko+30) M2 I2 L2 [3,4,5,16,14,15] (i64_kinds (by decide)) (by decide) w' _ g q (by have:=HL.out;have:=HS.out;have:=L1;have:(par [16] (B.k,shN lt B)).length<=(shN lt B).length+2:=par_len _ _;have:=L0;have:(par [] (A.k,shN lt A)).length<=(shN lt A).length+2:=par_len _ _;have q:=HL.out;(try simp only [List.length_append]);omega)
  have Q0:=P0 w hb hw
  clear M0 I0 L0 M1 I1 L1 M2 I2 L2 HL HS hw
  go_enter Tryz.func57,Tryz.ntmps57
  go_wp2_with (first |(go_at_call 79;((with_reducible refine Q0.mono ?_);rintro e w3 ⟨rfl,b0,W0⟩;(have g20:=(hb).trans (b0.mono hP));(have c0:=c10w _ g20);(have Q1:=P1 _ g20 W0))) |(go_at_call 79;((with_reducible refine Q1.mono ?_);rintro e w4 ⟨rfl,b1,W1⟩;(have g21:=(g20).trans (b1.mono hP));(have c1:=c10w _ g21);(have Q2:=P2 _ g21 W1))) |(go_at_call 79;((with_reducible refine Q2.mono ?_);rintro e w5 ⟨rfl,b2,W2⟩)))
  refine bodyPost_ret (results_none rfl _ _ _) rfl ?_
  exact ⟨rfl,((b0.trans b1).trans b2),by rw [HR2.out];have q:=W2;simp only [List.append_assoc] at q ⊢;exact q⟩
 by_cases k16:N.k=16
 ·rw [k16] at h0
  have HR:Hid (R =(shK lt N.ks).flatMap (par [4,5,16])):=by have:=HR.out;rw [if_neg k3,if_neg k4,if_neg k5,if_neg k10,if_neg k14,if_neg k15,if_pos k16] at this;exact this
  clear LAM WORD H4 H5 H14 H15 k3 k4 k5 k10 k14 k15 k16
  have FS:=fun (j:Nat) (hj:j<N.ks.length)=>flat_step' lt [4,5,16] hj
  have LF:=LF [4,5,16]
  go_enter Tryz.func57,Tryz.ntmps57
  go_wp2_with fail
  go_loopw [131] (fun i wr=>∃ j:Nat,j<=N.ks.length/\i=.int .i64 j/\Below P w wr/\Wr wr P (l++(shK lt (N.ks.take j)).flatMap (par [4,5,16]))) (fun i _=>N.ks.length - (intOf i).toNat)
  case atStart=>exact ⟨0,Nat.zero_le _,rfl,⟨rfl,rfl,rfl,Nat.le_refl _,fun _ _=>rfl⟩,by rw [List.take_zero,shK];simpa using hw⟩
  case round =>
   obtain ⟨j,hj,rfl,hbr,hW⟩:=hrel
   have gr:=hb.trans (hbr.mono hP)
   have y10:=g10w _ gr
   by_cases hlt:j<N.ks.length
   ·have hi:=kids_at (ic:=kc) rfl oka hlt
    have HF:Hid _:=FS j hlt
    have A:Calls Tryz.prog 79 #[.pointer (some ⟨P,0,none⟩),.pointer (some ⟨kb,ko+j*15,none⟩),.slice (some ⟨wr.heap.size,0,none⟩) 3 3] (wr.alloc (.cells #[.int .i64 4,.int .i64 5,.int .i64 16] 39)) (WrOut P wr (l++(shK lt (N.ks.take j)).flatMap (par [4,5,16])++par [4,5,16] (N.ks[j].k,shN lt N.ks[j]))) :=
     partA lt W0 P hP N.ks[j] kb (ko+j*15) (KM j hlt) (IH j hlt) (LN j hlt) [4,5,16] (i64_kinds (by decide)) (by decide) wr _ gr hW (by have:=HL.out;have:=LF j hj;have:=sizK_takeS hlt;simp only [List.length_append];omega)
    clear IH KM LN LF FS hW
    go_wp2_with (go_at_call 79;((with_reducible refine A.mono ?_);rintro e w3 ⟨rfl,b3,W3⟩))
    go_roundw
    case rel=>exact ⟨j+1,by omega,by go_num,hbr.trans b3,by rw [HF.out,<- List.append_assoc];exact W3⟩
    case measure=>simp [intOf];omega
   ·obtain rfl:j=N.ks.length:=by omega
    rw [List.take_length] at hW
    clear IH KM LN LF FS
    go_wp2_with fail
    refine bodyPost_ret (results_none rfl _ _ _) rfl ?_
    exact ⟨rfl,hbr,by rw [HR.out];exact hW⟩
 have HR:Hid (R=[wdB lt N]):=by have:=HR.out;rw [if_neg k3,if_neg k4,if_neg k5,if_neg k10,if_neg k14,if_neg k15,if_neg k16] at this;exact this
 have C:=WORD ⟨k3,k4,k5,k10,k14,k15,k16⟩
 have e3:(N.k==3)=false:=by simpa using k3
 have e4:(N.k==4)=false:=by simpa using k4
 have e5:(N.k==5)=false:=by simpa using k5
 have e10:(N.k==10)=false:=by simpa using k10
 have e14:(N.k==14)=false:=by simpa using k14
 have e15:(N.k==15)=false:=by simpa using k15
 have e16:(N.k==16)=false:=by simpa using k16
 have A:=fun w' (q:Wr w' P l)=>add1 P l (wdB lt N) w' q (by have:=HL.out;have:=siz_pos N;omega)
 have WB:=fun w' (q:Below w.heap.size w w')=>hw.below q
 have hPw:=hw.lt
 clear LAM WORD H4 H5 H14 H15 LF IH KM LN k3 k4 k5 k10 k14 k15 k16 hw
 go_enter Tryz.func57,Tryz.ntmps57
 go_wp2_with (first |(go_at_call 82;((with_reducible refine C.mono ?_);rintro e w3 ⟨rfl,b3⟩;(have A3:=A _ (WB _ b3)))) |(go_at_call 81;((with_reducible refine A3.mono ?_);rintro e w4 ⟨rfl,b4,W4⟩)))
 refine bodyPost_ret (results_none rfl _ _ _) rfl ?_
 exact ⟨rfl,(b3.mono (Nat.le_of_lt hPw)).trans b4,by rw [HR.out];exact W4⟩
theorem node_all (lt:Arr->ByteArray):∀ r,NodeSpec lt r
 | 0=>fun W0 P N b off _ _ h=>absurd h (Nat.not_lt_zero _)
 | r+1=>node_step lt r (node_all lt r)
def joinW (l:List ByteArray):ByteArray:=⟨(Lib.join (l.map (·.data.toList)) [32]).toArray⟩
def showT (lt:Arr->ByteArray) (N:Nd):ByteArray:=if dep N<=60/\siz N<=16384/\okN N=true then joinW (shN lt N) else ⟨#[]⟩
theorem tail_len (sep:List UInt8) (M:Nat):∀ r:List (List UInt8),(∀ x∈r,x.length<=M)->(Lib.joinTail sep r).length<=r.length*(sep.length+M)
 | [],_=>by simp [Lib.joinTail]
 | x::r,h=>by
  have h1:=h x (by simp)
  have h2:=tail_len sep M r (fun y hy=>h y (by simp [hy]))
  have e:(Lib.joinTail sep (x::r)).length=sep.length+x.length+(Lib.joinTail sep r).length:=by simp [Lib.joinTail];omega
  rw [e,List.length_cons,Nat.add_mul];omega
theorem join_len (sep:List UInt8) (M:Nat) (l:List (List UInt8)) (h:∀ x∈l,x.length<=M):(Lib.join l sep).length<=l.length*(sep.length+M):=by
 cases l with
 | nil=>simp [Lib.join_nil]
 | cons x r =>
  have h1:=h x (by simp)
  have h2:=tail_len sep M r (fun y hy=>h y (by simp [hy]))
  rw [Lib.join_cons,List.length_append,List.length_cons,Nat.add_mul];omega
theorem joinP (B:Nat) (w:World) (v:Value) (l:List ByteArray) (h:OwnS B w v l) (hn:l.length<=4000000) (hM:∀ s∈l,s.size<=1000000) :
  Calls Tryz.prog 58 #[v,.string ⟨#[32]⟩] w fun e w'=>e=.returned (.string (joinW l))/\Below w.heap.size w w':=by
 have hcells:=fun g (hg:v.ownBlock=some g)=>World.ownsRow.cells h hg
 rcases h.2 with ⟨rfl,hn0⟩ |⟨g,cap,cur,rfl,hB,hh,hnc,-⟩
 ·have e:l=[]:=List.eq_nil_of_length_eq_zero hn0
  subst e
  exact (Tryz.strings_Join_none none 0 ⟨#[32]⟩ w).mono fun e w' ⟨h1,h2⟩=>⟨h1,h2 ▸ Below.refl _ _⟩
 ·have hc:=hcells g rfl
  refine (Tryz.strings_Join g 0 cap l ⟨#[32]⟩ w (fun j x hx=>?_) (Array.getElem?_eq_some_iff.1 hh).1 (by omega) hnc ?_).mono fun e w' ⟨h1,h2⟩=>⟨h1,h2⟩
  ·have:=hc j (.string x) (by simp [hx])
   rw [Shape.add_plain] at this
   exact this
  ·have:=join_len [32] 1000000 (l.map (·.data.toList)) (by
    intro x hx
    obtain ⟨s,hs,rfl⟩:=List.mem_map.1 hx
    have:=hM s hs
    simpa using this)
   rw [List.length_map] at this
   have h2:l.length*([32]:List UInt8).length=l.length:=by simp
   have h3:l.length*(([32]:List UInt8).length+1000000)<=4000000*1000001:=Nat.mul_le_mul hn (Nat.le_refl _)
   exact Nat.le_trans this (Nat.le_trans h3 (by decide))
/-! No word is long. -/
theorem lqK_mem {R:Arr->Prop}{l:List Nd}(h:∀ N∈l,lqN R N):lqK R l:=by
 induction l with
 | nil=>rw [lqK];trivial
 | cons N r ih=>rw [lqK];exact ⟨h N (by simp),ih (fun M hM=>h M (by simp [hM]))⟩
theorem lqB_mem {R:Arr->Prop}{l:List St}(h:∀ S∈l,lqS R S):lqB R l:=by
 induction l with
 | nil=>rw [lqB];trivial
 | cons N r ih=>rw [lqB];exact ⟨h N (by simp),ih (fun M hM=>h M (by simp [hM]))⟩
theorem lqN_mono {R R':Arr->Prop}(hR:∀ A,R A->R' A):∀ (r:Nat) (N:Nd),rkN N<r->lqN R N->lqN R' N
 | 0,_,h,_=>absurd h (Nat.not_lt_zero _)
 | r+1,N,h,q=>by
  rw [lqN_eq] at q ⊢
  refine ⟨fun e=>hR _ (q.1 e),lqK_mem fun M hM=>?_,lqB_mem fun S hS=>?_⟩
  ·obtain ⟨j,hj,rfl⟩:=List.getElem_of_mem hM
   exact lqN_mono hR r _ (by have:=rk_kid N hj;omega) (lqK_at q.2.1 hj)
  ·obtain ⟨j,hj,rfl⟩:=List.getElem_of_mem hS
   have:=lqB_at q.2.2 hj
   rw [lqS_eq] at this ⊢
   exact ⟨fun e=>lqN_mono hR r _ (by have:=rk_body N hj;omega) (this.1 e),lqN_mono hR r _ (by have:=rk_body N hj;omega) this.2⟩
theorem prim_small:∀ i,(primT.getD i ⟨#[]⟩).size<=32:=by
 intro i
 by_cases h:i<56
 ·have:∀ i:Fin 56,(primT.getD i.val ⟨#[]⟩).size<=32:=by decide
  exact this ⟨i,h⟩
 ·have e:primT.getD i ⟨#[]⟩ =⟨#[]⟩:=by rw [List.getD_eq_getElem?_getD,List.getElem?_eq_none (by have:primT.length=56:=rfl;omega)];rfl
  rw [e];decide
theorem op_small:∀ i,(opT.getD i ⟨#[]⟩).size<=32:=by
 intro i
 by_cases h:i<12
 ·have:∀ i:Fin 12,(opT.getD i.val ⟨#[]⟩).size<=32:=by decide
  exact this ⟨i,h⟩
 ·have e:opT.getD i ⟨#[]⟩ =⟨#[]⟩:=by rw [List.getD_eq_getElem?_getD,List.getElem?_eq_none (by have:opT.length=12:=rfl;omega)];rfl
  rw [e];decide
theorem name_small {s:ByteArray}(h:nameB s=true):s.size<=32:=by
 unfold nameB at h;simp only [Bool.and_eq_true,decide_eq_true_eq] at h;exact h.1.1.2
theorem wd_small (lt:Arr->ByteArray) {N:Nd}(ok:okN N=true) (h:N.k=1->(lt N.v).size<=1000000):(wdB lt N).size<=1000000:=by
 unfold wdB
 by_cases k1:N.k=1
 ·rw [if_pos k1];exact h k1
 rw [if_neg k1]
 by_cases k2:N.k=2
 ·rw [if_pos k2]
  rw [ok_eq] at ok;unfold fitB at ok;simp only [k2] at ok;simp at ok
  have:=name_small ok.1.2.2;omega
 rw [if_neg k2]
 have d:∀ s:ByteArray,s.size<=32->s.size<=1000000:=fun s h=>by omega
 repeat' split
 all_goals first | exact d _ (prim_small _) | exact d _ (op_small _) |(exact d _ (by decide))
theorem par_small {enc:List Int}{x:Int × List ByteArray}(h:∀ s∈x.2,s.size<=1000000):∀ s∈par enc x,s.size<=1000000:=by
 intro s hs
 unfold par at hs
 split at hs
 ·simp only [List.mem_cons,List.mem_append,List.not_mem_nil,or_false] at hs
  rcases hs with rfl | hs | rfl
  ·decide
  ·exact h s hs
  ·decide
 ·exact h s hs
theorem kid_small' (lt:Arr->ByteArray) {l:List Nd}(h:∀ N∈l,∀ s∈shN lt N,s.size<=1000000) (i:Nat):∀ s∈(kidW (shK lt l) i).2,s.size<=1000000:=by
 unfold kidW
 rw [shK_map]
 by_cases hi:i<l.length
 ·have e:(l.map fun N=>(N.k,shN lt N)).getD i (0,[]) =(l[i].k,shN lt l[i]):=by simp [hi]
  rw [e];exact h _ (List.getElem_mem hi)
 ·have e:(l.map fun N=>(N.k,shN lt N)).getD i (0,[]) =(0,[]):=by simp [hi]
  rw [e];simp
theorem flat_small (lt:Arr->ByteArray) {l:List Nd}(enc:List Int) (h:∀ N∈l,∀ s∈shN lt N,s.size<=1000000):∀ s∈(shK lt l).flatMap (par enc),s.size<=1000000:=by
 intro s hs
 rw [shK_map,List.mem_flatMap] at hs
 obtain ⟨x,hx,hs⟩:=hs
 obtain ⟨N,hN,rfl⟩:=List.mem_map.1 hx
 exact par_small (h N hN) s hs
theorem app_small {a b:List ByteArray}(h:∀ s∈a,s.size<=1000000) (g:∀ s∈b,s.size<=1000000):∀ s∈a++b,s.size<=1000000:=by
 intro s hs
 rcases List.mem_append.1 hs with q | q
 ·exact h s q
 ·exact g s q
theorem one_small {t:ByteArray}(h:t.size<=1000000):∀ s∈[t],s.size<=1000000:=by intro s hs;simp at hs;subst hs;exact h
theorem shC_small (lt:Arr->ByteArray) {l:List St}(h:∀ S∈l,∀ s∈shS lt S,s.size<=1000000):∀ s∈shC lt l,s.size<=1000000:=by
 induction l with
 | nil=>rw [shC];simp
 | cons S r ih=>rw [shC];exact app_small (a:=[⟨#[59]⟩]) (one_small (by decide)) (app_small (h S (by simp)) (ih (fun T hT=>h T (by simp [hT]))))
theorem shB_small (lt:Arr->ByteArray) {l:List St}(h:∀ S∈l,∀ s∈shS lt S,s.size<=1000000):∀ s∈shB lt l,s.size<=1000000:=by
 cases l with
 | nil=>rw [shB];simp
 | cons S r=>rw [shB];exact app_small (h S (by simp)) (shC_small lt (fun T hT=>h T (by simp [hT])))
theorem sh_small (lt:Arr->ByteArray):∀ (r:Nat) (N:Nd),rkN N<r->okN N=true->lqN (fun A=>(lt A).size<=1000000) N->∀ s∈shN lt N,s.size<=1000000
 | 0,_,h,_,_=>absurd h (Nat.not_lt_zero _)
 | r+1,N,h,ok,q=>by
  rw [lqN_eq] at q
  have hk:=okK_allP.1 (ok_kidsAll ok)
  have IH:∀ M∈N.ks,∀ s∈shN lt M,s.size<=1000000:=fun M hM=>by
   obtain ⟨j,hj,rfl⟩:=List.getElem_of_mem hM
   exact sh_small lt r _ (by have:=rk_kid N hj;omega) (hk j hj) (lqK_at q.2.1 hj)
  rw [shN_eq]
  have KD:=fun enc i=>par_small (enc:=enc) (kid_small' lt IH i)
  split
  ·exact flat_small lt _ IH
  split
  ·exact app_small (KD _ _) (KD _ _)
  split
  ·exact app_small (KD _ _) (app_small (KD _ _) (KD _ _))
  split
  ·rename_i k10
   have ol:=okL_allP.1 (ok_k10 ok k10)
   refine app_small (a:=[⟨#[123]⟩]) (one_small (by decide)) (app_small (shB_small lt fun S hS=>?_) (one_small (by decide)))
   obtain ⟨j,hj,rfl⟩:=List.getElem_of_mem hS
   have ql:=lqB_at q.2.2 hj
   rw [lqS_eq] at ql
   have ond:=okS_nd (ol j hj)
   have nd:=sh_small lt r N.bd[j].nd (by have:=rk_body N hj;omega) ond.1 ql.2
   rw [shS_eq]
   refine app_small ?_ nd
   split
   ·rename_i k2
    have:nameB N.bd[j].n=true:=by
     have:=ol j hj
     rw [okS_eqP,if_neg (by omega),if_pos k2] at this
     simp only [Bool.and_eq_true] at this
     exact this.2.1.1.1
    have:=name_small this
    exact app_small (a:=[N.bd[j].n]) (one_small (by omega)) (one_small (by decide))
   split
   ·rename_i k3
    exact app_small (sh_small lt r N.bd[j].te (by have:=rk_body N hj;omega) (ond.2.1 k3) (ql.1 k3)) (one_small (by decide))
   ·simp
  split
  ·exact app_small (KD _ _) (KD _ _)
  split
  ·exact app_small (KD _ _) (app_small (KD _ _) (KD _ _))
  split
  ·exact flat_small lt _ IH
  ·exact one_small (wd_small lt ok q.1)
theorem LitOK.below {w w':World}{A:Arr}{s:ByteArray}(h:LitOK w A s) (hb:Below w.heap.size w w'):LitOK w' A s:=fun v u hu hA=>h v u (Below.then hb hu) hA
theorem showP (lt:Arr->ByteArray) (cs:List Value) (N:Nd) (w:World) (h:NdV w cs N) (hT:Tab w) (hs:siz N<=2000000) (lq:lqN (fun A=>LitOK w A (lt A)/\(lt A).size<=1000000) N) :
  Calls Tryz.prog 35 #[.agg cs.toArray] w fun e w'=>e=.returned (.string (showT lt N))/\Below w.heap.size w w':=by
 have lC:=h.len
 have hC0:=cells_new w cs 49
 have B1:=below_new w (.cells cs.toArray 49)
 have T:=top_at (h.below B1) 49 49
 have B2:=Below.then (Below.then B1 (below_new _ (.cells cs.toArray 49))) (below_new _ (.cells (topV (some ⟨(w.alloc (.cells cs.toArray 49)).heap.size,0,none⟩) 1 1).toArray 49))
 rw [show (w.alloc (.cells cs.toArray 49)).heap.size=w.heap.size+1 by simp] at T B2
 have E:=extP (topN N) (w.heap.size+1+1) 0 _ T (frozen_new _ _ _ _ (by simp)) (by rw [siz_topN];omega)
 have VV:=fun w' (g:Below w.heap.size w w') (m:NdM w' w.heap.size 0 N)=>validP N w.heap.size 0 w' m (hT.below g)
 have M0:NdM (w.alloc (.cells cs.toArray 49)) w.heap.size 0 N:=h.mem _
 have M2:=(M0.below (below_new _ (.cells cs.toArray 49))).below (below_new _ (.cells (topV (some ⟨w.heap.size+1,0,none⟩) 1 1).toArray 49))
 have B12:Below (w.alloc (.cells cs.toArray 49)).heap.size (w.alloc (.cells cs.toArray 49)) _:=Below.then (below_new (w.alloc (.cells cs.toArray 49)) (.cells cs.toArray 49)) (below_new _ (.cells (topV (some ⟨w.heap.size+1,0,none⟩) 1 1).toArray 49))
 obtain ⟨W1,hW1⟩:∃ W1,w.alloc (.cells cs.toArray 49)=W1:=⟨_,rfl⟩
 have E:=E.mono (R':=fun e w'=>∃ x:Int,e=.returned (.int .i64 x)/\ExtR (topN N) x/\Below w.heap.size w w'/\NdM w' w.heap.size 0 N/\Below W1.heap.size W1 w') (by
  rintro e w' ⟨x,h1,h2,h3⟩
  exact ⟨x,h1,h2,Below.then B2 h3,M2.below h3,hW1 ▸ Below.then B12 h3⟩)
 have NN:∀ w' (g:Below w.heap.size w w') (q:siz N<=20000) (g1:Below W1.heap.size W1 w') (ok:okN N=true),Calls Tryz.prog 57 #[.pointer (some ⟨w'.heap.size,0,none⟩),.pointer (some ⟨w.heap.size,0,none⟩)] (w'.alloc (.cells #[.slice none 0 0] 102)) (WrOut w'.heap.size (w'.alloc (.cells #[.slice none 0 0] 102)) (shN lt N)):=by
  intro w' g q g1 ok
  have hB:Below w.heap.size w W1:=hW1 ▸ B1
  have hN1:NdM W1 w.heap.size 0 N:=hW1 ▸ M0
  have C:=node_all lt (rkN N+1) W1 w'.heap.size N w.heap.size 0 g1.size (hT.below hB) (Nat.lt_succ_self _) hN1 ok (lqN_mono (fun A hA=>hA.1.below hB) _ N (Nat.lt_succ_self _) lq) (w'.alloc (.cells #[.slice none 0 0] 102)) [] (Below.then g1 (below_new _ _)) ⟨.slice none 0 0,by simp,by simp,World.ownsRow_nil _ _ _ _⟩ (by simp;omega)
  rw [List.nil_append] at C
  exact C
 have JJ:=fun (ok:okN N=true) (q:siz N<=20000) (w':World) (v:Value) (P:Nat) (o:OwnS (P+1) w' v (shN lt N))=>joinP (P+1) w' v (shN lt N) o (by have:=shN_len lt _ N (Nat.lt_succ_self _) ok;omega) (sh_small lt _ N (Nat.lt_succ_self _) ok (lqN_mono (fun A hA=>hA.2) _ N (Nat.lt_succ_self _) lq))
 have SD:Hid (ExtR (topN N) 0->siz N<=16384/\dep N<=60):=fun h=>by
  have:=h.2.2 rfl;rw [siz_topN,dep_topN] at this;omega
 have SX:Hid (∀ x,ExtR (topN N) x->(x != 0)=true->showT lt N =⟨#[]⟩):=fun x h e=>by
  have hx:¬ x=0:=by simpa using e
  unfold showT
  rw [if_neg]
  rintro ⟨d,s,-⟩
  have:=h.1 (by rw [siz_topN];omega)
  rw [dep_topN,if_neg (by omega)] at this
  exact hx this
 have SY:Hid (ExtR (topN N) 0->showT lt N=if okN N=true then joinW (shN lt N) else ⟨#[]⟩):=fun h=>by
  obtain ⟨s,d⟩:=SD.out h
  unfold showT
  by_cases o:okN N=true
  ·rw [if_pos o,if_pos ⟨d,s,o⟩]
  ·rw [if_neg o,if_neg (fun q=>o q.2.2)]
 have SD1:∀ x,ExtR (topN N) x->x=0->siz N<=20000:=fun x h e=>by subst e;have:=SD.out h;omega
 have SD2:∀ x,ExtR (topN N) x->x=0->dep N<=100:=fun x h e=>by subst e;have:=SD.out h;omega
 have SZ:∀ x,ExtR (topN N) x->x=0->Hid (showT lt N=if okN N=true then joinW (shN lt N) else ⟨#[]⟩):=fun x h e=>by subst e;exact SY.out h
 have SX:=fun x h e=>(show Hid (showT lt N =⟨#[]⟩) from SX.out x h e)
 clear T M0 M2 h hT hs B2 B12 lq hW1 SY SD
 obtain ⟨R,hR⟩:∃ R,showT lt N=R:=⟨_,rfl⟩
 simp only [hR] at SX SZ
 rw [hR]
 clear hR
 cases V:okN N with
 | false =>
  simp only [V] at VV SZ
  clear NN JJ V
  go_enter Tryz.func35,Tryz.ntmps35
  go_wp2_with (first |((with_reducible show wpList _ _ _ ({ dst:=_,op:=Op.load 49 _,type:=_,pos:=_,after:=_,guard:=none }::_) _ _);refine wpList_load_node rfl rfl rfl hC0 lC ?_) |((with_reducible show wpList _ _ _ ({ dst:=_,op:=Op.buildSlice 47 _ _,type:=_,pos:=_,after:=_,guard:=none }::_) _ _);refine wpList_slice_node rfl rfl rfl lC ?_) |((with_reducible show wpList _ _ _ ({ dst:=_,op:=Op.build 49 _,type:=_,pos:=_,after:=_,guard:=none }::_) _ _);refine wpList_build_top rfl rfl rfl ?_) |(go_at_call 47;((with_reducible refine E.mono ?_);rintro e w4 ⟨x,rfl,hx,b4,m4,t4⟩;(have V4:=VV _ b4 m4);(have hx0:(x=0/\(x != 0)=false)∨(x != 0)=true:=by cases q:(x != 0) with | true=>exact Or.inr rfl | false=>exact Or.inl ⟨by simpa using q,rfl⟩);rcases hx0 with ⟨x0,hx0⟩ | hx0)) |(go_at_call 56;((with_reducible refine (V4 (SD1 _ hx x0) (SD2 _ hx x0)).mono ?_);rintro e w5 ⟨rfl,b5⟩;(have q1:=hx))))
  all_goals go_ret
  ·exact ⟨by rw [(SZ _ hx x0).out];rfl,Below.then b4 b5⟩
  ·exact ⟨by rw [(SX _ hx hx0).out];rfl,b4⟩
 | true =>
  have JJ:=JJ V
  have NN:=fun w' g q g1=>NN w' g q g1 V
  simp only [V] at VV SZ
  clear V
  go_enter Tryz.func35,Tryz.ntmps35
  go_wp2_with (first |((with_reducible show wpList _ _ _ ({ dst:=_,op:=Op.load 49 _,type:=_,pos:=_,after:=_,guard:=none }::_) _ _);refine wpList_load_node rfl rfl rfl hC0 lC ?_) |((with_reducible show wpList _ _ _ ({ dst:=_,op:=Op.buildSlice 47 _ _,type:=_,pos:=_,after:=_,guard:=none }::_) _ _);refine wpList_slice_node rfl rfl rfl lC ?_) |((with_reducible show wpList _ _ _ ({ dst:=_,op:=Op.build 49 _,type:=_,pos:=_,after:=_,guard:=none }::_) _ _);refine wpList_build_top rfl rfl rfl ?_) |(go_at_call 47;((with_reducible refine E.mono ?_);rintro e w4 ⟨x,rfl,hx,b4,m4,t4⟩;(have V4:=VV _ b4 m4);(have hx0:(x=0/\(x != 0)=false)∨(x != 0)=true:=by cases q:(x != 0) with | true=>exact Or.inr rfl | false=>exact Or.inl ⟨by simpa using q,rfl⟩);rcases hx0 with ⟨x0,hx0⟩ | hx0)) |(go_at_call 56;((with_reducible refine (V4 (SD1 _ hx x0) (SD2 _ hx x0)).mono ?_);rintro e w5 ⟨rfl,b5⟩;(have b45:=Below.then b4 b5);(have N5:=NN _ b45 (SD1 _ hx x0) (Below.then t4 b5)))) |(go_at_call 57;((with_reducible refine N5.mono ?_);rintro e w6 ⟨rfl,b6,W6⟩;(obtain ⟨v,c6,f6,o6⟩:=W6);(have J6:=JJ (SD1 _ hx x0) _ _ _ o6);(obtain ⟨a6,k6,rfl⟩:=o6.form))) |(go_at_call 58;((with_reducible refine J6.mono ?_);rintro e w7 ⟨rfl,b7⟩)))
  all_goals go_ret
  ·exact ⟨by rw [(SZ _ hx x0).out];rfl,(Below.then b45 ((below_new _ _).trans (b6.mono (Nat.le_refl _)))).trans (b7.mono (by have:=b45.size;have:=b6.size;simp at this;omega))⟩
  ·exact ⟨by rw [(SX _ hx hx0).out];rfl,b4⟩
end Go.Proofs.YtalkinnbfglkdaaGreatDoor.Syn
