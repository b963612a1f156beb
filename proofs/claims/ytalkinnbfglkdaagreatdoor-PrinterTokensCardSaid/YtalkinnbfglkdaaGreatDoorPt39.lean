/-
  Layer 10: the texts that the reference's show writes, out of the words that Show writes.
  Layer 10: the reference's Show; the program's Show at a node that is not valid. (Written by wip/gen/syn-t5.py.)
-/
import Derived.Test.YtalkinnbfglkdaaGreatDoorPt38
import Derived.Test.YtalkinnbfglkdaaGreatDoorPt8
import Derived.BigQuiet
import Derived.Test.YtalkinnbfglkdaaGreatDoorPt14
import Derived.Test.YtalkinnbfglkdaaGreatDoorPt13
import Derived.Test.YtalkinnbfglkdaaGreatDoorPt4
import Derived.StillTailTactics
import Derived.Test.YtalkinnbfglkdaaGreatDoorPt30
import Derived.Test.YtalkinnbfglkdaaGreatDoorPt22
namespace Go.Proofs.YtalkinnbfglkdaaGreatDoor.Syn
open Go.RowKit Go.Shelf Go.Maps Go.Proofs.YtalkinnbfglkdaaGreatDoor.Shape
set_option linter.unusedVariables false
set_option linter.unusedSimpArgs false
set_option maxRecDepth 100000
def blk:ByteArray:=⟨#[32]⟩
def T (lt:Arr->ByteArray) (N:Nd):ByteArray:=joinW (shN lt N)
theorem par_ne {enc:List Int}{x:Int × List ByteArray}(h:x.2≠[]):par enc x≠[]:=by
 unfold par;split
 ·simp
 ·exact h
theorem ok_k3 {N:Nd}(h:okN N=true) (hk:N.k=3):2<=N.ks.length:=by
 rw [okN_eqP,if_neg (by omega)] at h
 simp only [Bool.and_eq_true,Bool.or_eq_true] at h
 rcases h.2 with g | g
 ·unfold leafB at g
  rw [if_neg (by omega),if_neg (by omega),if_neg (by omega),if_neg (by omega),if_neg (by omega),if_neg (by omega)] at g
  cases g
 ·have g:=g.1
  unfold innerB at g
  rw [if_pos hk] at g
  simp only [Bool.and_eq_true,decide_eq_true_eq] at g
  exact g.2.1.2
theorem ok_k16 {N:Nd}(h:okN N=true) (hk:N.k=16):1<=N.ks.length:=by
 rw [okN_eqP,if_neg (by omega)] at h
 simp only [Bool.and_eq_true,Bool.or_eq_true] at h
 rcases h.2 with g | g
 ·unfold leafB at g
  rw [if_neg (by omega),if_neg (by omega),if_neg (by omega),if_neg (by omega),if_neg (by omega),if_neg (by omega)] at g
  cases g
 ·have g:=g.1
  unfold innerB at g
  rw [if_neg (by omega),if_neg (by omega),if_neg (by omega),if_neg (by omega),if_neg (by omega),if_pos hk] at g
  simp only [Bool.and_eq_true,Bool.or_eq_true] at g
  rcases g.2.2 with (g | g) | g
  ·obtain ⟨A,B,e⟩:=cls2 g;rw [e];simp
  ·obtain ⟨A,B,C,e⟩:=cls3 g;rw [e];simp
  ·obtain ⟨A,B,C,e⟩:=cls3 g;rw [e];simp
theorem ok_ks0 {N:Nd}(h:okN N=true) {j:Nat}(hj:j<N.ks.length):okN N.ks[j]=true:=okK_allP.1 (ok_kidsAll h) j hj
theorem flat_ne (lt:Arr->ByteArray) (enc:List Int) {l:List Nd}(hl:1<=l.length) (h:∀ i (h:i<l.length),shN lt l[i]≠[]):(shK lt l).flatMap (par enc)≠[]:=by
 cases l with
 | nil=>simp at hl
 | cons N r =>
  rw [shK,List.flatMap_cons]
  have:=par_ne (enc:=enc) (x:=(N.k,shN lt N)) (h 0 (by simp))
  simp [this]
theorem app_ne {a b:List ByteArray}(h:a≠[]):a++b≠[]:=by simp [h]
theorem shN_ne (lt:Arr->ByteArray):∀ (r:Nat) (N:Nd),rkN N<r->okN N=true->shN lt N≠[]
 | 0,_,h,_=>absurd h (Nat.not_lt_zero _)
 | r+1,N,h,ok=>by
  have ihk:∀ i (h:i<N.ks.length),shN lt N.ks[i]≠[]:=fun i hi=>shN_ne lt r _ (by have:=rk_kid N hi;omega) (ok_ks0 ok hi)
  rw [shN_eq]
  split
  ·rename_i hk;exact flat_ne lt _ (by have:=ok_k3 ok hk;omega) ihk
  split
  ·rename_i hk
   obtain ⟨A,B,e⟩:=ok_k4 ok hk
   have h0:=ihk 0 (by rw [e];simp)
   simp only [e] at h0 ⊢
   exact app_ne (par_ne h0)
  split
  ·rename_i hk
   obtain ⟨A,B,C,e⟩:=ok_k5 ok hk
   have h0:=ihk 1 (by rw [e];simp)
   simp only [e] at h0 ⊢
   exact app_ne (par_ne h0)
  split
  ·simp
  split
  ·rename_i hk
   obtain ⟨A,B,e⟩:=ok_k14 ok hk
   have h0:=ihk 1 (by rw [e];simp)
   simp only [e] at h0 ⊢
   exact app_ne (par_ne h0)
  split
  ·rename_i hk
   obtain ⟨A,B,C,e⟩:=ok_k15 ok hk
   have h0:=ihk 1 (by rw [e];simp)
   simp only [e] at h0 ⊢
   exact app_ne (par_ne h0)
  split
  ·rename_i hk;exact flat_ne lt _ (ok_k16 ok hk) ihk
  ·simp
theorem shN_ne' (lt:Arr->ByteArray) {N:Nd}(ok:okN N=true):shN lt N≠[]:=shN_ne lt _ N (Nat.lt_succ_self _) ok
def LT (lt:Arr->ByteArray) (enc:List Int) (l:List Nd):ByteArray:=joinW ((shK lt l).flatMap (par enc))
def brk:ByteArray:=⟨#[32,59,32]⟩
def arw:ByteArray:=⟨#[32,60,45,32]⟩
def col:ByteArray:=⟨#[32,58,32]⟩
def HT (lt:Arr->ByteArray) (S:St) (s:ByteArray):ByteArray:=if S.k=2 then s++(S.n++arw) else if S.k=3 then s++(T lt S.te++col) else s
mutual
theorem lq_ok {R:Arr->Prop}(hR:∀ A,rightE A=0->litB A=true->R A):∀ N,okN N=true->lqN R N
 | .mk k a c t p o v ks bd d s z,h=>by
  rw [lqN]
  rw [okN] at h
  simp only [Bool.and_eq_true] at h
  have hn:=h.1
  have h:=h.2
  by_cases k10:k=10
  ·rw [if_pos k10] at h
   simp only [Bool.and_eq_true] at h
   have e:=emp_ks (N:=.mk k a c t p o v ks bd d s z) h.1.1.1.1
   have e:ks=[]:=e
   subst e
   exact ⟨fun k1=>by omega,by rw [lqK];trivial,lqB_ok hR bd h.1.2.1.2⟩
  ·rw [if_neg k10] at h
   simp only [Bool.or_eq_true,Bool.and_eq_true] at h
   have hb:(Nd.mk k a c t p o v ks bd d s z).bd=[]:=ok_bd (N:=.mk k a c t p o v ks bd d s z) (by rw [okN];simp only [Bool.and_eq_true];refine ⟨hn,?_⟩;rw [if_neg k10];simp only [Bool.or_eq_true,Bool.and_eq_true];exact h) k10
   have hb:bd=[]:=hb
   subst hb
   refine ⟨fun k1=>?_,?_,by rw [lqB];trivial⟩
   ·rcases h with h | h
    ·unfold leafB at h
     rw [if_pos (show (Nd.mk k a c t p o v ks [] d s z).k=1 from k1)] at h
     simp only [Bool.and_eq_true,beq_iff_eq] at h
     exact hR v h.1.2 h.2
    ·have h:=h.1
     unfold innerB at h
     have e:(Nd.mk k a c t p o v ks [] d s z).k=1:=k1
     rw [if_neg (by omega),if_neg (by omega),if_neg (by omega),if_neg (by omega),if_neg (by omega),if_neg (by omega)] at h
     simp at h
   ·rcases h with h | h
    ·have e:=leaf_ks h
     have e:ks=[]:=e
     subst e
     rw [lqK];trivial
    ·exact lqK_ok hR ks h.2
theorem lqK_ok {R:Arr->Prop}(hR:∀ A,rightE A=0->litB A=true->R A):∀ l,okK l=true->lqK R l
 | [],_=>by rw [lqK];trivial
 | N::r,h=>by
  rw [okK,Bool.and_eq_true] at h
  rw [lqK]
  exact ⟨lq_ok hR N h.1,lqK_ok hR r h.2⟩
theorem lqS_ok {R:Arr->Prop}(hR:∀ A,rightE A=0->litB A=true->R A):∀ S,okS S=true->lqS R S
 | .mk k a n s te nd,h=>by
  rw [okS] at h
  simp only [Bool.and_eq_true] at h
  rw [lqS]
  refine ⟨fun k3=>?_,lq_ok hR nd h.1.2⟩
  have h:=h.2
  rw [if_neg (by omega),if_neg (by omega),if_pos k3] at h
  simp only [Bool.and_eq_true] at h
  exact lq_ok hR te h.1.1.1.2
theorem lqB_ok {R:Arr->Prop}(hR:∀ A,rightE A=0->litB A=true->R A):∀ l,okL l=true->lqB R l
 | [],_=>by rw [lqB];trivial
 | S::r,h=>by
  rw [okL,Bool.and_eq_true] at h
  rw [lqB]
  exact ⟨lqS_ok hR S h.1,lqB_ok hR r h.2⟩
end
end Go.Proofs.YtalkinnbfglkdaaGreatDoor.Syn
