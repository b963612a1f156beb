/-
  Layer 13: the reference's Print and Compact. (Written by wip/gen/printer-r5.py.)
-/
import Derived.Test.YtalkinnbfglkdaaGreatDoorPt43
import Derived.Test.YtalkinnbfglkdaaGreatDoorPt17
namespace Go.Proofs.YtalkinnbfglkdaaGreatDoor.Syn
open Go.RowKit Go.Shelf Go.Maps Go.Proofs.YtalkinnbfglkdaaGreatDoor.Shape
set_option linter.unusedVariables false
set_option linter.unusedSimpArgs false
set_option maxRecDepth 100000
theorem good_small:Good litW (fun l=>∀ s∈l,s.size<=1000000) where
 nil s hs:=by cases hs
 app a b h g:=app_small h g
 par a h:=app_small (a:=[⟨#[40]⟩]) (one_small (by decide)) (app_small h (one_small (by decide)))
 lam a h:=app_small (a:=[⟨#[123]⟩]) (one_small (by decide)) (app_small h (one_small (by decide)))
 semi:=one_small (by decide)
 colon:=one_small (by decide)
 arrow:=one_small (by decide)
 name s h:=one_small (by have:=name_small h;omega)
 word N ok h:=one_small (wd_small litW ok (fun k1=>by
  unfold leafB at h
  rw [if_pos k1] at h
  simp only [Bool.and_eq_true,beq_iff_eq] at h
  exact (lit_sizes h.1.2 h.2).2))
theorem step_le (lv:Nat) (p:ByteArray):stepL lv p<=lv+1:=by unfold stepL;split;omega;split <;> omega
theorem outW_len (nb:List UInt8->List UInt8->Bool) (sep ind:List UInt8) (hs:sep.length<=1) (hi:ind.length<=2):∀ (Q:List ByteArray) (bf:List UInt8) (lv:Nat),(∀ p∈Q,p.size<=1000000)->lv+Q.length<=400000->(outW nb sep ind bf lv Q).length<=Q.length*1000001
 | [],_,_,_,_=>Nat.zero_le _
 | p::r,bf,lv,h,hl=>by
  have hp:=h p (by simp)
  have hr:∀ q∈r,q.size<=1000000:=fun q hq=>h q (by simp [hq])
  simp only [List.length_cons] at hl ⊢
  have st:=step_le lv p
  rw [outW,Nat.add_mul]
  have hpl:p.data.toList.length=p.size:=rfl
  split
  ·have ih:=outW_len nb sep ind hs hi r [] lv hr (by omega)
   have e:((List.replicate lv ind).flatten).length<=2*lv:=by
    rw [List.length_flatten,List.map_replicate,List.sum_replicate_nat]
    calc lv*ind.length<=lv*2:=Nat.mul_le_mul_left _ hi
     _=2*lv:=Nat.mul_comm _ _
   simp only [List.length_append]
   omega
  ·have ih:=outW_len nb sep ind hs hi r p.data.toList (stepL lv p) hr (by omega)
   have e:(if (bf != []&&nb bf p.data.toList)=true then ([32]:List UInt8) else []).length<=1:=by split <;> simp
   simp only [List.length_append]
   omega
theorem shB_count {l:List St}(ok:okL l=true):(shB litW l).length<=8*sizB l:=shB_len litW l (fun i hi=>stmt_len litW (okL_allP.1 ok i hi) (shN_len litW _ _ (Nat.lt_succ_self _) (okS_nd (okL_allP.1 ok i hi)).1) (fun k=>shN_len litW _ _ (Nat.lt_succ_self _) ((okS_nd (okL_allP.1 ok i hi)).2.1 k)))
theorem right_parts {l:List St}(h:rightBE l=0):okL l=true/\depB l<=60/\sizB l<=16384/\l.length<=1000/\∀ S∈l,¬ S.k=3:=by
 unfold rightBE at h
 by_cases a:1000<l.length
 ·rw [if_pos a] at h;cases h
 rw [if_neg a] at h
 by_cases b:60<depB l
 ·rw [if_pos b] at h;cases h
 rw [if_neg b] at h
 by_cases c:16384<sizB l
 ·rw [if_pos c] at h;cases h
 rw [if_neg c] at h
 by_cases d:okB l=true/\outB l=true
 ·obtain ⟨d1,d2⟩:=d
  unfold okB at d1
  unfold outB at d2
  simp only [Bool.and_eq_true,Bool.not_eq_true'] at d1 d2
  refine ⟨d1.1.2,by omega,by omega,by omega,fun S hS e=>?_⟩
  have:=d2.1.1.1.1.1
  rw [List.any_eq_false] at this
  exact this S hS (by rw [e];rfl)
 ·rw [if_neg d] at h;cases h
theorem wide_len {l:List St}(h:rightBE l=0) (nb:List UInt8->List UInt8->Bool) {sep ind:List UInt8}(hs:sep.length<=1) (hi:ind.length<=2):(outW nb sep ind [] 0 (shB litW l)).length<=200000000000:=by
 obtain ⟨ok,-,sz,-,-⟩:=right_parts h
 have h1:=shB_count ok
 have h2:=outW_len nb sep ind hs hi (shB litW l) [] 0 (good_small.stmts ok) (by omega)
 have h3:(shB litW l).length*1000001<=131072*1000001:=Nat.mul_le_mul_right _ (by omega)
 omega
theorem ba_eq {a b:ByteArray}(h:a.data.toList=b.data.toList):a=b:=by apply ByteArray.ext;exact Array.ext' h
end Go.Proofs.YtalkinnbfglkdaaGreatDoor.Syn
