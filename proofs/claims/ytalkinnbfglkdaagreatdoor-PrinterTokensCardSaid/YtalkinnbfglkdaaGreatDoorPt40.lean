/-
  Layer 10: the literals within a valid node: their text, by the program and by the reference.
-/
import Derived.Test.YtalkinnbfglkdaaGreatDoorPt26
import Derived.Test.YtalkinnbfglkdaaGreatDoorPt39
namespace Go.Proofs.YtalkinnbfglkdaaGreatDoor.Syn
open Go.RowKit Go.Shelf Go.Maps Go.Proofs.YtalkinnbfglkdaaGreatDoor.Shape
set_option linter.unusedVariables false
set_option linter.unusedSimpArgs false
set_option maxRecDepth 100000
def litW (A:Arr):ByteArray:=⟨(litS A).toArray⟩
theorem lit_forms {A:Arr}(hx:rightE A=0) (hb:litB A=true):(∃ k x,(k=1∨k=2)/\A=.mk k [] [x] [])∨(∃ n nu,A=.mk 2 [n] nu []/\(∀ x∈nu,0<=x/\x<=1114111)/\nu.length<=65536):=by
 obtain ⟨k,sh,nu,it⟩:=A
 have V:=val_of hx
 have hk:=V.kind
 unfold litB at hb
 simp only [Bool.or_eq_true,Bool.and_eq_true,beq_iff_eq,bne_iff_ne,Arr.shape,Arr.kind] at hb
 rcases hb with ⟨h0,h3⟩ |⟨h1,h2⟩
 ·have e:sh=[]:=List.eq_nil_of_length_eq_zero (by omega)
  subst e
  have hs:=V.size
  rw [size12 (A:=.mk k [] nu it) (by simpa [Arr.kind] using h3) (by simpa [Arr.kind] using hk)] at hs
  have e2:it=[]:=V.plain h3
  subst e2
  simp [Arr.nums,pr] at hs
  have hl:nu.length=1:=by omega
  match nu,hl with
  | [x],_=>exact Or.inl ⟨k,x,by omega,rfl⟩
 ·subst h2
  have hs:=V.size
  rw [size12 (A:=.mk 2 sh nu it) (by simp [Arr.kind]) (by simp [Arr.kind])] at hs
  have e2:it=[]:=V.plain (by decide)
  subst e2
  have hl:sh.length=1:=by omega
  match sh,hl with
  | [n],_ =>
   have hd:=V.dims
   refine Or.inr ⟨n,nu,rfl,chars_bd V.elems,?_⟩
   have h8:=dims_parts hd
   simp [Arr.nums,pr] at hs
   have hn:=h8.2.2
   simp [nz] at hn
   split at hn <;> omega
theorem lit_vec (n:Int) (nu:List Int):litS (.mk 2 [n] nu [])=quoS nu:=by
 rw [litS,litT,if_neg (by simp),if_pos ⟨by simp,Or.inl rfl⟩,vecS,if_pos rfl]
theorem scal_size (k x:Int) (hk:k=1∨k=2):aSize (.mk k [] [x] [])=1:=by
 rw [size12 (A:=.mk k [] [x] []) (by simp [Arr.kind];omega) (by simp [Arr.kind];omega)]
 simp [Arr.nums]
theorem scal_len {k x:Int}(hk:k=1∨k=2) (h:∀ y∈[x],elemB k y=true):((elsT (.mk k [] [x] [])).headD []).length<=30:=by
 rcases hk with rfl | rfl
 ·have e:elsT (.mk 1 [] [x] [])=[x].map Num.shL:=by simp [elsT,Arr.kind,Arr.nums]
  have h2:=ints_tot [x] h
  have h3:=head_le ([x].map Num.shL)
  rw [e]
  simp only [List.length_cons,List.length_nil] at h2
  omega
 ·have e:elsT (.mk 2 [] [x] [])=[x].map fun x=>39::(chS x 39++[39]):=by simp [elsT,Arr.kind,Arr.nums]
  have:=chS_len x 39 (chars_bd h x (by simp)).2
  rw [e]
  simp only [List.map_cons,List.map_nil,List.headD_cons,List.length_cons,List.length_append,List.length_nil]
  omega
theorem num_pos (x:Int):0 <(Num.shL x).length:=by
 by_cases h:x<0
 ·rw [Num.shL_neg h];simp
 ·rw [Num.shL_pos h];exact List.length_pos_iff.2 (Num.dg_ne _)
theorem lit_prog {A:Arr}(hx:rightE A=0) (hb:litB A=true) (W0:World) (hT:Tok.TZ W0) (hg:10<W0.heap.size):LitOK W0 A (litW A):=by
 intro v w g h
 have hT:=Tok.TZ.below hT g
 have hg:=Nat.lt_of_lt_of_le hg g.size
 refine LiteralG v A (litS A) w h hx hT hg fun w X v hT hg hB hA=>?_
 rcases lit_forms hx hb with ⟨k,x,hk,rfl⟩ |⟨n,nu,rfl,hc,hl⟩
 ·have V:=val_of hx
  have hk2:1<=k/\k<=2:=by omega
  have hz:=scal_size k x hk
  have hl:(elsT (.mk k [] [x] [])).length=1:=by rw [els_len (A:=.mk k [] [x] []) (by simpa [Arr.kind] using V.kind),hz]
  have hh:((elsT (.mk k [] [x] [])).headD []).length<=30:=scal_len hk V.elems
  have he:litS (.mk k [] [x] []) =(elsT (.mk k [] [x] [])).headD []:=by rw [litS_els,litT,if_pos (by simp [Arr.shape])]
  rw [he]
  exact wlScal [] [x] [] k 1 hz hk2 (fun h2=>by subst h2;exact chars_bd V.elems) (by omega) (by rw [headD_at0 (by omega)] at hh;simp only [List.length_nil];omega) v w X hT hg hB hA rfl (Nat.le_refl _) rfl
 ·rw [lit_vec]
  exact wlChar [n] nu [] _ rfl hc (by omega) v w X hT hg hB hA rfl
theorem lit_sizes {A:Arr}(hx:rightE A=0) (hb:litB A=true):0 <(litW A).size/\(litW A).size<=1000000:=by
 have e:(litW A).size =(litS A).length:=by show (litS A).toArray.size=_;simp
 rw [e]
 rcases lit_forms hx hb with ⟨k,x,hk,rfl⟩ |⟨n,nu,rfl,hc,hl⟩
 ·have V:=val_of hx
  have hh:((elsT (.mk k [] [x] [])).headD []).length<=30:=scal_len hk V.elems
  have he:litS (.mk k [] [x] []) =(elsT (.mk k [] [x] [])).headD []:=by rw [litS_els,litT,if_pos (by simp [Arr.shape])]
  refine ⟨?_,by rw [he];omega⟩
  rw [litS,litT,if_pos (by simp),if_neg (by omega)]
  simp only [List.map_cons,List.headD_cons]
  split
  ·simp
  ·exact num_pos x
 ·rw [lit_vec,quoS]
  have:=quo_tot nu hc
  simp only [List.length_cons,List.length_append,List.length_nil]
  omega
theorem lq_prog (W0:World) (hT:Tok.TZ W0) (hg:10<W0.heap.size) (N:Nd) (h:okN N=true):lqN (fun A=>LitOK W0 A (litW A)/\(litW A).size<=1000000) N :=
 lq_ok (fun A hx hb=>⟨lit_prog hx hb W0 hT hg,(lit_sizes hx hb).2⟩) N h
end Go.Proofs.YtalkinnbfglkdaaGreatDoor.Syn
