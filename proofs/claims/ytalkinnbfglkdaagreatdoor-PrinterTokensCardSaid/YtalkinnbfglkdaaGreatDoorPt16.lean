/-
  Layer 5: the reference's literal of scalars and of vectors that stand alone.
  Layer 5: what a valid array of few elements is, for its literal: its parts, and how long the literal is.
-/
import Derived.Test.YtalkinnbfglkdaaGreatDoorPt11
import Derived.Test.YtalkinnbfglkdaaGreatDoorPt1
import Derived.Test.YtalkinnbfglkdaaGreatDoorPt4
namespace Go.Proofs.YtalkinnbfglkdaaGreatDoor.Shape
open Go.RowKit Go.Proofs.YtalkinnbfglkdaaGreatDoor.Num
set_option linter.unusedVariables false
def elsT (A:Arr):List (List UInt8):=if A.kind=3 then litsS A.items else A.nums.map fun x=>if A.kind=2 then 39::(chS x 39++[39]) else shL x
theorem litS_els:∀ (A:Arr),litS A=litT A.kind A.shape A.nums (elsT A)
 | .mk k sh nu it=>by rw [litS];rfl
theorem size3 {A:Arr}(h:A.kind=3):aSize A=A.items.length:=by rw [aSize,if_neg (by omega),if_pos h]
theorem size12 {A:Arr}(h:A.kind≠3) (hk:1<=A.kind/\A.kind<=3):aSize A=A.nums.length:=by rw [aSize,if_pos (by omega)]
theorem els_len {A:Arr}(hk:1<=A.kind/\A.kind<=3):(elsT A).length=aSize A:=by
 rw [elsT]
 split
 ·rename_i h;rw [litsS_len,size3 h]
 ·rename_i h;rw [List.length_map,size12 h hk]
end Go.Proofs.YtalkinnbfglkdaaGreatDoor.Shape
namespace Go.Proofs.YtalkinnbfglkdaaGreatDoor.Shape
open Go.RowKit Go.Proofs.YtalkinnbfglkdaaGreatDoor.Num
set_option linter.unusedVariables false
set_option linter.unusedSimpArgs false
set_option maxRecDepth 100000
theorem chkL_all:∀ (l:List Arr) (d e:Int),chkL d l=some e->∀ j (hj:j<l.length),(chk l[j]).1=0
 | [],d,e,h,j,hj=>absurd hj (by simp)
 | A::r,d,e,h,j,hj=>by
  rw [chkL] at h
  split at h
  ·cases h
  ·rename_i h0
   cases j with
   | zero=>simpa using h0
   | succ j =>
    have:=chkL_all r _ e h j (by simpa using hj)
    simpa using this
structure Val (k:Int) (sh nu:List Int) (it:List Arr):Prop where
 kind:1<=k/\k<=3
 dims:dimsE sh=0
 size:(aSize (.mk k sh nu it):Int)=pr sh
 plain:k≠3->it=[]
 boxed:k=3->nu=[]
 elems:∀ x∈nu,elemB k x=true
 items:∀ j (hj:j<it.length),rightE it[j]=0
theorem val_of {k:Int}{sh nu:List Int}{it:List Arr}(h:rightE (.mk k sh nu it)=0):Val k sh nu it:=by
 rw [rightE,chk] at h
 split at h
 ·simp at h
 rename_i hk
 split at h
 ·rename_i hd;exact absurd h hd
 rename_i hd
 split at h
 ·simp at h
 rename_i hl
 split at h
 ·simp at h
 rename_i he
 split at h
 ·simp at h
 rename_i d hc
 have ho:other k nu it=0:=by omega
 refine ⟨by omega,by simpa using hd,Classical.byContradiction fun q=>hl (Or.inl q),fun q=>?_,fun q=>?_,fun x hx=>?_,fun j hj=>chkL_all it 0 d hc j hj⟩
 ·rw [other,if_neg q] at ho;exact List.eq_nil_of_length_eq_zero ho
 ·rw [other,if_pos q] at ho;exact List.eq_nil_of_length_eq_zero ho
 ·have ha:nu.all (elemB k)=true:=by simpa using he
  exact List.all_eq_true.1 ha x hx
theorem dims_parts {sh:List Int}(h:dimsE sh=0):sh.length<=8/\NN sh/\nz sh<=65536:=by
 unfold dimsE at h
 split at h
 ·cases h
 split at h
 ·split at h
  ·exact ⟨by omega,by assumption,by assumption⟩
  ·cases h
 ·cases h
def totL:List (List UInt8)->Nat
 | []=>0
 | x::r=>x.length+1+totL r
theorem blank_tot:∀ (l:List (List UInt8)),(blankS l).length<=totL l
 | []=>by simp [blankS,totL]
 | x::r=>by
  have go:∀ (r:List (List UInt8)),((r.map fun y=>32::y).flatten).length<=totL r:=fun r=>by
   induction r with
   | nil=>simp [totL]
   | cons y r ih=>rw [List.map_cons,List.flatten_cons,List.length_append,totL,List.length_cons];omega
  have:=go r
  rw [blankS,List.length_append,totL];omega
theorem ints_tot:∀ (nu:List Int),(∀ x∈nu,elemB 1 x=true)->totL (nu.map shL)<=21*nu.length
 | [],_=>by simp [totL]
 | x::r,h=>by
  have h1:=ints_tot r fun y hy=>h y (List.mem_cons_of_mem _ hy)
  have h0:=h x (by simp)
  have hb:numB x=true:=by simpa [elemB] using h0
  have hb2:=of_decide_eq_true hb
  have:=shL_len (x:=x) (by omega) (by omega)
  rw [List.map_cons,totL,List.length_cons];omega
theorem chars_bd {nu:List Int}(h:∀ x∈nu,elemB 2 x=true):∀ x∈nu,0<=x/\x<=1114111:=fun x hx=>by
 have h0:=h x hx
 have hb:runeB x=true:=by simpa [elemB] using h0
 have hb2:=of_decide_eq_true hb
 omega
theorem quo_tot:∀ (nu:List Int),(∀ x∈nu,0<=x/\x<=1114111)->((nu.map fun c=>chS c 34).flatten).length<=12*nu.length
 | [],_=>by simp
 | x::r,h=>by
  have h1:=quo_tot r fun y hy=>h y (List.mem_cons_of_mem _ hy)
  have h0:=chS_len x 34 (h x (by simp)).2
  rw [List.map_cons,List.flatten_cons,List.length_append,List.length_cons];omega
theorem head_le:∀ (l:List (List UInt8)),(l.headD []).length<=totL l
 | []=>by simp [totL]
 | x::r=>by simp [totL];omega
end Go.Proofs.YtalkinnbfglkdaaGreatDoor.Shape
