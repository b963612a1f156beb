/-
  Layer 13: the parts of a program's text: where a part ends, and that the first part of parts joined by blanks is the first of them.
  Layer 13: the program's firstPart of a text that begins with a literal in quotes.
  Layer 13: small functions of both sides: word bytes, breaks, gaps.
  Layer 13: the program's writer: a struct that embeds a strings.Builder; the builder's methods at it.
  Layer 13: the program's firstPart of parts joined by blanks.
  Layer 13: where the short text needs a blank, said by both sides.
-/
import Derived.Test.YtalkinnbfglkdaaGreatDoorPt1
import Derived.Lib.Join
import Derived.OwnWalk
import Derived.Handy
import Derived.Shelf.Strings.Builder1
import Derived.Test.YtalkinnbfglkdaaGreatDoorShelf
import Derived.Lib.CutLaws
import Derived.Shelf.RegionOpenPlain
import Derived.Laws.Strings3
import Derived.Below
set_option maxHeartbeats 4000000
namespace Go.Proofs.YtalkinnbfglkdaaGreatDoor.Syn
open Go.RowKit
set_option maxRecDepth 100000
set_option linter.unusedVariables false
def qEnd (q:UInt8):List UInt8->Nat
 | []=>0
 | [x]=>if x=q then 0 else if x=92 then 2 else 1
 | x::y::r=>if x=q then 0 else if x=92 then 2+qEnd q r else 1+qEnd q (y::r)
def headP:List UInt8->List UInt8
 | []=>[]
 | x::r=>if x=39∨x=34 then x::r.take (qEnd x r+1) else (x::r).takeWhile (· != 32)
def Shut:List UInt8->Prop
 | []=>False
 | x::r=>if x=39∨x=34 then qEnd x r+1=r.length else ∀ y∈x::r,y≠32
theorem headP_cons (x:UInt8) (r:List UInt8):headP (x::r)=if x=39∨x=34 then x::r.take (qEnd x r+1) else (x::r).takeWhile (· != 32):=rfl
theorem shut_cons (x:UInt8) (r:List UInt8):Shut (x::r)=if x=39∨x=34 then qEnd x r+1=r.length else ∀ y∈x::r,y≠32:=rfl
theorem qEnd_esc {q y:UInt8}(hq:q≠92) (r:List UInt8):qEnd q (92::y::r)=2+qEnd q r:=by
 rw [qEnd,if_neg (fun h=>hq h.symm),if_pos rfl]
theorem qEnd_one {q x:UInt8}(h1:x≠q) (h2:x≠92) (r:List UInt8):qEnd q (x::r)=1+qEnd q r:=by
 cases r with
 | nil=>simp [qEnd,h1,h2]
 | cons y r=>rw [qEnd,if_neg h1,if_neg h2]
theorem qEnd_stop {q:UInt8}(r:List UInt8):qEnd q (q::r)=0:=by
 cases r with
 | nil=>rw [qEnd,if_pos rfl]
 | cons y r=>rw [qEnd,if_pos rfl]
theorem qEnd_plain {q:UInt8}:∀ (l r:List UInt8),(∀ y∈l,y≠q/\y≠92)->qEnd q (l++r)=l.length+qEnd q r
 | [],r,_=>by simp
 | x::l,r,h=>by
  rw [List.cons_append,qEnd_one (h x (by simp)).1 (h x (by simp)).2,qEnd_plain l r (fun y hy=>h y (by simp [hy])),List.length_cons]
  omega
theorem qEnd_app {q:UInt8}(t:List UInt8):∀ (n:Nat) (r:List UInt8),r.length<=n->qEnd q r<r.length->qEnd q (r++t)=qEnd q r
 | _,[],_,h=>by simp at h
 | 0,_::_,hn,_=>by simp at hn
 | n+1,[x],hn,h=>by
  by_cases h1:x=q
  ·subst h1;rw [List.singleton_append,qEnd_stop,qEnd_stop]
  ·rw [qEnd,if_neg h1] at h
   split at h <;> simp at h
 | n+1,x::y::r,hn,h=>by
  by_cases h1:x=q
  ·subst h1;rw [List.cons_append,qEnd_stop,qEnd_stop]
  ·by_cases h2:x=92
   ·rw [qEnd,if_neg h1,if_pos h2] at h
    rw [List.cons_append,List.cons_append,qEnd,if_neg h1,if_pos h2,qEnd,if_neg h1,if_pos h2,qEnd_app t n r (by simp at hn;omega) (by simp at h;omega)]
   ·rw [qEnd_one h1 h2] at h
    rw [List.cons_append,qEnd_one h1 h2,qEnd_one h1 h2,qEnd_app t n (y::r) (by simp at hn ⊢;omega) (by simp at h ⊢;omega)]
theorem takeWhile_all {p:List UInt8}(h:∀ y∈p,y≠32):p.takeWhile (· != 32)=p:=by
 induction p with
 | nil=>rfl
 | cons x r ih=>rw [List.takeWhile_cons_of_pos (by simpa using h x (by simp)),ih (fun y hy=>h y (by simp [hy]))]
theorem takeWhile_stop {p:List UInt8}(t:List UInt8) (h:∀ y∈p,y≠32):(p++32::t).takeWhile (· != 32)=p:=by
 induction p with
 | nil=>rfl
 | cons x r ih=>rw [List.cons_append,List.takeWhile_cons_of_pos (by simpa using h x (by simp)),ih (fun y hy=>h y (by simp [hy]))]
theorem headP_one {p:List UInt8}(h:Shut p):headP p=p:=by
 cases p with
 | nil=>exact absurd h (by simp [Shut])
 | cons x r =>
  rw [shut_cons] at h
  rw [headP_cons]
  by_cases hq:x=39∨x=34
  ·rw [if_pos hq] at h ⊢
   rw [h,List.take_length]
  ·rw [if_neg hq] at h ⊢
   exact takeWhile_all h
theorem headP_app {p:List UInt8}(h:Shut p) (t:List UInt8):headP (p++32::t)=p:=by
 cases p with
 | nil=>exact absurd h (by simp [Shut])
 | cons x r =>
  rw [shut_cons] at h
  rw [List.cons_append,headP_cons]
  by_cases hq:x=39∨x=34
  ·rw [if_pos hq] at h ⊢
   rw [qEnd_app (q:=x) (32::t) r.length r (Nat.le_refl _) (by omega),h,List.take_left]
  ·rw [if_neg hq] at h ⊢
   rw [<- List.cons_append]
   exact takeWhile_stop t h
theorem headP_join (p:List UInt8) (r:List (List UInt8)) (h:Shut p):headP (Lib.join (p::r) [32])=p:=by
 rw [Lib.join_cons]
 cases r with
 | nil=>rw [show Lib.joinTail [32] ([]:List (List UInt8))=[] from rfl,List.append_nil];exact headP_one h
 | cons y r =>
  rw [show Lib.joinTail [32] (y::r)=32::(y++Lib.joinTail [32] r) by simp [Lib.joinTail]]
  exact headP_app h _
def brB (l:List UInt8):Bool:=l.head?==some 10
def wordB (x:UInt8):Bool:=decide ((48<=x.toNat/\x.toNat<=57)∨(97<=x.toNat/\x.toNat<=122)∨(65<=x.toNat/\x.toNat<=90)∨x=95)
def blankB (a b:List UInt8):Bool :=
 let x:=a.getLastD 0;let y:=b.headD 0
 (wordB x&&wordB y) ||(x==60&&(y==61 || y==45)) ||(x==62&&y==61)
end Go.Proofs.YtalkinnbfglkdaaGreatDoor.Syn
namespace Go.Proofs.YtalkinnbfglkdaaGreatDoor.Syn
open Go.RowKit
set_option linter.unusedVariables false
set_option linter.unusedSimpArgs false
theorem str_at (s:ByteArray) (k:Nat) (x:UInt8) (hk:k<s.size) (hx:s.data.toList[k]?=some x) (w:World):(Instr.index 9 (.string s) (.int .i64 (k:Int))).run Tryz.prog w=.ok (.int .u8 (x.toNat:Int)) w:=by
 have e:s[(k:Int).toNat]?=some x:=by
  rw [show (k:Int).toNat=k by omega,getElem?_pos s k hk]
  rw [Array.getElem?_toList] at hx
  rw [<- hx]
  exact (Array.getElem?_eq_getElem hk).symm
 simp only [Instr.index,run_underlying Tryz.underlying9,asIntOf,Sem.run_bind,Sem.run_pure,Result.andThen_ok,if_pos (show (0:Int)<=(k:Int) by omega),e]
set_option maxRecDepth 100000 in
theorem firstQ39 (s:ByteArray) (r:List UInt8) (w:World) (hs:s.data.toList=39::r) (he:qEnd 39 r<r.length) (hb:s.size<=1099511627776) :
  Calls Tryz.prog 54 #[.string s] w fun e w'=>e=.returned (.string (s.extract 0 (qEnd 39 r+2)))/\w=w':=by
 have hl:s.size=r.length+1:=by have:=congrArg List.length hs;simpa using this
 have IX:=fun (k:Nat) (hk:k<r.length) w=>str_at s (k+1) (r[k]) (by omega) (by
  have e:s.data.toList[k+1]?=some r[k]:=by rw [hs];simp [hk]
  exact e) w
 have I0:∀ w,(Instr.index 9 (.string s) (.int .i64 0)).run Tryz.prog w=.ok (.int .u8 39) w:=fun w=>str_at s 0 39 (by omega) (by rw [hs];rfl) w
 obtain ⟨E,hE⟩:∃ E,qEnd 39 r=E:=⟨_,rfl⟩
 rw [hE] at he ⊢
 have SL:=fun w=>run_slice_string_h (P:=Tryz.prog) w 9 s Tryz.underlying9 .i64 ((E:Int)+2) (by omega) (by omega)
 have HE:Hid (qEnd 39 (r.drop 0)+0=E):=hE
 have HL:Hid (s.size=r.length+1):=hl
 clear hs hl hE
 go_enter Tryz.func54,Tryz.ntmps54
 go_wp2_with fail
 go_loopw [7] (fun v wr=>∃ k:Nat,v=.int .i64 ((k:Int)+1)/\k<=E/\Hid (qEnd 39 (r.drop k)+k=E)/\w=wr) (fun v _=>E+1 - (intOf v).toNat)
 case atStart=>exact ⟨0,rfl,Nat.zero_le _,HE,rfl⟩
 case round =>
  obtain ⟨k,rfl,hk,hD,rfl⟩:=hrel
  have hkr:k<r.length:=by omega
  have ix:=IX k hkr
  rw [show ((k+1:Nat):Int) =(k:Int)+1 by omega] at ix
  have hdr:r.drop k=r[k]::r.drop (k+1):=List.drop_eq_getElem_cons hkr
  rw [hdr] at hD
  have hL:=HL.out
  generalize r[k]=x at *
  by_cases hx:x=39
  ·subst hx
   have hkE:k=E:=by have:=hD.out;rw [qEnd_stop] at this;omega
   subst hkE
   clear IX hdr hD
   go_wp2_with fail
   go_ret
   exact ⟨rfl,rfl⟩
  ·have hxi:((x.toNat:Int) != 39)=true:=by
    simp only [bne_iff_ne,ne_eq]
    intro g
    exact hx (UInt8.toNat_inj.1 (by show x.toNat=39;omega))
   by_cases h92:x=92
   ·subst h92
    have hlt:k+1<r.length:=by
     apply Classical.byContradiction
     intro g
     have:=hD.out
     rw [List.drop_eq_nil_of_le (by omega)] at this
     have e:qEnd 39 [92]=2:=rfl
     rw [e] at this
     omega
    have hD2:Hid (qEnd 39 (r.drop (k+2))+(k+2)=E):=by
     have:=hD.out
     rw [List.drop_eq_getElem_cons hlt,qEnd_esc (by decide),show k+1+1=k+2 from rfl] at this
     unfold Hid
     omega
    have hk2:k+2<=E:=by have:=hD2.out;omega
    clear IX hdr hD
    go_wp2_with fail
    go_roundw
    case rel=>exact ⟨k+2,by go_num,hk2,hD2,trivial⟩
    case measure=>simp [intOf];omega
   ·have hxj:((x.toNat:Int)==92)=false:=by
     simp only [beq_eq_false_iff_ne,ne_eq]
     intro g
     exact h92 (UInt8.toNat_inj.1 (by show x.toNat=92;omega))
    have hD2:Hid (qEnd 39 (r.drop (k+1))+(k+1)=E):=by
     have:=hD.out
     rw [qEnd_one hx h92] at this
     unfold Hid
     omega
    have hk2:k+1<=E:=by have:=hD2.out;omega
    clear IX hdr hD
    go_wp2_with fail
    go_roundw
    case rel=>exact ⟨k+1,by go_num,hk2,hD2,trivial⟩
    case measure=>simp [intOf];omega
set_option maxRecDepth 100000 in
theorem firstQ34 (s:ByteArray) (r:List UInt8) (w:World) (hs:s.data.toList=34::r) (he:qEnd 34 r<r.length) (hb:s.size<=1099511627776) :
  Calls Tryz.prog 54 #[.string s] w fun e w'=>e=.returned (.string (s.extract 0 (qEnd 34 r+2)))/\w=w':=by
 have hl:s.size=r.length+1:=by have:=congrArg List.length hs;simpa using this
 have IX:=fun (k:Nat) (hk:k<r.length) w=>str_at s (k+1) (r[k]) (by omega) (by
  have e:s.data.toList[k+1]?=some r[k]:=by rw [hs];simp [hk]
  exact e) w
 have I0:∀ w,(Instr.index 9 (.string s) (.int .i64 0)).run Tryz.prog w=.ok (.int .u8 34) w:=fun w=>str_at s 0 34 (by omega) (by rw [hs];rfl) w
 obtain ⟨E,hE⟩:∃ E,qEnd 34 r=E:=⟨_,rfl⟩
 rw [hE] at he ⊢
 have SL:=fun w=>run_slice_string_h (P:=Tryz.prog) w 9 s Tryz.underlying9 .i64 ((E:Int)+2) (by omega) (by omega)
 have HE:Hid (qEnd 34 (r.drop 0)+0=E):=hE
 have HL:Hid (s.size=r.length+1):=hl
 clear hs hl hE
 go_enter Tryz.func54,Tryz.ntmps54
 go_wp2_with fail
 go_loopw [7] (fun v wr=>∃ k:Nat,v=.int .i64 ((k:Int)+1)/\k<=E/\Hid (qEnd 34 (r.drop k)+k=E)/\w=wr) (fun v _=>E+1 - (intOf v).toNat)
 case atStart=>exact ⟨0,rfl,Nat.zero_le _,HE,rfl⟩
 case round =>
  obtain ⟨k,rfl,hk,hD,rfl⟩:=hrel
  have hkr:k<r.length:=by omega
  have ix:=IX k hkr
  rw [show ((k+1:Nat):Int) =(k:Int)+1 by omega] at ix
  have hdr:r.drop k=r[k]::r.drop (k+1):=List.drop_eq_getElem_cons hkr
  rw [hdr] at hD
  have hL:=HL.out
  generalize r[k]=x at *
  by_cases hx:x=34
  ·subst hx
   have hkE:k=E:=by have:=hD.out;rw [qEnd_stop] at this;omega
   subst hkE
   clear IX hdr hD
   go_wp2_with fail
   go_ret
   exact ⟨rfl,rfl⟩
  ·have hxi:((x.toNat:Int) != 34)=true:=by
    simp only [bne_iff_ne,ne_eq]
    intro g
    exact hx (UInt8.toNat_inj.1 (by show x.toNat=34;omega))
   by_cases h92:x=92
   ·subst h92
    have hlt:k+1<r.length:=by
     apply Classical.byContradiction
     intro g
     have:=hD.out
     rw [List.drop_eq_nil_of_le (by omega)] at this
     have e:qEnd 34 [92]=2:=rfl
     rw [e] at this
     omega
    have hD2:Hid (qEnd 34 (r.drop (k+2))+(k+2)=E):=by
     have:=hD.out
     rw [List.drop_eq_getElem_cons hlt,qEnd_esc (by decide),show k+1+1=k+2 from rfl] at this
     unfold Hid
     omega
    have hk2:k+2<=E:=by have:=hD2.out;omega
    clear IX hdr hD
    go_wp2_with fail
    go_roundw
    case rel=>exact ⟨k+2,by go_num,hk2,hD2,trivial⟩
    case measure=>simp [intOf];omega
   ·have hxj:((x.toNat:Int)==92)=false:=by
     simp only [beq_eq_false_iff_ne,ne_eq]
     intro g
     exact h92 (UInt8.toNat_inj.1 (by show x.toNat=92;omega))
    have hD2:Hid (qEnd 34 (r.drop (k+1))+(k+1)=E):=by
     have:=hD.out
     rw [qEnd_one hx h92] at this
     unfold Hid
     omega
    have hk2:k+1<=E:=by have:=hD2.out;omega
    clear IX hdr hD
    go_wp2_with fail
    go_roundw
    case rel=>exact ⟨k+1,by go_num,hk2,hD2,trivial⟩
    case measure=>simp [intOf];omega
def wordI (x:Int):Bool:=decide ((48<=x/\x<=57)∨(97<=x/\x<=122)∨(65<=x/\x<=90)∨x=95)
theorem isWordP (x : Int) (w : World) : Calls Tryz.prog 20 #[.int .u8 x] w fun e w' => e = .returned (.bool (wordI x)) ∧ w = w' := by
  by_cases a7 : x = 95
  · subst a7
    go_enter Tryz.func20, Tryz.ntmps20
    go_wp2_with fail
    go_ret
    exact ⟨rfl, rfl⟩
  · have a8 : (x == 95) = false := by simpa using a7
    by_cases hc : (48 ≤ x ∧ x ≤ 57) ∨ (97 ≤ x ∧ x ≤ 122) ∨ (65 ≤ x ∧ x ≤ 90) ∨ x = 95
    · have e : wordI x = true := decide_eq_true hc
      rw [e]
      clear e
      by_cases a1 : 97 ≤ x <;> by_cases a2 : x ≤ 122 <;> by_cases a3 : 65 ≤ x <;> by_cases a4 : x ≤ 90 <;> by_cases a5 : 48 ≤ x <;> by_cases a6 : x ≤ 57
      all_goals first
        | (exfalso; omega)
        | (clear hc a7
           go_enter Tryz.func20, Tryz.ntmps20
           go_wp2_with fail
           go_ret
           exact ⟨rfl, rfl⟩)
    · have e : wordI x = false := decide_eq_false hc
      rw [e]
      clear e
      by_cases a1 : 97 ≤ x <;> by_cases a2 : x ≤ 122 <;> by_cases a3 : 65 ≤ x <;> by_cases a4 : x ≤ 90 <;> by_cases a5 : 48 ≤ x <;> by_cases a6 : x ≤ 57
      all_goals first
        | (exfalso; omega)
        | (clear hc a7
           go_enter Tryz.func20, Tryz.ntmps20
           go_wp2_with fail
           go_ret
           exact ⟨rfl, rfl⟩)
end Go.Proofs.YtalkinnbfglkdaaGreatDoor.Syn
namespace Go.Proofs.YtalkinnbfglkdaaGreatDoor.Syn
open Go.RowKit Go.Shelf
set_option linter.unusedVariables false
set_option linter.unusedSimpArgs false
set_option maxRecDepth 100000
structure PSt where
 sep:ByteArray
 ind:ByteArray
 nb:Value
 bf:ByteArray
 lv:Int
def wrCells (p v:Value) (s:PSt):Array Value:=#[p,v,.string s.sep,.string s.ind,s.nb,.string s.bf,.int .i64 s.lv]
def PW (B b:Nat) (w:World) (bs:List UInt8) (s:PSt):Prop :=
 B<=b/\∃ p v,(p=.pointer none∨p=.pointer (some ⟨b,0,none⟩))/\w.heap[b]?=some (.cells (wrCells p v s) 66 (0,0))/\w.ownsRow B 5 1 v bs.length (Lib.byteCells bs)/\v.ownBlock≠some b/\(bs=[] ↔ v=.slice none 0 0)
theorem infoB:(Tryz.prog.info? 5).map (fun i=>(i.zero,i.size,i.bytes))=some (some (.int .u8 0),1,1):=by kernel_rfl
theorem sizeBld:(Tryz.prog.info? 63).map (·.size)=some 2:=by kernel_rfl
theorem liesBld:liesAt Tryz.prog Tryz.prog.depth 66 (7 / Tryz.prog.cellsOf 66) 0 63 1=true:=by kernel_rfl
theorem heap_lt {w:World}{b:Nat}{o:Obj}(h:w.heap[b]?=some o):b<w.heap.size:=(Array.getElem?_eq_some_iff.1 h).1
theorem copyUsed (b:Nat) (w:World) (h0:w.cell? ⟨b,0,none⟩=some (.pointer (some ⟨b,0,none⟩))) :
  Calls Tryz.prog 36 #[.pointer (some ⟨b,0,none⟩)] w fun e w'=>e=.returned (.tuple #[])/\w'=w:=by
 obtain ⟨j,hj,_⟩:=Option.map_eq_some_iff.1 sizeBld
 go_enter Tryz.func36,Tryz.ntmps36
 go_wp2
 rw [Lib.run_neq_ptr_same w _ Tryz.underlying60 hj]
 go_wp2
 go_end0
 exact ⟨rfl,rfl⟩
theorem copyFresh (b:Nat) (w:World) (h0:w.cell? ⟨b,0,none⟩=some (.pointer none)) (hsh:w.shape? b=some (66,7)) (hfz:w.frozen? ⟨b,0,none⟩=false) :
  Calls Tryz.prog 36 #[.pointer (some ⟨b,0,none⟩)] w fun e w'=>e=.returned (.tuple #[])/\w'=w.setCell ⟨b,0,none⟩ (.pointer (some ⟨b,0,none⟩)):=by
 obtain ⟨j,hj,hjs⟩:=Option.map_eq_some_iff.1 sizeBld
 go_enter Tryz.func36,Tryz.ntmps36
 go_wp2
 rw [Lib.run_to_unsafe w ⟨b,0,none⟩ Tryz.underlying60 Tryz.underlying105 hj (by rw [hjs];decide) hsh (Nat.zero_lt_succ 6)]
 simp only [Result.andThen]
 rw [Oper.upon_value]
 go_wp2
 rw [run_callFunc_extern Tryz.func59 (by kernel_rfl) (by kernel_rfl) (by kernel_rfl) (e:=Extern.AbiNoEscape.same) (by kernel_rfl)]
 rw [Lib.run_noEscape]
 simp only [Result.andThen]
 rw [Oper.upon_value]
 go_wp2
 rw [Lib.run_from_unsafe w ⟨b,0,none⟩ Tryz.underlying105 Tryz.underlying60 hj hsh liesBld]
 simp only [Result.andThen]
 rw [Oper.upon_value]
 go_wp2
 go_end0
 exact ⟨rfl,rfl⟩
theorem heap_set {w:World}{b:Nat}{cs:Array Value}{T:TypeId}(h:w.heap[b]?=some (.cells cs T (0,0))) (j:Nat) (x:Value):(w.setCell ⟨b,j,none⟩ x).heap[b]?=some (.cells (cs.setIfInBounds j x) T (0,0)):=by
 simp [World.setCell,Array.getElem?_modify,h]
theorem own_set {w:World}{B b j n:Nat}{e:TypeId}{v:Value}{xs:List Value}(h:w.ownsRow B e 1 v n xs) (hne:v.ownBlock≠some b) (x:Value):(w.setCell ⟨b,j,none⟩ x).ownsRow B e 1 v n xs :=
 h.kept (row:=some b) ⟨rfl,rfl,rfl,by simp [World.setCell],fun k _ hk=>Below.heap_setCell _ _ _ _ (fun e=>hk (by simp [e]))⟩ (Or.inr hne)
theorem PW.store {B b:Nat}{w:World}{bs:List UInt8}{s s':PSt}(h:PW B b w bs s) (j:Nat) (x:Value) (hj:∀ p v,(wrCells p v s).setIfInBounds j x=wrCells p v s'):PW B b (w.setCell ⟨b,j,none⟩ x) bs s':=by
 obtain ⟨hB,p,v,hp,hb,ho,hne,hz⟩:=h
 exact ⟨hB,p,v,hp,by rw [heap_set hb,hj],own_set ho hne x,hne,hz⟩
theorem PW.lt {B b:Nat}{w:World}{bs:List UInt8}{s:PSt}(h:PW B b w bs s):b<w.heap.size:=by
 obtain ⟨-,p,v,-,hb,-⟩:=h
 exact heap_lt hb
theorem PW.cells {B b:Nat}{w:World}{bs:List UInt8}{s:PSt}(h:PW B b w bs s):w.cell? ⟨b,2,none⟩=some (.string s.sep)/\w.cell? ⟨b,3,none⟩=some (.string s.ind)/\w.cell? ⟨b,4,none⟩=some s.nb/\w.cell? ⟨b,5,none⟩=some (.string s.bf)/\w.cell? ⟨b,6,none⟩=some (.int .i64 s.lv)/\∀ j,w.frozen? ⟨b,j,none⟩=false:=by
 obtain ⟨-,p,v,-,hb,-⟩:=h
 exact ⟨by rw [Lib.cell_of_heap hb];rfl,by rw [Lib.cell_of_heap hb];rfl,by rw [Lib.cell_of_heap hb];rfl,by rw [Lib.cell_of_heap hb];rfl,by rw [Lib.cell_of_heap hb];rfl,fun j=>Lib.frozen_of_heap hb j⟩
theorem PW.below {B b:Nat}{w w':World}{bs:List UInt8}{s:PSt}(h:PW B b w bs s) (hb:Below w.heap.size w w'):PW B b w' bs s:=by
 obtain ⟨hB,p,v,hp,hh,ho,hne,hz⟩:=h
 exact ⟨hB,p,v,hp,(hb.block _ (heap_lt hh)).trans hh,ho.kept (row:=none) ⟨hb.os,hb.tape,hb.output,hb.size,fun k hk _=>hb.block k hk⟩ (Classical.em _),hne,hz⟩
structure BX (B b:Nat) (w w':World):Prop where
 bel:Below B w w'
 oth:∀ k,k<w.heap.size->k≠b->(∀ cur fr,w.heap[k]?≠some (.cells cur 5 fr))->w'.heap[k]?=w.heap[k]?
theorem BX.refl (B b:Nat) (w:World):BX B b w w:=⟨Below.refl _ _,fun _ _ _ _=>rfl⟩
theorem BX.trans {B b:Nat}{w w1 w2:World}(h:BX B b w w1) (g:BX B b w1 w2):BX B b w w2 :=
 ⟨h.bel.trans g.bel,fun k hk hb ht=>by
  have e:=h.oth k hk hb ht
  rw [g.oth k (Nat.lt_of_lt_of_le hk h.bel.size) hb (by rw [e];exact ht),e]⟩
theorem BX.of {B b:Nat}{w w':World}(h:Below w.heap.size w w') (hB:B<=w.heap.size):BX B b w w':=⟨h.mono hB,fun k hk _ _=>h.block k hk⟩
theorem BX.setCell {B b:Nat}{w w':World}(h:BX B b w w') (j:Nat) (v:Value) (hB:B<=b):BX B b w (w'.setCell ⟨b,j,none⟩ v) :=
 ⟨h.bel.setCell (p:=⟨b,j,none⟩) hB _,fun k hk hb ht=>by rw [Below.heap_setCell _ _ _ _ hb];exact h.oth k hk hb ht⟩
theorem BX.grown {B b n:Nat}{w w1 w2:World}{v:Value}{xs:List Value}(h:BX B b w w1) (ho:w1.ownsRow B 5 1 v n xs) (hg:w1.grownBy w2 v.ownBlock) (hB:B<=w1.heap.size):BX B b w w2 :=
 ⟨h.bel.grown hg hB (fun k hk=>(ho.lt k hk).1),fun k hk hb ht=>by
  have e:=h.oth k hk hb ht
  rw [hg.block k (Nat.lt_of_lt_of_le hk h.bel.size) (fun e2=>by
   rcases ho.2 with ⟨rfl,_⟩ |⟨g,cap,cur,rfl,_,hgk,_⟩
   ·simp [Value.ownBlock] at e2
   ·simp only [Value.ownBlock,Option.some.injEq] at e2
    subst e2
    exact ht _ _ (e.symm.trans hgk)),e]⟩
theorem BX.alloc {B b:Nat}{w w1:World}(h:BX B b w w1) (hB:B<=w1.heap.size) (o:Obj):BX B b w (w1.alloc o) :=
 h.trans (BX.of ⟨rfl,rfl,rfl,by simp,fun k hk=>Lib.alloc_old w1 o k hk⟩ hB)
theorem copyW (B b:Nat) (bs:List UInt8) (s:PSt) (w:World) (h:PW B b w bs s) :
  Calls Tryz.prog 36 #[.pointer (some ⟨b,0,none⟩)] w fun e w'=>e=.returned (.tuple #[])/\(B<=b/\∃ v,w'.heap[b]?=some (.cells (wrCells (.pointer (some ⟨b,0,none⟩)) v s) 66 (0,0))/\w'.ownsRow B 5 1 v bs.length (Lib.byteCells bs)/\v.ownBlock≠some b/\(bs=[] ↔ v=.slice none 0 0))/\BX B b w w':=by
 obtain ⟨hB,p,v,hp,hb,ho,hne,hz⟩:=h
 rcases hp with rfl | rfl
 ·refine (copyFresh b w (by rw [Lib.cell_of_heap hb];rfl) (by simp [World.shape?,hb,wrCells]) (Lib.frozen_of_heap hb 0)).mono ?_
  rintro e w' ⟨rfl,rfl⟩
  exact ⟨rfl,⟨hB,v,by rw [heap_set hb];rfl,own_set ho hne _,hne,hz⟩,(BX.refl B b w).setCell 0 _ hB⟩
 ·refine (copyUsed b w (by rw [Lib.cell_of_heap hb];rfl)).mono ?_
  rintro e w' ⟨rfl,rfl⟩
  exact ⟨rfl,⟨hB,v,hb,ho,hne,hz⟩,BX.refl B b _⟩
theorem neWB:66≠5:=by decide
theorem writeStringW (B b:Nat) (bs:List UInt8) (s:PSt) (t:ByteArray) (w:World) (h:PW B b w bs s) (hlen:bs.length+t.size<=140737488355328) (hBw:B<=w.heap.size) :
  Calls Tryz.prog 17 #[.pointer (some ⟨b,0,none⟩),.string t] w fun e w'=>e=.returned (.tuple #[.int .i64 t.size,.nilIface])/\PW B b w' (bs++t.data.toList) s/\BX B b w w':=by
 obtain ⟨i0,hi,hz0,hz1,hz2⟩:=info_parts infoB
 have C:=copyW B b bs s w h
 clear h
 go_enter Tryz.func17,Tryz.ntmps17
 go_wp2_with (go_at_call 36;refine C.mono ?_)
 rintro e w1 ⟨rfl,⟨hB,v,hbk,hown,hne,hz⟩,hb1⟩
 have c0:w1.cell? ⟨b,0,none⟩=some (.pointer (some ⟨b,0,none⟩)):=by rw [Lib.cell_of_heap hbk];rfl
 have c1:w1.cell? ⟨b,1,none⟩=some v:=by rw [Lib.cell_of_heap hbk];rfl
 go_wp2_with (at_builtin;refine Lib.wpList_append_own_string _ rfl _ _ 61 9 rfl B 5 i0 Tryz.underlying61 Tryz.underlying9 hi hz0 hz1 hz2 _ _ _ rfl hown t rfl ?c3 ?c4 ?c5 ?_)
 case c3=>unfold maxLen;omega
 case c4=>omega
 case c5=>have:=hb1.bel.size;omega
 intro v' w2 hown' hgrow hnil
 have hlt:b<w1.heap.size:=heap_lt hbk
 have hb2:w2.heap[b]?=some (.cells (wrCells (.pointer (some ⟨b,0,none⟩)) v s) 66 (0,0)):=by
  rw [hgrow.block b hlt (fun e=>hne e.symm)]
  exact hbk
 have d0:w2.cell? ⟨b,0,none⟩=some (.pointer (some ⟨b,0,none⟩)):=by rw [Lib.cell_of_heap hb2];rfl
 have d1:w2.cell? ⟨b,1,none⟩=some v:=by rw [Lib.cell_of_heap hb2];rfl
 have f1:w2.frozen? ⟨b,1,none⟩=false:=Lib.frozen_of_heap hb2 1
 obtain ⟨ao,n',cap,rfl⟩:∃ ao n' cap,v'=.slice ao n' cap:=by
  rcases hown'.2 with ⟨hv,_⟩ |⟨g,cap,cur,hv,_⟩
  ·exact ⟨_,_,_,hv⟩
  ·exact ⟨_,_,_,hv⟩
 have hne':=Lib.ownBlock_ne hown' hb2 neWB
 go_wp2
 go_ret2
 refine ⟨rfl,⟨hB,_,_,Or.inr rfl,by rw [heap_set hb2];rfl,own_set (by rw [Lib.byteCells_append,List.length_append];exact hown') hne' _,hne',?_⟩,?_⟩
 ·rw [hnil,<- hz,List.append_eq_nil_iff]
  constructor
  ·rintro ⟨h1,h2⟩
   exact ⟨h1,by have:=congrArg List.length h2;simpa using this⟩
  ·rintro ⟨h1,h2⟩
   exact ⟨h1,List.eq_nil_of_length_eq_zero (by simpa using h2)⟩
 ·exact (hb1.grown hown hgrow (by have:=hb1.bel.size;omega)).setCell 1 _ hB
theorem writeByteW (B b:Nat) (bs:List UInt8) (s:PSt) (c:UInt8) (w:World) (h:PW B b w bs s) (hlen:bs.length+1<=140737488355328) (hBw:B<=w.heap.size) :
  Calls Tryz.prog 53 #[.pointer (some ⟨b,0,none⟩),.int .u8 c.toNat] w fun e w'=>e=.returned .nilIface/\PW B b w' (bs++[c]) s/\BX B b w w':=by
 obtain ⟨i0,hi,hz0,hz1,hz2⟩:=info_parts infoB
 have C:=copyW B b bs s w h
 clear h
 obtain ⟨x,hx⟩:∃ x:Int,(c.toNat:Int)=x:=⟨_,rfl⟩
 have HC:Hid ((c.toNat:Int)=x):=hx
 rw [hx]
 clear hx
 go_enter Tryz.func53,Tryz.ntmps53
 go_wp2_with (go_at_call 36;refine C.mono ?_)
 rintro e w1 ⟨rfl,⟨hB,v,hbk,hown,hne,hz⟩,hb1⟩
 have c0:w1.cell? ⟨b,0,none⟩=some (.pointer (some ⟨b,0,none⟩)):=by rw [Lib.cell_of_heap hbk];rfl
 have c1:w1.cell? ⟨b,1,none⟩=some v:=by rw [Lib.cell_of_heap hbk];rfl
 go_wp2_with (at_builtin;refine wpList_append_own _ rfl _ _ 61 rfl B 5 i0 (.int .u8 0) 1 1 Tryz.underlying61 hi hz0 hz1 hz2 rfl (by decide) _ _ _ rfl (hown.alloc _) ⟨w1.heap.size,0,none⟩ 1 1 [.int .u8 x] rfl rfl ?c1 ?c2 ?c3 ?c4 ?c5 ?_)
 case c1 =>
  intro j u hj
  match j,hj with
  | 0,hj=>simp at hj;subst hj;simp [Addr.add]
 case c2=>intro u hu;simp at hu;subst hu;rfl
 case c3=>unfold maxLen;omega
 case c4=>omega
 case c5=>have:=hb1.bel.size;simp;omega
 intro v' w2 hown' hgrow hnil
 have hlt:b<w1.heap.size:=heap_lt hbk
 have hb2:w2.heap[b]?=some (.cells (wrCells (.pointer (some ⟨b,0,none⟩)) v s) 66 (0,0)):=by
  rw [hgrow.block b (by simp;omega) (fun e=>hne e.symm),Lib.alloc_old w1 _ b hlt]
  exact hbk
 have d0:w2.cell? ⟨b,0,none⟩=some (.pointer (some ⟨b,0,none⟩)):=by rw [Lib.cell_of_heap hb2];rfl
 have d1:w2.cell? ⟨b,1,none⟩=some v:=by rw [Lib.cell_of_heap hb2];rfl
 have f1:w2.frozen? ⟨b,1,none⟩=false:=Lib.frozen_of_heap hb2 1
 obtain ⟨g,cap,rfl⟩:∃ g cap,v'=.slice (some ⟨g,0,none⟩) (bs.length+1) cap:=by
  rcases hown'.2 with ⟨_,h0⟩ |⟨g,cap,cur,hv,_⟩
  ·omega
  ·exact ⟨g,cap,hv⟩
 have hne':=Lib.ownBlock_ne hown' hb2 neWB
 go_wp2
 go_ret
 refine ⟨rfl,⟨hB,_,_,Or.inr rfl,by rw [heap_set hb2];rfl,own_set (by rw [Lib.byteCells_append,List.length_append];rw [show Lib.byteCells [c]=[.int .u8 x] by rw [<- HC.out];rfl];exact hown') hne' _,hne',?_⟩,?_⟩
 ·constructor
  ·intro e;simp at e
  ·intro e;cases e
 ·exact ((hb1.alloc (by have:=hb1.bel.size;omega) _).grown (hown.alloc _) hgrow (by have:=hb1.bel.size;simp;omega)).setCell 1 _ hB
theorem lenW (B b:Nat) (bs:List UInt8) (s:PSt) (w:World) (h:PW B b w bs s) :
  Calls Tryz.prog 16 #[.pointer (some ⟨b,0,none⟩)] w fun e w'=>e=.returned (.int .i64 bs.length)/\w'=w:=by
 obtain ⟨hB,p,v,hp,hbk,hown,hne,hz⟩:=h
 obtain ⟨ao,cap,rfl⟩:∃ ao cap,v=.slice ao bs.length cap:=by
  rcases hown.2 with ⟨hv,h0⟩ |⟨g,cap,cur,hv,_⟩
  ·exact ⟨none,0,by rw [hv,h0]⟩
  ·exact ⟨_,_,hv⟩
 have c1:w.cell? ⟨b,1,none⟩=some (.slice ao bs.length cap):=by rw [Lib.cell_of_heap hbk];rfl
 clear hz hne hown hbk hp hB
 go_enter Tryz.func16,Tryz.ntmps16
 go_wp2
 go_ret
 exact ⟨rfl,rfl⟩
end Go.Proofs.YtalkinnbfglkdaaGreatDoor.Syn
namespace Go.Proofs.YtalkinnbfglkdaaGreatDoor.Syn
open Go.RowKit
set_option linter.unusedVariables false
set_option linter.unusedSimpArgs false
theorem index_blank:∀ s:List UInt8,(Lib.index s [32] = -1/\s.takeWhile (· != 32)=s)∨∃ i:Nat,Lib.index s [32]=i/\s.takeWhile (· != 32)=s.take i
 | []=>Or.inl ⟨rfl,rfl⟩
 | b::l=>by
  by_cases e:b=32
  ·subst e
   exact Or.inr ⟨0,by simp [Lib.index],by simp⟩
  ·have e1:([32]:List UInt8).isPrefixOf (b::l)=false:=by simp [List.isPrefixOf,Ne.symm e]
   have e2:(b::l).takeWhile (· != 32)=b::l.takeWhile (· != 32):=List.takeWhile_cons_of_pos (by simpa using e)
   rcases index_blank l with ⟨h1,h2⟩ |⟨i,h1,h2⟩
   ·exact Or.inl ⟨by rw [Lib.index,e1,h1];rfl,by rw [e2,h2]⟩
   ·refine Or.inr ⟨i+1,?_,by rw [e2,h2,List.take_succ_cons]⟩
    rw [Lib.index,e1,h1]
    have:((i:Int)==-1)=false:=by simp only [beq_eq_false_iff_ne,ne_eq];omega
    simp [this]
theorem cut_blank (s:List UInt8):(Lib.cut s [32]).1=s.takeWhile (· != 32):=by
 unfold Lib.cut
 rcases index_blank s with ⟨h1,h2⟩ |⟨i,h1,h2⟩
 ·rw [h1,h2];rfl
 ·rw [h1,h2,if_pos (by omega)];simp
set_option maxRecDepth 100000 in
theorem sliteCut (s:ByteArray) (w:World) (hs:s.size<=1099511627776) :
  Calls Tryz.prog 97 #[.string s,.string ⟨#[32]⟩] w fun e w'=>e=.returned (.tuple #[.string ⟨(Lib.cut s.data.toList [32]).1.toArray⟩,.string ⟨(Lib.cut s.data.toList [32]).2.1.toArray⟩,.bool (Lib.cut s.data.toList [32]).2.2])/\∃ n,w'=w.drewN n:=by
 have IO:=fun w=>Tryz.stringslite_Index_one s 32 w
 simp only [<- Lib.index_one] at IO
 rcases Lib.indexB_cases s ⟨#[32]⟩ with hix |⟨i,hix,hroom⟩
 ·obtain ⟨e1,e2,e3⟩:=Lib.cutB_miss s ⟨#[32]⟩ hix
  rw [show (⟨#[32]⟩:ByteArray).data.toList=[32] from rfl] at e1 e2 e3
  rw [e1,e2,e3]
  have hix:Lib.index s.data.toList [32] = -1:=hix
  simp only [hix] at IO
  go_enter Tryz.func97,Tryz.ntmps97
  go_wp2_with (go_at_call 116;((with_reducible refine (IO _).mono ?_);rintro e w' ⟨rfl,rfl⟩))
  go_ret3
  exact ⟨rfl,0,rfl⟩
 ·obtain ⟨e1,e2,e3⟩:=Lib.cutB_hit s ⟨#[32]⟩ i hix
  rw [show (⟨#[32]⟩:ByteArray).data.toList=[32] from rfl] at e1 e2 e3
  rw [e1,e2,e3]
  have hix:Lib.index s.data.toList [32] =(i:Int):=hix
  simp only [hix] at IO
  have hroom:i+1<=s.size:=hroom
  have c1:(0:Int)<=↑i:=by omega
  have c2:(↑i:Int)<=↑s.size:=by omega
  have c3:(0:Int)<=↑i+1:=by omega
  have c4:(↑i+1:Int)<=↑s.size:=by omega
  have W1:IntKind.i64.wrap ((i:Int)+1) =(i:Int)+1:=by rw [IntWalk.i64_left];exact IntWalk.wrap64_in _ (by omega)
  have mixed:Tryz.prog.follows .mixedOrders=true:=by kernel_rfl
  go_enter Tryz.func97,Tryz.ntmps97
  go_wp2_with (go_at_call 116;((with_reducible refine (IO _).mono ?_);rintro e w' ⟨rfl,rfl⟩))
  go_region_o
  go_wp2
  go_ret3
  exact ⟨rfl,1,rfl⟩
theorem cutP (s:ByteArray) (w:World) (hs:s.size<=1099511627776) :
  Calls Tryz.prog 75 #[.string s,.string ⟨#[32]⟩] w fun e w'=>e=.returned (.tuple #[.string ⟨(Lib.cut s.data.toList [32]).1.toArray⟩,.string ⟨(Lib.cut s.data.toList [32]).2.1.toArray⟩,.bool (Lib.cut s.data.toList [32]).2.2])/\∃ n,w'=w.drewN n:=by
 have SC:=fun w=>sliteCut s w hs
 go_enter Tryz.func75,Tryz.ntmps75
 go_wp2_with (go_at_call 97;((with_reducible refine (SC _).mono ?_);rintro e w' ⟨rfl,n,rfl⟩))
 go_ret3
 exact ⟨rfl,n,rfl⟩
set_option maxRecDepth 100000 in
theorem firstPlain (s:ByteArray) (x:UInt8) (r:List UInt8) (w:World) (hs:s.data.toList=x::r) (h1:x≠39) (h2:x≠34) (hb:s.size<=1099511627776) :
  Calls Tryz.prog 54 #[.string s] w fun e w'=>e=.returned (.string ⟨(s.data.toList.takeWhile (· != 32)).toArray⟩)/\Below w.heap.size w w':=by
 have hl:s.size=r.length+1:=by have:=congrArg List.length hs;simpa using this
 have I0:∀ w,(Instr.index 9 (.string s) (.int .i64 0)).run Tryz.prog w=.ok (.int .u8 (x.toNat:Int)) w:=fun w=>str_at s 0 x (by omega) (by rw [hs];rfl) w
 have n1:((x.toNat:Int) != 39)=true:=by
  simp only [bne_iff_ne,ne_eq]
  intro g
  exact h1 (UInt8.toNat_inj.1 (by show x.toNat=39;omega))
 have n2:((x.toNat:Int) != 34)=true:=by
  simp only [bne_iff_ne,ne_eq]
  intro g
  exact h2 (UInt8.toNat_inj.1 (by show x.toNat=34;omega))
 have CT:=cutP s w hb
 rw [cut_blank] at CT
 obtain ⟨y,hy⟩:∃ y:ByteArray,(⟨(s.data.toList.takeWhile (· != 32)).toArray⟩:ByteArray)=y:=⟨_,rfl⟩
 rw [hy] at CT ⊢
 obtain ⟨z,hz⟩:∃ z:ByteArray,(⟨(Lib.cut s.data.toList [32]).2.1.toArray⟩:ByteArray)=z:=⟨_,rfl⟩
 obtain ⟨u,hu⟩:∃ u,(Lib.cut s.data.toList [32]).2.2=u:=⟨_,rfl⟩
 rw [hz,hu] at CT
 clear hs h1 h2 hl hb hy hz hu
 go_enter Tryz.func54,Tryz.ntmps54
 go_wp2_with (go_at_call 75;((with_reducible refine CT.mono ?_);rintro e w1 ⟨rfl,k,rfl⟩))
 go_ret
 exact ⟨rfl,⟨rfl,rfl,rfl,Nat.le_refl _,fun _ _=>rfl⟩⟩
theorem ext_take (s:ByteArray) (n:Nat):s.extract 0 n =⟨(s.data.toList.take n).toArray⟩:=by
 apply ByteArray.ext
 rw [ByteArray.data_extract]
 apply Array.ext'
 simp
theorem firstP (s:ByteArray) (p:List UInt8) (r:List (List UInt8)) (w:World) (hs:s.data.toList=Lib.join (p::r) [32]) (hp:Shut p) (hb:s.size<=1099511627776) :
  Calls Tryz.prog 54 #[.string s] w fun e w'=>e=.returned (.string ⟨p.toArray⟩)/\Below w.heap.size w w':=by
 have hh:=headP_join p r hp
 rw [<- hs] at hh
 cases p with
 | nil=>exact absurd hp (by simp [Shut])
 | cons x q =>
  have hq:=hp
  rw [shut_cons] at hq
  rw [Lib.join_cons,List.cons_append] at hs
  rw [hs,headP_cons] at hh
  have quoted:∀ c:UInt8,(∀ (r':List UInt8),s.data.toList=c::r'->qEnd c r'<r'.length->s.size<=1099511627776->Calls Tryz.prog 54 #[.string s] w fun e w'=>e=.returned (.string (s.extract 0 (qEnd c r'+2)))/\w=w')->(c=39∨c=34)->x=c->Calls Tryz.prog 54 #[.string s] w fun e w'=>e=.returned (.string ⟨(x::q).toArray⟩)/\Below w.heap.size w w':=by
   intro c F hc e
   subst e
   rw [if_pos hc] at hh hq
   have hlt:qEnd x (q++Lib.joinTail [32] r) <(q++Lib.joinTail [32] r).length:=by
    rw [qEnd_app (q:=x) _ q.length q (Nat.le_refl _) (by omega),List.length_append];omega
   refine (F _ hs hlt (by omega)).mono ?_
   rintro e w' ⟨rfl,rfl⟩
   refine ⟨?_,Below.refl _ _⟩
   rw [ext_take,hs,List.take_succ_cons,hh]
  by_cases h1:x=39
  ·exact quoted 39 (fun r' a b c=>firstQ39 s r' w a b c) (Or.inl rfl) h1
  ·by_cases h2:x=34
   ·exact quoted 34 (fun r' a b c=>firstQ34 s r' w a b c) (Or.inr rfl) h2
   ·rw [if_neg (by simp [h1,h2])] at hh
    have F:=firstPlain s x _ w hs h1 h2 hb
    rw [hs,hh] at F
    exact F
theorem trim_blank (l:List UInt8):Lib.trimPrefix (32::l) [32]=l:=by simp [Lib.trimPrefix,Lib.hasPrefix]
theorem trim_nil:Lib.trimPrefix [] [32]=[]:=by simp [Lib.trimPrefix,Lib.hasPrefix]
theorem below_drawn {w:World}(k:Nat):Below w.heap.size w (w.drewN k):=⟨rfl,rfl,rfl,Nat.le_refl _,fun _ _=>rfl⟩
def needI (x y:Int):Bool:=(wordI x&&wordI y) ||(x==60&&(y==61 || y==45)) ||(x==62&&y==61)
theorem needsP (s t:ByteArray) (x y:Int) (w:World) (h0:0<s.size) (hs:s.size<=1099511627776)
  (ix:∀ w,(Instr.index 9 (.string s) (.int .i64 ((s.size:Int) - 1))).run Tryz.prog w=.ok (.int .u8 x) w) (iy:∀ w,(Instr.index 9 (.string t) (.int .i64 0)).run Tryz.prog w=.ok (.int .u8 y) w) :
  Calls Tryz.prog 19 #[.string s,.string t] w fun e w'=>e=.returned (.bool (needI x y))/\Below w.heap.size w w':=by
 have W1:IntKind.i64.wrap ((s.size:Int) - 1) =(s.size:Int) - 1:=by rw [IntWalk.i64_left];exact IntWalk.wrap64_in _ (by omega)
 clear h0 hs
 by_cases h60:x=60
 ·subst h60
  have wx:wordI 60=false:=by decide
  by_cases h61:y=61
  ·subst h61
   rw [show needI 60 61=true by decide]
   go_enter Tryz.func19,Tryz.ntmps19
   go_wp2_with fail
   go_quiet (fail)
   go_wp2_with (go_at_call 20;refine (isWordP _ _).mono ?_;rintro e w1 ⟨rfl,rfl⟩)
   go_ret
   exact ⟨rfl,below_drawn _⟩
  ·have e61:(y==61)=false:=by simpa using h61
   by_cases h45:y=45
   ·subst h45
    rw [show needI 60 45=true by decide]
    go_enter Tryz.func19,Tryz.ntmps19
    go_wp2_with fail
    go_quiet (fail)
    go_wp2_with (go_at_call 20;refine (isWordP _ _).mono ?_;rintro e w1 ⟨rfl,rfl⟩)
    go_ret
    exact ⟨rfl,below_drawn _⟩
   ·have e45:(y==45)=false:=by simpa using h45
    have hn:needI 60 y=false:=by unfold needI;rw [wx,e61,e45];rfl
    rw [hn]
    clear hn h61 h45
    go_enter Tryz.func19,Tryz.ntmps19
    go_wp2_with fail
    go_quiet (fail)
    go_wp2_with (go_at_call 20;refine (isWordP _ _).mono ?_;rintro e w1 ⟨rfl,rfl⟩)
    go_ret
    exact ⟨rfl,below_drawn _⟩
 ·have e60:(x==60)=false:=by simpa using h60
  by_cases h62:x=62
  ·subst h62
   have wx:wordI 62=false:=by decide
   by_cases h61:y=61
   ·subst h61
    rw [show needI 62 61=true by decide]
    go_enter Tryz.func19,Tryz.ntmps19
    go_wp2_with fail
    go_quiet (fail)
    go_wp2_with (go_at_call 20;refine (isWordP _ _).mono ?_;rintro e w1 ⟨rfl,rfl⟩)
    go_ret
    exact ⟨rfl,below_drawn _⟩
   ·have e61:(y==61)=false:=by simpa using h61
    have hn:needI 62 y=false:=by unfold needI;rw [wx,e61];rfl
    rw [hn]
    clear hn h61 h60
    go_enter Tryz.func19,Tryz.ntmps19
    go_wp2_with fail
    go_quiet (fail)
    go_wp2_with (go_at_call 20;refine (isWordP _ _).mono ?_;rintro e w1 ⟨rfl,rfl⟩)
    go_ret
    exact ⟨rfl,below_drawn _⟩
  ·have e62:(x==62)=false:=by simpa using h62
   have hn:needI x y =(wordI x&&wordI y):=by unfold needI;rw [e60,e62];simp
   rw [hn]
   clear hn h60 h62
   cases wx:wordI x with
   | false =>
    rw [Bool.false_and]
    go_enter Tryz.func19,Tryz.ntmps19
    go_wp2_with fail
    go_quiet (fail)
    go_wp2_with (go_at_call 20;refine (isWordP _ _).mono ?_;rintro e w1 ⟨rfl,rfl⟩)
    go_ret
    exact ⟨rfl,below_drawn _⟩
   | true =>
    cases wy:wordI y with
    | false =>
     rw [Bool.true_and]
     go_enter Tryz.func19,Tryz.ntmps19
     go_wp2_with fail
     go_quiet (fail)
     go_wp2_with (go_at_call 20;refine (isWordP _ _).mono ?_;rintro e w1 ⟨rfl,rfl⟩)
     go_ret
     exact ⟨rfl,below_drawn _⟩
    | true =>
     rw [Bool.true_and]
     go_enter Tryz.func19,Tryz.ntmps19
     go_wp2_with fail
     go_quiet (fail)
     go_wp2_with (go_at_call 20;refine (isWordP _ _).mono ?_;rintro e w1 ⟨rfl,rfl⟩)
     go_ret
     exact ⟨rfl,below_drawn _⟩
end Go.Proofs.YtalkinnbfglkdaaGreatDoor.Syn
