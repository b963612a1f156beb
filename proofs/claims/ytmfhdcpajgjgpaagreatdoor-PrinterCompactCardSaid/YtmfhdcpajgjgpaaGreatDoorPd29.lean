/-
  Layer 10: the texts that the reference's show writes, out of the words that Show writes.
  Layer 10: the reference's among, PrimName, OpName, word. (Written by wip/gen/syn-t1.py.)
  Layer 10: the reference's paren and list.
  Layer 10: the reference's Body. (Written by wip/gen/syn-t3.py.)
  Layer 10: the reference's show. (Written by wip/gen/syn-t4.py.)
  Layer 10: the reference's Show; the program's Show at a node that is not valid. (Written by wip/gen/syn-t5.py.)
-/
import Derived.Test.YtmfhdcpajgjgpaaGreatDoorPd28
import Derived.Test.YtmfhdcpajgjgpaaGreatDoorPd8
import Derived.BigQuiet
import Derived.Test.YtmfhdcpajgjgpaaGreatDoorPd17
import Derived.Test.YtmfhdcpajgjgpaaGreatDoorPd12
import Derived.Test.YtmfhdcpajgjgpaaGreatDoorPd20
import Derived.Test.YtmfhdcpajgjgpaaGreatDoorPd23
set_option maxHeartbeats 8000000
namespace Go.Proofs.YtmfhdcpajgjgpaaGreatDoor.Syn
open Go.RowKit Go.Shelf Go.Maps Go.Proofs.YtmfhdcpajgjgpaaGreatDoor.Shape
set_option linter.unusedVariables false
set_option linter.unusedSimpArgs false
set_option maxRecDepth 100000
theorem kX (a b:ByteArray):(a++b).data.toList=a.data.toList++b.data.toList:=by simp [ByteArray.data_append]
def blk:ByteArray:=⟨#[32]⟩
def T (lt:Arr->ByteArray) (N:Nd):ByteArray:=zb (shN lt N)
theorem par_ne {enc:List Int}{x:Int × List ByteArray}(h:x.2≠[]):par enc x≠[]:=by
 unfold par;split
 ·simp
 ·exact h
theorem ok_k3 {N:Nd}(h:okN N=true) (hk:N.k=3):2<=N.ks.length:=by
 rw [qj,if_neg (by omega)] at h
 simp only [Bool.and_eq_true,Bool.or_eq_true] at h
 rcases h.2 with g | g
 ·unfold zM at g
  rw [if_neg (by omega),if_neg (by omega),if_neg (by omega),if_neg (by omega),if_neg (by omega),if_neg (by omega)] at g
  cases g
 ·have g:=g.1
  unfold zO at g
  rw [if_pos hk] at g
  simp only [Bool.and_eq_true,decide_eq_true_eq] at g
  exact g.2.1.2
theorem ok_k16 {N:Nd}(h:okN N=true) (hk:N.k=16):1<=N.ks.length:=by
 rw [qj,if_neg (by omega)] at h
 simp only [Bool.and_eq_true,Bool.or_eq_true] at h
 rcases h.2 with g | g
 ·unfold zM at g
  rw [if_neg (by omega),if_neg (by omega),if_neg (by omega),if_neg (by omega),if_neg (by omega),if_neg (by omega)] at g
  cases g
 ·have g:=g.1
  unfold zO at g
  rw [if_neg (by omega),if_neg (by omega),if_neg (by omega),if_neg (by omega),if_neg (by omega),if_pos hk] at g
  simp only [Bool.and_eq_true,Bool.or_eq_true] at g
  rcases g.2.2 with (g | g) | g
  ·obtain ⟨A,B,e⟩:=cls2 g;rw [e];simp
  ·obtain ⟨A,B,C,e⟩:=cls3 g;rw [e];simp
  ·obtain ⟨A,B,C,e⟩:=cls3 g;rw [e];simp
theorem kE {N:Nd}(h:okN N=true) {j:Nat}(hj:j<N.ks.length):okN N.ks[j]=true:=okK_allP.1 (qm h) j hj
theorem flat_ne (lt:Arr->ByteArray) (enc:List Int) {l:List Nd}(hl:1<=l.length) (h:∀ i (h:i<l.length),shN lt l[i]≠[]):(shK lt l).flatMap (par enc)≠[]:=by
 cases l with
 | nil=>simp at hl
 | cons N r =>
  rw [shK,List.flatMap_cons]
  have:=par_ne (enc:=enc) (x:=(N.k,shN lt N)) (h 0 (by simp))
  simp [this]
theorem app_ne {a b:List ByteArray}(h:a≠[]):a++b≠[]:=by simp [h]
theorem shN_ne (lt:Arr->ByteArray):∀ (r:Nat) (N:Nd),rkN N<r->okN N=true->shN lt N≠[]
 | 0,_,h,_=>absurd h (Nat.not_lt_zero _)
 | r+1,N,h,ok=>by
  have ihk:∀ i (h:i<N.ks.length),shN lt N.ks[i]≠[]:=fun i hi=>shN_ne lt r _ (by have:=zk N hi;omega) (kE ok hi)
  rw [kC]
  split
  ·rename_i hk;exact flat_ne lt _ (by have:=ok_k3 ok hk;omega) ihk
  split
  ·rename_i hk
   obtain ⟨A,B,e⟩:=ok_k4 ok hk
   have h0:=ihk 0 (by rw [e];simp)
   simp only [e] at h0 ⊢
   exact app_ne (par_ne h0)
  split
  ·rename_i hk
   obtain ⟨A,B,C,e⟩:=ok_k5 ok hk
   have h0:=ihk 1 (by rw [e];simp)
   simp only [e] at h0 ⊢
   exact app_ne (par_ne h0)
  split
  ·simp
  split
  ·rename_i hk
   obtain ⟨A,B,e⟩:=ok_k14 ok hk
   have h0:=ihk 1 (by rw [e];simp)
   simp only [e] at h0 ⊢
   exact app_ne (par_ne h0)
  split
  ·rename_i hk
   obtain ⟨A,B,C,e⟩:=ok_k15 ok hk
   have h0:=ihk 1 (by rw [e];simp)
   simp only [e] at h0 ⊢
   exact app_ne (par_ne h0)
  split
  ·rename_i hk;exact flat_ne lt _ (ok_k16 ok hk) ihk
  ·simp
theorem shN_ne' (lt:Arr->ByteArray) {N:Nd}(ok:okN N=true):shN lt N≠[]:=shN_ne lt _ N (Nat.lt_succ_self _) ok
def LT (lt:Arr->ByteArray) (enc:List Int) (l:List Nd):ByteArray:=zb ((shK lt l).flatMap (par enc))
def arw:ByteArray:=⟨#[32,60,45,32]⟩
def col:ByteArray:=⟨#[32,58,32]⟩
def HT (lt:Arr->ByteArray) (S:St) (s:ByteArray):ByteArray:=if S.k=2 then s++(S.n++arw) else if S.k=3 then s++(T lt S.te++col) else s
theorem joinW_size (l:List ByteArray) (h:∀ s∈l,s.size<=1000000):(zb l).size<=l.length*1000001:=by
 have:=join_len [32] 1000000 (l.map (·.data.toList)) (by
  intro x hx
  obtain ⟨s,hs,rfl⟩:=List.mem_map.1 hx
  have:=h s hs
  have e:s.size=s.data.toList.length:=by simp
  omega)
 have e:(zb l).size =(Lib.join (l.map (·.data.toList)) [32]).length:=by
  unfold zb
  show (List.toArray _).size=_
  simp
 rw [e]
 simpa using this
end Go.Proofs.YtmfhdcpajgjgpaaGreatDoor.Syn
namespace Go.Proofs.YtmfhdcpajgjgpaaGreatDoor.Syn
open Go.RowKit Go.Proofs.YtmfhdcpajgjgpaaGreatDoor.Shape
set_option linter.unusedVariables false
set_option linter.unusedSimpArgs false
set_option maxRecDepth 100000
theorem elemStr2:Tryz.prog.underlying 61=some (.slice (Tryz.prog.elem 61)):=by kernel_rfl
theorem sizeStr2 (w:World):(sizeOf (Tryz.prog.elem 61)).run Tryz.prog w=.ok 1 w:=by kernel_rfl
theorem primNameR_row (w:World) (k:Nat) (hk:k<55):(w.alloc (.cells #[.string ⟨#[43]⟩,.string ⟨#[45]⟩,.string ⟨#[42]⟩,.string ⟨#[37]⟩,.string ⟨#[124]⟩,.string ⟨#[94]⟩,.string ⟨#[109,105,110]⟩,.string ⟨#[109,97,120]⟩,.string ⟨#[60]⟩,.string ⟨#[60,61]⟩,.string ⟨#[61]⟩,.string ⟨#[126,61]⟩,.string ⟨#[62,61]⟩,.string ⟨#[62]⟩,.string ⟨#[97,110,100]⟩,.string ⟨#[111,114]⟩,.string ⟨#[110,111,116]⟩,.string ⟨#[115,104,97,112,101]⟩,.string ⟨#[114,101,115,104,97,112,101]⟩,.string ⟨#[116,97,108,108,121]⟩,.string ⟨#[100,101,112,116,104]⟩,.string ⟨#[44]⟩,.string ⟨#[115,116,97,99,107]⟩,.string ⟨#[105,111,116,97]⟩,.string ⟨#[116,97,107,101]⟩,.string ⟨#[100,114,111,112]⟩,.string ⟨#[102,105,114,115,116]⟩,.string ⟨#[114,101,118,101,114,115,101]⟩,.string ⟨#[114,111,116,97,116,101]⟩,.string ⟨#[116,114,97,110,115,112,111,115,101]⟩,.string ⟨#[102,114,111,109]⟩,.string ⟨#[112,105,99,107]⟩,.string ⟨#[115,101,108,101,99,116]⟩,.string ⟨#[97,109,101,110,100]⟩,.string ⟨#[117,112]⟩,.string ⟨#[100,111,119,110]⟩,.string ⟨#[115,111,114,116]⟩,.string ⟨#[102,105,110,100]⟩,.string ⟨#[105,110]⟩,.string ⟨#[117,110,105,113,117,101]⟩,.string ⟨#[119,104,101,114,101]⟩,.string ⟨#[99,111,112,121]⟩,.string ⟨#[101,120,112,97,110,100]⟩,.string ⟨#[99,117,116]⟩,.string ⟨#[101,110,99,111,100,101]⟩,.string ⟨#[100,101,99,111,100,101]⟩,.string ⟨#[98,111,120]⟩,.string ⟨#[111,112,101,110]⟩,.string ⟨#[115,97,109,101]⟩,.string ⟨#[107,105,110,100]⟩,.string ⟨#[111,114,100]⟩,.string ⟨#[99,104,114]⟩,.string ⟨#[102,111,114,109,97,116]⟩,.string ⟨#[108,101,102,116]⟩,.string ⟨#[114,105,103,104,116]⟩] 9)).cell? ⟨w.heap.size,k,none⟩=some (.string (primT.getD (k+1) ⟨#[]⟩)):=by
 have e:(#[.string ⟨#[43]⟩,.string ⟨#[45]⟩,.string ⟨#[42]⟩,.string ⟨#[37]⟩,.string ⟨#[124]⟩,.string ⟨#[94]⟩,.string ⟨#[109,105,110]⟩,.string ⟨#[109,97,120]⟩,.string ⟨#[60]⟩,.string ⟨#[60,61]⟩,.string ⟨#[61]⟩,.string ⟨#[126,61]⟩,.string ⟨#[62,61]⟩,.string ⟨#[62]⟩,.string ⟨#[97,110,100]⟩,.string ⟨#[111,114]⟩,.string ⟨#[110,111,116]⟩,.string ⟨#[115,104,97,112,101]⟩,.string ⟨#[114,101,115,104,97,112,101]⟩,.string ⟨#[116,97,108,108,121]⟩,.string ⟨#[100,101,112,116,104]⟩,.string ⟨#[44]⟩,.string ⟨#[115,116,97,99,107]⟩,.string ⟨#[105,111,116,97]⟩,.string ⟨#[116,97,107,101]⟩,.string ⟨#[100,114,111,112]⟩,.string ⟨#[102,105,114,115,116]⟩,.string ⟨#[114,101,118,101,114,115,101]⟩,.string ⟨#[114,111,116,97,116,101]⟩,.string ⟨#[116,114,97,110,115,112,111,115,101]⟩,.string ⟨#[102,114,111,109]⟩,.string ⟨#[112,105,99,107]⟩,.string ⟨#[115,101,108,101,99,116]⟩,.string ⟨#[97,109,101,110,100]⟩,.string ⟨#[117,112]⟩,.string ⟨#[100,111,119,110]⟩,.string ⟨#[115,111,114,116]⟩,.string ⟨#[102,105,110,100]⟩,.string ⟨#[105,110]⟩,.string ⟨#[117,110,105,113,117,101]⟩,.string ⟨#[119,104,101,114,101]⟩,.string ⟨#[99,111,112,121]⟩,.string ⟨#[101,120,112,97,110,100]⟩,.string ⟨#[99,117,116]⟩,.string ⟨#[101,110,99,111,100,101]⟩,.string ⟨#[100,101,99,111,100,101]⟩,.string ⟨#[98,111,120]⟩,.string ⟨#[111,112,101,110]⟩,.string ⟨#[115,97,109,101]⟩,.string ⟨#[107,105,110,100]⟩,.string ⟨#[111,114,100]⟩,.string ⟨#[99,104,114]⟩,.string ⟨#[102,111,114,109,97,116]⟩,.string ⟨#[108,101,102,116]⟩,.string ⟨#[114,105,103,104,116]⟩]:Array Value) =((primT.drop 1).map Value.string).toArray:=rfl
 have:=(zL w ((primT.drop 1).map Value.string) 9) k (by simpa [primT] using hk)
 rw [Nat.zero_add] at this
 rw [e,this]
 simp only [List.getElem_map,List.getElem_drop]
 rw [List.getD_eq_getElem?_getD,List.getElem?_eq_getElem (by show k+1<56;omega)]
 simp only [Option.getD_some,Nat.add_comm 1 k]
theorem primNameR (p:Int) (hp:1<=p/\p<=55) (w:World):Calls Tryz.prog 145 #[.int .i64 p] w fun e w'=>e=.returned (.string (primT.getD p.toNat ⟨#[]⟩))/\Below w.heap.size w w':=by
 obtain ⟨k,hk⟩:∃ k:Nat,p =(k:Int)+1:=⟨(p - 1).toNat,by omega⟩
 subst hk
 rw [show ((k:Int)+1).toNat=k+1 by omega]
 have hc:=primNameR_row w k (by omega)
 have bw:=below_new w (.cells #[.string ⟨#[43]⟩,.string ⟨#[45]⟩,.string ⟨#[42]⟩,.string ⟨#[37]⟩,.string ⟨#[124]⟩,.string ⟨#[94]⟩,.string ⟨#[109,105,110]⟩,.string ⟨#[109,97,120]⟩,.string ⟨#[60]⟩,.string ⟨#[60,61]⟩,.string ⟨#[61]⟩,.string ⟨#[126,61]⟩,.string ⟨#[62,61]⟩,.string ⟨#[62]⟩,.string ⟨#[97,110,100]⟩,.string ⟨#[111,114]⟩,.string ⟨#[110,111,116]⟩,.string ⟨#[115,104,97,112,101]⟩,.string ⟨#[114,101,115,104,97,112,101]⟩,.string ⟨#[116,97,108,108,121]⟩,.string ⟨#[100,101,112,116,104]⟩,.string ⟨#[44]⟩,.string ⟨#[115,116,97,99,107]⟩,.string ⟨#[105,111,116,97]⟩,.string ⟨#[116,97,107,101]⟩,.string ⟨#[100,114,111,112]⟩,.string ⟨#[102,105,114,115,116]⟩,.string ⟨#[114,101,118,101,114,115,101]⟩,.string ⟨#[114,111,116,97,116,101]⟩,.string ⟨#[116,114,97,110,115,112,111,115,101]⟩,.string ⟨#[102,114,111,109]⟩,.string ⟨#[112,105,99,107]⟩,.string ⟨#[115,101,108,101,99,116]⟩,.string ⟨#[97,109,101,110,100]⟩,.string ⟨#[117,112]⟩,.string ⟨#[100,111,119,110]⟩,.string ⟨#[115,111,114,116]⟩,.string ⟨#[102,105,110,100]⟩,.string ⟨#[105,110]⟩,.string ⟨#[117,110,105,113,117,101]⟩,.string ⟨#[119,104,101,114,101]⟩,.string ⟨#[99,111,112,121]⟩,.string ⟨#[101,120,112,97,110,100]⟩,.string ⟨#[99,117,116]⟩,.string ⟨#[101,110,99,111,100,101]⟩,.string ⟨#[100,101,99,111,100,101]⟩,.string ⟨#[98,111,120]⟩,.string ⟨#[111,112,101,110]⟩,.string ⟨#[115,97,109,101]⟩,.string ⟨#[107,105,110,100]⟩,.string ⟨#[111,114,100]⟩,.string ⟨#[99,104,114]⟩,.string ⟨#[102,111,114,109,97,116]⟩,.string ⟨#[108,101,102,116]⟩,.string ⟨#[114,105,103,104,116]⟩] 9)
 obtain ⟨s,hs⟩:∃ s,primT.getD (k+1) ⟨#[]⟩=s:=⟨_,rfl⟩
 rw [hs] at hc ⊢
 have hi:∀ w':World,(Instr.indexAt 61 (.slice (some ⟨w.heap.size,0,none⟩) 55 55) (.int .i64 (k:Int))).run Tryz.prog w'=.ok (.pointer (some ⟨w.heap.size,k,none⟩)) w':=fun w'=>by
  rw [run_indexAt_slice w' _ _ _ _ .i64 k elemStr2,if_pos (by omega),sizeStr2]
  show Result.ok _ w'=_
  rw [show ((k:Int).toNat*1)=k by omega,Shape.add_plain,Nat.zero_add]
 have hsub:(k:Int)+1 - 1 =(k:Int):=by omega
 clear hs
 go_enter Tryz.func145,Tryz.ntmps145
 go_wp2_with fail
 go_ret
 exact ⟨rfl,bw⟩
theorem opNameR_row (w:World) (k:Nat) (hk:k<11):(w.alloc (.cells #[.string ⟨#[47]⟩,.string ⟨#[92]⟩,.string ⟨#[101,97,99,104]⟩,.string ⟨#[115,119,97,112]⟩,.string ⟨#[111,117,116,101,114]⟩,.string ⟨#[105,110,110,101,114]⟩,.string ⟨#[114,97,110,107]⟩,.string ⟨#[112,111,119,101,114]⟩,.string ⟨#[115,116,101,110,99,105,108]⟩,.string ⟨#[97,116,111,112]⟩,.string ⟨#[111,118,101,114]⟩] 9)).cell? ⟨w.heap.size,k,none⟩=some (.string (opT.getD (k+1) ⟨#[]⟩)):=by
 have e:(#[.string ⟨#[47]⟩,.string ⟨#[92]⟩,.string ⟨#[101,97,99,104]⟩,.string ⟨#[115,119,97,112]⟩,.string ⟨#[111,117,116,101,114]⟩,.string ⟨#[105,110,110,101,114]⟩,.string ⟨#[114,97,110,107]⟩,.string ⟨#[112,111,119,101,114]⟩,.string ⟨#[115,116,101,110,99,105,108]⟩,.string ⟨#[97,116,111,112]⟩,.string ⟨#[111,118,101,114]⟩]:Array Value) =((opT.drop 1).map Value.string).toArray:=rfl
 have:=(zL w ((opT.drop 1).map Value.string) 9) k (by simpa [opT] using hk)
 rw [Nat.zero_add] at this
 rw [e,this]
 simp only [List.getElem_map,List.getElem_drop]
 rw [List.getD_eq_getElem?_getD,List.getElem?_eq_getElem (by show k+1<12;omega)]
 simp only [Option.getD_some,Nat.add_comm 1 k]
theorem opNameR (p:Int) (hp:1<=p/\p<=11) (w:World):Calls Tryz.prog 146 #[.int .i64 p] w fun e w'=>e=.returned (.string (opT.getD p.toNat ⟨#[]⟩))/\Below w.heap.size w w':=by
 obtain ⟨k,hk⟩:∃ k:Nat,p =(k:Int)+1:=⟨(p - 1).toNat,by omega⟩
 subst hk
 rw [show ((k:Int)+1).toNat=k+1 by omega]
 have hc:=opNameR_row w k (by omega)
 have bw:=below_new w (.cells #[.string ⟨#[47]⟩,.string ⟨#[92]⟩,.string ⟨#[101,97,99,104]⟩,.string ⟨#[115,119,97,112]⟩,.string ⟨#[111,117,116,101,114]⟩,.string ⟨#[105,110,110,101,114]⟩,.string ⟨#[114,97,110,107]⟩,.string ⟨#[112,111,119,101,114]⟩,.string ⟨#[115,116,101,110,99,105,108]⟩,.string ⟨#[97,116,111,112]⟩,.string ⟨#[111,118,101,114]⟩] 9)
 obtain ⟨s,hs⟩:∃ s,opT.getD (k+1) ⟨#[]⟩=s:=⟨_,rfl⟩
 rw [hs] at hc ⊢
 have hi:∀ w':World,(Instr.indexAt 61 (.slice (some ⟨w.heap.size,0,none⟩) 11 11) (.int .i64 (k:Int))).run Tryz.prog w'=.ok (.pointer (some ⟨w.heap.size,k,none⟩)) w':=fun w'=>by
  rw [run_indexAt_slice w' _ _ _ _ .i64 k elemStr2,if_pos (by omega),sizeStr2]
  show Result.ok _ w'=_
  rw [show ((k:Int).toNat*1)=k by omega,Shape.add_plain,Nat.zero_add]
 have hsub:(k:Int)+1 - 1 =(k:Int):=by omega
 clear hs
 go_enter Tryz.func146,Tryz.ntmps146
 go_wp2_with fail
 go_ret
 exact ⟨rfl,bw⟩
theorem ok_leaf {N:Nd}(h:okN N=true) (hk:¬ N.k=3/\¬ N.k=4/\¬ N.k=5/\¬ N.k=10/\¬ N.k=14/\¬ N.k=15/\¬ N.k=16):N.k=1∨N.k=2∨N.k=6∨N.k=7∨N.k=8∨N.k=9∨N.k=11∨N.k=12∨N.k=13∨N.k=17:=by
 rw [qj,if_neg hk.2.2.2.1] at h
 simp only [Bool.and_eq_true,Bool.or_eq_true] at h
 rcases h.2 with g | g
 ·unfold zM at g
  by_cases a1:N.k=1
  ·omega
  by_cases a2:N.k=2
  ·omega
  by_cases a3:N.k=6∨N.k=7∨N.k=8
  ·omega
  by_cases a4:N.k=9
  ·omega
  by_cases a5:N.k=11∨N.k=12∨N.k=13
  ·omega
  by_cases a6:N.k=17
  ·omega
  rw [if_neg a1,if_neg a2,if_neg a3,if_neg a4,if_neg a5,if_neg a6] at g
  cases g
 ·have g:=g.1
  unfold zO at g
  rw [if_neg hk.1,if_neg hk.2.1,if_neg hk.2.2.1,if_neg hk.2.2.2.2.1,if_neg hk.2.2.2.2.2.1,if_neg hk.2.2.2.2.2.2] at g
  simp at g
def LitR (W0:World) (A:Arr) (s:ByteArray):Prop:=∀ v w,Below W0.heap.size W0 w->ArrAt w v A->Calls Tryz.prog 144 #[v] w fun e w'=>e=.returned (.string s)/\Below w.heap.size w w'
theorem wordR (lt:Arr->ByteArray) (cs:List Value) (N:Nd) (W0 w:World) (hb:Below W0.heap.size W0 w) (h:NdV w cs N) (hok:okN N=true) (HL:N.k=1->LitR W0 N.v (lt N.v))
  (hk:¬ N.k=3/\¬ N.k=4/\¬ N.k=5/\¬ N.k=10/\¬ N.k=14/\¬ N.k=15/\¬ N.k=16) :
  Calls Tryz.prog 126 #[.agg cs.toArray] w fun e w'=>e=.returned (.string (wdB lt N))/\Below w.heap.size w w':=by
 obtain ⟨v0,v1,v2,v3,ka,kc,ba,bc,kb,ko,bb,bo,O⟩:=h.open
 have he:=O.eq
 subst he
 have hP:=NPar.new w [.int .i64 N.k,.int .i64 N.a,.int .i64 N.c,.string N.t,.int .i64 N.p,.int .i64 N.o,v0,v1,v2,v3,.slice ka N.ks.length kc,.slice ba N.bd.length bc,.int .i64 N.d,.int .i64 N.s,.int .i64 N.z] 40
 have BN:=below_new w (.cells [.int .i64 N.k,.int .i64 N.a,.int .i64 N.c,.string N.t,.int .i64 N.p,.int .i64 N.o,v0,v1,v2,v3,.slice ka N.ks.length kc,.slice ba N.bd.length bc,.int .i64 N.d,.int .i64 N.s,.int .i64 N.z].toArray 40)
 obtain ⟨g0,-,g2,g3,g4,g5,g6,g7,g8,g9,-⟩:=hP.fip
 obtain ⟨r,hr⟩:∃ r,wdB lt N=r:=⟨_,rfl⟩
 rw [hr]
 have HQ:Hid (wdB lt N=r):=hr
 have ar:=O.arr
 have hbn:=Below.then hb BN
 have O9:=ok_prim hok
 have O17:=ok_op hok
 have OK:N.k=1∨N.k=2∨N.k=6∨N.k=7∨N.k=8∨N.k=9∨N.k=11∨N.k=12∨N.k=13∨N.k=17:=ok_leaf hok hk
 clear hr O hP hok hk
 unfold wdB at HQ
 rcases OK with k | k | k | k | k | k | k | k | k | k
 ·simp only [k] at HQ
  have e1:(N.k==1)=true:=by rw [k];rfl
  have e2:(N.k==2)=false:=by rw [k];rfl
  have e9:(N.k==9)=false:=by rw [k];rfl
  have e17:(N.k==17)=false:=by rw [k];rfl
  have e6:(N.k==6)=false:=by rw [k];rfl
  have e7:(N.k==7)=false:=by rw [k];rfl
  have e8:(N.k==8)=false:=by rw [k];rfl
  have e11:(N.k==11)=false:=by rw [k];rfl
  have e12:(N.k==12)=false:=by rw [k];rfl
  have HG:Hid (lt N.v=r):=HQ
  have K:=HL k (.agg #[v0,v1,v2,v3]) _ hbn (ar.below BN)
  clear HQ O9 O17 k
  go_enter Tryz.func126,Tryz.ntmps126
  go_wp2_with (go_at_call 144;((with_reducible refine K.mono ?_);rintro e w3 ⟨rfl,b3⟩))
  go_ret
  exact ⟨by rw [<- HG.out];rfl,Below.then BN b3⟩
 ·simp only [k] at HQ
  have e1:(N.k==1)=false:=by rw [k];rfl
  have e2:(N.k==2)=true:=by rw [k];rfl
  have e9:(N.k==9)=false:=by rw [k];rfl
  have e17:(N.k==17)=false:=by rw [k];rfl
  have e6:(N.k==6)=false:=by rw [k];rfl
  have e7:(N.k==7)=false:=by rw [k];rfl
  have e8:(N.k==8)=false:=by rw [k];rfl
  have e11:(N.k==11)=false:=by rw [k];rfl
  have e12:(N.k==12)=false:=by rw [k];rfl
  have HG:Hid (N.t=r):=HQ
  clear HL
  clear HQ O9 O17 k
  go_enter Tryz.func126,Tryz.ntmps126
  go_wp2_with fail
  go_ret
  exact ⟨by rw [<- HG.out];rfl,BN⟩
 ·simp only [k] at HQ
  have e1:(N.k==1)=false:=by rw [k];rfl
  have e2:(N.k==2)=false:=by rw [k];rfl
  have e9:(N.k==9)=false:=by rw [k];rfl
  have e17:(N.k==17)=false:=by rw [k];rfl
  have e6:(N.k==6)=true:=by rw [k];rfl
  have e7:(N.k==7)=false:=by rw [k];rfl
  have e8:(N.k==8)=false:=by rw [k];rfl
  have e11:(N.k==11)=false:=by rw [k];rfl
  have e12:(N.k==12)=false:=by rw [k];rfl
  have HG:Hid (⟨#[88]⟩=r):=HQ
  clear HL
  clear HQ O9 O17 k
  go_enter Tryz.func126,Tryz.ntmps126
  go_wp2_with fail
  go_ret
  exact ⟨by rw [<- HG.out];rfl,BN⟩
 ·simp only [k] at HQ
  have e1:(N.k==1)=false:=by rw [k];rfl
  have e2:(N.k==2)=false:=by rw [k];rfl
  have e9:(N.k==9)=false:=by rw [k];rfl
  have e17:(N.k==17)=false:=by rw [k];rfl
  have e6:(N.k==6)=false:=by rw [k];rfl
  have e7:(N.k==7)=true:=by rw [k];rfl
  have e8:(N.k==8)=false:=by rw [k];rfl
  have e11:(N.k==11)=false:=by rw [k];rfl
  have e12:(N.k==12)=false:=by rw [k];rfl
  have HG:Hid (⟨#[89]⟩=r):=HQ
  clear HL
  clear HQ O9 O17 k
  go_enter Tryz.func126,Tryz.ntmps126
  go_wp2_with fail
  go_ret
  exact ⟨by rw [<- HG.out];rfl,BN⟩
 ·simp only [k] at HQ
  have e1:(N.k==1)=false:=by rw [k];rfl
  have e2:(N.k==2)=false:=by rw [k];rfl
  have e9:(N.k==9)=false:=by rw [k];rfl
  have e17:(N.k==17)=false:=by rw [k];rfl
  have e6:(N.k==6)=false:=by rw [k];rfl
  have e7:(N.k==7)=false:=by rw [k];rfl
  have e8:(N.k==8)=true:=by rw [k];rfl
  have e11:(N.k==11)=false:=by rw [k];rfl
  have e12:(N.k==12)=false:=by rw [k];rfl
  have HG:Hid (⟨#[97,114,103]⟩=r):=HQ
  clear HL
  clear HQ O9 O17 k
  go_enter Tryz.func126,Tryz.ntmps126
  go_wp2_with fail
  go_ret
  exact ⟨by rw [<- HG.out];rfl,BN⟩
 ·simp only [k] at HQ
  have e1:(N.k==1)=false:=by rw [k];rfl
  have e2:(N.k==2)=false:=by rw [k];rfl
  have e9:(N.k==9)=true:=by rw [k];rfl
  have e17:(N.k==17)=false:=by rw [k];rfl
  have e6:(N.k==6)=false:=by rw [k];rfl
  have e7:(N.k==7)=false:=by rw [k];rfl
  have e8:(N.k==8)=false:=by rw [k];rfl
  have e11:(N.k==11)=false:=by rw [k];rfl
  have e12:(N.k==12)=false:=by rw [k];rfl
  have HG:Hid (primT.getD N.p.toNat ⟨#[]⟩=r):=HQ
  have K:=fun w=>primNameR N.p (O9 k) w
  clear HL
  clear HQ O9 O17 k
  go_enter Tryz.func126,Tryz.ntmps126
  go_wp2_with (go_at_call 145;((with_reducible refine (K _).mono ?_);rintro e w3 ⟨rfl,b3⟩))
  go_ret
  exact ⟨by rw [<- HG.out];rfl,Below.then BN b3⟩
 ·simp only [k] at HQ
  have e1:(N.k==1)=false:=by rw [k];rfl
  have e2:(N.k==2)=false:=by rw [k];rfl
  have e9:(N.k==9)=false:=by rw [k];rfl
  have e17:(N.k==17)=false:=by rw [k];rfl
  have e6:(N.k==6)=false:=by rw [k];rfl
  have e7:(N.k==7)=false:=by rw [k];rfl
  have e8:(N.k==8)=false:=by rw [k];rfl
  have e11:(N.k==11)=true:=by rw [k];rfl
  have e12:(N.k==12)=false:=by rw [k];rfl
  have HG:Hid (⟨#[115,101,108,102]⟩=r):=HQ
  clear HL
  clear HQ O9 O17 k
  go_enter Tryz.func126,Tryz.ntmps126
  go_wp2_with fail
  go_ret
  exact ⟨by rw [<- HG.out];rfl,BN⟩
 ·simp only [k] at HQ
  have e1:(N.k==1)=false:=by rw [k];rfl
  have e2:(N.k==2)=false:=by rw [k];rfl
  have e9:(N.k==9)=false:=by rw [k];rfl
  have e17:(N.k==17)=false:=by rw [k];rfl
  have e6:(N.k==6)=false:=by rw [k];rfl
  have e7:(N.k==7)=false:=by rw [k];rfl
  have e8:(N.k==8)=false:=by rw [k];rfl
  have e11:(N.k==11)=false:=by rw [k];rfl
  have e12:(N.k==12)=true:=by rw [k];rfl
  have HG:Hid (⟨#[70]⟩=r):=HQ
  clear HL
  clear HQ O9 O17 k
  go_enter Tryz.func126,Tryz.ntmps126
  go_wp2_with fail
  go_ret
  exact ⟨by rw [<- HG.out];rfl,BN⟩
 ·simp only [k] at HQ
  have e1:(N.k==1)=false:=by rw [k];rfl
  have e2:(N.k==2)=false:=by rw [k];rfl
  have e9:(N.k==9)=false:=by rw [k];rfl
  have e17:(N.k==17)=false:=by rw [k];rfl
  have e6:(N.k==6)=false:=by rw [k];rfl
  have e7:(N.k==7)=false:=by rw [k];rfl
  have e8:(N.k==8)=false:=by rw [k];rfl
  have e11:(N.k==11)=false:=by rw [k];rfl
  have e12:(N.k==12)=false:=by rw [k];rfl
  have HG:Hid (⟨#[71]⟩=r):=HQ
  clear HL
  clear HQ O9 O17 k
  go_enter Tryz.func126,Tryz.ntmps126
  go_wp2_with fail
  go_ret
  exact ⟨by rw [<- HG.out];rfl,BN⟩
 ·simp only [k] at HQ
  have e1:(N.k==1)=false:=by rw [k];rfl
  have e2:(N.k==2)=false:=by rw [k];rfl
  have e9:(N.k==9)=false:=by rw [k];rfl
  have e17:(N.k==17)=true:=by rw [k];rfl
  have e6:(N.k==6)=false:=by rw [k];rfl
  have e7:(N.k==7)=false:=by rw [k];rfl
  have e8:(N.k==8)=false:=by rw [k];rfl
  have e11:(N.k==11)=false:=by rw [k];rfl
  have e12:(N.k==12)=false:=by rw [k];rfl
  have HG:Hid (opT.getD N.o.toNat ⟨#[]⟩=r):=HQ
  have K:=fun w=>opNameR N.o (O17 k) w
  clear HL
  clear HQ O9 O17 k
  go_enter Tryz.func126,Tryz.ntmps126
  go_wp2_with (go_at_call 146;((with_reducible refine (K _).mono ?_);rintro e w3 ⟨rfl,b3⟩))
  go_ret
  exact ⟨by rw [<- HG.out];rfl,Below.then BN b3⟩
structure Fine (lt:Arr->ByteArray) (W0:World) (N:Nd):Prop where
 ok:okN N=true
 lq:lqN (fun A=>LitR W0 A (lt A)/\(lt A).size<=1000000) N
 sz:siz N<=16384
theorem Fine.kid {lt:Arr->ByteArray}{W0:World}{N:Nd}(h:Fine lt W0 N) {j:Nat}(hj:j<N.ks.length):Fine lt W0 N.ks[j]:=by
 have l:=h.lq
 rw [vp] at l
 exact ⟨kE h.ok hj,lqK_at l.2.1 hj,by have:=(zi N hj).1;have:=h.sz;omega⟩
theorem Fine.small {lt:Arr->ByteArray}{W0:World}{N:Nd}(h:Fine lt W0 N):∀ s∈shN lt N,s.size<=1000000:=xt lt _ N (Nat.lt_succ_self _) h.ok (xQ (fun A hA=>hA.2) _ N (Nat.lt_succ_self _) h.lq)
theorem words_size {l:List ByteArray}{n:Nat}(h:∀ s∈l,s.size<=1000000) (hl:l.length<=8*n) (hn:n<=16384):(zb l).size<=140000000000:=by
 have h1:=joinW_size l h
 have h2:l.length*1000001<=131072*1000001:=Nat.mul_le_mul_right _ (by omega)
 omega
theorem Fine.size {lt:Arr->ByteArray}{W0:World}{N:Nd}(h:Fine lt W0 N):(T lt N).size<=140000000000:=words_size h.small (by have:=qC lt _ N (Nat.lt_succ_self _) h.ok;omega) h.sz
theorem okL_in:∀ {l:List St}(h:okL l=true) {j:Nat}(hj:j<l.length),okS l[j]=true
 | [],_,_,hj=>absurd hj (by simp)
 | S::q,h,0,_=>by rw [okL,Bool.and_eq_true] at h;exact h.1
 | S::q,h,j+1,hj=>by
  rw [okL,Bool.and_eq_true] at h
  exact okL_in h.2 (by simpa using hj)
structure FineS (lt:Arr->ByteArray) (W0:World) (S:St):Prop where
 ok:okS S=true
 te:S.k=3->Fine lt W0 S.te
 nd:Fine lt W0 S.nd
theorem Fine.stmt {lt:Arr->ByteArray}{W0:World}{N:Nd}(h:Fine lt W0 N) (hk:N.k=10) {j:Nat}(hj:j<N.bd.length):FineS lt W0 N.bd[j]:=by
 have l:=h.lq
 rw [vp] at l
 have l2:=yv l.2.2 hj
 rw [lqS_eq] at l2
 have ok:=okL_in (yq h.ok hk) hj
 have z:=kv hj
 have z0:=qQ N
 have z1:=h.sz
 exact ⟨ok,fun k=>⟨(qE ok).2.1 k,l2.1 k,by have:=(z.2.2 k).1;omega⟩,⟨(qE ok).1,l2.2,by omega⟩⟩
theorem name_of {S:St}(h:okS S=true) (k:S.k=2):S.n.size<=32:=by
 rw [vN,if_neg (by omega),if_pos k] at h
 simp only [Bool.and_eq_true] at h
 exact kw h.2.1.1.1
theorem shS_small {lt:Arr->ByteArray}{W0:World}{S:St}(F:FineS lt W0 S):∀ s∈shS lt S,s.size<=1000000:=by
 rw [xu]
 refine zX ?_ F.nd.small
 split
 ·rename_i k
  have:=name_of F.ok k
  intro s hs
  simp only [List.mem_cons,List.not_mem_nil,or_false] at hs
  rcases hs with rfl | rfl
  ·omega
  ·decide
 ·split
  ·rename_i k
   exact zX (F.te k).small (zh (by decide))
  ·intro s hs;cases hs
theorem xR (W:World) (xs:List Int) (hx:∀ x∈xs,0<=x/\x<=20) (hl:xs.length<=1000):IntsAt (W.alloc (.cells (xs.map (fun x=>Value.int .i64 x)).toArray 29)) (some ⟨W.heap.size,0,none⟩) xs.length xs :=
 ints_new W xs _ (fun x h=>by have:=hx x h;omega) hl
theorem kZ (w:World) (o:Obj):Below (w.alloc o).heap.size (w.alloc o) ((((w.alloc o).alloc (.cells #[.int .i64 4,.int .i64 5] 29)).alloc (.cells #[.int .i64 3,.int .i64 4,.int .i64 5] 29)).alloc (.cells #[.int .i64 16] 29)) /\
  IntsAt ((((w.alloc o).alloc (.cells #[.int .i64 4,.int .i64 5] 29)).alloc (.cells #[.int .i64 3,.int .i64 4,.int .i64 5] 29)).alloc (.cells #[.int .i64 16] 29)) (some ⟨w.heap.size+1,0,none⟩) 2 [4,5] /\
  IntsAt ((((w.alloc o).alloc (.cells #[.int .i64 4,.int .i64 5] 29)).alloc (.cells #[.int .i64 3,.int .i64 4,.int .i64 5] 29)).alloc (.cells #[.int .i64 16] 29)) (some ⟨w.heap.size+1+1,0,none⟩) 3 [3,4,5] /\
  IntsAt ((((w.alloc o).alloc (.cells #[.int .i64 4,.int .i64 5] 29)).alloc (.cells #[.int .i64 3,.int .i64 4,.int .i64 5] 29)).alloc (.cells #[.int .i64 16] 29)) (some ⟨w.heap.size+1+1+1,0,none⟩) 1 [16]:=by
 have h1:=xR (w.alloc o) [4,5] (by simp) (by simp)
 have h2:=xR ((w.alloc o).alloc (.cells #[.int .i64 4,.int .i64 5] 29)) [3,4,5] (by simp) (by simp)
 have h3:=xR (((w.alloc o).alloc (.cells #[.int .i64 4,.int .i64 5] 29)).alloc (.cells #[.int .i64 3,.int .i64 4,.int .i64 5] 29)) [16] (by simp) (by simp)
 rw [show (w.alloc o).heap.size=w.heap.size+1 by simp] at h1
 rw [show ((w.alloc o).alloc (.cells #[.int .i64 4,.int .i64 5] 29)).heap.size=w.heap.size+1+1 by simp] at h2
 rw [show (((w.alloc o).alloc (.cells #[.int .i64 4,.int .i64 5] 29)).alloc (.cells #[.int .i64 3,.int .i64 4,.int .i64 5] 29)).heap.size=w.heap.size+1+1+1 by simp] at h3
 exact ⟨Below.then (Below.then (below_new _ _) (below_new _ _)) (below_new _ _),IntsAt.below (IntsAt.below h1 (below_new _ (.cells #[.int .i64 3,.int .i64 4,.int .i64 5] 29))) (below_new _ (.cells #[.int .i64 16] 29)),IntsAt.below h2 (below_new _ (.cells #[.int .i64 16] 29)),h3⟩
theorem ok_bd10 {N:Nd}(h:okN N=true) (hk:N.k=10):N.bd≠[]:=by
 rw [qj,if_pos hk] at h
 simp only [Bool.and_eq_true] at h
 intro e
 have:=h.2.1.1.1.2
 rw [e] at this
 simp at this
end Go.Proofs.YtmfhdcpajgjgpaaGreatDoor.Syn
namespace Go.Proofs.YtmfhdcpajgjgpaaGreatDoor.Syn
open Go.RowKit Go.Shelf Go.Maps Go.Proofs.YtmfhdcpajgjgpaaGreatDoor.Shape
set_option linter.unusedVariables false
set_option linter.unusedSimpArgs false
set_option maxRecDepth 100000
mutual
theorem lq_ok {R:Arr->Prop}(hR:∀ A,zo A=0->litB A=true->R A):∀ N,okN N=true->lqN R N
 | .mk k a c t p o v ks bd d s z,h=>by
  rw [lqN]
  rw [okN] at h
  simp only [Bool.and_eq_true] at h
  have hn:=h.1
  have h:=h.2
  by_cases k10:k=10
  ·rw [if_pos k10] at h
   simp only [Bool.and_eq_true] at h
   have e:=qe (N:=.mk k a c t p o v ks bd d s z) h.1.1.1.1
   have e:ks=[]:=e
   subst e
   exact ⟨fun k1=>by omega,by rw [lqK];trivial,lqB_ok hR bd h.1.2.1.2⟩
  ·rw [if_neg k10] at h
   simp only [Bool.or_eq_true,Bool.and_eq_true] at h
   have hb:(Nd.mk k a c t p o v ks bd d s z).bd=[]:=ok_bd (N:=.mk k a c t p o v ks bd d s z) (by rw [okN];simp only [Bool.and_eq_true];refine ⟨hn,?_⟩;rw [if_neg k10];simp only [Bool.or_eq_true,Bool.and_eq_true];exact h) k10
   have hb:bd=[]:=hb
   subst hb
   refine ⟨fun k1=>?_,?_,by rw [lqB];trivial⟩
   ·rcases h with h | h
    ·unfold zM at h
     rw [if_pos (show (Nd.mk k a c t p o v ks [] d s z).k=1 from k1)] at h
     simp only [Bool.and_eq_true,beq_iff_eq] at h
     exact hR v h.1.2 h.2
    ·have h:=h.1
     unfold zO at h
     have e:(Nd.mk k a c t p o v ks [] d s z).k=1:=k1
     rw [if_neg (by omega),if_neg (by omega),if_neg (by omega),if_neg (by omega),if_neg (by omega),if_neg (by omega)] at h
     simp at h
   ·rcases h with h | h
    ·have e:=leaf_ks h
     have e:ks=[]:=e
     subst e
     rw [lqK];trivial
    ·exact lqK_ok hR ks h.2
theorem lqK_ok {R:Arr->Prop}(hR:∀ A,zo A=0->litB A=true->R A):∀ l,okK l=true->lqK R l
 | [],_=>by rw [lqK];trivial
 | N::r,h=>by
  rw [okK,Bool.and_eq_true] at h
  rw [lqK]
  exact ⟨lq_ok hR N h.1,lqK_ok hR r h.2⟩
theorem lqS_ok {R:Arr->Prop}(hR:∀ A,zo A=0->litB A=true->R A):∀ S,okS S=true->lqS R S
 | .mk k a n s te nd,h=>by
  rw [okS] at h
  simp only [Bool.and_eq_true] at h
  rw [lqS]
  refine ⟨fun k3=>?_,lq_ok hR nd h.1.2⟩
  have h:=h.2
  rw [if_neg (by omega),if_neg (by omega),if_pos k3] at h
  simp only [Bool.and_eq_true] at h
  exact lq_ok hR te h.1.1.1.2
theorem lqB_ok {R:Arr->Prop}(hR:∀ A,zo A=0->litB A=true->R A):∀ l,okL l=true->lqB R l
 | [],_=>by rw [lqB];trivial
 | S::r,h=>by
  rw [okL,Bool.and_eq_true] at h
  rw [lqB]
  exact ⟨lqS_ok hR S h.1,lqB_ok hR r h.2⟩
end
end Go.Proofs.YtmfhdcpajgjgpaaGreatDoor.Syn
