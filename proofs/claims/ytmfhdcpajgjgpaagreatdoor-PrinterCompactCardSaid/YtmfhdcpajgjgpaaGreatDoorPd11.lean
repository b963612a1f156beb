/-
  Layer 5: bytes in lists, as layer 2's Show has them (the same lemmas, without the reference of layer 2, whose names meet those of layer 3).
  Layer 5: bytes gathered in a list of one's own.
  Layer 5: the reference's hex and char.
  Layer 5: the reference's char.
  Layer 5: the reference's quoted and dims.
  Layer 5: the reference's scalar.
  Layer 5: the reference's elements.
-/
import Derived.Test.YtmfhdcpajgjgpaaGreatDoorPd1
import Derived.OwnWalk
import Derived.Below
import Derived.Handy
import Derived.Laws.IdiomStrings
import Derived.Lib.AppendStr
import Derived.Deep.RegionHeld3
import Derived.Test.YtmfhdcpajgjgpaaGreatDoorPd6
import Derived.Test.YtmfhdcpajgjgpaaGreatDoorPd5
set_option maxHeartbeats 2000000
namespace Go.Proofs.YtmfhdcpajgjgpaaGreatDoor.Shape
open Go.RowKit Go.Proofs.YtmfhdcpajgjgpaaGreatDoor.Num
set_option linter.unusedVariables false
set_option maxRecDepth 100000
def bc (L:List UInt8):List Value:=L.map (fun b=>Value.int .u8 (b.toNat:Int))
theorem byteInfo:(Tryz.prog.info? 5).map (fun i=>(i.zero,i.size,i.bytes))=some (some (.int .u8 0),1,1):=by kernel_rfl
theorem qk {ops:Array Oper}{rest:List Oper}{o:Oper}{a:Act}{w:World}{Q:Exit->Act->World->Prop}(hgd:o.guard=none) (s x:Operand)
  (ho:o.op=.call { callee:=.builtin .append,args:=#[s,x],argTypes:=#[46,46] }) (w0 W:World) (c:Int) (hw:w=W.alloc (.cells #[.int .u8 c] 5))
  (v:Value) (hs:a.eval s=v) (L:List UInt8) (hown:W.ownsRow w0.heap.size 5 1 v L.length (bc L)) (hbel:Below w0.heap.size w0 W)
  (b:UInt8) (hc:c=b.toNat) (hx:a.eval x=.slice (some ⟨W.heap.size,0,none⟩) 1 1) (hl:L.length<=100000000)
  (h:∀ v' w',w'.ownsRow w0.heap.size 5 1 v' (L++[b]).length (bc (L++[b]))->Below w0.heap.size w0 w'->wpList Tryz.prog ops Q rest (a.put o.dst v') w') :
  wpList Tryz.prog ops Q (o::rest) a w:=by
 subst hw;subst hc
 obtain ⟨i0,hi,hz0,hz1,hz2⟩:=info_parts byteInfo
 have hsz:=hbel.size
 refine wpList_append_own _ hgd _ _ 46 ho w0.heap.size 5 i0 (.int .u8 0) 1 1 Tryz.underlying46 hi hz0 hz1 hz2 rfl (by decide) v L.length (bc L) hs (hown.alloc _) ⟨W.heap.size,0,none⟩ 1 1 [.int .u8 (b.toNat:Int)] hx rfl ?_ ?_ (by unfold maxLen;omega) (by omega) (by simp;omega) ?_
 ·intro j u hj
  match j,hj with
  | 0,hj=>simp at hj;subst hj;simp [Addr.add]
 ·intro u hu;simp at hu;subst hu;rfl
 ·intro v' w' hown' hgrow _
  refine h v' w' ?_ ((hbel.alloc hbel.size _).grown hgrow (by simp;omega) (fun j hj=>(hown.lt j hj).1))
  have e1:(L++[b]).length=L.length+1:=by simp
  have e2:bc (L++[b])=bc L++[.int .u8 (b.toNat:Int)]:=by simp [bc]
  rw [e1,e2];exact hown'
theorem wC {w:World}{base:Nat}{v:Value}{L:List UInt8}(h:w.ownsRow base 5 1 v L.length (bc L)) :
  (convert 46 9 v).run Tryz.prog w=.ok (.string ⟨L.toArray⟩) w:=by
 have h':=h
 rcases h'.2 with ⟨rfl,h0⟩ |⟨g,cap,cur,rfl,hg,hh,hnc,hcm,hcs,htake⟩
 ·have hx:L=[]:=List.eq_nil_of_length_eq_zero h0
  subst hx
  exact (by kernel_rfl:(convert 46 9 (.slice none 0 0)).run Tryz.prog w=.ok (.string ⟨#[]⟩) w)
 ·refine run_convert_bytes_back w 46 9 5 ⟨g,0,none⟩ cap L Tryz.underlying46 Tryz.underlying5 Tryz.underlying9 (fun j hj=>?_)
  rw [add_plain,Nat.zero_add,h.cellAt j (by omega)]
  simp [bc,hj]
theorem jn_step {xs:List Int}{k:Nat}(hk:k<xs.length) (h0:0<k):jn (xs.take (k+1))=jn (xs.take k)++32::shL xs[k]:=by
 rw [kG xs k hk,jn_snoc _ _ (fun e=>by
  have:(xs.take k).length=0:=by rw [e];rfl
  rw [List.length_take] at this;omega)]
theorem jn_first {xs:List Int}(hk:0<xs.length):jn (xs.take (0+1))=shL xs[0]:=by
 rw [kG xs 0 hk];exact jn_one _
theorem jn_len (xs:List Int) (k:Nat) (h:∀ x∈xs,-9223372036854775808<=x/\x<=9223372036854775807) (hs:xs.length<=2000000):(jn (xs.take k)).length<=42000000:=by
 have h1:=jS_size (xs.take k) (fun x hx=>h x (List.mem_of_mem_take hx))
 have h2:(jS (xs.take k)).size =(jn (xs.take k)).length:=by simp [jS,ByteArray.size]
 rw [h2,List.length_take] at h1
 omega
def OB (w:World) (B:Nat) (v:Value) (L:List UInt8):Prop:=w.ownsRow B 5 1 v L.length (bc L)
theorem OB.lit (w:World) (cs:Array Value) (L:List UInt8) (hc:cs =(bc L).toArray) (hl:L.length<=1000):OB (w.alloc (.cells cs 5)) w.heap.size (.slice (some ⟨w.heap.size,0,none⟩) L.length L.length) L:=by
 subst hc
 have h:=World.ownsRow_lit (base:=w.heap.size) (e:=5) (size:=1) w (bc L).toArray L.length (Nat.le_refl _) (by unfold maxLen;omega) (by simp [bc])
 exact h
theorem OB.below {w w':World}{B:Nat}{v:Value}{L:List UInt8}(h:OB w B v L) (hb:Below w.heap.size w w'):OB w' B v L:=by
 refine ⟨h.1,?_⟩
 rcases h.2 with h |⟨g,cap,cur,hv,hg,hh,r⟩
 ·exact Or.inl h
 ·exact Or.inr ⟨g,cap,cur,hv,hg,(hb.block g (Array.getElem?_eq_some_iff.1 hh).1).trans hh,r⟩
theorem cells_bc (S:List UInt8):Go.Lib.strCells ⟨S.toArray⟩=bc S:=by simp [Go.Lib.strCells,bc]
theorem qU {ops:Array Oper}{rest:List Oper}{o:Oper}{a:Act}{w:World}{Q:Exit->Act->World->Prop}(hgd:o.guard=none) (s x:Operand)
  (ho:o.op=.call { callee:=.builtin .append,args:=#[s,x],argTypes:=#[46,9] }) (w0:World)
  (v:Value) (hs:a.eval s=v) (L:List UInt8) (hown:OB w w0.heap.size v L) (hbel:Below w0.heap.size w0 w)
  (S:List UInt8) (s':ByteArray) (hS:s' =⟨S.toArray⟩) (hx:a.eval x=.string s') (hl:L.length+S.length<=100000000)
  (h:∀ v' w',OB w' w0.heap.size v' (L++S)->Below w0.heap.size w0 w'->wpList Tryz.prog ops Q rest (a.put o.dst v') w') :
  wpList Tryz.prog ops Q (o::rest) a w:=by
 subst hS
 obtain ⟨i0,hi,hz0,hz1,hz2⟩:=info_parts byteInfo
 have hsz:=hbel.size
 have e:(ByteArray.mk S.toArray).size=S.length:=by simp [ByteArray.size]
 refine Go.Lib.wpList_append_own_string (P:=Tryz.prog) w hgd _ _ 46 9 ho w0.heap.size 5 i0 Tryz.underlying46 Tryz.underlying9 hi hz0 hz1 hz2 v L.length (bc L) hs hown ⟨S.toArray⟩ hx (by rw [e];unfold maxLen;omega) (by rw [e];omega) hsz ?_
 intro v' w' hown' hgrow _
 refine h v' w' ?_ (hbel.grown hgrow hsz (fun j hj=>(hown.lt j hj).1))
 rw [e,cells_bc] at hown'
 unfold OB
 have e2:bc (L++S)=bc L++bc S:=by simp [bc]
 rw [List.length_append,e2]
 exact hown'
end Go.Proofs.YtmfhdcpajgjgpaaGreatDoor.Shape
namespace Go.Proofs.YtmfhdcpajgjgpaaGreatDoor.Shape
open Go.RowKit Go.Proofs.YtmfhdcpajgjgpaaGreatDoor.Num
set_option linter.unusedVariables false
def hxB (m:Nat):ByteArray:=⟨(hx m).toArray⟩
def chB (c q:Int):ByteArray:=⟨(chS c q).toArray⟩
theorem slice_hex (k:Nat) (h:k<16) (w:World):(Instr.slice 9 (.string ⟨#[48,49,50,51,52,53,54,55,56,57,97,98,99,100,101,102]⟩) (some (.int .i64 (k:Int))) (some (.int .i64 ((k:Int)+1))) none).run Tryz.prog w=.ok (.string ⟨#[hd k]⟩) w:=by
 rw [run_slice_string w 9 _ .i64 .i64 (k:Int) ((k:Int)+1) Tryz.underlying9 (by omega) (by omega) (by show (k:Int)+1<=((16:Nat):Int);omega)]
 have:∀ k:Fin 16,(ByteArray.mk #[48,49,50,51,52,53,54,55,56,57,97,98,99,100,101,102]).extract k.val (k.val+1) =⟨#[hd k.val]⟩:=by decide
 have e:=this ⟨k,h⟩
 simp only at e
 rw [show ((k:Int)).toNat=k by omega,show ((k:Int)+1).toNat=k+1 by omega,e]
theorem hxB_more {m:Nat}(h:¬ m<16):hxB m=hxB (m / 16)++⟨#[hd (m % 16)]⟩:=by
 unfold hxB
 rw [wl h,hd_mod]
 apply ByteArray.ext
 simp
theorem hxB_size {m:Nat}(h:m<16777216):(hxB m).size<=6:=by
 have:=hx_len 5 m (by omega)
 unfold hxB
 simpa [ByteArray.size] using this
theorem fhexR (f:Nat):∀ (m:Nat) (w:World),m<f->m<16777216 ->
  Calls Tryz.prog 181 #[.int .i64 (m:Int)] w fun e w'=>e=.returned (.string (hxB m))/\Below w.heap.size w w':=by
 induction f with
 | zero=>intro m w h;omega
 | succ f ih =>
  intro m w hm h2
  by_cases h16:m<16
  ·have he:=slice_hex m h16
   have e1:hxB m =⟨#[hd m]⟩:=by unfold hxB;rw [xT h16]
   rw [e1]
   go_enter Tryz.func181,Tryz.ntmps181
   go_wp2_with fail
   go_ret
   exact ⟨rfl,Below.refl _ _⟩
  ·have he:=slice_hex (m % 16) (Nat.mod_lt _ (by decide))
   rw [hxB_more h16]
   have z1:=hxB_size (m:=m / 16) (by omega)
   obtain ⟨q,hq⟩:∃ q,m / 16=q:=⟨_,rfl⟩
   obtain ⟨r,hr⟩:∃ r,m % 16=r:=⟨_,rfl⟩
   have ic:=fun w=>ih q w (by omega) (by omega)
   have e1:(m:Int) / 16 =(q:Int):=by omega
   have e2:(m:Int).tmod 16 =(r:Int):=by rw [Int.tmod_eq_emod_of_nonneg (by omega)];omega
   have w1:IntKind.i64.wrap (q:Int) =(q:Int):=by rw [IntWalk.i64_left];exact IntWalk.wrap64_in _ (by omega)
   have w2:IntKind.i64.wrap ((r:Int)+1) =(r:Int)+1:=by rw [IntWalk.i64_left];exact IntWalk.wrap64_in _ (by omega)
   rw [hq] at z1
   rw [hr] at he
   rw [hq,hr]
   have a1:=fun w=>run_string_add_sum (P:=Tryz.prog) w (hxB q) ⟨#[hd r]⟩ (by have:(ByteArray.mk #[hd r]).size=1:=rfl;rw [this];omega)
   clear ih
   go_enter Tryz.func181,Tryz.ntmps181
   go_wp2_with fail
   go_region_held3 (fun w'=>True) (exact trivial) ((go_at_call 181;(with_reducible refine (ic _).mono ?_);rintro e w' ⟨rfl,hb⟩))
   all_goals go_wp2_with fail
   all_goals go_ret
   all_goals exact ⟨rfl,Below.trans (Below.refl _ _).drew hb⟩
theorem chB_esc {c q:Int}(h1:c≠10) (h2:c≠9) (h3:c≠13) (h:c=92∨c=q):chB c q =⟨#[92]⟩++Utf8.encode c:=by
 unfold chB chS
 rw [if_neg h1,if_neg h2,if_neg h3,if_pos h]
 apply ByteArray.ext
 simp [enc]
theorem chB_hex {c q:Int}(h1:c≠10) (h2:c≠9) (h3:c≠13) (h4:¬ (c=92∨c=q)) (h:c<32∨c=127):chB c q =⟨#[92,117,123]⟩++hxB c.toNat++⟨#[125]⟩:=by
 unfold chB chS
 rw [if_neg h1,if_neg h2,if_neg h3,if_neg h4,if_pos h]
 apply ByteArray.ext
 simp [hxB]
theorem chB_own {c q:Int}(h1:c≠10) (h2:c≠9) (h3:c≠13) (h4:¬ (c=92∨c=q)) (h:¬ (c<32∨c=127)):chB c q=Utf8.encode c:=by
 unfold chB chS
 rw [if_neg h1,if_neg h2,if_neg h3,if_neg h4,if_neg h]
 apply ByteArray.ext
 simp [enc]
theorem fb1 (x:UInt8):(ByteArray.mk #[x]).size=1:=rfl
theorem fb3:(ByteArray.mk #[92,117,123]).size=3:=rfl
set_option maxRecDepth 100000 in
theorem fcharR (c q:Int) (w:World) (hc0:0<=c) (hc:c<=1114111) (hq:q=34∨q=39) :
  Calls Tryz.prog 175 #[.int .i64 c,.int .i64 q] w fun e w'=>e=.returned (.string (chB c q))/\Below w.heap.size w w':=by
 have w1:IntKind.i32.wrap c=c:=by
  unfold IntKind.wrap;simp [IntKind.bits,IntKind.signed];omega
 by_cases h1:c=10
 ·subst h1
  go_enter Tryz.func175,Tryz.ntmps175
  go_wp2_with fail
  go_ret
  exact ⟨rfl,Below.refl _ _⟩
 by_cases h2:c=9
 ·subst h2
  go_enter Tryz.func175,Tryz.ntmps175
  go_wp2_with fail
  go_ret
  exact ⟨rfl,Below.refl _ _⟩
 by_cases h3:c=13
 ·subst h3
  go_enter Tryz.func175,Tryz.ntmps175
  go_wp2_with fail
  go_ret
  exact ⟨rfl,Below.refl _ _⟩
 have f1:(c==10)=false:=by simpa using h1
 have f2:(c==9)=false:=by simpa using h2
 have f3:(c==13)=false:=by simpa using h3
 have ze:=encode_size_le c
 have a1:=fun w=>run_string_add_sum (P:=Tryz.prog) w ⟨#[92]⟩ (Utf8.encode c) (by rw [fb1];omega)
 by_cases h4:c=92
 ·rw [chB_esc h1 h2 h3 (Or.inl h4)]
  subst h4
  go_enter Tryz.func175,Tryz.ntmps175
  go_wp2_with fail
  go_ret
  exact ⟨rfl,Below.refl _ _⟩
 have f4:(c==92)=false:=by simpa using h4
 by_cases h5:c=q
 ·rw [chB_esc h1 h2 h3 (Or.inr h5)]
  subst h5
  go_enter Tryz.func175,Tryz.ntmps175
  go_wp2_with fail
  go_ret
  exact ⟨rfl,Below.refl _ _⟩
 have f5:(c==q)=false:=by simpa using h5
 have h6:¬ (c=92∨c=q):=by omega
 obtain ⟨m,rfl⟩:∃ m:Nat,c=m:=⟨c.toNat,by omega⟩
 have z2:=hxB_size (m:=m) (by omega)
 have H:=fun w=>fhexR (m+1) m w (by omega) (by omega)
 have a2:=fun w=>run_string_add_sum (P:=Tryz.prog) w ⟨#[92,117,123]⟩ (hxB m) (by rw [fb3];omega)
 have a3:=fun w=>run_string_add_sum (P:=Tryz.prog) w (⟨#[92,117,123]⟩++hxB m) ⟨#[125]⟩ (by rw [ByteArray.size_append,fb1,fb3];omega)
 by_cases h7:(m:Int)<32
 ·rw [chB_hex h1 h2 h3 h6 (Or.inl h7)]
  go_enter Tryz.func175,Tryz.ntmps175
  go_wp2_with (go_at_call 181;(with_reducible refine (H _).mono ?_);rintro e w' ⟨rfl,hb⟩)
  go_ret
  exact ⟨rfl,hb⟩
 by_cases h8:(m:Int)=127
 ·rw [chB_hex h1 h2 h3 h6 (Or.inr h8)]
  have h9:¬ (m:Int)<32:=h7
  have f8:((m:Int)==127)=true:=by simpa using h8
  clear h8 a1 ze w1
  go_enter Tryz.func175,Tryz.ntmps175
  go_wp2_with (go_at_call 181;(with_reducible refine (H _).mono ?_);rintro e w' ⟨rfl,hb⟩)
  go_ret
  exact ⟨rfl,hb⟩
 have f8:((m:Int)==127)=false:=by simpa using h8
 rw [chB_own h1 h2 h3 h6 (by omega)]
 go_enter Tryz.func175,Tryz.ntmps175
 go_wp2_with fail
 go_ret
 exact ⟨rfl,Below.refl _ _⟩
theorem quo_step {l:List Int}{j:Nat}(hj:j<l.length):((l.take (j+1)).map fun c=>chS c 34).flatten =((l.take j).map fun c=>chS c 34).flatten++chS l[j] 34:=by
 rw [List.take_succ_eq_append_getElem hj,List.map_append,List.flatten_append]
 simp only [List.map_cons,List.map_nil,List.flatten_cons,List.flatten_nil,List.append_nil]
theorem flat_len (f:Int->List UInt8) (m:Nat):∀ (l:List Int),(∀ x∈l,(f x).length<=m)->((l.map f).flatten).length<=m*l.length
 | [],_=>by simp
 | x::r,h=>by
  have h1:=h x (by simp)
  have h2:=flat_len f m r (fun y hy=>h y (by simp [hy]))
  simp only [List.map_cons,List.flatten_cons,List.length_append,List.length_cons]
  rw [Nat.mul_succ];omega
set_option maxRecDepth 100000 in
theorem fquotedR (v:Value) (A:Arr) (w:World) (h:ArrAt w v A) (hc:∀ x∈A.nums,0<=x/\x<=1114111) (hl:A.nums.length<=70000) :
  Calls Tryz.prog 166 #[v] w fun e w'=>e=.returned (.string ⟨(quoS A.nums).toArray⟩)/\Below w.heap.size w w':=by
 obtain ⟨kk,sa,ls,sc,na,nc,ia,li,ic,rfl,hn⟩:∃ kk sa ls sc na nc ia li ic,v=.agg #[.int .i64 kk,.slice sa ls sc,.slice na A.nums.length nc,.slice ia li ic]/\IntsAt w na nc A.nums:=by
  obtain ⟨kk,sh,nu,it⟩:=A
  rw [ArrAt] at h
  obtain ⟨sa,sc,na,nc,ia,ic,hv,-,-,hn,-⟩:=h
  exact ⟨_,_,_,_,_,_,_,_,_,hv,hn⟩
 have bw:=below_new w (.cells #[.int .i64 kk,.slice sa ls sc,.slice na A.nums.length nc,.slice ia li ic] 37)
 have q0:=Quad.new w (.int .i64 kk) (.slice sa ls sc) (.slice na A.nums.length nc) (.slice ia li ic)
 obtain ⟨w0,hw0⟩:∃ w0,w.alloc (.cells #[.int .i64 kk,.slice sa ls sc,.slice na A.nums.length nc,.slice ia li ic] 37)=w0:=⟨_,rfl⟩
 rw [hw0] at bw q0
 have hn0:=hn.below bw
 have hlit:=OB.lit w0 #[.int .u8 34] [34] (by rfl) (by decide)
 have hbl:=below_new w0 (.cells #[.int .u8 34] 5)
 generalize A.nums=xs at *
 obtain ⟨N,hN⟩:∃ N,xs.length=N:=⟨_,rfl⟩
 have HN:Hid (xs.length=N):=hN
 rw [hN] at q0 hl hw0 ⊢
 have HL:Hid (∀ j,(34::((xs.take j).map fun c=>chS c 34).flatten).length<=12*N+1):=fun j=>by
  have:=flat_len (fun c=>chS c 34) 12 (xs.take j) (fun x hx=>vT x 34 (hc x (List.mem_of_mem_take hx)).2)
  have h2:(xs.take j).length<=N:=by rw [List.length_take];omega
  have h3:12*(xs.take j).length<=12*N:=Nat.mul_le_mul_left _ h2
  simp only [List.length_cons];omega
 clear hN hn
 go_enter Tryz.func166,Tryz.ntmps166
 go_wp2_with fail
 go_loopw [3,4] (fun t i wr=>∃ (j:Nat) (L:List UInt8),j<=N/\i=.int .i64 j/\Hid (L=34::((xs.take j).map fun c=>chS c 34).flatten)/\OB wr w0.heap.size t L/\Below w0.heap.size w0 wr) (fun _ i _=>N - (intOf i).toNat)
 case atStart=>exact ⟨0,[34],Nat.zero_le _,rfl,rfl,hlit,hbl⟩
 case round =>
  clear hlit hbl
  obtain ⟨j,L,hj,rfl,hLj,hO,hb⟩:=hrel
  obtain ⟨p0,p1,p2,p3,-⟩:=(q0.below hb).cells
  have hLl:L.length<=12*N+1:=by rw [hLj.out];exact HL.out j
  by_cases hlt:j<N
  ·have hjl:j<xs.length:=by rw [HN.out];exact hlt
   obtain ⟨b,o,hi,hcell⟩:=(hn0.below hb).at hjl
   rw [HN.out] at hi
   obtain ⟨hx0,hx1⟩:=hc _ (List.getElem_mem hjl)
   have hst:=quo_step hjl
   obtain ⟨x,hx⟩:∃ x,xs[j]=x:=⟨_,rfl⟩
   rw [hx] at hcell hx0 hx1 hst
   have hLs:Hid (L++chS x 34=34::((xs.take (j+1)).map fun c=>chS c 34).flatten):=by unfold Hid;rw [hst,hLj.out];rfl
   have hcl:=vT x 34 hx1
   have CR:=fun w=>fcharR x 34 w hx0 hx1 (Or.inl rfl)
   clear hx hst hLj
   go_wp2_with (first
    |(go_at_call 175;(with_reducible refine (CR _).mono ?_);rintro e w1 ⟨rfl,hb1⟩)
    |(at_builtin;refine qU rfl _ _ rfl w0 _ rfl L (hO.below hb1) (Below.then hb hb1) (chS x 34) (chB x 34) rfl rfl (by omega) ?_;intro v' w2 hO2 hb2))
   go_roundw
   case rel=>exact ⟨j+1,L++chS x 34,by omega,by go_num,hLs,hO2,hb2⟩
   case measure=>simp [intOf];omega
  ·obtain rfl:j=N:=by omega
   have hq:Hid (L++[34]=quoS xs):=by
    unfold Hid
    rw [hLj.out,<- HN.out,List.take_length];rfl
   go_wp2_with (at_builtin;refine qk rfl _ _ rfl w0 wr 34 rfl _ rfl L hO hb 34 (by decide) rfl (by omega) ?_;intro v' w2 hO2 hb2;have hcv:=wC hO2)
   go_ret
   exact ⟨by rw [<- hq.out];rfl,Below.trans bw (hb2.mono bw.size)⟩
theorem jn_bd {l:List Int}{k N:Nat}(h:∀ x∈l,-9223372036854775808<=x/\x<=9223372036854775807) (hl:l.length=N) (hN:N<=2000000):(jn (l.take k)).length<=42000000:=jn_len l k h (by omega)
theorem shL_len {x:Int}(h1:-9223372036854775808<=x) (h2:x<=9223372036854775807):(shL x).length<=20:=by
 have:=Num.shS_size x h1 h2
 unfold Num.shS at this
 simpa [ByteArray.size] using this
set_option maxRecDepth 100000 in
theorem fdimsR (a:Option Addr) (c:Nat) (xs:List Int) (w0:World) (h:IntsAt w0 a c xs) (hs:xs.length<=2000000) :
  Calls Tryz.prog 168 #[.slice a xs.length c] w0 fun e w'=>e=.returned (.string (jS xs))/\Below w0.heap.size w0 w':=by
 have hlit:=OB.lit w0 #[] [] (by rfl) (by decide)
 have hbl:=below_new w0 (.cells #[] 5)
 have hbx:=h.2.2.1
 obtain ⟨N,hN⟩:∃ N,xs.length=N:=⟨_,rfl⟩
 have HN:Hid (xs.length=N):=hN
 rw [hN] at hs ⊢
 clear hN
 go_enter Tryz.func168,Tryz.ntmps168
 go_wp2_with fail
 go_loopw [3,4] (fun t i wr=>∃ (j:Nat) (L:List UInt8),j<=N/\i=.int .i64 j/\Hid (L=jn (xs.take j))/\OB wr w0.heap.size t L/\Below w0.heap.size w0 wr) (fun _ i _=>N - (intOf i).toNat)
 case atStart=>exact ⟨0,[],Nat.zero_le _,rfl,rfl,hlit,hbl⟩
 case round =>
  clear hlit hbl
  obtain ⟨j,L,hj,rfl,hLj,hO,hb⟩:=hrel
  have hLl:L.length<=42000000:=by rw [hLj.out];exact jn_bd hbx HN.out hs
  by_cases hlt:j<N
  ·have hjl:j<xs.length:=by rw [HN.out];exact hlt
   obtain ⟨b,o,hi,hcell0⟩:=h.at hjl
   have hcell:=(hb.cell (zD hcell0)).trans hcell0
   rw [HN.out] at hi
   obtain ⟨hx0,hx1⟩:=hbx _ (List.getElem_mem hjl)
   have hsl:=shL_len hx0 hx1
   have hst:=fun g=>jn_step hjl g
   have hfr:0=j->jn (xs.take (j+1))=shL xs[j]:=fun e=>by subst e;exact jn_first (by omega)
   obtain ⟨x,hx⟩:∃ x,xs[j]=x:=⟨_,rfl⟩
   rw [hx] at hcell hcell0 hx0 hx1 hst hsl hfr
   have SR:=fun w=>Num.showR x w hx0 hx1
   by_cases h0:0<j
   ·have hLs:Hid ((L++[32])++shL x=jn (xs.take (j+1))):=by unfold Hid;rw [hst h0,hLj.out];simp
    clear hx hst hLj hfr
    go_wp2_with (first
     |(at_builtin;refine qk rfl _ _ rfl w0 wr 32 rfl _ rfl L hO hb 32 (by decide) rfl (by omega) ?_;intro v' w2 hO2 hb2;have hc2:=(hb2.cell (zD hcell0)).trans hcell0)
     |(go_at_call 174;(with_reducible refine (SR _).mono ?_);rintro e w3 ⟨rfl,hb3⟩)
     |(at_builtin;refine qU rfl _ _ rfl w0 _ rfl (L++[32]) (OB.below hO2 hb3) (Below.then hb2 hb3) (shL x) (Num.shS x) rfl rfl (by simp only [List.length_append,List.length_cons,List.length_nil];omega) ?_;intro v3 w4 hO4 hb4))
    go_roundw
    case rel=>exact ⟨j+1,_,by omega,by go_num,hLs,hO4,hb4⟩
    case measure=>simp [intOf];omega
   ·obtain rfl:j=0:=by omega
    have hi1:∀ w':World,(Instr.indexAt 34 (.slice a N c) (.int .i64 0)).run Tryz.prog w'=.ok (.pointer (some ⟨b,o,none⟩)) w':=hi
    have hc1:wr.cell? ⟨b,o,none⟩=some (.int .i64 x):=hcell
    have hLs:Hid (L++shL x=jn (xs.take (0+1))):=by unfold Hid;rw [hfr rfl,hLj.out];simp [jn]
    clear hx hst hLj hfr
    go_wp2_with (first
     |(go_at_call 174;(with_reducible refine (SR _).mono ?_);rintro e w3 ⟨rfl,hb3⟩)
     |(at_builtin;refine qU rfl _ _ rfl w0 _ rfl L (OB.below hO hb3) (Below.then hb hb3) (shL x) (Num.shS x) rfl rfl (by omega) ?_;intro v3 w4 hO4 hb4))
    go_roundw
    case rel=>exact ⟨0+1,_,by omega,by go_num,hLs,hO4,hb4⟩
    case measure=>simp [intOf];omega
  ·obtain rfl:N=j:=by omega
   have hq:Hid (L=jn xs):=by
    unfold Hid
    rw [hLj.out,<- HN.out,List.take_length]
   have hcv:=wC hO
   go_wp2_with fail
   go_ret
   exact ⟨by rw [jS,<- hq.out];rfl,hb⟩
def scB (A:Arr) (T:ByteArray):ByteArray:=if A.kind=1 then Num.shS (A.nums.headD 0) else if A.kind=2 then ⟨#[39]⟩++chB (A.nums.headD 0) 39++⟨#[39]⟩ else ⟨#[98,111,120,32]⟩++T
theorem fb4:(ByteArray.mk #[98,111,120,32]).size=4:=rfl
theorem fb39:(ByteArray.mk #[39]).size=1:=rfl
theorem chB_size (c q:Int) (h:c<=1114111):(chB c q).size<=12:=by
 have:=vT c q h
 unfold chB
 simpa [ByteArray.size] using this
set_option maxRecDepth 100000 in
theorem fscalarR (v:Value) (A:Arr) (w:World) (h:ArrAt w v A) (hk:1<=A.kind/\A.kind<=3) (h1:A.kind≠3->0<A.nums.length) (hch:A.kind=2->∀ x∈A.nums,0<=x/\x<=1114111) (T:ByteArray)
  (hl:A.kind=3->∃ hI:0<A.items.length,T.size<=100000000/\∀ v' w',ArrAt w' v' A.items[0]->Calls Tryz.prog 157 #[v'] w' fun e w2=>e=.returned (.string T)/\Below w'.heap.size w' w2) :
  Calls Tryz.prog 165 #[v] w fun e w'=>e=.returned (.string (scB A T))/\Below w.heap.size w w':=by
 obtain ⟨k,sh,nu,it⟩:=A
 simp only [Arr.kind,Arr.nums,Arr.items] at hk h1 hch hl
 rw [ArrAt] at h
 obtain ⟨sa,sc,na,nc,ia,ic,rfl,-,-,hn,hi1,hi2,b,off,ha,hc⟩:=h
 have bw:=below_new w (.cells #[.int .i64 k,.slice sa sh.length sc,.slice na nu.length nc,.slice ia it.length ic] 37)
 obtain ⟨p0,p1,p2,p3,-⟩:=(Quad.new w (.int .i64 k) (.slice sa sh.length sc) (.slice na nu.length nc) (.slice ia it.length ic)).cells
 have hn0:=hn.below bw
 have hc0:=ArrsAt.below bw hc
 obtain ⟨w0,hw0⟩:∃ w0,w.alloc (.cells #[.int .i64 k,.slice sa sh.length sc,.slice na nu.length nc,.slice ia it.length ic] 37)=w0:=⟨_,rfl⟩
 rw [hw0] at bw p0 p1 p2 p3 hn0 hc0
 by_cases hk3:k=3
 ·subst hk3
  obtain ⟨hI,hT,hL⟩:=hl rfl
  obtain ⟨d0,d1,d2,d3,⟨m0,m1,m2,m3⟩,hA⟩:=ArrsAt.at hc0 hI
  have hix:=qO (ia:=ia) (b:=b) (off:=off) (l:=it) (ic:=ic) rfl ha hI
  rw [Nat.zero_mul,Nat.add_zero] at m0 m1 m2 m3
  have hix0:∀ W:World,(Instr.indexAt 35 (.slice ia it.length ic) (.int .i64 0)).run Tryz.prog W=.ok (.pointer (some ⟨b,off,none⟩)) W:=by
   intro W
   have:=hix W
   rw [Nat.zero_mul,Nat.add_zero] at this
   exact this
  have HL:=hL _ _ hA
  have a1:=fun w=>run_string_add_sum (P:=Tryz.prog) w ⟨#[98,111,120,32]⟩ T (by rw [fb4];omega)
  have hs:scB (.mk 3 sh nu it) T =⟨#[98,111,120,32]⟩++T:=rfl
  rw [hs]
  clear hL hix hl
  go_enter Tryz.func165,Tryz.ntmps165
  go_wp2_with (go_at_call 157;(with_reducible refine HL.mono ?_);rintro e w1 ⟨rfl,hb1⟩)
  go_ret
  exact ⟨rfl,Below.then bw hb1⟩
 ·obtain ⟨bs,os,hix,hcell⟩:=hn0.at (h1 hk3)
  have hix0:∀ w':World,(Instr.indexAt 34 (.slice na nu.length nc) (.int .i64 0)).run Tryz.prog w'=.ok (.pointer (some ⟨bs,os,none⟩)) w':=hix
  obtain ⟨x,hx⟩:∃ x,nu[0]'(h1 hk3)=x:=⟨_,rfl⟩
  have hc1:w0.cell? ⟨bs,os,none⟩=some (.int .i64 x):=by rw [<- hx];exact hcell
  have hbx:-9223372036854775808<=x/\x<=9223372036854775807:=hn.2.2.1 x (by rw [<- hx];exact List.getElem_mem _)
  have hhd:nu.headD 0=x:=by
   cases nu with
   | nil=>have:=h1 hk3;simp at this
   | cons y r=>exact hx
  by_cases hk1:k=1
  ·subst hk1
   have SR:=fun w=>Num.showR x w hbx.1 hbx.2
   have hs:scB (.mk 1 sh nu it) T=Num.shS x:=by rw [<- hhd];rfl
   rw [hs]
   clear hl hch hx hhd hcell hix
   go_enter Tryz.func165,Tryz.ntmps165
   go_wp2_with (go_at_call 174;(with_reducible refine (SR _).mono ?_);rintro e w1 ⟨rfl,hb1⟩)
   go_ret
   exact ⟨rfl,Below.then bw hb1⟩
  ·obtain rfl:k=2:=by omega
   obtain ⟨hx0,hx1⟩:=hch rfl x (by rw [<- hx];exact List.getElem_mem _)
   have CR:=fun w=>fcharR x 39 w hx0 hx1 (Or.inr rfl)
   have hz:=chB_size x 39 hx1
   have hs:scB (.mk 2 sh nu it) T =⟨#[39]⟩++chB x 39++⟨#[39]⟩:=by rw [<- hhd];rfl
   rw [hs]
   have a1:=fun w=>run_string_add_sum (P:=Tryz.prog) w ⟨#[39]⟩ (chB x 39) (by rw [fb39];omega)
   have a2:=fun w=>run_string_add_sum (P:=Tryz.prog) w (⟨#[39]⟩++chB x 39) ⟨#[39]⟩ (by rw [ByteArray.size_append,fb39];omega)
   clear hl hch hx hhd hcell hix
   go_enter Tryz.func165,Tryz.ntmps165
   go_wp2_with (go_at_call 175;(with_reducible refine (CR _).mono ?_);rintro e w1 ⟨rfl,hb1⟩)
   go_ret
   exact ⟨rfl,Below.then bw hb1⟩
theorem blankS_snoc (x:List UInt8):∀ {l:List (List UInt8)},l≠[]->qK (l++[x])=qK l++32::x
 | [],h=>absurd rfl h
 | y::r,_=>by simp [qK]
theorem jt_blank:∀ (r:List Int),jn.jt r =(r.map fun y=>32::shL y).flatten
 | []=>rfl
 | x::r=>by rw [jn.jt,jt_blank r];simp
theorem jn_blank (xs:List Int):jn xs=qK (xs.map shL):=by
 cases xs with
 | nil=>rfl
 | cons x r=>rw [jn,jt_blank,List.map_cons,qK,List.map_map];rfl
theorem litsS_eq:∀ (l:List Arr),kx l=l.map fun A=>98::111::120::32::litS A
 | []=>by rw [kx];rfl
 | A::r=>by rw [kx,litsS_eq r,List.map_cons]
def bx (A:Arr):List UInt8:=40::((98::111::120::32::litS A)++[41])
def litB (A:Arr):ByteArray:=⟨(litS A).toArray⟩
theorem bx_bytes (A:Arr):(⟨#[40,98,111,120,32]⟩++litB A++⟨#[41]⟩:ByteArray) =⟨(bx A).toArray⟩:=by
 unfold litB bx
 apply ByteArray.ext
 simp
theorem vec_box (nu:List Int) (l:List Arr):vecS 3 nu (kx l)=qK (l.map bx):=by
 rw [vecS,if_neg (by decide),if_pos rfl,litsS_eq,List.map_map];rfl
theorem vec_int (nu:List Int):vecS 1 nu (nu.map shL)=jn nu:=by
 rw [vecS,if_neg (by decide),if_neg (by decide),jn_blank]
theorem blank_len (m:Nat):∀ (l:List (List UInt8)),(∀ x∈l,x.length<=m)->(qK l).length<=(m+1)*l.length
 | [],_=>by simp [qK]
 | y::r,h=>by
  have h1:=h y (by simp)
  have h2:∀ (s:List (List UInt8)),(∀ x∈s,x.length<=m)->((s.map fun y=>32::y).flatten).length<=(m+1)*s.length:=by
   intro s
   induction s with
   | nil=>intro _;simp
   | cons z s ih =>
    intro hs
    have h3:=hs z (by simp)
    have h4:=ih (fun x hx=>hs x (by simp [hx]))
    simp only [List.map_cons,List.flatten_cons,List.length_append,List.length_cons]
    rw [Nat.mul_succ];omega
  have h5:=h2 r (fun x hx=>h x (by simp [hx]))
  simp only [qK,List.length_append,List.length_cons]
  rw [Nat.mul_succ];omega
theorem take_map_snoc {l:List Arr}{j:Nat}(hj:j<l.length):(l.take (j+1)).map bx =(l.take j).map bx++[bx l[j]]:=by
 rw [List.take_succ_eq_append_getElem hj,List.map_append];rfl
set_option maxRecDepth 100000 in
theorem felemR1 (v:Value) (A:Arr) (w:World) (h:ArrAt w v A) (hk:A.kind=1) (hl:A.nums.length<=2000000) :
  Calls Tryz.prog 167 #[v] w fun e w'=>e=.returned (.string (jS A.nums))/\Below w.heap.size w w':=by
 obtain ⟨k,sh,nu,it⟩:=A
 simp only [Arr.kind,Arr.nums] at hk hl ⊢
 subst hk
 rw [ArrAt] at h
 obtain ⟨sa,sc,na,nc,ia,ic,rfl,-,-,hn,hi1,hi2,b,off,ha,hc⟩:=h
 have bw:=below_new w (.cells #[.int .i64 1,.slice sa sh.length sc,.slice na nu.length nc,.slice ia it.length ic] 37)
 obtain ⟨p0,p1,p2,p3,-⟩:=(Quad.new w (.int .i64 1) (.slice sa sh.length sc) (.slice na nu.length nc) (.slice ia it.length ic)).cells
 have D:=fun W (g:IntsAt W na nc nu)=>fdimsR na nc nu W g hl
 have hn0:=hn.below bw
 go_enter Tryz.func167,Tryz.ntmps167
 go_wp2_with (go_at_call 168;(with_reducible refine (D _ hn0).mono ?_);rintro e w1 ⟨rfl,hb1⟩)
 go_ret
 exact ⟨rfl,Below.then bw hb1⟩
set_option maxRecDepth 100000 in
theorem felemR3 (v:Value) (A:Arr) (w:World) (h:ArrAt w v A) (hk:A.kind=3) (hN:A.items.length<=400)
  (hL:∀ j (hj:j<A.items.length),(litS A.items[j]).length<=200000/\∀ v' w',ArrAt w' v' A.items[j]->Calls Tryz.prog 157 #[v'] w' fun e w2=>e=.returned (.string (litB A.items[j]))/\Below w'.heap.size w' w2) :
  Calls Tryz.prog 167 #[v] w fun e w'=>e=.returned (.string ⟨(qK (A.items.map bx)).toArray⟩)/\Below w.heap.size w w':=by
 obtain ⟨k,sh,nu,it⟩:=A
 simp only [Arr.kind,Arr.items] at hk hN hL ⊢
 subst hk
 rw [ArrAt] at h
 obtain ⟨sa,sc,na,nc,ia,ic,rfl,-,-,hn,hi1,hi2,b,off,ha,hc⟩:=h
 have bw:=below_new w (.cells #[.int .i64 3,.slice sa sh.length sc,.slice na nu.length nc,.slice ia it.length ic] 37)
 have q0:=Quad.new w (.int .i64 3) (.slice sa sh.length sc) (.slice na nu.length nc) (.slice ia it.length ic)
 have hc0:=ArrsAt.below bw hc
 obtain ⟨w0,hw0⟩:∃ w0,w.alloc (.cells #[.int .i64 3,.slice sa sh.length sc,.slice na nu.length nc,.slice ia it.length ic] 37)=w0:=⟨_,rfl⟩
 rw [hw0] at bw q0 hc0
 obtain ⟨p0,p1,p2,p3,-⟩:=q0.cells
 have hlit:=OB.lit w0 #[] [] (by rfl) (by decide)
 have hbl:=below_new w0 (.cells #[] 5)
 have HLn:Hid (∀ j,(qK ((it.take j).map bx)).length<=81000000):=fun j=>by
  have h1:=blank_len 200006 ((it.take j).map bx) (fun x hx=>by
   obtain ⟨A,hA,rfl⟩:=List.mem_map.1 hx
   obtain ⟨i,hi,rfl⟩:=List.getElem_of_mem (List.mem_of_mem_take hA)
   have:=(hL i hi).1
   simp only [bx,List.length_cons,List.length_append,List.length_nil];omega)
  have h2:((it.take j).map bx).length<=400:=by rw [List.length_map,List.length_take];omega
  have h3:(200006+1)*((it.take j).map bx).length<=(200006+1)*400:=Nat.mul_le_mul_left _ h2
  omega
 obtain ⟨N,hNe⟩:∃ N,it.length=N:=⟨_,rfl⟩
 have HN:Hid (it.length=N):=hNe
 have hix:=fun (j:Nat) (hj:j<N)=>qO (ia:=ia) (b:=b) (off:=off) (l:=it) (ic:=ic) rfl ha (k:=j) (by omega)
 rw [hNe] at q0 hN hw0 hix p3 ⊢
 clear hNe hn
 go_enter Tryz.func167,Tryz.ntmps167
 go_wp2_with fail
 clear p0 p1 p2 p3
 go_loopw [3,4] (fun t i wr=>∃ (j:Nat) (L:List UInt8),j<=N/\i=.int .i64 j/\Hid (L=qK ((it.take j).map bx))/\OB wr w0.heap.size t L/\Below w0.heap.size w0 wr) (fun _ i _=>N - (intOf i).toNat)
 case atStart=>exact ⟨0,[],Nat.zero_le _,rfl,rfl,hlit,hbl⟩
 case round =>
  clear hlit hbl
  obtain ⟨j,L,hj,rfl,hLj,hO,hb⟩:=hrel
  obtain ⟨p0,p1,p2,p3,-⟩:=(q0.below hb).cells
  have hLl:L.length<=81000000:=by rw [hLj.out];exact HLn.out j
  by_cases hlt:j<N
  ·have hjl:j<it.length:=by rw [HN.out];exact hlt
   obtain ⟨d0,d1,d2,d3,⟨m0,m1,m2,m3⟩,hA⟩:=ArrsAt.at hc0 hjl
   have hixj:=hix j hlt
   obtain ⟨hz,hCL⟩:=hL j hjl
   have hsn:=take_map_snoc hjl
   obtain ⟨B,hB⟩:∃ B,it[j]=B:=⟨_,rfl⟩
   rw [hB] at hA hz hCL hsn
   have hsz:(litB B).size<=200000:=by unfold litB;simpa [ByteArray.size] using hz
   have c5:(ByteArray.mk #[40,98,111,120,32]).size=5:=rfl
   have c1:(ByteArray.mk #[41]).size=1:=rfl
   have a1:=fun w=>run_string_add_sum (P:=Tryz.prog) w ⟨#[40,98,111,120,32]⟩ (litB B) (by rw [c5];omega)
   have a2:=fun w=>run_string_add_sum (P:=Tryz.prog) w (⟨#[40,98,111,120,32]⟩++litB B) ⟨#[41]⟩ (by rw [ByteArray.size_append,c5,c1];omega)
   have hbxl:(bx B).length<=200006:=by simp only [bx,List.length_cons,List.length_append,List.length_nil];omega
   by_cases h0:0<j
   ·have hLs:Hid ((L++[32])++bx B=qK ((it.take (j+1)).map bx)):=by
     unfold Hid
     rw [hsn,blankS_snoc _ (by
      intro e
      have:((it.take j).map bx).length=0:=by rw [e];rfl
      rw [List.length_map,List.length_take] at this
      omega),hLj.out]
     simp
    clear hB hsn hLj HLn hz
    go_wp2_with (first
     |(at_builtin;refine qk rfl _ _ rfl w0 wr 32 rfl _ rfl L hO hb 32 (by decide) rfl (by omega) ?_;intro v' w2 hO2 hb2;(obtain ⟨p0',p1',p2',p3',-⟩:=(q0.below hb2).cells);(have n0:=(hb2.cell (zD m0)).trans m0);(have n1:=(hb2.cell (zD m1)).trans m1);(have n2:=(hb2.cell (zD m2)).trans m2);(have n3:=(hb2.cell (zD m3)).trans m3))
     |(go_at_call 157;(with_reducible refine (hCL _ _ (hA.below hb2)).mono ?_);rintro e w3 ⟨rfl,hb3⟩)
     |(at_builtin;refine qU rfl _ _ rfl w0 _ rfl (L++[32]) (OB.below hO2 hb3) (Below.then hb2 hb3) (bx B) _ (bx_bytes B) rfl (by simp only [List.length_append,List.length_cons,List.length_nil] at *;omega) ?_;intro v3 w4 hO4 hb4))
    go_roundw
    case rel=>exact ⟨j+1,_,by omega,by go_num,hLs,hO4,hb4⟩
    case measure=>simp [intOf];omega
   ·obtain rfl:j=0:=by omega
    have hLs:Hid (L++bx B=qK ((it.take (0+1)).map bx)):=by
     unfold Hid
     rw [hsn,hLj.out,List.take_zero];simp [qK]
    have hi0:∀ W:World,(Instr.indexAt 35 (.slice ia N ic) (.int .i64 0)).run Tryz.prog W=.ok (.pointer (some ⟨b,off,none⟩)) W:=by
     intro W
     have:=hixj W
     rw [Nat.zero_mul,Nat.add_zero] at this
     exact this
    rw [Nat.zero_mul,Nat.add_zero] at m0 m1 m2 m3
    have n0:=(hb.cell (zD m0)).trans m0
    have n1:=(hb.cell (zD m1)).trans m1
    have n2:=(hb.cell (zD m2)).trans m2
    have n3:=(hb.cell (zD m3)).trans m3
    clear hB hsn hLj HLn hz hixj
    go_wp2_with (first
     |(go_at_call 157;(with_reducible refine (hCL _ _ (hA.below hb)).mono ?_);rintro e w3 ⟨rfl,hb3⟩)
     |(at_builtin;refine qU rfl _ _ rfl w0 _ rfl L (OB.below hO hb3) (Below.then hb hb3) (bx B) _ (bx_bytes B) rfl (by omega) ?_;intro v3 w4 hO4 hb4))
    go_roundw
    case rel=>exact ⟨0+1,_,by omega,by go_num,hLs,hO4,hb4⟩
    case measure=>simp [intOf];omega
  ·obtain rfl:N=j:=by omega
   have hq:Hid (L=qK (it.map bx)):=by
    unfold Hid
    rw [hLj.out,<- HN.out,List.take_length]
   have hcv:=wC hO
   go_wp2_with fail
   go_ret
   exact ⟨by rw [<- hq.out];rfl,Below.trans bw (hb.mono bw.size)⟩
end Go.Proofs.YtmfhdcpajgjgpaaGreatDoor.Shape
