/-
  Layer 5: the builder of a text, what writing leaves, and what lies apart from it.
  Layer 5: the program's writeShort and writeQuoted. (Written by wip/gen/format-w.py.)
-/
import Derived.Test.YtalkinnbfglkdaaGreatDoorShelf
import Derived.Test.YtalkinnbfglkdaaGreatDoorPt1
import Derived.Test.YtalkinnbfglkdaaGreatDoorPt3
import Derived.Test.YtalkinnbfglkdaaGreatDoorPt5
import Derived.Lib.OthersKept
import Derived.Lib.Hide
set_option maxHeartbeats 4000000
namespace Go.Proofs.YtalkinnbfglkdaaGreatDoor.Shape
open Go.RowKit Go.Proofs.YtalkinnbfglkdaaGreatDoor.Num
set_option linter.unusedVariables false
set_option linter.unusedSimpArgs false
set_option maxRecDepth 100000
def Bld (w:World) (X:Nat) (l:List UInt8):Prop:=Lib.IsBuilderF 63 5 X X (Lib.byteCells l) w
theorem Bld.lt {w:World}{X:Nat}{l:List UInt8}(h:Bld w X l):X<w.heap.size:=h.elim (fun x=>x.lt) (fun x=>x.lt)
theorem Bld.new (w:World):Bld (w.alloc (.cells #[.pointer none,.slice none 0 0] 63)) w.heap.size [] :=
 .inl ⟨Nat.le_refl _,_,Tok.heap_alloc_new w _,World.ownsRowF_nil _ _ _ _,by simp [Value.ownBlock]⟩
theorem Bld.below {w w':World}{X:Nat}{l:List UInt8}(h:Bld w X l) (hb:Below w.heap.size w w'):Bld w' X l:=by
 have go:∀ p,Lib.BuilderAtF 63 5 X X p (Lib.byteCells l) w->Lib.BuilderAtF 63 5 X X p (Lib.byteCells l) w':=fun p h=>by
  have hlt:=h.lt
  obtain ⟨hB,v,hv,hown,hne⟩:=h
  exact ⟨hB,v,(hb.block X hlt).trans hv,hown.kept (row:=none) ⟨hb.os,hb.tape,hb.output,hb.size,fun k hk _=>hb.block k hk⟩ (Classical.em _),hne⟩
 exact h.elim (fun x=>.inl (go _ x)) (fun x=>.inr (go _ x))
def Kp (X:Nat) (w w':World):Prop:=Below X w w'/\Lib.OthersKept 5 (some X) w w'
theorem Kp.refl (X:Nat) (w:World):Kp X w w:=⟨Below.refl _ _,Lib.OthersKept.refl _ _ _⟩
theorem Kp.trans {X:Nat}{a b c:World}(h:Kp X a b) (k:Kp X b c):Kp X a c:=⟨h.1.trans k.1,h.2.trans k.2⟩
theorem okBelow {e:TypeId}{bo:Option Nat}{a w w':World}(h:Lib.OthersKept e bo a w) (hb:Below w.heap.size w w'):Lib.OthersKept e bo a w':=fun k o hk hn hc=>by
 have:=h k o hk hn hc
 exact (hb.block k (Array.getElem?_eq_some_iff.1 this).1).trans this
theorem Kp.below {X:Nat}{a w w':World}(h:Kp X a w) (hX:X<=w.heap.size) (hb:Below w.heap.size w w'):Kp X a w':=⟨h.1.trans (hb.mono hX),okBelow h.2 hb⟩
def Aw (X:Nat) (w:World) (g:Nat):Prop:=g<X∨(g≠X/\∃ o,w.heap[g]?=some o/\∀ c fz,o≠.cells c 5 fz)
theorem cell_same {w w':World}{g:Nat}(h:w'.heap[g]?=w.heap[g]?) (o:Nat):w'.cell? ⟨g,o,none⟩=w.cell? ⟨g,o,none⟩:=by
 simp only [World.cell?,h]
theorem Kp.keep {X:Nat}{w w':World}(h:Kp X w w'):∀ g,Aw X w g->g<w.heap.size->Aw X w' g/\∀ o,w'.cell? ⟨g,o,none⟩=w.cell? ⟨g,o,none⟩:=by
 rintro g (hg |⟨hn,o,ho,hc⟩) hlt
 ·exact ⟨Or.inl hg,cell_same (h.1.block g hg)⟩
 ·have:=h.2 g o ho (fun e=>hn (Option.some.inj e)) hc
  exact ⟨Or.inr ⟨hn,o,this,hc⟩,cell_same (this.trans ho.symm)⟩
def AA (X:Nat) (w:World) (v:Value) (A:Arr):Prop:=ArrOn (Aw X w) w v A
def II (X:Nat) (w:World) (a:Option Addr) (c:Nat) (xs:List Int):Prop:=IntsOn (Aw X w) w a c xs
theorem AA.keep {X:Nat}{w w':World}{v:Value}{A:Arr}(h:AA X w v A) (k:Kp X w w'):AA X w' v A:=ArrOn.keep k.keep h
theorem II.keep {X:Nat}{w w':World}{a:Option Addr}{c:Nat}{xs:List Int}(h:II X w a c xs) (k:Kp X w w'):II X w' a c xs:=IntsOn.keep k.keep h
theorem AA.at {X:Nat}{w:World}{v:Value}{A:Arr}(h:AA X w v A):ArrAt w v A:=ArrOn.at h
theorem II.at {X:Nat}{w:World}{a:Option Addr}{c:Nat}{xs:List Int}(h:II X w a c xs):IntsAt w a c xs:=h.1
theorem Aw.old {w:World}{g:Nat}(h:g<w.heap.size):Aw w.heap.size w g:=Or.inl h
theorem encR_eq (c:Nat):(Utf8.encode (c:Int)).data.toList=Lib.encodeRune (c:Int):=by
 unfold Lib.encodeRune
 by_cases hv:Utf8.valid (c:Int)=true
 ·have hv2:((0:Int)<=c/\(c:Int)<55296)∨((57344:Int)<=c/\(c:Int)<=1114111):=by simpa [Utf8.valid] using hv
  unfold Utf8.encode
  simp only [hv,if_true,Int.toNat_natCast]
  by_cases h1:c<128
  ·rw [if_pos h1,Lib.encodeRuneZ_one (by omega) (by omega)]
   rfl
  rw [if_neg h1]
  by_cases h2:c<2048
  ·rw [if_pos h2,Lib.encodeRuneZ_two (by omega) (by omega)]
   simp only [List.map_cons,List.map_nil]
   rw [show (192+(c:Int) / 64).toNat=192+c / 64 by omega,show (128+(c:Int) % 64).toNat=128+c % 64 by omega]
  rw [if_neg h2]
  by_cases h3:c<65536
  ·rw [if_pos h3,Lib.encodeRuneZ_three (by omega)]
   simp only [List.map_cons,List.map_nil]
   rw [show (224+(c:Int) / 4096).toNat=224+c / 4096 by omega,show (128+(c:Int) / 64 % 64).toNat=128+c / 64 % 64 by omega,show (128+(c:Int) % 64).toNat=128+c % 64 by omega]
  ·rw [if_neg h3,Lib.encodeRuneZ_four (by omega) (by omega)]
   simp only [List.map_cons,List.map_nil]
   rw [show (240+(c:Int) / 262144).toNat=240+c / 262144 by omega,show (128+(c:Int) / 4096 % 64).toNat=128+c / 4096 % 64 by omega,show (128+(c:Int) / 64 % 64).toNat=128+c / 64 % 64 by omega,show (128+(c:Int) % 64).toNat=128+c % 64 by omega]
 ·have hv2:¬ (((0:Int)<=c/\(c:Int)<55296)∨((57344:Int)<=c/\(c:Int)<=1114111)):=by simpa [Utf8.valid] using hv
  unfold Utf8.encode
  simp only [hv,Bool.false_eq_true,if_false]
  rw [Lib.encodeRuneZ_bad (by omega)]
  decide
theorem wrR (w:World) (X c:Nat) (l:List UInt8) (hc:c<=1114111) (hl:l.length<=1000000) (h:Bld w X l) :
  Calls Tryz.prog 45 #[.pointer (some ⟨X,0,none⟩),.int .i32 (c:Int)] w fun e w'=>(∃ n,e=.returned (.tuple #[.int .i64 n,.nilIface]))/\Bld w' X (l++enc (c:Int))/\Kp X w w':=by
 refine (Tryz.Builder_WriteRune_k X X (Lib.byteCells l) (c:Int) (by omega) (by omega) w h (by rw [Lib.byteCells_length];omega) (Nat.le_of_lt h.lt)).mono ?_
 rintro e w' ⟨rfl,h1,h2,h3⟩
 refine ⟨⟨_,rfl⟩,?_,h2,h3⟩
 have e:enc (c:Int)=Lib.encodeRune (c:Int):=by
  unfold enc
  exact encR_eq c
 rw [Bld,Lib.byteCells_append,e,Lib.byteCells_encodeRune]
 exact .inr h1
theorem wrS (w:World) (X:Nat) (l:List UInt8) (s:ByteArray) (hs:s.size<=1000000) (hl:l.length<=1000000) (h:Bld w X l) :
  Calls Tryz.prog 17 #[.pointer (some ⟨X,0,none⟩),.string s] w fun e w'=>(∃ n,e=.returned (.tuple #[.int .i64 n,.nilIface]))/\Bld w' X (l++s.data.toList)/\Kp X w w':=by
 refine (Tryz.Builder_WriteString_k X X (Lib.byteCells l) s w h (by rw [Lib.byteCells_length];omega) (Nat.le_of_lt h.lt)).mono ?_
 rintro e w' ⟨rfl,h1,h2,h3⟩
 refine ⟨⟨_,rfl⟩,?_,h2,h3⟩
 rw [Bld,Lib.byteCells_append,<- Lib.strCells_eq]
 exact .inr h1
theorem wrL (w:World) (X:Nat) (l L:List UInt8) (hs:L.length<=1000000) (hl:l.length<=1000000) (h:Bld w X l) :
  Calls Tryz.prog 17 #[.pointer (some ⟨X,0,none⟩),.string ⟨L.toArray⟩] w fun e w'=>(∃ n,e=.returned (.tuple #[.int .i64 n,.nilIface]))/\Bld w' X (l++L)/\Kp X w w':=by
 have:=wrS w X l ⟨L.toArray⟩ (by simpa [ByteArray.size] using hs) hl h
 simpa using this
theorem wrB (w:World) (X:Nat) (l:List UInt8) (c:UInt8) (hl:l.length<=1000000) (h:Bld w X l) :
  Calls Tryz.prog 53 #[.pointer (some ⟨X,0,none⟩),.int .u8 (c.toNat:Int)] w fun e w'=>e=.returned .nilIface/\Bld w' X (l++[c])/\Kp X w w':=by
 refine (Tryz.Builder_WriteByte_k X X (Lib.byteCells l) (c.toNat:Int) w h (by rw [Lib.byteCells_length];omega) (Nat.le_of_lt h.lt)).mono ?_
 rintro e w' ⟨rfl,h1,h2,h3⟩
 refine ⟨rfl,?_,h2,h3⟩
 rw [Bld,Lib.byteCells_append]
 exact .inr h1
theorem wr92 (w:World) (X:Nat) (l:List UInt8) (hl:l.length<=1000000) (h:Bld w X l) :
 Calls Tryz.prog 53 #[.pointer (some ⟨X,0,none⟩),.int .u8 92] w fun e w'=>e=.returned .nilIface/\Bld w' X (l++[92])/\Kp X w w':=wrB w X l 92 hl h
theorem bldString (w:World) (X:Nat) (l:List UInt8) (h:Bld w X l) :
  Calls Tryz.prog 18 #[.pointer (some ⟨X,0,none⟩)] w fun e w'=>e=.returned (.string ⟨l.toArray⟩)/\Below X w w':=by
 refine (Tryz.Builder_String_any_k X X l w h (Nat.le_of_lt h.lt)).mono ?_
 rintro e w' ⟨rfl,-,h2,-⟩
 exact ⟨rfl,h2⟩
theorem hexL_hx (c:Nat) (h:c<128):Tok.hexL c=hx c:=by
 have h1:∀ m,m<16->Tok.hx1 m=hd m:=fun m hm=>by
  unfold Tok.hx1 hd
  rw [Nat.mod_eq_of_lt hm]
  split <;> rfl
 unfold Tok.hexL
 by_cases q:c<16
 ·rw [if_pos q,hx_small q,h1 c q]
 ·rw [if_neg q,hx_more q,hx_small (by omega),h1 _ (by omega),h1 _ (by omega),hd_mod];rfl
@[reducible] def Wrote (w:World) (X:Nat) (l:List UInt8) (e:Ending) (w':World):Prop:=e=.returned (.tuple #[])/\Bld w' X l/\Kp X w w'
end Go.Proofs.YtalkinnbfglkdaaGreatDoor.Shape
namespace Go.Proofs.YtalkinnbfglkdaaGreatDoor.Shape
open Go.RowKit Go.Proofs.YtalkinnbfglkdaaGreatDoor.Num
set_option linter.unusedVariables false
set_option linter.unusedSimpArgs false
theorem _root_.Go.Proofs.YtalkinnbfglkdaaGreatDoor.Tok.hexL_len' (c:Nat):(Tok.hexL c).length<=2:=by unfold Tok.hexL;split <;> simp
set_option maxRecDepth 100000 in
theorem ws_10 (q:Int) (w:World) (X:Nat) (l:List UInt8) (hl:l.length<=900000) (hT:Tok.TZ w) (h:Bld w X l) :
  Calls Tryz.prog 165 #[.pointer (some ⟨X,0,none⟩),.int .i32 q,.int .i32 10] w (Wrote w X (l++[92,110])):=by
 go_enter Tryz.func165,Tryz.ntmps165
 go_wp2_with (go_at_call 17;with_reducible refine (wrL _ X l [92,110] (by decide) (by omega) h).mono ?_;rintro e1 w1 ⟨⟨n1,rfl⟩,h1,k1⟩)
 refine bodyPost_ret (results_none rfl _ _ _) rfl ?_
 exact ⟨rfl,h1,k1⟩
set_option maxRecDepth 100000 in
theorem ws_9 (q:Int) (w:World) (X:Nat) (l:List UInt8) (hl:l.length<=900000) (hT:Tok.TZ w) (h:Bld w X l) :
  Calls Tryz.prog 165 #[.pointer (some ⟨X,0,none⟩),.int .i32 q,.int .i32 9] w (Wrote w X (l++[92,116])):=by
 go_enter Tryz.func165,Tryz.ntmps165
 go_wp2_with (go_at_call 17;with_reducible refine (wrL _ X l [92,116] (by decide) (by omega) h).mono ?_;rintro e1 w1 ⟨⟨n1,rfl⟩,h1,k1⟩)
 refine bodyPost_ret (results_none rfl _ _ _) rfl ?_
 exact ⟨rfl,h1,k1⟩
set_option maxRecDepth 100000 in
theorem ws_13 (q:Int) (w:World) (X:Nat) (l:List UInt8) (hl:l.length<=900000) (hT:Tok.TZ w) (h:Bld w X l) :
  Calls Tryz.prog 165 #[.pointer (some ⟨X,0,none⟩),.int .i32 q,.int .i32 13] w (Wrote w X (l++[92,114])):=by
 go_enter Tryz.func165,Tryz.ntmps165
 go_wp2_with (go_at_call 17;with_reducible refine (wrL _ X l [92,114] (by decide) (by omega) h).mono ?_;rintro e1 w1 ⟨⟨n1,rfl⟩,h1,k1⟩)
 refine bodyPost_ret (results_none rfl _ _ _) rfl ?_
 exact ⟨rfl,h1,k1⟩
set_option maxRecDepth 100000 in
theorem ws_92 (q:Nat) (c:Nat) (hc:c<=1114111) (hn:c≠10/\c≠9/\c≠13) (h92:c=92) (w:World) (X:Nat) (l:List UInt8) (hl:l.length<=900000) (hT:Tok.TZ w) (h:Bld w X l) :
  Calls Tryz.prog 165 #[.pointer (some ⟨X,0,none⟩),.int .i32 (q:Int),.int .i32 (c:Int)] w (Wrote w X (l++([92]++enc (c:Int)))):=by
 have f1:((c:Int)==10)=false:=by simp;omega
 have f2:((c:Int)==9)=false:=by simp;omega
 have f3:((c:Int)==13)=false:=by simp;omega
 have f7:((c:Int)==92)=true:=by simp;omega
 clear h92
 go_enter Tryz.func165,Tryz.ntmps165
 go_wp2_with (first |(go_at_call 53;with_reducible refine (wr92 _ X l (by omega) h).mono ?_;rintro e1 w1 ⟨rfl,h1,k1⟩) |(go_at_call 45;with_reducible refine (wrR _ X c (l++[92]) hc (by rw [List.length_append];simp;omega) h1).mono ?_;rintro e2 w2 ⟨⟨n2,rfl⟩,h2,k2⟩))
 refine bodyPost_ret (results_none rfl _ _ _) rfl ?_
 exact ⟨rfl,by rw [List.append_assoc] at h2;exact h2,k1.trans k2⟩
set_option maxRecDepth 100000 in
theorem ws_q (q:Nat) (c:Nat) (hc:c<=1114111) (hn:c≠10/\c≠9/\c≠13) (h92:c≠92) (hq:c=q) (w:World) (X:Nat) (l:List UInt8) (hl:l.length<=900000) (hT:Tok.TZ w) (h:Bld w X l) :
  Calls Tryz.prog 165 #[.pointer (some ⟨X,0,none⟩),.int .i32 (q:Int),.int .i32 (c:Int)] w (Wrote w X (l++([92]++enc (c:Int)))):=by
 have f1:((c:Int)==10)=false:=by simp;omega
 have f2:((c:Int)==9)=false:=by simp;omega
 have f3:((c:Int)==13)=false:=by simp;omega
 have f7:((c:Int)==92)=false:=by simp;omega
 have f6:((c:Int)==(q:Int))=true:=by simp;omega
 clear hq
 go_enter Tryz.func165,Tryz.ntmps165
 go_wp2_with (first |(go_at_call 53;with_reducible refine (wr92 _ X l (by omega) h).mono ?_;rintro e1 w1 ⟨rfl,h1,k1⟩) |(go_at_call 45;with_reducible refine (wrR _ X c (l++[92]) hc (by rw [List.length_append];simp;omega) h1).mono ?_;rintro e2 w2 ⟨⟨n2,rfl⟩,h2,k2⟩))
 refine bodyPost_ret (results_none rfl _ _ _) rfl ?_
 exact ⟨rfl,by rw [List.append_assoc] at h2;exact h2,k1.trans k2⟩
set_option maxRecDepth 100000 in
theorem ws_32 (q:Nat) (c:Nat) (hc:(c<32/\c≠9/\c≠10/\c≠13)∨c=127) (hn:c≠10/\c≠9/\c≠13) (h92:c≠92) (hq:c≠q) (h32:c<32) (w:World) (X:Nat) (l:List UInt8) (hl:l.length<=900000) (hT:Tok.TZ w) (h:Bld w X l) :
  Calls Tryz.prog 165 #[.pointer (some ⟨X,0,none⟩),.int .i32 (q:Int),.int .i32 (c:Int)] w (Wrote w X (l++([92,117,123]++Tok.hexL c++[125]))):=by
 have hx:=Tok.hexL_len' c
 have hxs:(⟨(Tok.hexL c).toArray⟩:ByteArray).size =(Tok.hexL c).length:=rfl
 have hs3:(⟨#[92,117,123]⟩:ByteArray).size=3:=rfl
 have hs1:(⟨#[125]⟩:ByteArray).size=1:=rfl
 have hsz:((⟨#[92,117,123]⟩:ByteArray)++⟨(Tok.hexL c).toArray⟩++⟨#[125]⟩).size<=1000000:=by rw [ByteArray.size_append,ByteArray.size_append,hxs,hs3,hs1];omega
 have hout:((⟨#[92,117,123]⟩:ByteArray)++⟨(Tok.hexL c).toArray⟩++⟨#[125]⟩).data.toList=[92,117,123]++Tok.hexL c++[125]:=by simp [ByteArray.data_append]
 have a1:=fun w=>run_string_add_sum (P:=Tryz.prog) w ⟨#[92,117,123]⟩ ⟨(Tok.hexL c).toArray⟩ (by rw [hxs,hs3];omega)
 have a2:=fun w=>run_string_add_sum (P:=Tryz.prog) w (⟨#[92,117,123]⟩++⟨(Tok.hexL c).toArray⟩) ⟨#[125]⟩ (by rw [ByteArray.size_append,hxs,hs3,hs1];omega)
 clear hxs hs3 hs1 hx
 have f1:((c:Int)==10)=false:=by simp;omega
 have f2:((c:Int)==9)=false:=by simp;omega
 have f3:((c:Int)==13)=false:=by simp;omega
 have f7:((c:Int)==92)=false:=by simp;omega
 have f6:((c:Int)==(q:Int))=false:=by simp;omega
 have f4:(c:Int)<32:=by omega
 go_enter Tryz.func165,Tryz.ntmps165
 go_wp2_with (first |(go_at_call 168;with_reducible refine (Tok.formatIntQ c hc _ hT).mono ?_;rintro e1 w1 ⟨rfl,b1⟩) |(go_at_call 17;with_reducible refine (wrS _ X l (⟨#[92,117,123]⟩++⟨(Tok.hexL c).toArray⟩++⟨#[125]⟩) hsz (by omega) (Bld.below h b1)).mono ?_;rintro e2 w2 ⟨⟨n2,rfl⟩,h2,k2⟩))
 refine bodyPost_ret (results_none rfl _ _ _) rfl ?_
 exact ⟨rfl,by rw [hout] at h2;exact h2,((Kp.refl X w).below (Nat.le_of_lt h.lt) b1).trans k2⟩
set_option maxRecDepth 100000 in
theorem ws_127 (q:Nat) (c:Nat) (hc:(c<32/\c≠9/\c≠10/\c≠13)∨c=127) (hn:c≠10/\c≠9/\c≠13) (h92:c≠92) (hq:c≠q) (h127:c=127) (w:World) (X:Nat) (l:List UInt8) (hl:l.length<=900000) (hT:Tok.TZ w) (h:Bld w X l) :
  Calls Tryz.prog 165 #[.pointer (some ⟨X,0,none⟩),.int .i32 (q:Int),.int .i32 (c:Int)] w (Wrote w X (l++([92,117,123]++Tok.hexL c++[125]))):=by
 have hx:=Tok.hexL_len' c
 have hxs:(⟨(Tok.hexL c).toArray⟩:ByteArray).size =(Tok.hexL c).length:=rfl
 have hs3:(⟨#[92,117,123]⟩:ByteArray).size=3:=rfl
 have hs1:(⟨#[125]⟩:ByteArray).size=1:=rfl
 have hsz:((⟨#[92,117,123]⟩:ByteArray)++⟨(Tok.hexL c).toArray⟩++⟨#[125]⟩).size<=1000000:=by rw [ByteArray.size_append,ByteArray.size_append,hxs,hs3,hs1];omega
 have hout:((⟨#[92,117,123]⟩:ByteArray)++⟨(Tok.hexL c).toArray⟩++⟨#[125]⟩).data.toList=[92,117,123]++Tok.hexL c++[125]:=by simp [ByteArray.data_append]
 have a1:=fun w=>run_string_add_sum (P:=Tryz.prog) w ⟨#[92,117,123]⟩ ⟨(Tok.hexL c).toArray⟩ (by rw [hxs,hs3];omega)
 have a2:=fun w=>run_string_add_sum (P:=Tryz.prog) w (⟨#[92,117,123]⟩++⟨(Tok.hexL c).toArray⟩) ⟨#[125]⟩ (by rw [ByteArray.size_append,hxs,hs3,hs1];omega)
 clear hxs hs3 hs1 hx
 have f1:((c:Int)==10)=false:=by simp;omega
 have f2:((c:Int)==9)=false:=by simp;omega
 have f3:((c:Int)==13)=false:=by simp;omega
 have f7:((c:Int)==92)=false:=by simp;omega
 have f6:((c:Int)==(q:Int))=false:=by simp;omega
 have f4:¬ (c:Int)<32:=by omega
 have f5:((c:Int)==127)=true:=by simp;omega
 clear h127
 go_enter Tryz.func165,Tryz.ntmps165
 go_wp2_with (first |(go_at_call 168;with_reducible refine (Tok.formatIntQ c hc _ hT).mono ?_;rintro e1 w1 ⟨rfl,b1⟩) |(go_at_call 17;with_reducible refine (wrS _ X l (⟨#[92,117,123]⟩++⟨(Tok.hexL c).toArray⟩++⟨#[125]⟩) hsz (by omega) (Bld.below h b1)).mono ?_;rintro e2 w2 ⟨⟨n2,rfl⟩,h2,k2⟩))
 refine bodyPost_ret (results_none rfl _ _ _) rfl ?_
 exact ⟨rfl,by rw [hout] at h2;exact h2,((Kp.refl X w).below (Nat.le_of_lt h.lt) b1).trans k2⟩
set_option maxRecDepth 100000 in
theorem ws_plain (q:Nat) (c:Nat) (hc:c<=1114111) (hn:c≠10/\c≠9/\c≠13) (h92:c≠92) (hq:c≠q) (h32:32<=c) (h127:c≠127) (w:World) (X:Nat) (l:List UInt8) (hl:l.length<=900000) (hT:Tok.TZ w) (h:Bld w X l) :
  Calls Tryz.prog 165 #[.pointer (some ⟨X,0,none⟩),.int .i32 (q:Int),.int .i32 (c:Int)] w (Wrote w X (l++enc (c:Int))):=by
 have f1:((c:Int)==10)=false:=by simp;omega
 have f2:((c:Int)==9)=false:=by simp;omega
 have f3:((c:Int)==13)=false:=by simp;omega
 have f6:((c:Int)==(q:Int))=false:=by simp;omega
 have f7:((c:Int)==92)=false:=by simp;omega
 have f4:¬ (c:Int)<32:=by omega
 have f5:((c:Int)==127)=false:=by simp;omega
 go_enter Tryz.func165,Tryz.ntmps165
 go_wp2_with (first |(go_at_call 45;with_reducible refine (wrR _ X c l hc (by omega) h).mono ?_;rintro e1 w1 ⟨⟨n1,rfl⟩,h1,k1⟩))
 refine bodyPost_ret (results_none rfl _ _ _) rfl ?_
 exact ⟨rfl,h1,k1⟩
theorem writeShortQ (q c:Nat) (hc:c<=1114111) (w:World) (X:Nat) (l:List UInt8) (hl:l.length<=900000) (hT:Tok.TZ w) (h:Bld w X l) :
  Calls Tryz.prog 165 #[.pointer (some ⟨X,0,none⟩),.int .i32 (q:Int),.int .i32 (c:Int)] w (Wrote w X (l++chS (c:Int) (q:Int))):=by
 unfold chS
 by_cases h10:c=10
 ·rw [if_pos (by omega)];subst h10;exact ws_10 q w X l hl hT h
 rw [if_neg (by omega)]
 by_cases h9:c=9
 ·rw [if_pos (by omega)];subst h9;exact ws_9 q w X l hl hT h
 rw [if_neg (by omega)]
 by_cases h13:c=13
 ·rw [if_pos (by omega)];subst h13;exact ws_13 q w X l hl hT h
 rw [if_neg (by omega)]
 by_cases h92:c=92
 ·rw [if_pos (Or.inl (by omega))]
  exact ws_92 q c hc ⟨h10,h9,h13⟩ h92 w X l hl hT h
 by_cases hq:c=q
 ·rw [if_pos (Or.inr (by omega))]
  exact ws_q q c hc ⟨h10,h9,h13⟩ h92 hq w X l hl hT h
 rw [if_neg (by omega)]
 by_cases h32:c<32
 ·rw [if_pos (Or.inl (by omega)),Int.toNat_natCast,<- hexL_hx c (by omega)]
  exact ws_32 q c (Or.inl ⟨h32,h9,h10,h13⟩) ⟨h10,h9,h13⟩ h92 hq h32 w X l hl hT h
 by_cases h127:c=127
 ·rw [if_pos (Or.inr (by omega)),Int.toNat_natCast,<- hexL_hx c (by omega)]
  exact ws_127 q c (Or.inr h127) ⟨h10,h9,h13⟩ h92 hq h127 w X l hl hT h
 ·rw [if_neg (by omega)]
  exact ws_plain q c hc ⟨h10,h9,h13⟩ h92 hq (by omega) h127 w X l hl hT h
def quoQ (q:Nat) (L:List Int):List UInt8:=enc (q:Int)++(L.map fun c=>chS c (q:Int)).flatten++enc (q:Int)
theorem chs_len (q:Int):∀ (L:List Int),(∀ x∈L,0<=x/\x<=1114111)->((L.map fun c=>chS c q).flatten).length<=12*L.length
 | [],_=>by simp
 | x::r,h=>by
  have h1:=chS_len x q (h x (by simp)).2
  have h2:=chs_len q r fun y hy=>h y (List.mem_cons_of_mem _ hy)
  rw [List.map_cons,List.flatten_cons,List.length_append,List.length_cons]
  omega
set_option maxRecDepth 100000 in
theorem writeQuotedQ (q:Nat) (hq:q<=127) (a:Option Addr) (cap:Nat) (L:List Int) (hL:∀ x∈L,0<=x/\x<=1114111) (hn:L.length<=66000) (w:World) (X:Nat) (l:List UInt8) (hl:l.length+12*L.length<=890000) (hT:Tok.TZ w) (hg:10<X) (h:Bld w X l) (hI:II X w a cap L) :
  Calls Tryz.prog 159 #[.pointer (some ⟨X,0,none⟩),.int .i32 (q:Int),.slice a L.length cap] w (Wrote w X (l++quoQ q L)):=by
 obtain ⟨R,hR⟩:∃ R,Hid (l++quoQ q L=R):=⟨_,rfl⟩
 rw [hR.out]
 obtain ⟨n,hNl⟩:∃ n,Hid (L.length=n):=⟨_,rfl⟩
 have hn1:n<=66000:=by rw [<- hNl.out];exact hn
 have hl1:l.length+12*n<=890000:=by rw [<- hNl.out];exact hl
 have e1:=enc_len (q:Int)
 have hcl:=fun k=>chs_len (q:Int) (L.take k) fun x hx=>hL x (List.mem_of_mem_take hx)
 rw [hNl.out]
 clear hn hl
 go_enter Tryz.func159,Tryz.ntmps159
 go_wp2_with (go_at_call 45;with_reducible refine (wrR _ X q l (by omega) (by omega) h).mono ?_;rintro e1 w1 ⟨⟨n1,rfl⟩,h1,k1⟩)
 go_loopw [13] (fun i wr=>∃ k:Nat,k<=n/\i=.int .i64 (k:Int)/\Bld wr X (l++enc (q:Int)++((L.take k).map fun c=>chS c (q:Int)).flatten)/\Kp X w wr) (fun i _=>n - (intOf i).toNat)
 case atStart=>exact ⟨0,Nat.zero_le _,rfl,by simpa using h1,k1⟩
 case round =>
  clear h1 k1
  obtain ⟨k,hk,rfl,h0,k0⟩:=hrel
  by_cases hlt:k<n
  ·have hlt':(k:Int) <(n:Int):=by omega
   have hkl:k<L.length:=by rw [hNl.out];exact hlt
   have hI0:=(hI.keep k0).at
   obtain ⟨b,off,hi,hc⟩:=hI0.at hkl
   rw [hNl.out] at hi
   obtain ⟨b0,b1⟩:=hL _ (List.getElem_mem hkl)
   have hst:(((L.take (k+1)).map fun c=>chS c (q:Int)).flatten) =((L.take k).map fun c=>chS c (q:Int)).flatten++chS L[k] (q:Int):=by
    rw [List.take_succ_eq_append_getElem hkl,List.map_append,List.flatten_append,List.map_cons,List.map_nil,List.flatten_cons,List.flatten_nil,List.append_nil]
   have hlen:=hcl k
   rw [List.length_take] at hlen
   obtain ⟨x,hx⟩:∃ x:Nat,L[k] =(x:Int):=⟨L[k].toNat,by omega⟩
   rw [hx] at hst hc b0 b1
   have hxw:IntKind.i32.wrap (x:Int) =(x:Int):=by unfold IntKind.wrap;simp [IntKind.bits,IntKind.signed];omega
   have hT0:Tok.TZ wr:=by
    have:=k0.1.cell (p:=⟨10,15,none⟩) hg
    unfold Tok.TZ at hT ⊢
    rw [this];exact hT
   have cW:=fun w (hT:Tok.TZ w) h=>writeShortQ q x (by omega) w X (l++enc (q:Int)++((L.take k).map fun c=>chS c (q:Int)).flatten) (by rw [List.length_append,List.length_append];omega) hT h
   have hHs:=Lib.hid hst
   clear hst hx hI0 hlen
   generalize ((L.take k).map fun c=>chS c (q:Int)).flatten=D at *
   go_wp2_with (go_at_call 165;with_reducible refine (cW _ hT0 h0).mono ?_;rintro e2 w2 ⟨rfl,h2,k2⟩)
   go_roundw
   case rel=>exact ⟨k+1,by omega,by go_num,by rw [hHs.out,<- List.append_assoc];exact h2,k0.trans k2⟩
   case measure=>simp [intOf];omega
  ·obtain rfl:k=n:=by omega
   have hn0:¬ (k:Int) <(k:Int):=by omega
   have e:L.take k=L:=List.take_of_length_le (by rw [hNl.out];exact Nat.le_refl _)
   rw [e] at h0
   have hlen:=hcl k
   rw [e] at hlen
   have hb:(l++enc (q:Int)++(L.map fun c=>chS c (q:Int)).flatten).length<=1000000:=by rw [List.length_append,List.length_append];rw [hNl.out] at hlen;omega
   have hR2:R =(l++enc (q:Int)++(L.map fun c=>chS c (q:Int)).flatten)++enc (q:Int):=by rw [<- hR.out];simp [quoQ]
   subst hR2
   clear hR hlen hcl e
   generalize (l++enc (q:Int)++(L.map fun c=>chS c (q:Int)).flatten)=D at *
   go_wp2_with (go_at_call 45;with_reducible refine (wrR _ X q D (by omega) hb h0).mono ?_;rintro e2 w2 ⟨⟨n2,rfl⟩,h2,k2⟩)
   refine bodyPost_ret (results_none rfl _ _ _) rfl ?_
   exact ⟨rfl,h2,k0.trans k2⟩
end Go.Proofs.YtalkinnbfglkdaaGreatDoor.Shape
