/-
  Layer 8: a character as it stands in a literal. (Written by wip/gen/token-lit.py.)
  Layer 8: the literal of a text. (Written by wip/gen/token-lit.py.)
  Layer 8: the text of a token. (Written by wip/gen/token-show.py.)
  Layer 8: the text of tokens. (Written by wip/gen/token-show2.py.)
  Layer 8: whether two lists of tokens are equal, by the reference. (Written by wip/gen/token-same.py.)
  Layer 8: the places of a text's tokens, as plain data.
  Layer 8: what stands in a text from a place on; a character as it is written is read back.
  Layer 8: a token as it is written is read back.
  Layer 8: the tokens of a text, shown, are read back alike.
-/
import Derived.Test.YtalkinnbfglkdaaGreatDoorPt28
import Derived.Test.YtalkinnbfglkdaaGreatDoorPt3
import Derived.Lib.OthersKept
import Derived.Lib.ValidLaws
import Derived.Test.YtalkinnbfglkdaaGreatDoorPt6
import Derived.Laws.Cover4
import Derived.Test.YtalkinnbfglkdaaGreatDoorPt35
import Derived.Laws.OwnMore
import Derived.Test.YtalkinnbfglkdaaGreatDoorPt8
import Derived.Lib.Strings
import Derived.Lib.TrimUEq
import Derived.Lib.MapLaws
import Derived.Lib.RuneCountTail
namespace Go.Proofs.YtalkinnbfglkdaaGreatDoor.Tok
open Go.RowKit
set_option linter.unusedVariables false
set_option linter.unusedSimpArgs false
theorem wrR (w:World) (X c:Nat) (l:List UInt8) (hc:c<=1114111) (hl:l.length<=1000000) (h:Bld w X l) :
  Calls Tryz.prog 45 #[.pointer (some ⟨X,0,none⟩),.int .i32 (c:Int)] w fun e w'=>(∃ n,e=.returned (.tuple #[.int .i64 n,.nilIface]))/\Bld w' X (l++Lib.encodeRune (c:Int))/\Below X w w'/\Lib.OthersKept 5 (some X) w w':=by
 refine (Tryz.Builder_WriteRune_k X X (Lib.byteCells l) (c:Int) (by omega) (by omega) w h (by rw [Lib.byteCells_length];omega) (Nat.le_of_lt h.lt)).mono ?_
 rintro e w' ⟨rfl,h1,h2,h3⟩
 refine ⟨⟨_,rfl⟩,?_,h2,h3⟩
 rw [Bld,Lib.byteCells_append,Lib.byteCells_encodeRune]
 exact .inr h1
theorem wrS (w:World) (X:Nat) (l:List UInt8) (s:ByteArray) (hs:s.size<=1000000) (hl:l.length<=1000000) (h:Bld w X l) :
  Calls Tryz.prog 17 #[.pointer (some ⟨X,0,none⟩),.string s] w fun e w'=>(∃ n,e=.returned (.tuple #[.int .i64 n,.nilIface]))/\Bld w' X (l++s.data.toList)/\Below X w w'/\Lib.OthersKept 5 (some X) w w':=by
 refine (Tryz.Builder_WriteString_k X X (Lib.byteCells l) s w h (by rw [Lib.byteCells_length];omega) (Nat.le_of_lt h.lt)).mono ?_
 rintro e w' ⟨rfl,h1,h2,h3⟩
 refine ⟨⟨_,rfl⟩,?_,h2,h3⟩
 rw [Bld,Lib.byteCells_append,<- Lib.strCells_eq]
 exact .inr h1
theorem wrB (w:World) (X:Nat) (l:List UInt8) (c:UInt8) (hl:l.length<=1000000) (h:Bld w X l) :
  Calls Tryz.prog 53 #[.pointer (some ⟨X,0,none⟩),.int .u8 (c.toNat:Int)] w fun e w'=>e=.returned .nilIface/\Bld w' X (l++[c])/\Below X w w'/\Lib.OthersKept 5 (some X) w w':=by
 refine (Tryz.Builder_WriteByte_k X X (Lib.byteCells l) (c.toNat:Int) w h (by rw [Lib.byteCells_length];omega) (Nat.le_of_lt h.lt)).mono ?_
 rintro e w' ⟨rfl,h1,h2,h3⟩
 refine ⟨rfl,?_,h2,h3⟩
 rw [Bld,Lib.byteCells_append]
 exact .inr h1
theorem wr92 (w:World) (X:Nat) (l:List UInt8) (hl:l.length<=1000000) (h:Bld w X l) :
 Calls Tryz.prog 53 #[.pointer (some ⟨X,0,none⟩),.int .u8 92] w fun e w'=>e=.returned .nilIface/\Bld w' X (l++[92])/\Below X w w'/\Lib.OthersKept 5 (some X) w w':=wrB w X l 92 hl h
theorem okBelow {e:TypeId}{bo:Option Nat}{a w w':World}(h:Lib.OthersKept e bo a w) (hb:Below w.heap.size w w'):Lib.OthersKept e bo a w':=fun k o hk hn hc=>by
 have:=h k o hk hn hc
 exact (hb.block k (Array.getElem?_eq_some_iff.1 this).1).trans this
def chW (q c:Nat):List UInt8 :=
 if c=10 then [92,110] else if c=9 then [92,116] else if c=13 then [92,114] else if c<32∨c=127 then [92,117,123]++hexL c++[125]
 else if c=q∨c=92 then [92]++Lib.encodeRune (c:Int) else Lib.encodeRune (c:Int)
theorem hexL_len (c:Nat):(hexL c).length<=2:=by unfold hexL;split <;> simp
theorem Bld.below {w w':World}{X:Nat}{l:List UInt8}(h:Bld w X l) (hb:Below w.heap.size w w'):Bld w' X l:=by
 have go:∀ p,Lib.BuilderAtF 63 5 X X p (Lib.byteCells l) w->Lib.BuilderAtF 63 5 X X p (Lib.byteCells l) w':=fun p h=>by
  have hlt:=h.lt
  obtain ⟨hB,v,hv,hown,hne⟩:=h
  exact ⟨hB,v,(hb.block X hlt).trans hv,hown.kept (row:=none) ⟨hb.os,hb.tape,hb.output,hb.size,fun k hk _=>hb.block k hk⟩ (Classical.em _),hne⟩
 exact h.elim (fun x=>.inl (go _ x)) (fun x=>.inr (go _ x))
@[reducible] def Wrote (w:World) (X:Nat) (l:List UInt8) (e:Ending) (w':World):Prop:=e=.returned (.tuple #[])/\Bld w' X l/\Below X w w'/\Lib.OthersKept 5 (some X) w w'
def litGo (q:Nat) (s:ByteArray):Nat->Nat->List UInt8
 | 0,_=>[]
 | f+1,pos=>if pos<s.size then chW q (Utf8.decode s pos).1++litGo q s f (pos+(Utf8.decode s pos).2) else []
def litW (q:Nat) (s:ByteArray):List UInt8:=Lib.encodeRune (q:Int)++litGo q s (s.size+1) 0++Lib.encodeRune (q:Int)
theorem enc_le' (c:Int):(Lib.encodeRune c).length<=4:=by
 unfold Lib.encodeRune
 rw [List.length_map]
 exact Lib.encodeRuneZ_length_le c
def isChar (n:Int):Bool:=decide (0<=n/\n<=1114111)&&Lib.validRune n
def oneW (k n:Int) (t:ByteArray):List UInt8 :=
 if k=1 then (if Num.fitsB n then (Num.shS n).data.toList else [])
 else if k=2 then (if isChar n then litW 39 (Utf8.encode n) else [])
 else if k=3 then (if Lib.validD t.data.toList then litW 34 t else [])
 else if k=4∨k=5 then t.data.toList else if k=6 then [59] else []
theorem arr_list (t:ByteArray):(⟨t.data.toList.toArray⟩:ByteArray)=t:=by cases t;simp
theorem add_plain (b off k:Nat):(⟨b,off,none⟩:Addr).add k =⟨b,off+k,none⟩:=by unfold Addr.add;split <;> simp_all
theorem elemToks:Tryz.prog.underlying 27=some (.slice (Tryz.prog.elem 27)):=by kernel_rfl
theorem sizeToks (w:World):(sizeOf (Tryz.prog.elem 27)).run Tryz.prog w=.ok 5 w:=by kernel_rfl
theorem elem_tok (w':World) (m o n cap j:Nat) (hj:j<n):(Instr.indexAt 27 (.slice (some ⟨m,o,none⟩) n cap) (.int .i64 (j:Int))).run Tryz.prog w'=.ok (.pointer (some ⟨m,o+j*5,none⟩)) w':=by
 rw [run_indexAt_slice w' _ _ _ _ .i64 j elemToks,if_pos (by omega),sizeToks]
 show Result.ok _ w'=_
 rw [show ((j:Int).toNat*5)=j*5 by omega,add_plain]
def intOf:Value->Int
 | .int _ n=>n
 | _=>0
def TokCells (w:World) (m o:Nat) (l:List T5):Prop:=∀ (j:Nat) (hj:j<l.length),w.cell? ⟨m,o+j*5,none⟩=some (.int .i64 l[j].k)/\w.cell? ⟨m,o+j*5+1,none⟩=some (.int .i64 l[j].at')/\w.cell? ⟨m,o+j*5+2,none⟩=some (.int .i64 l[j].len)/\w.cell? ⟨m,o+j*5+3,none⟩=some (.int .i64 l[j].n)/\w.cell? ⟨m,o+j*5+4,none⟩=some (.string l[j].t)
theorem TokCells.below {w w':World}{m o:Nat}{l:List T5}(h:TokCells w m o l) (hb:Below w.heap.size w w'):TokCells w' m o l:=fun j hj=>by
 obtain ⟨a,b,c,d,e⟩:=h j hj
 exact ⟨cell_below a hb,cell_below b hb,cell_below c hb,cell_below d hb,cell_below e hb⟩
def Strs (w:World) (G:Nat) (xs:List ByteArray):Prop:=w.heap[G]?=some (.cells (xs.map Value.string).toArray 9 (0,0))
theorem Strs.lt {w:World}{G:Nat}{xs:List ByteArray}(h:Strs w G xs):G<w.heap.size:=(Array.getElem?_eq_some_iff.1 h).1
theorem Strs.cell {w:World}{G:Nat}{xs:List ByteArray}(h:Strs w G xs) {j:Nat}{x:ByteArray}(hj:xs[j]?=some x):w.cell? ⟨G,j,none⟩=some (.string x):=by
 unfold Strs at h
 simp [World.cell?,h,hj]
theorem Strs.free {w:World}{G:Nat}{xs:List ByteArray}(h:Strs w G xs) (j:Nat):w.frozen? ⟨G,j,none⟩=false:=by
 unfold Strs at h
 simp [World.frozen?,h]
theorem Strs.below {w w':World}{G:Nat}{xs:List ByteArray}(h:Strs w G xs) (hb:Below w.heap.size w w'):Strs w' G xs:=(hb.block G h.lt).trans h
theorem Strs.set {w:World}{G:Nat}{xs:List ByteArray}(h:Strs w G xs) (j:Nat) (x:ByteArray):Strs (w.setCell ⟨G,j,none⟩ (.string x)) G (xs.set j x):=by
 unfold Strs at h ⊢
 simp only [World.setCell]
 rw [Array.getElem?_modify,if_pos rfl,h]
 simp
deriving instance DecidableEq for T5
def ToksAt (w:World) (a:Option Addr) (c:Nat) (l:List T5):Prop:=l.length<=c/\∃ m o,(l≠[]->a=some ⟨m,o,none⟩)/\TokCells w m o l
theorem ToksAt.below {w w':World}{a:Option Addr}{c:Nat}{l:List T5}(h:ToksAt w a c l) (hb:Below w.heap.size w w'):ToksAt w' a c l:=by
 obtain ⟨h1,m,o,h2,h3⟩:=h
 exact ⟨h1,m,o,h2,h3.below hb⟩
def lowC (c:UInt8):Prop:=97<=c.toNat/\c.toNat<=122
def digC (c:UInt8):Prop:=48<=c.toNat/\c.toNat<=57
structure Named (t:ByteArray):Prop where
 pos:0<t.size
 small:t.size<=32
 first:∀ h:0<t.size,lowC t[0]
 all:∀ i (h:i<t.size),lowC t[i]∨digC t[i]
 free:resB t.toList=false
def Asc (s:ByteArray):Nat->List T5->Prop
 | _,[]=>True
 | e,x::r=>∃ a j:Nat,x.at' =(a:Int)/\x.len =(j:Int) - a/\e<=a/\a<j/\j<=s.size/\((x.k=4∨x.k=5)->x.t=s.extract a j)/\(x.k=4->Named x.t)/\Asc s j r
theorem Asc.mono {s:ByteArray}{e e':Nat}(he:e'<=e):∀ {l:List T5},Asc s e l->Asc s e' l
 | [],_=>trivial
 | x::r,⟨a,j,h1,h2,h3,h⟩=>⟨a,j,h1,h2,Nat.le_trans he h3,h⟩
/-! ### What stands from a place on -/
structure Sfx (s:ByteArray) (i:Nat) (L:List UInt8):Prop where
 le:i<=s.size
 eq:s.data.toList.drop i=L
theorem Sfx.len {s:ByteArray}{i:Nat}{L:List UInt8}(h:Sfx s i L):s.size=i+L.length:=by
 have e:=congrArg List.length h.eq
 rw [List.length_drop,<- Lib.size_eq] at e
 have:=h.le
 omega
theorem Sfx.uncons {s:ByteArray}{i:Nat}{c:UInt8}{L:List UInt8}(h:Sfx s i (c::L)):∃ hi:i<s.size,s[i]=c/\s.data.toList.drop (i+1)=L:=by
 have hi:i<s.size:=by have:=h.len;rw [List.length_cons] at this;omega
 have hi':i<s.data.toList.length:=by rw [<- Lib.size_eq];exact hi
 have e:=h.eq
 rw [List.drop_eq_getElem_cons hi'] at e
 injection e with e1 e2
 exact ⟨hi,e1,e2⟩
theorem Sfx.lt {s:ByteArray}{i:Nat}{c:UInt8}{L:List UInt8}(h:Sfx s i (c::L)):i<s.size:=h.uncons.1
theorem Sfx.next {s:ByteArray}{i:Nat}{c:UInt8}{L:List UInt8}(h:Sfx s i (c::L)):Sfx s (i+1) L:=by
 obtain ⟨a,-,b⟩:=h.uncons
 exact ⟨a,b⟩
theorem Sfx.app {s:ByteArray}{i:Nat}{A L:List UInt8}(h:Sfx s i (A++L)):Sfx s (i+A.length) L:=by
 refine ⟨?_,?_⟩
 ·have:=h.len;rw [List.length_append] at this;omega
 ·rw [<- List.drop_drop,h.eq,List.drop_left]
theorem Sfx.cut {s:ByteArray}{i:Nat}{A L:List UInt8}(h:Sfx s i (A++L)):s.extract i (i+A.length) =⟨A.toArray⟩:=by
 have e:(s.extract i (i+A.length)).data.toList=A:=by rw [extract_list,h.eq,Nat.add_sub_cancel_left,List.take_left]
 rw [<- arr_list (s.extract i (i+A.length)),e]
def hdIn (L:List UInt8) (lo hi:Int):Bool:=match L with
 | []=>false
 | c::_=>decide (lo<=(c.toNat:Int)/\(c.toNat:Int)<=hi)
def hdDig (L:List UInt8):Bool:=hdIn L 48 57
def hdLet (L:List UInt8):Bool:=hdIn L 97 122 || hdIn L 65 90
def hdHex (L:List UInt8):Bool:=hdDig L || hdIn L 97 102
def hdLD (L:List UInt8):Bool:=hdLet L || hdDig L
def hdEnd (L:List UInt8):Bool:=match L with
 | []=>true
 | c::_=>c.toNat==10
theorem Sfx.inB {s:ByteArray}{i:Nat}{L:List UInt8}(h:Sfx s i L) (lo hi:Int):Tok.inB s i lo hi=hdIn L lo hi:=by
 cases L with
 | nil=>have:=h.len;exact inB_end (by rw [List.length_nil] at this;omega)
 | cons c L=>obtain ⟨hi',e,-⟩:=h.uncons;unfold Tok.inB;rw [dif_pos hi',e];rfl
theorem Sfx.endL {s:ByteArray}{i:Nat}{L:List UInt8}(h:Sfx s i L):Tok.endL s i=hdEnd L:=by
 cases L with
 | nil=>have:=h.len;rw [List.length_nil] at this;unfold Tok.endL;rw [dif_neg (by omega)];rfl
 | cons c L=>obtain ⟨hi',e,-⟩:=h.uncons;unfold Tok.endL;rw [dif_pos hi',e];rfl
theorem Sfx.isDig {s:ByteArray}{i:Nat}{L:List UInt8}(h:Sfx s i L):Tok.isDig s i=hdDig L:=h.inB 48 57
theorem Sfx.isLet {s:ByteArray}{i:Nat}{L:List UInt8}(h:Sfx s i L):Tok.isLet s i=hdLet L:=by unfold Tok.isLet hdLet;rw [h.inB,h.inB]
theorem Sfx.isHex {s:ByteArray}{i:Nat}{L:List UInt8}(h:Sfx s i L):Tok.isHex s i=hdHex L:=by unfold Tok.isHex hdHex;rw [h.isDig,h.inB]
theorem Sfx.isLD {s:ByteArray}{i:Nat}{L:List UInt8}(h:Sfx s i L):Tok.isLD s i=hdLD L:=by unfold Tok.isLD hdLD;rw [h.isLet,h.isDig]
theorem Sfx.decode {s:ByteArray}{i:Nat}{L:List UInt8}(h:Sfx s i L):Utf8.decode s i=Lib.decodeL L:=by
 have e:=Lib.tail_decode s i 0
 rw [Nat.add_zero] at e
 rw [<- e,<- h.eq]
 show _=Utf8.decode ⟨(s.data.toList.drop i).toArray⟩ 0
 congr 1
 rw [<- arr_list (s.extract i s.size)]
 congr 2
 rw [Lib.extract_data]
 apply List.take_of_length_le
 rw [List.length_drop,<- Lib.size_eq]
 exact Nat.le_refl _
theorem many_sfx {s:ByteArray}{P:Nat->Bool}{p:List UInt8->Bool}(hP:∀ i L,Sfx s i L->P i=p L):∀ (A:List UInt8) (i f:Nat) {R:List UInt8},Sfx s i (A++R)->(∀ c∈A,∀ L,p (c::L)=true)->p R=false->A.length<=f->manyTo (one P) f i=i+A.length
 | [],i,f,R,h,ha,hr,hf=>by
  have e:P i=false:=(hP i _ h).trans hr
  cases f with
  | zero=>rfl
  | succ f=>rw [manyTo,if_neg (by show ¬ P i=true;rw [e];decide)];rfl
 | c::A,i,f,R,h,ha,hr,hf=>by
  have e:P i=true:=(hP i _ h).trans (ha c (by simp) _)
  rw [List.length_cons] at hf
  obtain ⟨g,rfl⟩:∃ g,f=g+1:=⟨f - 1,by omega⟩
  rw [manyTo,if_pos (show (one P i).1=true from e)]
  show manyTo (one P) g (adv (P i) i)=_
  rw [e,adv_t,many_sfx hP A (i+1) g h.next (fun c hc=>ha c (List.mem_cons_of_mem _ hc)) hr (by omega),List.length_cons]
  omega
/-! ### Characters -/
def okC (c:Nat):Prop:=c<55296∨(57343<c/\c<=1114111)
theorem bk_nat (x:Nat) (h:x<256):(UInt8.ofNat x).toNat=x:=by
 rw [UInt8.toNat_ofNat'];omega
theorem bk_enc1 (c:Nat) (h:c<128):Lib.encodeRune (c:Int)=[UInt8.ofNat c]:=by
 unfold Lib.encodeRune
 rw [Lib.encodeRuneZ_one (by omega) (by omega)]
 rfl
theorem bk_enc2 (c:Nat) (h1:128<=c) (h2:c<2048):Lib.encodeRune (c:Int)=[UInt8.ofNat (192+c / 64),UInt8.ofNat (128+c % 64)]:=by
 unfold Lib.encodeRune
 rw [Lib.encodeRuneZ_two (by omega) (by omega)]
 simp only [List.map_cons,List.map_nil]
 rw [show (192+(c:Int) / 64).toNat=192+c / 64 by omega,show (128+(c:Int) % 64).toNat=128+c % 64 by omega]
theorem bk_enc3 (c:Nat) (h:(2048<=c/\c<55296)∨(57343<c/\c<=65535)):Lib.encodeRune (c:Int)=[UInt8.ofNat (224+c / 4096),UInt8.ofNat (128+c / 64 % 64),UInt8.ofNat (128+c % 64)]:=by
 unfold Lib.encodeRune
 rw [Lib.encodeRuneZ_three (by omega)]
 simp only [List.map_cons,List.map_nil]
 rw [show (224+(c:Int) / 4096).toNat=224+c / 4096 by omega,show (128+(c:Int) / 64 % 64).toNat=128+c / 64 % 64 by omega,show (128+(c:Int) % 64).toNat=128+c % 64 by omega]
theorem bk_enc4 (c:Nat) (h1:65536<=c) (h2:c<=1114111):Lib.encodeRune (c:Int)=[UInt8.ofNat (240+c / 262144),UInt8.ofNat (128+c / 4096 % 64),UInt8.ofNat (128+c / 64 % 64),UInt8.ofNat (128+c % 64)]:=by
 unfold Lib.encodeRune
 rw [Lib.encodeRuneZ_four (by omega) (by omega)]
 simp only [List.map_cons,List.map_nil]
 rw [show (240+(c:Int) / 262144).toNat=240+c / 262144 by omega,show (128+(c:Int) / 4096 % 64).toNat=128+c / 4096 % 64 by omega,show (128+(c:Int) / 64 % 64).toNat=128+c / 64 % 64 by omega,show (128+(c:Int) % 64).toNat=128+c % 64 by omega]
theorem bk_enc (c:Nat) (h:okC c):(Utf8.encode (c:Int)) =⟨(Lib.encodeRune (c:Int)).toArray⟩:=by
 have hv:Utf8.valid (c:Int)=true:=by
  unfold okC at h
  unfold Utf8.valid
  simp only [Bool.or_eq_true,Bool.and_eq_true,decide_eq_true_eq]
  omega
 unfold okC at h
 have e:(Utf8.encode (c:Int)).data.toList=Lib.encodeRune (c:Int):=by
  unfold Utf8.encode
  simp only [hv,if_true,Int.toNat_natCast]
  by_cases h1:c<128
  ·rw [if_pos h1,bk_enc1 c h1]
  rw [if_neg h1]
  by_cases h2:c<2048
  ·rw [if_pos h2,bk_enc2 c (by omega) h2]
  rw [if_neg h2]
  by_cases h3:c<65536
  ·rw [if_pos h3,bk_enc3 c (by omega)]
  ·rw [if_neg h3,bk_enc4 c (by omega) (by omega)]
 rw [<- arr_list (Utf8.encode (c:Int)),e]
theorem bk_dec (c:Nat) (h:okC c) (L:List UInt8):Lib.decodeL (Lib.encodeRune (c:Int)++L) =(c,(Lib.encodeRune (c:Int)).length):=by
 unfold okC at h
 unfold Lib.decodeL
 rw [Lib.decode_N]
 by_cases h1:c<128
 ·rw [bk_enc1 c h1]
  show Lib.decodeN (L.length+1 - 0) (UInt8.ofNat c).toNat _ _ _ =(c,1)
  rw [bk_nat c (by omega)]
  unfold Lib.decodeN
  rw [if_pos h1]
 by_cases h2:c<2048
 ·rw [bk_enc2 c (by omega) h2]
  show Lib.decodeN (L.length+2 - 0) (UInt8.ofNat (192+c / 64)).toNat (UInt8.ofNat (128+c % 64)).toNat _ _ =(c,2)
  rw [bk_nat _ (by omega),bk_nat _ (by omega)]
  unfold Lib.decodeN
  rw [if_neg (by omega),if_pos (by omega),if_pos (by omega)]
  congr 1
  omega
 by_cases h3:c<65536
 ·rw [bk_enc3 c (by omega)]
  show Lib.decodeN (L.length+3 - 0) (UInt8.ofNat (224+c / 4096)).toNat (UInt8.ofNat (128+c / 64 % 64)).toNat (UInt8.ofNat (128+c % 64)).toNat _ =(c,3)
  rw [bk_nat _ (by omega),bk_nat _ (by omega),bk_nat _ (by omega)]
  unfold Lib.decodeN
  rw [if_neg (by omega),if_neg (by omega),if_pos (by omega),if_pos (by omega)]
  congr 1
  omega
 ·rw [bk_enc4 c (by omega) (by omega)]
  show Lib.decodeN (L.length+4 - 0) (UInt8.ofNat (240+c / 262144)).toNat (UInt8.ofNat (128+c / 4096 % 64)).toNat (UInt8.ofNat (128+c / 64 % 64)).toNat (UInt8.ofNat (128+c % 64)).toNat =(c,4)
  rw [bk_nat _ (by omega),bk_nat _ (by omega),bk_nat _ (by omega),bk_nat _ (by omega)]
  unfold Lib.decodeN
  rw [if_neg (by omega),if_neg (by omega),if_neg (by omega),if_pos (by omega),if_pos (by omega)]
  congr 1
  omega
theorem bk_head (c:Nat) (h:okC c):∃ b r,Lib.encodeRune (c:Int)=b::r/\((c<128/\b.toNat=c/\r=[])∨(128<=c/\192<=b.toNat/\r≠[])):=by
 unfold okC at h
 by_cases h1:c<128
 ·exact ⟨_,_,bk_enc1 c h1,Or.inl ⟨h1,bk_nat c (by omega),rfl⟩⟩
 by_cases h2:c<2048
 ·exact ⟨_,_,bk_enc2 c (by omega) h2,Or.inr ⟨by omega,by rw [bk_nat _ (by omega)];omega,by simp⟩⟩
 by_cases h3:c<65536
 ·exact ⟨_,_,bk_enc3 c (by omega),Or.inr ⟨by omega,by rw [bk_nat _ (by omega)];omega,by simp⟩⟩
 ·exact ⟨_,_,bk_enc4 c (by omega) (by omega),Or.inr ⟨by omega,by rw [bk_nat _ (by omega)];omega,by simp⟩⟩
theorem bk_hexV:∀ c:Fin 128,hexV (hexL c.val)=c.val:=by decide +kernel
theorem bk_hexC:∀ c:Fin 128,∀ x∈hexL c.val,hdHex [x]=true:=by decide +kernel
theorem bk_hexN:∀ c:Fin 128,hexL c.val≠[]:=by decide +kernel
theorem hex_any (c:UInt8) (L:List UInt8):hdHex (c::L)=hdHex [c]:=rfl
theorem cpS_hex {s:ByteArray}{i c:Nat}(hc:c<128) {L:List UInt8}(h:Sfx s i (123::(hexL c++125::L))):cpS s i=some (c,i+1+(hexL c).length+1):=by
 have h1:=h.next
 have hm:manyTo (one (isHex s)) (s.size - (i+1)) (i+1)=i+1+(hexL c).length:=by
  refine many_sfx (fun i L=>Sfx.isHex) (hexL c) (i+1) _ h1 (fun x hx L=>?_) (by rfl) ?_
  ·rw [hex_any];exact bk_hexC ⟨c,hc⟩ x hx
  ·have:=h1.len;rw [List.length_append] at this;omega
 have e3:(s.extract (i+1) (i+1+(hexL c).length)).data.toList=hexL c:=by rw [h1.cut]
 have hv:=bk_hexV ⟨c,hc⟩
 have hn:=List.length_pos_iff.2 (bk_hexN ⟨c,hc⟩)
 have hl:=hexL_len c
 simp only at hv hn
 unfold cpS
 rw [if_pos (by rw [h.inB];rfl),hm,e3,hv,if_pos ⟨by rw [h1.app.inB];rfl,by omega,by omega,by simp only [Lib.validRune,decide_eq_true_eq];omega⟩]
theorem escS_one {s:ByteArray}{i:Nat}{x:UInt8}{L:List UInt8}(h:Sfx s i (x::L)):escS s i =(if x=110 then some (10,i+1) else if x=116 then some (9,i+1) else if x=114 then some (13,i+1) else if x=92 then some (92,i+1) else if x=39 then some (39,i+1) else if x=34 then some (34,i+1) else if x=117 then cpS s (i+1) else none):=by
 have e:∀ k:UInt8,(Tok.inB s i (k.toNat:Int) (k.toNat:Int)=true) =(x=k):=fun k=>by
  rw [h.inB]
  apply propext
  simp only [hdIn,decide_eq_true_eq]
  constructor
  ·intro q;exact UInt8.toNat_inj.1 (by omega)
  ·intro q;subst q;exact ⟨Int.le_refl _,Int.le_refl _⟩
 have e1:=e 110;have e2:=e 116;have e3:=e 114;have e4:=e 92;have e5:=e 39;have e6:=e 34;have e7:=e 117
 unfold escS
 simp only [show ((110:UInt8).toNat:Int)=110 from rfl,show ((116:UInt8).toNat:Int)=116 from rfl,show ((114:UInt8).toNat:Int)=114 from rfl,show ((92:UInt8).toNat:Int)=92 from rfl,show ((39:UInt8).toNat:Int)=39 from rfl,show ((34:UInt8).toNat:Int)=34 from rfl,show ((117:UInt8).toNat:Int)=117 from rfl] at e1 e2 e3 e4 e5 e6 e7
 simp only [e1,e2,e3,e4,e5,e6,e7]
theorem charS_esc {s:ByteArray}{i c j:Nat}{L:List UInt8}(start:Nat) (h:Sfx s i (92::L)) (he:escS s (i+1)=some (c,j)):charS s start i=.ok c j:=by
 unfold charS
 rw [if_neg (by rw [h.endL];show ¬ false=true;decide),if_pos (by rw [h.inB];rfl),he]
 rfl
theorem charS_chW {s:ByteArray}{p q c:Nat}{L:List UInt8}(start:Nat) (hq:q=39∨q=34) (hc:okC c) (h:Sfx s p (chW q c++L)):charS s start p=.ok c (p+(chW q c).length):=by
 unfold chW at h ⊢
 split at h
 ·rename_i e;subst e
  exact charS_esc start h (by rw [escS_one h.next];rfl)
 rename_i n1
 rw [if_neg n1] at *
 split at h
 ·rename_i e;subst e
  exact charS_esc start h (by rw [escS_one h.next];rfl)
 rename_i n2
 rw [if_neg n2] at *
 split at h
 ·rename_i e;subst e
  exact charS_esc start h (by rw [escS_one h.next];rfl)
 rename_i n3
 rw [if_neg n3] at *
 split at h
 ·rename_i e
  rw [if_pos e]
  have h':Sfx s p (92::117::123::(hexL c++125::L)):=by
   have e2:[92,117,123]++hexL c++[125]++L=92::117::123::(hexL c++125::L):=by simp
   rw [e2] at h;exact h
  refine charS_esc start h' ?_
  rw [escS_one h'.next]
  show cpS s (p+1+1)=_
  rw [cpS_hex (by omega) h'.next.next]
  congr 2
  simp only [List.length_append,List.length_cons,List.length_nil]
  omega
 rename_i n4
 rw [if_neg n4] at *
 split at h
 ·rename_i e
  have hc1:c<128:=by omega
  rw [if_pos e]
  rw [bk_enc1 c hc1] at h ⊢
  refine charS_esc start h ?_
  rw [escS_one h.next]
  rcases hq with rfl | rfl <;> rcases e with rfl | rfl <;> rfl
 ·rename_i n5
  rw [if_neg n5]
  obtain ⟨b,r,hb,hh⟩:=bk_head c hc
  have h2:Sfx s p (b::(r++L)):=by rw [hb] at h;exact h
  have hd:=h.decode
  rw [bk_dec c hc] at hd
  unfold charS
  have b1:¬ b.toNat=10:=by omega
  have b2:¬ b.toNat=92:=by omega
  rw [if_neg (by rw [h2.endL];simpa [hdEnd] using b1),if_neg (by rw [h2.inB];simp only [hdIn,decide_eq_true_eq];omega),hd]
  simp only
  rw [if_pos]
  unfold plainB
  simp only [Bool.and_eq_true,Bool.or_eq_true,decide_eq_true_eq]
  refine ⟨by omega,?_⟩
  by_cases e:c=65533
  ·subst e
   right
   rw [bk_enc3 65533 (by omega)]
   decide
  ·exact Or.inl e
theorem chW_head (q c:Nat) (hq:q=39∨q=34) (hc:okC c):∃ b r,chW q c=b::r/\¬ b.toNat=q:=by
 have n92:∀ r:List UInt8,∃ b r',(92::r:List UInt8)=b::r'/\¬ b.toNat=q:=fun r=>⟨92,r,rfl,by rcases hq with rfl | rfl <;> decide⟩
 unfold chW
 split
 ·exact n92 _
 split
 ·exact n92 _
 split
 ·exact n92 _
 split
 ·exact n92 _
 split
 ·exact n92 _
 ·rename_i n5
  obtain ⟨b,r,hb,hh⟩:=bk_head c hc
  exact ⟨b,r,hb,by omega⟩
def Gap (R:List UInt8):Prop:=R=[]∨∃ r,R=32::r
theorem Gap.no {R:List UInt8}(h:Gap R) {lo hi:Int}(hn:¬ (lo<=32/\32<=hi)):hdIn R lo hi=false:=by
 rcases h with rfl |⟨r,rfl⟩
 ·rfl
 ·exact decide_eq_false hn
theorem Gap.dig {R:List UInt8}(h:Gap R):hdDig R=false:=h.no (by decide)
theorem arr_of (L:List UInt8):(⟨L.toArray⟩:ByteArray).data.toList=L:=by simp
theorem toList_of (L:List UInt8):(⟨L.toArray⟩:ByteArray).toList=L:=by rw [ByteArray.toList_eq]
theorem fls {b:Bool}(h:b=false):¬ b=true:=by rw [h];decide
theorem tokenS_sfx {s:ByteArray}{i:Nat}{L:List UInt8}(h:Sfx s i L):tokenS s i=if hdIn L 95 95=true then numS s i (i+1) else if hdDig L=true then numS s i (i+1) else if hdLet L=true then wordS s i (i+1)
  else if hdIn L 39 39=true then clitS s i (i+1) else if hdIn L 34 34=true then strS s i (i+1) else if (hdIn L 10 10 || hdIn L 59 59)=true then .tok 6 0 ⟨#[]⟩ (i+1) else symS s i:=by
 unfold tokenS
 rw [h.inB,h.isDig,h.isLet,h.inB,h.inB,h.inB,h.inB]
/-! ### Numbers -/
theorem dg_dig (m:Nat):∀ c∈Num.dg m,48<=c.toNat/\c.toNat<=57:=by
 induction m using Nat.strongRecOn with
 | ind m ih =>
  by_cases h:m<10
  ·rw [Num.dg_last h]
   intro c hc
   rw [List.mem_singleton] at hc
   subst hc
   rw [Num.dig_nat];omega
  ·rw [Num.dg_more h]
   intro c hc
   rcases List.mem_append.1 hc with q | q
   ·exact ih (m / 10) (by omega) c q
   ·rw [List.mem_singleton] at q
    subst q
    rw [Num.dig_nat];omega
/-! ### Words and symbols -/
theorem Named.mem {t:ByteArray}(h:Named t):∀ c∈t.data.toList,lowC c∨digC c:=by
 intro c hc
 obtain ⟨i,hi,rfl⟩:=List.getElem_of_mem hc
 exact h.all i (by rw [Lib.size_eq];exact hi)
def okSym (l:List UInt8):Bool:=match l with
 | []=>false
 | c::r=>if hdLet l then resB l&&r.all (fun x=>hdLD [x]) else
  !(hdIn l 95 95)&&!(hdDig l)&&!(hdIn l 39 39)&&!(hdIn l 34 34)&&!(hdIn l 10 10 || hdIn l 59 59)&&(decide (r.length=1) ||(decide (r=[])&&!(signB [c,32] || resB [c,32])))&&!(c==32 || c==9 || c==13 || c==35)
theorem okSym_all:(signWords++resWords).all okSym=true:=by decide +kernel
theorem okSym_of {l:List UInt8}(h:(signB l || resB l)=true):okSym l=true:=by
 refine List.all_eq_true.1 okSym_all l ?_
 rw [Bool.or_eq_true] at h
 rw [List.mem_append]
 rcases h with h | h
 ·obtain ⟨c,h1,h2⟩:=List.any_eq_true.1 h
  rw [eq_of_beq h2];exact Or.inl h1
 ·obtain ⟨c,h1,h2⟩:=List.any_eq_true.1 h
  rw [eq_of_beq h2];exact Or.inr h1
/-! ### Literals -/
theorem litGo_one {q c:Nat}(hc:okC c):litW q (Utf8.encode (c:Int))=Lib.encodeRune (q:Int)++chW q c++Lib.encodeRune (q:Int):=by
 have hd:=bk_dec c hc []
 have he:=bk_enc c hc
 rw [List.append_nil] at hd
 obtain ⟨b,r,hb,-⟩:=bk_head c hc
 have hz:(Utf8.encode (c:Int)).size =(Lib.encodeRune (c:Int)).length:=by rw [he,Lib.size_eq,arr_of]
 have hpos:0 <(Lib.encodeRune (c:Int)).length:=by rw [hb];simp
 have hdd:Utf8.decode (Utf8.encode (c:Int)) 0 =(c,(Utf8.encode (c:Int)).size):=by
  rw [hz,<- hd,he];rfl
 rw [<- hz] at hpos
 generalize Utf8.encode (c:Int)=s at hdd hpos ⊢
 have key:litGo q s (s.size+1) 0=chW q c:=by
  obtain ⟨f,hf⟩:∃ f,s.size=f+1:=⟨s.size - 1,by omega⟩
  rw [litGo,if_pos hpos,hdd,hf]
  simp only
  rw [litGo,if_neg (by omega),List.append_nil]
 rw [litW,key]
theorem char_back {s:ByteArray}{i c:Nat}{R:List UInt8}(hc:okC c) (h:Sfx s i (39::(chW 39 c++39::R))):tokenS s i=.tok 2 (c:Int) ⟨#[]⟩ (i+(39::(chW 39 c++[39])).length):=by
 obtain ⟨b,r,e,hb⟩:=chW_head 39 c (Or.inl rfl) hc
 have h1:=h.next
 have hx:=charS_chW i (Or.inl rfl) hc h1
 have h2:=h1.app
 rw [tokenS_sfx h,if_neg (by exact fls rfl),if_neg (by exact fls rfl),if_neg (by exact fls rfl),if_pos (by rfl)]
 unfold clitS
 rw [if_neg (by rw [h1.inB,e];simp only [List.cons_append,hdIn,decide_eq_true_eq];omega),hx]
 rw [clitEnd,if_pos (by rw [h2.inB];rfl)]
 congr 1
 simp only [List.length_cons,List.length_append,List.length_nil]
 omega
theorem strGo_run {s:ByteArray}{st:Nat}:∀ (cs:List Nat) (i f:Nat) (acc:List UInt8) {R:List UInt8},(∀ c∈cs,okC c)->Sfx s i (cs.flatMap (chW 34)++34::R)->cs.length<f ->
  strGo s st f i acc=.tok 3 0 ⟨(acc++cs.flatMap (fun c:Nat=>Lib.encodeRune (c:Int))).toArray⟩ (i+(cs.flatMap (chW 34)).length+1)
 | [],i,f,acc,R,hc,h,hf=>by
  obtain ⟨g,rfl⟩:∃ g,f=g+1:=⟨f - 1,by simp at hf;omega⟩
  have h':Sfx s i (34::R):=h
  rw [strGo,if_pos (by rw [h'.inB];rfl)]
  simp
 | c::cs,i,f,acc,R,hc,h,hf=>by
  rw [List.length_cons] at hf
  obtain ⟨g,rfl⟩:∃ g,f=g+1:=⟨f - 1,by omega⟩
  have h':Sfx s i (chW 34 c++(cs.flatMap (chW 34)++34::R)):=by rw [List.flatMap_cons,List.append_assoc] at h;exact h
  obtain ⟨b,r,e,hb⟩:=chW_head 34 c (Or.inr rfl) (hc c (by simp))
  rw [strGo,if_neg (by rw [h'.inB,e];simp only [List.cons_append,hdIn,decide_eq_true_eq];omega),charS_chW st (Or.inr rfl) (hc c (by simp)) h']
  simp only
  rw [strGo_run cs _ g _ (fun x hx=>hc x (List.mem_cons_of_mem _ hx)) h'.app (by omega)]
  rw [List.flatMap_cons,List.flatMap_cons,List.append_assoc,List.length_append,Nat.add_assoc i]
theorem str_back {s:ByteArray}{i:Nat}{cs:List Nat}{R:List UInt8}(hc:∀ c∈cs,okC c) (hl:cs.length<=(cs.flatMap (chW 34)).length) (h:Sfx s i (34::(cs.flatMap (chW 34)++34::R))) :
  tokenS s i=.tok 3 0 ⟨(cs.flatMap (fun c:Nat=>Lib.encodeRune (c:Int))).toArray⟩ (i+(34::(cs.flatMap (chW 34)++[34])).length):=by
 have h1:=h.next
 have hz:=h1.len
 rw [List.length_append,List.length_cons] at hz
 rw [tokenS_sfx h,if_neg (by exact fls rfl),if_neg (by exact fls rfl),if_neg (by exact fls rfl),if_neg (by exact fls rfl),if_pos (by rfl)]
 unfold strS
 rw [strGo_run cs (i+1) _ [] hc h1 (by omega)]
 congr 1
 simp only [List.length_cons,List.length_append,List.length_nil]
 omega
theorem chW_pos {q:Nat}(hq:q=39∨q=34):∀ {cs:List Nat},(∀ c∈cs,okC c)->cs.length<=(cs.flatMap (chW q)).length
 | [],_=>Nat.zero_le _
 | c::cs,h=>by
  have:=chW_pos hq (cs:=cs) (fun x hx=>h x (List.mem_cons_of_mem _ hx))
  obtain ⟨b,r,e,-⟩:=chW_head q c hq (h c (by simp))
  rw [List.flatMap_cons,List.length_append,e,List.length_cons,List.length_cons]
  omega
inductive Gd:Int->Int->ByteArray->Prop
 | num (n:Int):Num.fitsB n=true->Gd 1 n ⟨#[]⟩
 | chr (c:Nat):okC c->Gd 2 (c:Int) ⟨#[]⟩
 | str (cs:List Nat):(∀ c∈cs,okC c)->Gd 3 0 ⟨(cs.flatMap (fun c:Nat=>Lib.encodeRune (c:Int))).toArray⟩
 | name (t:ByteArray):Named t->Gd 4 0 t
 | sym (t:ByteArray):(signB t.data.toList || resB t.data.toList)=true->Gd 5 0 t
 | brk:Gd 6 0 ⟨#[]⟩
/-! ### How a token is written -/
theorem lit_enc (q:Nat) {s:ByteArray}:∀ (cs:List Nat) (p f:Nat),(∀ c∈cs,okC c)->Sfx s p (cs.flatMap (fun c:Nat=>Lib.encodeRune (c:Int)))->cs.length<f->litGo q s f p=cs.flatMap (chW q)
 | [],p,f,hc,h,hf=>by
  obtain ⟨g,rfl⟩:∃ g,f=g+1:=⟨f - 1,by simp at hf;omega⟩
  have hz:=h.len
  rw [litGo,if_neg (by simp at hz;omega)]
  rfl
 | c::cs,p,f,hc,h,hf=>by
  rw [List.length_cons] at hf
  obtain ⟨g,rfl⟩:∃ g,f=g+1:=⟨f - 1,by omega⟩
  rw [List.flatMap_cons] at h
  obtain ⟨b,r,e,-⟩:=bk_head c (hc c (by simp))
  have hlt:p<s.size:=by have:=h.len;rw [e] at this;simp at this;omega
  have hd:=h.decode
  rw [bk_dec c (hc c (by simp))] at hd
  rw [litGo,if_pos hlt,hd,List.flatMap_cons]
  simp only
  rw [lit_enc q cs _ g (fun x hx=>hc x (List.mem_cons_of_mem _ hx)) h.app (by omega)]
theorem valid_enc:∀ (cs:List Nat),(∀ c∈cs,okC c)->Lib.validD (cs.flatMap (fun c:Nat=>Lib.encodeRune (c:Int)))=true
 | [],_=>Lib.validD_nil
 | c::cs,hc=>by
  have ho:=hc c (by simp)
  obtain ⟨b,r,e,-⟩:=bk_head c ho
  rw [List.flatMap_cons,Lib.validD_step _ (by rw [e];simp),bk_dec c ho]
  simp only
  rw [if_neg,List.drop_left]
  ·exact valid_enc cs (fun x hx=>hc x (List.mem_cons_of_mem _ hx))
  ·rintro ⟨q1,q2⟩
   subst q1
   rw [bk_enc3 65533 (by omega)] at q2
   simp at q2
theorem enc_many:∀ (cs:List Nat),(∀ c∈cs,okC c)->cs.length<=(cs.flatMap (fun c:Nat=>Lib.encodeRune (c:Int))).length/\(cs.flatMap (fun c:Nat=>Lib.encodeRune (c:Int))).length<=4*cs.length
 | [],_=>⟨Nat.le_refl _,Nat.zero_le _⟩
 | c::cs,hc=>by
  obtain ⟨b,r,e,-⟩:=bk_head c (hc c (by simp))
  have h1:=enc_many cs (fun x hx=>hc x (List.mem_cons_of_mem _ hx))
  have h2:=enc_le' (c:Int)
  have h3:0 <(Lib.encodeRune (c:Int)).length:=by rw [e];simp
  rw [List.flatMap_cons,List.length_append,List.length_cons]
  omega
theorem one_num {n:Int}(h:Num.fitsB n=true) (t:ByteArray):oneW 1 n t=Num.shL n:=by
 unfold oneW
 rw [if_pos rfl,if_pos h,Num.shS,arr_of]
theorem one_chr {c:Nat}(h:okC c) (t:ByteArray):oneW 2 (c:Int) t=39::(chW 39 c++[39]):=by
 have e:isChar (c:Int)=true:=by
  unfold okC at h
  simp only [isChar,Lib.validRune,Bool.and_eq_true,decide_eq_true_eq]
  omega
 unfold oneW
 rw [if_neg (by decide),if_pos rfl,if_pos e,litGo_one h,bk_enc1 39 (by decide)]
 rfl
theorem one_str {cs:List Nat}(h:∀ c∈cs,okC c) (n:Int):oneW 3 n ⟨(cs.flatMap (fun c:Nat=>Lib.encodeRune (c:Int))).toArray⟩=34::(cs.flatMap (chW 34)++[34]):=by
 have hz:=(enc_many cs h).1
 unfold oneW
 rw [if_neg (by decide),if_neg (by decide),if_pos rfl,arr_of,if_pos (valid_enc cs h),litW,lit_enc 34 cs 0 _ h ⟨Nat.zero_le _,by rw [List.drop_zero,arr_of]⟩ (by rw [Lib.size_eq,arr_of];omega),bk_enc1 34 (by decide)]
 rfl
theorem one_text (k:Int) (h:k=4∨k=5) (n:Int) (t:ByteArray):oneW k n t=t.data.toList:=by
 unfold oneW
 rw [if_neg (by omega),if_neg (by omega),if_neg (by omega),if_pos h]
theorem one_brk (n:Int) (t:ByteArray):oneW 6 n t=[59]:=by
 unfold oneW
 rw [if_neg (by decide),if_neg (by decide),if_neg (by decide),if_neg (by decide),if_pos rfl]
/-! ### What it begins with -/
def hdOk (L:List UInt8):Bool:=match L with
 | []=>false
 | c::_=>!(c==32 || c==9 || c==13 || c==35)
theorem hdOk_app {A R:List UInt8}(h:hdOk A=true):hdOk (A++R)=true:=by
 cases A with
 | nil=>cases h
 | cons c A=>exact h
theorem hdOk_ge {c:UInt8}{L:List UInt8}(h:36<=c.toNat∨c.toNat=34):hdOk (c::L)=true:=by
 simp only [hdOk,Bool.not_eq_true',Bool.or_eq_false_iff,beq_eq_false_iff_ne]
 refine ⟨⟨⟨?_,?_⟩,?_⟩,?_⟩ <;>(rintro rfl;revert h;decide)
theorem hdOk_no {L:List UInt8}(h:hdOk L=true):L≠[]/\hdIn L 35 35=false/\hdIn L 32 32=false/\hdIn L 9 9=false/\hdIn L 13 13=false:=by
 cases L with
 | nil=>cases h
 | cons c L =>
  simp only [hdOk,Bool.not_eq_true',Bool.or_eq_false_iff,beq_eq_false_iff_ne] at h
  obtain ⟨⟨⟨h1,h2⟩,h3⟩,h4⟩:=h
  have go:∀ k:UInt8,c≠k->hdIn (c::L) (k.toNat:Int) (k.toNat:Int)=false:=fun k hk=>by
   refine decide_eq_false fun q=>hk (UInt8.toNat_inj.1 ?_)
   omega
  exact ⟨by simp,go 35 h4,go 32 h1,go 9 h2,go 13 h3⟩
theorem Named.head {t:ByteArray}(h:Named t):∃ x D,t.data.toList=x::D/\lowC x:=by
 have hp:=h.pos
 have q:=h.first hp
 have e2:t[0]=t.data.toList[0]'(by rw [<- Lib.size_eq];exact hp):=rfl
 rw [e2] at q
 rw [Lib.size_eq] at hp
 cases hl:t.data.toList with
 | nil=>rw [hl] at hp;simp at hp
 | cons x D =>
  simp only [hl,List.getElem_cons_zero] at q
  exact ⟨x,D,rfl,q⟩
theorem one_head {k n:Int}{t:ByteArray}(hg:Gd k n t):hdOk (oneW k n t)=true:=by
 cases hg with
 | num n hf =>
  rw [one_num hf]
  by_cases hn:n<0
  ·rw [Num.shL_neg hn];exact hdOk_ge (by decide)
  ·rw [Num.shL_pos hn]
   have hd:=dg_dig n.natAbs
   obtain ⟨c,r,e,hc⟩:=Num.dg_head n.natAbs
   rw [e] at hd ⊢
   have h1:=hd c (by simp)
   exact hdOk_ge (by omega)
 | chr c hc=>rw [one_chr hc];exact hdOk_ge (by decide)
 | str cs hc=>rw [one_str hc];exact hdOk_ge (by decide)
 | name t hN =>
  rw [one_text 4 (Or.inl rfl)]
  obtain ⟨x,D,e,hx⟩:=hN.head
  unfold lowC at hx
  rw [e];exact hdOk_ge (by omega)
 | sym t hS =>
  rw [one_text 5 (Or.inr rfl)]
  have hk:=okSym_of hS
  cases hl:t.data.toList with
  | nil=>rw [hl] at hk;cases hk
  | cons c r =>
   rw [hl] at hk
   simp only [okSym] at hk
   by_cases hle:hdLet (c::r)=true
   ·simp only [hdLet,hdIn,Bool.or_eq_true,decide_eq_true_eq] at hle
    exact hdOk_ge (by omega)
   ·rw [if_neg hle] at hk
    simp only [Bool.and_eq_true] at hk
    exact hk.2
 | brk=>rw [one_brk];exact hdOk_ge (by decide)
theorem sep_no {s:ByteArray}{i:Nat}{L:List UInt8}(h:Sfx s i L) (h1:hdIn L 35 35=false) (h2:hdIn L 32 32=false) (h3:hdIn L 9 9=false) (h4:hdIn L 13 13=false):sepTo s i=i:=by
 unfold sepTo
 refine manyTo_stop ?_
 rw [sepS_eq,h.inB,h.inB,h.inB,h.inB,h1,h2,h3,h4]
 rfl
theorem sep_end {s:ByteArray}{i:Nat}(h:Sfx s i []):sepTo s i=i:=sep_no h rfl rfl rfl rfl
theorem sep_ok {s:ByteArray}{i:Nat}{L:List UInt8}(h:Sfx s i L) (hk:hdOk L=true):sepTo s i=i:=by
 obtain ⟨-,h1,h2,h3,h4⟩:=hdOk_no hk
 exact sep_no h h1 h2 h3 h4
theorem sep_blank {s:ByteArray}{i:Nat}{L:List UInt8}(h:Sfx s i (32::L)) (hk:hdOk L=true):sepTo s i=i+1:=by
 have e:sepS s i =(true,i+1):=by
  rw [sepS_eq,h.inB,h.inB,h.inB,h.inB,if_neg (by exact fls rfl),if_pos (by rfl)]
 have h1:=sep_ok h.next hk
 unfold sepTo at h1 ⊢
 rw [manyTo_step (goes_sep s) h.le (by rw [e]),e]
 exact h1
/-! ### The tokens of a text are such -/
theorem shL_len {n:Int}(h:Num.fitsB n=true):(Num.shL n).length<=20:=by
 have hb:=Num.fits_def.1 h
 have:=Num.dg_len 18 n.natAbs (by omega)
 by_cases hn:n<0
 ·rw [Num.shL_neg hn,List.length_cons];omega
 ·rw [Num.shL_pos hn];omega
/-! ### The whole text -/
def key (x:T5):Int × Int × ByteArray:=(x.k,x.n,x.t)
end Go.Proofs.YtalkinnbfglkdaaGreatDoor.Tok
