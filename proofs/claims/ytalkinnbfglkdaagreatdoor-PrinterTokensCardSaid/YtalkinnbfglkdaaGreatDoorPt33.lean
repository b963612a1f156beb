/-
  Layer 8: strconv.ParseInt to base 16, for at most six hexadecimal digits, and for none.
  Layer 8: the scanner's escapes: whatever the text. (Written by wip/gen/token-esc.py.)
-/
import Derived.Test.YtalkinnbfglkdaaGreatDoorPt28
import Derived.Lib.Strings
import Derived.Lib.Walk
import Derived.Lib.ConvBytes
import Derived.Lib.AtoiAllMem
import Derived.Lib.AtoiErrMem
import Derived.Lib.IfaceNeq
import Derived.Lib.IfaceEq
import Derived.Lib.Hide
import Derived.Laws.Strings3
import Derived.Laws.Closers25
import Derived.Laws.Closers25b
import Derived.WalkKit
import Derived.BigCall
import Derived.BigGuard
import Derived.Test.YtalkinnbfglkdaaGreatDoorShelf
set_option maxHeartbeats 32000000
namespace Go.Proofs.YtalkinnbfglkdaaGreatDoor.Tok
open Go.RowKit
set_option linter.unusedVariables false
def hx (c:UInt8):Nat:=if c.toNat<=57 then c.toNat - 48 else c.toNat - 87
theorem hexV_snoc (l:List UInt8) (c:UInt8):hexV (l++[c])=16*hexV l+hx c:=by simp [hexV,hx,List.foldl_append]
abbrev HexC (c:UInt8):Prop:=(48<=c.toNat/\c.toNat<=57)∨(97<=c.toNat/\c.toNat<=102)
theorem hx_lt {c:UInt8}(h:HexC c):hx c<16:=by
 unfold hx HexC at *
 split <;> omega
theorem hexV_take {bs:List UInt8}{k:Nat}(hk:k<bs.length):hexV (bs.take (k+1))=16*hexV (bs.take k)+hx bs[k]:=by
 rw [List.take_succ_eq_append_getElem hk,hexV_snoc]
theorem hexV_lt {bs:List UInt8}(h:∀ c∈bs,HexC c):∀ k,k<=bs.length->hexV (bs.take k)<16 ^ k
 | 0,_=>by simp [hexV]
 | k+1,hk=>by
  rw [hexV_take (by omega),Nat.pow_succ]
  have:=hexV_lt h k (by omega)
  have:=hx_lt (h _ (List.getElem_mem (show k<bs.length by omega)))
  omega
theorem pow16 {k n:Nat}(h:k<=n):16 ^ k<=16 ^ n:=Nat.pow_le_pow_right (by decide) h
theorem low_same (c:Nat) (h:97<=c/\c<=102):bits .or .u8 (c:Int) 32 =(c:Int):=by
 obtain ⟨h1,h2⟩:=h
 have:c=97∨c=98∨c=99∨c=100∨c=101∨c=102:=by omega
 rcases this with rfl | rfl | rfl | rfl | rfl | rfl <;> first | rfl | decide | kernel_rfl
theorem lowerA (c:Nat) (h:97<=c/\c<=102) (w:World):Calls Tryz.prog 152 #[.int .u8 (c:Int)] w fun e w'=>e=.returned (.int .u8 (c:Int))/\w'=w:=by
 have hb:=low_same c h
 have hlt:c<256:=by omega
 go_enter Tryz.func152,Tryz.ntmps152
 go_wp2
 go_ret
 exact ⟨rfl,rfl⟩
set_option maxRecDepth 100000 in
theorem puint16 (t:ByteArray) (hne:t.size≠0) (h6:t.size<=6) (hx6:∀ c∈t.data.toList,HexC c) (w:World) :
  Calls Tryz.prog 138 #[.string t,.int .i64 16,.int .i64 32] w fun e w'=>e=.returned (.tuple #[.int .u64 (hexV t.data.toList:Int),.nilIface])/\w'=Lib.bytesWorld w 5 t:=by
 have hemp:t.toList.isEmpty=false:=by
  rw [<- decide_eq_emptyBytes]
  exact decide_eq_false (fun h=>hne (by rw [h];rfl))
 have hcv:=Lib.run_convert_string_bytes (P:=Tryz.prog) w 9 61 5 t (u:=.string) Tryz.underlying9 Tryz.underlying61 Tryz.underlying5
 have hB:∀ j,j<t.size->(Lib.bytesWorld w 5 t).cell? ⟨w.heap.size,j,none⟩=some (.int .u8 (t.data.toList.getD j 0).toNat):=fun j hj=>Lib.bytesWorld_cell w 5 t j hj
 obtain ⟨W1,hW1⟩:∃ W1,W1=Lib.bytesWorld w 5 t:=⟨_,rfl⟩
 rw [<- hW1] at hcv hB ⊢
 clear hW1
 obtain ⟨bs,hL⟩:∃ bs,bs=t.data.toList:=⟨_,rfl⟩
 have hLn:bs.length=t.size:=by rw [hL,Lib.size_eq]
 rw [<- hL] at hB hx6 ⊢
 clear hL
 go_enter Tryz.func138,Tryz.ntmps138
 go_wp2
 go_loop [12,13,101] (fun vu vn vi=>∃ (k:Nat) (a:Int),vu=.bool false/\vn=.int .u64 a/\vi=.int .i64 k/\k<=t.size/\Hid (a =(hexV (bs.take k):Int)))
  (fun _ _ vi=>t.size - (intOf vi).toNat)
 case atStart=>exact ⟨0,0,rfl,rfl,rfl,by omega,by simp [Hid,hexV]⟩
 case round =>
  obtain ⟨k,a,rfl,rfl,rfl,hk,hh⟩:=hrel
  have ha:=hh.out
  clear hh
  by_cases hkn:k<t.size
  ·have hc:=hB k hkn
   have hget:bs.getD k 0=bs[k]'(by omega):=by simp [List.getD,List.getElem?_eq_getElem (show k<bs.length by omega)]
   rw [hget] at hc
   have hlt:=hexV_lt hx6 k (by omega)
   have hp:=pow16 (show k<=5 by omega)
   have hn:=hexV_take (bs:=bs) (k:=k) (by omega)
   have hC:=hx6 _ (List.getElem_mem (show k<bs.length by omega))
   generalize bs[k]'(by omega)=c at hc hn hC
   have a0:0<=a:=by omega
   have a1:a<1048576:=by
    have:(16:Nat) ^ 5=1048576:=by decide
    omega
   have hc256:c.toNat<256:=c.toNat_lt
   clear hB hget hlt hp
   by_cases hdig:48<=c.toNat/\c.toNat<=57
   ·obtain ⟨hd0,hd1⟩:=hdig
    have HN:Hid (a*16+((c.toNat:Int) - 48) =(hexV (bs.take (k+1)):Int)):=Lib.hid (by rw [hn,ha];simp only [hx,if_pos hd1];omega)
    clear hn ha hC
    go_wp2
    refine ⟨⟨k+1,a*16+((c.toNat:Int) - 48),rfl,(by first | rfl |(congr 1;omega)),(by first | rfl |(congr 1;omega)),by omega,HN⟩,by simp [intOf];omega⟩
   ·have hL:97<=c.toNat/\c.toNat<=102:=by
     rcases hC with h | h
     ·exact absurd h hdig
     ·exact h
    have HN:Hid (a*16+((c.toNat:Int) - 97+10) =(hexV (bs.take (k+1)):Int)):=Lib.hid (by rw [hn,ha];simp only [hx,if_neg (show ¬ c.toNat<=57 by omega)];omega)
    obtain ⟨hl0,hl1⟩:=hL
    clear hn ha hC hdig
    go_wp2_with (go_at_call 152;with_reducible refine (lowerA c.toNat ⟨hl0,hl1⟩ _).mono ?_;rintro e w' ⟨rfl,rfl⟩)
    refine ⟨⟨k+1,a*16+((c.toNat:Int) - 97+10),rfl,(by first | rfl |(congr 1;omega)),(by first | rfl |(congr 1;omega)),by omega,HN⟩,by simp [intOf];omega⟩
  ·have hkk:k=t.size:=by omega
   subst hkk
   rw [List.take_of_length_le (by omega)] at ha
   subst ha
   go_wp2
   go_ret2
   exact ⟨rfl,rfl⟩
set_option maxRecDepth 100000 in
theorem pint16 (s:ByteArray) (hne:s.size≠0) (h6:s.size<=6) (hx6:∀ c∈s.data.toList,HexC c) (w:World) :
  Calls Tryz.prog 125 #[.string s,.int .i64 16,.int .i64 32] w fun e w'=>e=.returned (.tuple #[.int .i64 (hexV s.data.toList:Int),.nilIface])/\w'=Lib.bytesWorld w 5 s:=by
 have hemp:s.toList.isEmpty=false:=by
  rw [<- decide_eq_emptyBytes]
  exact decide_eq_false (fun h=>hne (by rw [h];rfl))
 have hpos:0<s.size:=by omega
 have hb:=hexV_lt hx6 s.size (Nat.le_of_eq (Lib.size_eq s))
 rw [List.take_of_length_le (Nat.le_of_eq (Lib.size_eq s).symm)] at hb
 have hp:=pow16 h6
 have hU:=puint16 s hne h6 hx6 w
 obtain ⟨a,ha⟩:∃ a:Int,a =(hexV s.data.toList:Int):=⟨_,rfl⟩
 rw [<- ha] at hU ⊢
 have a0:0<=a:=by omega
 have a1:a<=16777216:=by
  have:(16:Nat) ^ 6=16777216:=by decide
  omega
 obtain ⟨c0,hs0⟩:∃ c0,s[0]'hpos=c0:=⟨_,rfl⟩
 have hC:HexC c0:=hx6 _ (by rw [<- hs0];exact List.getElem_mem (l:=s.data.toList) (n:=0) (by rw [<- Lib.size_eq];exact hpos))
 have g0:¬ c0=43:=fun h=>by subst h;exact absurd hC (by decide)
 have g1:¬ c0=45:=fun h=>by subst h;exact absurd hC (by decide)
 have k0:c0.toNat≠43:=by unfold HexC at hC;omega
 have k1:c0.toNat≠45:=by unfold HexC at hC;omega
 clear ha hb hp hC hx6
 go_enter Tryz.func125,Tryz.ntmps125
 go_wp2_with (go_at_call 138;with_reducible refine hU.mono ?_;rintro e w1 ⟨rfl,rfl⟩)
 go_wp2
 go_ret2
 exact ⟨rfl,rfl⟩
set_option maxRecDepth 100000 in
theorem pintE (w:World):Calls Tryz.prog 125 #[.string ⟨#[]⟩,.int .i64 16,.int .i64 32] w fun e w'=>e=.returned (.tuple #[.int .i64 0,(.iface 187 (.int .i64 2))])/\w'=w:=by
 go_enter Tryz.func125,Tryz.ntmps125
 go_wp2
 go_ret2
 exact ⟨rfl,rfl⟩
set_option maxRecDepth 100000 in
theorem cloneE (w:World):Calls Tryz.prog 154 #[.string ⟨#[]⟩] w fun e w'=>e=.returned (.string ⟨#[]⟩)/\w'=w:=by
 go_enter Tryz.func154,Tryz.ntmps154
 go_wp2
 go_ret
 exact ⟨rfl,rfl⟩
set_option maxRecDepth 100000 in
theorem synE (fn:ByteArray) (w:World) (hE:ES w):Calls Tryz.prog 139 #[.string fn,.string ⟨#[]⟩] w fun e w'=>(∃ N,e=.returned (.pointer (some ⟨N,0,none⟩)))/\Below w.heap.size w w':=by
 obtain ⟨te,pe,hv⟩:=hE
 have hG:6<w.heap.size:=World.block_lt_of_cell? w _ hv
 have hvd:w.drew.cell? ⟨6,0,none⟩=some (.iface te pe):=hv
 go_enter Tryz.func139,Tryz.ntmps139
 go_wp2
 go_region_law ((go_simp;(with_reducible refine (cloneE _).mono ?_);rintro e w2 ⟨rfl,rfl⟩))
 all_goals go_wp2_with fail
 all_goals go_ret
 all_goals exact ⟨⟨_,rfl⟩,by go_grown⟩
set_option maxRecDepth 100000 in
theorem toErrE (fn:ByteArray) (w:World) (hE:ES w):Calls Tryz.prog 126 #[.string fn,.string ⟨#[]⟩,.int .i64 16,.int .i64 32,.iface 187 (.int .i64 2)] w fun e w'=>(∃ N,e=.returned (.iface 190 (.pointer (some ⟨N,0,none⟩))))/\Below w.heap.size w w':=by
 have heq:∀ W,(binOp .eql 70 (.iface 187 (.int .i64 2)) (.iface 187 (.int .i64 2))).run Tryz.prog W=.ok (.bool true) W:=fun W=>Lib.run_eql_iface_int W 2 2 Tryz.underlying70 (by kernel_rfl) Tryz.underlying187
 go_enter Tryz.func126,Tryz.ntmps126
 go_wp2_with (go_at_call 139;with_reducible refine (synE fn _ hE).mono ?_;rintro e w1 ⟨⟨N,rfl⟩,b1⟩)
 go_wp2
 go_ret
 exact ⟨⟨N,rfl⟩,b1⟩
set_option maxRecDepth 100000 in
theorem parse16 (s:ByteArray) (hne:s.size≠0) (h6:s.size<=6) (hx6:∀ c∈s.data.toList,HexC c) (w:World) :
  Calls Tryz.prog 111 #[.string s,.int .i64 16,.int .i64 32] w fun e w'=>e=.returned (.tuple #[.int .i64 (hexV s.data.toList:Int),.nilIface])/\Below w.heap.size w w':=by
 have hU:=pint16 s hne h6 hx6 w
 have hB:=Lib.bytesWorld_below w 5 s
 generalize Lib.bytesWorld w 5 s=W at hU hB
 generalize (hexV s.data.toList:Int)=a at hU ⊢
 go_enter Tryz.func111,Tryz.ntmps111
 go_wp2_with (go_at_call 125;with_reducible refine hU.mono ?_;rintro e w1 ⟨rfl,rfl⟩)
 go_wp2
 go_ret2
 exact ⟨rfl,hB⟩
set_option maxRecDepth 100000 in
theorem parseE (w:World) (hE:ES w) :
  Calls Tryz.prog 111 #[.string ⟨#[]⟩,.int .i64 16,.int .i64 32] w fun e w'=>(∃ N,e=.returned (.tuple #[.int .i64 0,.iface 190 (.pointer (some ⟨N,0,none⟩))]))/\Below w.heap.size w w':=by
 go_enter Tryz.func111,Tryz.ntmps111
 go_wp2_with (first
  |(go_at_call 125;with_reducible refine (pintE w).mono ?_;rintro e w1 ⟨rfl,rfl⟩)
  |(go_at_call 126;with_reducible refine (toErrE _ _ hE).mono ?_;rintro e w2 ⟨⟨N,rfl⟩,b2⟩))
 go_wp2
 go_ret2
 exact ⟨⟨N,rfl⟩,b2⟩
set_option linter.unusedSimpArgs false
theorem Tabs.es {w:World}(h:Tabs w):ES w:=h.2
theorem many_every {p:Nat->Bool}:∀ (f i k:Nat),i<=k->k<manyTo (one p) f i->p k=true
 | 0,i,k,h1,h2=>by rw [manyTo] at h2;omega
 | f+1,i,k,h1,h2=>by
  rw [manyTo] at h2
  split at h2
  ·rename_i ht
   simp only [one] at ht h2
   rw [ht,adv_t] at h2
   by_cases hk:k=i
   ·rw [hk];exact ht
   ·exact many_every f (i+1) k (by omega) h2
  ·omega
theorem hexC_of {s:ByteArray}{k:Nat}(h:isHex s k=true) (hk:k<s.data.toList.length):HexC s.data.toList[k]:=by
 have hlt:=isHex_lt h
 have e:s.data.toList[k]=s[k]:=rfl
 rw [e]
 simp only [isHex,isDig,inB,hlt,dite_true,Bool.or_eq_true,decide_eq_true_eq] at h
 unfold HexC
 omega
theorem hexC_extract {s:ByteArray}{a m:Nat}(h:∀ k,a<=k->k<m->isHex s k=true):∀ c∈(s.extract a m).data.toList,HexC c:=by
 intro c hc
 rw [extract_list] at hc
 obtain ⟨k,hk,rfl⟩:=List.getElem_of_mem hc
 simp only [List.length_take,List.length_drop] at hk
 rw [List.getElem_take,List.getElem_drop]
 exact hexC_of (h _ (by omega) (by omega)) _
theorem empty_of {t:ByteArray}(h:t.size=0):t =⟨#[]⟩:=by
 obtain ⟨⟨l⟩⟩:=t
 cases l with
 | nil=>rfl
 | cons a l=>simp [ByteArray.size] at h
@[reducible] def EscPost (s:ByteArray) (b:Nat) (w:World) (r:Option (Nat × Nat)) (e:Ending) (w':World):Prop:=∃ (c0:Int) (j:Nat),e=.returned (.tuple #[.int .i32 c0,.bool r.isSome])/\j<=s.size/\Sc w' b s j/\But b w w'/\(∀ c k,r=some (c,k)->c0 =(c:Int)/\j=k)
set_option maxRecDepth 100000 in
theorem codePointQ (s:ByteArray) (hs:s.size<=65536) (w:World) (b i:Nat) (hi':i<=s.size) (hb2:6<b) (hT:Tabs w) (h:Sc w b s i) :
  Calls Tryz.prog 88 #[.pointer (some ⟨b,0,none⟩)] w fun e w'=>EscPost s b w (cpS s i) e w':=by
 have c1:=nextQ s hs 123 (by decide) w b i hi' h
 cases hA:inB s i 123 123
 ·have hS:cpS s i=none:=by unfold cpS;rw [if_neg (by rw [hA];decide)]
  simp only [hA,adv_f] at c1
  rw [hS]
  go_enter Tryz.func88,Tryz.ntmps88
  go_wp2_with (go_at_call 22;with_reducible refine c1.mono ?_;rintro e w1 ⟨rfl,h1,b1⟩)
  go_ret2
  exact ⟨0,i,rfl,hi',h1,b1,fun c k hk=>(by cases hk)⟩
 ·simp only [hA,adv_t] at c1
  have hlt:=inB_lt hA
  obtain ⟨m,hm⟩:∃ m,Hid (manyTo (one (isHex s)) (s.size - (i+1)) (i+1)=m):=⟨_,rfl⟩
  have g:=many_le s (i+1) (by omega)
  have cM:=fun w h=>many_hexDigit s hs _ (hexDigitQ s hs) (goes_one fun i h=>isHex_lt h) w b (i+1) (by omega) h
  have hall:∀ k,i+1<=k->k<manyTo (one (isHex s)) (s.size - (i+1)) (i+1)->isHex s k=true:=fun k h1 h2=>many_every _ _ k h1 h2
  have hS:cpS s i=if inB s (manyTo (one (isHex s)) (s.size - (i+1)) (i+1)) 125 125=true/\manyTo (one (isHex s)) (s.size - (i+1)) (i+1) - (i+1)<=6/\i+1<manyTo (one (isHex s)) (s.size - (i+1)) (i+1) /\
    Lib.validRune (hexV (s.extract (i+1) (manyTo (one (isHex s)) (s.size - (i+1)) (i+1))).data.toList:Int)=true then
   some (hexV (s.extract (i+1) (manyTo (one (isHex s)) (s.size - (i+1)) (i+1))).data.toList,manyTo (one (isHex s)) (s.size - (i+1)) (i+1)+1)
  else none:=by unfold cpS;rw [if_pos hA]
  rw [hm.out] at g cM hall hS
  clear hm
  have htx:=hexC_extract hall
  have hts:(s.extract (i+1) m).size=m - (i+1):=by rw [ByteArray.size_extract];omega
  clear hall
  generalize s.extract (i+1) m=t at cM hS htx hts
  obtain ⟨g1,g2⟩:=g
  have c3:=fun w h=>nextQ s hs 125 (by decide) w b m g2 h
  cases hB:inB s m 125 125
  ·rw [if_neg (by rw [hB];exact fun h=>absurd h.1 (by decide))] at hS
   simp only [hB,adv_f] at c3
   rw [hS]
   go_enter Tryz.func88,Tryz.ntmps88
   go_wp2_with (first
    |(go_at_call 22;with_reducible refine c1.mono ?_;rintro e w1 ⟨rfl,h1,b1⟩)
    |(go_at_call 11;with_reducible refine (cM w1 h1).mono ?_;rintro e w2 ⟨rfl,h2,b2⟩)
    |(go_at_call 22;with_reducible refine (c3 w2 h2).mono ?_;rintro e w3 ⟨rfl,h3,b3⟩))
   go_ret2
   exact ⟨0,m,rfl,g2,h3,(b1.trans b2).trans b3,fun c k hk=>(by cases hk)⟩
  ·simp only [hB,adv_t] at c3
   have hm1:=inB_lt hB
   by_cases h6:m - (i+1)<=6
   ·have h6':¬ (6:Int) <(t.size:Int):=by omega
    by_cases h0:i+1<m
    ·have hlt6:=hexV_lt htx t.size (Nat.le_of_eq (Lib.size_eq t))
     rw [List.take_of_length_le (Nat.le_of_eq (Lib.size_eq t).symm)] at hlt6
     have hp:=pow16 (show t.size<=6 by omega)
     have hpar:=fun w=>parse16 t (by omega) (by omega) htx w
     have hV:(cpS s i).isSome=Lib.validRune (hexV t.data.toList:Int)/\∀ c k,cpS s i=some (c,k)->(hexV t.data.toList:Int) =(c:Int)/\m+1=k:=by
      rw [hS]
      cases hv:Lib.validRune (hexV t.data.toList:Int)
      ·rw [if_neg (fun h=>absurd h.2.2.2 (by decide))]
       exact ⟨rfl,fun c k hk=>(by cases hk)⟩
      ·rw [if_pos ⟨hB,h6,h0,rfl⟩]
       refine ⟨rfl,fun c k hk=>?_⟩
       simp only [Option.some.injEq,Prod.mk.injEq] at hk
       omega
     have hP:∀ (e:Ending) (w':World),(e=.returned (.tuple #[.int .i32 (hexV t.data.toList:Int),.bool (Lib.validRune (hexV t.data.toList:Int))])/\Sc w' b s (m+1)/\But b w w')->EscPost s b w (cpS s i) e w':=fun e w' ⟨he,hc,hb⟩=>⟨_,_,by rw [he,hV.1],by omega,hc,hb,hV.2⟩
     obtain ⟨a,ha⟩:∃ a:Int,a =(hexV t.data.toList:Int):=⟨_,rfl⟩
     rw [<- ha] at hP
     have a0:0<=a:=by omega
     have a1:a<=16777216:=by
      have:(16:Nat) ^ 6=16777216:=by decide
      omega
     rw [<- ha] at hpar
     clear hV hS htx hlt6 hp ha
     go_enter Tryz.func88,Tryz.ntmps88
     go_wp2_with (first
      |(go_at_call 22;with_reducible refine c1.mono ?_;rintro e w1 ⟨rfl,h1,b1⟩)
      |(go_at_call 11;with_reducible refine (cM w1 h1).mono ?_;rintro e w2 ⟨rfl,h2,b2⟩)
      |(go_at_call 22;with_reducible refine (c3 w2 h2).mono ?_;rintro e w3 ⟨rfl,h3,b3⟩)
      |(go_at_call 111;with_reducible refine (hpar _).mono ?_;rintro e w4 ⟨rfl,b4⟩;have h4:=h3.below b4)
      |(go_at_call 112;with_reducible refine (Tryz.utf8_ValidRune _ _).mono ?_;rintro e w5 ⟨rfl,rfl⟩))
     go_ret2
     exact hP _ _ ⟨rfl,h4,((b1.trans b2).trans b3).trans (But.of b4)⟩
    ·rw [if_neg (fun h=>h0 h.2.2.1)] at hS
     obtain rfl:=empty_of (show t.size=0 by omega)
     rw [hS]
     go_enter Tryz.func88,Tryz.ntmps88
     go_wp2_with (first
      |(go_at_call 22;with_reducible refine c1.mono ?_;rintro e w1 ⟨rfl,h1,b1⟩)
      |(go_at_call 11;with_reducible refine (cM w1 h1).mono ?_;rintro e w2 ⟨rfl,h2,b2⟩)
      |(go_at_call 22;with_reducible refine (c3 w2 h2).mono ?_;rintro e w3 ⟨rfl,h3,b3⟩)
      |(go_at_call 111;with_reducible refine (parseE _ (Tabs.es (Tabs.but hT ((b1.trans b2).trans b3) hb2))).mono ?_;rintro e w4 ⟨⟨N,rfl⟩,b4⟩;have h4:=h3.below b4))
     go_ret2
     exact ⟨0,m+1,rfl,by omega,h4,((b1.trans b2).trans b3).trans (But.of b4),fun c k hk=>(by cases hk)⟩
   ·have h6':(6:Int) <(t.size:Int):=by omega
    rw [if_neg (fun h=>h6 h.2.1)] at hS
    rw [hS]
    go_enter Tryz.func88,Tryz.ntmps88
    go_wp2_with (first
     |(go_at_call 22;with_reducible refine c1.mono ?_;rintro e w1 ⟨rfl,h1,b1⟩)
     |(go_at_call 11;with_reducible refine (cM w1 h1).mono ?_;rintro e w2 ⟨rfl,h2,b2⟩)
     |(go_at_call 22;with_reducible refine (c3 w2 h2).mono ?_;rintro e w3 ⟨rfl,h3,b3⟩))
    go_ret2
    exact ⟨0,m+1,rfl,by omega,h3,(b1.trans b2).trans b3,fun c k hk=>(by cases hk)⟩
theorem escF (s:ByteArray) (hs:s.size<=65536) {b i:Nat}(c:Int) (hc:0<=c) (hi':i<=s.size) (hf:inB s i c c=false) (w:World) (h:Sc w b s i) :
  Calls Tryz.prog 22 #[.pointer (some ⟨b,0,none⟩),.int .u8 c] w fun e w'=>e=.returned (.bool false)/\Sc w' b s i/\But b w w':=by
 have k:=nextQ s hs c hc w b i hi' h
 simp only [hf,adv_f] at k
 exact k
theorem escT (s:ByteArray) (hs:s.size<=65536) {b i:Nat}(c:Int) (hc:0<=c) (hi':i<=s.size) (hf:inB s i c c=true) (w:World) (h:Sc w b s i) :
  Calls Tryz.prog 22 #[.pointer (some ⟨b,0,none⟩),.int .u8 c] w fun e w'=>e=.returned (.bool true)/\Sc w' b s (i+1)/\But b w w':=by
 have k:=nextQ s hs c hc w b i hi' h
 simp only [hf,adv_t] at k
 exact k
theorem inB_byte {s:ByteArray}{i c:Nat}(h:inB s i c c=true):∃ hlt:i<s.size,s[i].toNat=c:=by
 have hlt:=inB_lt h
 simp only [inB,hlt,dite_true,decide_eq_true_eq] at h
 exact ⟨hlt,by omega⟩
set_option maxRecDepth 100000 in
theorem escape0 (s:ByteArray) (hs:s.size<=65536) (w0:World) (b i:Nat) (hi':i<=s.size) (hb2:6<b) (hT:Tabs w0) (h0:Sc w0 b s i) (hf0:inB s i 110 110=true) :
  Calls Tryz.prog 64 #[.pointer (some ⟨b,0,none⟩)] w0 fun e w'=>EscPost s b w0 (escS s i) e w':=by
 have c0:=escT s hs (b:=b) 110 (by decide) hi' hf0
 have hS:escS s i=some (10,i+1):=by unfold escS;rw [if_pos hf0]
 rw [hS]
 have B0:=But.refl b w0
 have hle:=inB_lt hf0
 go_enter Tryz.func64,Tryz.ntmps64
 go_wp2_with (first
  |(go_at_call 22;with_reducible refine (c0 w0 h0).mono ?_;rintro e1 w1 ⟨rfl,h1,b1⟩;have B1:=B0.trans b1))
 go_ret2
 exact ⟨10,i+1,rfl,by omega,h1,B1,fun c k hk=>by simp only [Option.some.injEq,Prod.mk.injEq] at hk;omega⟩
set_option maxRecDepth 100000 in
theorem escape1 (s:ByteArray) (hs:s.size<=65536) (w0:World) (b i:Nat) (hi':i<=s.size) (hb2:6<b) (hT:Tabs w0) (h0:Sc w0 b s i) (hf0:inB s i 110 110=false) (hf1:inB s i 116 116=true) :
  Calls Tryz.prog 64 #[.pointer (some ⟨b,0,none⟩)] w0 fun e w'=>EscPost s b w0 (escS s i) e w':=by
 have c0:=escF s hs (b:=b) 110 (by decide) hi' hf0
 have c1:=escT s hs (b:=b) 116 (by decide) hi' hf1
 have hS:escS s i=some (9,i+1):=by unfold escS;rw [if_neg (by rw [hf0];decide)];rw [if_pos hf1]
 rw [hS]
 have B0:=But.refl b w0
 have hle:=inB_lt hf1
 go_enter Tryz.func64,Tryz.ntmps64
 go_wp2_with (first
  |(go_at_call 22;with_reducible refine (c0 w0 h0).mono ?_;rintro e1 w1 ⟨rfl,h1,b1⟩;have B1:=B0.trans b1)
  |(go_at_call 22;with_reducible refine (c1 w1 h1).mono ?_;rintro e2 w2 ⟨rfl,h2,b2⟩;have B2:=B1.trans b2))
 go_ret2
 exact ⟨9,i+1,rfl,by omega,h2,B2,fun c k hk=>by simp only [Option.some.injEq,Prod.mk.injEq] at hk;omega⟩
set_option maxRecDepth 100000 in
theorem escape2 (s:ByteArray) (hs:s.size<=65536) (w0:World) (b i:Nat) (hi':i<=s.size) (hb2:6<b) (hT:Tabs w0) (h0:Sc w0 b s i) (hf0:inB s i 110 110=false) (hf1:inB s i 116 116=false) (hf2:inB s i 114 114=true) :
  Calls Tryz.prog 64 #[.pointer (some ⟨b,0,none⟩)] w0 fun e w'=>EscPost s b w0 (escS s i) e w':=by
 have c0:=escF s hs (b:=b) 110 (by decide) hi' hf0
 have c1:=escF s hs (b:=b) 116 (by decide) hi' hf1
 have c2:=escT s hs (b:=b) 114 (by decide) hi' hf2
 have hS:escS s i=some (13,i+1):=by unfold escS;rw [if_neg (by rw [hf0];decide)];rw [if_neg (by rw [hf1];decide)];rw [if_pos hf2]
 rw [hS]
 have B0:=But.refl b w0
 have hle:=inB_lt hf2
 go_enter Tryz.func64,Tryz.ntmps64
 go_wp2_with (first
  |(go_at_call 22;with_reducible refine (c0 w0 h0).mono ?_;rintro e1 w1 ⟨rfl,h1,b1⟩;have B1:=B0.trans b1)
  |(go_at_call 22;with_reducible refine (c1 w1 h1).mono ?_;rintro e2 w2 ⟨rfl,h2,b2⟩;have B2:=B1.trans b2)
  |(go_at_call 22;with_reducible refine (c2 w2 h2).mono ?_;rintro e3 w3 ⟨rfl,h3,b3⟩;have B3:=B2.trans b3))
 go_ret2
 exact ⟨13,i+1,rfl,by omega,h3,B3,fun c k hk=>by simp only [Option.some.injEq,Prod.mk.injEq] at hk;omega⟩
set_option maxRecDepth 100000 in
theorem escape3 (s:ByteArray) (hs:s.size<=65536) (w0:World) (b i:Nat) (hi':i<=s.size) (hb2:6<b) (hT:Tabs w0) (h0:Sc w0 b s i) (hf0:inB s i 110 110=false) (hf1:inB s i 116 116=false) (hf2:inB s i 114 114=false) (hf3:inB s i 92 92=true) :
  Calls Tryz.prog 64 #[.pointer (some ⟨b,0,none⟩)] w0 fun e w'=>EscPost s b w0 (escS s i) e w':=by
 have c0:=escF s hs (b:=b) 110 (by decide) hi' hf0
 have c1:=escF s hs (b:=b) 116 (by decide) hi' hf1
 have c2:=escF s hs (b:=b) 114 (by decide) hi' hf2
 have c3:=escT s hs (b:=b) 92 (by decide) hi' hf3
 have hS:escS s i=some (92,i+1):=by unfold escS;rw [if_neg (by rw [hf0];decide)];rw [if_neg (by rw [hf1];decide)];rw [if_neg (by rw [hf2];decide)];rw [if_pos hf3]
 rw [hS]
 have B0:=But.refl b w0
 obtain ⟨hlt,hby⟩:=inB_byte (c:=92) hf3
 have hby':(s[i].toNat:Int)=92:=by omega
 have hsub:((i+1:Nat):Int) - 1 =(i:Int):=by omega
 have hle:=inB_lt hf3
 go_enter Tryz.func64,Tryz.ntmps64
 go_wp2_with (first
  |(go_at_call 22;with_reducible refine (c0 w0 h0).mono ?_;rintro e1 w1 ⟨rfl,h1,b1⟩;have B1:=B0.trans b1)
  |(go_at_call 22;with_reducible refine (c1 w1 h1).mono ?_;rintro e2 w2 ⟨rfl,h2,b2⟩;have B2:=B1.trans b2)
  |(go_at_call 22;with_reducible refine (c2 w2 h2).mono ?_;rintro e3 w3 ⟨rfl,h3,b3⟩;have B3:=B2.trans b3)
  |(go_at_call 22;with_reducible refine (c3 w3 h3).mono ?_;rintro e4 w4 ⟨rfl,h4,b4⟩;have B4:=B3.trans b4))
 obtain ⟨d0,d1,f0,f1⟩:=h4.cells
 go_region
 go_wp2
 go_ret2
 exact ⟨92,i+1,by first | rfl |(rw [hby'];rfl) | simp [hby'],by omega,h4,B4.drew,fun c k hk=>by simp only [Option.some.injEq,Prod.mk.injEq] at hk;omega⟩
set_option maxRecDepth 100000 in
theorem escape4 (s:ByteArray) (hs:s.size<=65536) (w0:World) (b i:Nat) (hi':i<=s.size) (hb2:6<b) (hT:Tabs w0) (h0:Sc w0 b s i) (hf0:inB s i 110 110=false) (hf1:inB s i 116 116=false) (hf2:inB s i 114 114=false) (hf3:inB s i 92 92=false) (hf4:inB s i 39 39=true) :
  Calls Tryz.prog 64 #[.pointer (some ⟨b,0,none⟩)] w0 fun e w'=>EscPost s b w0 (escS s i) e w':=by
 have c0:=escF s hs (b:=b) 110 (by decide) hi' hf0
 have c1:=escF s hs (b:=b) 116 (by decide) hi' hf1
 have c2:=escF s hs (b:=b) 114 (by decide) hi' hf2
 have c3:=escF s hs (b:=b) 92 (by decide) hi' hf3
 have c4:=escT s hs (b:=b) 39 (by decide) hi' hf4
 have hS:escS s i=some (39,i+1):=by unfold escS;rw [if_neg (by rw [hf0];decide)];rw [if_neg (by rw [hf1];decide)];rw [if_neg (by rw [hf2];decide)];rw [if_neg (by rw [hf3];decide)];rw [if_pos hf4]
 rw [hS]
 have B0:=But.refl b w0
 obtain ⟨hlt,hby⟩:=inB_byte (c:=39) hf4
 have hby':(s[i].toNat:Int)=39:=by omega
 have hsub:((i+1:Nat):Int) - 1 =(i:Int):=by omega
 have hle:=inB_lt hf4
 go_enter Tryz.func64,Tryz.ntmps64
 go_wp2_with (first
  |(go_at_call 22;with_reducible refine (c0 w0 h0).mono ?_;rintro e1 w1 ⟨rfl,h1,b1⟩;have B1:=B0.trans b1)
  |(go_at_call 22;with_reducible refine (c1 w1 h1).mono ?_;rintro e2 w2 ⟨rfl,h2,b2⟩;have B2:=B1.trans b2)
  |(go_at_call 22;with_reducible refine (c2 w2 h2).mono ?_;rintro e3 w3 ⟨rfl,h3,b3⟩;have B3:=B2.trans b3)
  |(go_at_call 22;with_reducible refine (c3 w3 h3).mono ?_;rintro e4 w4 ⟨rfl,h4,b4⟩;have B4:=B3.trans b4)
  |(go_at_call 22;with_reducible refine (c4 w4 h4).mono ?_;rintro e5 w5 ⟨rfl,h5,b5⟩;have B5:=B4.trans b5))
 obtain ⟨d0,d1,f0,f1⟩:=h5.cells
 go_region
 go_wp2
 go_ret2
 exact ⟨39,i+1,by first | rfl |(rw [hby'];rfl) | simp [hby'],by omega,h5,B5.drew,fun c k hk=>by simp only [Option.some.injEq,Prod.mk.injEq] at hk;omega⟩
set_option maxRecDepth 100000 in
theorem escape5 (s:ByteArray) (hs:s.size<=65536) (w0:World) (b i:Nat) (hi':i<=s.size) (hb2:6<b) (hT:Tabs w0) (h0:Sc w0 b s i) (hf0:inB s i 110 110=false) (hf1:inB s i 116 116=false) (hf2:inB s i 114 114=false) (hf3:inB s i 92 92=false) (hf4:inB s i 39 39=false) (hf5:inB s i 34 34=true) :
  Calls Tryz.prog 64 #[.pointer (some ⟨b,0,none⟩)] w0 fun e w'=>EscPost s b w0 (escS s i) e w':=by
 have c0:=escF s hs (b:=b) 110 (by decide) hi' hf0
 have c1:=escF s hs (b:=b) 116 (by decide) hi' hf1
 have c2:=escF s hs (b:=b) 114 (by decide) hi' hf2
 have c3:=escF s hs (b:=b) 92 (by decide) hi' hf3
 have c4:=escF s hs (b:=b) 39 (by decide) hi' hf4
 have c5:=escT s hs (b:=b) 34 (by decide) hi' hf5
 have hS:escS s i=some (34,i+1):=by unfold escS;rw [if_neg (by rw [hf0];decide)];rw [if_neg (by rw [hf1];decide)];rw [if_neg (by rw [hf2];decide)];rw [if_neg (by rw [hf3];decide)];rw [if_neg (by rw [hf4];decide)];rw [if_pos hf5]
 rw [hS]
 have B0:=But.refl b w0
 obtain ⟨hlt,hby⟩:=inB_byte (c:=34) hf5
 have hby':(s[i].toNat:Int)=34:=by omega
 have hsub:((i+1:Nat):Int) - 1 =(i:Int):=by omega
 have hle:=inB_lt hf5
 go_enter Tryz.func64,Tryz.ntmps64
 go_wp2_with (first
  |(go_at_call 22;with_reducible refine (c0 w0 h0).mono ?_;rintro e1 w1 ⟨rfl,h1,b1⟩;have B1:=B0.trans b1)
  |(go_at_call 22;with_reducible refine (c1 w1 h1).mono ?_;rintro e2 w2 ⟨rfl,h2,b2⟩;have B2:=B1.trans b2)
  |(go_at_call 22;with_reducible refine (c2 w2 h2).mono ?_;rintro e3 w3 ⟨rfl,h3,b3⟩;have B3:=B2.trans b3)
  |(go_at_call 22;with_reducible refine (c3 w3 h3).mono ?_;rintro e4 w4 ⟨rfl,h4,b4⟩;have B4:=B3.trans b4)
  |(go_at_call 22;with_reducible refine (c4 w4 h4).mono ?_;rintro e5 w5 ⟨rfl,h5,b5⟩;have B5:=B4.trans b5)
  |(go_at_call 22;with_reducible refine (c5 w5 h5).mono ?_;rintro e6 w6 ⟨rfl,h6,b6⟩;have B6:=B5.trans b6))
 obtain ⟨d0,d1,f0,f1⟩:=h6.cells
 go_region
 go_wp2
 go_ret2
 exact ⟨34,i+1,by first | rfl |(rw [hby'];rfl) | simp [hby'],by omega,h6,B6.drew,fun c k hk=>by simp only [Option.some.injEq,Prod.mk.injEq] at hk;omega⟩
set_option maxRecDepth 100000 in
theorem escape6 (s:ByteArray) (hs:s.size<=65536) (w0:World) (b i:Nat) (hi':i<=s.size) (hb2:6<b) (hT:Tabs w0) (h0:Sc w0 b s i) (hf0:inB s i 110 110=false) (hf1:inB s i 116 116=false) (hf2:inB s i 114 114=false) (hf3:inB s i 92 92=false) (hf4:inB s i 39 39=false) (hf5:inB s i 34 34=false) (hf6:inB s i 117 117=true) :
  Calls Tryz.prog 64 #[.pointer (some ⟨b,0,none⟩)] w0 fun e w'=>EscPost s b w0 (escS s i) e w':=by
 have c0:=escF s hs (b:=b) 110 (by decide) hi' hf0
 have c1:=escF s hs (b:=b) 116 (by decide) hi' hf1
 have c2:=escF s hs (b:=b) 114 (by decide) hi' hf2
 have c3:=escF s hs (b:=b) 92 (by decide) hi' hf3
 have c4:=escF s hs (b:=b) 39 (by decide) hi' hf4
 have c5:=escF s hs (b:=b) 34 (by decide) hi' hf5
 have c6:=escT s hs (b:=b) 117 (by decide) hi' hf6
 have hS:escS s i=cpS s (i+1):=by unfold escS;rw [if_neg (by rw [hf0];decide)];rw [if_neg (by rw [hf1];decide)];rw [if_neg (by rw [hf2];decide)];rw [if_neg (by rw [hf3];decide)];rw [if_neg (by rw [hf4];decide)];rw [if_neg (by rw [hf5];decide)];rw [if_pos hf6]
 rw [hS]
 have B0:=But.refl b w0
 have hle:=inB_lt hf6
 go_enter Tryz.func64,Tryz.ntmps64
 go_wp2_with (first
  |(go_at_call 22;with_reducible refine (c0 w0 h0).mono ?_;rintro e1 w1 ⟨rfl,h1,b1⟩;have B1:=B0.trans b1)
  |(go_at_call 22;with_reducible refine (c1 w1 h1).mono ?_;rintro e2 w2 ⟨rfl,h2,b2⟩;have B2:=B1.trans b2)
  |(go_at_call 22;with_reducible refine (c2 w2 h2).mono ?_;rintro e3 w3 ⟨rfl,h3,b3⟩;have B3:=B2.trans b3)
  |(go_at_call 22;with_reducible refine (c3 w3 h3).mono ?_;rintro e4 w4 ⟨rfl,h4,b4⟩;have B4:=B3.trans b4)
  |(go_at_call 22;with_reducible refine (c4 w4 h4).mono ?_;rintro e5 w5 ⟨rfl,h5,b5⟩;have B5:=B4.trans b5)
  |(go_at_call 22;with_reducible refine (c5 w5 h5).mono ?_;rintro e6 w6 ⟨rfl,h6,b6⟩;have B6:=B5.trans b6)
  |(go_at_call 22;with_reducible refine (c6 w6 h6).mono ?_;rintro e7 w7 ⟨rfl,h7,b7⟩;have B7:=B6.trans b7)
  |(go_at_call 88;with_reducible refine (codePointQ s hs w7 b (i+1) (by omega) hb2 (Tabs.but hT B7 hb2) h7).mono ?_;rintro e8 w8 ⟨v,j,rfl,q1,q2,q3,q4⟩))
 go_ret2
 exact ⟨v,j,rfl,q1,q2,B7.trans q3,q4⟩
set_option maxRecDepth 100000 in
theorem escape7 (s:ByteArray) (hs:s.size<=65536) (w0:World) (b i:Nat) (hi':i<=s.size) (hb2:6<b) (hT:Tabs w0) (h0:Sc w0 b s i) (hf0:inB s i 110 110=false) (hf1:inB s i 116 116=false) (hf2:inB s i 114 114=false) (hf3:inB s i 92 92=false) (hf4:inB s i 39 39=false) (hf5:inB s i 34 34=false) (hf6:inB s i 117 117=false) :
  Calls Tryz.prog 64 #[.pointer (some ⟨b,0,none⟩)] w0 fun e w'=>EscPost s b w0 (escS s i) e w':=by
 have c0:=escF s hs (b:=b) 110 (by decide) hi' hf0
 have c1:=escF s hs (b:=b) 116 (by decide) hi' hf1
 have c2:=escF s hs (b:=b) 114 (by decide) hi' hf2
 have c3:=escF s hs (b:=b) 92 (by decide) hi' hf3
 have c4:=escF s hs (b:=b) 39 (by decide) hi' hf4
 have c5:=escF s hs (b:=b) 34 (by decide) hi' hf5
 have c6:=escF s hs (b:=b) 117 (by decide) hi' hf6
 have hS:escS s i=none:=by unfold escS;rw [if_neg (by rw [hf0];decide)];rw [if_neg (by rw [hf1];decide)];rw [if_neg (by rw [hf2];decide)];rw [if_neg (by rw [hf3];decide)];rw [if_neg (by rw [hf4];decide)];rw [if_neg (by rw [hf5];decide)];rw [if_neg (by rw [hf6];decide)];
 rw [hS]
 have B0:=But.refl b w0
 go_enter Tryz.func64,Tryz.ntmps64
 go_wp2_with (first
  |(go_at_call 22;with_reducible refine (c0 w0 h0).mono ?_;rintro e1 w1 ⟨rfl,h1,b1⟩;have B1:=B0.trans b1)
  |(go_at_call 22;with_reducible refine (c1 w1 h1).mono ?_;rintro e2 w2 ⟨rfl,h2,b2⟩;have B2:=B1.trans b2)
  |(go_at_call 22;with_reducible refine (c2 w2 h2).mono ?_;rintro e3 w3 ⟨rfl,h3,b3⟩;have B3:=B2.trans b3)
  |(go_at_call 22;with_reducible refine (c3 w3 h3).mono ?_;rintro e4 w4 ⟨rfl,h4,b4⟩;have B4:=B3.trans b4)
  |(go_at_call 22;with_reducible refine (c4 w4 h4).mono ?_;rintro e5 w5 ⟨rfl,h5,b5⟩;have B5:=B4.trans b5)
  |(go_at_call 22;with_reducible refine (c5 w5 h5).mono ?_;rintro e6 w6 ⟨rfl,h6,b6⟩;have B6:=B5.trans b6)
  |(go_at_call 22;with_reducible refine (c6 w6 h6).mono ?_;rintro e7 w7 ⟨rfl,h7,b7⟩;have B7:=B6.trans b7))
 go_ret2
 exact ⟨0,i,rfl,hi',h7,B7,fun c k hk=>(by cases hk)⟩
theorem escOK (s:ByteArray) (hs:s.size<=65536):EscOK s:=by
 intro w b i hi' _ _ hb2 hT h
 cases f0:inB s i 110 110
 case true=>exact escape0 s hs w b i hi' hb2 hT h f0
 cases f1:inB s i 116 116
 case true=>exact escape1 s hs w b i hi' hb2 hT h f0 f1
 cases f2:inB s i 114 114
 case true=>exact escape2 s hs w b i hi' hb2 hT h f0 f1 f2
 cases f3:inB s i 92 92
 case true=>exact escape3 s hs w b i hi' hb2 hT h f0 f1 f2 f3
 cases f4:inB s i 39 39
 case true=>exact escape4 s hs w b i hi' hb2 hT h f0 f1 f2 f3 f4
 cases f5:inB s i 34 34
 case true=>exact escape5 s hs w b i hi' hb2 hT h f0 f1 f2 f3 f4 f5
 cases f6:inB s i 117 117
 case true=>exact escape6 s hs w b i hi' hb2 hT h f0 f1 f2 f3 f4 f5 f6
 exact escape7 s hs w b i hi' hb2 hT h f0 f1 f2 f3 f4 f5 f6
end Go.Proofs.YtalkinnbfglkdaaGreatDoor.Tok
