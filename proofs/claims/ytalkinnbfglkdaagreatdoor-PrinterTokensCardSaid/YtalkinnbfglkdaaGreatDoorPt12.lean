/-
  Layer 1: Read of the reference: it goes byte by byte.
  Layer 1: Read of the program: it ranges over the digits.
-/
import Derived.Test.YtalkinnbfglkdaaGreatDoorPt6
import Derived.Test.YtalkinnbfglkdaaGreatDoorPt1
set_option maxHeartbeats 1000000
namespace Go.Proofs.YtalkinnbfglkdaaGreatDoor.Num
open Go.RowKit
theorem drop_cons (s:ByteArray) (k:Nat) (h:k<s.size):s.data.toList.drop k=s[k]::s.data.toList.drop (k+1):=by
 rw [List.drop_eq_getElem_cons (by simpa using h)];rfl
theorem list_cons (s:ByteArray) (h:0<s.size):s.data.toList=s[0]::s.data.toList.drop 1:=by
 have:=drop_cons s 0 h
 rwa [List.drop_zero] at this
theorem drop_ne (s:ByteArray) (h:1<s.size):s.data.toList.drop 1≠[]:=by
 rw [drop_cons s 1 h];simp
theorem drop_end (s:ByteArray) (k:Nat) (h:¬ k<s.size):s.data.toList.drop k=[]:=by
 rw [List.drop_eq_nil_iff];simpa using h
theorem u8_eq {c:UInt8}(h:c.toNat=95):c=95:=by
 apply UInt8.toNat_inj.1;rw [h];rfl
theorem rd_empty (s:ByteArray) (h:¬ 0<s.size):rdS s.data.toList =(0,4):=by
 have:s.data.toList=[]:=by have:=drop_end s 0 h;rwa [List.drop_zero] at this
 rw [this];rfl
theorem rd_bare (s:ByteArray) (h:0<s.size) (h1:¬ 1<s.size) (h95:s[0].toNat=95):rdS s.data.toList =(0,4):=by
 rw [list_cons s h,drop_end s 1 h1,u8_eq h95];rfl
theorem rd_neg (s:ByteArray) (h:1<s.size) (h95:s[0].toNat=95):rdS s.data.toList=rdAns (-1) (rdGo 0 (s.data.toList.drop 1)):=by
 rw [list_cons s (by omega),u8_eq h95,rdS_neg (drop_ne s h)];rfl
theorem rd_pos (s:ByteArray) (h:0<s.size) (h95:¬ s[0].toNat=95):rdS s.data.toList=rdAns 1 (rdGo 0 (s.data.toList.drop 0)):=by
 rw [List.drop_zero,list_cons s h,rdS_pos h95]
theorem below_iter (w:World) (s:ByteArray) (k:Nat):Below w.heap.size w (w.iter s k):=(Below.refl _ _).alloc (Nat.le_refl _) _
theorem tl_eq (s:ByteArray):s.toList=s.data.toList:=ByteArray.toList_eq s
theorem tl_ne (s:ByteArray) (h:0<s.size):¬ s.toList=[]:=by
 rw [tl_eq,list_cons s h];simp
theorem tl_empty (s:ByteArray) (h:0<s.size):s.toList.isEmpty=false:=by
 rw [tl_eq,list_cons s h];rfl
theorem tl_nil (s:ByteArray) (h:¬ 0<s.size):s.toList=[]:=by
 rw [tl_eq];have:=drop_end s 0 h;rwa [List.drop_zero] at this
theorem ext_list (s:ByteArray):(s.extract 1 s.size).data.toList=s.data.toList.drop 1:=by
 have h:(s.extract 1 s.size).data=s.data.extract 1 s.size:=ByteArray.data_extract
 rw [h,Array.toList_extract,List.extract_eq_take_drop]
 exact List.take_of_length_le (by simp)
theorem ext_size (s:ByteArray):(s.extract 1 s.size).size=s.size - 1:=by
 rw [ByteArray.size_extract];omega
theorem ext_empty (s:ByteArray) (h:¬ 1<s.size):(s.extract 1 s.size).toList.isEmpty=true:=by
 rw [tl_eq,ext_list,drop_end s 1 h];rfl
theorem ext_full (s:ByteArray) (h:1<s.size):(s.extract 1 s.size).toList.isEmpty=false:=by
 rw [tl_eq,ext_list,drop_cons s 1 h];rfl
theorem ext_t (s:ByteArray) (h:1<s.size):∃ t:ByteArray,s.extract 1 s.size=t/\t.data.toList=s.data.toList.drop 1/\t.size=s.size - 1/\t.toList.isEmpty=false :=
 ⟨_,rfl,ext_list s,ext_size s,ext_full s h⟩
theorem readP_neg (s:ByteArray) (w:World) (hs:s.size<=9223372036854775807) (h1:1<s.size) (h95:s[0].toNat=95) :
  Calls Tryz.prog 39 #[.string s] w fun e w'=>e=.returned (.tuple #[.int .i64 (rdS s.data.toList).1,.int .i64 (rdS s.data.toList).2])/\Below w.heap.size w w':=by
 have h0:0<s.size:=by omega
 have e0:=tl_ne s h0
 have e1:=tl_empty s h0
 have hx:((s[0].toNat:Int)==95)=true:=by rw [h95];rfl
 have em:=rd_neg s h1 h95
 obtain ⟨t,ht,tl,ts,te⟩:=ext_t s h1
 rw [<- tl] at em
 have hsz:t.size<=9223372036854775807:=by omega
 clear h95 tl ts
 go_enter Tryz.func39,Tryz.ntmps39
 go_wp2
 clear ht te e0 e1 hx
 go_loopw [6] (fun n wr=>∃ (N:Int) (k:Nat),k<=t.size/\n=.int .i64 N/\wr=w.iter t k/\0<=N/\N<=4611686018427387903/\rdS s.data.toList=rdAns (-1) (rdGo N (t.data.toList.drop k))) (fun _ wr=>t.size - wr.iterPos w.heap.size)
 case atStart=>exact ⟨0,0,by omega,rfl,rfl,by omega,by omega,em⟩
 case round =>
  clear em
  obtain ⟨N,k,hk,rfl,rfl,hN0,hN1,em⟩:=hrel
  by_cases hlt:k<t.size
  ·rw [drop_cons t k hlt] at em
   have hcb:(t[k].toNat:Int)<=255:=by have:=t[k].toNat_lt;omega
   by_cases ha:t[k].toNat<128
   ·have hnx:=fun ty=>run_next_ascii (P:=Tryz.prog) w t k ty hlt ha
    by_cases c1:t[k].toNat<48
    ·rw [rdGo_low c1] at em
     have c1':(t[k].toNat:Int)<48:=by omega
     have em2:rdS s.data.toList =(0,4):=em
     clear em c1 ha
     go_wp2
     go_ret2
     first | exact ⟨pair_mk em2,below_iter _ _ _⟩ | exact ⟨rfl,below_iter _ _ _⟩
    ·by_cases c2:57<t[k].toNat
     ·rw [rdGo_high c2] at em
      have c1':¬ (t[k].toNat:Int)<48:=by omega
      have c2':57 <(t[k].toNat:Int):=by omega
      have em2:rdS s.data.toList =(0,4):=em
      clear em c1 c2 ha
      go_wp2
      go_ret2
      first | exact ⟨pair_mk em2,below_iter _ _ _⟩ | exact ⟨rfl,below_iter _ _ _⟩
     ·have c1':48<=(t[k].toNat:Int):=by omega
      have c2':(t[k].toNat:Int)<=57:=by omega
      by_cases c3:(4611686018427387903 - ((t[k].toNat:Int) - 48)) / 10<N
      ·rw [rdGo_big c3] at em
       have em2:rdS s.data.toList =(0,4):=em
       clear em c1 c2 ha
       go_wp2
       go_ret2
       first | exact ⟨pair_mk em2,below_iter _ _ _⟩ | exact ⟨rfl,below_iter _ _ _⟩
      ·rw [rdGo_step (by omega) (by omega) (by omega)] at em
       have hb:=rdGo_bd (n:=N) (c:=t[k]) (by omega) (by omega) hN0 (by omega)
       obtain ⟨hb1,hb2⟩:=hb
       clear c1 c2 ha
       go_wp2
       go_roundw
       case rel=>exact ⟨_,k+1,by omega,rfl,rfl,hb1,hb2,em⟩
       case measure=>simp;omega
   ·have hnx:=fun ty=>run_next_any (P:=Tryz.prog) w t k ty hlt
    have hh:=(decode_high t k hlt (by omega)).1
    have hd1:¬ ((Utf8.decode t k).1:Int)<48:=by omega
    have hd2:57 <((Utf8.decode t k).1:Int):=by omega
    rw [rdGo_high (by omega)] at em
    have em2:rdS s.data.toList =(0,4):=em
    clear em ha hh
    go_wp2
    go_ret2
    first | exact ⟨pair_mk em2,below_iter _ _ _⟩ | exact ⟨rfl,below_iter _ _ _⟩
  ·have hnx:=fun ty=>run_next_end (P:=Tryz.prog) w t k ty hlt
   rw [drop_end t k hlt] at em
   have em2:rdS s.data.toList =(-1*N,0):=em
   have hm:-1*N = -N:=by omega
   rw [hm] at em2
   clear em hm
   go_wp2
   go_ret2
   first | exact ⟨pair_mk em2,below_iter _ _ _⟩ | exact ⟨rfl,below_iter _ _ _⟩
theorem readP_pos (s:ByteArray) (w:World) (hs:s.size<=9223372036854775807) (h0:0<s.size) (h95:¬ s[0].toNat=95) :
  Calls Tryz.prog 39 #[.string s] w fun e w'=>e=.returned (.tuple #[.int .i64 (rdS s.data.toList).1,.int .i64 (rdS s.data.toList).2])/\Below w.heap.size w w':=by
 have e0:=tl_ne s h0
 have e1:=tl_empty s h0
 have hx:((s[0].toNat:Int)==95)=false:=by simp;omega
 have em:=rd_pos s h0 h95
 clear h95
 go_enter Tryz.func39,Tryz.ntmps39
 go_wp2
 clear e0 e1 hx
 go_loopw [6] (fun n wr=>∃ (N:Int) (k:Nat),k<=s.size/\n=.int .i64 N/\wr=w.iter s k/\0<=N/\N<=4611686018427387903/\rdS s.data.toList=rdAns (1) (rdGo N (s.data.toList.drop k))) (fun _ wr=>s.size - wr.iterPos w.heap.size)
 case atStart=>exact ⟨0,0,by omega,rfl,rfl,by omega,by omega,em⟩
 case round =>
  clear em
  obtain ⟨N,k,hk,rfl,rfl,hN0,hN1,em⟩:=hrel
  by_cases hlt:k<s.size
  ·rw [drop_cons s k hlt] at em
   have hcb:(s[k].toNat:Int)<=255:=by have:=s[k].toNat_lt;omega
   by_cases ha:s[k].toNat<128
   ·have hnx:=fun ty=>run_next_ascii (P:=Tryz.prog) w s k ty hlt ha
    by_cases c1:s[k].toNat<48
    ·rw [rdGo_low c1] at em
     have c1':(s[k].toNat:Int)<48:=by omega
     have em2:rdS s.data.toList =(0,4):=em
     clear em c1 ha
     go_wp2
     go_ret2
     first | exact ⟨pair_mk em2,below_iter _ _ _⟩ | exact ⟨rfl,below_iter _ _ _⟩
    ·by_cases c2:57<s[k].toNat
     ·rw [rdGo_high c2] at em
      have c1':¬ (s[k].toNat:Int)<48:=by omega
      have c2':57 <(s[k].toNat:Int):=by omega
      have em2:rdS s.data.toList =(0,4):=em
      clear em c1 c2 ha
      go_wp2
      go_ret2
      first | exact ⟨pair_mk em2,below_iter _ _ _⟩ | exact ⟨rfl,below_iter _ _ _⟩
     ·have c1':48<=(s[k].toNat:Int):=by omega
      have c2':(s[k].toNat:Int)<=57:=by omega
      by_cases c3:(4611686018427387903 - ((s[k].toNat:Int) - 48)) / 10<N
      ·rw [rdGo_big c3] at em
       have em2:rdS s.data.toList =(0,4):=em
       clear em c1 c2 ha
       go_wp2
       go_ret2
       first | exact ⟨pair_mk em2,below_iter _ _ _⟩ | exact ⟨rfl,below_iter _ _ _⟩
      ·rw [rdGo_step (by omega) (by omega) (by omega)] at em
       have hb:=rdGo_bd (n:=N) (c:=s[k]) (by omega) (by omega) hN0 (by omega)
       obtain ⟨hb1,hb2⟩:=hb
       clear c1 c2 ha
       go_wp2
       go_roundw
       case rel=>exact ⟨_,k+1,by omega,rfl,rfl,hb1,hb2,em⟩
       case measure=>simp;omega
   ·have hnx:=fun ty=>run_next_any (P:=Tryz.prog) w s k ty hlt
    have hh:=(decode_high s k hlt (by omega)).1
    have hd1:¬ ((Utf8.decode s k).1:Int)<48:=by omega
    have hd2:57 <((Utf8.decode s k).1:Int):=by omega
    rw [rdGo_high (by omega)] at em
    have em2:rdS s.data.toList =(0,4):=em
    clear em ha hh
    go_wp2
    go_ret2
    first | exact ⟨pair_mk em2,below_iter _ _ _⟩ | exact ⟨rfl,below_iter _ _ _⟩
  ·have hnx:=fun ty=>run_next_end (P:=Tryz.prog) w s k ty hlt
   rw [drop_end s k hlt] at em
   have em2:rdS s.data.toList =(1*N,0):=em
   have hm:1*N=N:=by omega
   rw [hm] at em2
   clear em hm
   go_wp2
   go_ret2
   first | exact ⟨pair_mk em2,below_iter _ _ _⟩ | exact ⟨rfl,below_iter _ _ _⟩
theorem readP (s:ByteArray) (w:World) (hs:s.size<=9223372036854775807) :
  Calls Tryz.prog 39 #[.string s] w fun e w'=>e=.returned (.tuple #[.int .i64 (rdS s.data.toList).1,.int .i64 (rdS s.data.toList).2])/\Below w.heap.size w w':=by
 by_cases h0:0<s.size
 ·by_cases h95:s[0].toNat=95
  ·by_cases h1:1<s.size
   ·exact readP_neg s w hs h1 h95
   ·have hx:((s[0].toNat:Int)==95)=true:=by rw [h95];rfl
    have e0:=tl_ne s h0
    have e1:=tl_empty s h0
    have em:=rd_bare s h0 h1 h95
    have e2:=ext_empty s h1
    clear h95
    go_enter Tryz.func39,Tryz.ntmps39
    go_wp2
    go_ret2
    first | exact ⟨pair_mk em,Below.refl _ _⟩ | exact ⟨rfl,Below.refl _ _⟩
  ·exact readP_pos s w hs h0 h95
 ·have em:=rd_empty s h0
  have e0:=tl_nil s h0
  go_enter Tryz.func39,Tryz.ntmps39
  go_wp2
  go_ret2
  first | exact ⟨pair_mk em,Below.refl _ _⟩ | exact ⟨rfl,Below.refl _ _⟩
end Go.Proofs.YtalkinnbfglkdaaGreatDoor.Num
