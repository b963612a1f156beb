/-
  Layer 8: which words are reserved, by the reference. (Written by wip/gen/token-among.py.)
-/
import Derived.Test.YtafjdncajpjmlaaDoorTokRes
import Derived.Test.YtafjdncajpjmlaaDoorTokShow2
namespace Go.Proofs.YtafjdncajpjmlaaDoor.Tok
open Go.RowKit
set_option linter.unusedVariables false
set_option linter.unusedSimpArgs false

def noSp (s : List UInt8) : Bool := s.all fun c => c != 32
def hitB (L s : List UInt8) (i : Nat) : Bool := L.getD i 0 == 32 && (L.drop (i + 1)).take s.length == s && L.getD (i + 1 + s.length) 0 == 32
def amB (L s : List UInt8) : Bool := s.length != 0 && noSp s && (List.range (L.length - (s.length + 1))).any (hitB L s)
theorem get_list {s : ByteArray} {i : Nat} (h : i < s.size) : s.data.toList.getD i 0 = s[i] := by
  rw [List.getD_eq_getElem?_getD, List.getElem?_eq_getElem (by simpa using h)]
  rfl
theorem extract_list' (s : ByteArray) (a c : Nat) : (s.extract a c).data.toList = (s.data.toList.drop a).take (c - a) := by
  have e : (s.extract a c).data = s.data.extract a c := ByteArray.data_extract
  rw [e, Array.toList_extract, List.extract_eq_take_drop]
theorem u8_eq {x : UInt8} {n : Nat} (hn : n < 256) : ((x.toNat : Int) == (n : Int)) = (x == n.toUInt8) := by
  rw [Bool.eq_iff_iff]
  simp only [beq_iff_eq]
  constructor
  · intro h
    have : x.toNat = n := by omega
    apply UInt8.toNat.inj
    rw [this]; simp; omega
  · intro h
    rw [h]; simp; omega

end Go.Proofs.YtafjdncajpjmlaaDoor.Tok
