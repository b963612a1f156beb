/-
  Layer 9: literals as plain data: the short form of a character, the encoding and what is read of it, the reader's states.
-/
import Derived.Test.YtmnomkcgkjccgaaProg
import Derived.OwnWalk
import Derived.Deep.RegionHeld3
import Derived.Deep.RegionLaw
import Derived.Deep.RegionHeldLaw
import Derived.RegionTactic
import Derived.Handy
import Derived.Below
import Derived.Lib.MapLaws
import Derived.Lib.TrimUEq
import Derived.Lib.QuoteLoop
namespace Go.Proofs.Ytmnomkcgkjccgaa.Lit
open Go.RowKit
set_option linter.unusedVariables false
set_option linter.unusedSimpArgs false

theorem Below.then {a b c : World} (h : Below a.heap.size a b) (k : Below b.heap.size b c) : Below a.heap.size a c := h.trans (k.mono h.size)
theorem below_new (w : World) (o : Obj) : Below w.heap.size w (w.alloc o) := (Below.refl _ _).alloc (Nat.le_refl _) _
theorem below_drew (w : World) : Below w.heap.size w w.drew := (Below.refl _ _).drew
theorem cell_below {w w' : World} {p : Addr} {v : Value} (h : w.cell? p = some v) (hb : Below w.heap.size w w') : w'.cell? p = some v := (hb.cell (World.block_lt_of_cell? w p h)).trans h
theorem bytes_ext {a b : ByteArray} (h : a.data.toList = b.data.toList) : a = b := by
  cases a; cases b
  congr 1
  exact Array.toList_inj.1 h
/-- Bytes as a text. -/
@[reducible] def tx (l : List UInt8) : ByteArray := ⟨l.toArray⟩
theorem tx_list (l : List UInt8) : (tx l).data.toList = l := by simp [tx]
theorem tx_of (s : ByteArray) : tx s.data.toList = s := bytes_ext (by simp)
theorem tx_size (l : List UInt8) : (tx l).size = l.length := by rw [Lib.size_eq, tx_list]
theorem tx_app (a b : List UInt8) : tx a ++ tx b = tx (a ++ b) := bytes_ext (by simp [ByteArray.data_append])

/-! ### Hexadecimal digits, short forms -/
def hx1 (d : Nat) : UInt8 := if d < 10 then (48 + d).toUInt8 else (87 + d).toUInt8
def hexL (c : Nat) : List UInt8 := if c < 16 then [hx1 c] else [hx1 (c / 16), hx1 (c % 16)]
theorem hexL_len (c : Nat) : (hexL c).length ≤ 2 := by unfold hexL; split <;> simp
/-- The short form of a character for a quote. -/
def chW (q c : Nat) : List UInt8 :=
  if c = 10 then [92, 110] else if c = 9 then [92, 116] else if c = 13 then [92, 114]
  else if c = q ∨ c = 92 then [92] ++ Lib.encodeRune (c : Int)
  else if c < 32 ∨ c = 127 then [92, 117, 123] ++ hexL c ++ [125] else Lib.encodeRune (c : Int)

/-! ### The encoding -/
theorem enc_eq (c : Nat) : (Utf8.encode (c : Int)).data.toList = Lib.encodeRune (c : Int) := by
  unfold Lib.encodeRune
  by_cases hv : Utf8.valid (c : Int) = true
  · have hv2 : ((0 : Int) ≤ c ∧ (c : Int) < 55296) ∨ ((57344 : Int) ≤ c ∧ (c : Int) ≤ 1114111) := by simpa [Utf8.valid] using hv
    unfold Utf8.encode
    simp only [hv, if_true, Int.toNat_natCast]
    by_cases h1 : c < 128
    · rw [if_pos h1, Lib.encodeRuneZ_one (by omega) (by omega)]
      rfl
    rw [if_neg h1]
    by_cases h2 : c < 2048
    · rw [if_pos h2, Lib.encodeRuneZ_two (by omega) (by omega)]
      simp only [List.map_cons, List.map_nil]
      rw [show (192 + (c : Int) / 64).toNat = 192 + c / 64 by omega, show (128 + (c : Int) % 64).toNat = 128 + c % 64 by omega]
    rw [if_neg h2]
    by_cases h3 : c < 65536
    · rw [if_pos h3, Lib.encodeRuneZ_three (by omega)]
      simp only [List.map_cons, List.map_nil]
      rw [show (224 + (c : Int) / 4096).toNat = 224 + c / 4096 by omega, show (128 + (c : Int) / 64 % 64).toNat = 128 + c / 64 % 64 by omega, show (128 + (c : Int) % 64).toNat = 128 + c % 64 by omega]
    · rw [if_neg h3, Lib.encodeRuneZ_four (by omega) (by omega)]
      simp only [List.map_cons, List.map_nil]
      rw [show (240 + (c : Int) / 262144).toNat = 240 + c / 262144 by omega, show (128 + (c : Int) / 4096 % 64).toNat = 128 + c / 4096 % 64 by omega, show (128 + (c : Int) / 64 % 64).toNat = 128 + c / 64 % 64 by omega, show (128 + (c : Int) % 64).toNat = 128 + c % 64 by omega]
  · have hv2 : ¬ (((0 : Int) ≤ c ∧ (c : Int) < 55296) ∨ ((57344 : Int) ≤ c ∧ (c : Int) ≤ 1114111)) := by simpa [Utf8.valid] using hv
    unfold Utf8.encode
    simp only [hv, Bool.false_eq_true, if_false]
    rw [Lib.encodeRuneZ_bad (by omega)]
    decide
theorem encB (c : Nat) : Utf8.encode (c : Int) = ⟨(Lib.encodeRune (c : Int)).toArray⟩ := by
  have h := tx_of (Utf8.encode (c : Int))
  rw [enc_eq] at h
  exact h.symm
theorem enc_ascii (c : Nat) (h : c < 128) : Lib.encodeRune (c : Int) = [UInt8.ofNat c] := by
  unfold Lib.encodeRune
  rw [Lib.encodeRuneZ_one (by omega) (by omega)]
  rfl
theorem ofNat_nat (x : Nat) (h : x < 256) : (UInt8.ofNat x).toNat = x := by
  rw [UInt8.toNat_ofNat']; omega
theorem enc2 (c : Nat) (h1 : 128 ≤ c) (h2 : c < 2048) : Lib.encodeRune (c : Int) = [UInt8.ofNat (192 + c / 64), UInt8.ofNat (128 + c % 64)] := by
  unfold Lib.encodeRune
  rw [Lib.encodeRuneZ_two (by omega) (by omega)]
  simp only [List.map_cons, List.map_nil]
  rw [show (192 + (c : Int) / 64).toNat = 192 + c / 64 by omega, show (128 + (c : Int) % 64).toNat = 128 + c % 64 by omega]
theorem enc3 (c : Nat) (h : (2048 ≤ c ∧ c < 55296) ∨ (57343 < c ∧ c ≤ 65535)) : Lib.encodeRune (c : Int) = [UInt8.ofNat (224 + c / 4096), UInt8.ofNat (128 + c / 64 % 64), UInt8.ofNat (128 + c % 64)] := by
  unfold Lib.encodeRune
  rw [Lib.encodeRuneZ_three (by omega)]
  simp only [List.map_cons, List.map_nil]
  rw [show (224 + (c : Int) / 4096).toNat = 224 + c / 4096 by omega, show (128 + (c : Int) / 64 % 64).toNat = 128 + c / 64 % 64 by omega, show (128 + (c : Int) % 64).toNat = 128 + c % 64 by omega]
theorem enc4 (c : Nat) (h1 : 65536 ≤ c) (h2 : c ≤ 1114111) : Lib.encodeRune (c : Int) = [UInt8.ofNat (240 + c / 262144), UInt8.ofNat (128 + c / 4096 % 64), UInt8.ofNat (128 + c / 64 % 64), UInt8.ofNat (128 + c % 64)] := by
  unfold Lib.encodeRune
  rw [Lib.encodeRuneZ_four (by omega) (by omega)]
  simp only [List.map_cons, List.map_nil]
  rw [show (240 + (c : Int) / 262144).toNat = 240 + c / 262144 by omega, show (128 + (c : Int) / 4096 % 64).toNat = 128 + c / 4096 % 64 by omega, show (128 + (c : Int) / 64 % 64).toNat = 128 + c / 64 % 64 by omega, show (128 + (c : Int) % 64).toNat = 128 + c % 64 by omega]
theorem enc_len (c : Nat) : 1 ≤ (Lib.encodeRune (c : Int)).length ∧ (Lib.encodeRune (c : Int)).length ≤ 4 := by
  rw [← enc_eq]
  unfold Utf8.encode
  simp only
  repeat' split
  all_goals simp
/-- To decode what was encoded, whatever follows. -/
theorem decL_enc (c : Nat) (h : c < 55296 ∨ (57343 < c ∧ c ≤ 1114111)) (t : List UInt8) : Lib.decodeL (Lib.encodeRune (c : Int) ++ t) = (c, (Lib.encodeRune (c : Int)).length) := by
  rw [Lib.decodeL_N]
  by_cases h1 : c < 128
  · rw [enc_ascii c h1]
    simp only [List.length_append, List.length_cons, List.length_nil, List.cons_append, List.nil_append, List.getD_cons_zero]
    rw [ofNat_nat c (by omega)]
    unfold Lib.decodeN
    rw [if_pos h1]
  by_cases h2 : c < 2048
  · rw [enc2 c (by omega) h2]
    simp only [List.length_append, List.length_cons, List.length_nil, List.cons_append, List.nil_append, List.getD_cons_zero, List.getD_cons_succ]
    rw [ofNat_nat _ (by omega), ofNat_nat _ (by omega)]
    unfold Lib.decodeN
    rw [if_neg (by omega), if_pos (by omega), if_pos (by omega)]
    congr 1
    omega
  by_cases h3 : c < 65536
  · rw [enc3 c (by omega)]
    simp only [List.length_append, List.length_cons, List.length_nil, List.cons_append, List.nil_append, List.getD_cons_zero, List.getD_cons_succ]
    rw [ofNat_nat _ (by omega), ofNat_nat _ (by omega), ofNat_nat _ (by omega)]
    unfold Lib.decodeN
    rw [if_neg (by omega), if_neg (by omega), if_pos (by omega), if_pos (by omega)]
    congr 1
    omega
  · rw [enc4 c (by omega) (by omega)]
    simp only [List.length_append, List.length_cons, List.length_nil, List.cons_append, List.nil_append, List.getD_cons_zero, List.getD_cons_succ]
    rw [ofNat_nat _ (by omega), ofNat_nat _ (by omega), ofNat_nat _ (by omega), ofNat_nat _ (by omega)]
    unfold Lib.decodeN
    rw [if_neg (by omega), if_neg (by omega), if_neg (by omega), if_pos (by omega), if_pos (by omega)]
    congr 1
    omega
theorem dec_pos (s : ByteArray) (i : Nat) (hi : i < s.size) : 0 < (Utf8.decode s i).2 ∧ i + (Utf8.decode s i).2 ≤ s.size ∧ (Utf8.decode s i).1 ≤ 1114111 ∧ ((Utf8.decode s i).1 < 55296 ∨ 57343 < (Utf8.decode s i).1) := by
  have hl : s.data.toList.length = s.size := by simp
  rw [Lib.decode_N, hl]
  have a := Lib.decodeN_ge1 (s.size - i) (s.data.toList.getD i 0).toNat (s.data.toList.getD (i + 1) 0).toNat (s.data.toList.getD (i + 2) 0).toNat (s.data.toList.getD (i + 3) 0).toNat
  have b := Lib.decodeN_width_le (s.size - i) (s.data.toList.getD i 0).toNat (s.data.toList.getD (i + 1) 0).toNat (s.data.toList.getD (i + 2) 0).toNat (s.data.toList.getD (i + 3) 0).toNat (by omega)
  have c := Lib.decodeN_valid (s.size - i) (s.data.toList.getD i 0).toNat (s.data.toList.getD (i + 1) 0).toNat (s.data.toList.getD (i + 2) 0).toNat (s.data.toList.getD (i + 3) 0).toNat (UInt8.toNat_lt _)
  omega
theorem extract_list (s : ByteArray) (a c : Nat) : (s.extract a c).data.toList = (s.data.toList.drop a).take (c - a) := by
  have e : (s.extract a c).data = s.data.extract a c := ByteArray.data_extract
  rw [e, Array.toList_extract, List.extract_eq_take_drop]

/-! ### Quote -/
def quoGo (q : Nat) (s : ByteArray) : Nat → Nat → List UInt8
  | 0, _ => []
  | f + 1, i => if i < s.size then chW q (Utf8.decode s i).1 ++ quoGo q s f (i + (Utf8.decode s i).2) else []
/-- What Quote returns. -/
def quoteS (s : ByteArray) : List UInt8 := [34] ++ quoGo 34 s s.size 0 ++ [34]
theorem chW_len (q c : Nat) : 1 ≤ (chW q c).length ∧ (chW q c).length ≤ 6 := by
  have h1 := enc_len c
  have h2 := hexL_len c
  unfold chW
  repeat' split
  all_goals first | omega | (simp; done) | (simp; omega)
theorem quoGo_end {q : Nat} {s : ByteArray} {f i : Nat} (h : ¬ i < s.size) : quoGo q s f i = [] := by
  cases f with
  | zero => rfl
  | succ f => rw [quoGo, if_neg h]

/-! ### The reader's states -/
structure St where
  pl : Nat
  te : List UInt8
  co : Nat
  ct : Nat
inductive Ot where
  | bad (e : Int)
  | st (x : St)
def isChB (c : Nat) : Bool := decide (c ≤ 1114111 ∧ (c < 55296 ∨ 57343 < c))
def hexV (c : Nat) : Option Nat := if 48 ≤ c ∧ c ≤ 57 then some (c - 48) else if 97 ≤ c ∧ c ≤ 102 then some (c - 87) else none
def St.add (q c : Nat) (x : St) : St := { x with te := x.te ++ Lib.encodeRune (c : Int), pl := if q = 39 then 5 else 1 }
def inS (q c : Nat) (x : St) : Ot := if c = 92 then .st { x with pl := 2 } else if c ≠ q then .st (x.add q c) else if q = 34 then .st { x with pl := 6 } else .bad 5
def escS (q c : Nat) (x : St) : Ot :=
  if c = 110 then .st (x.add q 10) else if c = 116 then .st (x.add q 9) else if c = 114 then .st (x.add q 13)
  else if c = 92 ∨ c = 39 ∨ c = 34 then .st (x.add q c) else if c = 117 then .st { x with pl := 3 } else .bad 3
def braS (c : Nat) (x : St) : Ot := if c ≠ 123 then .bad 3 else .st { x with pl := 4, co := 0, ct := 0 }
def digS (q c : Nat) (x : St) : Ot := match hexV c with
  | some v => if x.ct < 6 then .st { x with co := x.co * 16 + v, ct := x.ct + 1 } else .bad 3
  | none => if c = 125 ∧ 0 < x.ct ∧ isChB x.co then .st (x.add q x.co) else .bad 3
def nextS (q c : Nat) (en : Bool) (x : St) : Ot :=
  if c = 10 ∨ (c ≠ q ∧ (x.pl = 0 ∨ x.pl = 5)) then .bad 5 else if c < 32 ∨ en = false then .bad 3
  else if x.pl = 0 then .st { x with pl := 1 } else if x.pl = 1 then inS q c x else if x.pl = 2 then escS q c x else if x.pl = 3 then braS c x
  else if x.pl = 4 then digS q c x else if x.pl = 5 then .st { x with pl := 6 } else .st x
/-- Whether a text begins with the encoding of a character. -/
def begB (l : List UInt8) (c : Nat) : Bool := (Lib.encodeRune (c : Int)).isPrefixOf l
inductive Rd where
  | bad (e : Int)
  | ok (t : List UInt8) (n : Nat)
def readGo (q : Nat) (s : ByteArray) : Nat → Nat → St → Rd
  | 0, _, _ => .bad 5
  | f + 1, i, x => if i < s.size then match nextS q (Utf8.decode s i).1 (begB (s.data.toList.drop i) (Utf8.decode s i).1) x with
      | .bad e => .bad e
      | .st y => if y.pl = 6 then .ok y.te (i + 1) else readGo q s f (i + (Utf8.decode s i).2) y
    else .bad 5
def readS (q : Nat) (s : ByteArray) : Rd := readGo q s (s.size + 1) 0 ⟨0, [], 0, 0⟩
end Go.Proofs.Ytmnomkcgkjccgaa.Lit
