/-
  Layer 8: a character's literal, as its code point written.
-/
import Derived.Test.YthjappkcbdaifaaDoorTokRn
namespace Go.Proofs.YthjappkcbdaifaaDoor.Tok
open Go.RowKit
set_option linter.unusedVariables false

theorem ofNat_nat (x : Nat) (h : x < 256) : (UInt8.ofNat x).toNat = x := by
  rw [UInt8.toNat_ofNat']; omega
theorem enc2 (c : Nat) (h1 : 128 ≤ c) (h2 : c < 2048) : Lib.encodeRune (c : Int) = [UInt8.ofNat (192 + c / 64), UInt8.ofNat (128 + c % 64)] := by
  unfold Lib.encodeRune
  rw [Lib.encodeRuneZ_two (by omega) (by omega)]
  simp only [List.map_cons, List.map_nil]
  rw [show (192 + (c : Int) / 64).toNat = 192 + c / 64 by omega, show (128 + (c : Int) % 64).toNat = 128 + c % 64 by omega]
theorem enc3 (c : Nat) (h : (2048 ≤ c ∧ c < 55296) ∨ (57343 < c ∧ c ≤ 65535)) : Lib.encodeRune (c : Int) = [UInt8.ofNat (224 + c / 4096), UInt8.ofNat (128 + c / 64 % 64), UInt8.ofNat (128 + c % 64)] := by
  unfold Lib.encodeRune
  rw [Lib.encodeRuneZ_three (by omega)]
  simp only [List.map_cons, List.map_nil]
  rw [show (224 + (c : Int) / 4096).toNat = 224 + c / 4096 by omega, show (128 + (c : Int) / 64 % 64).toNat = 128 + c / 64 % 64 by omega, show (128 + (c : Int) % 64).toNat = 128 + c % 64 by omega]
theorem enc4 (c : Nat) (h1 : 65536 ≤ c) (h2 : c ≤ 1114111) : Lib.encodeRune (c : Int) = [UInt8.ofNat (240 + c / 262144), UInt8.ofNat (128 + c / 4096 % 64), UInt8.ofNat (128 + c / 64 % 64), UInt8.ofNat (128 + c % 64)] := by
  unfold Lib.encodeRune
  rw [Lib.encodeRuneZ_four (by omega) (by omega)]
  simp only [List.map_cons, List.map_nil]
  rw [show (240 + (c : Int) / 262144).toNat = 240 + c / 262144 by omega, show (128 + (c : Int) / 4096 % 64).toNat = 128 + c / 4096 % 64 by omega, show (128 + (c : Int) / 64 % 64).toNat = 128 + c / 64 % 64 by omega, show (128 + (c : Int) % 64).toNat = 128 + c % 64 by omega]
/-- To decode what was encoded. -/
theorem dec_enc (c : Nat) (h : c < 55296 ∨ (57343 < c ∧ c ≤ 1114111)) : Utf8.decode (Utf8.encode (c : Int)) 0 = (c, (Utf8.encode (c : Int)).size) := by
  rw [Lib.decode_N, Lib.size_eq, enc_eq]
  by_cases h1 : c < 128
  · rw [enc_ascii c h1]
    show Lib.decodeN 1 (UInt8.ofNat c).toNat (0 : UInt8).toNat (0 : UInt8).toNat (0 : UInt8).toNat = (c, 1)
    rw [ofNat_nat c (by omega)]
    unfold Lib.decodeN
    rw [if_pos h1]
  by_cases h2 : c < 2048
  · rw [enc2 c (by omega) h2]
    show Lib.decodeN 2 (UInt8.ofNat (192 + c / 64)).toNat (UInt8.ofNat (128 + c % 64)).toNat (0 : UInt8).toNat (0 : UInt8).toNat = (c, 2)
    rw [ofNat_nat _ (by omega), ofNat_nat _ (by omega)]
    unfold Lib.decodeN
    rw [if_neg (by omega), if_pos (by omega), if_pos (by omega)]
    congr 1
    omega
  by_cases h3 : c < 65536
  · rw [enc3 c (by omega)]
    show Lib.decodeN 3 (UInt8.ofNat (224 + c / 4096)).toNat (UInt8.ofNat (128 + c / 64 % 64)).toNat (UInt8.ofNat (128 + c % 64)).toNat (0 : UInt8).toNat = (c, 3)
    rw [ofNat_nat _ (by omega), ofNat_nat _ (by omega), ofNat_nat _ (by omega)]
    unfold Lib.decodeN
    rw [if_neg (by omega), if_neg (by omega), if_pos (by omega), if_pos (by omega)]
    congr 1
    omega
  · rw [enc4 c (by omega) (by omega)]
    show Lib.decodeN 4 (UInt8.ofNat (240 + c / 262144)).toNat (UInt8.ofNat (128 + c / 4096 % 64)).toNat (UInt8.ofNat (128 + c / 64 % 64)).toNat (UInt8.ofNat (128 + c % 64)).toNat = (c, 4)
    rw [ofNat_nat _ (by omega), ofNat_nat _ (by omega), ofNat_nat _ (by omega), ofNat_nat _ (by omega)]
    unfold Lib.decodeN
    rw [if_neg (by omega), if_neg (by omega), if_neg (by omega), if_pos (by omega), if_pos (by omega)]
    congr 1
    omega
theorem enc_pos (c : Nat) : 0 < (Utf8.encode (c : Int)).size := by
  unfold Utf8.encode
  simp only
  repeat' split
  all_goals simp [ByteArray.size]
theorem char_lit (q : Nat) (hq : q < 128) (c : Nat) (h : c < 55296 ∨ (57343 < c ∧ c ≤ 1114111)) : litW q (Utf8.encode (c : Int)) = UInt8.ofNat q :: quoW q [c] ++ [UInt8.ofNat q] := by
  have hd := dec_enc c h
  have hp := enc_pos c
  rw [litW, enc_ascii q hq]
  generalize Utf8.encode (c : Int) = s at hd hp ⊢
  obtain ⟨f, hf⟩ : ∃ f, s.size = f + 1 := ⟨s.size - 1, by omega⟩
  have e : litGo q s (s.size + 1) 0 = chW q c := by
    rw [litGo, if_pos hp, hd, hf, litGo, if_neg (by rw [hf]; omega), List.append_nil]
  rw [e]
  simp [quoW]
end Go.Proofs.YthjappkcbdaifaaDoor.Tok
