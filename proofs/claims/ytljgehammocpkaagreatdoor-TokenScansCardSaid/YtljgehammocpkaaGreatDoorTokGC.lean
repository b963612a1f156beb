/-
  Layer 8: what stands in a text from a place on; a character as it is written is read back.
  Layer 8: a token as it is written is read back.
-/
import Derived.Test.YtljgehammocpkaaGreatDoorTokPl0
import Derived.Test.YtljgehammocpkaaGreatDoorTokShow2
import Derived.Lib.TrimUEq
import Derived.Lib.MapLaws
import Derived.Lib.ValidLaws
import Derived.Lib.RuneCountTail
namespace Go.Proofs.YtljgehammocpkaaGreatDoor.Tok
open Go.RowKit
set_option linter.unusedVariables false

/-! ### What stands from a place on -/
structure Sfx (s : ByteArray) (i : Nat) (L : List UInt8) : Prop where
  le : i ≤ s.size
  eq : s.data.toList.drop i = L
theorem Sfx.len {s : ByteArray} {i : Nat} {L : List UInt8} (h : Sfx s i L) : s.size = i + L.length := by
  have e := congrArg List.length h.eq
  rw [List.length_drop, ← Lib.size_eq] at e
  have := h.le
  omega
theorem Sfx.uncons {s : ByteArray} {i : Nat} {c : UInt8} {L : List UInt8} (h : Sfx s i (c :: L)) : ∃ hi : i < s.size, s[i] = c ∧ s.data.toList.drop (i + 1) = L := by
  have hi : i < s.size := by have := h.len; rw [List.length_cons] at this; omega
  have hi' : i < s.data.toList.length := by rw [← Lib.size_eq]; exact hi
  have e := h.eq
  rw [List.drop_eq_getElem_cons hi'] at e
  injection e with e1 e2
  exact ⟨hi, e1, e2⟩
theorem Sfx.lt {s : ByteArray} {i : Nat} {c : UInt8} {L : List UInt8} (h : Sfx s i (c :: L)) : i < s.size := h.uncons.1
theorem Sfx.next {s : ByteArray} {i : Nat} {c : UInt8} {L : List UInt8} (h : Sfx s i (c :: L)) : Sfx s (i + 1) L := by
  obtain ⟨a, -, b⟩ := h.uncons
  exact ⟨a, b⟩
theorem Sfx.app {s : ByteArray} {i : Nat} {A L : List UInt8} (h : Sfx s i (A ++ L)) : Sfx s (i + A.length) L := by
  refine ⟨?_, ?_⟩
  · have := h.len; rw [List.length_append] at this; omega
  · rw [← List.drop_drop, h.eq, List.drop_left]
theorem Sfx.cut {s : ByteArray} {i : Nat} {A L : List UInt8} (h : Sfx s i (A ++ L)) : s.extract i (i + A.length) = ⟨A.toArray⟩ := by
  have e : (s.extract i (i + A.length)).data.toList = A := by rw [extract_list, h.eq, Nat.add_sub_cancel_left, List.take_left]
  rw [← arr_list (s.extract i (i + A.length)), e]
def hdIn (L : List UInt8) (lo hi : Int) : Bool := match L with
  | [] => false
  | c :: _ => decide (lo ≤ (c.toNat : Int) ∧ (c.toNat : Int) ≤ hi)
def hdDig (L : List UInt8) : Bool := hdIn L 48 57
def hdLet (L : List UInt8) : Bool := hdIn L 97 122 || hdIn L 65 90
def hdHex (L : List UInt8) : Bool := hdDig L || hdIn L 97 102
def hdLD (L : List UInt8) : Bool := hdLet L || hdDig L
def hdEnd (L : List UInt8) : Bool := match L with
  | [] => true
  | c :: _ => c.toNat == 10
theorem Sfx.inB {s : ByteArray} {i : Nat} {L : List UInt8} (h : Sfx s i L) (lo hi : Int) : Tok.inB s i lo hi = hdIn L lo hi := by
  cases L with
  | nil => have := h.len; exact inB_end (by rw [List.length_nil] at this; omega)
  | cons c L => obtain ⟨hi', e, -⟩ := h.uncons; unfold Tok.inB; rw [dif_pos hi', e]; rfl
theorem Sfx.endL {s : ByteArray} {i : Nat} {L : List UInt8} (h : Sfx s i L) : Tok.endL s i = hdEnd L := by
  cases L with
  | nil => have := h.len; rw [List.length_nil] at this; unfold Tok.endL; rw [dif_neg (by omega)]; rfl
  | cons c L => obtain ⟨hi', e, -⟩ := h.uncons; unfold Tok.endL; rw [dif_pos hi', e]; rfl
theorem Sfx.isDig {s : ByteArray} {i : Nat} {L : List UInt8} (h : Sfx s i L) : Tok.isDig s i = hdDig L := h.inB 48 57
theorem Sfx.isLet {s : ByteArray} {i : Nat} {L : List UInt8} (h : Sfx s i L) : Tok.isLet s i = hdLet L := by unfold Tok.isLet hdLet; rw [h.inB, h.inB]
theorem Sfx.isHex {s : ByteArray} {i : Nat} {L : List UInt8} (h : Sfx s i L) : Tok.isHex s i = hdHex L := by unfold Tok.isHex hdHex; rw [h.isDig, h.inB]
theorem Sfx.isLD {s : ByteArray} {i : Nat} {L : List UInt8} (h : Sfx s i L) : Tok.isLD s i = hdLD L := by unfold Tok.isLD hdLD; rw [h.isLet, h.isDig]
theorem Sfx.decode {s : ByteArray} {i : Nat} {L : List UInt8} (h : Sfx s i L) : Utf8.decode s i = Lib.decodeL L := by
  have e := Lib.tail_decode s i 0
  rw [Nat.add_zero] at e
  rw [← e, ← h.eq]
  show _ = Utf8.decode ⟨(s.data.toList.drop i).toArray⟩ 0
  congr 1
  rw [← arr_list (s.extract i s.size)]
  congr 2
  rw [Lib.extract_data]
  apply List.take_of_length_le
  rw [List.length_drop, ← Lib.size_eq]
  exact Nat.le_refl _
/-- A run of bytes of a kind. -/
theorem many_sfx {s : ByteArray} {P : Nat → Bool} {p : List UInt8 → Bool} (hP : ∀ i L, Sfx s i L → P i = p L) : ∀ (A : List UInt8) (i f : Nat) {R : List UInt8}, Sfx s i (A ++ R) → (∀ c ∈ A, ∀ L, p (c :: L) = true) → p R = false → A.length ≤ f → manyTo (one P) f i = i + A.length
  | [], i, f, R, h, ha, hr, hf => by
    have e : P i = false := (hP i _ h).trans hr
    cases f with
    | zero => rfl
    | succ f => rw [manyTo, if_neg (by show ¬ P i = true; rw [e]; decide)]; rfl
  | c :: A, i, f, R, h, ha, hr, hf => by
    have e : P i = true := (hP i _ h).trans (ha c (by simp) _)
    rw [List.length_cons] at hf
    obtain ⟨g, rfl⟩ : ∃ g, f = g + 1 := ⟨f - 1, by omega⟩
    rw [manyTo, if_pos (show (one P i).1 = true from e)]
    show manyTo (one P) g (adv (P i) i) = _
    rw [e, adv_t, many_sfx hP A (i + 1) g h.next (fun c hc => ha c (List.mem_cons_of_mem _ hc)) hr (by omega), List.length_cons]
    omega

/-! ### Characters -/
def okC (c : Nat) : Prop := c < 55296 ∨ (57343 < c ∧ c ≤ 1114111)
theorem bk_nat (x : Nat) (h : x < 256) : (UInt8.ofNat x).toNat = x := by
  rw [UInt8.toNat_ofNat']; omega
theorem bk_enc1 (c : Nat) (h : c < 128) : Lib.encodeRune (c : Int) = [UInt8.ofNat c] := by
  unfold Lib.encodeRune
  rw [Lib.encodeRuneZ_one (by omega) (by omega)]
  rfl
theorem bk_enc2 (c : Nat) (h1 : 128 ≤ c) (h2 : c < 2048) : Lib.encodeRune (c : Int) = [UInt8.ofNat (192 + c / 64), UInt8.ofNat (128 + c % 64)] := by
  unfold Lib.encodeRune
  rw [Lib.encodeRuneZ_two (by omega) (by omega)]
  simp only [List.map_cons, List.map_nil]
  rw [show (192 + (c : Int) / 64).toNat = 192 + c / 64 by omega, show (128 + (c : Int) % 64).toNat = 128 + c % 64 by omega]
theorem bk_enc3 (c : Nat) (h : (2048 ≤ c ∧ c < 55296) ∨ (57343 < c ∧ c ≤ 65535)) : Lib.encodeRune (c : Int) = [UInt8.ofNat (224 + c / 4096), UInt8.ofNat (128 + c / 64 % 64), UInt8.ofNat (128 + c % 64)] := by
  unfold Lib.encodeRune
  rw [Lib.encodeRuneZ_three (by omega)]
  simp only [List.map_cons, List.map_nil]
  rw [show (224 + (c : Int) / 4096).toNat = 224 + c / 4096 by omega, show (128 + (c : Int) / 64 % 64).toNat = 128 + c / 64 % 64 by omega, show (128 + (c : Int) % 64).toNat = 128 + c % 64 by omega]
theorem bk_enc4 (c : Nat) (h1 : 65536 ≤ c) (h2 : c ≤ 1114111) : Lib.encodeRune (c : Int) = [UInt8.ofNat (240 + c / 262144), UInt8.ofNat (128 + c / 4096 % 64), UInt8.ofNat (128 + c / 64 % 64), UInt8.ofNat (128 + c % 64)] := by
  unfold Lib.encodeRune
  rw [Lib.encodeRuneZ_four (by omega) (by omega)]
  simp only [List.map_cons, List.map_nil]
  rw [show (240 + (c : Int) / 262144).toNat = 240 + c / 262144 by omega, show (128 + (c : Int) / 4096 % 64).toNat = 128 + c / 4096 % 64 by omega, show (128 + (c : Int) / 64 % 64).toNat = 128 + c / 64 % 64 by omega, show (128 + (c : Int) % 64).toNat = 128 + c % 64 by omega]
theorem bk_enc (c : Nat) (h : okC c) : (Utf8.encode (c : Int)) = ⟨(Lib.encodeRune (c : Int)).toArray⟩ := by
  have hv : Utf8.valid (c : Int) = true := by
    unfold okC at h
    unfold Utf8.valid
    simp only [Bool.or_eq_true, Bool.and_eq_true, decide_eq_true_eq]
    omega
  unfold okC at h
  have e : (Utf8.encode (c : Int)).data.toList = Lib.encodeRune (c : Int) := by
    unfold Utf8.encode
    simp only [hv, if_true, Int.toNat_natCast]
    by_cases h1 : c < 128
    · rw [if_pos h1, bk_enc1 c h1]
    rw [if_neg h1]
    by_cases h2 : c < 2048
    · rw [if_pos h2, bk_enc2 c (by omega) h2]
    rw [if_neg h2]
    by_cases h3 : c < 65536
    · rw [if_pos h3, bk_enc3 c (by omega)]
    · rw [if_neg h3, bk_enc4 c (by omega) (by omega)]
  rw [← arr_list (Utf8.encode (c : Int)), e]
/-- To decode what was encoded, whatever follows. -/
theorem bk_dec (c : Nat) (h : okC c) (L : List UInt8) : Lib.decodeL (Lib.encodeRune (c : Int) ++ L) = (c, (Lib.encodeRune (c : Int)).length) := by
  unfold okC at h
  unfold Lib.decodeL
  rw [Lib.decode_N]
  by_cases h1 : c < 128
  · rw [bk_enc1 c h1]
    show Lib.decodeN (L.length + 1 - 0) (UInt8.ofNat c).toNat _ _ _ = (c, 1)
    rw [bk_nat c (by omega)]
    unfold Lib.decodeN
    rw [if_pos h1]
  by_cases h2 : c < 2048
  · rw [bk_enc2 c (by omega) h2]
    show Lib.decodeN (L.length + 2 - 0) (UInt8.ofNat (192 + c / 64)).toNat (UInt8.ofNat (128 + c % 64)).toNat _ _ = (c, 2)
    rw [bk_nat _ (by omega), bk_nat _ (by omega)]
    unfold Lib.decodeN
    rw [if_neg (by omega), if_pos (by omega), if_pos (by omega)]
    congr 1
    omega
  by_cases h3 : c < 65536
  · rw [bk_enc3 c (by omega)]
    show Lib.decodeN (L.length + 3 - 0) (UInt8.ofNat (224 + c / 4096)).toNat (UInt8.ofNat (128 + c / 64 % 64)).toNat (UInt8.ofNat (128 + c % 64)).toNat _ = (c, 3)
    rw [bk_nat _ (by omega), bk_nat _ (by omega), bk_nat _ (by omega)]
    unfold Lib.decodeN
    rw [if_neg (by omega), if_neg (by omega), if_pos (by omega), if_pos (by omega)]
    congr 1
    omega
  · rw [bk_enc4 c (by omega) (by omega)]
    show Lib.decodeN (L.length + 4 - 0) (UInt8.ofNat (240 + c / 262144)).toNat (UInt8.ofNat (128 + c / 4096 % 64)).toNat (UInt8.ofNat (128 + c / 64 % 64)).toNat (UInt8.ofNat (128 + c % 64)).toNat = (c, 4)
    rw [bk_nat _ (by omega), bk_nat _ (by omega), bk_nat _ (by omega), bk_nat _ (by omega)]
    unfold Lib.decodeN
    rw [if_neg (by omega), if_neg (by omega), if_neg (by omega), if_pos (by omega), if_pos (by omega)]
    congr 1
    omega
theorem bk_head (c : Nat) (h : okC c) : ∃ b r, Lib.encodeRune (c : Int) = b :: r ∧ ((c < 128 ∧ b.toNat = c ∧ r = []) ∨ (128 ≤ c ∧ 192 ≤ b.toNat ∧ r ≠ [])) := by
  unfold okC at h
  by_cases h1 : c < 128
  · exact ⟨_, _, bk_enc1 c h1, Or.inl ⟨h1, bk_nat c (by omega), rfl⟩⟩
  by_cases h2 : c < 2048
  · exact ⟨_, _, bk_enc2 c (by omega) h2, Or.inr ⟨by omega, by rw [bk_nat _ (by omega)]; omega, by simp⟩⟩
  by_cases h3 : c < 65536
  · exact ⟨_, _, bk_enc3 c (by omega), Or.inr ⟨by omega, by rw [bk_nat _ (by omega)]; omega, by simp⟩⟩
  · exact ⟨_, _, bk_enc4 c (by omega) (by omega), Or.inr ⟨by omega, by rw [bk_nat _ (by omega)]; omega, by simp⟩⟩
theorem bk_hexV : ∀ c : Fin 128, hexV (hexL c.val) = c.val := by decide +kernel
theorem bk_hexC : ∀ c : Fin 128, ∀ x ∈ hexL c.val, hdHex [x] = true := by decide +kernel
theorem bk_hexN : ∀ c : Fin 128, hexL c.val ≠ [] := by decide +kernel
theorem hex_any (c : UInt8) (L : List UInt8) : hdHex (c :: L) = hdHex [c] := rfl

/-- A code point in braces. -/
theorem cpS_hex {s : ByteArray} {i c : Nat} (hc : c < 128) {L : List UInt8} (h : Sfx s i (123 :: (hexL c ++ 125 :: L))) : cpS s i = some (c, i + 1 + (hexL c).length + 1) := by
  have h1 := h.next
  have hm : manyTo (one (isHex s)) (s.size - (i + 1)) (i + 1) = i + 1 + (hexL c).length := by
    refine many_sfx (fun i L => Sfx.isHex) (hexL c) (i + 1) _ h1 (fun x hx L => ?_) (by rfl) ?_
    · rw [hex_any]; exact bk_hexC ⟨c, hc⟩ x hx
    · have := h1.len; rw [List.length_append] at this; omega
  have e3 : (s.extract (i + 1) (i + 1 + (hexL c).length)).data.toList = hexL c := by rw [h1.cut]
  have hv := bk_hexV ⟨c, hc⟩
  have hn := List.length_pos_iff.2 (bk_hexN ⟨c, hc⟩)
  have hl := hexL_len c
  simp only at hv hn
  unfold cpS
  rw [if_pos (by rw [h.inB]; rfl), hm, e3, hv, if_pos ⟨by rw [h1.app.inB]; rfl, by omega, by omega, by simp only [Lib.validRune, decide_eq_true_eq]; omega⟩]
theorem escS_one {s : ByteArray} {i : Nat} {x : UInt8} {L : List UInt8} (h : Sfx s i (x :: L)) : escS s i = (if x = 110 then some (10, i + 1) else if x = 116 then some (9, i + 1) else if x = 114 then some (13, i + 1) else if x = 92 then some (92, i + 1) else if x = 39 then some (39, i + 1) else if x = 34 then some (34, i + 1) else if x = 117 then cpS s (i + 1) else none) := by
  have e : ∀ k : UInt8, (Tok.inB s i (k.toNat : Int) (k.toNat : Int) = true) = (x = k) := fun k => by
    rw [h.inB]
    apply propext
    simp only [hdIn, decide_eq_true_eq]
    constructor
    · intro q; exact UInt8.toNat_inj.1 (by omega)
    · intro q; subst q; exact ⟨Int.le_refl _, Int.le_refl _⟩
  have e1 := e 110; have e2 := e 116; have e3 := e 114; have e4 := e 92; have e5 := e 39; have e6 := e 34; have e7 := e 117
  unfold escS
  simp only [show ((110 : UInt8).toNat : Int) = 110 from rfl, show ((116 : UInt8).toNat : Int) = 116 from rfl, show ((114 : UInt8).toNat : Int) = 114 from rfl, show ((92 : UInt8).toNat : Int) = 92 from rfl, show ((39 : UInt8).toNat : Int) = 39 from rfl, show ((34 : UInt8).toNat : Int) = 34 from rfl, show ((117 : UInt8).toNat : Int) = 117 from rfl] at e1 e2 e3 e4 e5 e6 e7
  simp only [e1, e2, e3, e4, e5, e6, e7]
theorem charS_esc {s : ByteArray} {i c j : Nat} {L : List UInt8} (start : Nat) (h : Sfx s i (92 :: L)) (he : escS s (i + 1) = some (c, j)) : charS s start i = .ok c j := by
  unfold charS
  rw [if_neg (by rw [h.endL]; show ¬ false = true; decide), if_pos (by rw [h.inB]; rfl), he]
  rfl
/-- A character as it is written is read back. -/
theorem charS_chW {s : ByteArray} {p q c : Nat} {L : List UInt8} (start : Nat) (hq : q = 39 ∨ q = 34) (hc : okC c) (h : Sfx s p (chW q c ++ L)) : charS s start p = .ok c (p + (chW q c).length) := by
  unfold chW at h ⊢
  split at h
  · rename_i e; subst e
    exact charS_esc start h (by rw [escS_one h.next]; rfl)
  rename_i n1
  rw [if_neg n1] at *
  split at h
  · rename_i e; subst e
    exact charS_esc start h (by rw [escS_one h.next]; rfl)
  rename_i n2
  rw [if_neg n2] at *
  split at h
  · rename_i e; subst e
    exact charS_esc start h (by rw [escS_one h.next]; rfl)
  rename_i n3
  rw [if_neg n3] at *
  split at h
  · rename_i e
    rw [if_pos e]
    have h' : Sfx s p (92 :: 117 :: 123 :: (hexL c ++ 125 :: L)) := by
      have e2 : [92, 117, 123] ++ hexL c ++ [125] ++ L = 92 :: 117 :: 123 :: (hexL c ++ 125 :: L) := by simp
      rw [e2] at h; exact h
    refine charS_esc start h' ?_
    rw [escS_one h'.next]
    show cpS s (p + 1 + 1) = _
    rw [cpS_hex (by omega) h'.next.next]
    congr 2
    simp only [List.length_append, List.length_cons, List.length_nil]
    omega
  rename_i n4
  rw [if_neg n4] at *
  split at h
  · rename_i e
    have hc1 : c < 128 := by omega
    rw [if_pos e]
    rw [bk_enc1 c hc1] at h ⊢
    refine charS_esc start h ?_
    rw [escS_one h.next]
    rcases hq with rfl | rfl <;> rcases e with rfl | rfl <;> rfl
  · rename_i n5
    rw [if_neg n5]
    obtain ⟨b, r, hb, hh⟩ := bk_head c hc
    have h2 : Sfx s p (b :: (r ++ L)) := by rw [hb] at h; exact h
    have hd := h.decode
    rw [bk_dec c hc] at hd
    unfold charS
    have b1 : ¬ b.toNat = 10 := by omega
    have b2 : ¬ b.toNat = 92 := by omega
    rw [if_neg (by rw [h2.endL]; simpa [hdEnd] using b1), if_neg (by rw [h2.inB]; simp only [hdIn, decide_eq_true_eq]; omega), hd]
    simp only
    rw [if_pos]
    unfold plainB
    simp only [Bool.and_eq_true, Bool.or_eq_true, decide_eq_true_eq]
    refine ⟨by omega, ?_⟩
    by_cases e : c = 65533
    · subst e
      right
      rw [bk_enc3 65533 (by omega)]
      decide
    · exact Or.inl e
theorem chW_head (q c : Nat) (hq : q = 39 ∨ q = 34) (hc : okC c) : ∃ b r, chW q c = b :: r ∧ ¬ b.toNat = q := by
  have n92 : ∀ r : List UInt8, ∃ b r', (92 :: r : List UInt8) = b :: r' ∧ ¬ b.toNat = q := fun r => ⟨92, r, rfl, by rcases hq with rfl | rfl <;> decide⟩
  unfold chW
  split
  · exact n92 _
  split
  · exact n92 _
  split
  · exact n92 _
  split
  · exact n92 _
  split
  · exact n92 _
  · rename_i n5
    obtain ⟨b, r, hb, hh⟩ := bk_head c hc
    exact ⟨b, r, hb, by omega⟩
end Go.Proofs.YtljgehammocpkaaGreatDoor.Tok

namespace Go.Proofs.YtljgehammocpkaaGreatDoor.Tok
open Go.RowKit
set_option linter.unusedVariables false

/-- Nothing, or a blank. -/
def Gap (R : List UInt8) : Prop := R = [] ∨ ∃ r, R = 32 :: r
theorem Gap.no {R : List UInt8} (h : Gap R) {lo hi : Int} (hn : ¬ (lo ≤ 32 ∧ 32 ≤ hi)) : hdIn R lo hi = false := by
  rcases h with rfl | ⟨r, rfl⟩
  · rfl
  · exact decide_eq_false hn
theorem Gap.dig {R : List UInt8} (h : Gap R) : hdDig R = false := h.no (by decide)
theorem Gap.lett {R : List UInt8} (h : Gap R) : hdLet R = false := by unfold hdLet; rw [h.no (by decide), h.no (by decide)]; rfl
theorem Gap.LD {R : List UInt8} (h : Gap R) : hdLD R = false := by unfold hdLD; rw [h.lett, h.dig]; rfl
theorem arr_of (L : List UInt8) : (⟨L.toArray⟩ : ByteArray).data.toList = L := by simp
theorem toList_of (L : List UInt8) : (⟨L.toArray⟩ : ByteArray).toList = L := by rw [ByteArray.toList_eq]
theorem fls {b : Bool} (h : b = false) : ¬ b = true := by rw [h]; decide
theorem tokenS_sfx {s : ByteArray} {i : Nat} {L : List UInt8} (h : Sfx s i L) : tokenS s i = if hdIn L 95 95 = true then numS s i (i + 1) else if hdDig L = true then numS s i (i + 1) else if hdLet L = true then wordS s i (i + 1)
    else if hdIn L 39 39 = true then clitS s i (i + 1) else if hdIn L 34 34 = true then strS s i (i + 1) else if (hdIn L 10 10 || hdIn L 59 59) = true then .tok 6 0 ⟨#[]⟩ (i + 1) else symS s i := by
  unfold tokenS
  rw [h.inB, h.isDig, h.isLet, h.inB, h.inB, h.inB, h.inB]

/-! ### Numbers -/
theorem dg_dig (m : Nat) : ∀ c ∈ Num.dg m, 48 ≤ c.toNat ∧ c.toNat ≤ 57 := by
  induction m using Nat.strongRecOn with
  | ind m ih =>
    by_cases h : m < 10
    · rw [Num.dg_last h]
      intro c hc
      rw [List.mem_singleton] at hc
      subst hc
      rw [Num.dig_nat]; omega
    · rw [Num.dg_more h]
      intro c hc
      rcases List.mem_append.1 hc with q | q
      · exact ih (m / 10) (by omega) c q
      · rw [List.mem_singleton] at q
        subst q
        rw [Num.dig_nat]; omega
theorem numS_run {s : ByteArray} {i : Nat} {x : UInt8} {D R : List UInt8} {n : Int} (h : Sfx s i (x :: D ++ R)) (hD : ∀ c ∈ D, 48 ≤ c.toNat ∧ c.toNat ≤ 57) (hr : Num.rdS (x :: D) = (n, 0)) (hR : Gap R) : numS s i (i + 1) = .tok 1 n ⟨#[]⟩ (i + (x :: D).length) := by
  have h1 : Sfx s (i + 1) (D ++ R) := Sfx.next h
  have hm : manyTo (one (isDig s)) (s.size - (i + 1)) (i + 1) = i + 1 + D.length := many_sfx (fun i L => Sfx.isDig) D (i + 1) _ h1 (fun c hc L => by have := hD c hc; simp only [hdDig, hdIn, decide_eq_true_eq]; omega) hR.dig (by have := h1.len; rw [List.length_append] at this; omega)
  have e : i + 1 + D.length = i + (x :: D).length := by rw [List.length_cons]; omega
  have ha := Sfx.app (A := x :: D) h
  unfold numS
  rw [hm, e]
  unfold numAt
  rw [Sfx.cut (A := x :: D) h, arr_of, hr, if_neg]
  rw [ha.isLet, ha.inB, hR.lett, hR.no (by decide)]
  simp
theorem num_back {s : ByteArray} {i : Nat} {n : Int} {R : List UInt8} (hf : Num.fitsB n = true) (h : Sfx s i (Num.shL n ++ R)) (hR : Gap R) : tokenS s i = .tok 1 n ⟨#[]⟩ (i + (Num.shL n).length) := by
  have hr := Num.rdS_shL n
  rw [if_pos hf] at hr
  rw [tokenS_sfx h]
  by_cases hn : n < 0
  · rw [Num.shL_neg hn] at h hr ⊢
    rw [if_pos (by rfl)]
    exact numS_run h (dg_dig _) hr hR
  · rw [Num.shL_pos hn] at h hr ⊢
    have hd := dg_dig n.natAbs
    obtain ⟨c, r, e, hc⟩ := Num.dg_head n.natAbs
    rw [e] at h hr hd ⊢
    have h1 := hd c (by simp)
    rw [if_neg (by simp only [List.cons_append, hdIn, decide_eq_true_eq]; omega), if_pos (by simp only [List.cons_append, hdDig, hdIn, decide_eq_true_eq]; omega)]
    exact numS_run h (fun c hc => hd c (List.mem_cons_of_mem _ hc)) hr hR

/-! ### Words and symbols -/
theorem wordS_run {s : ByteArray} {i : Nat} {x : UInt8} {D R : List UInt8} (h : Sfx s i (x :: D ++ R)) (hD : ∀ c ∈ D, hdLD [c] = true) (hR : Gap R) : wordS s i (i + 1) = wordAt ⟨(x :: D).toArray⟩ i (i + (x :: D).length) := by
  have h1 : Sfx s (i + 1) (D ++ R) := Sfx.next h
  have hm : manyTo (one (isLD s)) (s.size - (i + 1)) (i + 1) = i + 1 + D.length := many_sfx (fun i L => Sfx.isLD) D (i + 1) _ h1 (fun c hc L => hD c hc) hR.LD (by have := h1.len; rw [List.length_append] at this; omega)
  have e : i + 1 + D.length = i + (x :: D).length := by rw [List.length_cons]; omega
  unfold wordS
  rw [hm, e, Sfx.cut (A := x :: D) h]
theorem Named.mem {t : ByteArray} (h : Named t) : ∀ c ∈ t.data.toList, lowC c ∨ digC c := by
  intro c hc
  obtain ⟨i, hi, rfl⟩ := List.getElem_of_mem hc
  exact h.all i (by rw [Lib.size_eq]; exact hi)
theorem name_back {s : ByteArray} {i : Nat} {t : ByteArray} {R : List UInt8} (hN : Named t) (h : Sfx s i (t.data.toList ++ R)) (hR : Gap R) : tokenS s i = .tok 4 0 t (i + t.data.toList.length) := by
  have hm := hN.mem
  have hp := hN.pos
  have hf : ∀ x D, t.data.toList = x :: D → lowC x := fun x D e => by
    have q := hN.first hp
    have e2 : t[0] = t.data.toList[0]'(by rw [← Lib.size_eq]; exact hp) := rfl
    rw [e2] at q
    simp only [e, List.getElem_cons_zero] at q
    exact q
  have hz := hN.small
  have hres := hN.free
  have hb := arr_list t
  rw [Lib.size_eq] at hp
  have hz2 := hz
  rw [ByteArray.toList_eq] at hres
  cases hl : t.data.toList with
  | nil => rw [hl] at hp; simp at hp
  | cons x D =>
    rw [hl] at h hm hb hres
    have hx := hf x D hl
    unfold lowC at hx
    rw [tokenS_sfx h, if_neg (by simp only [List.cons_append, hdIn, decide_eq_true_eq]; omega), if_neg (by simp only [List.cons_append, hdDig, hdIn, decide_eq_true_eq]; omega),
      if_pos (by simp only [List.cons_append, hdLet, hdIn, Bool.or_eq_true, decide_eq_true_eq]; omega)]
    rw [wordS_run h (fun c hc => by
      have := hm c (List.mem_cons_of_mem _ hc)
      unfold lowC digC at this
      simp only [hdLD, hdLet, hdDig, hdIn, Bool.or_eq_true, decide_eq_true_eq]
      omega) hR, hb]
    unfold wordAt
    have hu : ¬ upB t.toList = true := by
      rw [ByteArray.toList_eq, hl]
      intro q
      obtain ⟨c, c1, c2⟩ := List.any_eq_true.1 q
      have := hm c c1
      unfold lowC digC at this
      rw [decide_eq_true_eq] at c2
      omega
    rw [if_neg (by rw [ByteArray.toList_eq, hl, hres]; decide), if_neg hu, if_neg (by omega)]
def okSym (l : List UInt8) : Bool := match l with
  | [] => false
  | c :: r => if hdLet l then resB l && r.all (fun x => hdLD [x]) else
     !(hdIn l 95 95) && !(hdDig l) && !(hdIn l 39 39) && !(hdIn l 34 34) && !(hdIn l 10 10 || hdIn l 59 59) && (decide (r.length = 1) || (decide (r = []) && !(signB [c, 32] || resB [c, 32]))) && !(c == 32 || c == 9 || c == 13 || c == 35)
theorem okSym_all : (signWords ++ resWords).all okSym = true := by decide +kernel
theorem okSym_of {l : List UInt8} (h : (signB l || resB l) = true) : okSym l = true := by
  refine List.all_eq_true.1 okSym_all l ?_
  rw [Bool.or_eq_true] at h
  rw [List.mem_append]
  rcases h with h | h
  · obtain ⟨c, h1, h2⟩ := List.any_eq_true.1 h
    rw [eq_of_beq h2]; exact Or.inl h1
  · obtain ⟨c, h1, h2⟩ := List.any_eq_true.1 h
    rw [eq_of_beq h2]; exact Or.inr h1
theorem sym_back {s : ByteArray} {i : Nat} {t R : List UInt8} (hS : (signB t || resB t) = true) (h : Sfx s i (t ++ R)) (hR : Gap R) : tokenS s i = .tok 5 0 ⟨t.toArray⟩ (i + t.length) := by
  have hk := okSym_of hS
  cases t with
  | nil => cases hk
  | cons c r =>
    have hh : ∀ lo hi, hdIn (c :: r ++ R) lo hi = hdIn (c :: r) lo hi := fun _ _ => rfl
    rw [tokenS_sfx h, hh, hh, hh, hh, hh, show hdDig (c :: r ++ R) = hdDig (c :: r) from rfl, show hdLet (c :: r ++ R) = hdLet (c :: r) from rfl]
    simp only [okSym] at hk
    by_cases hl : hdLet (c :: r) = true
    · rw [if_pos hl, Bool.and_eq_true] at hk
      have hl2 := hl
      simp only [hdLet, hdIn, Bool.or_eq_true, decide_eq_true_eq] at hl2
      rw [if_neg (by simp only [hdIn, decide_eq_true_eq]; omega), if_neg (by simp only [hdDig, hdIn, decide_eq_true_eq]; omega), if_pos hl, wordS_run h (fun x hx => List.all_eq_true.1 hk.2 x hx) hR]
      unfold wordAt
      rw [toList_of, if_pos hk.1]
    · rw [if_neg hl] at hk
      simp only [Bool.and_eq_true, Bool.not_eq_true', Bool.or_eq_true, decide_eq_true_eq] at hk
      obtain ⟨⟨⟨⟨⟨⟨k1, k2⟩, k3⟩, k4⟩, k5⟩, k6⟩, k7⟩ := hk
      rw [if_neg (by rw [k1]; decide), if_neg (by rw [k2]; decide), if_neg hl, if_neg (by rw [k3]; decide), if_neg (by rw [k4]; decide), if_neg (by rw [k5]; decide)]
      unfold symS
      rcases k6 with k6 | ⟨k6, k8⟩
      · obtain ⟨d, rfl⟩ : ∃ d, r = [d] := by
          cases r with
          | nil => cases k6
          | cons d r' => cases r' with
            | nil => exact ⟨d, rfl⟩
            | cons _ _ => simp at k6
        have hc := Sfx.cut (A := [c, d]) h
        have hz := h.len
        simp only [List.length_append, List.length_cons, List.length_nil] at hc hz
        rw [hc, toList_of, if_pos ⟨by omega, hS⟩]
        rfl
      · subst k6
        have hc1 := Sfx.cut (A := [c]) h
        simp only [List.length_cons, List.length_nil] at hc1
        rw [if_neg, hc1, toList_of, if_pos hS]
        · rfl
        · rintro ⟨q1, q2⟩
          rcases hR with rfl | ⟨r, rfl⟩
          · have hz := h.len
            simp only [List.length_append, List.length_cons, List.length_nil] at hz
            omega
          · have hc := Sfx.cut (A := [c, 32]) (L := r) h
            simp only [List.length_cons, List.length_nil] at hc
            rw [hc, toList_of, k8] at q2
            cases q2

/-! ### Literals -/
theorem litGo_one {q c : Nat} (hc : okC c) : litW q (Utf8.encode (c : Int)) = Lib.encodeRune (q : Int) ++ chW q c ++ Lib.encodeRune (q : Int) := by
  have hd := bk_dec c hc []
  have he := bk_enc c hc
  rw [List.append_nil] at hd
  obtain ⟨b, r, hb, -⟩ := bk_head c hc
  have hz : (Utf8.encode (c : Int)).size = (Lib.encodeRune (c : Int)).length := by rw [he, Lib.size_eq, arr_of]
  have hpos : 0 < (Lib.encodeRune (c : Int)).length := by rw [hb]; simp
  have hdd : Utf8.decode (Utf8.encode (c : Int)) 0 = (c, (Utf8.encode (c : Int)).size) := by
    rw [hz, ← hd, he]; rfl
  rw [← hz] at hpos
  generalize Utf8.encode (c : Int) = s at hdd hpos ⊢
  have key : litGo q s (s.size + 1) 0 = chW q c := by
    obtain ⟨f, hf⟩ : ∃ f, s.size = f + 1 := ⟨s.size - 1, by omega⟩
    rw [litGo, if_pos hpos, hdd, hf]
    simp only
    rw [litGo, if_neg (by omega), List.append_nil]
  rw [litW, key]
theorem bk_rune (s : ByteArray) (i : Nat) : okC (Utf8.decode s i).1 := by
  have h : ∀ k, (s.get! k).toNat < 256 := fun k => (s.get! k).toNat_lt
  have h0 := h (i + 0)
  have h1 := h (i + 1)
  have h2 := h (i + 2)
  have h3 := h (i + 3)
  unfold okC
  unfold Utf8.decode Utf8.runeError Utf8.valid
  simp only
  repeat' split
  all_goals simp only [Bool.and_eq_true, Bool.or_eq_true, decide_eq_true_eq, ge_iff_le] at *
  all_goals omega
theorem char_back {s : ByteArray} {i c : Nat} {R : List UInt8} (hc : okC c) (h : Sfx s i (39 :: (chW 39 c ++ 39 :: R))) : tokenS s i = .tok 2 (c : Int) ⟨#[]⟩ (i + (39 :: (chW 39 c ++ [39])).length) := by
  obtain ⟨b, r, e, hb⟩ := chW_head 39 c (Or.inl rfl) hc
  have h1 := h.next
  have hx := charS_chW i (Or.inl rfl) hc h1
  have h2 := h1.app
  rw [tokenS_sfx h, if_neg (by exact fls rfl), if_neg (by exact fls rfl), if_neg (by exact fls rfl), if_pos (by rfl)]
  unfold clitS
  rw [if_neg (by rw [h1.inB, e]; simp only [List.cons_append, hdIn, decide_eq_true_eq]; omega), hx]
  rw [clitEnd, if_pos (by rw [h2.inB]; rfl)]
  congr 1
  simp only [List.length_cons, List.length_append, List.length_nil]
  omega
theorem strGo_run {s : ByteArray} {st : Nat} : ∀ (cs : List Nat) (i f : Nat) (acc : List UInt8) {R : List UInt8}, (∀ c ∈ cs, okC c) → Sfx s i (cs.flatMap (chW 34) ++ 34 :: R) → cs.length < f →
    strGo s st f i acc = .tok 3 0 ⟨(acc ++ cs.flatMap (fun c : Nat => Lib.encodeRune (c : Int))).toArray⟩ (i + (cs.flatMap (chW 34)).length + 1)
  | [], i, f, acc, R, hc, h, hf => by
    obtain ⟨g, rfl⟩ : ∃ g, f = g + 1 := ⟨f - 1, by simp at hf; omega⟩
    have h' : Sfx s i (34 :: R) := h
    rw [strGo, if_pos (by rw [h'.inB]; rfl)]
    simp
  | c :: cs, i, f, acc, R, hc, h, hf => by
    rw [List.length_cons] at hf
    obtain ⟨g, rfl⟩ : ∃ g, f = g + 1 := ⟨f - 1, by omega⟩
    have h' : Sfx s i (chW 34 c ++ (cs.flatMap (chW 34) ++ 34 :: R)) := by rw [List.flatMap_cons, List.append_assoc] at h; exact h
    obtain ⟨b, r, e, hb⟩ := chW_head 34 c (Or.inr rfl) (hc c (by simp))
    rw [strGo, if_neg (by rw [h'.inB, e]; simp only [List.cons_append, hdIn, decide_eq_true_eq]; omega), charS_chW st (Or.inr rfl) (hc c (by simp)) h']
    simp only
    rw [strGo_run cs _ g _ (fun x hx => hc x (List.mem_cons_of_mem _ hx)) h'.app (by omega)]
    rw [List.flatMap_cons, List.flatMap_cons, List.append_assoc, List.length_append, Nat.add_assoc i]
theorem str_back {s : ByteArray} {i : Nat} {cs : List Nat} {R : List UInt8} (hc : ∀ c ∈ cs, okC c) (hl : cs.length ≤ (cs.flatMap (chW 34)).length) (h : Sfx s i (34 :: (cs.flatMap (chW 34) ++ 34 :: R))) :
    tokenS s i = .tok 3 0 ⟨(cs.flatMap (fun c : Nat => Lib.encodeRune (c : Int))).toArray⟩ (i + (34 :: (cs.flatMap (chW 34) ++ [34])).length) := by
  have h1 := h.next
  have hz := h1.len
  rw [List.length_append, List.length_cons] at hz
  rw [tokenS_sfx h, if_neg (by exact fls rfl), if_neg (by exact fls rfl), if_neg (by exact fls rfl), if_neg (by exact fls rfl), if_pos (by rfl)]
  unfold strS
  rw [strGo_run cs (i + 1) _ [] hc h1 (by omega)]
  congr 1
  simp only [List.length_cons, List.length_append, List.length_nil]
  omega
theorem chW_pos {q : Nat} (hq : q = 39 ∨ q = 34) : ∀ {cs : List Nat}, (∀ c ∈ cs, okC c) → cs.length ≤ (cs.flatMap (chW q)).length
  | [], _ => Nat.zero_le _
  | c :: cs, h => by
    have := chW_pos hq (cs := cs) (fun x hx => h x (List.mem_cons_of_mem _ hx))
    obtain ⟨b, r, e, -⟩ := chW_head q c hq (h c (by simp))
    rw [List.flatMap_cons, List.length_append, e, List.length_cons, List.length_cons]
    omega
end Go.Proofs.YtljgehammocpkaaGreatDoor.Tok
