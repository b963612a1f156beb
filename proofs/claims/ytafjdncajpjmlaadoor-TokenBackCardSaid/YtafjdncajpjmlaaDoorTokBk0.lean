/-
  Layer 8: what stands in a text from a place on; a character as it is written is read back.
-/
import Derived.Test.YtafjdncajpjmlaaDoorTokPl0
import Derived.Test.YtafjdncajpjmlaaDoorTokShow2
import Derived.Lib.TrimUEq
import Derived.Lib.MapLaws
import Derived.Lib.ValidLaws
import Derived.Lib.RuneCountTail
namespace Go.Proofs.YtafjdncajpjmlaaDoor.Tok
open Go.RowKit
set_option linter.unusedVariables false

/-! ### What stands from a place on -/
structure Sfx (s : ByteArray) (i : Nat) (L : List UInt8) : Prop where
  le : i ≤ s.size
  eq : s.data.toList.drop i = L
theorem Sfx.len {s : ByteArray} {i : Nat} {L : List UInt8} (h : Sfx s i L) : s.size = i + L.length := by
  have e := congrArg List.length h.eq
  rw [List.length_drop, ← Lib.size_eq] at e
  have := h.le
  omega
theorem Sfx.uncons {s : ByteArray} {i : Nat} {c : UInt8} {L : List UInt8} (h : Sfx s i (c :: L)) : ∃ hi : i < s.size, s[i] = c ∧ s.data.toList.drop (i + 1) = L := by
  have hi : i < s.size := by have := h.len; rw [List.length_cons] at this; omega
  have hi' : i < s.data.toList.length := by rw [← Lib.size_eq]; exact hi
  have e := h.eq
  rw [List.drop_eq_getElem_cons hi'] at e
  injection e with e1 e2
  exact ⟨hi, e1, e2⟩
theorem Sfx.lt {s : ByteArray} {i : Nat} {c : UInt8} {L : List UInt8} (h : Sfx s i (c :: L)) : i < s.size := h.uncons.1
theorem Sfx.next {s : ByteArray} {i : Nat} {c : UInt8} {L : List UInt8} (h : Sfx s i (c :: L)) : Sfx s (i + 1) L := by
  obtain ⟨a, -, b⟩ := h.uncons
  exact ⟨a, b⟩
theorem Sfx.app {s : ByteArray} {i : Nat} {A L : List UInt8} (h : Sfx s i (A ++ L)) : Sfx s (i + A.length) L := by
  refine ⟨?_, ?_⟩
  · have := h.len; rw [List.length_append] at this; omega
  · rw [← List.drop_drop, h.eq, List.drop_left]
theorem Sfx.cut {s : ByteArray} {i : Nat} {A L : List UInt8} (h : Sfx s i (A ++ L)) : s.extract i (i + A.length) = ⟨A.toArray⟩ := by
  have e : (s.extract i (i + A.length)).data.toList = A := by rw [extract_list, h.eq, Nat.add_sub_cancel_left, List.take_left]
  rw [← arr_list (s.extract i (i + A.length)), e]
def hdIn (L : List UInt8) (lo hi : Int) : Bool := match L with
  | [] => false
  | c :: _ => decide (lo ≤ (c.toNat : Int) ∧ (c.toNat : Int) ≤ hi)
def hdDig (L : List UInt8) : Bool := hdIn L 48 57
def hdLet (L : List UInt8) : Bool := hdIn L 97 122 || hdIn L 65 90
def hdHex (L : List UInt8) : Bool := hdDig L || hdIn L 97 102
def hdLD (L : List UInt8) : Bool := hdLet L || hdDig L
def hdEnd (L : List UInt8) : Bool := match L with
  | [] => true
  | c :: _ => c.toNat == 10
theorem Sfx.inB {s : ByteArray} {i : Nat} {L : List UInt8} (h : Sfx s i L) (lo hi : Int) : Tok.inB s i lo hi = hdIn L lo hi := by
  cases L with
  | nil => have := h.len; exact inB_end (by rw [List.length_nil] at this; omega)
  | cons c L => obtain ⟨hi', e, -⟩ := h.uncons; unfold Tok.inB; rw [dif_pos hi', e]; rfl
theorem Sfx.endL {s : ByteArray} {i : Nat} {L : List UInt8} (h : Sfx s i L) : Tok.endL s i = hdEnd L := by
  cases L with
  | nil => have := h.len; rw [List.length_nil] at this; unfold Tok.endL; rw [dif_neg (by omega)]; rfl
  | cons c L => obtain ⟨hi', e, -⟩ := h.uncons; unfold Tok.endL; rw [dif_pos hi', e]; rfl
theorem Sfx.isDig {s : ByteArray} {i : Nat} {L : List UInt8} (h : Sfx s i L) : Tok.isDig s i = hdDig L := h.inB 48 57
theorem Sfx.isLet {s : ByteArray} {i : Nat} {L : List UInt8} (h : Sfx s i L) : Tok.isLet s i = hdLet L := by unfold Tok.isLet hdLet; rw [h.inB, h.inB]
theorem Sfx.isHex {s : ByteArray} {i : Nat} {L : List UInt8} (h : Sfx s i L) : Tok.isHex s i = hdHex L := by unfold Tok.isHex hdHex; rw [h.isDig, h.inB]
theorem Sfx.isLD {s : ByteArray} {i : Nat} {L : List UInt8} (h : Sfx s i L) : Tok.isLD s i = hdLD L := by unfold Tok.isLD hdLD; rw [h.isLet, h.isDig]
theorem Sfx.decode {s : ByteArray} {i : Nat} {L : List UInt8} (h : Sfx s i L) : Utf8.decode s i = Lib.decodeL L := by
  have e := Lib.tail_decode s i 0
  rw [Nat.add_zero] at e
  rw [← e, ← h.eq]
  show _ = Utf8.decode ⟨(s.data.toList.drop i).toArray⟩ 0
  congr 1
  rw [← arr_list (s.extract i s.size)]
  congr 2
  rw [Lib.extract_data]
  apply List.take_of_length_le
  rw [List.length_drop, ← Lib.size_eq]
  exact Nat.le_refl _
/-- A run of bytes of a kind. -/
theorem many_sfx {s : ByteArray} {P : Nat → Bool} {p : List UInt8 → Bool} (hP : ∀ i L, Sfx s i L → P i = p L) : ∀ (A : List UInt8) (i f : Nat) {R : List UInt8}, Sfx s i (A ++ R) → (∀ c ∈ A, ∀ L, p (c :: L) = true) → p R = false → A.length ≤ f → manyTo (one P) f i = i + A.length
  | [], i, f, R, h, ha, hr, hf => by
    have e : P i = false := (hP i _ h).trans hr
    cases f with
    | zero => rfl
    | succ f => rw [manyTo, if_neg (by show ¬ P i = true; rw [e]; decide)]; rfl
  | c :: A, i, f, R, h, ha, hr, hf => by
    have e : P i = true := (hP i _ h).trans (ha c (by simp) _)
    rw [List.length_cons] at hf
    obtain ⟨g, rfl⟩ : ∃ g, f = g + 1 := ⟨f - 1, by omega⟩
    rw [manyTo, if_pos (show (one P i).1 = true from e)]
    show manyTo (one P) g (adv (P i) i) = _
    rw [e, adv_t, many_sfx hP A (i + 1) g h.next (fun c hc => ha c (List.mem_cons_of_mem _ hc)) hr (by omega), List.length_cons]
    omega

/-! ### Characters -/
def okC (c : Nat) : Prop := c < 55296 ∨ (57343 < c ∧ c ≤ 1114111)
theorem bk_nat (x : Nat) (h : x < 256) : (UInt8.ofNat x).toNat = x := by
  rw [UInt8.toNat_ofNat']; omega
theorem bk_enc1 (c : Nat) (h : c < 128) : Lib.encodeRune (c : Int) = [UInt8.ofNat c] := by
  unfold Lib.encodeRune
  rw [Lib.encodeRuneZ_one (by omega) (by omega)]
  rfl
theorem bk_enc2 (c : Nat) (h1 : 128 ≤ c) (h2 : c < 2048) : Lib.encodeRune (c : Int) = [UInt8.ofNat (192 + c / 64), UInt8.ofNat (128 + c % 64)] := by
  unfold Lib.encodeRune
  rw [Lib.encodeRuneZ_two (by omega) (by omega)]
  simp only [List.map_cons, List.map_nil]
  rw [show (192 + (c : Int) / 64).toNat = 192 + c / 64 by omega, show (128 + (c : Int) % 64).toNat = 128 + c % 64 by omega]
theorem bk_enc3 (c : Nat) (h : (2048 ≤ c ∧ c < 55296) ∨ (57343 < c ∧ c ≤ 65535)) : Lib.encodeRune (c : Int) = [UInt8.ofNat (224 + c / 4096), UInt8.ofNat (128 + c / 64 % 64), UInt8.ofNat (128 + c % 64)] := by
  unfold Lib.encodeRune
  rw [Lib.encodeRuneZ_three (by omega)]
  simp only [List.map_cons, List.map_nil]
  rw [show (224 + (c : Int) / 4096).toNat = 224 + c / 4096 by omega, show (128 + (c : Int) / 64 % 64).toNat = 128 + c / 64 % 64 by omega, show (128 + (c : Int) % 64).toNat = 128 + c % 64 by omega]
theorem bk_enc4 (c : Nat) (h1 : 65536 ≤ c) (h2 : c ≤ 1114111) : Lib.encodeRune (c : Int) = [UInt8.ofNat (240 + c / 262144), UInt8.ofNat (128 + c / 4096 % 64), UInt8.ofNat (128 + c / 64 % 64), UInt8.ofNat (128 + c % 64)] := by
  unfold Lib.encodeRune
  rw [Lib.encodeRuneZ_four (by omega) (by omega)]
  simp only [List.map_cons, List.map_nil]
  rw [show (240 + (c : Int) / 262144).toNat = 240 + c / 262144 by omega, show (128 + (c : Int) / 4096 % 64).toNat = 128 + c / 4096 % 64 by omega, show (128 + (c : Int) / 64 % 64).toNat = 128 + c / 64 % 64 by omega, show (128 + (c : Int) % 64).toNat = 128 + c % 64 by omega]
theorem bk_enc (c : Nat) (h : okC c) : (Utf8.encode (c : Int)) = ⟨(Lib.encodeRune (c : Int)).toArray⟩ := by
  have hv : Utf8.valid (c : Int) = true := by
    unfold okC at h
    unfold Utf8.valid
    simp only [Bool.or_eq_true, Bool.and_eq_true, decide_eq_true_eq]
    omega
  unfold okC at h
  have e : (Utf8.encode (c : Int)).data.toList = Lib.encodeRune (c : Int) := by
    unfold Utf8.encode
    simp only [hv, if_true, Int.toNat_natCast]
    by_cases h1 : c < 128
    · rw [if_pos h1, bk_enc1 c h1]
    rw [if_neg h1]
    by_cases h2 : c < 2048
    · rw [if_pos h2, bk_enc2 c (by omega) h2]
    rw [if_neg h2]
    by_cases h3 : c < 65536
    · rw [if_pos h3, bk_enc3 c (by omega)]
    · rw [if_neg h3, bk_enc4 c (by omega) (by omega)]
  rw [← arr_list (Utf8.encode (c : Int)), e]
/-- To decode what was encoded, whatever follows. -/
theorem bk_dec (c : Nat) (h : okC c) (L : List UInt8) : Lib.decodeL (Lib.encodeRune (c : Int) ++ L) = (c, (Lib.encodeRune (c : Int)).length) := by
  unfold okC at h
  unfold Lib.decodeL
  rw [Lib.decode_N]
  by_cases h1 : c < 128
  · rw [bk_enc1 c h1]
    show Lib.decodeN (L.length + 1 - 0) (UInt8.ofNat c).toNat _ _ _ = (c, 1)
    rw [bk_nat c (by omega)]
    unfold Lib.decodeN
    rw [if_pos h1]
  by_cases h2 : c < 2048
  · rw [bk_enc2 c (by omega) h2]
    show Lib.decodeN (L.length + 2 - 0) (UInt8.ofNat (192 + c / 64)).toNat (UInt8.ofNat (128 + c % 64)).toNat _ _ = (c, 2)
    rw [bk_nat _ (by omega), bk_nat _ (by omega)]
    unfold Lib.decodeN
    rw [if_neg (by omega), if_pos (by omega), if_pos (by omega)]
    congr 1
    omega
  by_cases h3 : c < 65536
  · rw [bk_enc3 c (by omega)]
    show Lib.decodeN (L.length + 3 - 0) (UInt8.ofNat (224 + c / 4096)).toNat (UInt8.ofNat (128 + c / 64 % 64)).toNat (UInt8.ofNat (128 + c % 64)).toNat _ = (c, 3)
    rw [bk_nat _ (by omega), bk_nat _ (by omega), bk_nat _ (by omega)]
    unfold Lib.decodeN
    rw [if_neg (by omega), if_neg (by omega), if_pos (by omega), if_pos (by omega)]
    congr 1
    omega
  · rw [bk_enc4 c (by omega) (by omega)]
    show Lib.decodeN (L.length + 4 - 0) (UInt8.ofNat (240 + c / 262144)).toNat (UInt8.ofNat (128 + c / 4096 % 64)).toNat (UInt8.ofNat (128 + c / 64 % 64)).toNat (UInt8.ofNat (128 + c % 64)).toNat = (c, 4)
    rw [bk_nat _ (by omega), bk_nat _ (by omega), bk_nat _ (by omega), bk_nat _ (by omega)]
    unfold Lib.decodeN
    rw [if_neg (by omega), if_neg (by omega), if_neg (by omega), if_pos (by omega), if_pos (by omega)]
    congr 1
    omega
theorem bk_head (c : Nat) (h : okC c) : ∃ b r, Lib.encodeRune (c : Int) = b :: r ∧ ((c < 128 ∧ b.toNat = c ∧ r = []) ∨ (128 ≤ c ∧ 192 ≤ b.toNat ∧ r ≠ [])) := by
  unfold okC at h
  by_cases h1 : c < 128
  · exact ⟨_, _, bk_enc1 c h1, Or.inl ⟨h1, bk_nat c (by omega), rfl⟩⟩
  by_cases h2 : c < 2048
  · exact ⟨_, _, bk_enc2 c (by omega) h2, Or.inr ⟨by omega, by rw [bk_nat _ (by omega)]; omega, by simp⟩⟩
  by_cases h3 : c < 65536
  · exact ⟨_, _, bk_enc3 c (by omega), Or.inr ⟨by omega, by rw [bk_nat _ (by omega)]; omega, by simp⟩⟩
  · exact ⟨_, _, bk_enc4 c (by omega) (by omega), Or.inr ⟨by omega, by rw [bk_nat _ (by omega)]; omega, by simp⟩⟩
theorem bk_hexV : ∀ c : Fin 128, hexV (hexL c.val) = c.val := by decide +kernel
theorem bk_hexC : ∀ c : Fin 128, ∀ x ∈ hexL c.val, hdHex [x] = true := by decide +kernel
theorem bk_hexN : ∀ c : Fin 128, hexL c.val ≠ [] := by decide +kernel
theorem hex_any (c : UInt8) (L : List UInt8) : hdHex (c :: L) = hdHex [c] := rfl

/-- A code point in braces. -/
theorem cpS_hex {s : ByteArray} {i c : Nat} (hc : c < 128) {L : List UInt8} (h : Sfx s i (123 :: (hexL c ++ 125 :: L))) : cpS s i = some (c, i + 1 + (hexL c).length + 1) := by
  have h1 := h.next
  have hm : manyTo (one (isHex s)) (s.size - (i + 1)) (i + 1) = i + 1 + (hexL c).length := by
    refine many_sfx (fun i L => Sfx.isHex) (hexL c) (i + 1) _ h1 (fun x hx L => ?_) (by rfl) ?_
    · rw [hex_any]; exact bk_hexC ⟨c, hc⟩ x hx
    · have := h1.len; rw [List.length_append] at this; omega
  have e3 : (s.extract (i + 1) (i + 1 + (hexL c).length)).data.toList = hexL c := by rw [h1.cut]
  have hv := bk_hexV ⟨c, hc⟩
  have hn := List.length_pos_iff.2 (bk_hexN ⟨c, hc⟩)
  have hl := hexL_len c
  simp only at hv hn
  unfold cpS
  rw [if_pos (by rw [h.inB]; rfl), hm, e3, hv, if_pos ⟨by rw [h1.app.inB]; rfl, by omega, by omega, by simp only [Lib.validRune, decide_eq_true_eq]; omega⟩]
theorem escS_one {s : ByteArray} {i : Nat} {x : UInt8} {L : List UInt8} (h : Sfx s i (x :: L)) : escS s i = (if x = 110 then some (10, i + 1) else if x = 116 then some (9, i + 1) else if x = 114 then some (13, i + 1) else if x = 92 then some (92, i + 1) else if x = 39 then some (39, i + 1) else if x = 34 then some (34, i + 1) else if x = 117 then cpS s (i + 1) else none) := by
  have e : ∀ k : UInt8, (Tok.inB s i (k.toNat : Int) (k.toNat : Int) = true) = (x = k) := fun k => by
    rw [h.inB]
    apply propext
    simp only [hdIn, decide_eq_true_eq]
    constructor
    · intro q; exact UInt8.toNat_inj.1 (by omega)
    · intro q; subst q; exact ⟨Int.le_refl _, Int.le_refl _⟩
  have e1 := e 110; have e2 := e 116; have e3 := e 114; have e4 := e 92; have e5 := e 39; have e6 := e 34; have e7 := e 117
  unfold escS
  simp only [show ((110 : UInt8).toNat : Int) = 110 from rfl, show ((116 : UInt8).toNat : Int) = 116 from rfl, show ((114 : UInt8).toNat : Int) = 114 from rfl, show ((92 : UInt8).toNat : Int) = 92 from rfl, show ((39 : UInt8).toNat : Int) = 39 from rfl, show ((34 : UInt8).toNat : Int) = 34 from rfl, show ((117 : UInt8).toNat : Int) = 117 from rfl] at e1 e2 e3 e4 e5 e6 e7
  simp only [e1, e2, e3, e4, e5, e6, e7]
theorem charS_esc {s : ByteArray} {i c j : Nat} {L : List UInt8} (start : Nat) (h : Sfx s i (92 :: L)) (he : escS s (i + 1) = some (c, j)) : charS s start i = .ok c j := by
  unfold charS
  rw [if_neg (by rw [h.endL]; show ¬ false = true; decide), if_pos (by rw [h.inB]; rfl), he]
  rfl
/-- A character as it is written is read back. -/
theorem charS_chW {s : ByteArray} {p q c : Nat} {L : List UInt8} (start : Nat) (hq : q = 39 ∨ q = 34) (hc : okC c) (h : Sfx s p (chW q c ++ L)) : charS s start p = .ok c (p + (chW q c).length) := by
  unfold chW at h ⊢
  split at h
  · rename_i e; subst e
    exact charS_esc start h (by rw [escS_one h.next]; rfl)
  rename_i n1
  rw [if_neg n1] at *
  split at h
  · rename_i e; subst e
    exact charS_esc start h (by rw [escS_one h.next]; rfl)
  rename_i n2
  rw [if_neg n2] at *
  split at h
  · rename_i e; subst e
    exact charS_esc start h (by rw [escS_one h.next]; rfl)
  rename_i n3
  rw [if_neg n3] at *
  split at h
  · rename_i e
    rw [if_pos e]
    have h' : Sfx s p (92 :: 117 :: 123 :: (hexL c ++ 125 :: L)) := by
      have e2 : [92, 117, 123] ++ hexL c ++ [125] ++ L = 92 :: 117 :: 123 :: (hexL c ++ 125 :: L) := by simp
      rw [e2] at h; exact h
    refine charS_esc start h' ?_
    rw [escS_one h'.next]
    show cpS s (p + 1 + 1) = _
    rw [cpS_hex (by omega) h'.next.next]
    congr 2
    simp only [List.length_append, List.length_cons, List.length_nil]
    omega
  rename_i n4
  rw [if_neg n4] at *
  split at h
  · rename_i e
    have hc1 : c < 128 := by omega
    rw [if_pos e]
    rw [bk_enc1 c hc1] at h ⊢
    refine charS_esc start h ?_
    rw [escS_one h.next]
    rcases hq with rfl | rfl <;> rcases e with rfl | rfl <;> rfl
  · rename_i n5
    rw [if_neg n5]
    obtain ⟨b, r, hb, hh⟩ := bk_head c hc
    have h2 : Sfx s p (b :: (r ++ L)) := by rw [hb] at h; exact h
    have hd := h.decode
    rw [bk_dec c hc] at hd
    unfold charS
    have b1 : ¬ b.toNat = 10 := by omega
    have b2 : ¬ b.toNat = 92 := by omega
    rw [if_neg (by rw [h2.endL]; simpa [hdEnd] using b1), if_neg (by rw [h2.inB]; simp only [hdIn, decide_eq_true_eq]; omega), hd]
    simp only
    rw [if_pos]
    unfold plainB
    simp only [Bool.and_eq_true, Bool.or_eq_true, decide_eq_true_eq]
    refine ⟨by omega, ?_⟩
    by_cases e : c = 65533
    · subst e
      right
      rw [bk_enc3 65533 (by omega)]
      decide
    · exact Or.inl e
theorem chW_head (q c : Nat) (hq : q = 39 ∨ q = 34) (hc : okC c) : ∃ b r, chW q c = b :: r ∧ ¬ b.toNat = q := by
  have n92 : ∀ r : List UInt8, ∃ b r', (92 :: r : List UInt8) = b :: r' ∧ ¬ b.toNat = q := fun r => ⟨92, r, rfl, by rcases hq with rfl | rfl <;> decide⟩
  unfold chW
  split
  · exact n92 _
  split
  · exact n92 _
  split
  · exact n92 _
  split
  · exact n92 _
  split
  · exact n92 _
  · rename_i n5
    obtain ⟨b, r, hb, hh⟩ := bk_head c hc
    exact ⟨b, r, hb, by omega⟩
end Go.Proofs.YtafjdncajpjmlaaDoor.Tok
