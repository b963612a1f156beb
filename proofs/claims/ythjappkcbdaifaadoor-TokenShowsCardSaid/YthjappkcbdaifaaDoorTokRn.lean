/-
  Layer 8: the code points of a string, as the conversions give them, and its being valid (layer 3's mathematics, in this layer's namespace), and the literal of a string as its code points written.
-/
import Derived.Test.YthjappkcbdaifaaDoorTokShR3
import Derived.Laws.IdiomStrings
import Derived.Laws.Cover4
import Derived.Lib.MapLaws
import Derived.Lib.ValidLaws
import Derived.Lib.RuneCount
import Derived.Lib.RuneCountTail
namespace Go.Proofs.YthjappkcbdaifaaDoor.Tok
open Go.RowKit
set_option linter.unusedVariables false

def runeB (n : Int) : Bool := decide (0 ≤ n ∧ n ≤ 1114111 ∧ (n < 55296 ∨ 57343 < n))
def rnF (s : ByteArray) : Nat → Nat → List Int
  | 0, _ => []
  | b + 1, i => if i < s.size then ((Utf8.decode s i).1 : Int) :: rnF s b (i + (Utf8.decode s i).2) else []
/-- The code points of s. -/
def rn (s : ByteArray) : List Int := rnF s s.size 0
theorem rnF_eq (s : ByteArray) : ∀ (b i : Nat) (acc : Array Value), Conv.runesFrom s b i acc = acc ++ ((rnF s b i).map (Value.int .i32)).toArray
  | 0, _, acc => by simp [Conv.runesFrom, rnF]
  | b + 1, i, acc => by
    unfold Conv.runesFrom rnF
    split
    · show Conv.runesFrom s b (i + (Utf8.decode s i).2) (acc.push (.int .i32 (Int.ofNat (Utf8.decode s i).1))) = _
      rw [rnF_eq s b]; simp
    · simp
theorem rn_eq (s : ByteArray) : Conv.runesFrom s s.size 0 #[] = ((rn s).map (Value.int .i32)).toArray := by rw [rnF_eq, rn]; simp
theorem decode_bd (s : ByteArray) (i : Nat) : (Utf8.decode s i).1 < 2097152 := by
  have h : ∀ k, (s.get! k).toNat < 256 := fun k => (s.get! k).toNat_lt
  have h0 := h (i + 0)
  have h1 := h (i + 1)
  have h2 := h (i + 2)
  have h3 := h (i + 3)
  unfold Utf8.decode Utf8.runeError
  simp only
  repeat' split
  all_goals simp only
  all_goals omega
theorem rnF_bd (s : ByteArray) : ∀ (b i : Nat), ∀ x ∈ rnF s b i, 0 ≤ x ∧ x < 2097152
  | 0, _, x, hx => by simp [rnF] at hx
  | b + 1, i, x, hx => by
    unfold rnF at hx
    split at hx
    · rcases List.mem_cons.1 hx with e | e
      · have := decode_bd s i
        rw [e]; omega
      · exact rnF_bd s b _ x e
    · simp at hx
theorem rn_bd {s : ByteArray} : ∀ x ∈ rn s, 0 ≤ x ∧ x < 2097152 := rnF_bd s _ _
theorem rnF_len (s : ByteArray) : ∀ (b i : Nat), (rnF s b i).length ≤ b
  | 0, _ => by simp [rnF]
  | b + 1, i => by
    unfold rnF
    split
    · have := rnF_len s b (i + (Utf8.decode s i).2)
      simp only [List.length_cons]; omega
    · simp
theorem rn_len (s : ByteArray) : (rn s).length ≤ s.size := rnF_len s _ _
/-- What the conversions of Text do. -/
theorem to_runes (s : ByteArray) (hs : s.size ≤ 1000000) (W : World) : ∃ cap W2, (convert 9 65 (.string s)).run Tryd.prog W = .ok (.slice (some ⟨W.heap.size, 0, none⟩) (rn s).length cap) W2 ∧
    Below W.heap.size W W2 ∧ W2.heap.size = W.heap.size + 1 ∧ ∀ j (h : j < (rn s).length), W2.cell? ⟨W.heap.size, j, none⟩ = some (.int .i32 (rn s)[j]) := by
  have hl := rn_len s
  have e := run_runes_of_string W 9 65 21 s Tryd.underlying9 Tryd.underlying65 Tryd.underlying21 (by rw [rn_eq]; simp; omega)
  rw [rn_eq] at e
  simp only [List.size_toArray, List.length_map] at e
  refine ⟨_, _, e, (Below.refl _ _).drew.alloc (Nat.le_refl _) _, by simp, fun j hj => ?_⟩
  rw [show W.heap.size = W.drew.heap.size from rfl, World.cell?_alloc_new]
  rw [Array.getElem?_append_left (by simp only [List.size_toArray, List.length_map]; exact hj), List.getElem?_toArray, List.getElem?_map, List.getElem?_eq_getElem hj]
  rfl
theorem of_runes {W : World} {b cap : Nat} {l : List Int} (h : ∀ j (hj : j < l.length), W.cell? ⟨b, j, none⟩ = some (.int .i32 l[j])) :
    (convert 65 9 (.slice (some ⟨b, 0, none⟩) l.length cap)).run Tryd.prog W = .ok (.string (runesBytes l)) W := by
  rw [run_convert_runes_string W 65 9 21 _ _ _ Tryd.underlying65 Tryd.underlying21 Tryd.underlying9]
  refine run_runesToString W _ _ _ l ?_
  have hl := run_loadCells_list (P := Tryd.prog) W ⟨b, 0, none⟩ (l.map (Value.int .i32)) (fun j v hj => by
    have hj' : j < l.length := by
      have := (List.getElem?_eq_some_iff.1 hj).1
      simpa using this
    rw [add_plain, Nat.zero_add, h j hj']
    rw [← hj, List.getElem?_map, List.getElem?_eq_getElem hj']
    rfl)
  rw [List.length_map] at hl; exact hl
theorem bytes_ext {a b : ByteArray} (h : a.data.toList = b.data.toList) : a = b := by
  cases a; cases b
  congr 1
  exact Array.toList_inj.1 h
theorem decL (s : ByteArray) (i : Nat) : Utf8.decode s i = Lib.decodeL (s.data.toList.drop i) := by
  have h := Lib.tail_decode s i 0
  rw [Nat.add_zero] at h
  rw [← h]
  show _ = Utf8.decode ⟨(s.data.toList.drop i).toArray⟩ 0
  congr 1
  apply bytes_ext
  rw [Lib.extract_data]
  apply List.take_of_length_le
  rw [List.length_drop, ← Lib.size_eq]
  exact Nat.le_refl _
theorem decode_rune (s : ByteArray) (i : Nat) : runeB ((Utf8.decode s i).1 : Int) = true := by
  have h : ∀ k, (s.get! k).toNat < 256 := fun k => (s.get! k).toNat_lt
  have h0 := h (i + 0)
  have h1 := h (i + 1)
  have h2 := h (i + 2)
  have h3 := h (i + 3)
  unfold runeB
  rw [decide_eq_true_eq]
  unfold Utf8.decode Utf8.runeError Utf8.valid
  simp only
  repeat' split
  all_goals simp only [Bool.and_eq_true, Bool.or_eq_true, decide_eq_true_eq, ge_iff_le] at *
  all_goals omega
theorem rnF_rune (s : ByteArray) : ∀ (b i : Nat), ∀ x ∈ rnF s b i, runeB x = true
  | 0, _, x, hx => by simp [rnF] at hx
  | b + 1, i, x, hx => by
    unfold rnF at hx
    split at hx
    · rcases List.mem_cons.1 hx with e | e
      · rw [e]; exact decode_rune s i
      · exact rnF_rune s b _ x e
    · simp at hx
theorem byte_of (z : Int) (n : Nat) (h : z = n) : z.toNat.toUInt8 = UInt8.ofNat n := by
  subst h; rfl
theorem encode_eq (r : Int) (h : runeB r = true) : (Utf8.encode r).data.toList = Lib.encodeRune r := by
  rw [runeB, decide_eq_true_eq] at h
  obtain ⟨c, rfl⟩ : ∃ c : Nat, r = c := ⟨r.toNat, by omega⟩
  have hv : Utf8.valid (c : Int) = true := by
    unfold Utf8.valid
    simp only [Bool.or_eq_true, Bool.and_eq_true, decide_eq_true_eq]
    omega
  unfold Utf8.encode
  simp only [hv, if_true, Int.toNat_natCast]
  unfold Lib.encodeRune
  by_cases h1 : c < 128
  · rw [if_pos h1, Lib.encodeRuneZ_one (by omega) (by omega)]
    simp only [List.map_cons, List.map_nil]
    rw [byte_of _ c rfl]
  · by_cases h2 : c < 2048
    · rw [if_neg h1, if_pos h2, Lib.encodeRuneZ_two (by omega) (by omega)]
      simp only [List.map_cons, List.map_nil]
      rw [byte_of _ (192 + c / 64) (by omega), byte_of _ (128 + c % 64) (by omega)]
    · by_cases h3 : c < 65536
      · rw [if_neg h1, if_neg h2, if_pos h3, Lib.encodeRuneZ_three (by omega)]
        simp only [List.map_cons, List.map_nil]
        rw [byte_of _ (224 + c / 4096) (by omega), byte_of _ (128 + c / 64 % 64) (by omega), byte_of _ (128 + c % 64) (by omega)]
      · rw [if_neg h1, if_neg h2, if_neg h3, Lib.encodeRuneZ_four (by omega) (by omega)]
        simp only [List.map_cons, List.map_nil]
        rw [byte_of _ (240 + c / 262144) (by omega), byte_of _ (128 + c / 4096 % 64) (by omega), byte_of _ (128 + c / 64 % 64) (by omega), byte_of _ (128 + c % 64) (by omega)]
theorem flat_runes : ∀ (ns : List Int) (acc : ByteArray), (∀ x ∈ ns, runeB x = true) → (ns.foldl (fun r n => r ++ Utf8.encode n) acc).data.toList = acc.data.toList ++ ns.flatMap (fun n => Lib.encodeRune n)
  | [], acc, _ => by simp
  | n :: ns, acc, h => by
    rw [List.foldl_cons, flat_runes ns _ (fun x hx => h x (List.mem_cons_of_mem _ hx)), List.flatMap_cons, ByteArray.data_append, Array.toList_append, encode_eq n (h n (by simp)), List.append_assoc]
theorem enc_all (s : ByteArray) : ∀ (b i : Nat), s.size ≤ i + b → (s.size - i) + (if Lib.validD (s.data.toList.drop i) = true then 0 else 1) ≤ ((rnF s b i).flatMap (fun n => Lib.encodeRune n)).length ∧ (Lib.validD (s.data.toList.drop i) = true → (rnF s b i).flatMap (fun n => Lib.encodeRune n) = s.data.toList.drop i)
  | 0, i, h => by
    have e : s.data.toList.drop i = [] := List.drop_eq_nil_of_le (by rw [← Lib.size_eq]; omega)
    rw [e, Lib.validD_nil]
    simp [rnF]; omega
  | b + 1, i, h => by
    have hl : s.data.toList.length = s.size := (Lib.size_eq s).symm
    by_cases hi : i < s.size
    · have hne : s.data.toList.drop i ≠ [] := by
        intro e
        have := congrArg List.length e
        rw [List.length_drop, hl] at this
        simp only [List.length_nil] at this; omega
      have hw := Lib.decodeL_width (s.data.toList.drop i)
      have hle := Lib.decodeL_le _ hne
      rw [List.length_drop, hl] at hle
      obtain ⟨i1, i2⟩ := enc_all s b (i + (Lib.decodeL (s.data.toList.drop i)).2) (by omega)
      rw [rnF, if_pos hi, decL, Lib.validD_step _ hne, List.flatMap_cons, List.length_append, List.drop_drop]
      by_cases hbad : (Lib.decodeL (s.data.toList.drop i)).1 = 65533 ∧ (Lib.decodeL (s.data.toList.drop i)).2 = 1
      · rw [if_pos hbad]
        refine ⟨?_, fun e => by cases e⟩
        have e3 : (Lib.encodeRune (((Lib.decodeL (s.data.toList.drop i)).1 : Nat) : Int)).length = 3 := by rw [hbad.1]; rfl
        rw [e3]
        have h2 := hbad.2
        simp only [Bool.false_eq_true, if_false]
        rw [h2] at i1 ⊢
        omega
      · rw [if_neg hbad, Lib.encode_decode _ hne hbad]
        refine ⟨?_, fun e => ?_⟩
        · rw [List.length_take, List.length_drop, hl, Nat.min_eq_left (by omega)]; omega
        · rw [i2 e, ← List.drop_drop, List.take_append_drop]
    · have e : s.data.toList.drop i = [] := List.drop_eq_nil_of_le (by rw [hl]; omega)
      rw [e, Lib.validD_nil, rnF, if_neg hi]
      refine ⟨?_, fun _ => rfl⟩
      rw [if_pos rfl]; omega
theorem valid_rn (s : ByteArray) : ((runesBytes (rn s)).toList == s.toList) = Lib.validD s.data.toList := by
  rw [ByteArray.toList_eq, ByteArray.toList_eq]
  obtain ⟨h1, h2⟩ := enc_all s s.size 0 (by omega)
  rw [List.drop_zero] at h1 h2
  have hf := flat_runes (rn s) ByteArray.empty (rnF_rune s _ _)
  have he : (ByteArray.empty).data.toList = [] := rfl
  rw [he, List.nil_append] at hf
  have hr : (runesBytes (rn s)).data.toList = (rnF s s.size 0).flatMap (fun n => Lib.encodeRune n) := hf
  rw [hr]
  cases hv : Lib.validD s.data.toList with
  | true => rw [h2 hv]; simp
  | false =>
    rw [beq_eq_false_iff_ne]
    intro e
    rw [hv, e, ← Lib.size_eq] at h1
    simp only [Bool.false_eq_true, if_false] at h1
    omega

def cps (s : ByteArray) : List Nat := (rn s).map Int.toNat
theorem cps_len (s : ByteArray) : (cps s).length = (rn s).length := by rw [cps, List.length_map]
theorem lit_go (q : Nat) (s : ByteArray) : ∀ (b i : Nat), s.size ≤ i + b → litGo q s (b + 1) i = ((rnF s b i).map Int.toNat).flatMap (chW q)
  | 0, i, h => by
    rw [litGo, if_neg (by omega)]
    rfl
  | b + 1, i, h => by
    rw [litGo, rnF]
    by_cases hi : i < s.size
    · have := (dec_pos s i hi).1
      rw [if_pos hi, if_pos hi, lit_go q s b _ (by omega), List.map_cons, List.flatMap_cons, Int.toNat_natCast]
    · rw [if_neg hi, if_neg hi]
      rfl
theorem lit_quo (q : Nat) (hq : q < 128) (s : ByteArray) : litW q s = UInt8.ofNat q :: quoW q (cps s) ++ [UInt8.ofNat q] := by
  rw [litW, enc_ascii q hq, lit_go q s s.size 0 (by omega)]
  rfl
theorem cps_le (s : ByteArray) : ∀ c ∈ cps s, c ≤ 1114111 := by
  intro c hc
  obtain ⟨x, hx, rfl⟩ := List.mem_map.1 hc
  have := rnF_rune s _ _ x hx
  simp only [runeB, decide_eq_true_eq] at this
  omega
theorem cps_at {s : ByteArray} {w : World} {m : Nat} (h : ∀ j (h : j < (rn s).length), w.cell? ⟨m, j, none⟩ = some (.int .i32 (rn s)[j])) : RunesAt w m (cps s) := by
  intro j hj
  have hj' : j < (rn s).length := by rw [← cps_len]; exact hj
  rw [h j hj']
  have := rn_bd _ (List.getElem_mem hj')
  simp only [cps, List.getElem_map]
  rw [Int.toNat_of_nonneg this.1]
end Go.Proofs.YthjappkcbdaifaaDoor.Tok
