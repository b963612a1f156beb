/-
  Layer 3: the code points of a string, and its being valid: the same by the reference's words and by the library's.
-/
import Derived.Test.YtphcpolgeceljaaDoorArrText
import Derived.Test.YtphcpolgeceljaaDoorArrP3
import Derived.Lib.MapLaws
import Derived.Lib.ValidLaws
import Derived.Lib.RuneCount
import Derived.Lib.RuneCountTail
namespace Go.Proofs.YtphcpolgeceljaaDoor.Shape
open Go.RowKit
set_option linter.unusedVariables false

theorem bytes_ext {a b : ByteArray} (h : a.data.toList = b.data.toList) : a = b := by
  cases a; cases b
  congr 1
  exact Array.toList_inj.1 h
theorem decL (s : ByteArray) (i : Nat) : Utf8.decode s i = Lib.decodeL (s.data.toList.drop i) := by
  have h := Lib.tail_decode s i 0
  rw [Nat.add_zero] at h
  rw [← h]
  show _ = Utf8.decode ⟨(s.data.toList.drop i).toArray⟩ 0
  congr 1
  apply bytes_ext
  rw [Lib.extract_data]
  apply List.take_of_length_le
  rw [List.length_drop, ← Lib.size_eq]
  exact Nat.le_refl _
theorem rnF_count (s : ByteArray) : ∀ (b i : Nat), (rnF s b i).length = Lib.runeCountFrom s b i
  | 0, _ => rfl
  | b + 1, i => by
    unfold rnF Lib.runeCountFrom
    split
    · rw [List.length_cons, rnF_count s b]; omega
    · rfl
theorem rn_count (s : ByteArray) : Lib.runeCount s = (rn s).length := (rnF_count s s.size 0).symm
theorem decode_rune (s : ByteArray) (i : Nat) : runeB ((Utf8.decode s i).1 : Int) = true := by
  have h : ∀ k, (s.get! k).toNat < 256 := fun k => (s.get! k).toNat_lt
  have h0 := h (i + 0)
  have h1 := h (i + 1)
  have h2 := h (i + 2)
  have h3 := h (i + 3)
  unfold runeB
  rw [decide_eq_true_eq]
  unfold Utf8.decode Utf8.runeError Utf8.valid
  simp only
  repeat' split
  all_goals simp only [Bool.and_eq_true, Bool.or_eq_true, decide_eq_true_eq, ge_iff_le] at *
  all_goals omega
theorem rnF_rune (s : ByteArray) : ∀ (b i : Nat), ∀ x ∈ rnF s b i, runeB x = true
  | 0, _, x, hx => by simp [rnF] at hx
  | b + 1, i, x, hx => by
    unfold rnF at hx
    split at hx
    · rcases List.mem_cons.1 hx with e | e
      · rw [e]; exact decode_rune s i
      · exact rnF_rune s b _ x e
    · simp at hx
theorem byte_of (z : Int) (n : Nat) (h : z = n) : z.toNat.toUInt8 = UInt8.ofNat n := by
  subst h; rfl
theorem encode_eq (r : Int) (h : runeB r = true) : (Utf8.encode r).data.toList = Lib.encodeRune r := by
  rw [runeB, decide_eq_true_eq] at h
  obtain ⟨c, rfl⟩ : ∃ c : Nat, r = c := ⟨r.toNat, by omega⟩
  have hv : Utf8.valid (c : Int) = true := by
    unfold Utf8.valid
    simp only [Bool.or_eq_true, Bool.and_eq_true, decide_eq_true_eq]
    omega
  unfold Utf8.encode
  simp only [hv, if_true, Int.toNat_natCast]
  unfold Lib.encodeRune
  by_cases h1 : c < 128
  · rw [if_pos h1, Lib.encodeRuneZ_one (by omega) (by omega)]
    simp only [List.map_cons, List.map_nil]
    rw [byte_of _ c rfl]
  · by_cases h2 : c < 2048
    · rw [if_neg h1, if_pos h2, Lib.encodeRuneZ_two (by omega) (by omega)]
      simp only [List.map_cons, List.map_nil]
      rw [byte_of _ (192 + c / 64) (by omega), byte_of _ (128 + c % 64) (by omega)]
    · by_cases h3 : c < 65536
      · rw [if_neg h1, if_neg h2, if_pos h3, Lib.encodeRuneZ_three (by omega)]
        simp only [List.map_cons, List.map_nil]
        rw [byte_of _ (224 + c / 4096) (by omega), byte_of _ (128 + c / 64 % 64) (by omega), byte_of _ (128 + c % 64) (by omega)]
      · rw [if_neg h1, if_neg h2, if_neg h3, Lib.encodeRuneZ_four (by omega) (by omega)]
        simp only [List.map_cons, List.map_nil]
        rw [byte_of _ (240 + c / 262144) (by omega), byte_of _ (128 + c / 4096 % 64) (by omega), byte_of _ (128 + c / 64 % 64) (by omega), byte_of _ (128 + c % 64) (by omega)]
theorem flat_runes : ∀ (ns : List Int) (acc : ByteArray), (∀ x ∈ ns, runeB x = true) → (ns.foldl (fun r n => r ++ Utf8.encode n) acc).data.toList = acc.data.toList ++ ns.flatMap (fun n => Lib.encodeRune n)
  | [], acc, _ => by simp
  | n :: ns, acc, h => by
    rw [List.foldl_cons, flat_runes ns _ (fun x hx => h x (List.mem_cons_of_mem _ hx)), List.flatMap_cons, ByteArray.data_append, Array.toList_append, encode_eq n (h n (by simp)), List.append_assoc]
theorem enc_all (s : ByteArray) : ∀ (b i : Nat), s.size ≤ i + b → (s.size - i) + (if Lib.validD (s.data.toList.drop i) = true then 0 else 1) ≤ ((rnF s b i).flatMap (fun n => Lib.encodeRune n)).length ∧ (Lib.validD (s.data.toList.drop i) = true → (rnF s b i).flatMap (fun n => Lib.encodeRune n) = s.data.toList.drop i)
  | 0, i, h => by
    have e : s.data.toList.drop i = [] := List.drop_eq_nil_of_le (by rw [← Lib.size_eq]; omega)
    rw [e, Lib.validD_nil]
    simp [rnF]; omega
  | b + 1, i, h => by
    have hl : s.data.toList.length = s.size := (Lib.size_eq s).symm
    by_cases hi : i < s.size
    · have hne : s.data.toList.drop i ≠ [] := by
        intro e
        have := congrArg List.length e
        rw [List.length_drop, hl] at this
        simp only [List.length_nil] at this; omega
      have hw := Lib.decodeL_width (s.data.toList.drop i)
      have hle := Lib.decodeL_le _ hne
      rw [List.length_drop, hl] at hle
      obtain ⟨i1, i2⟩ := enc_all s b (i + (Lib.decodeL (s.data.toList.drop i)).2) (by omega)
      rw [rnF, if_pos hi, decL, Lib.validD_step _ hne, List.flatMap_cons, List.length_append, List.drop_drop]
      by_cases hbad : (Lib.decodeL (s.data.toList.drop i)).1 = 65533 ∧ (Lib.decodeL (s.data.toList.drop i)).2 = 1
      · rw [if_pos hbad]
        refine ⟨?_, fun e => by cases e⟩
        have e3 : (Lib.encodeRune (((Lib.decodeL (s.data.toList.drop i)).1 : Nat) : Int)).length = 3 := by rw [hbad.1]; rfl
        rw [e3]
        have h2 := hbad.2
        simp only [Bool.false_eq_true, if_false]
        rw [h2] at i1 ⊢
        omega
      · rw [if_neg hbad, Lib.encode_decode _ hne hbad]
        refine ⟨?_, fun e => ?_⟩
        · rw [List.length_take, List.length_drop, hl, Nat.min_eq_left (by omega)]; omega
        · rw [i2 e, ← List.drop_drop, List.take_append_drop]
    · have e : s.data.toList.drop i = [] := List.drop_eq_nil_of_le (by rw [hl]; omega)
      rw [e, Lib.validD_nil, rnF, if_neg hi]
      refine ⟨?_, fun _ => rfl⟩
      rw [if_pos rfl]; omega
theorem valid_rn (s : ByteArray) : ((runesBytes (rn s)).toList == s.toList) = Lib.validD s.data.toList := by
  rw [ByteArray.toList_eq, ByteArray.toList_eq]
  obtain ⟨h1, h2⟩ := enc_all s s.size 0 (by omega)
  rw [List.drop_zero] at h1 h2
  have hf := flat_runes (rn s) ByteArray.empty (rnF_rune s _ _)
  have he : (ByteArray.empty).data.toList = [] := rfl
  rw [he, List.nil_append] at hf
  have hr : (runesBytes (rn s)).data.toList = (rnF s s.size 0).flatMap (fun n => Lib.encodeRune n) := hf
  rw [hr]
  cases hv : Lib.validD s.data.toList with
  | true => rw [h2 hv]; simp
  | false =>
    rw [beq_eq_false_iff_ne]
    intro e
    rw [hv, e, ← Lib.size_eq] at h1
    simp only [Bool.false_eq_true, if_false] at h1
    omega
theorem text_dims (n : Nat) : (n ≤ 65536 → dimsE [(n : Int)] = 0) ∧ (65536 < n → dimsE [(n : Int)] = 21) := by
  have hn : NN [(n : Int)] := fun x hx => by rw [List.mem_singleton.1 hx]; omega
  have hz : nz [(n : Int)] = if n = 0 then 1 else (n : Int) := by
    rw [nz, nz]; split <;> split <;> omega
  refine ⟨fun h => dimsE_ok (by simp) hn (by rw [hz]; split <;> omega), fun h => dimsE_big (by simp) hn (by rw [hz]; split <;> omega)⟩
theorem text_valid (s : ByteArray) (h : (rn s).length ≤ 65536) : validA (.mk 2 [((rn s).length : Int)] (rn s) []) = .mk 2 [((rn s).length : Int)] (rn s) [] := by
  have hp : partsE (.mk 2 [((rn s).length : Int)] (rn s) []) = 0 := by
    refine parts_ok (by omega) ((text_dims _).1 h) ?_ ?_
    · show ¬ (((rn s).length : Int) ≠ pr [((rn s).length : Int)] ∨ 0 < ([] : List Arr).length)
      rw [pr, pr]; simp
    · rw [List.all_eq_true]
      intro x hx
      simp [elemB, rnF_rune s _ _ x hx]
  have hc := chk_split hp
  rw [show chkL 0 [] = some 0 from rfl] at hc
  simp only at hc
  have hw := wt_le (.mk 2 [((rn s).length : Int)] (rn s) [])
  have hw2 : wt (.mk 2 [((rn s).length : Int)] (rn s) []) = min ((rn s).length : Int) 262145 := by rw [wt, if_neg (by decide), Int.add_zero]; rfl
  have hl : lastE 0 (wt (.mk 2 [((rn s).length : Int)] (rn s) [])) = (0, 0) := by rw [lastE, if_neg (by rw [hw2]; omega)]
  rw [validA, rightE, hc, hl]
  rfl
theorem text_long (s : ByteArray) (h : 65536 < (rn s).length) : validA (.mk 2 [((rn s).length : Int)] (rn s) []) = zeroA := by
  have hp := parts_dims (k := 2) (sh := [((rn s).length : Int)]) (nu := rn s) (it := []) (by omega) (by rw [(text_dims _).2 h]; decide)
  rw [validA, rightE, chk_parts (by rw [hp, (text_dims _).2 h]; decide), hp, (text_dims _).2 h, if_neg (by decide)]
end Go.Proofs.YtphcpolgeceljaaDoor.Shape
