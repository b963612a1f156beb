/-
  Layer 8: the reference's Letter.
  Layer 8: the reference's character literal. (Written by wip/gen/token-rs7.py.)
  Layer 8: the reference's string literal. (Written by wip/gen/token-rs7.py.)
-/
import Derived.Test.YtljgehammocpkaaGreatDoorTokGA
import Derived.Test.YtljgehammocpkaaGreatDoorTokGC
import Derived.Laws.IdiomStrings
namespace Go.Proofs.YtljgehammocpkaaGreatDoor.Tok
open Go.RowKit
set_option linter.unusedVariables false
set_option linter.unusedSimpArgs false

def runesG (s : ByteArray) : Nat → Nat → List Int
  | 0, _ => []
  | b + 1, i => if i < s.size then ((Utf8.decode s i).1 : Int) :: runesG s b (i + (Utf8.decode s i).2) else []
theorem runesG_eq (s : ByteArray) : ∀ (b i : Nat) (acc : Array Value), Conv.runesFrom s b i acc = acc ++ ((runesG s b i).map (Value.int .i32)).toArray
  | 0, _, acc => by simp [Conv.runesFrom, runesG]
  | b + 1, i, acc => by
    unfold Conv.runesFrom runesG
    split
    · show Conv.runesFrom s b (i + (Utf8.decode s i).2) (acc.push (.int .i32 (Int.ofNat (Utf8.decode s i).1))) = _
      rw [runesG_eq s b]; simp
    · simp
theorem runesG_len (s : ByteArray) : ∀ (b i : Nat), (runesG s b i).length ≤ b
  | 0, _ => by simp [runesG]
  | b + 1, i => by
    unfold runesG
    split
    · have := runesG_len s b (i + (Utf8.decode s i).2)
      simp only [List.length_cons]; omega
    · simp
/-- The first code point of a string, by the conversion. -/
theorem first_rune (t : ByteArray) (h0 : 0 < t.size) (hs : t.size ≤ 1000) (W : World) : ∃ n cap W2, (convert 9 172 (.string t)).run Tryz.prog W = .ok (.slice (some ⟨W.heap.size, 0, none⟩) (n + 1) cap) W2 ∧
    Below W.heap.size W W2 ∧ W2.cell? ⟨W.heap.size, 0, none⟩ = some (.int .i32 ((Utf8.decode t 0).1 : Int)) := by
  obtain ⟨b, hb⟩ : ∃ b, t.size = b + 1 := ⟨t.size - 1, by omega⟩
  obtain ⟨R, hR⟩ : ∃ R, runesG t b (0 + (Utf8.decode t 0).2) = R := ⟨_, rfl⟩
  have e0 : Conv.runesFrom t t.size 0 #[] = ((((Utf8.decode t 0).1 : Int) :: R).map (Value.int .i32)).toArray := by
    rw [runesG_eq, hb, runesG, if_pos h0, hR]; simp
  have hl : R.length ≤ b := by rw [← hR]; exact runesG_len _ _ _
  have e := run_runes_of_string W 9 172 21 t Tryz.underlying9 Tryz.underlying172 Tryz.underlying21 (by rw [e0]; simp; omega)
  rw [e0] at e
  simp only [List.size_toArray, List.length_map, List.length_cons] at e
  refine ⟨R.length, _, _, e, (Below.refl _ _).drew.alloc (Nat.le_refl _) _, ?_⟩
  rw [show W.heap.size = W.drew.heap.size from rfl, World.cell?_alloc_new]
  rw [Array.getElem?_append_left (by simp)]
  simp
theorem decL_take (l : List UInt8) : Lib.decodeL (l.take 4) = Lib.decodeL l := by
  match l with
  | [] => rfl
  | [a] => rfl
  | [a, b] => rfl
  | [a, b, c] => rfl
  | a :: b :: c :: d :: r =>
    rw [Lib.decodeL_N, Lib.decodeL_N]
    show Lib.decodeN 4 a.toNat b.toNat c.toNat d.toNat = Lib.decodeN (r.length + 1 + 1 + 1 + 1) a.toNat b.toNat c.toNat d.toNat
    unfold Lib.decodeN
    have g1 : (1 < r.length + 1 + 1 + 1 + 1) = (1 < 4) := by apply propext; omega
    have g2 : (2 < r.length + 1 + 1 + 1 + 1) = (2 < 4) := by apply propext; omega
    have g3 : (3 < r.length + 1 + 1 + 1 + 1) = (3 < 4) := by apply propext; omega
    simp only [g1, g2, g3]
theorem dec_cut {s : ByteArray} {p m : Nat} (hm : m = min (p + 4) s.size) : Utf8.decode (s.extract p m) 0 = Utf8.decode s p := by
  rw [← Lib.decodeL_drop, ← Lib.decodeL_drop, List.drop_zero, extract_list, ← decL_take (s.data.toList.drop p)]
  congr 1
  have hl : (s.data.toList.drop p).length = s.size - p := by rw [List.length_drop, ← Lib.size_eq]
  rcases Nat.lt_or_ge (p + 4) s.size with h | h
  · rw [hm, Nat.min_eq_left (by omega), Nat.add_sub_cancel_left]
  · rw [List.take_of_length_le (by omega), List.take_of_length_le (by omega)]
/-- What the reference says of a character. -/
def letV (p : Nat) : Ch → Value
  | .ok c j => .tuple #[.int .i64 (c : Int), .int .i64 ((j : Int) - (p : Int))]
  | .bad _ _ => .tuple #[.int .i64 (-1), .int .i64 0]
theorem letV_esc (p : Nat) (o : Option (Nat × Nat)) : letV p (chOf p o) = escV p o := by
  cases o with
  | none => rfl
  | some q => rfl
theorem escV_form (p : Nat) (o : Option (Nat × Nat)) : ∃ a b, escV p o = .tuple #[.int .i64 a, .int .i64 b] := by
  cases o with
  | none => exact ⟨_, _, rfl⟩
  | some q => exact ⟨_, _, rfl⟩
theorem dec_ge32 {s : ByteArray} {p : Nat} (hp : p < s.size) (h : 32 ≤ s[p].toNat) : 32 ≤ (Utf8.decode s p).1 := by
  rw [Lib.decode_N, get_list hp]
  unfold Lib.decodeN
  repeat' split
  all_goals (simp only; omega)
theorem dec_lt32 {s : ByteArray} {p : Nat} (hp : p < s.size) (h : s[p].toNat < 32) : (Utf8.decode s p).1 < 32 := by
  rw [Lib.decode_N, get_list hp]
  unfold Lib.decodeN
  rw [if_pos (by omega)]
  exact h

set_option maxRecDepth 100000 in
set_option maxHeartbeats 8000000 in
theorem LetterR (s : ByteArray) (hs : s.size ≤ 65536) (w : World) (st p : Nat) (hp : p < s.size) (h10 : endL s p = false) :
    Calls Tryz.prog 119 #[.string s, .int .i64 (p : Int)] w fun e w' => e = .returned (letV p (charS s st p)) ∧ Below w.heap.size w w' := by
  obtain ⟨R, hR⟩ : ∃ R, Hid (charS s st p = R) := ⟨_, rfl⟩
  rw [hR.out]
  have hR1 := hR.out
  unfold charS at hR1
  rw [if_neg (by rw [h10]; decide)] at hR1
  have hsz64 : (s.size : Int) ≤ 65536 := by omega
  have hp64 : (p : Int) ≤ 65536 := by omega
  have hp1 : (p : Int) < (s.size : Int) := by omega
  have hcb : (s[p].toNat : Int) ≤ 255 := by have := s[p].toNat_lt; omega
  have i92 : inB s p 92 92 = ((s[p].toNat : Int) == 92) := inB_eq hp 92
  rw [i92] at hR1
  cases q92 : ((s[p].toNat : Int) == 92)
  case true =>
    rw [q92, if_pos rfl] at hR1
    rw [← hR1, letV_esc]
    have cE := fun w => escapeR s hs w p hp
    obtain ⟨a, b, he⟩ := escV_form p (escS s (p + 1))
    rw [he] at cE ⊢
    clear hR1 hR he i92
    go_enter Tryz.func119, Tryz.ntmps119
    go_wp2_with (go_at_call 158; with_reducible refine (cE _).mono ?_; rintro e1 w1 ⟨rfl, rfl⟩)
    go_ret2
    exact ⟨rfl, Below.refl _ _⟩
  rw [q92, if_neg (by decide)] at hR1
  by_cases h32 : s[p].toNat < 32
  · have h32' : (s[p].toNat : Int) < 32 := by omega
    have hl := dec_lt32 hp h32
    rw [if_neg (fls (by unfold plainB; rw [decide_eq_false (by omega), Bool.false_and]))] at hR1
    subst hR1
    clear hR i92
    go_enter Tryz.func119, Tryz.ntmps119
    go_wp2
    go_ret2
    exact ⟨rfl, Below.refl _ _⟩
  have h32' : ¬ (s[p].toNat : Int) < 32 := by omega
  have hge := dec_ge32 hp (by omega)
  obtain ⟨m, hm⟩ : ∃ m, m = min (p + 4) s.size := ⟨_, rfl⟩
  have hmin : min ((p : Int) + 4) (s.size : Int) = (m : Int) := by omega
  have hpm : p ≤ m := by omega
  have hms : m ≤ s.size := by omega
  obtain ⟨t, ht⟩ : ∃ t, s.extract p m = t := ⟨_, rfl⟩
  have htz : t.size = m - p := by rw [← ht, ByteArray.size_extract]; omega
  obtain ⟨n, cap, W2, hcv, hB, hc0⟩ := first_rune t (by omega) (by omega) w
  have hd := dec_cut (s := s) (p := p) hm
  rw [ht] at hd
  rw [hd] at hc0
  have hpos := dec_pos s p hp
  have hl : (s.data.toList.drop p).length = s.size - p := by rw [List.length_drop, ← Lib.size_eq]
  have hne : s.data.toList.drop p ≠ [] := by intro e; rw [e] at hl; simp at hl; omega
  have hdl := Lib.decodeL_drop s p
  have hok := bk_rune s p
  have henc := bk_enc _ hok
  obtain ⟨c, hc⟩ : ∃ c, c = (Utf8.decode s p).1 := ⟨_, rfl⟩
  obtain ⟨z, hz⟩ : ∃ z, z = (Utf8.decode s p).2 := ⟨_, rfl⟩
  rw [← hc] at hc0 henc hge hR1 hpos hok
  rw [← hz] at hR1 hpos
  have hc1 : (c : Int) ≤ 1114111 := by omega
  have hw : IntKind.i32.wrap (c : Int) = c := by unfold IntKind.wrap; simp [IntKind.bits, IntKind.signed]; omega
  obtain ⟨E, hE⟩ : ∃ E, Utf8.encode (c : Int) = E := ⟨_, rfl⟩
  rw [hE] at henc
  have hEl : E.data.toList = Lib.encodeRune (c : Int) := by rw [henc, arr_of]
  have hEz : E.size = (Lib.encodeRune (c : Int)).length := by rw [Lib.size_eq, hEl]
  by_cases hgood : plainB c z = true
  · rw [if_pos hgood] at hR1
    have hv : ¬ ((Lib.decodeL (s.data.toList.drop p)).1 = 65533 ∧ (Lib.decodeL (s.data.toList.drop p)).2 = 1) := by
      rw [hdl, ← hc, ← hz]
      unfold plainB at hgood
      simp only [Bool.and_eq_true, Bool.or_eq_true, decide_eq_true_eq] at hgood
      omega
    have hed := Lib.encode_decode _ hne hv
    rw [hdl, ← hc, ← hz] at hed
    have hEz2 : E.size = z := by rw [hEz, hed, List.length_take, hl]; omega
    have hX : s.extract p (p + z) = E := by
      apply ByteArray.ext
      apply Array.toList_inj.1
      rw [extract_list, Nat.add_sub_cancel_left, hEl, hed]
    have hEi : (E.size : Int) = (z : Int) := by omega
    have hpz : ¬ (s.size : Int) < (p : Int) + (z : Int) := by omega
    have hz64 : (z : Int) ≤ 65536 := by omega
    have hpz2 : p ≤ p + z := by omega
    have hpz3 : p + z ≤ s.size := by omega
    subst hR1
    have hfin : letV p (.ok c (p + z)) = .tuple #[.int .i64 (c : Int), .int .i64 (z : Int)] := by
      simp only [letV]; rw [show ((p + z : Nat) : Int) - (p : Int) = (z : Int) by omega]
    rw [hfin]
    have hmi : ((m : Nat) : Int) ≤ 65536 := by omega
    clear hR hfin hv hed hEz hEz2 hEl henc hdl hne hl hgood hd hok hge htz i92 hm hc hz hpos
    go_enter Tryz.func119, Tryz.ntmps119
    go_wp2
    go_ret2
    exact ⟨rfl, hB⟩
  · rw [if_neg hgood] at hR1
    subst hR1
    have hcz : c = 65533 ∧ z = 1 := by
      unfold plainB at hgood
      simp only [Bool.and_eq_true, Bool.or_eq_true, decide_eq_true_eq] at hgood
      omega
    have hE3 : E.size = 3 := by rw [hEz, hcz.1, bk_enc3 65533 (by omega)]; rfl
    have hEi : (E.size : Int) = 3 := by omega
    by_cases h3 : p + 3 ≤ s.size
    · have h3' : ¬ (s.size : Int) < (p : Int) + 3 := by omega
      obtain ⟨X, hX⟩ : ∃ X, s.extract p (p + 3) = X := ⟨_, rfl⟩
      have hXE : (X.toList == E.toList) = false := by
        rw [beq_eq_false_iff_ne]
        intro q
        rw [ByteArray.toList_eq, ByteArray.toList_eq, ← hX, extract_list, Nat.add_sub_cancel_left, hEl] at q
        have hsplit : s.data.toList.drop p = Lib.encodeRune (c : Int) ++ (s.data.toList.drop p).drop 3 := by rw [← q, List.take_append_drop]
        have := bk_dec c hok ((s.data.toList.drop p).drop 3)
        rw [← hsplit, hdl] at this
        have h2 := congrArg Prod.snd this
        simp only at h2
        rw [← hz, hcz.1, bk_enc3 65533 (by omega)] at h2
        simp at h2
        omega
      have hXE2 : (X.toList != E.toList) = true := by simp only [bne, hXE]; rfl
      have hpz2 : p ≤ p + 3 := by omega
      clear hR hEz hEl hE3 henc hdl hne hl hgood hd hok hge htz i92 hm hcz hc hz hpos
      go_enter Tryz.func119, Tryz.ntmps119
      go_wp2
      go_ret2
      exact ⟨rfl, hB⟩
    · have h3' : (s.size : Int) < (p : Int) + 3 := by omega
      clear hR hEz hEl hE3 henc hdl hne hl hgood hd hok hge htz i92 hm hcz hc hz hpos
      go_enter Tryz.func119, Tryz.ntmps119
      go_wp2
      go_ret2
      exact ⟨rfl, hB⟩
end Go.Proofs.YtljgehammocpkaaGreatDoor.Tok

namespace Go.Proofs.YtljgehammocpkaaGreatDoor.Tok
open Go.RowKit
set_option linter.unusedVariables false
set_option linter.unusedSimpArgs false

/-- What the reference says of a token, and where an error lies. -/
def Tk.ref3 (i : Nat) (x : Int) : Tk → Value
  | .tok k n t j => .tuple #[.agg #[.int .i64 k, .int .i64 (i : Int), .int .i64 ((j : Int) - (i : Int)), .int .i64 n, .string t], .int .i64 0, .int .i64 x]
  | .bad e a => .tuple #[.agg #[.int .i64 0, .int .i64 0, .int .i64 0, .int .i64 0, .string ⟨#[]⟩], .int .i64 e, .int .i64 (a : Int)]
/-- A result's block of a token. -/
def TRes (w : World) (X : Nat) : Prop := w.heap[X]? = some (.cells #[.int .i64 0, .int .i64 0, .int .i64 0, .int .i64 0, .string ⟨#[]⟩] 62 (0, 0))
theorem TRes.tok {w : World} {X : Nat} (h : TRes w X) : w.cell? ⟨X, 0, none⟩ = some (.int .i64 0) ∧ w.cell? ⟨X, 1, none⟩ = some (.int .i64 0) ∧ w.cell? ⟨X, 2, none⟩ = some (.int .i64 0) ∧ w.cell? ⟨X, 3, none⟩ = some (.int .i64 0) ∧ w.cell? ⟨X, 4, none⟩ = some (.string ⟨#[]⟩) ∧
    w.frozen? ⟨X, 0, none⟩ = false ∧ w.frozen? ⟨X, 1, none⟩ = false ∧ w.frozen? ⟨X, 2, none⟩ = false ∧ w.frozen? ⟨X, 3, none⟩ = false ∧ w.frozen? ⟨X, 4, none⟩ = false := by
  unfold TRes at h
  refine ⟨?_, ?_, ?_, ?_, ?_, ?_, ?_, ?_, ?_, ?_⟩ <;> simp [World.cell?, World.frozen?, h]
theorem TRes.new (w : World) : TRes (w.alloc (.cells #[.int .i64 0, .int .i64 0, .int .i64 0, .int .i64 0, .string ⟨#[]⟩] 62)) w.heap.size := heap_alloc_new w _
theorem TRes.lt {w : World} {X : Nat} (h : TRes w X) : X < w.heap.size := (Array.getElem?_eq_some_iff.1 h).1
theorem TRes.below {w w' : World} {X : Nat} (h : TRes w X) (hb : Below w.heap.size w w') : TRes w' X := (hb.block X h.lt).trans h
theorem storedT {B : Nat} {a w : World} {X : Nat} (h : Below B a w) (hX : B ≤ X) (c0 c1 c2 c3 c4 : Value) :
    Below B a (((((w.setCell ⟨X, 0, none⟩ c0).setCell ⟨X, 1, none⟩ c1).setCell ⟨X, 2, none⟩ c2).setCell ⟨X, 3, none⟩ c3).setCell ⟨X, 4, none⟩ c4) := by
  iterate 5 refine Below.setCell ?_ (by exact hX) _
  exact h
theorem charS_bad3 {s : ByteArray} {st p : Nat} (h : endL s p = false) {e : Int} {a : Nat} (hC : charS s st p = .bad e a) : e = 3 ∧ a = p := by
  unfold charS at hC
  rw [if_neg (by rw [h]; decide)] at hC
  split at hC
  · cases hx : escS s (p + 1) with
    | none => rw [hx] at hC; injection hC with h1 h2; exact ⟨h1.symm, h2.symm⟩
    | some q => rw [hx] at hC; cases hC
  split at hC
  · cases hC
  · injection hC with h1 h2; exact ⟨h1.symm, h2.symm⟩
set_option maxRecDepth 100000 in
set_option maxHeartbeats 8000000 in
theorem charR (s : ByteArray) (hs : s.size ≤ 65536) (w : World) (i : Nat) (hi : i < s.size) :
    Calls Tryz.prog 71 #[.string s, .int .i64 (i : Int)] w fun e w' => (∃ x, e = .returned ((clitS s i (i + 1)).ref3 i x)) ∧ Below w.heap.size w w' := by
  obtain ⟨r, hr⟩ : ∃ r, Hid (clitS s i (i + 1) = r) := ⟨_, rfl⟩
  rw [hr.out]
  have hr1 := hr.out
  clear hr
  have hsz64 : (s.size : Int) ≤ 65536 := by omega
  have hi64 : (i : Int) ≤ 65536 := by omega
  have cO : ∀ w, Calls Tryz.prog 35 #[.string s, .int .i64 ((i : Int) + 1)] w fun e w' => e = .returned (.bool (endL s (i + 1))) ∧ w = w' := fun w => overR s (i + 1) hs (by omega) w
  have B0 := below_new w (.cells #[.int .i64 0, .int .i64 0, .int .i64 0, .int .i64 0, .string ⟨#[]⟩] 62)
  cases hE : endL s (i + 1)
  case true =>
    rw [hE] at cO
    have h39 : inB s (i + 1) 39 39 = false := by
      cases q : inB s (i + 1) 39 39
      · rfl
      · have h1 := inB_lt q
        have h2 := inB_eq h1 39
        rw [show (((39 : Nat) : Int)) = 39 from rfl, q] at h2
        unfold endL at hE
        rw [dif_pos h1] at hE
        simp at h2 hE
        omega
    rw [clitS, if_neg (by rw [h39]; decide), charS, if_pos hE] at hr1
    subst hr1
    go_enter Tryz.func71, Tryz.ntmps71
    go_wp2_with (first | (go_at_call 35; with_reducible refine (cO _).mono ?_; rintro e1 w1 ⟨rfl, rfl⟩))
    go_returns
    exact ⟨⟨0, rfl⟩, B0⟩
  have hi1 : i + 1 < s.size := endL_lt (by rw [hE]; decide)
  rw [hE] at cO
  have hcb : (s[i + 1].toNat : Int) ≤ 255 := by have := s[i + 1].toNat_lt; omega
  have hi1' : (i : Int) + 1 < (s.size : Int) := by omega
  have i39 : inB s (i + 1) 39 39 = ((s[i + 1].toNat : Int) == 39) := inB_eq hi1 39
  rw [clitS, i39] at hr1
  cases q39 : ((s[i + 1].toNat : Int) == 39)
  case true =>
    rw [q39, if_pos rfl] at hr1
    subst hr1
    clear i39
    go_enter Tryz.func71, Tryz.ntmps71
    go_wp2_with (first | (go_at_call 35; with_reducible refine (cO _).mono ?_; rintro e1 w1 ⟨rfl, rfl⟩))
    go_returns
    exact ⟨⟨0, rfl⟩, B0⟩
  rw [q39, if_neg (by decide)] at hr1
  clear i39
  have cL : ∀ w, Calls Tryz.prog 119 #[.string s, .int .i64 ((i : Int) + 1)] w fun e w' => e = .returned (letV (i + 1) (charS s i (i + 1))) ∧ Below w.heap.size w w' := fun w => LetterR s hs w i (i + 1) hi1 hE
  cases hC : charS s i (i + 1) with
  | bad e a =>
    obtain ⟨he, ha⟩ := charS_bad3 hE hC
    rw [hC, clitEnd, he, ha] at hr1
    rw [hC] at cL
    subst hr1
    have cL2 : ∀ w, Calls Tryz.prog 119 #[.string s, .int .i64 ((i : Int) + 1)] w fun e w' => e = .returned (.tuple #[.int .i64 (-1), .int .i64 0]) ∧ Below w.heap.size w w' := cL
    clear cL hE hC
    go_enter Tryz.func71, Tryz.ntmps71
    go_wp2_with (first | (go_at_call 35; with_reducible refine (cO _).mono ?_; rintro e1 w1 ⟨rfl, rfl⟩) | (go_at_call 119; with_reducible refine (cL2 _).mono ?_; rintro e2 w2 ⟨rfl, b2⟩; have r2 := (TRes.new w).below b2; obtain ⟨p0, p1, p2, p3, p4, p5, p6, p7, p8, p9⟩ := r2.tok; have n2 := r2.lt))
    refine bodyPost_ret (by simp [results, Tryz.results71, go_sem, p0, p1, p2, p3, p4]; try rfl) rfl ?_
    exact ⟨⟨0, rfl⟩, storedT (Below.then B0 b2) (Nat.le_refl _) _ _ _ _ _⟩
  | ok c j =>
    have hj := charS_le hC
    obtain ⟨z, rfl⟩ : ∃ z, j = i + 1 + z := ⟨j - (i + 1), by omega⟩
    rw [hC, clitEnd] at hr1
    have cL2 : ∀ w, Calls Tryz.prog 119 #[.string s, .int .i64 ((i : Int) + 1)] w fun e w' => e = .returned (.tuple #[.int .i64 (c : Int), .int .i64 (z : Int)]) ∧ Below w.heap.size w w' := fun w => by
      have := cL w
      rw [hC] at this
      simp only [letV] at this
      rw [show ((i + 1 + z : Nat) : Int) - ((i + 1 : Nat) : Int) = (z : Int) by omega] at this
      exact this
    obtain ⟨J, hJ⟩ : ∃ J, J = i + 1 + z := ⟨_, rfl⟩
    rw [← hJ] at hr1 hj
    have hJi : (i : Int) + 1 + (z : Int) = (J : Int) := by omega
    have hfin : (Tk.tok 2 (c : Int) ⟨#[]⟩ (J + 1)).ref3 i 0 = .tuple #[.agg #[.int .i64 2, .int .i64 (i : Int), .int .i64 ((z : Int) + 2), .int .i64 (c : Int), .string ⟨#[]⟩], .int .i64 0, .int .i64 0] := by
      simp only [Tk.ref3]
      rw [show ((J + 1 : Nat) : Int) - (i : Int) = (z : Int) + 2 by omega]
    have hc1 : (c : Int) ≤ 1114111 := by omega
    have hc0 : ¬ (c : Int) < 0 := by omega
    have hJ64 : (J : Int) ≤ 65536 := by omega
    have hz64 : (z : Int) ≤ 65536 := by omega
    have cO2 := fun w => overR s J hs (by omega) w
    clear cL hE hC hJ
    cases hE2 : endL s J
    case true =>
      have h39 : inB s J 39 39 = false := by
        cases q : inB s J 39 39
        · rfl
        · have h1 := inB_lt q
          have h2 := inB_eq h1 39
          rw [show (((39 : Nat) : Int)) = 39 from rfl, q] at h2
          unfold endL at hE2
          rw [dif_pos h1] at hE2
          simp at h2 hE2
          omega
      rw [if_neg (by rw [h39]; decide), if_pos hE2] at hr1
      rw [hE2] at cO2
      subst hr1
      clear h39 hE2 hj hfin
      go_enter Tryz.func71, Tryz.ntmps71
      go_wp2_with (first | (go_at_call 35; with_reducible refine (cO _).mono ?_; rintro e1 w1 ⟨rfl, rfl⟩) | (go_at_call 35; with_reducible refine (cO2 _).mono ?_; rintro e1 w1 ⟨rfl, rfl⟩) | (go_at_call 119; with_reducible refine (cL2 _).mono ?_; rintro e2 w2 ⟨rfl, b2⟩; have r2 := (TRes.new w).below b2; obtain ⟨p0, p1, p2, p3, p4, p5, p6, p7, p8, p9⟩ := r2.tok; have n2 := r2.lt))
      refine bodyPost_ret (by simp [results, Tryz.results71, go_sem, p0, p1, p2, p3, p4]; try rfl) rfl ?_
      exact ⟨⟨0, rfl⟩, storedT (Below.then B0 b2) (Nat.le_refl _) _ _ _ _ _⟩
    have hJs : J < s.size := endL_lt (by rw [hE2]; decide)
    have hJs' : (J : Int) < (s.size : Int) := by omega
    have hcb2 : (s[J].toNat : Int) ≤ 255 := by have := s[J].toNat_lt; omega
    rw [hE2, show inB s J 39 39 = ((s[J].toNat : Int) == 39) from inB_eq hJs 39] at hr1
    rw [hE2] at cO2
    cases q2 : ((s[J].toNat : Int) == 39)
    · have qn : ((s[J].toNat : Int) != 39) = true := by simp only [bne, q2]; rfl
      rw [q2, if_neg (by decide), if_neg (by decide)] at hr1
      subst hr1
      clear hE2 hj hfin
      go_enter Tryz.func71, Tryz.ntmps71
      go_wp2_with (first | (go_at_call 35; with_reducible refine (cO _).mono ?_; rintro e1 w1 ⟨rfl, rfl⟩) | (go_at_call 35; with_reducible refine (cO2 _).mono ?_; rintro e1 w1 ⟨rfl, rfl⟩) | (go_at_call 119; with_reducible refine (cL2 _).mono ?_; rintro e2 w2 ⟨rfl, b2⟩; have r2 := (TRes.new w).below b2; obtain ⟨p0, p1, p2, p3, p4, p5, p6, p7, p8, p9⟩ := r2.tok; have n2 := r2.lt))
      refine bodyPost_ret (by simp [results, Tryz.results71, go_sem, p0, p1, p2, p3, p4]; try rfl) rfl ?_
      exact ⟨⟨0, rfl⟩, storedT (Below.then B0 b2) (Nat.le_refl _) _ _ _ _ _⟩
    · have qn : ((s[J].toNat : Int) != 39) = false := by simp only [bne, q2]; rfl
      rw [q2, if_pos rfl] at hr1
      subst hr1
      clear hE2 hj
      go_enter Tryz.func71, Tryz.ntmps71
      go_wp2_with (first | (go_at_call 35; with_reducible refine (cO _).mono ?_; rintro e1 w1 ⟨rfl, rfl⟩) | (go_at_call 35; with_reducible refine (cO2 _).mono ?_; rintro e1 w1 ⟨rfl, rfl⟩) | (go_at_call 119; with_reducible refine (cL2 _).mono ?_; rintro e2 w2 ⟨rfl, b2⟩; have r2 := (TRes.new w).below b2; obtain ⟨p0, p1, p2, p3, p4, p5, p6, p7, p8, p9⟩ := r2.tok; have n2 := r2.lt))
      refine bodyPost_ret (by simp [results, Tryz.results71, go_sem, p0, p1, p2, p3, p4]; try rfl) rfl ?_
      exact ⟨⟨0, by rw [hfin]⟩, storedT (Below.then B0 b2) (Nat.le_refl _) _ _ _ _ _⟩
end Go.Proofs.YtljgehammocpkaaGreatDoor.Tok

namespace Go.Proofs.YtljgehammocpkaaGreatDoor.Tok
open Go.RowKit
set_option linter.unusedVariables false
set_option linter.unusedSimpArgs false

theorem charS_ok' {s : ByteArray} {start i c j : Nat} (h : charS s start i = .ok c j) : okC c := by
  have go : ∀ {c : Nat}, Lib.validRune (c : Int) = true → okC c := fun h => by
    simp only [Lib.validRune, decide_eq_true_eq] at h
    unfold okC; omega
  have one : ∀ {k i : Nat} {c j : Nat}, (some (k, i) : Option (Nat × Nat)) = some (c, j) → k < 55296 → okC c := fun he hk => by
    simp only [Option.some.injEq, Prod.mk.injEq] at he
    rw [← he.1]; exact Or.inl hk
  unfold charS at h
  split at h
  · cases h
  split at h
  · cases hx : escS s (i + 1) with
    | none => rw [hx] at h; cases h
    | some q =>
      obtain ⟨c', j'⟩ := q
      rw [hx] at h
      injection h with h1 h2
      subst h1
      unfold escS at hx
      split at hx
      · exact one hx (by decide)
      split at hx
      · exact one hx (by decide)
      split at hx
      · exact one hx (by decide)
      split at hx
      · exact one hx (by decide)
      split at hx
      · exact one hx (by decide)
      split at hx
      · exact one hx (by decide)
      split at hx
      · unfold cpS at hx
        split at hx
        · split at hx
          · rename_i h2
            simp only [Option.some.injEq, Prod.mk.injEq] at hx
            have hv := h2.2.2.2
            rw [hx.1] at hv
            exact go hv
          · cases hx
        · cases hx
      · cases hx
  split at h
  · injection h with h1 h2
    rw [← h1]
    exact bk_rune s i
  · cases h
set_option maxRecDepth 100000 in
set_option maxHeartbeats 8000000 in
theorem textR (s : ByteArray) (hs : s.size ≤ 65536) (w : World) (i : Nat) (hi : i < s.size) :
    Calls Tryz.prog 70 #[.string s, .int .i64 (i : Int)] w fun e w' => (∃ x, e = .returned ((strS s i (i + 1)).ref3 i x)) ∧ Below w.heap.size w w' := by
  obtain ⟨r, hr⟩ : ∃ r, Hid (strS s i (i + 1) = r) := ⟨_, rfl⟩
  rw [hr.out]
  have hsz64 : (s.size : Int) ≤ 65536 := by omega
  have hi64 : (i : Int) ≤ 65536 := by omega
  have B0 := below_new w (.cells #[.int .i64 0, .int .i64 0, .int .i64 0, .int .i64 0, .string ⟨#[]⟩] 62)
  have hn0 : (w.alloc (.cells #[.int .i64 0, .int .i64 0, .int .i64 0, .int .i64 0, .string ⟨#[]⟩] 62)).heap.size = w.heap.size + 1 := by simp
  go_enter Tryz.func70, Tryz.ntmps70
  go_wp2
  go_loopw [7, 8] (fun t p wr => ∃ (P f : Nat) (acc : List UInt8), i + 1 ≤ P ∧ P ≤ s.size ∧ t = .string ⟨acc.toArray⟩ ∧ p = .int .i64 (P : Int) ∧ Hid (strGo s i f P acc = r) ∧ s.size - P < f ∧ acc.length ≤ 4 * (P - i) ∧ Below (w.alloc (.cells #[.int .i64 0, .int .i64 0, .int .i64 0, .int .i64 0, .string ⟨#[]⟩] 62)).heap.size (w.alloc (.cells #[.int .i64 0, .int .i64 0, .int .i64 0, .int .i64 0, .string ⟨#[]⟩] 62)) wr) (fun _ p _ => s.size + 1 - (intOf p).toNat)
  case atStart => exact ⟨i + 1, s.size + 1 - (i + 1), [], Nat.le_refl _, hi, rfl, by first | rfl | simp, hr, by omega, Nat.zero_le _, Below.refl _ _⟩
  case round =>
    clear hr
    obtain ⟨P, f, acc, hP0, hP1, rfl, rfl, hr, hf, hacc, hb⟩ := hrel
    have r3 := (TRes.new w).below hb
    have hP64 : (P : Int) ≤ 65536 := by omega
    have cO := fun w => overR s P hs (by omega) w
    obtain ⟨g, rfl⟩ : ∃ g, f = g + 1 := ⟨f - 1, by omega⟩
    have hr1 := hr.out
    clear hr
    rw [strGo] at hr1
    cases hE : endL s P
    case true =>
      have h34 : inB s P 34 34 = false := by
        cases q : inB s P 34 34
        · rfl
        · have h1 := inB_lt q
          have h2 := inB_eq h1 34
          rw [show (((34 : Nat) : Int)) = 34 from rfl, q] at h2
          unfold endL at hE
          rw [dif_pos h1] at hE
          simp at h2 hE
          omega
      rw [if_neg (by rw [h34]; decide), charS, if_pos hE] at hr1
      rw [hE] at cO
      subst hr1
      obtain ⟨p0, p1, p2, p3, p4, p5, p6, p7, p8, p9⟩ := r3.tok
      clear h34 hE
      go_wp2_with (first | (go_at_call 35; with_reducible refine (cO _).mono ?_; rintro e1 w1 ⟨rfl, rfl⟩))
      refine bodyPost_ret (by simp [results, Tryz.results70, go_sem, p0, p1, p2, p3, p4]; try rfl) rfl ?_
      exact ⟨⟨0, rfl⟩, storedT (Below.then B0 hb) (Nat.le_refl _) _ _ _ _ _⟩
    have hPs : P < s.size := endL_lt (by rw [hE]; decide)
    have hPs' : (P : Int) < (s.size : Int) := by omega
    have hcb : (s[P].toNat : Int) ≤ 255 := by have := s[P].toNat_lt; omega
    have cL := fun w => LetterR s hs w i P hPs hE
    rw [hE] at cO
    rw [show inB s P 34 34 = ((s[P].toNat : Int) == 34) from inB_eq hPs 34] at hr1
    cases q34 : ((s[P].toNat : Int) == 34)
    case true =>
      rw [q34, if_pos rfl] at hr1
      subst hr1
      obtain ⟨p0, p1, p2, p3, p4, p5, p6, p7, p8, p9⟩ := r3.tok
      have hfin : (Tk.tok 3 0 ⟨acc.toArray⟩ (P + 1)).ref3 i 0 = .tuple #[.agg #[.int .i64 3, .int .i64 (i : Int), .int .i64 ((P : Int) + 1 - (i : Int)), .int .i64 0, .string ⟨acc.toArray⟩], .int .i64 0, .int .i64 0] := by
        simp only [Tk.ref3]
        rw [show ((P + 1 : Nat) : Int) = (P : Int) + 1 by omega]
      clear cL hE
      go_wp2_with (first | (go_at_call 35; with_reducible refine (cO _).mono ?_; rintro e1 w1 ⟨rfl, rfl⟩))
      refine bodyPost_ret (by simp [results, Tryz.results70, go_sem, p0, p1, p2, p3, p4]; try rfl) rfl ?_
      exact ⟨⟨0, by rw [hfin]⟩, storedT (Below.then B0 hb) (Nat.le_refl _) _ _ _ _ _⟩
    rw [q34, if_neg (by decide)] at hr1
    cases hC : charS s i P with
    | bad e a =>
      obtain ⟨he, ha⟩ := charS_bad3 hE hC
      rw [hC, he, ha] at hr1
      rw [hC] at cL
      simp only at hr1
      subst hr1
      have cL2 : ∀ w, Calls Tryz.prog 119 #[.string s, .int .i64 (P : Int)] w fun e w' => e = .returned (.tuple #[.int .i64 (-1), .int .i64 0]) ∧ Below w.heap.size w w' := cL
      clear cL hE hC
      go_wp2_with (first | (go_at_call 35; with_reducible refine (cO _).mono ?_; rintro e1 w1 ⟨rfl, rfl⟩) | (go_at_call 119; with_reducible refine (cL2 _).mono ?_; rintro e2 w2 ⟨rfl, b2⟩; have r2 := r3.below b2; obtain ⟨p0, p1, p2, p3, p4, p5, p6, p7, p8, p9⟩ := r2.tok; have n2 := r2.lt))
      refine bodyPost_ret (by simp [results, Tryz.results70, go_sem, p0, p1, p2, p3, p4]; try rfl) rfl ?_
      exact ⟨⟨0, rfl⟩, storedT (Below.then B0 (hb.trans (b2.mono hb.size))) (Nat.le_refl _) _ _ _ _ _⟩
    | ok c j =>
      have hj := charS_le hC
      obtain ⟨z, rfl⟩ : ∃ z, j = P + z := ⟨j - P, by omega⟩
      rw [hC] at hr1
      simp only at hr1
      have cL2 : ∀ w, Calls Tryz.prog 119 #[.string s, .int .i64 (P : Int)] w fun e w' => e = .returned (.tuple #[.int .i64 (c : Int), .int .i64 (z : Int)]) ∧ Below w.heap.size w w' := fun w => by
        have := cL w
        rw [hC] at this
        simp only [letV] at this
        rw [show ((P + z : Nat) : Int) - (P : Int) = (z : Int) by omega] at this
        exact this
      have henc := bk_enc c (charS_ok' hC)
      have hle := enc_le' (c : Int)
      obtain ⟨C, hCc⟩ : ∃ C : Int, (c : Int) = C := ⟨_, rfl⟩
      rw [hCc] at cL2
      have hc1 : C ≤ 1114111 := by omega
      have hc0 : ¬ C < 0 := by omega
      have hw : IntKind.i32.wrap C = C := by unfold IntKind.wrap; simp [IntKind.bits, IntKind.signed]; omega
      have hz64 : (z : Int) ≤ 65536 := by omega
      have hPz : (P : Int) + (z : Int) ≤ 65536 := by omega
      obtain ⟨E, hEe⟩ : ∃ E, Utf8.encode C = E := ⟨_, rfl⟩
      rw [hCc, hEe] at henc
      rw [← hCc] at henc
      have hAE : (⟨acc.toArray⟩ : ByteArray) ++ E = ⟨(acc ++ Lib.encodeRune (c : Int)).toArray⟩ := by
        rw [henc]
        apply ByteArray.ext
        rw [ByteArray.data_append]
        simp
      have hAz : (⟨acc.toArray⟩ : ByteArray).size = acc.length := by rw [Lib.size_eq, arr_of]
      have hEz : E.size = (Lib.encodeRune (c : Int)).length := by rw [henc, Lib.size_eq, arr_of]
      have aS := fun w => run_string_add_sum (P := Tryz.prog) w ⟨acc.toArray⟩ E (by rw [hAz, hEz]; first | omega | (unfold maxLen; omega))
      rw [hAE] at aS
      have hg : s.size - (P + z) < g := by omega
      have hal : (acc ++ Lib.encodeRune (c : Int)).length ≤ 4 * (P + z - i) := by rw [List.length_append]; omega
      obtain ⟨J, hJ⟩ : ∃ J, J = P + z := ⟨_, rfl⟩
      obtain ⟨Z, hZ⟩ : ∃ Z : Int, (z : Int) = Z := ⟨_, rfl⟩
      rw [hZ] at cL2 hz64
      have hJi : (P : Int) + Z = (J : Int) := by omega
      have hZ0 : 0 ≤ Z := by omega
      have hP0' : i + 1 ≤ J := by omega
      have hP1' : J ≤ s.size := by omega
      have hPJ : P < J := by omega
      have hJ64 : (J : Int) ≤ 65536 := by omega
      rw [← hJ] at hr1 hg hal
      have hr2 := Lib.hid hr1
      obtain ⟨T, hT⟩ : ∃ T : ByteArray, (⟨acc.toArray⟩ : ByteArray) = T := ⟨_, rfl⟩
      obtain ⟨T2, hT2⟩ : ∃ T2 : ByteArray, (⟨(acc ++ Lib.encodeRune (c : Int)).toArray⟩ : ByteArray) = T2 := ⟨_, rfl⟩
      rw [hT2, hT] at aS
      rw [hT]
      have hT3 := Lib.hid (congrArg Value.string hT2.symm)
      generalize acc ++ Lib.encodeRune (c : Int) = acc2 at *
      clear cL hE hC hr1 henc hAE hAz hEz hle hT hT2 hj hacc hf hP0 hJ hPz hZ hCc
      go_wp2_with (first | (go_at_call 35; with_reducible refine (cO _).mono ?_; rintro e1 w1 ⟨rfl, rfl⟩) | (go_at_call 119; with_reducible refine (cL2 _).mono ?_; rintro e2 w2 ⟨rfl, b2⟩; have r2 := r3.below b2; obtain ⟨p0, p1, p2, p3, p4, p5, p6, p7, p8, p9⟩ := r2.tok; have n2 := r2.lt))
      go_roundw
      case rel => exact ⟨J, g, acc2, hP0', hP1', hT3.out, by go_num, hr2, hg, hal, hb.trans (b2.mono hb.size)⟩
      case measure => simp [intOf]; omega
end Go.Proofs.YtljgehammocpkaaGreatDoor.Tok
