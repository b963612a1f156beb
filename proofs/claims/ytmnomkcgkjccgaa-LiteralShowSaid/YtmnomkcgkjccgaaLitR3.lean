/-
  Layer 9: the reference's Decode. (Written by wip/gen/literal-dec.py.)
-/
import Derived.Test.YtmnomkcgkjccgaaLitR1
namespace Go.Proofs.Ytmnomkcgkjccgaa.Lit
open Go.RowKit
set_option linter.unusedVariables false
set_option linter.unusedSimpArgs false

def bt (s : ByteArray) (k : Nat) : Nat := (s.get! k).toNat
theorem bt_lt (s : ByteArray) (k : Nat) : bt s k < 256 := UInt8.toNat_lt _
theorem bt_at (s : ByteArray) (k : Nat) (h : k < s.size) : (s[k]'h).toNat = bt s k := by
  unfold bt
  congr 1
  simp [ByteArray.get!, getElem!_pos, h]
  rfl
theorem idx (s : ByteArray) (k : Nat) (z : Int) (hz : z = (k : Int)) (hk : k < s.size) (w : World) : (Instr.index 9 (.string s) (.int .i64 z)).run Try.prog w = .ok (.int .u8 (bt s k : Int)) w := by
  subst hz
  rw [run_index_string w 9 s .i64 (k : Int) Try.underlying9, dif_pos ⟨by omega, by omega⟩]
  congr 2
  have := bt_at s k hk
  simp only [Int.toNat_natCast]
  rw [this]
theorem chZ' (c : Nat) : isChZ (c : Int) = isChB c := by
  unfold isChZ isChB
  congr 1
  apply propext
  omega
def lastD (M n : Nat) : Nat × Nat := if isChB n = true ∧ (Lib.encodeRune (n : Int)).length = M then (n, M) else (0, 0)
def finD (s : ByteArray) (i M : Nat) : Nat → Nat → Nat → Nat × Nat
  | 0, _, n => lastD M n
  | f + 1, k, n => if bt s (i + k) < 128 ∨ 192 ≤ bt s (i + k) then (0, 0) else finD s i M f (k + 1) (n * 64 + bt s (i + k) - 128)
def pairV (p : Nat × Nat) : Value := .tuple #[.int .i64 (p.1 : Int), .int .i64 (p.2 : Int)]
set_option maxRecDepth 100000 in
set_option maxHeartbeats 2000000 in
theorem decA (s : ByteArray) (i c : Nat) (hi : i < s.size) (hs : s.size ≤ 1000000) (hc : bt s i = c) (h : c < 128) (w : World) :
    Calls Try.prog 16 #[.string s, .int .i64 (i : Int)] w fun e w' => e = .returned (pairV (c, 1)) ∧ Below w.heap.size w w' := by
  have hx := idx s i (i : Int) rfl hi
  rw [hc] at hx
  have hcb : c < 256 := by rw [← hc]; exact bt_lt s i
  clear hc
  have k1 : (c : Int) < 128 := by omega
  go_enter Try.func16, Try.ntmps16
  go_wp2
  go_ret2
  exact ⟨rfl, Below.refl _ _⟩
set_option maxRecDepth 100000 in
set_option maxHeartbeats 2000000 in
theorem decB (s : ByteArray) (i c : Nat) (hi : i < s.size) (hs : s.size ≤ 1000000) (hc : bt s i = c) (h : 128 ≤ c) (h2 : c < 192) (w : World) :
    Calls Try.prog 16 #[.string s, .int .i64 (i : Int)] w fun e w' => e = .returned (pairV (0, 0)) ∧ Below w.heap.size w w' := by
  have hx := idx s i (i : Int) rfl hi
  rw [hc] at hx
  have hcb : c < 256 := by rw [← hc]; exact bt_lt s i
  clear hc
  have k1 : ¬ (c : Int) < 128 := by omega
  have k2 : (c : Int) < 192 := by omega
  have k2n : ¬ (192 : Int) ≤ (c : Int) := by omega
  have k3 : (c : Int) < 224 := by omega
  have k3n : ¬ (224 : Int) ≤ (c : Int) := by omega
  have k4 : (c : Int) < 240 := by omega
  have k4n : ¬ (240 : Int) ≤ (c : Int) := by omega
  have k5 : (c : Int) < 248 := by omega
  have k5n : ¬ (248 : Int) ≤ (c : Int) := by omega
  go_enter Try.func16, Try.ntmps16
  go_wp2
  go_ret2
  exact ⟨rfl, Below.refl _ _⟩
set_option maxRecDepth 100000 in
set_option maxHeartbeats 2000000 in
theorem decC (s : ByteArray) (i c : Nat) (hi : i < s.size) (hs : s.size ≤ 1000000) (hc : bt s i = c) (h : 248 ≤ c) (w : World) :
    Calls Try.prog 16 #[.string s, .int .i64 (i : Int)] w fun e w' => e = .returned (pairV (0, 0)) ∧ Below w.heap.size w w' := by
  have hx := idx s i (i : Int) rfl hi
  rw [hc] at hx
  have hcb : c < 256 := by rw [← hc]; exact bt_lt s i
  clear hc
  have k1 : ¬ (c : Int) < 128 := by omega
  have k2 : (192 : Int) ≤ (c : Int) := by omega
  have k2n : ¬ (c : Int) < 192 := by omega
  have k3 : (224 : Int) ≤ (c : Int) := by omega
  have k3n : ¬ (c : Int) < 224 := by omega
  have k4 : (240 : Int) ≤ (c : Int) := by omega
  have k4n : ¬ (c : Int) < 240 := by omega
  have k5 : (248 : Int) ≤ (c : Int) := by omega
  have k5n : ¬ (c : Int) < 248 := by omega
  go_enter Try.func16, Try.ntmps16
  go_wp2
  go_ret2
  exact ⟨rfl, Below.refl _ _⟩
set_option maxRecDepth 100000 in
set_option maxHeartbeats 2000000 in
theorem decS2 (s : ByteArray) (i c : Nat) (hi : i < s.size) (hs : s.size ≤ 1000000) (hc : bt s i = c) (h : 192 ≤ c) (h2 : c < 224) (h3 : s.size - i < 2) (w : World) :
    Calls Try.prog 16 #[.string s, .int .i64 (i : Int)] w fun e w' => e = .returned (pairV (0, 0)) ∧ Below w.heap.size w w' := by
  have hx := idx s i (i : Int) rfl hi
  rw [hc] at hx
  have hcb : c < 256 := by rw [← hc]; exact bt_lt s i
  clear hc
  have k1 : ¬ (c : Int) < 128 := by omega
  have k2 : (192 : Int) ≤ (c : Int) := by omega
  have k2n : ¬ (c : Int) < 192 := by omega
  have k3 : (c : Int) < 224 := by omega
  have k3n : ¬ (224 : Int) ≤ (c : Int) := by omega
  have k4 : (c : Int) < 240 := by omega
  have k4n : ¬ (240 : Int) ≤ (c : Int) := by omega
  have k5 : (c : Int) < 248 := by omega
  have k5n : ¬ (248 : Int) ≤ (c : Int) := by omega
  have k6 : (s.size : Int) - (i : Int) < 2 := by omega
  go_enter Try.func16, Try.ntmps16
  go_wp2
  go_ret2
  exact ⟨rfl, Below.refl _ _⟩
set_option maxRecDepth 100000 in
set_option maxHeartbeats 2000000 in
theorem decL2 (s : ByteArray) (i c : Nat) (hi : i < s.size) (hs : s.size ≤ 1000000) (hc : bt s i = c) (h : 192 ≤ c) (h2 : c < 224) (h3 : 2 ≤ s.size - i) (w : World) :
    Calls Try.prog 16 #[.string s, .int .i64 (i : Int)] w fun e w' => e = .returned (pairV (finD s i 2 1 1 (c - 192))) ∧ Below w.heap.size w w' := by
  have hx := idx s i (i : Int) rfl hi
  rw [hc] at hx
  have hcb : c < 256 := by rw [← hc]; exact bt_lt s i
  clear hc
  have k1 : ¬ (c : Int) < 128 := by omega
  have k2 : (192 : Int) ≤ (c : Int) := by omega
  have k2n : ¬ (c : Int) < 192 := by omega
  have k3 : (c : Int) < 224 := by omega
  have k3n : ¬ (224 : Int) ≤ (c : Int) := by omega
  have k4 : (c : Int) < 240 := by omega
  have k4n : ¬ (240 : Int) ≤ (c : Int) := by omega
  have k5 : (c : Int) < 248 := by omega
  have k5n : ¬ (248 : Int) ≤ (c : Int) := by omega
  have k6 : ¬ (s.size : Int) - (i : Int) < 2 := by omega
  have hiI : (i : Int) ≤ 1000000 := by omega
  obtain ⟨r, hr⟩ : ∃ r, Hid (finD s i 2 1 1 (c - 192) = r) := ⟨finD s i 2 1 1 (c - 192), rfl⟩
  rw [hr.out]
  go_enter Try.func16, Try.ntmps16
  go_wp2
  go_loopw [4, 5, 7, 9, 10] (fun _ _ n j _ wr => ∃ k m : Nat, 1 ≤ k ∧ k ≤ 2 ∧ j = .int .i64 (k : Int) ∧ n = .int .i64 (m : Int) ∧ m < 32 * 64 ^ (k - 1) ∧ Hid (finD s i 2 (2 - k) k m = r) ∧ w = wr) (fun _ _ _ j _ _ => 2 - (intOf j).toNat)
  case atStart => exact ⟨1, c - 192, Nat.le_refl _, by omega, rfl, by congr 1; omega, by simp; omega, hr, rfl⟩
  case round =>
    clear hr
    obtain ⟨k, m, hk1, hkM, rfl, rfl, hm, hr, rfl⟩ := hrel
    by_cases hlt : k < 2
    · have hlt' : (k : Int) < 2 := by omega
      have hmb : m < 131072 := Nat.lt_of_lt_of_le hm (by
        have : k = 1 ∨ k = 2 ∨ k = 3 := by omega
        rcases this with e | e | e <;> rw [e] <;> decide)
      have hy := idx s (i + k) ((i : Int) + (k : Int)) (by omega) (by omega)
      have hb := bt_lt s (i + k)
      obtain ⟨f, hf⟩ : ∃ f, 2 - k = f + 1 := ⟨2 - k - 1, by omega⟩
      have hr2 := hr.out
      rw [hf, finD] at hr2
      clear hr
      generalize bt s (i + k) = b at *
      by_cases g1 : b < 128
      · rw [if_pos (.inl g1)] at hr2
        subst hr2
        have g1' : (b : Int) < 128 := by omega
        go_wp2
        go_ret2
        exact ⟨rfl, Below.refl _ _⟩
      · have g1' : ¬ (b : Int) < 128 := by omega
        by_cases g2 : 192 ≤ b
        · rw [if_pos (.inr g2)] at hr2
          subst hr2
          have g2' : (192 : Int) ≤ (b : Int) := by omega
          go_wp2
          go_ret2
          exact ⟨rfl, Below.refl _ _⟩
        · rw [if_neg (by omega)] at hr2
          have g2' : ¬ (192 : Int) ≤ (b : Int) := by omega
          have hmI : (m : Int) < 131072 := by omega
          have e2 : (m : Int) * 64 + (b : Int) - 128 = ((m * 64 + b - 128 : Nat) : Int) := by omega
          go_wp2
          go_roundw
          case rel => exact ⟨k + 1, m * 64 + b - 128, by omega, by omega, by go_num, by first | rw [e2] | (congr 1), by rw [show k + 1 - 1 = (k - 1) + 1 by omega, Nat.pow_succ]; omega, by rw [show 2 - (k + 1) = f by omega]; exact hr2, by first | rfl | trivial⟩
          case measure => simp [intOf]; omega
    · obtain rfl : k = 2 := by omega
      have hmb : m < 8388608 := Nat.lt_of_lt_of_le hm (by decide)
      have hr2 := hr.out
      rw [Nat.sub_self, finD] at hr2
      unfold lastD at hr2
      have cI := isR (m : Int)
      rw [chZ' m] at cI
      cases hB : isChB m with
      | false =>
        rw [hB] at cI
        rw [if_neg (by rw [hB]; exact fun e => by cases e.1)] at hr2
        subst hr2
        go_wp2_with (go_at_call 11; with_reducible refine (cI _).mono ?_; rintro e1 w1 ⟨rfl, rfl⟩)
        go_ret2
        exact ⟨rfl, Below.refl _ _⟩
      | true =>
        rw [hB] at cI
        have hv : m < 55296 ∨ (57343 < m ∧ m ≤ 1114111) := by simp only [isChB, decide_eq_true_eq] at hB; omega
        have cE := encodeR m hv
        have hz : (⟨(Lib.encodeRune (m : Int)).toArray⟩ : ByteArray).size = (Lib.encodeRune (m : Int)).length := tx_size _
        by_cases hl : (Lib.encodeRune (m : Int)).length = 2
        · rw [if_pos ⟨hB, hl⟩] at hr2
          subst hr2
          rw [hl] at hz
          go_wp2_with (first
            | (go_at_call 11; with_reducible refine (cI _).mono ?_; rintro e1 w1 ⟨rfl, rfl⟩)
            | (go_at_call 13; with_reducible refine (cE _).mono ?_; rintro e2 w2 ⟨rfl, b2⟩))
          go_ret2
          exact ⟨rfl, b2⟩
        · rw [if_neg (fun e => hl e.2)] at hr2
          subst hr2
          have hz2 : (((⟨(Lib.encodeRune (m : Int)).toArray⟩ : ByteArray).size : Int) == 2) = false := by rw [hz]; simp; omega
          go_wp2_with (first
            | (go_at_call 11; with_reducible refine (cI _).mono ?_; rintro e1 w1 ⟨rfl, rfl⟩)
            | (go_at_call 13; with_reducible refine (cE _).mono ?_; rintro e2 w2 ⟨rfl, b2⟩))
          go_ret2
          exact ⟨rfl, b2⟩
set_option maxRecDepth 100000 in
set_option maxHeartbeats 2000000 in
theorem decS3 (s : ByteArray) (i c : Nat) (hi : i < s.size) (hs : s.size ≤ 1000000) (hc : bt s i = c) (h : 224 ≤ c) (h2 : c < 240) (h3 : s.size - i < 3) (w : World) :
    Calls Try.prog 16 #[.string s, .int .i64 (i : Int)] w fun e w' => e = .returned (pairV (0, 0)) ∧ Below w.heap.size w w' := by
  have hx := idx s i (i : Int) rfl hi
  rw [hc] at hx
  have hcb : c < 256 := by rw [← hc]; exact bt_lt s i
  clear hc
  have k1 : ¬ (c : Int) < 128 := by omega
  have k2 : (192 : Int) ≤ (c : Int) := by omega
  have k2n : ¬ (c : Int) < 192 := by omega
  have k3 : (224 : Int) ≤ (c : Int) := by omega
  have k3n : ¬ (c : Int) < 224 := by omega
  have k4 : (c : Int) < 240 := by omega
  have k4n : ¬ (240 : Int) ≤ (c : Int) := by omega
  have k5 : (c : Int) < 248 := by omega
  have k5n : ¬ (248 : Int) ≤ (c : Int) := by omega
  have k6 : (s.size : Int) - (i : Int) < 3 := by omega
  go_enter Try.func16, Try.ntmps16
  go_wp2
  go_ret2
  exact ⟨rfl, Below.refl _ _⟩
set_option maxRecDepth 100000 in
set_option maxHeartbeats 2000000 in
theorem decL3 (s : ByteArray) (i c : Nat) (hi : i < s.size) (hs : s.size ≤ 1000000) (hc : bt s i = c) (h : 224 ≤ c) (h2 : c < 240) (h3 : 3 ≤ s.size - i) (w : World) :
    Calls Try.prog 16 #[.string s, .int .i64 (i : Int)] w fun e w' => e = .returned (pairV (finD s i 3 2 1 (c - 224))) ∧ Below w.heap.size w w' := by
  have hx := idx s i (i : Int) rfl hi
  rw [hc] at hx
  have hcb : c < 256 := by rw [← hc]; exact bt_lt s i
  clear hc
  have k1 : ¬ (c : Int) < 128 := by omega
  have k2 : (192 : Int) ≤ (c : Int) := by omega
  have k2n : ¬ (c : Int) < 192 := by omega
  have k3 : (224 : Int) ≤ (c : Int) := by omega
  have k3n : ¬ (c : Int) < 224 := by omega
  have k4 : (c : Int) < 240 := by omega
  have k4n : ¬ (240 : Int) ≤ (c : Int) := by omega
  have k5 : (c : Int) < 248 := by omega
  have k5n : ¬ (248 : Int) ≤ (c : Int) := by omega
  have k6 : ¬ (s.size : Int) - (i : Int) < 3 := by omega
  have hiI : (i : Int) ≤ 1000000 := by omega
  obtain ⟨r, hr⟩ : ∃ r, Hid (finD s i 3 2 1 (c - 224) = r) := ⟨finD s i 3 2 1 (c - 224), rfl⟩
  rw [hr.out]
  go_enter Try.func16, Try.ntmps16
  go_wp2
  go_loopw [4, 5, 7, 9, 10] (fun _ _ n j _ wr => ∃ k m : Nat, 1 ≤ k ∧ k ≤ 3 ∧ j = .int .i64 (k : Int) ∧ n = .int .i64 (m : Int) ∧ m < 32 * 64 ^ (k - 1) ∧ Hid (finD s i 3 (3 - k) k m = r) ∧ w = wr) (fun _ _ _ j _ _ => 3 - (intOf j).toNat)
  case atStart => exact ⟨1, c - 224, Nat.le_refl _, by omega, rfl, by congr 1; omega, by simp; omega, hr, rfl⟩
  case round =>
    clear hr
    obtain ⟨k, m, hk1, hkM, rfl, rfl, hm, hr, rfl⟩ := hrel
    by_cases hlt : k < 3
    · have hlt' : (k : Int) < 3 := by omega
      have hmb : m < 131072 := Nat.lt_of_lt_of_le hm (by
        have : k = 1 ∨ k = 2 ∨ k = 3 := by omega
        rcases this with e | e | e <;> rw [e] <;> decide)
      have hy := idx s (i + k) ((i : Int) + (k : Int)) (by omega) (by omega)
      have hb := bt_lt s (i + k)
      obtain ⟨f, hf⟩ : ∃ f, 3 - k = f + 1 := ⟨3 - k - 1, by omega⟩
      have hr2 := hr.out
      rw [hf, finD] at hr2
      clear hr
      generalize bt s (i + k) = b at *
      by_cases g1 : b < 128
      · rw [if_pos (.inl g1)] at hr2
        subst hr2
        have g1' : (b : Int) < 128 := by omega
        go_wp2
        go_ret2
        exact ⟨rfl, Below.refl _ _⟩
      · have g1' : ¬ (b : Int) < 128 := by omega
        by_cases g2 : 192 ≤ b
        · rw [if_pos (.inr g2)] at hr2
          subst hr2
          have g2' : (192 : Int) ≤ (b : Int) := by omega
          go_wp2
          go_ret2
          exact ⟨rfl, Below.refl _ _⟩
        · rw [if_neg (by omega)] at hr2
          have g2' : ¬ (192 : Int) ≤ (b : Int) := by omega
          have hmI : (m : Int) < 131072 := by omega
          have e2 : (m : Int) * 64 + (b : Int) - 128 = ((m * 64 + b - 128 : Nat) : Int) := by omega
          go_wp2
          go_roundw
          case rel => exact ⟨k + 1, m * 64 + b - 128, by omega, by omega, by go_num, by first | rw [e2] | (congr 1), by rw [show k + 1 - 1 = (k - 1) + 1 by omega, Nat.pow_succ]; omega, by rw [show 3 - (k + 1) = f by omega]; exact hr2, by first | rfl | trivial⟩
          case measure => simp [intOf]; omega
    · obtain rfl : k = 3 := by omega
      have hmb : m < 8388608 := Nat.lt_of_lt_of_le hm (by decide)
      have hr2 := hr.out
      rw [Nat.sub_self, finD] at hr2
      unfold lastD at hr2
      have cI := isR (m : Int)
      rw [chZ' m] at cI
      cases hB : isChB m with
      | false =>
        rw [hB] at cI
        rw [if_neg (by rw [hB]; exact fun e => by cases e.1)] at hr2
        subst hr2
        go_wp2_with (go_at_call 11; with_reducible refine (cI _).mono ?_; rintro e1 w1 ⟨rfl, rfl⟩)
        go_ret2
        exact ⟨rfl, Below.refl _ _⟩
      | true =>
        rw [hB] at cI
        have hv : m < 55296 ∨ (57343 < m ∧ m ≤ 1114111) := by simp only [isChB, decide_eq_true_eq] at hB; omega
        have cE := encodeR m hv
        have hz : (⟨(Lib.encodeRune (m : Int)).toArray⟩ : ByteArray).size = (Lib.encodeRune (m : Int)).length := tx_size _
        by_cases hl : (Lib.encodeRune (m : Int)).length = 3
        · rw [if_pos ⟨hB, hl⟩] at hr2
          subst hr2
          rw [hl] at hz
          go_wp2_with (first
            | (go_at_call 11; with_reducible refine (cI _).mono ?_; rintro e1 w1 ⟨rfl, rfl⟩)
            | (go_at_call 13; with_reducible refine (cE _).mono ?_; rintro e2 w2 ⟨rfl, b2⟩))
          go_ret2
          exact ⟨rfl, b2⟩
        · rw [if_neg (fun e => hl e.2)] at hr2
          subst hr2
          have hz2 : (((⟨(Lib.encodeRune (m : Int)).toArray⟩ : ByteArray).size : Int) == 3) = false := by rw [hz]; simp; omega
          go_wp2_with (first
            | (go_at_call 11; with_reducible refine (cI _).mono ?_; rintro e1 w1 ⟨rfl, rfl⟩)
            | (go_at_call 13; with_reducible refine (cE _).mono ?_; rintro e2 w2 ⟨rfl, b2⟩))
          go_ret2
          exact ⟨rfl, b2⟩
set_option maxRecDepth 100000 in
set_option maxHeartbeats 2000000 in
theorem decS4 (s : ByteArray) (i c : Nat) (hi : i < s.size) (hs : s.size ≤ 1000000) (hc : bt s i = c) (h : 240 ≤ c) (h2 : c < 248) (h3 : s.size - i < 4) (w : World) :
    Calls Try.prog 16 #[.string s, .int .i64 (i : Int)] w fun e w' => e = .returned (pairV (0, 0)) ∧ Below w.heap.size w w' := by
  have hx := idx s i (i : Int) rfl hi
  rw [hc] at hx
  have hcb : c < 256 := by rw [← hc]; exact bt_lt s i
  clear hc
  have k1 : ¬ (c : Int) < 128 := by omega
  have k2 : (192 : Int) ≤ (c : Int) := by omega
  have k2n : ¬ (c : Int) < 192 := by omega
  have k3 : (224 : Int) ≤ (c : Int) := by omega
  have k3n : ¬ (c : Int) < 224 := by omega
  have k4 : (240 : Int) ≤ (c : Int) := by omega
  have k4n : ¬ (c : Int) < 240 := by omega
  have k5 : (c : Int) < 248 := by omega
  have k5n : ¬ (248 : Int) ≤ (c : Int) := by omega
  have k6 : (s.size : Int) - (i : Int) < 4 := by omega
  go_enter Try.func16, Try.ntmps16
  go_wp2
  go_ret2
  exact ⟨rfl, Below.refl _ _⟩
set_option maxRecDepth 100000 in
set_option maxHeartbeats 2000000 in
theorem decL4 (s : ByteArray) (i c : Nat) (hi : i < s.size) (hs : s.size ≤ 1000000) (hc : bt s i = c) (h : 240 ≤ c) (h2 : c < 248) (h3 : 4 ≤ s.size - i) (w : World) :
    Calls Try.prog 16 #[.string s, .int .i64 (i : Int)] w fun e w' => e = .returned (pairV (finD s i 4 3 1 (c - 240))) ∧ Below w.heap.size w w' := by
  have hx := idx s i (i : Int) rfl hi
  rw [hc] at hx
  have hcb : c < 256 := by rw [← hc]; exact bt_lt s i
  clear hc
  have k1 : ¬ (c : Int) < 128 := by omega
  have k2 : (192 : Int) ≤ (c : Int) := by omega
  have k2n : ¬ (c : Int) < 192 := by omega
  have k3 : (224 : Int) ≤ (c : Int) := by omega
  have k3n : ¬ (c : Int) < 224 := by omega
  have k4 : (240 : Int) ≤ (c : Int) := by omega
  have k4n : ¬ (c : Int) < 240 := by omega
  have k5 : (c : Int) < 248 := by omega
  have k5n : ¬ (248 : Int) ≤ (c : Int) := by omega
  have k6 : ¬ (s.size : Int) - (i : Int) < 4 := by omega
  have hiI : (i : Int) ≤ 1000000 := by omega
  obtain ⟨r, hr⟩ : ∃ r, Hid (finD s i 4 3 1 (c - 240) = r) := ⟨finD s i 4 3 1 (c - 240), rfl⟩
  rw [hr.out]
  go_enter Try.func16, Try.ntmps16
  go_wp2
  go_loopw [4, 5, 7, 9, 10] (fun _ _ n j _ wr => ∃ k m : Nat, 1 ≤ k ∧ k ≤ 4 ∧ j = .int .i64 (k : Int) ∧ n = .int .i64 (m : Int) ∧ m < 32 * 64 ^ (k - 1) ∧ Hid (finD s i 4 (4 - k) k m = r) ∧ w = wr) (fun _ _ _ j _ _ => 4 - (intOf j).toNat)
  case atStart => exact ⟨1, c - 240, Nat.le_refl _, by omega, rfl, by congr 1; omega, by simp; omega, hr, rfl⟩
  case round =>
    clear hr
    obtain ⟨k, m, hk1, hkM, rfl, rfl, hm, hr, rfl⟩ := hrel
    by_cases hlt : k < 4
    · have hlt' : (k : Int) < 4 := by omega
      have hmb : m < 131072 := Nat.lt_of_lt_of_le hm (by
        have : k = 1 ∨ k = 2 ∨ k = 3 := by omega
        rcases this with e | e | e <;> rw [e] <;> decide)
      have hy := idx s (i + k) ((i : Int) + (k : Int)) (by omega) (by omega)
      have hb := bt_lt s (i + k)
      obtain ⟨f, hf⟩ : ∃ f, 4 - k = f + 1 := ⟨4 - k - 1, by omega⟩
      have hr2 := hr.out
      rw [hf, finD] at hr2
      clear hr
      generalize bt s (i + k) = b at *
      by_cases g1 : b < 128
      · rw [if_pos (.inl g1)] at hr2
        subst hr2
        have g1' : (b : Int) < 128 := by omega
        go_wp2
        go_ret2
        exact ⟨rfl, Below.refl _ _⟩
      · have g1' : ¬ (b : Int) < 128 := by omega
        by_cases g2 : 192 ≤ b
        · rw [if_pos (.inr g2)] at hr2
          subst hr2
          have g2' : (192 : Int) ≤ (b : Int) := by omega
          go_wp2
          go_ret2
          exact ⟨rfl, Below.refl _ _⟩
        · rw [if_neg (by omega)] at hr2
          have g2' : ¬ (192 : Int) ≤ (b : Int) := by omega
          have hmI : (m : Int) < 131072 := by omega
          have e2 : (m : Int) * 64 + (b : Int) - 128 = ((m * 64 + b - 128 : Nat) : Int) := by omega
          go_wp2
          go_roundw
          case rel => exact ⟨k + 1, m * 64 + b - 128, by omega, by omega, by go_num, by first | rw [e2] | (congr 1), by rw [show k + 1 - 1 = (k - 1) + 1 by omega, Nat.pow_succ]; omega, by rw [show 4 - (k + 1) = f by omega]; exact hr2, by first | rfl | trivial⟩
          case measure => simp [intOf]; omega
    · obtain rfl : k = 4 := by omega
      have hmb : m < 8388608 := Nat.lt_of_lt_of_le hm (by decide)
      have hr2 := hr.out
      rw [Nat.sub_self, finD] at hr2
      unfold lastD at hr2
      have cI := isR (m : Int)
      rw [chZ' m] at cI
      cases hB : isChB m with
      | false =>
        rw [hB] at cI
        rw [if_neg (by rw [hB]; exact fun e => by cases e.1)] at hr2
        subst hr2
        go_wp2_with (go_at_call 11; with_reducible refine (cI _).mono ?_; rintro e1 w1 ⟨rfl, rfl⟩)
        go_ret2
        exact ⟨rfl, Below.refl _ _⟩
      | true =>
        rw [hB] at cI
        have hv : m < 55296 ∨ (57343 < m ∧ m ≤ 1114111) := by simp only [isChB, decide_eq_true_eq] at hB; omega
        have cE := encodeR m hv
        have hz : (⟨(Lib.encodeRune (m : Int)).toArray⟩ : ByteArray).size = (Lib.encodeRune (m : Int)).length := tx_size _
        by_cases hl : (Lib.encodeRune (m : Int)).length = 4
        · rw [if_pos ⟨hB, hl⟩] at hr2
          subst hr2
          rw [hl] at hz
          go_wp2_with (first
            | (go_at_call 11; with_reducible refine (cI _).mono ?_; rintro e1 w1 ⟨rfl, rfl⟩)
            | (go_at_call 13; with_reducible refine (cE _).mono ?_; rintro e2 w2 ⟨rfl, b2⟩))
          go_ret2
          exact ⟨rfl, b2⟩
        · rw [if_neg (fun e => hl e.2)] at hr2
          subst hr2
          have hz2 : (((⟨(Lib.encodeRune (m : Int)).toArray⟩ : ByteArray).size : Int) == 4) = false := by rw [hz]; simp; omega
          go_wp2_with (first
            | (go_at_call 11; with_reducible refine (cI _).mono ?_; rintro e1 w1 ⟨rfl, rfl⟩)
            | (go_at_call 13; with_reducible refine (cE _).mono ?_; rintro e2 w2 ⟨rfl, b2⟩))
          go_ret2
          exact ⟨rfl, b2⟩
/-- What is read: nothing of a byte that is part of no encoding. -/
def refD (p : Nat × Nat) : Nat × Nat := if p.1 = 65533 ∧ p.2 = 1 then (0, 0) else p
theorem refD_bad : refD (65533, 1) = (0, 0) := rfl
theorem refD_ok (v M : Nat) (h : M ≠ 1) : refD (v, M) = (v, M) := if_neg (fun e => h e.2)
theorem encL (n : Nat) (h : n < 55296 ∨ (57343 < n ∧ n ≤ 1114111)) : (Lib.encodeRune (n : Int)).length = if n < 128 then 1 else if n < 2048 then 2 else if n < 65536 then 3 else 4 := by
  by_cases h1 : n < 128
  · rw [enc_ascii n h1, if_pos h1]; rfl
  by_cases h2 : n < 2048
  · rw [enc2 n (by omega) h2, if_neg h1, if_pos h2]; rfl
  by_cases h3 : n < 65536
  · rw [enc3 n (by omega), if_neg h1, if_neg h2, if_pos h3]; rfl
  · rw [enc4 n (by omega) (by omega), if_neg h1, if_neg h2, if_neg h3]; rfl
theorem lastD_yes {M n : Nat} (h : n < 55296 ∨ (57343 < n ∧ n ≤ 1114111)) (hM : (if n < 128 then 1 else if n < 2048 then 2 else if n < 65536 then 3 else 4) = M) : lastD M n = (n, M) := by
  unfold lastD
  rw [if_pos ⟨by unfold isChB; rw [decide_eq_true_eq]; omega, by rw [encL n h, hM]⟩]
theorem lastD_no {M n : Nat} (h : (n < 55296 ∨ (57343 < n ∧ n ≤ 1114111)) → (if n < 128 then 1 else if n < 2048 then 2 else if n < 65536 then 3 else 4) ≠ M) : lastD M n = (0, 0) := by
  unfold lastD
  rw [if_neg]
  rintro ⟨h1, h2⟩
  have hv : n < 55296 ∨ (57343 < n ∧ n ≤ 1114111) := by unfold isChB at h1; rw [decide_eq_true_eq] at h1; omega
  rw [encL n hv] at h2
  exact h hv h2
def badB (b : Nat) : Prop := b < 128 ∨ 192 ≤ b
instance (b : Nat) : Decidable (badB b) := by unfold badB; infer_instance
theorem dec2 (n b0 b1 b2 b3 : Nat) (h0 : 192 ≤ b0) (h1 : b0 < 224) (hn : 2 ≤ n) (hb1 : b1 < 256) :
    (if b1 < 128 ∨ 192 ≤ b1 then (0, 0) else lastD 2 ((b0 - 192) * 64 + b1 - 128)) = refD (Lib.decodeN n b0 b1 b2 b3) := by
  by_cases g1 : b1 < 128 ∨ 192 ≤ b1
  · rw [if_pos g1]
    have : Lib.decodeN n b0 b1 b2 b3 = (65533, 1) := by
      unfold Lib.decodeN
      rw [if_neg (by omega), if_neg (by omega), if_neg (by omega), if_neg (by omega)]
    rw [this]; rfl
  · rw [if_neg g1]
    have e : b0 % 32 * 64 + b1 % 64 = (b0 - 192) * 64 + b1 - 128 := by omega
    unfold Lib.decodeN
    rw [if_neg (by omega), if_pos (by omega), e]
    generalize hv : (b0 - 192) * 64 + b1 - 128 = v
    by_cases g2 : v ≥ 128
    · rw [if_pos g2, refD_ok v 2 (by decide)]
      exact lastD_yes (by omega) (by rw [if_neg (by omega), if_pos (by omega)])
    · rw [if_neg g2, refD_bad]
      exact lastD_no (fun _ => by rw [if_pos (by omega)]; decide)
theorem dec3 (n b0 b1 b2 b3 : Nat) (h0 : 224 ≤ b0) (h1 : b0 < 240) (hn : 3 ≤ n) (hb1 : b1 < 256) (hb2 : b2 < 256) :
    (if b1 < 128 ∨ 192 ≤ b1 then (0, 0) else if b2 < 128 ∨ 192 ≤ b2 then (0, 0) else lastD 3 (((b0 - 224) * 64 + b1 - 128) * 64 + b2 - 128)) = refD (Lib.decodeN n b0 b1 b2 b3) := by
  by_cases g1 : b1 < 128 ∨ 192 ≤ b1
  · rw [if_pos g1]
    have : Lib.decodeN n b0 b1 b2 b3 = (65533, 1) := by
      unfold Lib.decodeN
      rw [if_neg (by omega), if_neg (by omega), if_neg (by omega), if_neg (by omega)]
    rw [this]; rfl
  rw [if_neg g1]
  by_cases g2 : b2 < 128 ∨ 192 ≤ b2
  · rw [if_pos g2]
    have : Lib.decodeN n b0 b1 b2 b3 = (65533, 1) := by
      unfold Lib.decodeN
      rw [if_neg (by omega), if_neg (by omega), if_neg (by omega), if_neg (by omega)]
    rw [this]; rfl
  rw [if_neg g2]
  have e : b0 % 16 * 4096 + b1 % 64 * 64 + b2 % 64 = ((b0 - 224) * 64 + b1 - 128) * 64 + b2 - 128 := by omega
  unfold Lib.decodeN
  rw [if_neg (by omega), if_neg (by omega), if_pos (by omega), e]
  have hb : ((b0 - 224) * 64 + b1 - 128) * 64 + b2 - 128 < 65536 := by omega
  generalize hv : ((b0 - 224) * 64 + b1 - 128) * 64 + b2 - 128 = v at *
  by_cases g3 : v ≥ 2048 ∧ (v < 55296 ∨ (57344 ≤ v ∧ v ≤ 1114111))
  · rw [if_pos g3, refD_ok v 3 (by decide)]
    exact lastD_yes (by omega) (by rw [if_neg (by omega), if_neg (by omega), if_pos (by omega)])
  · rw [if_neg g3, refD_bad]
    refine lastD_no (fun _ => ?_)
    repeat' split
    all_goals omega
theorem dec4 (n b0 b1 b2 b3 : Nat) (h0 : 240 ≤ b0) (h1 : b0 < 248) (hn : 4 ≤ n) (hb1 : b1 < 256) (hb2 : b2 < 256) (hb3 : b3 < 256) :
    (if b1 < 128 ∨ 192 ≤ b1 then (0, 0) else if b2 < 128 ∨ 192 ≤ b2 then (0, 0) else if b3 < 128 ∨ 192 ≤ b3 then (0, 0) else lastD 4 ((((b0 - 240) * 64 + b1 - 128) * 64 + b2 - 128) * 64 + b3 - 128)) = refD (Lib.decodeN n b0 b1 b2 b3) := by
  by_cases g1 : b1 < 128 ∨ 192 ≤ b1
  · rw [if_pos g1]
    have : Lib.decodeN n b0 b1 b2 b3 = (65533, 1) := by
      unfold Lib.decodeN
      rw [if_neg (by omega), if_neg (by omega), if_neg (by omega), if_neg (by omega)]
    rw [this]; rfl
  rw [if_neg g1]
  by_cases g2 : b2 < 128 ∨ 192 ≤ b2
  · rw [if_pos g2]
    have : Lib.decodeN n b0 b1 b2 b3 = (65533, 1) := by
      unfold Lib.decodeN
      rw [if_neg (by omega), if_neg (by omega), if_neg (by omega), if_neg (by omega)]
    rw [this]; rfl
  rw [if_neg g2]
  by_cases g3 : b3 < 128 ∨ 192 ≤ b3
  · rw [if_pos g3]
    have : Lib.decodeN n b0 b1 b2 b3 = (65533, 1) := by
      unfold Lib.decodeN
      rw [if_neg (by omega), if_neg (by omega), if_neg (by omega), if_neg (by omega)]
    rw [this]; rfl
  rw [if_neg g3]
  have e : b0 % 8 * 262144 + b1 % 64 * 4096 + b2 % 64 * 64 + b3 % 64 = (((b0 - 240) * 64 + b1 - 128) * 64 + b2 - 128) * 64 + b3 - 128 := by omega
  unfold Lib.decodeN
  rw [if_neg (by omega), if_neg (by omega), if_neg (by omega), if_pos (by omega), e]
  generalize hv : (((b0 - 240) * 64 + b1 - 128) * 64 + b2 - 128) * 64 + b3 - 128 = v at *
  by_cases g4 : v ≥ 65536 ∧ (v < 55296 ∨ (57344 ≤ v ∧ v ≤ 1114111))
  · rw [if_pos g4, refD_ok v 4 (by decide)]
    exact lastD_yes (by omega) (by rw [if_neg (by omega), if_neg (by omega), if_neg (by omega)])
  · rw [if_neg g4, refD_bad]
    refine lastD_no (fun _ => ?_)
    repeat' split
    all_goals omega
theorem dec_short (n b0 b1 b2 b3 M : Nat) (h0 : 192 ≤ b0) (hM : (b0 < 224 ∧ M = 2) ∨ (224 ≤ b0 ∧ b0 < 240 ∧ M = 3) ∨ (240 ≤ b0 ∧ b0 < 248 ∧ M = 4)) (hn : n < M) : Lib.decodeN n b0 b1 b2 b3 = (65533, 1) := by
  unfold Lib.decodeN
  rw [if_neg (by omega), if_neg (by omega), if_neg (by omega), if_neg (by omega)]
theorem dec_none (n b0 b1 b2 b3 : Nat) (h : (128 ≤ b0 ∧ b0 < 192) ∨ 248 ≤ b0) (hb : b0 < 256) : Lib.decodeN n b0 b1 b2 b3 = (65533, 1) := by
  unfold Lib.decodeN
  rw [if_neg (by omega), if_neg (by omega), if_neg (by omega), if_neg (by omega)]
/-- The reference's Decode is the model's, save that it gives nothing where there is no encoding. -/
theorem decodeR (s : ByteArray) (i : Nat) (hi : i < s.size) (hs : s.size ≤ 1000000) (w : World) :
    Calls Try.prog 16 #[.string s, .int .i64 (i : Int)] w fun e w' => e = .returned (pairV (refD (Utf8.decode s i))) ∧ Below w.heap.size w w' := by
  have hb := bt_lt s i
  have hb1 := bt_lt s (i + 1)
  have hb2 := bt_lt s (i + 2)
  have hb3 := bt_lt s (i + 3)
  have e : Utf8.decode s i = Lib.decodeN (s.size - i) (bt s i) (bt s (i + 1)) (bt s (i + 2)) (bt s (i + 3)) := Lib.decode_at s i
  rw [e]
  by_cases h1 : bt s i < 128
  · have := decA s i (bt s i) hi hs rfl h1 w
    rw [Lib.decodeN_ascii _ _ _ _ _ h1]
    have e2 : refD (bt s i, 1) = (bt s i, 1) := if_neg (fun e => by have := e.1; simp at this; omega)
    rw [e2]; exact this
  by_cases h2 : bt s i < 192
  · have := decB s i (bt s i) hi hs rfl (by omega) h2 w
    rw [dec_none _ _ _ _ _ (.inl ⟨by omega, h2⟩) hb]; exact this
  by_cases h5 : 248 ≤ bt s i
  · have := decC s i (bt s i) hi hs rfl h5 w
    rw [dec_none _ _ _ _ _ (.inr h5) hb]; exact this
  by_cases h3 : bt s i < 224
  · by_cases g : s.size - i < 2
    · have := decS2 s i (bt s i) hi hs rfl (by omega) h3 g w
      rw [dec_short _ _ _ _ _ 2 (by omega) (by omega) g]; exact this
    · have := decL2 s i (bt s i) hi hs rfl (by omega) h3 (by omega) w
      rw [← dec2 _ _ _ _ _ (by omega) h3 (by omega) hb1]; exact this
  by_cases h4 : bt s i < 240
  · by_cases g : s.size - i < 3
    · have := decS3 s i (bt s i) hi hs rfl (by omega) h4 g w
      rw [dec_short _ _ _ _ _ 3 (by omega) (by omega) g]; exact this
    · have := decL3 s i (bt s i) hi hs rfl (by omega) h4 (by omega) w
      rw [← dec3 _ _ _ _ _ (by omega) h4 (by omega) hb1 hb2]; exact this
  · by_cases g : s.size - i < 4
    · have := decS4 s i (bt s i) hi hs rfl (by omega) (by omega) g w
      rw [dec_short _ _ _ _ _ 4 (by omega) (by omega) g]; exact this
    · have := decL4 s i (bt s i) hi hs rfl (by omega) (by omega) (by omega) w
      rw [← dec4 _ _ _ _ _ (by omega) (by omega) (by omega) hb1 hb2 hb3]; exact this
end Go.Proofs.Ytmnomkcgkjccgaa.Lit
