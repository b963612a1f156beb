/-
  Layer 11: the program's isClass, isLetter, isDigit, isName, contains.
-/
import Derived.Test.YtmbljiapfbadeaaNamP1
namespace Go.Proofs.Ytmbljiapfbadeaa.Nam
open Go.RowKit Go.Maps
set_option linter.unusedVariables false
set_option linter.unusedSimpArgs false

set_option maxRecDepth 100000 in
set_option maxHeartbeats 2000000 in
theorem letter0 (w : World) (x : Int) (r : Bool) (hr : decide (97 ≤ x ∧ x ≤ 122) = r) : Calls Try.prog 25 #[.int .u8 x] w fun e w' => e = .returned (.bool r) ∧ Below w.heap.size w w' := by
  by_cases h1 : 97 ≤ x
  · by_cases h2 : x ≤ 122
    · obtain rfl : r = true := by rw [← hr]; simp; omega
      clear hr
      go_enter Try.func25, Try.ntmps25
      go_wp2
      go_ret
      exact ⟨rfl, Below.refl _ _⟩
    · obtain rfl : r = false := by rw [← hr]; simp; omega
      clear hr
      go_enter Try.func25, Try.ntmps25
      go_wp2
      go_ret
      exact ⟨rfl, Below.refl _ _⟩
  · obtain rfl : r = false := by rw [← hr]; simp; omega
    clear hr
    go_enter Try.func25, Try.ntmps25
    go_wp2
    go_ret
    exact ⟨rfl, Below.refl _ _⟩
theorem letterP (w : World) (x : Int) : Calls Try.prog 25 #[.int .u8 x] w fun e w' => e = .returned (.bool (decide (97 ≤ x ∧ x ≤ 122))) ∧ Below w.heap.size w w' := letter0 w x _ rfl
set_option maxRecDepth 100000 in
set_option maxHeartbeats 2000000 in
theorem digit0 (w : World) (x : Int) (r : Bool) (hr : decide (48 ≤ x ∧ x ≤ 57) = r) : Calls Try.prog 26 #[.int .u8 x] w fun e w' => e = .returned (.bool r) ∧ Below w.heap.size w w' := by
  by_cases h1 : 48 ≤ x
  · by_cases h2 : x ≤ 57
    · obtain rfl : r = true := by rw [← hr]; simp; omega
      clear hr
      go_enter Try.func26, Try.ntmps26
      go_wp2
      go_ret
      exact ⟨rfl, Below.refl _ _⟩
    · obtain rfl : r = false := by rw [← hr]; simp; omega
      clear hr
      go_enter Try.func26, Try.ntmps26
      go_wp2
      go_ret
      exact ⟨rfl, Below.refl _ _⟩
  · obtain rfl : r = false := by rw [← hr]; simp; omega
    clear hr
    go_enter Try.func26, Try.ntmps26
    go_wp2
    go_ret
    exact ⟨rfl, Below.refl _ _⟩
theorem digitP (w : World) (x : Int) : Calls Try.prog 26 #[.int .u8 x] w fun e w' => e = .returned (.bool (decide (48 ≤ x ∧ x ≤ 57))) ∧ Below w.heap.size w w' := digit0 w x _ rfl
set_option maxRecDepth 100000 in
set_option maxHeartbeats 2000000 in
theorem class0 (w : World) (x : Int) (r : Bool) (hr : decide (1 ≤ x ∧ x ≤ 4) = r) : Calls Try.prog 20 #[.int .i64 x] w fun e w' => e = .returned (.bool r) ∧ Below w.heap.size w w' := by
  by_cases h1 : 1 ≤ x
  · by_cases h2 : x ≤ 4
    · obtain rfl : r = true := by rw [← hr]; simp; omega
      clear hr
      go_enter Try.func20, Try.ntmps20
      go_wp2
      go_ret
      exact ⟨rfl, Below.refl _ _⟩
    · obtain rfl : r = false := by rw [← hr]; simp; omega
      clear hr
      go_enter Try.func20, Try.ntmps20
      go_wp2
      go_ret
      exact ⟨rfl, Below.refl _ _⟩
  · obtain rfl : r = false := by rw [← hr]; simp; omega
    clear hr
    go_enter Try.func20, Try.ntmps20
    go_wp2
    go_ret
    exact ⟨rfl, Below.refl _ _⟩
theorem classP (w : World) (x : Int) : Calls Try.prog 20 #[.int .i64 x] w fun e w' => e = .returned (.bool (decide (1 ≤ x ∧ x ≤ 4))) ∧ Below w.heap.size w w' := class0 w x _ rfl
theorem isL_at {s : ByteArray} {i : Nat} (h : i < s.size) : decide (97 ≤ (s[i].toNat : Int) ∧ (s[i].toNat : Int) ≤ 122) = isL s i := by
  rw [isL, dif_pos h]
theorem isD_at {s : ByteArray} {i : Nat} (h : i < s.size) : decide (48 ≤ (s[i].toNat : Int) ∧ (s[i].toNat : Int) ≤ 57) = isD s i := by
  rw [isD, dif_pos h]
theorem okName_yes {s : ByteArray} (h1 : 1 ≤ s.size) (h2 : s.size ≤ 32) (h3 : isL s 0 = true) (h4 : ∀ i, i < s.size → isL s i = true ∨ isD s i = true) : okName s = true := by
  simp only [okName, h3, Bool.and_true, Bool.and_eq_true, decide_eq_true_eq, List.all_eq_true, List.mem_range, Bool.or_eq_true]
  exact ⟨⟨h1, h2⟩, h4⟩
theorem okName_no {s : ByteArray} (h : s.size < 1 ∨ 32 < s.size ∨ isL s 0 = false ∨ ∃ i, i < s.size ∧ isL s i = false ∧ isD s i = false) : okName s = false := by
  cases e : okName s with
  | false => rfl
  | true =>
    simp only [okName, Bool.and_eq_true, decide_eq_true_eq, List.all_eq_true, List.mem_range, Bool.or_eq_true] at e
    obtain ⟨⟨⟨h1, h2⟩, h3⟩, h4⟩ := e
    rcases h with h | h | h | ⟨i, hi, a, b⟩
    · omega
    · omega
    · rw [h] at h3; cases h3
    · rcases h4 i hi with q | q
      · rw [a] at q; cases q
      · rw [b] at q; cases q
theorem tl_ne (s : ByteArray) (h : 0 < s.size) : ¬ s.toList = [] := by
  rw [ByteArray.toList_eq]
  intro e
  have h1 : s.data.toList.length = s.size := Array.length_toList
  rw [e] at h1
  exact absurd h1 (Nat.ne_of_lt h)
theorem tl_empty (s : ByteArray) (h : 0 < s.size) : s.toList.isEmpty = false := by
  cases e : s.toList with
  | nil => exact absurd e (tl_ne s h)
  | cons => rfl
theorem empty_eq {s : ByteArray} (h : s.size = 0) : s = ⟨#[]⟩ := ByteArray.ext (by
  have : s.data.size = 0 := h
  exact Array.eq_empty_of_size_eq_zero this)
set_option maxRecDepth 100000 in
set_option maxHeartbeats 4000000 in
theorem name0 (w : World) (s : ByteArray) (hs : s.size ≤ 9223372036854775807) (r : Bool) (hr : okName s = r) : Calls Try.prog 21 #[.string s] w fun e w' => e = .returned (.bool r) ∧ Below w.heap.size w w' := by
  by_cases h0 : s.size = 0
  · have := empty_eq h0
    subst this
    obtain rfl : r = false := by rw [← hr]; decide
    clear hr
    have hne : ((⟨#[]⟩ : ByteArray) == ⟨#[]⟩) = true := by decide
    go_enter Try.func21, Try.ntmps21
    go_wp2
    go_ret
    exact ⟨rfl, Below.refl _ _⟩
  · have hne := tl_empty s (by omega)
    by_cases h1 : s.size ≤ 32
    · have hp : 0 < s.size := by omega
      have h1' : (s.size : Int) ≤ 32 := by omega
      by_cases h2 : isL s 0 = true
      · go_enter Try.func21, Try.ntmps21
        go_wp2_with (go_at_call 25; (with_reducible refine (letterP _ _).mono ?_); rintro e1 w1 ⟨rfl, b1⟩; rw [isL_at hp, h2])
        go_loopw [19] (fun i wr => ∃ k : Nat, k ≤ s.size ∧ i = .int .i64 (k : Int) ∧ (∀ i, i < k → isL s i = true ∨ isD s i = true) ∧ Below w.heap.size w wr) (fun i _ => s.size - (intOf i).toNat)
        case atStart => exact ⟨0, Nat.zero_le _, rfl, fun i hi => absurd hi (by omega), b1⟩
        case round =>
          clear b1
          obtain ⟨k, hk, rfl, ha, Bw⟩ := hrel
          by_cases hlt : k < s.size
          · have hlt' : (k : Int) < (s.size : Int) := by omega
            by_cases h3 : isL s k = true
            · go_wp2_with (go_at_call 25; (with_reducible refine (letterP _ _).mono ?_); rintro e1 w1 ⟨rfl, b1⟩; rw [isL_at hlt, h3])
              go_roundw
              case rel => exact ⟨k + 1, by omega, by go_num, fun i hi => by
                rcases Nat.lt_or_ge i k with q | q
                · exact ha i q
                · obtain rfl : i = k := by omega
                  exact Or.inl h3, Below.then Bw b1⟩
              case measure => simp [intOf]; omega
            · have h3' : isL s k = false := by simpa using h3
              cases h4 : isD s k with
              | true =>
                go_wp2_with (first | (go_at_call 25; (with_reducible refine (letterP _ _).mono ?_); rintro e1 w1 ⟨rfl, b1⟩; rw [isL_at hlt, h3']) | (go_at_call 26; (with_reducible refine (digitP _ _).mono ?_); rintro e2 w2 ⟨rfl, b2⟩; rw [isD_at hlt, h4]))
                go_roundw
                case rel => exact ⟨k + 1, by omega, by go_num, fun i hi => by
                  rcases Nat.lt_or_ge i k with q | q
                  · exact ha i q
                  · obtain rfl : i = k := by omega
                    exact Or.inr h4, Below.then (Below.then Bw b1) b2⟩
                case measure => simp [intOf]; omega
              | false =>
                obtain rfl : r = false := hr.symm.trans <| okName_no (s := s) (Or.inr (Or.inr (Or.inr ⟨k, hlt, h3', h4⟩)))
                go_wp2_with (first | (go_at_call 25; (with_reducible refine (letterP _ _).mono ?_); rintro e1 w1 ⟨rfl, b1⟩; rw [isL_at hlt, h3']) | (go_at_call 26; (with_reducible refine (digitP _ _).mono ?_); rintro e2 w2 ⟨rfl, b2⟩; rw [isD_at hlt, h4]))
                go_ret
                exact ⟨rfl, Below.then (Below.then Bw b1) b2⟩
          · obtain rfl : s.size = k := by omega
            have hn0 : ¬ (s.size : Int) < (s.size : Int) := by omega
            obtain rfl : r = true := hr.symm.trans <| okName_yes (by omega) h1 h2 ha
            go_wp2
            go_ret
            exact ⟨rfl, Bw⟩
      · have h2' : isL s 0 = false := by simpa using h2
        obtain rfl : r = false := hr.symm.trans <| okName_no (s := s) (Or.inr (Or.inr (Or.inl h2')))
        go_enter Try.func21, Try.ntmps21
        go_wp2_with (go_at_call 25; (with_reducible refine (letterP _ _).mono ?_); rintro e1 w1 ⟨rfl, b1⟩; rw [isL_at hp, h2'])
        go_ret
        exact ⟨rfl, b1⟩
    · have h1' : (32 : Int) < (s.size : Int) := by omega
      obtain rfl : r = false := hr.symm.trans <| okName_no (s := s) (Or.inr (Or.inl (by omega)))
      go_enter Try.func21, Try.ntmps21
      go_wp2
      go_ret
      exact ⟨rfl, Below.refl _ _⟩
theorem nameP (w : World) (s : ByteArray) (hs : s.size ≤ 9223372036854775807) : Calls Try.prog 21 #[.string s] w fun e w' => e = .returned (.bool (okName s)) ∧ Below w.heap.size w w' := name0 w s hs _ rfl
/-- The look-up's shape: whatever is there, a class and a place. -/
theorem look_shape {v : Value} {ps : List MemPlace} {D : DataW Unit} {s : ByteArray} (h : defR v = some (D.atKey (kl s) (dE 0 0), ps)) : ∃ x : Int × Int, v = .agg #[.int .i64 x.1, .int .i64 x.2] ∧ D.atKey (kl s) (dE 0 0) = dE x.1 x.2 := by
  obtain ⟨x, rfl, e⟩ := defR_inv h
  exact ⟨x, rfl, by simpa using congrArg Prod.fst e⟩
set_option maxRecDepth 100000 in
set_option maxHeartbeats 4000000 in
theorem contains0 (w : World) (b m : Nat) (out : Option Nat) (d : Nat) (ds : List Def) (h : PSc w b m out d ds) (s : ByteArray) (hs : s.size ≤ maxLen) (r : Bool) (hr : (pos ds s).isSome = r) :
    Calls Try.prog 22 #[.pointer (some ⟨b, 0, none⟩), .string s] w fun e w' => e = .returned (.bool r) ∧ Below w.heap.size w w' := by
  obtain ⟨c0, c1, c2, f⟩ := h.cells
  have hp := (has_pos (ds := ds) (s := s)).trans hr
  go_enter Try.func22, Try.ntmps22
  go_wp2_with (at_lookup; refine wpList_lookup_own_ok _ rfl _ _ _ rfl 9 53 keyLaw Try.underlying44 defR (zeroDef _) (dE 0 0) [] (defR_mk 0 0) m _ _ rfl h.map _ (kl s) rfl (key_kl hs) ?_; intro v ps hv; obtain ⟨x, rfl, hx⟩ := look_shape hv; rw [hp])
  go_ret
  exact ⟨rfl, below_new _ _⟩
end Go.Proofs.Ytmbljiapfbadeaa.Nam
