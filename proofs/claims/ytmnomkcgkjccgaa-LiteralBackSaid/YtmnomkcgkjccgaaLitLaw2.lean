/-
  Layer 9: the law LiteralBack.
-/
import Derived.Test.YtmnomkcgkjccgaaLitLives
import Derived.Test.YtmnomkcgkjccgaaLitR1
import Derived.Test.YtmnomkcgkjccgaaLitBack
import Derived.Test.YtmnomkcgkjccgaaLitOpen
namespace Go.Proofs.Ytmnomkcgkjccgaa.Lit
open Go.RowKit
set_option linter.unusedVariables false
set_option linter.unusedSimpArgs false

/-- The characters xs as a text. -/
def encs (xs : List Int) : List UInt8 := (xs.map Int.toNat).flatMap (fun (c : Nat) => Lib.encodeRune (c : Int))
theorem encs_len : ∀ xs : List Int, (encs xs).length ≤ 4 * xs.length
  | [] => Nat.zero_le _
  | x :: r => by
    have h := encs_len r
    have h2 := (enc_len x.toNat).2
    unfold encs at h ⊢
    rw [List.map_cons, List.flatMap_cons, List.length_append, List.length_cons]
    omega
theorem encs_snoc (xs : List Int) (c : Nat) : encs (xs ++ [(c : Int)]) = encs xs ++ Lib.encodeRune (c : Int) := by
  unfold encs
  rw [List.map_append, List.flatMap_append]
  simp
theorem chZ_nat {x : Int} (h : isChZ x = true) : x.toNat < 55296 ∨ (57343 < x.toNat ∧ x.toNat ≤ 1114111) := by
  simp only [isChZ, decide_eq_true_eq] at h
  omega

set_option maxRecDepth 100000 in
set_option maxHeartbeats 8000000 in
theorem backLaw (xs : List Int) (a : Option Addr) (c : Nat) (t : ByteArray) (w : World) (h : RunesAt w a c xs) (ht : t.size ≤ 9223372036854775807) : Calls Try.prog 5 #[.slice a xs.length c, .string t] w fun e w' => e = .returned (.bool true) ∧ Below w.heap.size w w' := by
  have hcap := h.2.1
  have hlc := h.1
  obtain ⟨n, hN⟩ : ∃ n, Hid (xs.length = n) := ⟨xs.length, rfl⟩
  rw [hN.out]
  by_cases g1 : 500 < n
  · have g1' : (500 : Int) < (n : Int) := by omega
    go_enter Try.func5, Try.ntmps5
    go_wp2_with (go_at_call 6; with_reducible refine (livesL _).mono ?_; rintro e1 w1 ⟨rfl, b1⟩)
    go_ret
    exact ⟨rfl, b1⟩
  have g1' : ¬ (500 : Int) < (n : Int) := by omega
  by_cases g2 : 2000 < t.size
  · have g2' : (2000 : Int) < (t.size : Int) := by omega
    go_enter Try.func5, Try.ntmps5
    go_wp2_with (go_at_call 6; with_reducible refine (livesL _).mono ?_; rintro e1 w1 ⟨rfl, b1⟩)
    go_ret
    exact ⟨rfl, b1⟩
  have g2' : ¬ (2000 : Int) < (t.size : Int) := by omega
  have hn64 : (n : Int) ≤ 500 := by omega
  go_enter Try.func5, Try.ntmps5
  go_wp2
  go_loopw [4, 5, 6] (fun _ v i wr => ∃ j : Nat, j ≤ n ∧ i = .int .i64 (j : Int) ∧ v = .string ⟨(encs (xs.take j)).toArray⟩ ∧ (∀ x ∈ xs.take j, isChZ x = true) ∧ Below w.heap.size w wr) (fun _ _ i _ => n - (intOf i).toNat)
  case atStart => exact ⟨0, Nat.zero_le _, rfl, by simp [encs], by simp, Below.refl _ _⟩
  case round =>
    obtain ⟨j, hj, rfl, rfl, hall, hb⟩ := hrel
    by_cases hlt : j < n
    · have hlt' : (j : Int) < (n : Int) := by omega
      have hjl : j < xs.length := by rw [hN.out]; exact hlt
      obtain ⟨x0, x1⟩ := h.2.2.1 _ (List.getElem_mem hjl)
      obtain ⟨bk, off, hx, hcell⟩ := h.at hjl
      have hcell2 := cell_below hcell hb
      rw [hN.out] at hx
      have hst : xs.take (j + 1) = xs.take j ++ [xs[j]] := List.take_succ_eq_append_getElem hjl
      generalize xs[j] = x at *
      have cI := isR x
      cases hB : isChZ x with
      | false =>
        rw [hB] at cI
        clear hst hall h hcell
        go_wp2_with (first
          | (go_at_call 11; with_reducible refine (cI _).mono ?_; rintro e1 w1 ⟨rfl, rfl⟩)
          | (go_at_call 6; with_reducible refine (livesL _).mono ?_; rintro e2 w2 ⟨rfl, b2⟩))
        go_ret
        exact ⟨rfl, Below.then hb b2⟩
      | true =>
        rw [hB] at cI
        have hv := chZ_nat hB
        obtain ⟨k, rfl⟩ : ∃ k : Nat, x = k := ⟨x.toNat, by simp only [isChZ, decide_eq_true_eq] at hB; omega⟩
        rw [Int.toNat_natCast] at hv
        have cE := encodeR k hv
        have hl1 := encs_len (xs.take j)
        have hl2 := (enc_len k).2
        have hL1 : (⟨(encs (xs.take j)).toArray⟩ : ByteArray).size = (encs (xs.take j)).length := tx_size _
        have hL2 : (⟨(Lib.encodeRune (k : Int)).toArray⟩ : ByteArray).size = (Lib.encodeRune (k : Int)).length := tx_size _
        rw [List.length_take] at hl1
        have ha := fun w => run_string_add_sum (P := Try.prog) w ⟨(encs (xs.take j)).toArray⟩ ⟨(Lib.encodeRune (k : Int)).toArray⟩ (by rw [hL1, hL2]; omega)
        have hap := tx_app (encs (xs.take j)) (Lib.encodeRune (k : Int))
        rw [← encs_snoc, ← hst] at hap
        simp only [tx] at hap
        rw [hap] at ha
        clear hap hL1 hL2 hl1
        generalize encs (xs.take j) = L at *
        go_wp2_with (first
          | (go_at_call 11; with_reducible refine (cI _).mono ?_; rintro e1 w1 ⟨rfl, rfl⟩)
          | (go_at_call 13; with_reducible refine (cE _).mono ?_; rintro e2 w2 ⟨rfl, b2⟩))
        go_roundw
        case rel => exact ⟨j + 1, by omega, by go_num, by rw [hst], by rw [hst]; intro y hy; rcases List.mem_append.1 hy with q | q; exact hall y q; rw [List.mem_singleton.1 q]; exact hB, Below.then hb b2⟩
        case measure => simp [intOf]; omega
    · obtain rfl : j = n := by omega
      have hn0 : ¬ (j : Int) < (j : Int) := by omega
      have e : xs.take j = xs := List.take_of_length_le (by rw [hN.out]; exact Nat.le_refl _)
      rw [e] at hall ⊢
      have hv : ∀ c ∈ xs.map Int.toNat, c < 55296 ∨ (57343 < c ∧ c ≤ 1114111) := by
        intro c hc
        obtain ⟨y, hy, rfl⟩ := List.mem_map.1 hc
        exact chZ_nat (hall y hy)
      have hl1 := encs_len xs
      rw [hN.out] at hl1
      have hz1 : (tx (encs xs)).size ≤ 2000 := by rw [tx_size]; omega
      have c1 := quoteQ (tx (encs xs)) (by omega)
      have hq6 : (quoteS (tx (encs xs))).length ≤ 2 + 6 * (tx (encs xs)).size := by
        have : ∀ (f i : Nat) (s : ByteArray), i ≤ s.size → (quoGo 34 s f i).length ≤ 6 * (s.size - i) := by
          intro f
          induction f with
          | zero => intro i s _; exact Nat.zero_le _
          | succ f ih =>
            intro i s hi
            rw [quoGo]
            by_cases hi2 : i < s.size
            · rw [if_pos hi2, List.length_append]
              obtain ⟨d0, d1, -, -⟩ := dec_pos s i hi2
              have := ih (i + (Utf8.decode s i).2) s d1
              have := (chW_len 34 (Utf8.decode s i).1).2
              omega
            · rw [if_neg hi2]; exact Nat.zero_le _
        have := this (tx (encs xs)).size 0 (tx (encs xs)) (Nat.zero_le _)
        unfold quoteS
        simp only [List.length_append, List.length_cons, List.length_nil]
        omega
      have hlist : (tx (quoteS (tx (encs xs))) ++ t).data.toList = quoteS (tx (encs xs)) ++ t.data.toList := by
        rw [ByteArray.data_append, Array.toList_append]
      have hback := quote_back (xs.map Int.toNat) hv (tx (encs xs)) (tx (quoteS (tx (encs xs))) ++ t) t.data.toList (tx_list _) hlist
      have hT : (tx (quoteS (tx (encs xs)))).size = (quoteS (tx (encs xs))).length := tx_size _
      have c2 := unquoteQ (tx (quoteS (tx (encs xs))) ++ t) (by rw [ByteArray.size_append, hT]; omega)
      rw [hback, tx_list] at c2
      simp only [Rd.val] at c2
      rw [← hT] at c2
      have ha := fun w => run_string_add_sum (P := Try.prog) w (tx (quoteS (tx (encs xs)))) t (by rw [hT]; omega)
      clear hback hlist hq6 hz1 hl1 hv hall h e hT
      generalize encs xs = L at *
      simp only [tx] at *
      generalize (⟨L.toArray⟩ : ByteArray) = LT at *
      generalize (⟨(quoteS LT).toArray⟩ : ByteArray) = T at *
      go_wp2_with (first
        | (go_at_call 7; with_reducible refine (c1 _).mono ?_; rintro e1 w1 ⟨rfl, b1⟩)
        | (go_at_call 14; with_reducible refine (c2 _).mono ?_; rintro e2 w2 ⟨rfl, b2⟩)
        | (go_at_call 6; with_reducible refine (livesL _).mono ?_; rintro e3 w3 ⟨rfl, b3⟩))
      go_ret
      exact ⟨rfl, Below.then (Below.then (Below.then hb b1) b2) b3⟩
end Go.Proofs.Ytmnomkcgkjccgaa.Lit
