/-
  Layer 8: the reference's Show, and which lists the law takes.
-/
import Derived.Test.YthjappkcbdaifaaDoorTokShR5
namespace Go.Proofs.YthjappkcbdaifaaDoor.Tok
open Go.RowKit
set_option linter.unusedVariables false
set_option linter.unusedSimpArgs false

theorem join_snoc (sep x a : List UInt8) (r : List (List UInt8)) : Lib.join (a :: r ++ [x]) sep = Lib.join (a :: r) sep ++ (sep ++ x) := by
  rw [List.cons_append, Lib.join_cons, Lib.join_cons]
  simp [Lib.joinTail, List.append_assoc]
theorem txt_list (x : T5) : (txt x).data.toList = oneW x.k x.n x.t := by simp [txt]
theorem show_zero (l : List T5) : showS (l.take 0) = [] := by rw [List.take_zero]; rfl
theorem show_one {l : List T5} (h : 0 < l.length) : showS (l.take (0 + 1)) = oneW l[0].k l[0].n l[0].t := by
  rw [List.take_succ_eq_append_getElem h, List.take_zero, List.nil_append, showS]
  simp only [List.map_cons, List.map_nil]
  rw [Lib.join_one, txt_list]
theorem show_step {l : List T5} {j : Nat} (h : j < l.length) (h0 : 0 < j) : showS (l.take (j + 1)) = showS (l.take j) ++ [32] ++ oneW l[j].k l[j].n l[j].t := by
  rw [List.take_succ_eq_append_getElem h, showS, showS, List.map_append, List.map_append]
  obtain ⟨a, r, e⟩ : ∃ a r, l.take j = a :: r := by
    cases hl : l.take j with
    | nil =>
      have := congrArg List.length hl
      rw [List.length_take] at this
      simp only [List.length_nil] at this
      omega
    | cons a r => exact ⟨a, r, rfl⟩
  rw [e]
  simp only [List.map_cons, List.map_nil]
  rw [join_snoc, txt_list l[j], List.append_assoc]
theorem oneW_len (k n : Int) (t : ByteArray) : (oneW k n t).length ≤ 6 * t.size + 30 := by
  unfold oneW
  split
  · split
    · rename_i h
      obtain ⟨h1, h2⟩ := Num.fits_def.1 h
      have := dg_len20 n.natAbs (by omega)
      show (Num.shL n).length ≤ _
      by_cases hn : n < 0
      · rw [Num.shL_neg hn, List.length_cons]; omega
      · rw [Num.shL_pos hn]; omega
    · simp
  split
  · split
    · rename_i h
      simp only [isChar, Lib.validRune, Bool.and_eq_true, decide_eq_true_eq] at h
      have e1 := char_lit 39 (by decide) n.toNat (by omega)
      rw [show ((n.toNat : Nat) : Int) = n by omega] at e1
      rw [e1]
      have := quoW_len 39 [n.toNat]
      simp only [List.length_cons, List.length_nil, List.length_append, List.cons_append] at this ⊢
      omega
    · simp
  split
  · split
    · rw [lit_quo 34 (by decide) t]
      have := quoW_len 34 (cps t)
      rw [cps_len] at this
      have h2 := rn_len t
      simp only [List.length_cons, List.length_nil, List.length_append, List.cons_append]
      omega
    · simp
  split
  · rw [← Lib.size_eq]; omega
  split
  · simp
  · simp

set_option maxRecDepth 100000 in
set_option maxHeartbeats 16000000 in
theorem showR (l : List T5) (a : Option Addr) (c m o : Nat) (w : World) (hl : l.length ≤ 200) (hlc : l.length ≤ c) (ha : l ≠ [] → a = some ⟨m, o, none⟩) (hc : TokCells w m o l) (hn : ∀ x ∈ l, x.t.size ≤ 4000) :
    Calls Tryd.prog 11 #[.slice a l.length c] w fun e w' => e = .returned (.string ⟨(showS l).toArray⟩) ∧ Below w.heap.size w w' := by
  obtain ⟨n, hNl⟩ : ∃ n, Hid (l.length = n) := ⟨_, rfl⟩
  rw [hNl.out]
  have hn1 : n ≤ 200 := by rw [← hNl.out]; exact hl
  have hi64 : (n : Int) ≤ 200 := by omega
  clear hl hlc
  go_enter Tryd.func11, Tryd.ntmps11
  go_wp2
  go_loopw [3, 4] (fun s i wr => ∃ (j : Nat) (L : List UInt8), j ≤ n ∧ s = .string ⟨L.toArray⟩ ∧ i = .int .i64 (j : Int) ∧ Hid (L = showS (l.take j)) ∧ L.length ≤ 25000 * j ∧ Below w.heap.size w wr) (fun _ i _ => n - (RowKit.intOf i).toNat)
  case atStart => exact ⟨0, [], Nat.zero_le _, rfl, rfl, (show_zero l).symm, Nat.le_refl _, Below.refl _ _⟩
  case round =>
    obtain ⟨j, L, hj, rfl, rfl, hL, hLl, hb⟩ := hrel
    by_cases hlt : j < n
    · have hlt' : (j : Int) < (n : Int) := by omega
      have hjl : j < l.length := by rw [hNl.out]; exact hlt
      have hane := ha (fun e => by rw [e] at hjl; exact absurd hjl (by simp))
      obtain ⟨c0, c1, c2, c3, c4⟩ := hc.below hb j hjl
      have ts := hn _ (List.getElem_mem hjl)
      have hx1 := fun w' => elem_tok w' m o n c j hlt
      subst hane
      have hX := oneW_len l[j].k l[j].n l[j].t
      by_cases h0 : j = 0
      · subst h0
        simp only [Nat.zero_mul, Nat.add_zero] at c0 c1 c2 c3 c4
        have hst : Hid (L ++ oneW l[0].k l[0].n l[0].t = showS (l.take (0 + 1))) := by rw [show_one hjl, hL.out, show_zero]; rfl
        have hz := size_list L
        generalize l[0] = x at *
        obtain ⟨k, p, z, nn, t⟩ := x
        simp only [] at c0 c1 c2 c3 c4 ts hX hst
        have cO := fun w => oneR k p z nn t (by omega) w
        generalize oneW k nn t = X at *
        have hzX := size_list X
        have hadd := add_list L X
        have hs := fun w => run_string_add_sum (P := Tryd.prog) w ⟨L.toArray⟩ ⟨X.toArray⟩ (by rw [hz, hzX]; omega)
        go_wp2_with (go_at_call 22; with_reducible refine (cO _).mono ?_; rintro e1 w1 ⟨rfl, b1⟩)
        go_roundw
        case rel => exact ⟨0 + 1, L ++ X, by omega, by first | rfl | rw [hadd], by go_num, hst, by rw [List.length_append]; omega, Below.then hb b1⟩
        case measure => simp [RowKit.intOf]; omega
      · have h0' : (0 : Int) < (j : Int) := by omega
        have hst : Hid (L ++ [32] ++ oneW l[j].k l[j].n l[j].t = showS (l.take (j + 1))) := by rw [show_step hjl (by omega), hL.out]; rfl
        have hz := size_list L
        have hz2 := size_list (L ++ [32])
        rw [List.length_append] at hz2
        simp only [List.length_cons, List.length_nil] at hz2
        generalize l[j] = x at *
        obtain ⟨k, p, z, nn, t⟩ := x
        simp only [] at c0 c1 c2 c3 c4 ts hX hst
        have cO := fun w => oneR k p z nn t (by omega) w
        generalize oneW k nn t = X at *
        have hzX := size_list X
        have hadd1 : (⟨L.toArray⟩ : ByteArray) ++ ⟨#[32]⟩ = ⟨(L ++ [32]).toArray⟩ := add_list L [32]
        have hadd2 := add_list (L ++ [32]) X
        have hs1 : ∀ w, (binOp .add 9 (.string ⟨L.toArray⟩) (.string ⟨#[32]⟩)).run Tryd.prog w = .ok (.string ⟨(L ++ [32]).toArray⟩) w := fun w => by
          rw [← hadd1]
          exact run_string_add_sum (P := Tryd.prog) w ⟨L.toArray⟩ ⟨#[32]⟩ (by rw [hz, fb1]; omega)
        have hs2 : ∀ w, (binOp .add 9 (.string ⟨(L ++ [32]).toArray⟩) (.string ⟨X.toArray⟩)).run Tryd.prog w = .ok (.string ⟨(L ++ [32] ++ X).toArray⟩) w := fun w => by
          rw [← hadd2]
          exact run_string_add_sum (P := Tryd.prog) w ⟨(L ++ [32]).toArray⟩ ⟨X.toArray⟩ (by rw [hz2, hzX]; omega)
        have hAll : (⟨L.toArray⟩ : ByteArray) ++ ⟨#[32]⟩ ++ ⟨X.toArray⟩ = ⟨(L ++ [32] ++ X).toArray⟩ := by rw [hadd1, hadd2]
        clear hadd1 hadd2
        generalize hL2 : L ++ [32] = L2 at *
        go_wp2_with (go_at_call 22; with_reducible refine (cO _).mono ?_; rintro e1 w1 ⟨rfl, b1⟩)
        go_roundw
        case rel => exact ⟨j + 1, L2 ++ X, by omega, by first | rfl | exact congrArg Value.string hAll, by go_num, hst, by rw [← hL2, List.length_append, List.length_append]; simp only [List.length_cons, List.length_nil]; omega, Below.then hb b1⟩
        case measure => simp [RowKit.intOf]; omega
    · obtain rfl : j = n := by omega
      have hn0 : ¬ (j : Int) < (j : Int) := by omega
      have e : L = showS l := by rw [hL.out, List.take_of_length_le (by rw [hNl.out]; exact Nat.le_refl _)]
      clear hL
      subst e
      go_wp2
      go_ret
      exact ⟨rfl, hb⟩
end Go.Proofs.YthjappkcbdaifaaDoor.Tok
