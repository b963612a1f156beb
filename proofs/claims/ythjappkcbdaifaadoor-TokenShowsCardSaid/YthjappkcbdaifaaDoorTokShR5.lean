/-
  Layer 8: the reference's text of a token. (Written by wip/gen/token-shr5.py.)
-/
import Derived.Test.YthjappkcbdaifaaDoorTokShR4
namespace Go.Proofs.YthjappkcbdaifaaDoor.Tok
open Go.RowKit
set_option linter.unusedVariables false
set_option linter.unusedSimpArgs false

theorem blk5 (w : World) (c0 c1 c2 c3 c4 : Value) (T : TypeId) : (w.alloc (.cells #[c0, c1, c2, c3, c4] T)).cell? ⟨w.heap.size, 0, none⟩ = some c0 ∧ (w.alloc (.cells #[c0, c1, c2, c3, c4] T)).cell? ⟨w.heap.size, 1, none⟩ = some c1 ∧ (w.alloc (.cells #[c0, c1, c2, c3, c4] T)).cell? ⟨w.heap.size, 2, none⟩ = some c2 ∧ (w.alloc (.cells #[c0, c1, c2, c3, c4] T)).cell? ⟨w.heap.size, 3, none⟩ = some c3 ∧ (w.alloc (.cells #[c0, c1, c2, c3, c4] T)).cell? ⟨w.heap.size, 4, none⟩ = some c4 := by
  refine ⟨?_, ?_, ?_, ?_, ?_⟩ <;> (rw [World.cell?_alloc_new]; rfl)
theorem cell1 (w : World) (o : Obj) (v : Value) (T : TypeId) : ((w.alloc o).alloc (.cells #[v] T)).cell? ⟨w.heap.size + 1, 0, none⟩ = some v := by
  rw [World.cell?_alloc_at _ _ _ _ (by simp)]
  rfl
theorem dg_len20 (m : Nat) (h : m ≤ 4611686018427387903) : (Num.dg m).length ≤ 19 := Num.dg_len 18 m (by omega)

set_option maxRecDepth 100000 in
set_option maxHeartbeats 4000000 in
theorem runeR (n : Int) (w : World) : Calls Tryd.prog 39 #[.int .i64 n] w fun e w' => e = .returned (.bool (isChar n)) ∧ w = w' := by
  by_cases h0 : 0 ≤ n
  · have h0' : ¬ n < 0 := by omega
    by_cases h1 : n ≤ 1114111
    · by_cases h2 : n < 55296
      · have e : isChar n = true := by simp [isChar, Lib.validRune, h0, h1, h2]
        rw [e]
        go_enter Tryd.func39, Tryd.ntmps39
        go_wp2
        go_ret
        exact ⟨rfl, rfl⟩
      · by_cases h3 : 57343 < n
        · have e : isChar n = true := by simp [isChar, Lib.validRune, h0, h1, h3]
          have e2 : decide (57343 < n) = true := decide_eq_true h3
          rw [e]
          go_enter Tryd.func39, Tryd.ntmps39
          go_wp2
          go_ret
          exact ⟨rfl, rfl⟩
        · have e : isChar n = false := by simp [isChar, Lib.validRune, h0, h1, h2, h3]
          have e2 : decide (57343 < n) = false := decide_eq_false h3
          rw [e]
          go_enter Tryd.func39, Tryd.ntmps39
          go_wp2
          go_ret
          exact ⟨rfl, rfl⟩
    · have e : isChar n = false := by simp [isChar, h1]
      rw [e]
      go_enter Tryd.func39, Tryd.ntmps39
      go_wp2
      go_ret
      exact ⟨rfl, rfl⟩
  · have e : isChar n = false := by simp [isChar, h0]
    rw [e]
    go_enter Tryd.func39, Tryd.ntmps39
    go_wp2
    go_ret
    exact ⟨rfl, rfl⟩
set_option maxRecDepth 100000 in
set_option maxHeartbeats 4000000 in
theorem one1n (p z n : Int) (t : ByteArray) (h : Num.fitsB n = true) (hn : n < 0) (w : World) :
    Calls Tryd.prog 22 #[.agg #[.int .i64 1, .int .i64 p, .int .i64 z, .int .i64 n, .string t]] w fun e w' => e = .returned (.string ⟨(95 :: Num.dg n.natAbs).toArray⟩) ∧ Below w.heap.size w w' := by
  obtain ⟨d0, d1, d2, d3, d4⟩ := blk5 w (.int .i64 1) (.int .i64 p) (.int .i64 z) (.int .i64 n) (.string t) 36
  have B0 := below_new w (.cells #[.int .i64 1, .int .i64 p, .int .i64 z, .int .i64 n, .string t] 36)
  obtain ⟨h1, h2⟩ := Num.fits_def.1 h
  have cN := fun w => numberT n h w
  have cD := fun w => digits10 n.natAbs (by omega) w
  have hm : ((n.natAbs : Nat) : Int) = -n := by omega
  rw [hm] at cD
  have hl := dg_len20 n.natAbs (by omega)
  generalize Num.dg n.natAbs = X at *
  have hz := size_list X
  have ha := fun w => run_string_add_sum (P := Tryd.prog) w ⟨#[95]⟩ ⟨X.toArray⟩ (by rw [fb1, hz]; omega)
  have hE : (⟨#[95]⟩ : ByteArray) ++ ⟨X.toArray⟩ = ⟨(95 :: X).toArray⟩ := add_list [95] X
  go_enter Tryd.func22, Tryd.ntmps22
  go_wp2_with (first
    | (go_at_call 37; with_reducible refine (cN _).mono ?_; rintro e1 w1 ⟨rfl, rfl⟩)
    | (go_at_call 38; with_reducible refine (cD _).mono ?_; rintro e2 w2 ⟨rfl, b2⟩))
  go_ret
  exact ⟨by first | rfl | exact congrArg (fun x => Ending.returned (Value.string x)) hE, Below.then B0 b2⟩
set_option maxRecDepth 100000 in
set_option maxHeartbeats 4000000 in
theorem one1p (p z n : Int) (t : ByteArray) (h : Num.fitsB n = true) (hn : ¬ n < 0) (w : World) :
    Calls Tryd.prog 22 #[.agg #[.int .i64 1, .int .i64 p, .int .i64 z, .int .i64 n, .string t]] w fun e w' => e = .returned (.string ⟨(Num.dg n.natAbs).toArray⟩) ∧ Below w.heap.size w w' := by
  obtain ⟨d0, d1, d2, d3, d4⟩ := blk5 w (.int .i64 1) (.int .i64 p) (.int .i64 z) (.int .i64 n) (.string t) 36
  have B0 := below_new w (.cells #[.int .i64 1, .int .i64 p, .int .i64 z, .int .i64 n, .string t] 36)
  obtain ⟨h1, h2⟩ := Num.fits_def.1 h
  have cN := fun w => numberT n h w
  have cD := fun w => digits10 n.natAbs (by omega) w
  have hm : ((n.natAbs : Nat) : Int) = n := by omega
  rw [hm] at cD
  go_enter Tryd.func22, Tryd.ntmps22
  go_wp2_with (first
    | (go_at_call 37; with_reducible refine (cN _).mono ?_; rintro e1 w1 ⟨rfl, rfl⟩)
    | (go_at_call 38; with_reducible refine (cD _).mono ?_; rintro e2 w2 ⟨rfl, b2⟩))
  go_ret
  exact ⟨rfl, Below.then B0 b2⟩
set_option maxRecDepth 100000 in
set_option maxHeartbeats 4000000 in
theorem one1f (p z n : Int) (t : ByteArray) (h : ¬ Num.fitsB n = true) (w : World) :
    Calls Tryd.prog 22 #[.agg #[.int .i64 1, .int .i64 p, .int .i64 z, .int .i64 n, .string t]] w fun e w' => e = .returned (.string ⟨#[]⟩) ∧ Below w.heap.size w w' := by
  obtain ⟨d0, d1, d2, d3, d4⟩ := blk5 w (.int .i64 1) (.int .i64 p) (.int .i64 z) (.int .i64 n) (.string t) 36
  have B0 := below_new w (.cells #[.int .i64 1, .int .i64 p, .int .i64 z, .int .i64 n, .string t] 36)
  have cN := fun w => numberF n h w
  go_enter Tryd.func22, Tryd.ntmps22
  go_wp2_with (go_at_call 37; with_reducible refine (cN _).mono ?_; rintro e1 w1 ⟨rfl, rfl⟩)
  go_ret
  exact ⟨rfl, B0⟩
set_option maxRecDepth 100000 in
set_option maxHeartbeats 4000000 in
theorem one2f (p z n : Int) (t : ByteArray) (h : isChar n = false) (w : World) :
    Calls Tryd.prog 22 #[.agg #[.int .i64 2, .int .i64 p, .int .i64 z, .int .i64 n, .string t]] w fun e w' => e = .returned (.string ⟨#[]⟩) ∧ Below w.heap.size w w' := by
  obtain ⟨d0, d1, d2, d3, d4⟩ := blk5 w (.int .i64 2) (.int .i64 p) (.int .i64 z) (.int .i64 n) (.string t) 36
  have B0 := below_new w (.cells #[.int .i64 2, .int .i64 p, .int .i64 z, .int .i64 n, .string t] 36)
  have cN := fun w => runeR n w
  rw [h] at cN
  go_enter Tryd.func22, Tryd.ntmps22
  go_wp2_with (go_at_call 39; with_reducible refine (cN _).mono ?_; rintro e1 w1 ⟨rfl, rfl⟩)
  go_ret
  exact ⟨rfl, B0⟩
set_option maxRecDepth 100000 in
set_option maxHeartbeats 4000000 in
theorem one2t (p z n : Int) (t : ByteArray) (h : isChar n = true) (w : World) :
    Calls Tryd.prog 22 #[.agg #[.int .i64 2, .int .i64 p, .int .i64 z, .int .i64 n, .string t]] w fun e w' => e = .returned (.string ⟨(39 :: quoW 39 [n.toNat] ++ [39]).toArray⟩) ∧ Below w.heap.size w w' := by
  obtain ⟨d0, d1, d2, d3, d4⟩ := blk5 w (.int .i64 2) (.int .i64 p) (.int .i64 z) (.int .i64 n) (.string t) 36
  have B0 := below_new w (.cells #[.int .i64 2, .int .i64 p, .int .i64 z, .int .i64 n, .string t] 36)
  have cN := fun w => runeR n w
  rw [h] at cN
  have hb : 0 ≤ n ∧ n ≤ 1114111 := by
    simp only [isChar, Bool.and_eq_true, decide_eq_true_eq] at h
    exact h.1
  obtain ⟨c, rfl⟩ : ∃ c : Nat, n = (c : Int) := ⟨n.toNat, by omega⟩
  rw [Int.toNat_natCast]
  have hw : IntKind.i32.wrap (c : Int) = c := by unfold IntKind.wrap; simp [IntKind.bits, IntKind.signed]; omega
  have hci : (c : Int) ≤ 1114111 := hb.2
  have cQ : ∀ (w : World) (m cap : Nat), w.cell? ⟨m, 0, none⟩ = some (.int .i32 (c : Int)) → Calls Tryd.prog 40 #[.slice (some ⟨m, 0, none⟩) 1 cap, .string ⟨#[39]⟩] w fun e w' => e = .returned (.string ⟨(39 :: quoW 39 [c] ++ [39]).toArray⟩) ∧ Below w.heap.size w w' := fun w m cap hc =>
    quotedR39 [c] (fun x hx => by rw [List.mem_singleton.1 hx]; omega) (by simp) m cap w (fun j hj => by
      obtain rfl : j = 0 := by simp only [List.length_cons, List.length_nil] at hj; omega
      exact hc)
  clear h
  go_enter Tryd.func22, Tryd.ntmps22
  go_wp2_with (first
    | (go_at_call 39; with_reducible refine (cN _).mono ?_; rintro e1 w1 ⟨rfl, rfl⟩)
    | (go_at_call 40; with_reducible refine (cQ _ _ _ (cell1 _ _ _ _)).mono ?_; rintro e2 w2 ⟨rfl, b2⟩))
  go_ret
  exact ⟨rfl, Below.then (Below.then B0 (below_new _ _)) b2⟩
set_option maxRecDepth 100000 in
set_option maxHeartbeats 4000000 in
theorem one3 (p z n : Int) (t : ByteArray) (hs : t.size ≤ 100000) (w : World) :
    Calls Tryd.prog 22 #[.agg #[.int .i64 3, .int .i64 p, .int .i64 z, .int .i64 n, .string t]] w fun e w' => e = .returned (.string ⟨(if Lib.validD t.data.toList = true then 34 :: quoW 34 (cps t) ++ [34] else []).toArray⟩) ∧ Below w.heap.size w w' := by
  obtain ⟨d0, d1, d2, d3, d4⟩ := blk5 w (.int .i64 3) (.int .i64 p) (.int .i64 z) (.int .i64 n) (.string t) 36
  have B0 := below_new w (.cells #[.int .i64 3, .int .i64 p, .int .i64 z, .int .i64 n, .string t] 36)
  obtain ⟨cap, W2, hcv, hb2, hsz, hrc⟩ := to_runes t (by omega) (w.alloc (.cells #[.int .i64 3, .int .i64 p, .int .i64 z, .int .i64 n, .string t] 36))
  have hB : (w.alloc (.cells #[.int .i64 3, .int .i64 p, .int .i64 z, .int .i64 n, .string t] 36)).heap.size = w.heap.size + 1 := by simp
  have g4 := cell_below d4 hb2
  rw [hB] at hcv hsz hrc
  have hback := of_runes (cap := cap) hrc
  have HB : Below w.heap.size w W2 := Below.then B0 hb2
  have hv := valid_rn t
  cases hV : Lib.validD t.data.toList
  · rw [hV] at hv
    generalize runesBytes (rn t) = X at hback hv
    go_enter Tryd.func22, Tryd.ntmps22
    go_wp2
    go_ret
    exact ⟨rfl, HB⟩
  · rw [hV] at hv
    obtain ⟨cap3, W3, hcv3, hb3, hsz3, hrc3⟩ := to_runes t (by omega) W2
    have cQ := quotedR34 (cps t) (cps_le t) (by rw [cps_len]; exact Nat.le_trans (rn_len t) hs) W2.heap.size cap3 W3 (cps_at hrc3)
    rw [cps_len] at cQ
    generalize runesBytes (rn t) = X at hback hv
    have HB3 : Below w.heap.size w W3 := Below.then HB hb3
    clear hrc hrc3 hb3
    rw [if_pos rfl]
    generalize W2.heap.size = M at *
    clear hsz
    generalize (rn t).length = N at *
    go_enter Tryd.func22, Tryd.ntmps22
    go_wp2_with (go_at_call 40; with_reducible refine cQ.mono ?_; rintro e2 w2 ⟨rfl, b2⟩)
    go_ret
    exact ⟨rfl, Below.then HB3 b2⟩
set_option maxRecDepth 100000 in
set_option maxHeartbeats 4000000 in
theorem one4 (p z n : Int) (t : ByteArray) (w : World) :
    Calls Tryd.prog 22 #[.agg #[.int .i64 4, .int .i64 p, .int .i64 z, .int .i64 n, .string t]] w fun e w' => e = .returned (.string t) ∧ Below w.heap.size w w' := by
  obtain ⟨d0, d1, d2, d3, d4⟩ := blk5 w (.int .i64 4) (.int .i64 p) (.int .i64 z) (.int .i64 n) (.string t) 36
  have B0 := below_new w (.cells #[.int .i64 4, .int .i64 p, .int .i64 z, .int .i64 n, .string t] 36)
  go_enter Tryd.func22, Tryd.ntmps22
  go_wp2
  go_ret
  exact ⟨rfl, B0⟩
set_option maxRecDepth 100000 in
set_option maxHeartbeats 4000000 in
theorem one5 (p z n : Int) (t : ByteArray) (w : World) :
    Calls Tryd.prog 22 #[.agg #[.int .i64 5, .int .i64 p, .int .i64 z, .int .i64 n, .string t]] w fun e w' => e = .returned (.string t) ∧ Below w.heap.size w w' := by
  obtain ⟨d0, d1, d2, d3, d4⟩ := blk5 w (.int .i64 5) (.int .i64 p) (.int .i64 z) (.int .i64 n) (.string t) 36
  have B0 := below_new w (.cells #[.int .i64 5, .int .i64 p, .int .i64 z, .int .i64 n, .string t] 36)
  go_enter Tryd.func22, Tryd.ntmps22
  go_wp2
  go_ret
  exact ⟨rfl, B0⟩
set_option maxRecDepth 100000 in
set_option maxHeartbeats 4000000 in
theorem one6 (p z n : Int) (t : ByteArray) (w : World) :
    Calls Tryd.prog 22 #[.agg #[.int .i64 6, .int .i64 p, .int .i64 z, .int .i64 n, .string t]] w fun e w' => e = .returned (.string ⟨#[59]⟩) ∧ Below w.heap.size w w' := by
  obtain ⟨d0, d1, d2, d3, d4⟩ := blk5 w (.int .i64 6) (.int .i64 p) (.int .i64 z) (.int .i64 n) (.string t) 36
  have B0 := below_new w (.cells #[.int .i64 6, .int .i64 p, .int .i64 z, .int .i64 n, .string t] 36)
  go_enter Tryd.func22, Tryd.ntmps22
  go_wp2
  go_ret
  exact ⟨rfl, B0⟩
set_option maxRecDepth 100000 in
set_option maxHeartbeats 4000000 in
theorem oneX (p z n : Int) (t : ByteArray) (k : Int) (k1 : k ≠ 1) (k2 : k ≠ 2) (k3 : k ≠ 3) (k4 : k ≠ 4) (k5 : k ≠ 5) (k6 : k ≠ 6) (w : World) :
    Calls Tryd.prog 22 #[.agg #[.int .i64 k, .int .i64 p, .int .i64 z, .int .i64 n, .string t]] w fun e w' => e = .returned (.string ⟨#[]⟩) ∧ Below w.heap.size w w' := by
  obtain ⟨d0, d1, d2, d3, d4⟩ := blk5 w (.int .i64 k) (.int .i64 p) (.int .i64 z) (.int .i64 n) (.string t) 36
  have B0 := below_new w (.cells #[.int .i64 k, .int .i64 p, .int .i64 z, .int .i64 n, .string t] 36)
  have f1 : (k == 1) = false := by simpa using k1
  have f2 : (k == 2) = false := by simpa using k2
  have f3 : (k == 3) = false := by simpa using k3
  have f4 : (k == 4) = false := by simpa using k4
  have f5 : (k == 5) = false := by simpa using k5
  have f6 : (k == 6) = false := by simpa using k6
  go_enter Tryd.func22, Tryd.ntmps22
  go_wp2
  go_ret
  exact ⟨rfl, B0⟩
theorem oneR (k p z n : Int) (t : ByteArray) (hs : t.size ≤ 100000) (w : World) :
    Calls Tryd.prog 22 #[.agg #[.int .i64 k, .int .i64 p, .int .i64 z, .int .i64 n, .string t]] w fun e w' => e = .returned (.string ⟨(oneW k n t).toArray⟩) ∧ Below w.heap.size w w' := by
  by_cases k1 : k = 1
  · subst k1
    by_cases h : Num.fitsB n = true
    · have e0 : oneW 1 n t = Num.shL n := by simp [oneW, h, Num.shS]
      by_cases hn : n < 0
      · rw [e0, Num.shL_neg hn]; exact one1n p z n t h hn w
      · rw [e0, Num.shL_pos hn]; exact one1p p z n t h hn w
    · have e0 : oneW 1 n t = [] := by simp [oneW, h]
      rw [e0]; exact one1f p z n t h w
  by_cases k2 : k = 2
  · subst k2
    cases h : isChar n
    · have e0 : oneW 2 n t = [] := by simp [oneW, h]
      rw [e0]; exact one2f p z n t h w
    · have hb := h
      simp only [isChar, Lib.validRune, Bool.and_eq_true, decide_eq_true_eq] at hb
      have e1 := char_lit 39 (by decide) n.toNat (by omega)
      rw [show ((n.toNat : Nat) : Int) = n by omega] at e1
      have e0 : oneW 2 n t = 39 :: quoW 39 [n.toNat] ++ [39] := by
        simp only [oneW, h]
        simpa using e1
      rw [e0]; exact one2t p z n t h w
  by_cases k3 : k = 3
  · subst k3
    have e0 : oneW 3 n t = if Lib.validD t.data.toList = true then 34 :: quoW 34 (cps t) ++ [34] else [] := by
      have e1 := lit_quo 34 (by decide) t
      simp only [oneW]
      rw [e1]
      simp
    rw [e0]; exact one3 p z n t hs w
  by_cases k4 : k = 4
  · subst k4
    have e0 : (⟨(oneW 4 n t).toArray⟩ : ByteArray) = t := by simp [oneW, arr_list]
    rw [e0]; exact one4 p z n t w
  by_cases k5 : k = 5
  · subst k5
    have e0 : (⟨(oneW 5 n t).toArray⟩ : ByteArray) = t := by simp [oneW, arr_list]
    rw [e0]; exact one5 p z n t w
  by_cases k6 : k = 6
  · subst k6
    have e0 : oneW 6 n t = [59] := by simp [oneW]
    rw [e0]; exact one6 p z n t w
  · have e0 : oneW k n t = [] := by simp [oneW, k1, k2, k3, k4, k5, k6]
    rw [e0]; exact oneX p z n t k k1 k2 k3 k4 k5 k6 w
end Go.Proofs.YthjappkcbdaifaaDoor.Tok
