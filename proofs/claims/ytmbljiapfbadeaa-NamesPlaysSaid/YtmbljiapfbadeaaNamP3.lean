/-
  Layer 11: the program's Define.
-/
import Derived.Test.YtmbljiapfbadeaaNamP2
namespace Go.Proofs.Ytmbljiapfbadeaa.Nam
open Go.RowKit Go.Maps
set_option linter.unusedVariables false

theorem datTo_tidy (ds : List Def) : ∀ n, Tidy (datTo ds n)
  | 0 => tidy_empty
  | n + 1 => (datTo_tidy ds n).put (kl_key _) _
theorem datTo_size (ds : List Def) (hu : Uniq ds) : ∀ n, n ≤ ds.length → size (datTo ds n) = n
  | 0, _ => rfl
  | n + 1, h => by
    rw [datTo, getD_lt (by omega)]
    have h1 : has (datTo ds n) (kl ds[n].1) = false := by
      cases e : has (datTo ds n) (kl ds[n].1) with
      | false => rfl
      | true =>
        obtain ⟨i, hi, h2, h3⟩ := (datTo_has ds _ n (by omega)).1 e
        have := hu i n hi (by omega) h3
        omega
    rw [size_put (datTo_tidy ds n), h1, datTo_size ds hu n (by omega)]
    simp
theorem dat_size (ds : List Def) (hu : Uniq ds) : size (dat ds) = ds.length := datTo_size ds hu _ (Nat.le_refl _)
theorem errD_class {ds : List Def} {s : ByteArray} {c : Int} (h : decide (1 ≤ c ∧ c ≤ 4) = false) : errD ds s c = 1 := by
  rw [errD, if_pos (by simpa using h)]
theorem errD_name {ds : List Def} {s : ByteArray} {c : Int} (h : decide (1 ≤ c ∧ c ≤ 4) = true) (h1 : okName s = false) : errD ds s c = 9 := by
  rw [errD, if_neg (by simpa using h), if_pos h1]
theorem errD_dup {ds : List Def} {s : ByteArray} {c : Int} (h : decide (1 ≤ c ∧ c ≤ 4) = true) (h1 : okName s = true) (h2 : (pos ds s).isSome = true) : errD ds s c = 10 := by
  rw [errD, if_neg (by simpa using h), if_neg (by rw [h1]; decide), if_pos h2]
theorem errD_ok {ds : List Def} {s : ByteArray} {c : Int} (h : decide (1 ≤ c ∧ c ≤ 4) = true) (h1 : okName s = true) (h2 : (pos ds s).isSome = false) : errD ds s c = 0 := by
  rw [errD, if_neg (by simpa using h), if_neg (by rw [h1]; decide), if_neg (by rw [h2]; decide)]
theorem addD_bad {ds : List Def} {s : ByteArray} {c : Int} (h : errD ds s c ≠ 0) : addD ds s c = ds := by rw [addD, if_neg h]
theorem addD_ok {ds : List Def} {s : ByteArray} {c : Int} (h : errD ds s c = 0) : addD ds s c = ds ++ [(s, c)] := by rw [addD, if_pos h]
theorem map_nil (m : Nat) (w : World) : (binOp BinOp.eql 44 (.map (some m)) (.map none)).run Try.prog w = .ok (.bool false) w := by kernel_rfl
set_option maxRecDepth 100000 in
set_option maxHeartbeats 4000000 in
theorem define0 (w : World) (b m : Nat) (out : Option Nat) (d : Nat) (ds ds' : List Def) (h : PSc w b m out d ds) (s : ByteArray) (hs : s.size ≤ maxLen) (c r : Int) (hr : errD ds s c = r) (hd : addD ds s c = ds') (hl : ds.length ≤ 1000) :
    Calls Try.prog 11 #[.pointer (some ⟨b, 0, none⟩), .string s, .int .i64 c] w fun e w' => e = .returned (.int .i64 r) ∧ PSc w' b m out d ds' ∧ But m w w' := by
  have hs' : s.size ≤ 9223372036854775807 := hs
  cases hc : decide (1 ≤ c ∧ c ≤ 4) with
  | false =>
    have e := errD_class (ds := ds) (s := s) hc
    obtain rfl : r = 1 := hr.symm.trans e
    obtain rfl : ds = ds' := (addD_bad (by rw [e]; decide)).symm.trans hd
    clear hr hd e
    go_enter Try.func11, Try.ntmps11
    go_wp2_with (go_at_call 20; (with_reducible refine (class0 _ _ _ hc).mono ?_); rintro e1 w1 ⟨rfl, b1⟩)
    go_ret
    exact ⟨rfl, h.below b1, But.of b1⟩
  | true =>
    cases hn : okName s with
    | false =>
      have e := errD_name (ds := ds) hc hn
      obtain rfl : r = 9 := hr.symm.trans e
      obtain rfl : ds = ds' := (addD_bad (by rw [e]; decide)).symm.trans hd
      clear hr hd e
      go_enter Try.func11, Try.ntmps11
      go_wp2_with (first | (go_at_call 20; (with_reducible refine (class0 _ _ _ hc).mono ?_); rintro e1 w1 ⟨rfl, b1⟩) | (go_at_call 21; (with_reducible refine (name0 _ _ hs' _ hn).mono ?_); rintro e1 w2 ⟨rfl, b2⟩))
      go_ret
      exact ⟨rfl, (h.below b1).below b2, But.of (Below.then b1 b2)⟩
    | true =>
      cases hp : (pos ds s).isSome with
      | true =>
        have e := errD_dup (ds := ds) hc hn hp
        obtain rfl : r = 10 := hr.symm.trans e
        obtain rfl : ds = ds' := (addD_bad (by rw [e]; decide)).symm.trans hd
        clear hr hd e
        have hmn := map_nil m
        go_enter Try.func11, Try.ntmps11
        go_wp2_with (first | (go_at_call 20; (with_reducible refine (class0 _ _ _ hc).mono ?_); rintro e1 w1 ⟨rfl, b1⟩) | (go_at_call 21; (with_reducible refine (name0 _ _ hs' _ hn).mono ?_); rintro e1 w2 ⟨rfl, b2⟩) | (go_at_call 22; go_loud ((with_reducible refine (contains0 _ b m out d ds ((h.below b1).below b2) s hs _ hp).mono ?_); rintro e1 w3 ⟨rfl, b3⟩)))
        go_ret
        exact ⟨rfl, ((h.below b1).below b2).below b3, But.of (Below.then (Below.then b1 b2) b3)⟩
      | false =>
        have e := errD_ok (ds := ds) hc hn hp
        obtain rfl : r = 0 := hr.symm.trans e
        obtain rfl : ds' = ds ++ [(s, c)] := hd.symm.trans (addD_ok e)
        clear hr hd e
        have hmn := map_nil m
        go_enter Try.func11, Try.ntmps11
        go_wp2_with (first | (go_at_call 20; (with_reducible refine (class0 _ _ _ hc).mono ?_); rintro e1 w1 ⟨rfl, b1⟩) | (go_at_call 21; (with_reducible refine (name0 _ _ hs' _ hn).mono ?_); rintro e1 w2 ⟨rfl, b2⟩) | (go_at_call 22; go_loud ((with_reducible refine (contains0 _ b m out d ds ((h.below b1).below b2) s hs _ hp).mono ?_); rintro e1 w3 ⟨rfl, b3⟩; have h3 := ((h.below b1).below b2).below b3; have c2 := h3.cells.2.2.1)))
        have h4 := h3.drew
        have hln := h4.map.len Try.underlying44 3
        rw [dat_size ds h.uniq] at hln
        obtain ⟨w4, hrun, o4, g4⟩ := h4.map.update (val := .agg #[.int .i64 c, .int .i64 (ds.length : Int)]) keyLaw Try.underlying44 (by unfold maxLen; omega) (key_kl hs) (defR_mk c _)
        have f4 : But m w3 w4 := But.trans (But.of ((Below.refl _ _).drew)) (But.grown g4)
        have n4 : PSc w4 b m out d (ds ++ [(s, c)]) := ⟨((But.grown g4).block b h4.lt h4.ne).trans h4.blk, by rw [List.length_append, List.length_singleton, dat_app]; exact o4, uniq_app h.uniq c (by cases e : pos ds s with | none => rfl | some j => rw [e] at hp; cases hp)⟩
        go_region
        go_wp2
        go_ret
        exact ⟨rfl, n4, But.trans (But.of (Below.then (Below.then b1 b2) b3)) f4⟩
theorem defineP (w : World) (b m : Nat) (out : Option Nat) (d : Nat) (ds : List Def) (h : PSc w b m out d ds) (s : ByteArray) (hs : s.size ≤ maxLen) (c : Int) (hl : ds.length ≤ 1000) :
    Calls Try.prog 11 #[.pointer (some ⟨b, 0, none⟩), .string s, .int .i64 c] w fun e w' => e = .returned (.int .i64 (errD ds s c)) ∧ PSc w' b m out d (addD ds s c) ∧ But m w w' :=
  define0 w b m out d ds _ h s hs c _ rfl rfl hl
set_option maxRecDepth 100000 in
set_option maxHeartbeats 2000000 in
theorem defineN (w : World) (s : ByteArray) (c : Int) : Calls Try.prog 11 #[.pointer none, .string s, .int .i64 c] w fun e w' => e = .returned (.int .i64 1) ∧ Below w.heap.size w w' := by
  go_enter Try.func11, Try.ntmps11
  go_wp2
  go_ret
  exact ⟨rfl, Below.refl _ _⟩
end Go.Proofs.Ytmbljiapfbadeaa.Nam
