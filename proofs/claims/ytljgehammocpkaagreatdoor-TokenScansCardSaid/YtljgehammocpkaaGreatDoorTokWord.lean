/-
  Layer 8: the scanner's methods that read a word and a symbol. (Written by wip/gen/token-word.py.)
-/
import Derived.Test.YtljgehammocpkaaGreatDoorTokVals
import Derived.Test.YtljgehammocpkaaGreatDoorShelf
namespace Go.Proofs.YtljgehammocpkaaGreatDoor.Tok
open Go.RowKit
set_option linter.unusedVariables false
set_option linter.unusedSimpArgs false

/-! ### Letters -/
theorem lower_eq {l : List UInt8} (h : upB l = false) : Lib.toLowerA l = l := by
  induction l with
  | nil => rfl
  | cons c r ih =>
    simp only [upB, List.any_cons, Bool.or_eq_false_iff, decide_eq_false_iff_not] at h
    rw [Lib.toLowerA, List.map_cons]
    have h2 := ih (by simpa [upB] using h.2)
    rw [Lib.toLowerA] at h2
    rw [h2, Lib.lowerB, if_neg (by have := h.1; simp only [Lib.isUpperB, Bool.and_eq_true, decide_eq_true_eq]; intro q; exact this ⟨UInt8.le_iff_toNat_le.1 q.1, UInt8.le_iff_toNat_le.1 q.2⟩)]
theorem lower_ne {l : List UInt8} (h : upB l = true) : Lib.toLowerA l ≠ l := by
  induction l with
  | nil => cases h
  | cons c r ih =>
    intro e
    rw [Lib.toLowerA, List.map_cons] at e
    injection e with e1 e2
    simp only [upB, List.any_cons, Bool.or_eq_true, decide_eq_true_eq] at h
    rcases h with h | h
    · rw [Lib.lowerB, if_pos (by simp only [Lib.isUpperB, Bool.and_eq_true, decide_eq_true_eq]; exact ⟨UInt8.le_iff_toNat_le.2 h.1, UInt8.le_iff_toNat_le.2 h.2⟩)] at e1
      have := congrArg UInt8.toNat e1
      rw [UInt8.toNat_add] at this
      simp at this
      omega
    · exact ih (by simpa [upB] using h) e2
theorem inB_ascii {s : ByteArray} {i : Nat} {lo hi : Int} (h : inB s i lo hi = true) (hh : hi < 128) (hi' : i < s.size) : s[i].toNat < 128 := by
  simp only [inB, hi', dif_pos, decide_eq_true_eq] at h
  omega
theorem isLD_ascii {s : ByteArray} {i : Nat} (h : isLD s i = true) (hi' : i < s.size) : s[i].toNat < 128 := by
  simp only [isLD, isLet, isDig, Bool.or_eq_true] at h
  rcases h with (h | h) | h
  · exact inB_ascii h (by decide) hi'
  · exact inB_ascii h (by decide) hi'
  · exact inB_ascii h (by decide) hi'
theorem many_all {n : Nat} {p : Nat → Bool} : ∀ (f i k : Nat), i ≤ k → k < manyTo (one p) f i → p k = true
  | 0, i, k, h1, h2 => by rw [manyTo] at h2; omega
  | f + 1, i, k, h1, h2 => by
    rw [manyTo] at h2
    split at h2
    · rename_i ht
      have hp : p i = true := ht
      by_cases e : k = i
      · rw [e, hp]
      · refine many_all (n := n) f (i + 1) k (by omega) ?_
        have e1 : (one p i).2 = i + 1 := by simp [one, hp, adv]
        rw [e1] at h2
        exact h2
    · omega
theorem extract_ascii {s : ByteArray} {a c : Nat} (hc : c ≤ s.size) (h : ∀ k, a ≤ k → k < c → isLD s k = true) : ∀ (j : Nat) (b : UInt8), (s.extract a c).data.toList[j]? = some b → b.toNat < 128 := by
  intro j b hj
  have e : (s.extract a c).data = s.data.extract a c := ByteArray.data_extract
  rw [e, Array.toList_extract, List.extract_eq_take_drop, List.getElem?_take] at hj
  split at hj
  · rename_i hl
    rw [List.getElem?_drop] at hj
    have hk : a + j < s.size := by omega
    have h1 := isLD_ascii (h (a + j) (by omega) (by omega)) hk
    have : s.data.toList[a + j]? = some s[a + j] := by
      rw [List.getElem?_eq_getElem (by simpa using hk)]; rfl
    rw [this] at hj
    injection hj with hj
    rw [← hj]; exact h1
  · cases hj

set_option maxRecDepth 100000 in
set_option maxHeartbeats 4000000 in
theorem wordQ (s : ByteArray) (hs : s.size ≤ 65536) (w : World) (b start i : Nat) (hst : start ≤ i) (hi' : i ≤ s.size) (hL : ∀ k, start ≤ k → k < i → isLD s k = true) (h : Sc w b s i) :
    Calls Tryz.prog 66 #[.pointer (some ⟨b, 0, none⟩), .int .i64 (start : Int)] w (Toks s b w (wordS s start i)) := by
  obtain ⟨r, hr⟩ : ∃ r, Hid (wordS s start i = r) := ⟨_, rfl⟩
  rw [hr.out]
  have hlt := h.lt
  have g := manyTo_ge (goes_one (n := s.size) (p := isLD s) fun i h => isLD_lt h) (s.size - i) i hi'
  have hall := many_all (n := s.size) (p := isLD s) (s.size - i) i
  have cM := fun w (h : Sc w b s i) => many_letterOrDigit s hs _ (letterOrDigitQ s hs) (goes_one fun i h => isLD_lt h) w b i hi' h
  unfold wordS at hr
  generalize manyTo (one (isLD s)) (s.size - i) i = j at cM g hr hall
  obtain ⟨g1, g2⟩ := g
  have hsj : start ≤ j := by omega
  have hss : (s.extract start j).size ≤ 65536 := by rw [ByteArray.size_extract]; omega
  have hasc := extract_ascii (s := s) (a := start) (c := j) g2 (fun k h1 h2 => (Nat.lt_or_ge k i).elim (hL k h1) (fun h3 => hall k h3 h2))
  obtain ⟨t, ht⟩ : ∃ t, s.extract start j = t := ⟨_, rfl⟩
  rw [ht] at hr hss hasc
  unfold wordAt at hr
  obtain ⟨u, hu⟩ : ∃ u : ByteArray, Hid ((⟨(Lib.toLowerA t.data.toList).toArray⟩ : ByteArray) = u) := ⟨_, rfl⟩
  have cL := fun w => Tryz.strings_ToLower_ascii t w (by omega) hasc
  rw [hu.out] at cL
  have hul : u.toList = Lib.toLowerA t.toList := by rw [← hu.out, ByteArray.toList_eq, ByteArray.toList_eq]
  have hts : t.size ≤ 9223372036854775807 := by omega
  clear hasc hall hL
  cases hA : resB t.toList
  · cases hB : upB t.toList
    · have hc1 : (t.toList == u.toList) = true := by rw [hul, lower_eq hB]; simp
      have hc2 : (t.toList != u.toList) = false := by rw [bne, hc1]; rfl
      clear hul
      by_cases hC : 32 < t.size
      · have hr2 : r = .bad 9 start := by rw [← hr.out, if_neg (by rw [hA]; simp), if_neg (by rw [hB]; simp), if_pos hC]
        subst hr2
        have hC' : 32 < (t.size : Int) := by omega
        clear hr
        go_enter Tryz.func66, Tryz.ntmps66
        go_wp2_with (go_at_call 32; with_reducible refine (cM _ (h.start _ _)).mono ?_; rintro e w1 ⟨rfl, h1, b1⟩; have r1 := (Res.new w).but b1 hlt; have B1 := (But.start b w _ _).trans b1; have s1 := B1.size; obtain ⟨d0, d1, g0, g1⟩ := h1.cells)
        go_region
        all_goals have h2 := h1.drew
        all_goals have r2 := r1.drew
        all_goals have B2 := B1.drew
        all_goals go_wp2_with (first
          | (go_at_call 31; with_reducible refine (reservedQ t _).mono ?_; rintro e3 w3 ⟨rfl, rfl⟩)
          | (go_at_call 115; with_reducible refine (cL _).mono ?_; rintro e4 w4 ⟨rfl, b4⟩; have h4 := h2.below b4; have r4 := r2.but (But.of b4) hlt; have B4 := B2.trans (But.of b4))
          | (go_at_call 113; with_reducible refine (failedQ 9 start _).mono ?_; rintro e5 w5 ⟨rfl, b5⟩; have h5 := h4.below b5; have r5 := r4.but (But.of b5) hlt; have B5 := B4.trans (But.of b5); obtain ⟨p0, p1, p2, p3, p4, p5, p6, p7, p8, p9⟩ := r5.tok; obtain ⟨q0, q1, q2, q3, q4, q5, q6, q7, q8, q9⟩ := r5.flt))
        all_goals refine bodyPost_ret (by simp [results, Tryz.results66, go_sem, p0, p1, p2, p3, p4, q0, q1, q2, q3, q4]; try rfl) rfl ?_
        all_goals (obtain ⟨k1, k2⟩ := stored hlt h5 B5 (.int .i64 0) (.int .i64 0) (.int .i64 0) (.int .i64 0) (.string ⟨#[]⟩) (.int .i64 9) (.int .i64 (start : Int)) (.slice none 0 0) (.slice none 0 0) (.string ⟨#[]⟩); exact ⟨rfl, ⟨j, g2, k1, trivial⟩, k2⟩)

      · have hr2 : r = .tok 4 0 t j := by rw [← hr.out, if_neg (by rw [hA]; simp), if_neg (by rw [hB]; simp), if_neg hC]
        subst hr2
        have hC' : ¬ 32 < (t.size : Int) := by omega
        clear hr
        go_enter Tryz.func66, Tryz.ntmps66
        go_wp2_with (go_at_call 32; with_reducible refine (cM _ (h.start _ _)).mono ?_; rintro e w1 ⟨rfl, h1, b1⟩; have r1 := (Res.new w).but b1 hlt; have B1 := (But.start b w _ _).trans b1; have s1 := B1.size; obtain ⟨d0, d1, g0, g1⟩ := h1.cells)
        go_region
        all_goals have h2 := h1.drew
        all_goals have r2 := r1.drew
        all_goals have B2 := B1.drew
        all_goals go_wp2_with (first
          | (go_at_call 31; with_reducible refine (reservedQ t _).mono ?_; rintro e3 w3 ⟨rfl, rfl⟩)
          | (go_at_call 115; with_reducible refine (cL _).mono ?_; rintro e4 w4 ⟨rfl, b4⟩; have h4 := h2.below b4; have r4 := r2.but (But.of b4) hlt; have B4 := B2.trans (But.of b4); obtain ⟨p0, p1, p2, p3, p4, p5, p6, p7, p8, p9⟩ := r4.tok; obtain ⟨q0, q1, q2, q3, q4, q5, q6, q7, q8, q9⟩ := r4.flt))
        all_goals refine bodyPost_ret (by simp [results, Tryz.results66, go_sem, p0, p1, p2, p3, p4, q0, q1, q2, q3, q4]; try rfl) rfl ?_
        all_goals (obtain ⟨k1, k2⟩ := stored hlt h4 B4 (.int .i64 4) (.int .i64 0) (.int .i64 0) (.int .i64 0) (.string t) (.int .i64 0) (.int .i64 0) (.slice none 0 0) (.slice none 0 0) (.string ⟨#[]⟩); exact ⟨rfl, ⟨j, g2, k1, rfl⟩, k2⟩)

    · have hr2 : r = .bad 6 start := by rw [← hr.out, if_neg (by rw [hA]; simp), if_pos hB]
      subst hr2
      have hc1 : (t.toList == u.toList) = false := by
        rw [hul, beq_eq_false_iff_ne]
        exact fun e => lower_ne hB e.symm
      have hc2 : (t.toList != u.toList) = true := by rw [bne, hc1]; rfl
      clear hul
      clear hr
      go_enter Tryz.func66, Tryz.ntmps66
      go_wp2_with (go_at_call 32; with_reducible refine (cM _ (h.start _ _)).mono ?_; rintro e w1 ⟨rfl, h1, b1⟩; have r1 := (Res.new w).but b1 hlt; have B1 := (But.start b w _ _).trans b1; have s1 := B1.size; obtain ⟨d0, d1, g0, g1⟩ := h1.cells)
      go_region
      all_goals have h2 := h1.drew
      all_goals have r2 := r1.drew
      all_goals have B2 := B1.drew
      all_goals go_wp2_with (first
        | (go_at_call 31; with_reducible refine (reservedQ t _).mono ?_; rintro e3 w3 ⟨rfl, rfl⟩)
        | (go_at_call 115; with_reducible refine (cL _).mono ?_; rintro e4 w4 ⟨rfl, b4⟩; have h4 := h2.below b4; have r4 := r2.but (But.of b4) hlt; have B4 := B2.trans (But.of b4))
        | (go_at_call 113; with_reducible refine (failedQ 6 start _).mono ?_; rintro e5 w5 ⟨rfl, b5⟩; have h5 := h4.below b5; have r5 := r4.but (But.of b5) hlt; have B5 := B4.trans (But.of b5); obtain ⟨p0, p1, p2, p3, p4, p5, p6, p7, p8, p9⟩ := r5.tok; obtain ⟨q0, q1, q2, q3, q4, q5, q6, q7, q8, q9⟩ := r5.flt))
      all_goals refine bodyPost_ret (by simp [results, Tryz.results66, go_sem, p0, p1, p2, p3, p4, q0, q1, q2, q3, q4]; try rfl) rfl ?_
      all_goals (obtain ⟨k1, k2⟩ := stored hlt h5 B5 (.int .i64 0) (.int .i64 0) (.int .i64 0) (.int .i64 0) (.string ⟨#[]⟩) (.int .i64 6) (.int .i64 (start : Int)) (.slice none 0 0) (.slice none 0 0) (.string ⟨#[]⟩); exact ⟨rfl, ⟨j, g2, k1, trivial⟩, k2⟩)

  · have hr2 : r = .tok 5 0 t j := by rw [← hr.out, if_pos hA]
    subst hr2
    clear hr hul
    go_enter Tryz.func66, Tryz.ntmps66
    go_wp2_with (go_at_call 32; with_reducible refine (cM _ (h.start _ _)).mono ?_; rintro e w1 ⟨rfl, h1, b1⟩; have r1 := (Res.new w).but b1 hlt; have B1 := (But.start b w _ _).trans b1; have s1 := B1.size; obtain ⟨d0, d1, g0, g1⟩ := h1.cells)
    go_region
    all_goals have h2 := h1.drew
    all_goals have r2 := r1.drew
    all_goals have B2 := B1.drew
    all_goals go_wp2_with (first
      | (go_at_call 31; with_reducible refine (reservedQ t _).mono ?_; rintro e3 w3 ⟨rfl, rfl⟩; obtain ⟨p0, p1, p2, p3, p4, p5, p6, p7, p8, p9⟩ := r1.tok; obtain ⟨q0, q1, q2, q3, q4, q5, q6, q7, q8, q9⟩ := r1.flt))
    all_goals refine bodyPost_ret (by simp [results, Tryz.results66, go_sem, p0, p1, p2, p3, p4, q0, q1, q2, q3, q4]; try rfl) rfl ?_
    all_goals (obtain ⟨k1, k2⟩ := stored hlt h1 B1 (.int .i64 5) (.int .i64 0) (.int .i64 0) (.int .i64 0) (.string t) (.int .i64 0) (.int .i64 0) (.slice none 0 0) (.slice none 0 0) (.string ⟨#[]⟩); exact ⟨rfl, ⟨j, g2, k1.drew, rfl⟩, k2.drew⟩)

end Go.Proofs.YtljgehammocpkaaGreatDoor.Tok
