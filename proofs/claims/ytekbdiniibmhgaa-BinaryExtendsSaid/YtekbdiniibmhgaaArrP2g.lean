/-
  Layer 3: the program's isElement, checkShape and checkParts. (Written by wip/gen/array-p2.py.)
-/
import Derived.Test.YtekbdiniibmhgaaArrP1g
namespace Go.Proofs.Ytekbdiniibmhgaa.Shape
open Go.RowKit

def isEl (k n : Int) : Bool := if k = 2 then runeB n else numB n
theorem isEl_rune {n : Int} : isEl 2 n = runeB n := by rw [isEl, if_pos rfl]
theorem isEl_num {k n : Int} (h : ¬ k = 2) : isEl k n = numB n := by rw [isEl, if_neg h]
theorem isElQ (k n : Int) (w : World) : Calls Try.prog 85 #[.int .i64 k, .int .i64 n] w fun e w' => e = .returned (.bool (isEl k n)) ∧ w = w' := by
  by_cases hk : k = 2
  · subst hk
    rw [isEl_rune]
    by_cases h0 : 0 ≤ n
    · by_cases h1 : n ≤ 1114111
      · by_cases h2 : n < 55296
        · go_enter Try.func85, Try.ntmps85
          go_wp2
          go_ret
          exact ⟨ret_bool (by simp [runeB]; omega), rfl⟩
        · by_cases h3 : 57343 < n
          · go_enter Try.func85, Try.ntmps85
            go_wp2
            go_ret
            exact ⟨ret_bool (by simp [runeB]; omega), rfl⟩
          · go_enter Try.func85, Try.ntmps85
            go_wp2
            go_ret
            exact ⟨ret_bool (by simp [runeB]; omega), rfl⟩
      · go_enter Try.func85, Try.ntmps85
        go_wp2
        go_ret
        exact ⟨ret_bool (by simp [runeB]; omega), rfl⟩
    · go_enter Try.func85, Try.ntmps85
      go_wp2
      go_ret
      exact ⟨ret_bool (by simp [runeB]; omega), rfl⟩
  · rw [isEl_num hk]
    have hk' : (k == 2) = false := by simpa using hk
    rcases Int.lt_or_le n (-4611686018427387903) with h | h
    · go_enter Try.func85, Try.ntmps85
      go_wp2
      go_ret
      exact ⟨ret_bool (by simp [numB]; omega), rfl⟩
    · rcases Int.lt_or_le 4611686018427387903 n with h2 | h2
      · go_enter Try.func85, Try.ntmps85
        go_wp2
        go_ret
        exact ⟨ret_bool (by simp [numB]; omega), rfl⟩
      · go_enter Try.func85, Try.ntmps85
        go_wp2
        go_ret
        exact ⟨ret_bool (by simp [numB]; omega), rfl⟩

/-- The size of a shape that has no error. -/
def shN (xs : List Int) : Int := if dimsE xs = 0 then pr xs else 0
theorem shN_bad {xs : List Int} (h : dimsE xs ≠ 0) : shN xs = 0 := by rw [shN, if_neg h]
theorem shN_ok {xs : List Int} (h : dimsE xs = 0) : shN xs = pr xs := by rw [shN, if_pos h]
theorem sizeS_ok {xs : List Int} (h : dimsE xs = 0) : sizeS xs = pr xs := by rw [sizeS, if_pos ((dimsE_right xs).1 h)]
theorem sizeS_bad {xs : List Int} (h : dimsE xs ≠ 0) : sizeS xs = -1 := by rw [sizeS, if_neg (fun g => h ((dimsE_right xs).2 g))]
theorem pr_le {xs : List Int} (h : NN xs) : pr xs ≤ nz xs := by
  induction xs with
  | nil => exact Int.le_refl _
  | cons x r ih =>
    rw [pr, nz]
    have h1 := h.head
    have h2 := nz_pos h.tail
    by_cases c : x = 0
    · rw [if_pos c, c, Int.zero_mul]; omega
    · rw [if_neg c]; exact Int.mul_le_mul_of_nonneg_left (ih h.tail) h1
theorem dims_small {xs : List Int} (h : dimsE xs = 0) : 0 ≤ pr xs ∧ pr xs ≤ 65536 := by
  have hr := right_def.1 ((dimsE_right xs).1 h)
  exact ⟨pr_nn hr.2.1, Int.le_trans (pr_le hr.2.1) hr.2.2⟩
theorem ret_two {a b x y : Int} (h : x = a) (g : y = b) : Ending.returned (.tuple #[.int .i64 a, .int .i64 b]) = .returned (.tuple #[.int .i64 x, .int .i64 y]) := by rw [h, g]

set_option maxHeartbeats 1000000 in
theorem checkShapeQ (a : Option Addr) (cap : Nat) (xs : List Int) (w : World) (h : IntsAt w a cap xs) :
    Calls Try.prog 84 #[.slice a xs.length cap] w fun e w' => e = .returned (.tuple #[.int .i64 (shN xs), .int .i64 (dimsE xs)]) ∧ w = w' := by
  have hl := h.len
  by_cases h8 : 8 < xs.length
  · have HE : Hid (dimsE xs = 15) := dimsE_long h8
    have HN : Hid (shN xs = 0) := shN_bad (by rw [dimsE_long h8]; decide)
    go_enter Try.func84, Try.ntmps84
    go_wp2
    go_ret2
    exact ⟨ret_two HN.out HE.out, rfl⟩
  · go_enter Try.func84, Try.ntmps84
    go_wp2
    go_loop [12] (fun i => ∃ k : Nat, k ≤ xs.length ∧ i = .int .i64 k ∧ NN (xs.take k)) (fun i => xs.length - (intOf i).toNat)
    case atStart => exact ⟨0, Nat.zero_le _, rfl, NN.nil⟩
    case round =>
      obtain ⟨k, hk, rfl, hn⟩ := hrel
      by_cases hlt : k < xs.length
      · obtain ⟨b, off, hi, hc⟩ := h.at hlt
        by_cases c1 : xs[k] < 0
        · have HD : Hid (dimsE xs = 16) := dimsE_neg h8 (fun g => by have := g _ (List.getElem_mem hlt); omega)
          have HN : Hid (shN xs = 0) := shN_bad (by rw [HD.out]; decide)
          go_wp2
          go_ret2
          exact ⟨ret_two HN.out HD.out, rfl⟩
        · have hn2 : NN (xs.take (k + 1)) := by rw [take_snoc xs k hlt]; exact hn.snoc (by omega)
          go_wp2
          go_round
          case rel => exact ⟨k + 1, by omega, by go_num, hn2⟩
          case measure => simp [intOf]; omega
      · obtain rfl : k = xs.length := by omega
        rw [List.take_length] at hn
        have C := shSizeP a cap xs w h
        by_cases c2 : nz xs ≤ 65536
        · have HE : Hid (dimsE xs = 0) := dimsE_ok h8 hn c2
          have HN : Hid (shN xs = pr xs) := shN_ok HE.out
          have hp := (dims_small HE.out).1
          rw [sizeS_ok HE.out] at C
          clear hn c2
          go_wp2_with (go_at_call 69; refine C.mono ?_; rintro e w' ⟨rfl, rfl⟩)
          go_ret2
          exact ⟨ret_two HN.out HE.out, rfl⟩
        · have HE : Hid (dimsE xs = 21) := dimsE_big h8 hn c2
          have HN : Hid (shN xs = 0) := shN_bad (by rw [HE.out]; decide)
          rw [sizeS_bad (by rw [HE.out]; decide)] at C
          clear hn c2
          go_wp2_with (go_at_call 69; refine C.mono ?_; rintro e w' ⟨rfl, rfl⟩)
          go_ret2
          exact ⟨ret_two HN.out HE.out, rfl⟩

/-- The first error apart from the items. -/
def partsE : Arr → Int
  | .mk k sh nu it => if k < 1 ∨ 3 < k then 14 else if dimsE sh ≠ 0 then dimsE sh else if (aSize (.mk k sh nu it) : Int) ≠ pr sh ∨ 0 < other k nu it then 16 else if nu.all (elemB k) = false then 17 else 0
section
variable {k : Int} {sh nu : List Int} {it : List Arr}
theorem parts_kind (h : k < 1 ∨ 3 < k) : partsE (.mk k sh nu it) = 14 := by rw [partsE, if_pos h]
theorem parts_dims (h : ¬ (k < 1 ∨ 3 < k)) (hd : dimsE sh ≠ 0) : partsE (.mk k sh nu it) = dimsE sh := by rw [partsE, if_neg h, if_pos hd]
theorem parts_len (h : ¬ (k < 1 ∨ 3 < k)) (hd : dimsE sh = 0) (hl : (aSize (.mk k sh nu it) : Int) ≠ pr sh ∨ 0 < other k nu it) : partsE (.mk k sh nu it) = 16 := by
  rw [partsE, if_neg h, if_neg (by simpa using hd), if_pos hl]
theorem parts_elem (h : ¬ (k < 1 ∨ 3 < k)) (hd : dimsE sh = 0) (hl : ¬ ((aSize (.mk k sh nu it) : Int) ≠ pr sh ∨ 0 < other k nu it)) (he : nu.all (elemB k) = false) : partsE (.mk k sh nu it) = 17 := by
  rw [partsE, if_neg h, if_neg (by simpa using hd), if_neg hl, if_pos he]
theorem parts_ok (h : ¬ (k < 1 ∨ 3 < k)) (hd : dimsE sh = 0) (hl : ¬ ((aSize (.mk k sh nu it) : Int) ≠ pr sh ∨ 0 < other k nu it)) (he : nu.all (elemB k) = true) : partsE (.mk k sh nu it) = 0 := by
  rw [partsE, if_neg h, if_neg (by simpa using hd), if_neg hl, if_neg (by rw [he]; simp)]
end
theorem wrap_lens {p n : Nat} (h1 : p ≤ 65536) (h2 : n ≤ 9223372036854775807) : ∃ s : Int, IntKind.i64.wrap ((p : Int) + (n : Int)) = s ∧ (s = p ↔ n = 0) := by
  by_cases h : p + n ≤ 9223372036854775807
  · exact ⟨(p : Int) + n, by rw [IntKind.wrap_i64]; omega, by omega⟩
  · refine ⟨(p : Int) + n - 18446744073709551616, ?_, by omega⟩
    rw [IntKind.wrap_i64]; omega
theorem wrap_lens' {p n : Nat} (h1 : p ≤ 65536) (h2 : n ≤ 9223372036854775807) : ∃ s : Int, IntKind.i64.wrap ((n : Int) + (p : Int)) = s ∧ (s = p ↔ n = 0) := by
  rw [Int.add_comm]; exact wrap_lens h1 h2

set_option maxHeartbeats 400000 in
theorem partsQ_kind (v : Value) (k : Int) (sh nu : List Int) (it : List Arr) (w : World) (h : ArrAt w v (.mk k sh nu it)) (hk' : k < 1 ∨ 3 < k) :
    Calls Try.prog 63 #[v] w fun e w' => e = .returned (.int .i64 (partsE (.mk k sh nu it))) ∧ Below w.heap.size w w' := by
  rw [parts_kind hk']
  rw [ArrAt] at h
  obtain ⟨sa, sc, na, nc, ia, ic, rfl, hk, hs, hnn, h1, h2, b, off, ha, hc⟩ := h
  have e1 : (k != 1) = true := by simp; omega
  have e2 : (k != 2) = true := by simp; omega
  have e3 : (k != 3) = true := by simp; omega
  clear hk' hk hs hnn h1 h2 ha hc
  go_enter Try.func63, Try.ntmps63
  go_wp2_with fail
  go_ret
  exact ⟨rfl, below_new _ _⟩

set_option maxHeartbeats 2000000 in
set_option maxRecDepth 100000 in
theorem partsQ_1 (v : Value) (sh nu : List Int) (it : List Arr) (w : World) (h : ArrAt w v (.mk 1 sh nu it)) :
    Calls Try.prog 63 #[v] w fun e w' => e = .returned (.int .i64 (partsE (.mk 1 sh nu it))) ∧ Below w.heap.size w w' := by
  have hA := h
  rw [ArrAt] at h
  obtain ⟨sa, sc, na, nc, ia, ic, rfl, hk, hs, hnn, h1, h2, b, off, ha, hc⟩ := h
  have hA1 := hA.below (below_new w (.cells #[.int .i64 1, .slice sa sh.length sc, .slice na nu.length nc, .slice ia it.length ic] 33))
  have hs1 := hs.below (below_new w (.cells #[.int .i64 1, .slice sa sh.length sc, .slice na nu.length nc, .slice ia it.length ic] 33))
  have hP1 := Par.new w (.int .i64 1) (.slice sa sh.length sc) (.slice na nu.length nc) (.slice ia it.length ic) 33
  have hnl := hnn.len
  have hil : it.length ≤ 9223372036854775807 := by omega
  have C := checkShapeQ _ _ _ _ hs1
  have hz : ((aSize (.mk 1 sh nu it) : Nat) : Int) = nu.length := rfl
  have S := fun w' (g : ArrAt w' (.agg #[.int .i64 1, .slice sa sh.length sc, .slice na nu.length nc, .slice ia it.length ic]) (.mk 1 sh nu it)) => sizeQ _ _ w' g
  rw [hz] at S
  clear hk ha hc hs h1 h2
  by_cases hd : dimsE sh = 0
  · rw [shN_ok hd, hd] at C
    obtain ⟨p0, p1⟩ := dims_small hd
    by_cases c : (nu.length : Int) = pr sh
    · have c1 : ((nu.length : Int) != pr sh) = false := by rw [c]; simp
      obtain ⟨s, hs', hs2⟩ := wrap_lens (p := nu.length) (n := it.length) (by omega) hil
      by_cases co : it.length = 0
      · have c2 : (s != pr sh) = false := by rw [hs2.2 co, c]; simp
        have HG : Hid (¬ ((aSize (.mk 1 sh nu it) : Int) ≠ pr sh ∨ 0 < other 1 nu it)) := by
          unfold Hid
          show ¬ ((nu.length : Int) ≠ pr sh ∨ 0 < it.length)
          omega
        have CO : Hid (it.length = 0) := co
        have HD : Hid (dimsE sh = 0) := hd
        clear hd c co hs2 hz
        go_enter Try.func63, Try.ntmps63
        go_wp2_with (first
          | (go_at_call 84; refine C.mono ?_; rintro e w' ⟨rfl, rfl⟩)
          | (go_at_call 64; refine (S _ hA1).mono ?_; rintro e w1 ⟨rfl, hb1⟩; obtain ⟨q0, q1, q2, q3, q4⟩ := hP1.below hb1))
        have hb := Below.then (below_new w _) hb1
        clear S C hA1 hs1 c1 c2
        go_loop [47] (fun i => ∃ j : Nat, j ≤ nu.length ∧ i = .int .i64 j ∧ (nu.take j).all (elemB 1) = true) (fun i => nu.length - (intOf i).toNat)
        case atStart => exact ⟨0, Nat.zero_le _, rfl, rfl⟩
        case round =>
          obtain ⟨j, hj, rfl, hall⟩ := hrel
          by_cases hlt : j < nu.length
          · obtain ⟨b1, o1, f1, v1⟩ := (hnn.below hb).at hlt
            by_cases ce : isEl 1 nu[j] = true
            · have HE2 : Hid ((nu.take (j + 1)).all (elemB 1) = true) := all_take hlt hall (by simpa [elemB, isEl] using ce)
              clear hall
              go_wp2_with (go_at_call 85; refine (isElQ _ _ _).mono ?_; rintro e w' ⟨rfl, rfl⟩)
              go_round
              case rel => exact ⟨j + 1, by omega, by go_num, HE2.out⟩
              case measure => simp [intOf]; omega
            · have ce' : isEl 1 nu[j] = false := by simpa using ce
              have HE2 : Hid (partsE (.mk 1 sh nu it) = 17) := by
                refine parts_elem (by omega) (Classical.byContradiction fun g => ?_) HG.out (all_bad hlt (by simpa [elemB, isEl] using ce'))
                exact g HD.out
              clear hall ce
              go_wp2_with (go_at_call 85; refine (isElQ _ _ _).mono ?_; rintro e w' ⟨rfl, rfl⟩)
              go_ret
              exact ⟨ret_int HE2.out.symm, hb⟩
          · obtain rfl : j = nu.length := by omega
            rw [List.take_length] at hall
            have HE2 : Hid (partsE (.mk 1 sh nu it) = 0) := parts_ok (by omega) HD.out HG.out hall
            clear hall
            go_wp2_with fail
            go_ret
            exact ⟨ret_int HE2.out.symm, hb⟩
      · have c2 : (s != pr sh) = true := by
          have : ¬ s = pr sh := fun e => co (hs2.1 (by omega))
          simpa using this
        have HE : Hid (partsE (.mk 1 sh nu it) = 16) := parts_len (by omega) hd (Or.inr (by show 0 < it.length; omega))
        clear hd c co hs2 hz
        go_enter Try.func63, Try.ntmps63
        go_wp2_with (first
          | (go_at_call 84; refine C.mono ?_; rintro e w' ⟨rfl, rfl⟩)
          | (go_at_call 64; refine (S _ hA1).mono ?_; rintro e w1 ⟨rfl, hb1⟩; obtain ⟨q0, q1, q2, q3, q4⟩ := hP1.below hb1))
        go_ret
        exact ⟨ret_int HE.out.symm, Below.then (below_new w _) hb1⟩
    · have c1 : ((nu.length : Int) != pr sh) = true := by simpa using c
      have HE : Hid (partsE (.mk 1 sh nu it) = 16) := parts_len (by omega) hd (Or.inl c)
      clear hd c hz
      go_enter Try.func63, Try.ntmps63
      go_wp2_with (first
        | (go_at_call 84; refine C.mono ?_; rintro e w' ⟨rfl, rfl⟩)
        | (go_at_call 64; refine (S _ hA1).mono ?_; rintro e w1 ⟨rfl, hb1⟩; obtain ⟨q0, q1, q2, q3, q4⟩ := hP1.below hb1))
      go_ret
      exact ⟨ret_int HE.out.symm, Below.then (below_new w _) hb1⟩
  · have HE : Hid (partsE (.mk 1 sh nu it) = dimsE sh) := parts_dims (by omega) hd
    have hd' : (dimsE sh != 0) = true := by simpa using hd
    clear hd hz
    go_enter Try.func63, Try.ntmps63
    go_wp2_with (first
      | (go_at_call 84; refine C.mono ?_; rintro e w' ⟨rfl, rfl⟩))
    go_ret
    exact ⟨ret_int HE.out.symm, below_new _ _⟩

set_option maxHeartbeats 2000000 in
set_option maxRecDepth 100000 in
theorem partsQ_2 (v : Value) (sh nu : List Int) (it : List Arr) (w : World) (h : ArrAt w v (.mk 2 sh nu it)) :
    Calls Try.prog 63 #[v] w fun e w' => e = .returned (.int .i64 (partsE (.mk 2 sh nu it))) ∧ Below w.heap.size w w' := by
  have hA := h
  rw [ArrAt] at h
  obtain ⟨sa, sc, na, nc, ia, ic, rfl, hk, hs, hnn, h1, h2, b, off, ha, hc⟩ := h
  have hA1 := hA.below (below_new w (.cells #[.int .i64 2, .slice sa sh.length sc, .slice na nu.length nc, .slice ia it.length ic] 33))
  have hs1 := hs.below (below_new w (.cells #[.int .i64 2, .slice sa sh.length sc, .slice na nu.length nc, .slice ia it.length ic] 33))
  have hP1 := Par.new w (.int .i64 2) (.slice sa sh.length sc) (.slice na nu.length nc) (.slice ia it.length ic) 33
  have hnl := hnn.len
  have hil : it.length ≤ 9223372036854775807 := by omega
  have C := checkShapeQ _ _ _ _ hs1
  have hz : ((aSize (.mk 2 sh nu it) : Nat) : Int) = nu.length := rfl
  have S := fun w' (g : ArrAt w' (.agg #[.int .i64 2, .slice sa sh.length sc, .slice na nu.length nc, .slice ia it.length ic]) (.mk 2 sh nu it)) => sizeQ _ _ w' g
  rw [hz] at S
  clear hk ha hc hs h1 h2
  by_cases hd : dimsE sh = 0
  · rw [shN_ok hd, hd] at C
    obtain ⟨p0, p1⟩ := dims_small hd
    by_cases c : (nu.length : Int) = pr sh
    · have c1 : ((nu.length : Int) != pr sh) = false := by rw [c]; simp
      obtain ⟨s, hs', hs2⟩ := wrap_lens (p := nu.length) (n := it.length) (by omega) hil
      by_cases co : it.length = 0
      · have c2 : (s != pr sh) = false := by rw [hs2.2 co, c]; simp
        have HG : Hid (¬ ((aSize (.mk 2 sh nu it) : Int) ≠ pr sh ∨ 0 < other 2 nu it)) := by
          unfold Hid
          show ¬ ((nu.length : Int) ≠ pr sh ∨ 0 < it.length)
          omega
        have CO : Hid (it.length = 0) := co
        have HD : Hid (dimsE sh = 0) := hd
        clear hd c co hs2 hz
        go_enter Try.func63, Try.ntmps63
        go_wp2_with (first
          | (go_at_call 84; refine C.mono ?_; rintro e w' ⟨rfl, rfl⟩)
          | (go_at_call 64; refine (S _ hA1).mono ?_; rintro e w1 ⟨rfl, hb1⟩; obtain ⟨q0, q1, q2, q3, q4⟩ := hP1.below hb1))
        have hb := Below.then (below_new w _) hb1
        clear S C hA1 hs1 c1 c2
        go_loop [47] (fun i => ∃ j : Nat, j ≤ nu.length ∧ i = .int .i64 j ∧ (nu.take j).all (elemB 2) = true) (fun i => nu.length - (intOf i).toNat)
        case atStart => exact ⟨0, Nat.zero_le _, rfl, rfl⟩
        case round =>
          obtain ⟨j, hj, rfl, hall⟩ := hrel
          by_cases hlt : j < nu.length
          · obtain ⟨b1, o1, f1, v1⟩ := (hnn.below hb).at hlt
            by_cases ce : isEl 2 nu[j] = true
            · have HE2 : Hid ((nu.take (j + 1)).all (elemB 2) = true) := all_take hlt hall (by simpa [elemB, isEl] using ce)
              clear hall
              go_wp2_with (go_at_call 85; refine (isElQ _ _ _).mono ?_; rintro e w' ⟨rfl, rfl⟩)
              go_round
              case rel => exact ⟨j + 1, by omega, by go_num, HE2.out⟩
              case measure => simp [intOf]; omega
            · have ce' : isEl 2 nu[j] = false := by simpa using ce
              have HE2 : Hid (partsE (.mk 2 sh nu it) = 17) := by
                refine parts_elem (by omega) (Classical.byContradiction fun g => ?_) HG.out (all_bad hlt (by simpa [elemB, isEl] using ce'))
                exact g HD.out
              clear hall ce
              go_wp2_with (go_at_call 85; refine (isElQ _ _ _).mono ?_; rintro e w' ⟨rfl, rfl⟩)
              go_ret
              exact ⟨ret_int HE2.out.symm, hb⟩
          · obtain rfl : j = nu.length := by omega
            rw [List.take_length] at hall
            have HE2 : Hid (partsE (.mk 2 sh nu it) = 0) := parts_ok (by omega) HD.out HG.out hall
            clear hall
            go_wp2_with fail
            go_ret
            exact ⟨ret_int HE2.out.symm, hb⟩
      · have c2 : (s != pr sh) = true := by
          have : ¬ s = pr sh := fun e => co (hs2.1 (by omega))
          simpa using this
        have HE : Hid (partsE (.mk 2 sh nu it) = 16) := parts_len (by omega) hd (Or.inr (by show 0 < it.length; omega))
        clear hd c co hs2 hz
        go_enter Try.func63, Try.ntmps63
        go_wp2_with (first
          | (go_at_call 84; refine C.mono ?_; rintro e w' ⟨rfl, rfl⟩)
          | (go_at_call 64; refine (S _ hA1).mono ?_; rintro e w1 ⟨rfl, hb1⟩; obtain ⟨q0, q1, q2, q3, q4⟩ := hP1.below hb1))
        go_ret
        exact ⟨ret_int HE.out.symm, Below.then (below_new w _) hb1⟩
    · have c1 : ((nu.length : Int) != pr sh) = true := by simpa using c
      have HE : Hid (partsE (.mk 2 sh nu it) = 16) := parts_len (by omega) hd (Or.inl c)
      clear hd c hz
      go_enter Try.func63, Try.ntmps63
      go_wp2_with (first
        | (go_at_call 84; refine C.mono ?_; rintro e w' ⟨rfl, rfl⟩)
        | (go_at_call 64; refine (S _ hA1).mono ?_; rintro e w1 ⟨rfl, hb1⟩; obtain ⟨q0, q1, q2, q3, q4⟩ := hP1.below hb1))
      go_ret
      exact ⟨ret_int HE.out.symm, Below.then (below_new w _) hb1⟩
  · have HE : Hid (partsE (.mk 2 sh nu it) = dimsE sh) := parts_dims (by omega) hd
    have hd' : (dimsE sh != 0) = true := by simpa using hd
    clear hd hz
    go_enter Try.func63, Try.ntmps63
    go_wp2_with (first
      | (go_at_call 84; refine C.mono ?_; rintro e w' ⟨rfl, rfl⟩))
    go_ret
    exact ⟨ret_int HE.out.symm, below_new _ _⟩

set_option maxHeartbeats 2000000 in
set_option maxRecDepth 100000 in
theorem partsQ_3 (v : Value) (sh nu : List Int) (it : List Arr) (w : World) (h : ArrAt w v (.mk 3 sh nu it)) :
    Calls Try.prog 63 #[v] w fun e w' => e = .returned (.int .i64 (partsE (.mk 3 sh nu it))) ∧ Below w.heap.size w w' := by
  have hA := h
  rw [ArrAt] at h
  obtain ⟨sa, sc, na, nc, ia, ic, rfl, hk, hs, hnn, h1, h2, b, off, ha, hc⟩ := h
  have hA1 := hA.below (below_new w (.cells #[.int .i64 3, .slice sa sh.length sc, .slice na nu.length nc, .slice ia it.length ic] 33))
  have hs1 := hs.below (below_new w (.cells #[.int .i64 3, .slice sa sh.length sc, .slice na nu.length nc, .slice ia it.length ic] 33))
  have hP1 := Par.new w (.int .i64 3) (.slice sa sh.length sc) (.slice na nu.length nc) (.slice ia it.length ic) 33
  have hnl := hnn.len
  have hil : it.length ≤ 9223372036854775807 := by omega
  have C := checkShapeQ _ _ _ _ hs1
  have hz : ((aSize (.mk 3 sh nu it) : Nat) : Int) = it.length := rfl
  have S := fun w' (g : ArrAt w' (.agg #[.int .i64 3, .slice sa sh.length sc, .slice na nu.length nc, .slice ia it.length ic]) (.mk 3 sh nu it)) => sizeQ _ _ w' g
  rw [hz] at S
  clear hk ha hc hs h1 h2
  by_cases hd : dimsE sh = 0
  · rw [shN_ok hd, hd] at C
    obtain ⟨p0, p1⟩ := dims_small hd
    by_cases c : (it.length : Int) = pr sh
    · have c1 : ((it.length : Int) != pr sh) = false := by rw [c]; simp
      obtain ⟨s, hs', hs2⟩ := wrap_lens' (p := it.length) (n := nu.length) (by omega) hnl
      by_cases co : nu.length = 0
      · have c2 : (s != pr sh) = false := by rw [hs2.2 co, c]; simp
        have HG : Hid (¬ ((aSize (.mk 3 sh nu it) : Int) ≠ pr sh ∨ 0 < other 3 nu it)) := by
          unfold Hid
          show ¬ ((it.length : Int) ≠ pr sh ∨ 0 < nu.length)
          omega
        have CO : Hid (nu.length = 0) := co
        have HD : Hid (dimsE sh = 0) := hd
        clear hd c co hs2 hz
        go_enter Try.func63, Try.ntmps63
        go_wp2_with (first
          | (go_at_call 84; refine C.mono ?_; rintro e w' ⟨rfl, rfl⟩)
          | (go_at_call 64; refine (S _ hA1).mono ?_; rintro e w1 ⟨rfl, hb1⟩; obtain ⟨q0, q1, q2, q3, q4⟩ := hP1.below hb1))
        have hb := Below.then (below_new w _) hb1
        clear S C hA1 hs1 c1 c2
        have HE2 : Hid (partsE (.mk 3 sh nu it) = 0) := parts_ok (by omega) HD.out HG.out (by rw [List.eq_nil_of_length_eq_zero CO.out]; rfl)
        have hn0 : ¬ (0 < (nu.length : Int)) := by have := CO.out; omega
        refine wp_loop_rounds 1 ?_
        rw [rounds_succ]
        go_wp2_with fail
        go_ret
        exact ⟨ret_int HE2.out.symm, hb⟩
      · have c2 : (s != pr sh) = true := by
          have : ¬ s = pr sh := fun e => co (hs2.1 (by omega))
          simpa using this
        have HE : Hid (partsE (.mk 3 sh nu it) = 16) := parts_len (by omega) hd (Or.inr (by show 0 < nu.length; omega))
        clear hd c co hs2 hz
        go_enter Try.func63, Try.ntmps63
        go_wp2_with (first
          | (go_at_call 84; refine C.mono ?_; rintro e w' ⟨rfl, rfl⟩)
          | (go_at_call 64; refine (S _ hA1).mono ?_; rintro e w1 ⟨rfl, hb1⟩; obtain ⟨q0, q1, q2, q3, q4⟩ := hP1.below hb1))
        go_ret
        exact ⟨ret_int HE.out.symm, Below.then (below_new w _) hb1⟩
    · have c1 : ((it.length : Int) != pr sh) = true := by simpa using c
      have HE : Hid (partsE (.mk 3 sh nu it) = 16) := parts_len (by omega) hd (Or.inl c)
      clear hd c hz
      go_enter Try.func63, Try.ntmps63
      go_wp2_with (first
        | (go_at_call 84; refine C.mono ?_; rintro e w' ⟨rfl, rfl⟩)
        | (go_at_call 64; refine (S _ hA1).mono ?_; rintro e w1 ⟨rfl, hb1⟩; obtain ⟨q0, q1, q2, q3, q4⟩ := hP1.below hb1))
      go_ret
      exact ⟨ret_int HE.out.symm, Below.then (below_new w _) hb1⟩
  · have HE : Hid (partsE (.mk 3 sh nu it) = dimsE sh) := parts_dims (by omega) hd
    have hd' : (dimsE sh != 0) = true := by simpa using hd
    clear hd hz
    go_enter Try.func63, Try.ntmps63
    go_wp2_with (first
      | (go_at_call 84; refine C.mono ?_; rintro e w' ⟨rfl, rfl⟩))
    go_ret
    exact ⟨ret_int HE.out.symm, below_new _ _⟩

theorem partsQ (v : Value) (A : Arr) (w : World) (h : ArrAt w v A) : Calls Try.prog 63 #[v] w fun e w' => e = .returned (.int .i64 (partsE A)) ∧ Below w.heap.size w w' := by
  obtain ⟨k, sh, nu, it⟩ := A
  by_cases hk : k < 1 ∨ 3 < k
  · exact partsQ_kind v k sh nu it w h hk
  · obtain rfl | rfl | rfl : k = 1 ∨ k = 2 ∨ k = 3 := by omega
    · exact partsQ_1 v sh nu it w h
    · exact partsQ_2 v sh nu it w h
    · exact partsQ_3 v sh nu it w h
end Go.Proofs.Ytekbdiniibmhgaa.Shape
