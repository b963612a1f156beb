/-
  Layer 3: the program's Size; shape's Size and Same; slices.Equal. (Written by wip/gen/array-p1.py.)
  Layer 3: the program's isElement, checkShape and checkParts. (Written by wip/gen/array-p2.py.)
  Layer 4: what it takes of layer 2: the reference's Right and Size, the program's Right and Row. (Written by wip/gen/cell-shape.py.)
-/
import Derived.Test.YtkjbccodahleoaaBd5
import Derived.WalkMore
namespace Go.Proofs.Ytkjbccodahleoaa.Shape
open Go.RowKit

theorem sizeQ (v : Value) (A : Arr) (w : World) (h : ArrAt w v A) :
    Calls Try.prog 61 #[v] w fun e w' => e = .returned (.int .i64 (aSize A)) ∧ Below w.heap.size w w' := by
  obtain ⟨k, sh, nu, it⟩ := A
  rw [ArrAt] at h
  obtain ⟨sa, sc, na, nc, ia, ic, rfl, hk, hs, hn, h1, h2, b, off, ha, hc⟩ := h
  clear hk hs hn h1 h2 ha hc
  by_cases k1 : k = 1
  · subst k1
    go_enter Try.func61, Try.ntmps61
    go_wp2
    go_ret
    exact ⟨rfl, below_new _ _⟩
  · by_cases k2 : k = 2
    · subst k2
      go_enter Try.func61, Try.ntmps61
      go_wp2
      go_ret
      exact ⟨rfl, below_new _ _⟩
    · by_cases k3 : k = 3
      · subst k3
        go_enter Try.func61, Try.ntmps61
        go_wp2
        go_ret
        exact ⟨rfl, below_new _ _⟩
      · have e1 : (k == 1) = false := by simpa using k1
        have e2 : (k == 2) = false := by simpa using k2
        have e3 : (k == 3) = false := by simpa using k3
        have es : aSize (.mk k sh nu it) = 0 := by simp [aSize, Arr.kind, k1, k2, k3]
        clear k1 k2 k3
        go_enter Try.func61, Try.ntmps61
        go_wp2
        go_ret
        exact ⟨by first | rfl | (rw [es]; rfl), below_new _ _⟩

def sizeS (xs : List Int) : Int := if rightB xs = true then pr xs else -1
/-- Is there a dimension 0? -/
def hasZ (xs : List Int) : Bool := xs.any (fun x => decide (x = 0))
theorem hasZ_snoc (a : List Int) (x : Int) : hasZ (a ++ [x]) = (hasZ a || decide (x = 0)) := by simp [hasZ]
theorem pr_hasZ {xs : List Int} (h : hasZ xs = true) : pr xs = 0 := by
  induction xs with
  | nil => cases h
  | cons x r ih =>
    rw [pr]
    by_cases h0 : x = 0
    · rw [h0, Int.zero_mul]
    · rw [ih (by simpa [hasZ, h0] using h), Int.mul_zero]
theorem pr_noZ {xs : List Int} (h : hasZ xs = false) : pr xs = nz xs := by
  apply pr_eq_nz
  intro x hx e
  rw [hasZ, List.any_eq_false] at h
  exact absurd (by simpa using e) (h x hx)
theorem quo_gt {P d : Int} (h1 : 1 ≤ P) (_h2 : P ≤ 65536) : (65536 / P < d) ↔ 65536 < P * d := by
  rw [Int.ediv_lt_iff_lt_mul (by omega), Int.mul_comm d P]
  
set_option maxHeartbeats 1000000 in
theorem shSizeP (a : Option Addr) (cap : Nat) (xs : List Int) (w : World) (h : IntsAt w a cap xs) :
    Calls Try.prog 49 #[.slice a xs.length cap] w fun e w' => e = .returned (.int .i64 (sizeS xs)) ∧ w = w' := by
  have hl := h.len
  by_cases h8 : 8 < xs.length
  · have em : sizeS xs = -1 := by rw [sizeS, right_len h8]; rfl
    go_enter Try.func49, Try.ntmps49
    go_wp2
    go_ret
    first | exact ⟨rfl, rfl⟩ | exact ⟨ret_int em.symm, rfl⟩
  · go_enter Try.func49, Try.ntmps49
    go_wp2
    go_loop [3, 4, 12] (fun p z i => ∃ (k : Nat) (P : Int) (Z : Bool), k ≤ xs.length ∧ i = .int .i64 k ∧ p = .int .i64 P ∧ z = .bool Z ∧ P = nz (xs.take k) ∧ Z = hasZ (xs.take k) ∧ NN (xs.take k) ∧ P ≤ 65536) (fun _ _ i => xs.length - (intOf i).toNat)
    case atStart => exact ⟨0, 1, false, Nat.zero_le _, rfl, rfl, rfl, rfl, rfl, NN.nil, by decide⟩
    case round =>
      obtain ⟨k, P, Z, hk, rfl, rfl, rfl, eP, eZ, hn, hp⟩ := hrel
      have hp1 : 1 ≤ P := eP ▸ nz_pos hn
      by_cases hlt : k < xs.length
      · obtain ⟨b, off, hi, hc⟩ := h.at hlt
        have hs := nz_step hlt
        have ht := take_snoc xs k hlt
        by_cases c1 : xs[k] < 0
        · have em : sizeS xs = -1 := by rw [sizeS, right_neg hlt c1]; rfl
          clear hs ht eP eZ
          go_wp2
          go_ret
          first | exact ⟨rfl, rfl⟩ | exact ⟨ret_int em.symm, rfl⟩
        · have hn2 : NN (xs.take (k + 1)) := by rw [ht]; exact hn.snoc (by omega)
          have hz2 : hasZ (xs.take (k + 1)) = (hasZ (xs.take k) || decide (xs[k] = 0)) := by rw [ht, hasZ_snoc]
          by_cases c2 : xs[k] = 0
          · rw [if_pos c2, Int.mul_one] at hs
            have E1 : Hid (P = nz (xs.take (k + 1))) := by unfold Hid; rw [hs]; exact eP
            have E2 : Hid (true = hasZ (xs.take (k + 1))) := by unfold Hid; rw [hz2]; simp [c2]
            clear hs ht hz2 eP eZ
            go_wp2
            go_round
            case rel => exact ⟨k + 1, P, true, by omega, by go_num, rfl, rfl, E1.out, E2.out, hn2, hp⟩
            case measure => simp [intOf]; omega
          · rw [if_neg c2, ← eP] at hs
            have q1 := quo_gt (d := xs[k]) hp1 hp
            have q2 : Int.tdiv 65536 P = 65536 / P := Int.tdiv_eq_ediv_of_nonneg (by decide)
            have q3 : (65536 : Int) / P ≤ 65536 := Int.ediv_le_self P (by decide)
            have q4 : (0 : Int) ≤ 65536 / P := Int.ediv_nonneg (by decide) (by omega)
            have E2 : Hid (Z = hasZ (xs.take (k + 1))) := by unfold Hid; rw [hz2, eZ]; simp [c2]
            by_cases c4 : 65536 < P * xs[k]
            · have em : sizeS xs = -1 := by rw [sizeS, right_big (xs := xs) (k := k) (by rw [hs]; exact c4)]; rfl
              have c5 : 65536 / P < xs[k] := q1.2 c4
              clear hs ht hz2 eP eZ E2 q1
              go_wp2
              go_ret
              first | exact ⟨rfl, rfl⟩ | exact ⟨ret_int em.symm, rfl⟩
            · have c5 : ¬ 65536 / P < xs[k] := fun hh => c4 (q1.1 hh)
              have m0 : 0 ≤ P * xs[k] := Int.mul_nonneg (by omega) (by omega)
              have E1 : Hid (P * xs[k] = nz (xs.take (k + 1))) := hs.symm
              clear hs ht hz2 eP eZ q1
              go_wp2
              go_round
              case rel => exact ⟨k + 1, P * xs[k], Z, by omega, by go_num, by go_num, rfl, E1.out, E2.out, hn2, by omega⟩
              case measure => simp [intOf]; omega
      · obtain rfl : k = xs.length := by omega
        rw [List.take_length] at hn eP eZ
        have hr := right_all (by omega) hn (eP ▸ hp)
        have em : sizeS xs = if Z = true then 0 else P := by
          rw [sizeS, if_pos hr]
          cases Z with
          | true => exact pr_hasZ eZ.symm
          | false => rw [pr_noZ eZ.symm, ← eP]; rfl
        clear hr eP eZ
        cases Z with
        | true =>
          have em2 : sizeS xs = 0 := em
          clear em
          go_wp2
          go_ret
          first | exact ⟨rfl, rfl⟩ | exact ⟨ret_int em2.symm, rfl⟩
        | false =>
          have em2 : sizeS xs = P := em
          clear em
          go_wp2
          go_ret
          first | exact ⟨rfl, rfl⟩ | exact ⟨ret_int em2.symm, rfl⟩

def LonGive (b : Bool) (w : World) (e : Ending) (w' : World) : Prop := ∃ a n c, e = .returned (.tuple #[.slice a n c, .bool b]) ∧ Below w.heap.size w w'
theorem LonGive.yes {b : Bool} {w w' : World} {a : Option Addr} {n c : Nat} (hb : b = true) (hw : Below w.heap.size w w') : LonGive b w (.returned (.tuple #[.slice a n c, .bool true])) w' := ⟨a, n, c, by rw [hb], hw⟩
theorem LonGive.no {b : Bool} {w w' : World} {a : Option Addr} {n c : Nat} (hb : b = false) (hw : Below w.heap.size w w') : LonGive b w (.returned (.tuple #[.slice a n c, .bool false])) w' := ⟨a, n, c, by rw [hb], hw⟩
/-- Is ys a prefix of xs? -/
def preB (xs ys : List Int) : Bool := decide (ys.length ≤ xs.length ∧ ∀ j (h1 : j < xs.length) (h2 : j < ys.length), xs[j] = ys[j])
def lonB (xs ys : List Int) : Bool := preB xs ys || preB ys xs
def lonL (xs ys : List Int) : List Int := if preB xs ys = true then xs else if preB ys xs = true then ys else []
theorem pre_no_len {xs ys : List Int} (h : xs.length < ys.length) : preB xs ys = false := by
  simp only [preB, decide_eq_false_iff_not]; omega
theorem pre_no_at {xs ys : List Int} {k : Nat} (h1 : k < xs.length) (h2 : k < ys.length) (h : ¬ xs[k] = ys[k]) : preB xs ys = false := by
  simp only [preB, decide_eq_false_iff_not]
  exact fun hh => h (hh.2 k h1 h2)
theorem pre_yes {xs ys : List Int} (h : ys.length ≤ xs.length) (h2 : ∀ j (h1 : j < xs.length) (h2 : j < ys.length), xs[j] = ys[j]) : preB xs ys = true := by
  simp only [preB, decide_eq_true_eq]; exact ⟨h, h2⟩

theorem lon_same {xs ys : List Int} (h : xs.length = ys.length) : lonB xs ys = sameB xs ys := by
  by_cases e : xs = ys
  · subst e
    rw [lonB, pre_yes (Nat.le_refl _) (fun _ _ _ => rfl)]; simp [sameB]
  · have key : ∀ {us vs : List Int}, us.length = vs.length → ¬ us = vs → preB us vs = false := by
      intro us vs hl hn
      simp only [preB, decide_eq_false_iff_not]
      exact fun hh => hn (List.ext_getElem hl (fun i h1 h2 => hh.2 i h1 h2))
    rw [lonB, key h e, key h.symm (fun h => e h.symm)]; simp [sameB, e]

/-! ### append([]int{}, xs...) -/


end Go.Proofs.Ytkjbccodahleoaa.Shape

namespace Go.Proofs.Ytkjbccodahleoaa.Shape
open Go.RowKit

def isEl (k n : Int) : Bool := if k = 2 then runeB n else numB n
theorem isEl_rune {n : Int} : isEl 2 n = runeB n := by rw [isEl, if_pos rfl]
theorem isEl_num {k n : Int} (h : ¬ k = 2) : isEl k n = numB n := by rw [isEl, if_neg h]
theorem isElQ (k n : Int) (w : World) : Calls Try.prog 83 #[.int .i64 k, .int .i64 n] w fun e w' => e = .returned (.bool (isEl k n)) ∧ w = w' := by
  by_cases hk : k = 2
  · subst hk
    rw [isEl_rune]
    by_cases h0 : 0 ≤ n
    · by_cases h1 : n ≤ 1114111
      · by_cases h2 : n < 55296
        · go_enter Try.func83, Try.ntmps83
          go_wp2
          go_ret
          exact ⟨ret_bool (by simp [runeB]; omega), rfl⟩
        · by_cases h3 : 57343 < n
          · go_enter Try.func83, Try.ntmps83
            go_wp2
            go_ret
            exact ⟨ret_bool (by simp [runeB]; omega), rfl⟩
          · go_enter Try.func83, Try.ntmps83
            go_wp2
            go_ret
            exact ⟨ret_bool (by simp [runeB]; omega), rfl⟩
      · go_enter Try.func83, Try.ntmps83
        go_wp2
        go_ret
        exact ⟨ret_bool (by simp [runeB]; omega), rfl⟩
    · go_enter Try.func83, Try.ntmps83
      go_wp2
      go_ret
      exact ⟨ret_bool (by simp [runeB]; omega), rfl⟩
  · rw [isEl_num hk]
    have hk' : (k == 2) = false := by simpa using hk
    rcases Int.lt_or_le n (-4611686018427387903) with h | h
    · go_enter Try.func83, Try.ntmps83
      go_wp2
      go_ret
      exact ⟨ret_bool (by simp [numB]; omega), rfl⟩
    · rcases Int.lt_or_le 4611686018427387903 n with h2 | h2
      · go_enter Try.func83, Try.ntmps83
        go_wp2
        go_ret
        exact ⟨ret_bool (by simp [numB]; omega), rfl⟩
      · go_enter Try.func83, Try.ntmps83
        go_wp2
        go_ret
        exact ⟨ret_bool (by simp [numB]; omega), rfl⟩

/-- The size of a shape that has no error. -/
def shN (xs : List Int) : Int := if dimsE xs = 0 then pr xs else 0
theorem shN_bad {xs : List Int} (h : dimsE xs ≠ 0) : shN xs = 0 := by rw [shN, if_neg h]
theorem shN_ok {xs : List Int} (h : dimsE xs = 0) : shN xs = pr xs := by rw [shN, if_pos h]
theorem sizeS_ok {xs : List Int} (h : dimsE xs = 0) : sizeS xs = pr xs := by rw [sizeS, if_pos ((dimsE_right xs).1 h)]
theorem sizeS_bad {xs : List Int} (h : dimsE xs ≠ 0) : sizeS xs = -1 := by rw [sizeS, if_neg (fun g => h ((dimsE_right xs).2 g))]
theorem pr_le {xs : List Int} (h : NN xs) : pr xs ≤ nz xs := by
  induction xs with
  | nil => exact Int.le_refl _
  | cons x r ih =>
    rw [pr, nz]
    have h1 := h.head
    have h2 := nz_pos h.tail
    by_cases c : x = 0
    · rw [if_pos c, c, Int.zero_mul]; omega
    · rw [if_neg c]; exact Int.mul_le_mul_of_nonneg_left (ih h.tail) h1
theorem dims_small {xs : List Int} (h : dimsE xs = 0) : 0 ≤ pr xs ∧ pr xs ≤ 65536 := by
  have hr := right_def.1 ((dimsE_right xs).1 h)
  exact ⟨pr_nn hr.2.1, Int.le_trans (pr_le hr.2.1) hr.2.2⟩
theorem ret_two {a b x y : Int} (h : x = a) (g : y = b) : Ending.returned (.tuple #[.int .i64 a, .int .i64 b]) = .returned (.tuple #[.int .i64 x, .int .i64 y]) := by rw [h, g]

set_option maxHeartbeats 1000000 in
theorem checkShapeQ (a : Option Addr) (cap : Nat) (xs : List Int) (w : World) (h : IntsAt w a cap xs) :
    Calls Try.prog 82 #[.slice a xs.length cap] w fun e w' => e = .returned (.tuple #[.int .i64 (shN xs), .int .i64 (dimsE xs)]) ∧ w = w' := by
  have hl := h.len
  by_cases h8 : 8 < xs.length
  · have HE : Hid (dimsE xs = 15) := dimsE_long h8
    have HN : Hid (shN xs = 0) := shN_bad (by rw [dimsE_long h8]; decide)
    go_enter Try.func82, Try.ntmps82
    go_wp2
    go_ret2
    exact ⟨ret_two HN.out HE.out, rfl⟩
  · go_enter Try.func82, Try.ntmps82
    go_wp2
    go_loop [12] (fun i => ∃ k : Nat, k ≤ xs.length ∧ i = .int .i64 k ∧ NN (xs.take k)) (fun i => xs.length - (intOf i).toNat)
    case atStart => exact ⟨0, Nat.zero_le _, rfl, NN.nil⟩
    case round =>
      obtain ⟨k, hk, rfl, hn⟩ := hrel
      by_cases hlt : k < xs.length
      · obtain ⟨b, off, hi, hc⟩ := h.at hlt
        by_cases c1 : xs[k] < 0
        · have HD : Hid (dimsE xs = 16) := dimsE_neg h8 (fun g => by have := g _ (List.getElem_mem hlt); omega)
          have HN : Hid (shN xs = 0) := shN_bad (by rw [HD.out]; decide)
          go_wp2
          go_ret2
          exact ⟨ret_two HN.out HD.out, rfl⟩
        · have hn2 : NN (xs.take (k + 1)) := by rw [take_snoc xs k hlt]; exact hn.snoc (by omega)
          go_wp2
          go_round
          case rel => exact ⟨k + 1, by omega, by go_num, hn2⟩
          case measure => simp [intOf]; omega
      · obtain rfl : k = xs.length := by omega
        rw [List.take_length] at hn
        have C := shSizeP a cap xs w h
        by_cases c2 : nz xs ≤ 65536
        · have HE : Hid (dimsE xs = 0) := dimsE_ok h8 hn c2
          have HN : Hid (shN xs = pr xs) := shN_ok HE.out
          have hp := (dims_small HE.out).1
          rw [sizeS_ok HE.out] at C
          clear hn c2
          go_wp2_with (go_at_call 49; refine C.mono ?_; rintro e w' ⟨rfl, rfl⟩)
          go_ret2
          exact ⟨ret_two HN.out HE.out, rfl⟩
        · have HE : Hid (dimsE xs = 21) := dimsE_big h8 hn c2
          have HN : Hid (shN xs = 0) := shN_bad (by rw [HE.out]; decide)
          rw [sizeS_bad (by rw [HE.out]; decide)] at C
          clear hn c2
          go_wp2_with (go_at_call 49; refine C.mono ?_; rintro e w' ⟨rfl, rfl⟩)
          go_ret2
          exact ⟨ret_two HN.out HE.out, rfl⟩

/-- The first error apart from the items. -/
def partsE : Arr → Int
  | .mk k sh nu it => if k < 1 ∨ 3 < k then 14 else if dimsE sh ≠ 0 then dimsE sh else if (aSize (.mk k sh nu it) : Int) ≠ pr sh ∨ 0 < other k nu it then 16 else if nu.all (elemB k) = false then 17 else 0
section
variable {k : Int} {sh nu : List Int} {it : List Arr}
theorem parts_kind (h : k < 1 ∨ 3 < k) : partsE (.mk k sh nu it) = 14 := by rw [partsE, if_pos h]
theorem parts_dims (h : ¬ (k < 1 ∨ 3 < k)) (hd : dimsE sh ≠ 0) : partsE (.mk k sh nu it) = dimsE sh := by rw [partsE, if_neg h, if_pos hd]
theorem parts_len (h : ¬ (k < 1 ∨ 3 < k)) (hd : dimsE sh = 0) (hl : (aSize (.mk k sh nu it) : Int) ≠ pr sh ∨ 0 < other k nu it) : partsE (.mk k sh nu it) = 16 := by
  rw [partsE, if_neg h, if_neg (by simpa using hd), if_pos hl]
theorem parts_elem (h : ¬ (k < 1 ∨ 3 < k)) (hd : dimsE sh = 0) (hl : ¬ ((aSize (.mk k sh nu it) : Int) ≠ pr sh ∨ 0 < other k nu it)) (he : nu.all (elemB k) = false) : partsE (.mk k sh nu it) = 17 := by
  rw [partsE, if_neg h, if_neg (by simpa using hd), if_neg hl, if_pos he]
theorem parts_ok (h : ¬ (k < 1 ∨ 3 < k)) (hd : dimsE sh = 0) (hl : ¬ ((aSize (.mk k sh nu it) : Int) ≠ pr sh ∨ 0 < other k nu it)) (he : nu.all (elemB k) = true) : partsE (.mk k sh nu it) = 0 := by
  rw [partsE, if_neg h, if_neg (by simpa using hd), if_neg hl, if_neg (by rw [he]; simp)]
end
theorem wrap_lens {p n : Nat} (h1 : p ≤ 65536) (h2 : n ≤ 9223372036854775807) : ∃ s : Int, IntKind.i64.wrap ((p : Int) + (n : Int)) = s ∧ (s = p ↔ n = 0) := by
  by_cases h : p + n ≤ 9223372036854775807
  · exact ⟨(p : Int) + n, by rw [IntKind.wrap_i64]; omega, by omega⟩
  · refine ⟨(p : Int) + n - 18446744073709551616, ?_, by omega⟩
    rw [IntKind.wrap_i64]; omega
theorem wrap_lens' {p n : Nat} (h1 : p ≤ 65536) (h2 : n ≤ 9223372036854775807) : ∃ s : Int, IntKind.i64.wrap ((n : Int) + (p : Int)) = s ∧ (s = p ↔ n = 0) := by
  rw [Int.add_comm]; exact wrap_lens h1 h2

set_option maxHeartbeats 400000 in
theorem partsQ_kind (v : Value) (k : Int) (sh nu : List Int) (it : List Arr) (w : World) (h : ArrAt w v (.mk k sh nu it)) (hk' : k < 1 ∨ 3 < k) :
    Calls Try.prog 60 #[v] w fun e w' => e = .returned (.int .i64 (partsE (.mk k sh nu it))) ∧ Below w.heap.size w w' := by
  rw [parts_kind hk']
  rw [ArrAt] at h
  obtain ⟨sa, sc, na, nc, ia, ic, rfl, hk, hs, hnn, h1, h2, b, off, ha, hc⟩ := h
  have e1 : (k != 1) = true := by simp; omega
  have e2 : (k != 2) = true := by simp; omega
  have e3 : (k != 3) = true := by simp; omega
  clear hk' hk hs hnn h1 h2 ha hc
  go_enter Try.func60, Try.ntmps60
  go_wp2_with fail
  go_ret
  exact ⟨rfl, below_new _ _⟩

set_option maxHeartbeats 2000000 in
set_option maxRecDepth 100000 in
theorem partsQ_1 (v : Value) (sh nu : List Int) (it : List Arr) (w : World) (h : ArrAt w v (.mk 1 sh nu it)) :
    Calls Try.prog 60 #[v] w fun e w' => e = .returned (.int .i64 (partsE (.mk 1 sh nu it))) ∧ Below w.heap.size w w' := by
  have hA := h
  rw [ArrAt] at h
  obtain ⟨sa, sc, na, nc, ia, ic, rfl, hk, hs, hnn, h1, h2, b, off, ha, hc⟩ := h
  have hA1 := hA.below (below_new w (.cells #[.int .i64 1, .slice sa sh.length sc, .slice na nu.length nc, .slice ia it.length ic] 26))
  have hs1 := hs.below (below_new w (.cells #[.int .i64 1, .slice sa sh.length sc, .slice na nu.length nc, .slice ia it.length ic] 26))
  have hP1 := Par.new w (.int .i64 1) (.slice sa sh.length sc) (.slice na nu.length nc) (.slice ia it.length ic) 26
  have hnl := hnn.len
  have hil : it.length ≤ 9223372036854775807 := by omega
  have C := checkShapeQ _ _ _ _ hs1
  have hz : ((aSize (.mk 1 sh nu it) : Nat) : Int) = nu.length := rfl
  have S := fun w' (g : ArrAt w' (.agg #[.int .i64 1, .slice sa sh.length sc, .slice na nu.length nc, .slice ia it.length ic]) (.mk 1 sh nu it)) => sizeQ _ _ w' g
  rw [hz] at S
  clear hk ha hc hs h1 h2
  by_cases hd : dimsE sh = 0
  · rw [shN_ok hd, hd] at C
    obtain ⟨p0, p1⟩ := dims_small hd
    by_cases c : (nu.length : Int) = pr sh
    · have c1 : ((nu.length : Int) != pr sh) = false := by rw [c]; simp
      obtain ⟨s, hs', hs2⟩ := wrap_lens (p := nu.length) (n := it.length) (by omega) hil
      by_cases co : it.length = 0
      · have c2 : (s != pr sh) = false := by rw [hs2.2 co, c]; simp
        have HG : Hid (¬ ((aSize (.mk 1 sh nu it) : Int) ≠ pr sh ∨ 0 < other 1 nu it)) := by
          unfold Hid
          show ¬ ((nu.length : Int) ≠ pr sh ∨ 0 < it.length)
          omega
        have CO : Hid (it.length = 0) := co
        have HD : Hid (dimsE sh = 0) := hd
        clear hd c co hs2 hz
        go_enter Try.func60, Try.ntmps60
        go_wp2_with (first
          | (go_at_call 82; refine C.mono ?_; rintro e w' ⟨rfl, rfl⟩)
          | (go_at_call 61; refine (S _ hA1).mono ?_; rintro e w1 ⟨rfl, hb1⟩; obtain ⟨q0, q1, q2, q3, q4⟩ := hP1.below hb1))
        have hb := Below.then (below_new w _) hb1
        clear S C hA1 hs1 c1 c2
        go_loop [47] (fun i => ∃ j : Nat, j ≤ nu.length ∧ i = .int .i64 j ∧ (nu.take j).all (elemB 1) = true) (fun i => nu.length - (intOf i).toNat)
        case atStart => exact ⟨0, Nat.zero_le _, rfl, rfl⟩
        case round =>
          obtain ⟨j, hj, rfl, hall⟩ := hrel
          by_cases hlt : j < nu.length
          · obtain ⟨b1, o1, f1, v1⟩ := (hnn.below hb).at hlt
            by_cases ce : isEl 1 nu[j] = true
            · have HE2 : Hid ((nu.take (j + 1)).all (elemB 1) = true) := all_take hlt hall (by simpa [elemB, isEl] using ce)
              clear hall
              go_wp2_with (go_at_call 83; refine (isElQ _ _ _).mono ?_; rintro e w' ⟨rfl, rfl⟩)
              go_round
              case rel => exact ⟨j + 1, by omega, by go_num, HE2.out⟩
              case measure => simp [intOf]; omega
            · have ce' : isEl 1 nu[j] = false := by simpa using ce
              have HE2 : Hid (partsE (.mk 1 sh nu it) = 17) := by
                refine parts_elem (by omega) (Classical.byContradiction fun g => ?_) HG.out (all_bad hlt (by simpa [elemB, isEl] using ce'))
                exact g HD.out
              clear hall ce
              go_wp2_with (go_at_call 83; refine (isElQ _ _ _).mono ?_; rintro e w' ⟨rfl, rfl⟩)
              go_ret
              exact ⟨ret_int HE2.out.symm, hb⟩
          · obtain rfl : j = nu.length := by omega
            rw [List.take_length] at hall
            have HE2 : Hid (partsE (.mk 1 sh nu it) = 0) := parts_ok (by omega) HD.out HG.out hall
            clear hall
            go_wp2_with fail
            go_ret
            exact ⟨ret_int HE2.out.symm, hb⟩
      · have c2 : (s != pr sh) = true := by
          have : ¬ s = pr sh := fun e => co (hs2.1 (by omega))
          simpa using this
        have HE : Hid (partsE (.mk 1 sh nu it) = 16) := parts_len (by omega) hd (Or.inr (by show 0 < it.length; omega))
        clear hd c co hs2 hz
        go_enter Try.func60, Try.ntmps60
        go_wp2_with (first
          | (go_at_call 82; refine C.mono ?_; rintro e w' ⟨rfl, rfl⟩)
          | (go_at_call 61; refine (S _ hA1).mono ?_; rintro e w1 ⟨rfl, hb1⟩; obtain ⟨q0, q1, q2, q3, q4⟩ := hP1.below hb1))
        go_ret
        exact ⟨ret_int HE.out.symm, Below.then (below_new w _) hb1⟩
    · have c1 : ((nu.length : Int) != pr sh) = true := by simpa using c
      have HE : Hid (partsE (.mk 1 sh nu it) = 16) := parts_len (by omega) hd (Or.inl c)
      clear hd c hz
      go_enter Try.func60, Try.ntmps60
      go_wp2_with (first
        | (go_at_call 82; refine C.mono ?_; rintro e w' ⟨rfl, rfl⟩)
        | (go_at_call 61; refine (S _ hA1).mono ?_; rintro e w1 ⟨rfl, hb1⟩; obtain ⟨q0, q1, q2, q3, q4⟩ := hP1.below hb1))
      go_ret
      exact ⟨ret_int HE.out.symm, Below.then (below_new w _) hb1⟩
  · have HE : Hid (partsE (.mk 1 sh nu it) = dimsE sh) := parts_dims (by omega) hd
    have hd' : (dimsE sh != 0) = true := by simpa using hd
    clear hd hz
    go_enter Try.func60, Try.ntmps60
    go_wp2_with (first
      | (go_at_call 82; refine C.mono ?_; rintro e w' ⟨rfl, rfl⟩))
    go_ret
    exact ⟨ret_int HE.out.symm, below_new _ _⟩

set_option maxHeartbeats 2000000 in
set_option maxRecDepth 100000 in
theorem partsQ_2 (v : Value) (sh nu : List Int) (it : List Arr) (w : World) (h : ArrAt w v (.mk 2 sh nu it)) :
    Calls Try.prog 60 #[v] w fun e w' => e = .returned (.int .i64 (partsE (.mk 2 sh nu it))) ∧ Below w.heap.size w w' := by
  have hA := h
  rw [ArrAt] at h
  obtain ⟨sa, sc, na, nc, ia, ic, rfl, hk, hs, hnn, h1, h2, b, off, ha, hc⟩ := h
  have hA1 := hA.below (below_new w (.cells #[.int .i64 2, .slice sa sh.length sc, .slice na nu.length nc, .slice ia it.length ic] 26))
  have hs1 := hs.below (below_new w (.cells #[.int .i64 2, .slice sa sh.length sc, .slice na nu.length nc, .slice ia it.length ic] 26))
  have hP1 := Par.new w (.int .i64 2) (.slice sa sh.length sc) (.slice na nu.length nc) (.slice ia it.length ic) 26
  have hnl := hnn.len
  have hil : it.length ≤ 9223372036854775807 := by omega
  have C := checkShapeQ _ _ _ _ hs1
  have hz : ((aSize (.mk 2 sh nu it) : Nat) : Int) = nu.length := rfl
  have S := fun w' (g : ArrAt w' (.agg #[.int .i64 2, .slice sa sh.length sc, .slice na nu.length nc, .slice ia it.length ic]) (.mk 2 sh nu it)) => sizeQ _ _ w' g
  rw [hz] at S
  clear hk ha hc hs h1 h2
  by_cases hd : dimsE sh = 0
  · rw [shN_ok hd, hd] at C
    obtain ⟨p0, p1⟩ := dims_small hd
    by_cases c : (nu.length : Int) = pr sh
    · have c1 : ((nu.length : Int) != pr sh) = false := by rw [c]; simp
      obtain ⟨s, hs', hs2⟩ := wrap_lens (p := nu.length) (n := it.length) (by omega) hil
      by_cases co : it.length = 0
      · have c2 : (s != pr sh) = false := by rw [hs2.2 co, c]; simp
        have HG : Hid (¬ ((aSize (.mk 2 sh nu it) : Int) ≠ pr sh ∨ 0 < other 2 nu it)) := by
          unfold Hid
          show ¬ ((nu.length : Int) ≠ pr sh ∨ 0 < it.length)
          omega
        have CO : Hid (it.length = 0) := co
        have HD : Hid (dimsE sh = 0) := hd
        clear hd c co hs2 hz
        go_enter Try.func60, Try.ntmps60
        go_wp2_with (first
          | (go_at_call 82; refine C.mono ?_; rintro e w' ⟨rfl, rfl⟩)
          | (go_at_call 61; refine (S _ hA1).mono ?_; rintro e w1 ⟨rfl, hb1⟩; obtain ⟨q0, q1, q2, q3, q4⟩ := hP1.below hb1))
        have hb := Below.then (below_new w _) hb1
        clear S C hA1 hs1 c1 c2
        go_loop [47] (fun i => ∃ j : Nat, j ≤ nu.length ∧ i = .int .i64 j ∧ (nu.take j).all (elemB 2) = true) (fun i => nu.length - (intOf i).toNat)
        case atStart => exact ⟨0, Nat.zero_le _, rfl, rfl⟩
        case round =>
          obtain ⟨j, hj, rfl, hall⟩ := hrel
          by_cases hlt : j < nu.length
          · obtain ⟨b1, o1, f1, v1⟩ := (hnn.below hb).at hlt
            by_cases ce : isEl 2 nu[j] = true
            · have HE2 : Hid ((nu.take (j + 1)).all (elemB 2) = true) := all_take hlt hall (by simpa [elemB, isEl] using ce)
              clear hall
              go_wp2_with (go_at_call 83; refine (isElQ _ _ _).mono ?_; rintro e w' ⟨rfl, rfl⟩)
              go_round
              case rel => exact ⟨j + 1, by omega, by go_num, HE2.out⟩
              case measure => simp [intOf]; omega
            · have ce' : isEl 2 nu[j] = false := by simpa using ce
              have HE2 : Hid (partsE (.mk 2 sh nu it) = 17) := by
                refine parts_elem (by omega) (Classical.byContradiction fun g => ?_) HG.out (all_bad hlt (by simpa [elemB, isEl] using ce'))
                exact g HD.out
              clear hall ce
              go_wp2_with (go_at_call 83; refine (isElQ _ _ _).mono ?_; rintro e w' ⟨rfl, rfl⟩)
              go_ret
              exact ⟨ret_int HE2.out.symm, hb⟩
          · obtain rfl : j = nu.length := by omega
            rw [List.take_length] at hall
            have HE2 : Hid (partsE (.mk 2 sh nu it) = 0) := parts_ok (by omega) HD.out HG.out hall
            clear hall
            go_wp2_with fail
            go_ret
            exact ⟨ret_int HE2.out.symm, hb⟩
      · have c2 : (s != pr sh) = true := by
          have : ¬ s = pr sh := fun e => co (hs2.1 (by omega))
          simpa using this
        have HE : Hid (partsE (.mk 2 sh nu it) = 16) := parts_len (by omega) hd (Or.inr (by show 0 < it.length; omega))
        clear hd c co hs2 hz
        go_enter Try.func60, Try.ntmps60
        go_wp2_with (first
          | (go_at_call 82; refine C.mono ?_; rintro e w' ⟨rfl, rfl⟩)
          | (go_at_call 61; refine (S _ hA1).mono ?_; rintro e w1 ⟨rfl, hb1⟩; obtain ⟨q0, q1, q2, q3, q4⟩ := hP1.below hb1))
        go_ret
        exact ⟨ret_int HE.out.symm, Below.then (below_new w _) hb1⟩
    · have c1 : ((nu.length : Int) != pr sh) = true := by simpa using c
      have HE : Hid (partsE (.mk 2 sh nu it) = 16) := parts_len (by omega) hd (Or.inl c)
      clear hd c hz
      go_enter Try.func60, Try.ntmps60
      go_wp2_with (first
        | (go_at_call 82; refine C.mono ?_; rintro e w' ⟨rfl, rfl⟩)
        | (go_at_call 61; refine (S _ hA1).mono ?_; rintro e w1 ⟨rfl, hb1⟩; obtain ⟨q0, q1, q2, q3, q4⟩ := hP1.below hb1))
      go_ret
      exact ⟨ret_int HE.out.symm, Below.then (below_new w _) hb1⟩
  · have HE : Hid (partsE (.mk 2 sh nu it) = dimsE sh) := parts_dims (by omega) hd
    have hd' : (dimsE sh != 0) = true := by simpa using hd
    clear hd hz
    go_enter Try.func60, Try.ntmps60
    go_wp2_with (first
      | (go_at_call 82; refine C.mono ?_; rintro e w' ⟨rfl, rfl⟩))
    go_ret
    exact ⟨ret_int HE.out.symm, below_new _ _⟩

set_option maxHeartbeats 2000000 in
set_option maxRecDepth 100000 in
theorem partsQ_3 (v : Value) (sh nu : List Int) (it : List Arr) (w : World) (h : ArrAt w v (.mk 3 sh nu it)) :
    Calls Try.prog 60 #[v] w fun e w' => e = .returned (.int .i64 (partsE (.mk 3 sh nu it))) ∧ Below w.heap.size w w' := by
  have hA := h
  rw [ArrAt] at h
  obtain ⟨sa, sc, na, nc, ia, ic, rfl, hk, hs, hnn, h1, h2, b, off, ha, hc⟩ := h
  have hA1 := hA.below (below_new w (.cells #[.int .i64 3, .slice sa sh.length sc, .slice na nu.length nc, .slice ia it.length ic] 26))
  have hs1 := hs.below (below_new w (.cells #[.int .i64 3, .slice sa sh.length sc, .slice na nu.length nc, .slice ia it.length ic] 26))
  have hP1 := Par.new w (.int .i64 3) (.slice sa sh.length sc) (.slice na nu.length nc) (.slice ia it.length ic) 26
  have hnl := hnn.len
  have hil : it.length ≤ 9223372036854775807 := by omega
  have C := checkShapeQ _ _ _ _ hs1
  have hz : ((aSize (.mk 3 sh nu it) : Nat) : Int) = it.length := rfl
  have S := fun w' (g : ArrAt w' (.agg #[.int .i64 3, .slice sa sh.length sc, .slice na nu.length nc, .slice ia it.length ic]) (.mk 3 sh nu it)) => sizeQ _ _ w' g
  rw [hz] at S
  clear hk ha hc hs h1 h2
  by_cases hd : dimsE sh = 0
  · rw [shN_ok hd, hd] at C
    obtain ⟨p0, p1⟩ := dims_small hd
    by_cases c : (it.length : Int) = pr sh
    · have c1 : ((it.length : Int) != pr sh) = false := by rw [c]; simp
      obtain ⟨s, hs', hs2⟩ := wrap_lens' (p := it.length) (n := nu.length) (by omega) hnl
      by_cases co : nu.length = 0
      · have c2 : (s != pr sh) = false := by rw [hs2.2 co, c]; simp
        have HG : Hid (¬ ((aSize (.mk 3 sh nu it) : Int) ≠ pr sh ∨ 0 < other 3 nu it)) := by
          unfold Hid
          show ¬ ((it.length : Int) ≠ pr sh ∨ 0 < nu.length)
          omega
        have CO : Hid (nu.length = 0) := co
        have HD : Hid (dimsE sh = 0) := hd
        clear hd c co hs2 hz
        go_enter Try.func60, Try.ntmps60
        go_wp2_with (first
          | (go_at_call 82; refine C.mono ?_; rintro e w' ⟨rfl, rfl⟩)
          | (go_at_call 61; refine (S _ hA1).mono ?_; rintro e w1 ⟨rfl, hb1⟩; obtain ⟨q0, q1, q2, q3, q4⟩ := hP1.below hb1))
        have hb := Below.then (below_new w _) hb1
        clear S C hA1 hs1 c1 c2
        have HE2 : Hid (partsE (.mk 3 sh nu it) = 0) := parts_ok (by omega) HD.out HG.out (by rw [List.eq_nil_of_length_eq_zero CO.out]; rfl)
        have hn0 : ¬ (0 < (nu.length : Int)) := by have := CO.out; omega
        refine wp_loop_rounds 1 ?_
        rw [rounds_succ]
        go_wp2_with fail
        go_ret
        exact ⟨ret_int HE2.out.symm, hb⟩
      · have c2 : (s != pr sh) = true := by
          have : ¬ s = pr sh := fun e => co (hs2.1 (by omega))
          simpa using this
        have HE : Hid (partsE (.mk 3 sh nu it) = 16) := parts_len (by omega) hd (Or.inr (by show 0 < nu.length; omega))
        clear hd c co hs2 hz
        go_enter Try.func60, Try.ntmps60
        go_wp2_with (first
          | (go_at_call 82; refine C.mono ?_; rintro e w' ⟨rfl, rfl⟩)
          | (go_at_call 61; refine (S _ hA1).mono ?_; rintro e w1 ⟨rfl, hb1⟩; obtain ⟨q0, q1, q2, q3, q4⟩ := hP1.below hb1))
        go_ret
        exact ⟨ret_int HE.out.symm, Below.then (below_new w _) hb1⟩
    · have c1 : ((it.length : Int) != pr sh) = true := by simpa using c
      have HE : Hid (partsE (.mk 3 sh nu it) = 16) := parts_len (by omega) hd (Or.inl c)
      clear hd c hz
      go_enter Try.func60, Try.ntmps60
      go_wp2_with (first
        | (go_at_call 82; refine C.mono ?_; rintro e w' ⟨rfl, rfl⟩)
        | (go_at_call 61; refine (S _ hA1).mono ?_; rintro e w1 ⟨rfl, hb1⟩; obtain ⟨q0, q1, q2, q3, q4⟩ := hP1.below hb1))
      go_ret
      exact ⟨ret_int HE.out.symm, Below.then (below_new w _) hb1⟩
  · have HE : Hid (partsE (.mk 3 sh nu it) = dimsE sh) := parts_dims (by omega) hd
    have hd' : (dimsE sh != 0) = true := by simpa using hd
    clear hd hz
    go_enter Try.func60, Try.ntmps60
    go_wp2_with (first
      | (go_at_call 82; refine C.mono ?_; rintro e w' ⟨rfl, rfl⟩))
    go_ret
    exact ⟨ret_int HE.out.symm, below_new _ _⟩

theorem partsQ (v : Value) (A : Arr) (w : World) (h : ArrAt w v A) : Calls Try.prog 60 #[v] w fun e w' => e = .returned (.int .i64 (partsE A)) ∧ Below w.heap.size w w' := by
  obtain ⟨k, sh, nu, it⟩ := A
  by_cases hk : k < 1 ∨ 3 < k
  · exact partsQ_kind v k sh nu it w h hk
  · obtain rfl | rfl | rfl : k = 1 ∨ k = 2 ∨ k = 3 := by omega
    · exact partsQ_1 v sh nu it w h
    · exact partsQ_2 v sh nu it w h
    · exact partsQ_3 v sh nu it w h
end Go.Proofs.Ytkjbccodahleoaa.Shape

namespace Go.Proofs.Ytkjbccodahleoaa.Shape
open Go.RowKit

theorem pair_mk {p : Int × Int} {x y : Int} (h : p = (x, y)) : Ending.returned (.tuple #[.int .i64 x, .int .i64 y]) = .returned (.tuple #[.int .i64 p.1, .int .i64 p.2]) := by rw [h]
def rowS (xs : List Int) (f : Int) : Int × Int := if rightB xs = true ∧ 0 ≤ f ∧ f ≤ xs.length then (pr (xs.take f.toNat), pr (xs.drop f.toNat)) else (0, 0)
theorem rowS_no {xs : List Int} {f : Int} (h : ¬ (rightB xs = true ∧ 0 ≤ f ∧ f ≤ xs.length)) : rowS xs f = (0, 0) := by rw [rowS, if_neg h]
theorem rowS_yes {xs : List Int} {k : Nat} (h : rightB xs = true) (hk : k ≤ xs.length) : rowS xs k = (pr (xs.take k), pr (xs.drop k)) := by
  rw [rowS, if_pos ⟨h, by omega, by omega⟩]; rfl

/-- The numbers from place 'from' on, as far as place k. -/
theorem mid_snoc (xs : List Int) (f k : Nat) (hf : f ≤ k) (hk : k < xs.length) : (xs.take (k + 1)).drop f = (xs.take k).drop f ++ [xs[k]] := by
  rw [take_snoc xs k hk, List.drop_append_of_le_length (by simp; omega)]
theorem mid_part (xs : List Int) (f k : Nat) (h : rightB xs = true) : NN ((xs.take k).drop f) ∧ nz ((xs.take k).drop f) ≤ 65536 := by
  obtain ⟨_, h2, h3⟩ := right_def.1 h
  have e : xs.take k ++ xs.drop k = xs := List.take_append_drop _ _
  have e2 : (xs.take k).take f ++ (xs.take k).drop f = xs.take k := List.take_append_drop _ _
  have h4 : NN (xs.take k) := by rw [← e] at h2; exact h2.left
  have h5 : nz (xs.take k) ≤ nz xs := by
    have := nz_left (a := xs.take k) (b := xs.drop k) (by rw [e]; exact h2)
    rwa [e] at this
  have h6 : NN ((xs.take k).drop f) := by rw [← e2] at h4; exact h4.right
  have h7 : nz ((xs.take k).drop f) ≤ nz (xs.take k) := by
    have := nz_right (a := (xs.take k).take f) (b := (xs.take k).drop f) (by rw [e2]; exact h4)
    rwa [e2] at this
  exact ⟨h6, by omega⟩

set_option maxHeartbeats 400000 in
theorem productR (a : Option Addr) (cap : Nat) (xs : List Int) (f t : Nat) (w : World) (h : IntsAt w a cap xs) (hr : rightB xs = true) (hf : f ≤ t) (ht : t ≤ xs.length) :
    Calls Try.prog 65 #[.slice a xs.length cap, .int .i64 f, .int .i64 t] w fun e w' => e = .returned (.int .i64 (pr ((xs.take t).drop f))) ∧ w = w' := by
  have hl := h.len
  go_enter Try.func65, Try.ntmps65
  go_wp2
  go_loop [7, 8] (fun p i => ∃ k : Nat, f ≤ k ∧ k ≤ t ∧ i = .int .i64 k ∧ p = .int .i64 (pr ((xs.take k).drop f)) ∧ ∀ x ∈ (xs.take k).drop f, x ≠ 0) (fun _ i => t - (intOf i).toNat)
  case atStart => exact ⟨f, Nat.le_refl _, hf, rfl, by rw [List.drop_eq_nil_of_le (by simp; omega)]; rfl, by rw [List.drop_eq_nil_of_le (by simp; omega)]; simp⟩
  case round =>
    obtain ⟨k, hk1, hk2, rfl, rfl, hz⟩ := hrel
    by_cases hlt : k < t
    · have hkl : k < xs.length := by omega
      obtain ⟨b, off, hi, hc⟩ := h.at hkl
      have hm := mid_snoc xs f k hk1 hkl
      have hp := mid_part xs f (k + 1) hr
      by_cases h0 : xs[k] = 0
      · have h0' : (xs[k] == 0) = true := by simpa using h0
        have e : pr ((xs.take t).drop f) = 0 := by
          have e1 : (xs.take t).drop f = (xs.take (k + 1)).drop f ++ (xs.take t).drop (k + 1) := by
            have : xs.take (k + 1) = (xs.take t).take (k + 1) := by rw [List.take_take, Nat.min_eq_left (by omega)]
            rw [this]
            conv => lhs; rw [← List.take_append_drop (k + 1) (xs.take t)]
            rw [List.drop_append_of_le_length (by simp; omega)]
          rw [e1, pr_append, hm, pr_append, h0]; simp [pr]
        clear hm hp h0 hz
        go_wp2
        go_ret
        first | exact ⟨rfl, rfl⟩ | exact ⟨ret_int e.symm, rfl⟩
      · have h0' : (xs[k] == 0) = false := by simpa using h0
        have hz2 : ∀ x ∈ (xs.take (k + 1)).drop f, x ≠ 0 := by
          rw [hm]; intro x hx
          rcases List.mem_append.1 hx with h1 | h1
          · exact hz x h1
          · rw [List.mem_singleton.1 h1]; exact h0
        have e2 : pr ((xs.take (k + 1)).drop f) = pr ((xs.take k).drop f) * xs[k] := by rw [hm, pr_append, pr, pr, Int.mul_one]
        have b1 := pr_eq_nz hz2
        have b2 := pr_nn hp.1
        have b3 : 0 ≤ pr ((xs.take k).drop f) * xs[k] ∧ pr ((xs.take k).drop f) * xs[k] ≤ 65536 := by rw [← e2]; have := hp.2; omega
        obtain ⟨b4, b5⟩ := b3
        clear hm hp h0 hz b1 b2
        go_wp2
        go_round
        case rel => exact ⟨k + 1, by omega, by omega, by go_num, by rw [e2], hz2⟩
        case measure => simp [intOf]; omega
    · obtain rfl : k = t := by omega
      go_wp2
      go_ret
      exact ⟨rfl, rfl⟩

theorem productR2 (a : Option Addr) (cap : Nat) (xs : List Int) (f t : Nat) (fi ti : Int) (e1 : fi = f) (e2 : ti = t) (w : World) (h : IntsAt w a cap xs) (hr : rightB xs = true) (hf : f ≤ t) (ht : t ≤ xs.length) :
    Calls Try.prog 65 #[.slice a xs.length cap, .int .i64 fi, .int .i64 ti] w fun e w' => e = .returned (.int .i64 (pr ((xs.take t).drop f))) ∧ w = w' := by
  subst e1; subst e2; exact productR a cap xs f t w h hr hf ht
set_option maxHeartbeats 1000000 in
theorem refRightR (a : Option Addr) (cap : Nat) (xs : List Int) (w : World) (h : IntsAt w a cap xs) :
    Calls Try.prog 44 #[.slice a xs.length cap] w fun e w' => e = .returned (.bool (rightB xs)) ∧ w = w' := by
  have hl := h.len
  by_cases h8 : 8 < xs.length
  · have em := right_len h8
    go_enter Try.func44, Try.ntmps44
    go_wp2
    go_ret
    first | exact ⟨rfl, rfl⟩ | exact ⟨ret_bool em.symm, rfl⟩
  · go_enter Try.func44, Try.ntmps44
    go_wp2
    go_loop [3, 4] (fun p i => ∃ k : Nat, k ≤ xs.length ∧ i = .int .i64 k ∧ p = .int .i64 (nz (xs.take k)) ∧ NN (xs.take k) ∧ nz (xs.take k) ≤ 65536) (fun _ i => xs.length - (intOf i).toNat)
    case atStart => exact ⟨0, Nat.zero_le _, rfl, rfl, NN.nil, by show (1 : Int) ≤ 65536; decide⟩
    case round =>
      obtain ⟨k, hk, rfl, rfl, hn, hp⟩ := hrel
      have hp1 := nz_pos hn
      by_cases hlt : k < xs.length
      · obtain ⟨b, off, hi, hc⟩ := h.at hlt
        have hs := nz_step hlt
        have ht := take_snoc xs k hlt
        by_cases c1 : xs[k] < 0
        · have em := right_neg hlt c1
          clear hs ht
          go_wp2
          go_ret
          first | exact ⟨rfl, rfl⟩ | exact ⟨ret_bool em.symm, rfl⟩
        · by_cases c2 : 65536 < xs[k]
          · have em := right_huge hlt c2
            clear hs ht
            go_wp2
            go_ret
            first | exact ⟨rfl, rfl⟩ | exact ⟨ret_bool em.symm, rfl⟩
          · have hn2 : NN (xs.take (k + 1)) := by rw [ht]; exact hn.snoc (by omega)
            by_cases c3 : xs[k] = 0
            · rw [if_pos c3, Int.mul_one] at hs
              have c3' : ¬ 0 < xs[k] := by omega
              have hp2 : nz (xs.take (k + 1)) ≤ 65536 := by omega
              have HS : Hid (nz (xs.take (k + 1)) = nz (xs.take k)) := hs
              clear hs ht c3
              go_wp2
              go_round
              case rel => exact ⟨k + 1, by omega, by go_num, by rw [HS.out], hn2, hp2⟩
              case measure => simp [intOf]; omega
            · rw [if_neg c3] at hs
              have c3' : 0 < xs[k] := by omega
              have hm : 0 ≤ nz (xs.take k) * xs[k] ∧ nz (xs.take k) * xs[k] ≤ 65536 * 65536 :=
                ⟨Int.mul_nonneg (by omega) (by omega), Int.mul_le_mul hp (by omega) (by omega) (by decide)⟩
              obtain ⟨m1, m2⟩ := hm
              have HS : Hid (nz (xs.take (k + 1)) = nz (xs.take k) * xs[k]) := hs
              by_cases c4 : 65536 < nz (xs.take k) * xs[k]
              · have em := right_big (xs := xs) (k := k) (by rw [hs]; exact c4)
                clear hs ht c3
                go_wp2
                go_ret
                first | exact ⟨rfl, rfl⟩ | exact ⟨ret_bool em.symm, rfl⟩
              · have hp2 : nz (xs.take (k + 1)) ≤ 65536 := by rw [hs]; omega
                clear hs ht c3
                go_wp2
                go_round
                case rel => exact ⟨k + 1, by omega, by go_num, by rw [HS.out], hn2, hp2⟩
                case measure => simp [intOf]; omega
      · obtain rfl : k = xs.length := by omega
        rw [List.take_length] at hn hp
        have em := right_all (by omega) hn hp
        go_wp2
        go_ret
        first | exact ⟨rfl, rfl⟩ | exact ⟨ret_bool em.symm, rfl⟩

theorem refSizeR (a : Option Addr) (cap : Nat) (xs : List Int) (w : World) (h : IntsAt w a cap xs) :
    Calls Try.prog 40 #[.slice a xs.length cap] w fun e w' => e = .returned (.int .i64 (sizeS xs)) ∧ w = w' := by
  have hl := h.len
  by_cases hr : rightB xs = true
  · have em : sizeS xs = pr xs := by rw [sizeS, if_pos hr]
    go_enter Try.func40, Try.ntmps40
    go_wp2_with (first | (go_at_call 44; refine (refRightR _ _ _ _ h).mono ?_; rintro e w' ⟨rfl, rfl⟩) | (go_at_call 65; refine (productR _ _ _ 0 xs.length _ h hr (Nat.zero_le _) (Nat.le_refl _)).mono ?_; rintro e w' ⟨rfl, rfl⟩))
    go_ret
    first | exact ⟨rfl, rfl⟩ | exact ⟨ret_int em.symm, rfl⟩
  · have hr' : rightB xs = false := by simpa using hr
    have em : sizeS xs = -1 := by rw [sizeS, if_neg hr]
    go_enter Try.func40, Try.ntmps40
    go_wp2_with (go_at_call 44; refine (refRightR _ _ _ _ h).mono ?_; rintro e w' ⟨rfl, rfl⟩)
    go_ret
    first | exact ⟨rfl, rfl⟩ | exact ⟨ret_int em.symm, rfl⟩

def cutAt (a : Option Addr) (cap : Nat) : Option Addr := if cap = 0 then a else a.map (·.add (0 * 1))
theorem IntsAt.cut {w : World} {a : Option Addr} {cap : Nat} {xs : List Int} (h : IntsAt w a cap xs) (k : Nat) (hk : k ≤ xs.length) :
    IntsAt w (cutAt a cap) cap (xs.take k) ∧ (∀ w', (Instr.slice 23 (.slice a xs.length cap) none (some (.int .i64 (k : Int))) none).run Try.prog w' = .ok (.slice (cutAt a cap) k cap) w') := by
  obtain ⟨h1, h2, h3, b, off, ha, hc⟩ := h
  have hlen : (xs.take k).length = k := by rw [List.length_take, Nat.min_eq_left hk]
  refine ⟨⟨by omega, h2, fun x hx => h3 x (List.mem_of_mem_take hx), b, off, fun hne => ?_, fun i hi => ?_⟩, fun w' => ?_⟩
  · have e := ha (fun e => hne (by rw [e]; simp))
    subst e
    unfold cutAt
    split
    · rfl
    · simp [Addr.add]
  · have hi' : i < xs.length := by omega
    rw [List.getElem_take]; exact hc i hi'
  · rw [run_slice_h w' 23 a xs.length cap elemInts .i64 k (by omega) (by omega), sizeInts]
    show Result.ok (sliced _ _ _ _ _) w' = _
    unfold sliced cutAt
    rw [show (k : Int).toNat = k by omega, Nat.sub_zero, Nat.sub_zero]

theorem shRightP (a : Option Addr) (cap : Nat) (xs : List Int) (w : World) (h : IntsAt w a cap xs) :
    Calls Try.prog 42 #[.slice a xs.length cap] w fun e w' => e = .returned (.bool (rightB xs)) ∧ w = w' := by
  have hl := h.len
  by_cases hr : rightB xs = true
  · have e1 : sizeS xs = pr xs := by rw [sizeS, if_pos hr]
    have e2 := part_bd (a := xs) (b := []) (by rw [List.append_nil]; exact hr)
    have e3 : 0 ≤ pr xs := e2.1
    clear e2
    have HS := shSizeP a cap xs w h
    rw [e1] at HS
    clear e1
    go_enter Try.func42, Try.ntmps42
    go_wp2_with (go_at_call 49; refine HS.mono ?_; rintro e w' ⟨rfl, rfl⟩)
    go_ret
    first | exact ⟨rfl, rfl⟩ | exact ⟨ret_bool hr.symm, rfl⟩
  · have hr' : rightB xs = false := by simpa using hr
    have e1 : sizeS xs = -1 := by rw [sizeS, if_neg hr]
    have HS := shSizeP a cap xs w h
    rw [e1] at HS
    clear e1 hr
    go_enter Try.func42, Try.ntmps42
    go_wp2_with (go_at_call 49; refine HS.mono ?_; rintro e w' ⟨rfl, rfl⟩)
    go_ret
    first | exact ⟨rfl, rfl⟩ | exact ⟨ret_bool hr'.symm, rfl⟩

/-- From the number k on, as a slice of the same array. -/
def fromAt (a : Option Addr) (cap k : Nat) : Option Addr := if cap = k then a else a.map (·.add (k * 1))
theorem IntsAt.from {w : World} {a : Option Addr} {cap : Nat} {xs : List Int} (h : IntsAt w a cap xs) (k : Nat) (hk : k ≤ xs.length) :
    IntsAt w (fromAt a cap k) (cap - k) (xs.drop k) ∧ (∀ w', (Instr.slice 23 (.slice a xs.length cap) (some (.int .i64 (k : Int))) none none).run Try.prog w' = .ok (.slice (fromAt a cap k) (xs.drop k).length (cap - k)) w') := by
  obtain ⟨h1, h2, h3, b, off, ha, hc⟩ := h
  have hlen : (xs.drop k).length = xs.length - k := by rw [List.length_drop]
  refine ⟨⟨by omega, by omega, fun x hx => h3 x (List.mem_of_mem_drop hx), b, off + k, fun hne => ?_, fun i hi => ?_⟩, fun w' => ?_⟩
  · have e := ha (fun e => hne (by rw [e]; simp))
    subst e
    have : xs.length ≠ k := fun e => hne (List.drop_eq_nil_of_le (by omega))
    unfold fromAt
    rw [if_neg (by omega)]
    simp [Addr.add]
  · have hi' : k + i < xs.length := by omega
    rw [List.getElem_drop, Nat.add_assoc]; exact hc (k + i) hi'
  · rw [run_slice_l w' 23 a xs.length cap elemInts .i64 k (by omega) (by omega), sizeInts, hlen]
    show Result.ok (sliced _ _ _ _ _) w' = _
    unfold sliced fromAt
    rw [show (k : Int).toNat = k by omega]
theorem right_take {xs : List Int} {k : Nat} (h : rightB xs = true) : rightB (xs.take k) = true := by
  obtain ⟨h1, h2, h3⟩ := right_def.1 h
  have e : xs.take k ++ xs.drop k = xs := List.take_append_drop _ _
  rw [← e] at h2 h3
  have := nz_left h2
  exact right_def.2 ⟨by rw [List.length_take]; omega, h2.left, by omega⟩
theorem right_drop {xs : List Int} {k : Nat} (h : rightB xs = true) : rightB (xs.drop k) = true := by
  obtain ⟨h1, h2, h3⟩ := right_def.1 h
  have e : xs.take k ++ xs.drop k = xs := List.take_append_drop _ _
  rw [← e] at h2 h3
  have := nz_right h2
  exact right_def.2 ⟨by rw [List.length_drop]; omega, h2.right, by omega⟩

set_option maxHeartbeats 1000000 in
theorem rowP (a : Option Addr) (cap : Nat) (xs : List Int) (f : Int) (w : World) (h : IntsAt w a cap xs) :
    Calls Try.prog 36 #[.slice a xs.length cap, .int .i64 f] w fun e w' => e = .returned (.tuple #[.int .i64 (rowS xs f).1, .int .i64 (rowS xs f).2]) ∧ ∃ n, w' = w.drewN n := by
  have hl := h.len
  by_cases hr : rightB xs = true
  · by_cases h0 : f < 0
    · have em := rowS_no (xs := xs) (f := f) (by omega)
      go_enter Try.func36, Try.ntmps36
      go_wp2_with (go_at_call 42; refine (shRightP _ _ _ _ h).mono ?_; rintro e w' ⟨rfl, rfl⟩)
      go_ret2
      exact ⟨by first | rfl | exact pair_mk em, 0, rfl⟩
    · by_cases h1 : (xs.length : Int) < f
      · have em := rowS_no (xs := xs) (f := f) (by omega)
        go_enter Try.func36, Try.ntmps36
        go_wp2_with (go_at_call 42; refine (shRightP _ _ _ _ h).mono ?_; rintro e w' ⟨rfl, rfl⟩)
        go_ret2
        exact ⟨by first | rfl | exact pair_mk em, 0, rfl⟩
      · obtain ⟨k, rfl⟩ : ∃ k : Nat, f = k := ⟨f.toNat, by omega⟩
        have hk : k ≤ xs.length := by omega
        have em := rowS_yes hr hk
        obtain ⟨i1, s1⟩ := h.cut k hk
        obtain ⟨i2, s2⟩ := h.from k hk
        have e0 : (xs.take k).length = k := by rw [List.length_take, Nat.min_eq_left hk]
        have c1 : ∀ n, _ := fun n => (shSizeP _ _ _ (w.drewN n) (i1.drewN n)).mono (fun e w' ⟨h1, h2⟩ => (⟨h1, 0, h2.symm⟩ : e = _ ∧ ∃ m, w' = (w.drewN n).drewN m))
        have c2 : ∀ n, _ := fun n => (shSizeP _ _ _ (w.drewN n) (i2.drewN n)).mono (fun e w' ⟨h1, h2⟩ => (⟨h1, 0, h2.symm⟩ : e = _ ∧ ∃ m, w' = (w.drewN n).drewN m))
        rw [e0, show sizeS (xs.take k) = pr (xs.take k) by rw [sizeS, if_pos (right_take hr)]] at c1
        rw [show sizeS (xs.drop k) = pr (xs.drop k) by rw [sizeS, if_pos (right_drop hr)]] at c2
        generalize (xs.drop k).length = n2 at c2 s2
        generalize pr (xs.take k) = P1 at c1 em
        generalize pr (xs.drop k) = P2 at c2 em
        clear i1 i2 e0
        go_enter Try.func36, Try.ntmps36
        go_wp2_with (go_at_call 42; refine (shRightP _ _ _ _ h).mono ?_; rintro e w' ⟨rfl, rfl⟩)
        go_quiet (first
          | (go_at_call 49; with_reducible exact Calls.quiet_of (c1 _))
          | (go_at_call 49; with_reducible exact Calls.quiet_of (c2 _)))
        go_wp2_with fail
        go_ret2
        exact ⟨by first | rfl | exact pair_mk em, nq, rfl⟩
  · have hr' : rightB xs = false := by simpa using hr
    have em := rowS_no (xs := xs) (f := f) (by simp [hr'])
    clear hr
    go_enter Try.func36, Try.ntmps36
    go_wp2_with (go_at_call 42; refine (shRightP _ _ _ _ h).mono ?_; rintro e w' ⟨rfl, rfl⟩)
    go_ret2
    exact ⟨by first | rfl | exact pair_mk em, 0, rfl⟩
end Go.Proofs.Ytkjbccodahleoaa.Shape
