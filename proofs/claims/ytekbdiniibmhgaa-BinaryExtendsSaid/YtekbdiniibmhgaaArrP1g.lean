/-
  Layer 3: the program's Size; shape's Size and Same; slices.Equal. (Written by wip/gen/array-p1.py.)
-/
import Derived.Test.YtekbdiniibmhgaaArrSameg
import Derived.WalkMore
namespace Go.Proofs.Ytekbdiniibmhgaa.Shape
open Go.RowKit

theorem sizeQ (v : Value) (A : Arr) (w : World) (h : ArrAt w v A) :
    Calls Try.prog 64 #[v] w fun e w' => e = .returned (.int .i64 (aSize A)) ∧ Below w.heap.size w w' := by
  obtain ⟨k, sh, nu, it⟩ := A
  rw [ArrAt] at h
  obtain ⟨sa, sc, na, nc, ia, ic, rfl, hk, hs, hn, h1, h2, b, off, ha, hc⟩ := h
  clear hk hs hn h1 h2 ha hc
  by_cases k1 : k = 1
  · subst k1
    go_enter Try.func64, Try.ntmps64
    go_wp2
    go_ret
    exact ⟨rfl, below_new _ _⟩
  · by_cases k2 : k = 2
    · subst k2
      go_enter Try.func64, Try.ntmps64
      go_wp2
      go_ret
      exact ⟨rfl, below_new _ _⟩
    · by_cases k3 : k = 3
      · subst k3
        go_enter Try.func64, Try.ntmps64
        go_wp2
        go_ret
        exact ⟨rfl, below_new _ _⟩
      · have e1 : (k == 1) = false := by simpa using k1
        have e2 : (k == 2) = false := by simpa using k2
        have e3 : (k == 3) = false := by simpa using k3
        have es : aSize (.mk k sh nu it) = 0 := by simp [aSize, Arr.kind, k1, k2, k3]
        clear k1 k2 k3
        go_enter Try.func64, Try.ntmps64
        go_wp2
        go_ret
        exact ⟨by first | rfl | (rw [es]; rfl), below_new _ _⟩

def sizeS (xs : List Int) : Int := if rightB xs = true then pr xs else -1
/-- Is there a dimension 0? -/
def hasZ (xs : List Int) : Bool := xs.any (fun x => decide (x = 0))
theorem hasZ_snoc (a : List Int) (x : Int) : hasZ (a ++ [x]) = (hasZ a || decide (x = 0)) := by simp [hasZ]
theorem pr_hasZ {xs : List Int} (h : hasZ xs = true) : pr xs = 0 := by
  induction xs with
  | nil => cases h
  | cons x r ih =>
    rw [pr]
    by_cases h0 : x = 0
    · rw [h0, Int.zero_mul]
    · rw [ih (by simpa [hasZ, h0] using h), Int.mul_zero]
theorem pr_noZ {xs : List Int} (h : hasZ xs = false) : pr xs = nz xs := by
  apply pr_eq_nz
  intro x hx e
  rw [hasZ, List.any_eq_false] at h
  exact absurd (by simpa using e) (h x hx)
theorem quo_gt {P d : Int} (h1 : 1 ≤ P) (_h2 : P ≤ 65536) : (65536 / P < d) ↔ 65536 < P * d := by
  rw [Int.ediv_lt_iff_lt_mul (by omega), Int.mul_comm d P]
  
set_option maxHeartbeats 1000000 in
theorem shSizeP (a : Option Addr) (cap : Nat) (xs : List Int) (w : World) (h : IntsAt w a cap xs) :
    Calls Try.prog 69 #[.slice a xs.length cap] w fun e w' => e = .returned (.int .i64 (sizeS xs)) ∧ w = w' := by
  have hl := h.len
  by_cases h8 : 8 < xs.length
  · have em : sizeS xs = -1 := by rw [sizeS, right_len h8]; rfl
    go_enter Try.func69, Try.ntmps69
    go_wp2
    go_ret
    first | exact ⟨rfl, rfl⟩ | exact ⟨ret_int em.symm, rfl⟩
  · go_enter Try.func69, Try.ntmps69
    go_wp2
    go_loop [3, 4, 12] (fun p z i => ∃ (k : Nat) (P : Int) (Z : Bool), k ≤ xs.length ∧ i = .int .i64 k ∧ p = .int .i64 P ∧ z = .bool Z ∧ P = nz (xs.take k) ∧ Z = hasZ (xs.take k) ∧ NN (xs.take k) ∧ P ≤ 65536) (fun _ _ i => xs.length - (intOf i).toNat)
    case atStart => exact ⟨0, 1, false, Nat.zero_le _, rfl, rfl, rfl, rfl, rfl, NN.nil, by decide⟩
    case round =>
      obtain ⟨k, P, Z, hk, rfl, rfl, rfl, eP, eZ, hn, hp⟩ := hrel
      have hp1 : 1 ≤ P := eP ▸ nz_pos hn
      by_cases hlt : k < xs.length
      · obtain ⟨b, off, hi, hc⟩ := h.at hlt
        have hs := nz_step hlt
        have ht := take_snoc xs k hlt
        by_cases c1 : xs[k] < 0
        · have em : sizeS xs = -1 := by rw [sizeS, right_neg hlt c1]; rfl
          clear hs ht eP eZ
          go_wp2
          go_ret
          first | exact ⟨rfl, rfl⟩ | exact ⟨ret_int em.symm, rfl⟩
        · have hn2 : NN (xs.take (k + 1)) := by rw [ht]; exact hn.snoc (by omega)
          have hz2 : hasZ (xs.take (k + 1)) = (hasZ (xs.take k) || decide (xs[k] = 0)) := by rw [ht, hasZ_snoc]
          by_cases c2 : xs[k] = 0
          · rw [if_pos c2, Int.mul_one] at hs
            have E1 : Hid (P = nz (xs.take (k + 1))) := by unfold Hid; rw [hs]; exact eP
            have E2 : Hid (true = hasZ (xs.take (k + 1))) := by unfold Hid; rw [hz2]; simp [c2]
            clear hs ht hz2 eP eZ
            go_wp2
            go_round
            case rel => exact ⟨k + 1, P, true, by omega, by go_num, rfl, rfl, E1.out, E2.out, hn2, hp⟩
            case measure => simp [intOf]; omega
          · rw [if_neg c2, ← eP] at hs
            have q1 := quo_gt (d := xs[k]) hp1 hp
            have q2 : Int.tdiv 65536 P = 65536 / P := Int.tdiv_eq_ediv_of_nonneg (by decide)
            have q3 : (65536 : Int) / P ≤ 65536 := Int.ediv_le_self P (by decide)
            have q4 : (0 : Int) ≤ 65536 / P := Int.ediv_nonneg (by decide) (by omega)
            have E2 : Hid (Z = hasZ (xs.take (k + 1))) := by unfold Hid; rw [hz2, eZ]; simp [c2]
            by_cases c4 : 65536 < P * xs[k]
            · have em : sizeS xs = -1 := by rw [sizeS, right_big (xs := xs) (k := k) (by rw [hs]; exact c4)]; rfl
              have c5 : 65536 / P < xs[k] := q1.2 c4
              clear hs ht hz2 eP eZ E2 q1
              go_wp2
              go_ret
              first | exact ⟨rfl, rfl⟩ | exact ⟨ret_int em.symm, rfl⟩
            · have c5 : ¬ 65536 / P < xs[k] := fun hh => c4 (q1.1 hh)
              have m0 : 0 ≤ P * xs[k] := Int.mul_nonneg (by omega) (by omega)
              have E1 : Hid (P * xs[k] = nz (xs.take (k + 1))) := hs.symm
              clear hs ht hz2 eP eZ q1
              go_wp2
              go_round
              case rel => exact ⟨k + 1, P * xs[k], Z, by omega, by go_num, by go_num, rfl, E1.out, E2.out, hn2, by omega⟩
              case measure => simp [intOf]; omega
      · obtain rfl : k = xs.length := by omega
        rw [List.take_length] at hn eP eZ
        have hr := right_all (by omega) hn (eP ▸ hp)
        have em : sizeS xs = if Z = true then 0 else P := by
          rw [sizeS, if_pos hr]
          cases Z with
          | true => exact pr_hasZ eZ.symm
          | false => rw [pr_noZ eZ.symm, ← eP]; rfl
        clear hr eP eZ
        cases Z with
        | true =>
          have em2 : sizeS xs = 0 := em
          clear em
          go_wp2
          go_ret
          first | exact ⟨rfl, rfl⟩ | exact ⟨ret_int em2.symm, rfl⟩
        | false =>
          have em2 : sizeS xs = P := em
          clear em
          go_wp2
          go_ret
          first | exact ⟨rfl, rfl⟩ | exact ⟨ret_int em2.symm, rfl⟩

def LonGive (b : Bool) (w : World) (e : Ending) (w' : World) : Prop := ∃ a n c, e = .returned (.tuple #[.slice a n c, .bool b]) ∧ Below w.heap.size w w'
theorem LonGive.yes {b : Bool} {w w' : World} {a : Option Addr} {n c : Nat} (hb : b = true) (hw : Below w.heap.size w w') : LonGive b w (.returned (.tuple #[.slice a n c, .bool true])) w' := ⟨a, n, c, by rw [hb], hw⟩
theorem LonGive.no {b : Bool} {w w' : World} {a : Option Addr} {n c : Nat} (hb : b = false) (hw : Below w.heap.size w w') : LonGive b w (.returned (.tuple #[.slice a n c, .bool false])) w' := ⟨a, n, c, by rw [hb], hw⟩
/-- Is ys a prefix of xs? -/
def preB (xs ys : List Int) : Bool := decide (ys.length ≤ xs.length ∧ ∀ j (h1 : j < xs.length) (h2 : j < ys.length), xs[j] = ys[j])
def lonB (xs ys : List Int) : Bool := preB xs ys || preB ys xs
def lonL (xs ys : List Int) : List Int := if preB xs ys = true then xs else if preB ys xs = true then ys else []
theorem pre_no_len {xs ys : List Int} (h : xs.length < ys.length) : preB xs ys = false := by
  simp only [preB, decide_eq_false_iff_not]; omega
theorem pre_no_at {xs ys : List Int} {k : Nat} (h1 : k < xs.length) (h2 : k < ys.length) (h : ¬ xs[k] = ys[k]) : preB xs ys = false := by
  simp only [preB, decide_eq_false_iff_not]
  exact fun hh => h (hh.2 k h1 h2)
theorem pre_yes {xs ys : List Int} (h : ys.length ≤ xs.length) (h2 : ∀ j (h1 : j < xs.length) (h2 : j < ys.length), xs[j] = ys[j]) : preB xs ys = true := by
  simp only [preB, decide_eq_true_eq]; exact ⟨h, h2⟩

/-- The two lists of round j, and what is known when they agree and when not. -/
theorem lon_pair (a : Option Addr) (cap : Nat) (xs : List Int) (a2 : Option Addr) (cap2 : Nat) (ys : List Int) (w : World) (h : IntsAt w a cap xs) (g : IntsAt w a2 cap2 ys) (j : Nat) (hj : j < 2)
    (h1 : 1 ≤ j → preB xs ys = false) :
    ∃ A1 C1 L1 A2 C2 L2, (∀ w' : World, (Instr.index 76 (.agg #[.slice a xs.length cap, .slice a2 ys.length cap2, .slice a2 ys.length cap2, .slice a xs.length cap]) (.int .i64 j)).run Try.prog w' = .ok (.agg #[.slice A1 (List.length L1) C1, .slice A2 (List.length L2) C2]) w') ∧
      IntsAt w A1 C1 L1 ∧ IntsAt w A2 C2 L2 ∧ (preB L1 L2 = true → lonL xs ys = L1 ∧ lonB xs ys = true) ∧ (preB L1 L2 = false → preB xs ys = false ∧ (2 ≤ j + 1 → preB ys xs = false)) := by
  match j, hj with
  | 0, _ => exact ⟨a, cap, xs, a2, cap2, ys, fun w' => by kernel_rfl, h, g, fun e => ⟨by rw [lonL, if_pos e], by rw [lonB, e]; rfl⟩, fun e => ⟨e, fun h => absurd h (by decide)⟩⟩
  | 1, _ =>
    have h0 := h1 (Nat.le_refl _)
    exact ⟨a2, cap2, ys, a, cap, xs, fun w' => by kernel_rfl, g, h, fun e => ⟨by rw [lonL, h0, e]; rfl, by rw [lonB, e]; simp⟩, fun e => ⟨h0, fun _ => e⟩⟩

set_option maxHeartbeats 400000 in
theorem longerP (a : Option Addr) (cap : Nat) (xs : List Int) (a2 : Option Addr) (cap2 : Nat) (ys : List Int) (w : World) (h : IntsAt w a cap xs) (g : IntsAt w a2 cap2 ys) :
    Calls Try.prog 66 #[.slice a xs.length cap, .slice a2 ys.length cap2] w (LonGive (lonB xs ys) w) := by
  have hl := h.len
  have hl2 := g.len
  go_enter Try.func66, Try.ntmps66
  go_wp2_with fail
  go_step3
  go_wp2_with fail
  go_step3
  go_wp2_with fail
  go_loopw [19] (fun i wr => ∃ j : Nat, j ≤ 2 ∧ i = .int .i64 j ∧ Below w.heap.size w wr ∧ (1 ≤ j → preB xs ys = false) ∧ (2 ≤ j → preB ys xs = false)) (fun i _ => 2 - (intOf i).toNat)
  case atStart => exact ⟨0, by decide, rfl, Below.refl _ _, fun h => absurd h (by decide), fun h => absurd h (by decide)⟩
  case round =>
    obtain ⟨j, hj, rfl, hbel, n1, n2⟩ := hrel
    by_cases hlt : j < 2
    · obtain ⟨A1, C1, L1, A2, C2, L2, hix, g1, g2, hyes, hno⟩ := lon_pair a cap xs a2 cap2 ys w h g j hlt n1
      clear n1 n2
      go_wp2_with fail
      have k0 : (wr.alloc (.cells #[.slice A1 L1.length C1, .slice A2 L2.length C2] 75)).cell? ⟨wr.heap.size, 0, none⟩ = some (.slice A1 L1.length C1) := by rw [World.cell?_alloc_new]; rfl
      have k1 : (wr.alloc (.cells #[.slice A1 L1.length C1, .slice A2 L2.length C2] 75)).cell? ⟨wr.heap.size, 1, none⟩ = some (.slice A2 L2.length C2) := by rw [World.cell?_alloc_new]; rfl
      have hb1 : Below w.heap.size w (wr.alloc (.cells #[.slice A1 L1.length C1, .slice A2 L2.length C2] 75)) := hbel.alloc hbel.size _
      generalize wr.alloc (.cells #[.slice A1 L1.length C1, .slice A2 L2.length C2] 75) = W1 at k0 k1 hb1 ⊢
      clear hix hbel
      go_quiet (fail)
      have hb2 : Below w.heap.size w (W1.drewN nq) := hb1.trans ((below_drewN nq).mono hb1.size)
      by_cases hll : L1.length < L2.length
      · obtain ⟨f1, f2⟩ := hno (pre_no_len hll)
        clear hyes hno
        go_wp2_with fail
        go_roundw
        case rel => exact ⟨j + 1, by omega, by go_num, hb2, fun _ => f1, f2⟩
        case measure => simp [intOf]; omega
      · have hl1 := g1.len
        have hl3 := g2.len
        have HY : Hid (preB L1 L2 = true → lonL xs ys = L1 ∧ lonB xs ys = true) := hyes
        have HN : Hid (preB L1 L2 = false → preB xs ys = false ∧ (2 ≤ j + 1 → preB ys xs = false)) := hno
        clear hyes hno k0 k1
        go_wp2_with fail
        go_loop [33] (fun i => ∃ k : Nat, k ≤ L2.length ∧ i = .int .i64 k ∧ ∀ m (h1 : m < L1.length) (h2 : m < L2.length), m < k → L1[m] = L2[m]) (fun i => L2.length - (intOf i).toNat)
        case atStart => exact ⟨0, Nat.zero_le _, rfl, fun m _ _ hm => absurd hm (Nat.not_lt_zero _)⟩
        case round =>
          obtain ⟨k, hk, rfl, he⟩ := hrel
          have HE : Hid (∀ m (h1 : m < L1.length) (h2 : m < L2.length), m < k → L1[m] = L2[m]) := he
          clear he
          by_cases hlk : k < L2.length
          · have hlk1 : k < L1.length := by omega
            obtain ⟨b, off, hi, hc⟩ := (g1.below hb2).at hlk1
            obtain ⟨b2, off2, hi2, hc2⟩ := (g2.below hb2).at hlk
            by_cases c1 : L1[k] = L2[k]
            · have c1' : (L1[k] != L2[k]) = false := by simpa using c1
              have HC : Hid (L1[k] = L2[k]) := c1
              clear c1
              go_wp2_with fail
              go_round
              case rel => exact ⟨k + 1, by omega, by go_num, fun m h1 h2 hm => by
                by_cases e : m = k
                · subst e; exact HC.out
                · exact HE.out m h1 h2 (by omega)⟩
              case measure => simp [intOf]; omega
            · obtain ⟨f1, f2⟩ := HN.out (pre_no_at hlk1 hlk c1)
              have c1' : (L1[k] != L2[k]) = true := by simpa using c1
              clear c1
              go_wp2_with fail
              refine ⟨⟨j + 1, by omega, by go_num, hb2, fun _ => f1, f2⟩, ?_⟩
              simp [intOf]; omega
          · have hp := HY.out (pre_yes (by omega) (fun m h1 h2 => HE.out m h1 h2 (by omega)))
            go_wp2_with fail
            go_ret2
            exact LonGive.yes (by first | rfl | exact hp.2) hb2
    · have f1 := n1 (by omega)
      have f2 := n2 (by omega)
      clear n1 n2
      go_wp2_with fail
      rw [Exit.noGoto_ret]
      go_ret2
      exact LonGive.no (by rw [lonB, f1, f2]; rfl) hbel

theorem lon_same {xs ys : List Int} (h : xs.length = ys.length) : lonB xs ys = sameB xs ys := by
  by_cases e : xs = ys
  · subst e
    rw [lonB, pre_yes (Nat.le_refl _) (fun _ _ _ => rfl)]; simp [sameB]
  · have key : ∀ {us vs : List Int}, us.length = vs.length → ¬ us = vs → preB us vs = false := by
      intro us vs hl hn
      simp only [preB, decide_eq_false_iff_not]
      exact fun hh => hn (List.ext_getElem hl (fun i h1 h2 => hh.2 i h1 h2))
    rw [lonB, key h e, key h.symm (fun h => e h.symm)]; simp [sameB, e]

/-! ### append([]int{}, xs...) -/


end Go.Proofs.Ytekbdiniibmhgaa.Shape
