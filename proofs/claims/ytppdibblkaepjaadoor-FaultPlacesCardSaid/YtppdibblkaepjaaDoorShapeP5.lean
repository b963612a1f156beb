/-
  Layer 2: the program's longer: which of two lists is a prefix of the other.
-/
import Derived.Test.YtppdibblkaepjaaDoorShapeP4
import Derived.WalkMore
namespace Go.Proofs.YtppdibblkaepjaaDoor.Shape
open Go.RowKit

/-- Is ys a prefix of xs? -/
def preB (xs ys : List Int) : Bool := decide (ys.length ≤ xs.length ∧ ∀ j (h1 : j < xs.length) (h2 : j < ys.length), xs[j] = ys[j])
def lonB (xs ys : List Int) : Bool := preB xs ys || preB ys xs
def lonL (xs ys : List Int) : List Int := if preB xs ys = true then xs else if preB ys xs = true then ys else []
theorem pre_no_len {xs ys : List Int} (h : xs.length < ys.length) : preB xs ys = false := by
  simp only [preB, decide_eq_false_iff_not]; omega
theorem pre_no_at {xs ys : List Int} {k : Nat} (h1 : k < xs.length) (h2 : k < ys.length) (h : ¬ xs[k] = ys[k]) : preB xs ys = false := by
  simp only [preB, decide_eq_false_iff_not]
  exact fun hh => h (hh.2 k h1 h2)
theorem pre_yes {xs ys : List Int} (h : ys.length ≤ xs.length) (h2 : ∀ j (h1 : j < xs.length) (h2 : j < ys.length), xs[j] = ys[j]) : preB xs ys = true := by
  simp only [preB, decide_eq_true_eq]; exact ⟨h, h2⟩

/-- The two lists of round j, and what is known when they agree and when not. -/
theorem lon_pair (a : Option Addr) (cap : Nat) (xs : List Int) (a2 : Option Addr) (cap2 : Nat) (ys : List Int) (w : World) (h : IntsAt w a cap xs) (g : IntsAt w a2 cap2 ys) (j : Nat) (hj : j < 2)
    (h1 : 1 ≤ j → preB xs ys = false) :
    ∃ A1 C1 L1 A2 C2 L2, (∀ w' : World, (Instr.index 52 (.agg #[.slice a xs.length cap, .slice a2 ys.length cap2, .slice a2 ys.length cap2, .slice a xs.length cap]) (.int .i64 j)).run Tryd.prog w' = .ok (.agg #[.slice A1 (List.length L1) C1, .slice A2 (List.length L2) C2]) w') ∧
      IntsAt w A1 C1 L1 ∧ IntsAt w A2 C2 L2 ∧ (preB L1 L2 = true → lonL xs ys = L1 ∧ lonB xs ys = true) ∧ (preB L1 L2 = false → preB xs ys = false ∧ (2 ≤ j + 1 → preB ys xs = false)) := by
  match j, hj with
  | 0, _ => exact ⟨a, cap, xs, a2, cap2, ys, fun w' => by kernel_rfl, h, g, fun e => ⟨by rw [lonL, if_pos e], by rw [lonB, e]; rfl⟩, fun e => ⟨e, fun h => absurd h (by decide)⟩⟩
  | 1, _ =>
    have h0 := h1 (Nat.le_refl _)
    exact ⟨a2, cap2, ys, a, cap, xs, fun w' => by kernel_rfl, g, h, fun e => ⟨by rw [lonL, h0, e]; rfl, by rw [lonB, e]; simp⟩, fun e => ⟨h0, fun _ => e⟩⟩

set_option maxHeartbeats 400000 in
theorem longerP (a : Option Addr) (cap : Nat) (xs : List Int) (a2 : Option Addr) (cap2 : Nat) (ys : List Int) (w : World) (h : IntsAt w a cap xs) (g : IntsAt w a2 cap2 ys) :
    Calls Tryd.prog 33 #[.slice a xs.length cap, .slice a2 ys.length cap2] w (SliceBool (lonL xs ys) (lonB xs ys) w) := by
  have hl := h.len
  have hl2 := g.len
  go_enter Tryd.func33, Tryd.ntmps33
  go_wp2_with fail
  go_step3
  go_wp2_with fail
  go_step3
  go_wp2_with fail
  go_loopw [19] (fun i wr => ∃ j : Nat, j ≤ 2 ∧ i = .int .i64 j ∧ Below w.heap.size w wr ∧ (1 ≤ j → preB xs ys = false) ∧ (2 ≤ j → preB ys xs = false)) (fun i _ => 2 - (intOf i).toNat)
  case atStart => exact ⟨0, by decide, rfl, Below.refl _ _, fun h => absurd h (by decide), fun h => absurd h (by decide)⟩
  case round =>
    obtain ⟨j, hj, rfl, hbel, n1, n2⟩ := hrel
    by_cases hlt : j < 2
    · obtain ⟨A1, C1, L1, A2, C2, L2, hix, g1, g2, hyes, hno⟩ := lon_pair a cap xs a2 cap2 ys w h g j hlt n1
      clear n1 n2
      go_wp2_with fail
      have k0 : (wr.alloc (.cells #[.slice A1 L1.length C1, .slice A2 L2.length C2] 51)).cell? ⟨wr.heap.size, 0, none⟩ = some (.slice A1 L1.length C1) := by rw [World.cell?_alloc_new]; rfl
      have k1 : (wr.alloc (.cells #[.slice A1 L1.length C1, .slice A2 L2.length C2] 51)).cell? ⟨wr.heap.size, 1, none⟩ = some (.slice A2 L2.length C2) := by rw [World.cell?_alloc_new]; rfl
      have hb1 : Below w.heap.size w (wr.alloc (.cells #[.slice A1 L1.length C1, .slice A2 L2.length C2] 51)) := hbel.alloc hbel.size _
      generalize wr.alloc (.cells #[.slice A1 L1.length C1, .slice A2 L2.length C2] 51) = W1 at k0 k1 hb1 ⊢
      clear hix hbel
      go_quiet (fail)
      have hb2 : Below w.heap.size w (W1.drewN nq) := hb1.trans ((below_drewN nq).mono hb1.size)
      by_cases hll : L1.length < L2.length
      · obtain ⟨f1, f2⟩ := hno (pre_no_len hll)
        clear hyes hno
        go_wp2_with fail
        go_roundw
        case rel => exact ⟨j + 1, by omega, by go_num, hb2, fun _ => f1, f2⟩
        case measure => simp [intOf]; omega
      · have hl1 := g1.len
        have hl3 := g2.len
        have HY : Hid (preB L1 L2 = true → lonL xs ys = L1 ∧ lonB xs ys = true) := hyes
        have HN : Hid (preB L1 L2 = false → preB xs ys = false ∧ (2 ≤ j + 1 → preB ys xs = false)) := hno
        clear hyes hno k0 k1
        go_wp2_with fail
        go_loop [33] (fun i => ∃ k : Nat, k ≤ L2.length ∧ i = .int .i64 k ∧ ∀ m (h1 : m < L1.length) (h2 : m < L2.length), m < k → L1[m] = L2[m]) (fun i => L2.length - (intOf i).toNat)
        case atStart => exact ⟨0, Nat.zero_le _, rfl, fun m _ _ hm => absurd hm (Nat.not_lt_zero _)⟩
        case round =>
          obtain ⟨k, hk, rfl, he⟩ := hrel
          have HE : Hid (∀ m (h1 : m < L1.length) (h2 : m < L2.length), m < k → L1[m] = L2[m]) := he
          clear he
          by_cases hlk : k < L2.length
          · have hlk1 : k < L1.length := by omega
            obtain ⟨b, off, hi, hc⟩ := (g1.below hb2).at hlk1
            obtain ⟨b2, off2, hi2, hc2⟩ := (g2.below hb2).at hlk
            by_cases c1 : L1[k] = L2[k]
            · have c1' : (L1[k] != L2[k]) = false := by simpa using c1
              have HC : Hid (L1[k] = L2[k]) := c1
              clear c1
              go_wp2_with fail
              go_round
              case rel => exact ⟨k + 1, by omega, by go_num, fun m h1 h2 hm => by
                by_cases e : m = k
                · subst e; exact HC.out
                · exact HE.out m h1 h2 (by omega)⟩
              case measure => simp [intOf]; omega
            · obtain ⟨f1, f2⟩ := HN.out (pre_no_at hlk1 hlk c1)
              have c1' : (L1[k] != L2[k]) = true := by simpa using c1
              clear c1
              go_wp2_with fail
              refine ⟨⟨j + 1, by omega, by go_num, hb2, fun _ => f1, f2⟩, ?_⟩
              simp [intOf]; omega
          · have hp := HY.out (pre_yes (by omega) (fun m h1 h2 => HE.out m h1 h2 (by omega)))
            go_wp2_with fail
            go_ret2
            exact SliceBool.some (by first | rfl | exact hp.1) (by first | rfl | exact hp.2) (g1.below hb2) hb2
    · have f1 := n1 (by omega)
      have f2 := n2 (by omega)
      clear n1 n2
      go_wp2_with fail
      rw [Exit.noGoto_ret]
      go_ret2
      exact SliceBool.none (by rw [lonL, f1, f2]; rfl) (by rw [lonB, f1, f2]; rfl) hbel
end Go.Proofs.YtppdibblkaepjaaDoor.Shape
