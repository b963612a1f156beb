/-
  Layer 2: the reference's Product and Right.
-/
import Derived.Test.YtppdibblkaepjaaDoorInts
import Derived.Test.YtppdibblkaepjaaDoorShapeMath
namespace Go.Proofs.YtppdibblkaepjaaDoor.Shape
open Go.RowKit

theorem ret_int {a b : Int} (h : a = b) : Ending.returned (.int .i64 a) = .returned (.int .i64 b) := by rw [h]
/-- The numbers from place 'from' on, as far as place k. -/
theorem mid_snoc (xs : List Int) (f k : Nat) (hf : f ≤ k) (hk : k < xs.length) : (xs.take (k + 1)).drop f = (xs.take k).drop f ++ [xs[k]] := by
  rw [take_snoc xs k hk, List.drop_append_of_le_length (by simp; omega)]
theorem mid_part (xs : List Int) (f k : Nat) (h : rightB xs = true) : NN ((xs.take k).drop f) ∧ nz ((xs.take k).drop f) ≤ 65536 := by
  obtain ⟨_, h2, h3⟩ := right_def.1 h
  have e : xs.take k ++ xs.drop k = xs := List.take_append_drop _ _
  have e2 : (xs.take k).take f ++ (xs.take k).drop f = xs.take k := List.take_append_drop _ _
  have h4 : NN (xs.take k) := by rw [← e] at h2; exact h2.left
  have h5 : nz (xs.take k) ≤ nz xs := by
    have := nz_left (a := xs.take k) (b := xs.drop k) (by rw [e]; exact h2)
    rwa [e] at this
  have h6 : NN ((xs.take k).drop f) := by rw [← e2] at h4; exact h4.right
  have h7 : nz ((xs.take k).drop f) ≤ nz (xs.take k) := by
    have := nz_right (a := (xs.take k).take f) (b := (xs.take k).drop f) (by rw [e2]; exact h4)
    rwa [e2] at this
  exact ⟨h6, by omega⟩

theorem ret_bool {a b : Bool} (h : a = b) : Ending.returned (.bool a) = .returned (.bool b) := by rw [h]
def sizeS (xs : List Int) : Int := if rightB xs = true then pr xs else -1
def sameB (xs ys : List Int) : Bool := decide (xs = ys)
theorem same_len {xs ys : List Int} (h : ¬ xs.length = ys.length) : sameB xs ys = false := by
  simp only [sameB, decide_eq_false_iff_not]; intro e; exact h (by rw [e])
theorem same_at {xs ys : List Int} {k : Nat} (h1 : k < xs.length) (h2 : k < ys.length) (h : ¬ xs[k] = ys[k]) : sameB xs ys = false := by
  simp only [sameB, decide_eq_false_iff_not]; intro e; subst e; exact h rfl
theorem same_all {xs ys : List Int} (h : xs.length = ys.length) (h2 : ∀ i (h1 : i < xs.length) (h2 : i < ys.length), xs[i] = ys[i]) : sameB xs ys = true := by
  simp only [sameB, decide_eq_true_eq]; exact List.ext_getElem h h2

set_option maxHeartbeats 1000000 in
theorem sameR (a : Option Addr) (cap : Nat) (xs : List Int) (a2 : Option Addr) (cap2 : Nat) (ys : List Int) (w : World) (h : IntsAt w a cap xs) (g : IntsAt w a2 cap2 ys) :
    Calls Tryd.prog 25 #[.slice a xs.length cap, .slice a2 ys.length cap2] w fun e w' => e = .returned (.bool (sameB xs ys)) ∧ ∃ n, w' = w.drewN n := by
  have hl := h.len
  have hl2 := g.len
  by_cases hn : xs.length = ys.length
  · have hn' : ((xs.length : Int) != (ys.length : Int)) = false := by rw [hn]; simp
    go_enter Tryd.func25, Tryd.ntmps25
    go_wp2
    clear hn'
    go_loopw [5] (fun i wr => ∃ k n : Nat, k ≤ xs.length ∧ i = .int .i64 k ∧ wr = w.drewN n ∧ ∀ j (h1 : j < xs.length) (h2 : j < ys.length), j < k → xs[j] = ys[j]) (fun i _ => xs.length - (intOf i).toNat)
    case atStart => exact ⟨0, 0, Nat.zero_le _, rfl, rfl, fun j _ _ hj => absurd hj (Nat.not_lt_zero _)⟩
    case round =>
      obtain ⟨k, n, hk, rfl, rfl, he⟩ := hrel
      have HE : Hid (∀ j (h1 : j < xs.length) (h2 : j < ys.length), j < k → xs[j] = ys[j]) := he
      clear he
      by_cases hlt : k < xs.length
      · have hlt2 : k < ys.length := by omega
        obtain ⟨b, off, hi, hc⟩ := h.at hlt
        obtain ⟨b2, off2, hi2, hc2⟩ := g.at hlt2
        by_cases c1 : xs[k] = ys[k]
        · have c1' : (xs[k] != ys[k]) = false := by simpa using c1
          have HC : Hid (xs[k] = ys[k]) := c1
          clear c1 hn
          go_wp2_with fail
          go_quiet (fail)
          go_wp2_with fail
          go_roundw
          case rel => exact ⟨k + 1, n + nq, by omega, by go_num, rfl, fun j h1 h2 hj => by
            by_cases e : j = k
            · subst e; exact HC.out
            · exact HE.out j h1 h2 (by omega)⟩
          case measure => simp [intOf]; omega
        · have em := same_at hlt hlt2 c1
          have c1' : (xs[k] != ys[k]) = true := by simpa using c1
          clear c1 hn
          go_wp2_with fail
          go_quiet (fail)
          go_wp2_with fail
          go_ret
          exact ⟨by first | rfl | exact ret_bool em.symm, n + nq, World.drewN_drewN ..⟩
      · obtain rfl : k = xs.length := by omega
        have em := same_all hn (fun i h1 h2 => HE.out i h1 h2 h1)
        clear hn
        go_wp2_with fail
        go_ret
        first | exact ⟨rfl, _, rfl⟩ | exact ⟨ret_bool em.symm, _, rfl⟩
  · have em := same_len hn
    have hn' : ((xs.length : Int) != (ys.length : Int)) = true := by simp; omega
    clear hn
    go_enter Tryd.func25, Tryd.ntmps25
    go_wp2
    go_ret
    first | exact ⟨rfl, 0, rfl⟩ | exact ⟨ret_bool em.symm, 0, rfl⟩
end Go.Proofs.YtppdibblkaepjaaDoor.Shape
