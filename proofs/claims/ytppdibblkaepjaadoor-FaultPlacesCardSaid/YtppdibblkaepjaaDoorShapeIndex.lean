/-
  Layer 2: the reference's Index: it appends to a slice of its own.
-/
import Derived.Test.YtppdibblkaepjaaDoorShapeAgree
namespace Go.Proofs.YtppdibblkaepjaaDoor.Shape
open Go.RowKit

/-! ### Slices that live on -/
theorem cell_lt {w : World} {b o : Nat} {v : Value} (h : w.cell? ⟨b, o, none⟩ = some v) : b < w.heap.size := by
  rcases Nat.lt_or_ge b w.heap.size with h1 | h1
  · exact h1
  · have e : w.heap[b]? = none := by simp [h1]
    simp [World.cell?, e] at h
theorem IntsAt.below {w w' : World} {a : Option Addr} {cap : Nat} {xs : List Int} (h : IntsAt w a cap xs) (hb : Below w.heap.size w w') : IntsAt w' a cap xs := by
  obtain ⟨h1, h2, h3, b, off, ha, hc⟩ := h
  exact ⟨h1, h2, h3, b, off, ha, fun i hi => (hb.cell (cell_lt (hc i hi))).trans (hc i hi)⟩
/-- What the call has appended reads as a slice of ints. -/
theorem IntsAt.own {w : World} {base n : Nat} {v : Value} {L : List Int} (h : w.ownsRow base 3 1 v n (L.map (Value.int .i64))) (hn : n = L.length)
    (hb : ∀ x ∈ L, -9223372036854775808 ≤ x ∧ x ≤ 9223372036854775807) : ∃ a c, v = .slice a L.length c ∧ IntsAt w a c L := by
  subst hn
  rcases h.2 with ⟨rfl, h0⟩ | ⟨g, cap, cur, rfl, _, hg, hnc, hcm, hcs, ht⟩
  · exact ⟨none, 0, by rw [h0], by omega, by omega, hb, 0, 0, fun hne => absurd (List.length_eq_zero_iff.1 h0) hne, fun i hi => by omega⟩
  · refine ⟨some ⟨g, 0, none⟩, cap, rfl, hnc, by unfold maxLen at hcm; omega, hb, g, 0, fun _ => rfl, fun i hi => ?_⟩
    have e1 : (L.map (Value.int .i64))[i]? = some (.int .i64 L[i]) := by simp [hi]
    rw [← ht, List.getElem?_take_of_lt (by omega)] at e1
    simp only [World.cell?, hg]
    simpa using e1

/-! ### Index -/
def idxGo : List Int → Int → List Int
  | [], _ => []
  | _ :: r, o => o / pr r :: idxGo r (o % pr r)
def idxB (xs : List Int) (o : Int) : Bool := rightB xs && decide (0 ≤ o ∧ o < pr xs)
def idxL (xs : List Int) (o : Int) : List Int := if idxB xs o = true then idxGo xs o else []
theorem idxL_no {xs : List Int} {o : Int} (h : idxB xs o = false) : idxL xs o = [] := by rw [idxL, h]; rfl
theorem idxL_yes {xs : List Int} {o : Int} (h : idxB xs o = true) : idxL xs o = idxGo xs o := by rw [idxL, if_pos h]
theorem idxGo_step {xs : List Int} {k : Nat} {o : Int} (hk : k < xs.length) : idxGo (xs.drop k) o = o / pr (xs.drop (k + 1)) :: idxGo (xs.drop (k + 1)) (o % pr (xs.drop (k + 1))) := by
  rw [List.drop_eq_getElem_cons hk, idxGo]
theorem pr_drop {xs : List Int} {k : Nat} (hk : k < xs.length) : pr (xs.drop k) = xs[k] * pr (xs.drop (k + 1)) := by
  rw [List.drop_eq_getElem_cons hk, pr]
theorem idx_bd {xs : List Int} {k : Nat} {o : Int} (hr : rightB xs = true) (hk : k < xs.length) (h0 : 0 ≤ o) (h1 : o < pr (xs.drop k)) :
    1 ≤ pr (xs.drop (k + 1)) ∧ pr (xs.drop (k + 1)) ≤ 65536 ∧ 0 ≤ o / pr (xs.drop (k + 1)) ∧ o / pr (xs.drop (k + 1)) < xs[k] ∧ 0 ≤ o % pr (xs.drop (k + 1)) ∧ o % pr (xs.drop (k + 1)) < pr (xs.drop (k + 1)) := by
  have hb := part_bd (a := xs.take (k + 1)) (b := xs.drop (k + 1)) (by rw [List.take_append_drop]; exact hr)
  rw [pr_drop hk] at h1
  have hp : 1 ≤ pr (xs.drop (k + 1)) := by
    rcases Int.lt_or_le 0 (pr (xs.drop (k + 1))) with h | h
    · omega
    · have : pr (xs.drop (k + 1)) = 0 := by omega
      rw [this, Int.mul_zero] at h1; omega
  exact ⟨hp, hb.2.2.2, Int.ediv_nonneg h0 (by omega), Int.ediv_lt_of_lt_mul (by omega) h1, Int.emod_nonneg _ (by omega), Int.emod_lt_of_pos _ (by omega)⟩

theorem intInfo : (Tryd.prog.info? 3).map (fun i => (i.zero, i.size, i.bytes)) = some (some (.int .i64 0), 1, 8) := by kernel_rfl

end Go.Proofs.YtppdibblkaepjaaDoor.Shape
