/-
  Layer 2: the program's Right, Row and Offset.
-/
import Derived.Test.YtjoljkcmpkajpaaShapeP1
import Derived.Test.YtjoljkcmpkajpaaShapeAgree
namespace Go.Proofs.Ytjoljkcmpkajpaa.Shape
open Go.RowKit

theorem rightP (a : Option Addr) (cap : Nat) (xs : List Int) (w : World) (h : IntsAt w a cap xs) :
    Calls Try.prog 11 #[.slice a xs.length cap] w fun e w' => e = .returned (.bool (rightB xs)) ∧ w = w' := by
  have hl := h.len
  by_cases hr : rightB xs = true
  · have e1 : sizeS xs = pr xs := by rw [sizeS, if_pos hr]
    have e2 := part_bd (a := xs) (b := []) (by rw [List.append_nil]; exact hr)
    have e3 : 0 ≤ pr xs := e2.1
    clear e2
    have HS := sizeP a cap xs w h
    rw [e1] at HS
    clear e1
    go_enter Try.func11, Try.ntmps11
    go_wp2_with (go_at_call 13; refine HS.mono ?_; rintro e w' ⟨rfl, rfl⟩)
    go_ret
    first | exact ⟨rfl, rfl⟩ | exact ⟨ret_bool hr.symm, rfl⟩
  · have hr' : rightB xs = false := by simpa using hr
    have e1 : sizeS xs = -1 := by rw [sizeS, if_neg hr]
    have HS := sizeP a cap xs w h
    rw [e1] at HS
    clear e1 hr
    go_enter Try.func11, Try.ntmps11
    go_wp2_with (go_at_call 13; refine HS.mono ?_; rintro e w' ⟨rfl, rfl⟩)
    go_ret
    first | exact ⟨rfl, rfl⟩ | exact ⟨ret_bool hr'.symm, rfl⟩

/-- From the number k on, as a slice of the same array. -/
def fromAt (a : Option Addr) (cap k : Nat) : Option Addr := if cap = k then a else a.map (·.add (k * 1))
theorem IntsAt.from {w : World} {a : Option Addr} {cap : Nat} {xs : List Int} (h : IntsAt w a cap xs) (k : Nat) (hk : k ≤ xs.length) :
    IntsAt w (fromAt a cap k) (cap - k) (xs.drop k) ∧ (∀ w', (Instr.slice 22 (.slice a xs.length cap) (some (.int .i64 (k : Int))) none none).run Try.prog w' = .ok (.slice (fromAt a cap k) (xs.drop k).length (cap - k)) w') := by
  obtain ⟨h1, h2, h3, b, off, ha, hc⟩ := h
  have hlen : (xs.drop k).length = xs.length - k := by rw [List.length_drop]
  refine ⟨⟨by omega, by omega, fun x hx => h3 x (List.mem_of_mem_drop hx), b, off + k, fun hne => ?_, fun i hi => ?_⟩, fun w' => ?_⟩
  · have e := ha (fun e => hne (by rw [e]; simp))
    subst e
    have : xs.length ≠ k := fun e => hne (List.drop_eq_nil_of_le (by omega))
    unfold fromAt
    rw [if_neg (by omega)]
    simp [Addr.add]
  · have hi' : k + i < xs.length := by omega
    rw [List.getElem_drop, Nat.add_assoc]; exact hc (k + i) hi'
  · rw [run_slice_l w' 22 a xs.length cap elemInts .i64 k (by omega) (by omega), sizeInts, hlen]
    show Result.ok (sliced _ _ _ _ _) w' = _
    unfold sliced fromAt
    rw [show (k : Int).toNat = k by omega]
theorem right_take {xs : List Int} {k : Nat} (h : rightB xs = true) : rightB (xs.take k) = true := by
  obtain ⟨h1, h2, h3⟩ := right_def.1 h
  have e : xs.take k ++ xs.drop k = xs := List.take_append_drop _ _
  rw [← e] at h2 h3
  have := nz_left h2
  exact right_def.2 ⟨by rw [List.length_take]; omega, h2.left, by omega⟩
theorem right_drop {xs : List Int} {k : Nat} (h : rightB xs = true) : rightB (xs.drop k) = true := by
  obtain ⟨h1, h2, h3⟩ := right_def.1 h
  have e : xs.take k ++ xs.drop k = xs := List.take_append_drop _ _
  rw [← e] at h2 h3
  have := nz_right h2
  exact right_def.2 ⟨by rw [List.length_drop]; omega, h2.right, by omega⟩

set_option maxHeartbeats 1000000 in
theorem rowP (a : Option Addr) (cap : Nat) (xs : List Int) (f : Int) (w : World) (h : IntsAt w a cap xs) :
    Calls Try.prog 23 #[.slice a xs.length cap, .int .i64 f] w fun e w' => e = .returned (.tuple #[.int .i64 (rowS xs f).1, .int .i64 (rowS xs f).2]) ∧ ∃ n, w' = w.drewN n := by
  have hl := h.len
  by_cases hr : rightB xs = true
  · by_cases h0 : f < 0
    · have em := rowS_no (xs := xs) (f := f) (by omega)
      go_enter Try.func23, Try.ntmps23
      go_wp2_with (go_at_call 11; refine (rightP _ _ _ _ h).mono ?_; rintro e w' ⟨rfl, rfl⟩)
      go_ret2
      exact ⟨by first | rfl | exact pair_mk em, 0, rfl⟩
    · by_cases h1 : (xs.length : Int) < f
      · have em := rowS_no (xs := xs) (f := f) (by omega)
        go_enter Try.func23, Try.ntmps23
        go_wp2_with (go_at_call 11; refine (rightP _ _ _ _ h).mono ?_; rintro e w' ⟨rfl, rfl⟩)
        go_ret2
        exact ⟨by first | rfl | exact pair_mk em, 0, rfl⟩
      · obtain ⟨k, rfl⟩ : ∃ k : Nat, f = k := ⟨f.toNat, by omega⟩
        have hk : k ≤ xs.length := by omega
        have em := rowS_yes hr hk
        obtain ⟨i1, s1⟩ := h.cut k hk
        obtain ⟨i2, s2⟩ := h.from k hk
        have e0 : (xs.take k).length = k := by rw [List.length_take, Nat.min_eq_left hk]
        have c1 : ∀ n, _ := fun n => (sizeP _ _ _ (w.drewN n) (i1.drewN n)).mono (fun e w' ⟨h1, h2⟩ => (⟨h1, 0, h2.symm⟩ : e = _ ∧ ∃ m, w' = (w.drewN n).drewN m))
        have c2 : ∀ n, _ := fun n => (sizeP _ _ _ (w.drewN n) (i2.drewN n)).mono (fun e w' ⟨h1, h2⟩ => (⟨h1, 0, h2.symm⟩ : e = _ ∧ ∃ m, w' = (w.drewN n).drewN m))
        rw [e0, show sizeS (xs.take k) = pr (xs.take k) by rw [sizeS, if_pos (right_take hr)]] at c1
        rw [show sizeS (xs.drop k) = pr (xs.drop k) by rw [sizeS, if_pos (right_drop hr)]] at c2
        generalize (xs.drop k).length = n2 at c2 s2
        generalize pr (xs.take k) = P1 at c1 em
        generalize pr (xs.drop k) = P2 at c2 em
        clear i1 i2 e0
        go_enter Try.func23, Try.ntmps23
        go_wp2_with (go_at_call 11; refine (rightP _ _ _ _ h).mono ?_; rintro e w' ⟨rfl, rfl⟩)
        go_quiet (first
          | (go_at_call 13; with_reducible exact Calls.quiet_of (c1 _))
          | (go_at_call 13; with_reducible exact Calls.quiet_of (c2 _)))
        go_wp2_with fail
        go_ret2
        exact ⟨by first | rfl | exact pair_mk em, nq, rfl⟩
  · have hr' : rightB xs = false := by simpa using hr
    have em := rowS_no (xs := xs) (f := f) (by simp [hr'])
    clear hr
    go_enter Try.func23, Try.ntmps23
    go_wp2_with (go_at_call 11; refine (rightP _ _ _ _ h).mono ?_; rintro e w' ⟨rfl, rfl⟩)
    go_ret2
    exact ⟨by first | rfl | exact pair_mk em, 0, rfl⟩
end Go.Proofs.Ytjoljkcmpkajpaa.Shape
