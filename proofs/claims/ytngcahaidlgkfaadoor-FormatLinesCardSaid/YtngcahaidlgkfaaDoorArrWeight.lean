/-
  Layer 3: the reference's Weight.
-/
import Derived.Test.YtngcahaidlgkfaaDoorArrSize
namespace Go.Proofs.YtngcahaidlgkfaaDoor.Shape
open Go.RowKit

mutual
/-- The number of elements including those of the items, at most 262145. -/
def wt : Arr → Int
  | .mk k sh nu it => min ((aSize (.mk k sh nu it) : Int) + (if k = 3 then sumW it else 0)) 262145
def sumW : List Arr → Int
  | [] => 0
  | A :: r => wt A + sumW r
end
mutual
theorem wt_nn : ∀ A, 0 ≤ wt A
  | .mk k sh nu it => by
    have := sumW_nn it
    rw [wt]; split <;> omega
theorem sumW_nn : ∀ l, 0 ≤ sumW l
  | [] => by rw [sumW]; omega
  | A :: r => by
    have := wt_nn A
    have := sumW_nn r
    rw [sumW]; omega
end
theorem wt_le (A : Arr) : wt A ≤ 262145 := by
  obtain ⟨k, sh, nu, it⟩ := A
  rw [wt]; omega
theorem sumW_append (a b : List Arr) : sumW (a ++ b) = sumW a + sumW b := by
  induction a with
  | nil => simp [sumW]
  | cons A r ih => rw [List.cons_append, sumW, sumW, ih]; omega
theorem sumW_step {l : List Arr} {k : Nat} (h : k < l.length) : sumW (l.take (k + 1)) = sumW (l.take k) + wt l[k] := by
  rw [List.take_succ_eq_append_getElem h, sumW_append, sumW, sumW]; omega
theorem sumW_take (l : List Arr) (k : Nat) : sumW (l.take k) ≤ sumW l := by
  have h : sumW (l.take k ++ l.drop k) = sumW l := by rw [List.take_append_drop]
  rw [sumW_append] at h
  have := sumW_nn (l.drop k)
  omega

/-- A struct of four cells in block B: a parameter. -/
def Par (w : World) (B : Nat) (c0 c1 c2 c3 : Value) : Prop := B < w.heap.size ∧ w.cell? ⟨B, 0, none⟩ = some c0 ∧ w.cell? ⟨B, 1, none⟩ = some c1 ∧ w.cell? ⟨B, 2, none⟩ = some c2 ∧ w.cell? ⟨B, 3, none⟩ = some c3
theorem Par.below {w w' : World} {B : Nat} {c0 c1 c2 c3 : Value} (h : Par w B c0 c1 c2 c3) (hb : Below w.heap.size w w') : Par w' B c0 c1 c2 c3 := by
  obtain ⟨h0, h1, h2, h3, h4⟩ := h
  exact ⟨Nat.lt_of_lt_of_le h0 hb.size, (hb.cell h0).trans h1, (hb.cell h0).trans h2, (hb.cell h0).trans h3, (hb.cell h0).trans h4⟩
theorem Par.new (w : World) (c0 c1 c2 c3 : Value) (t : TypeId) : Par (w.alloc (.cells #[c0, c1, c2, c3] t)) w.heap.size c0 c1 c2 c3 := by
  refine ⟨by simp, ?_, ?_, ?_, ?_⟩ <;> rw [World.cell?_alloc_new] <;> rfl

theorem elemArrs : Tryd.prog.underlying 24 = some (.slice (Tryd.prog.elem 24)) := by kernel_rfl
theorem sizeArrs (w : World) : (sizeOf (Tryd.prog.elem 24)).run Tryd.prog w = .ok 4 w := by kernel_rfl
/-- Where item k lies. -/
theorem items_at {ia : Option Addr} {n ic b off : Nat} {l : List Arr} (hn : n = l.length) (ha : l ≠ [] → ia = some ⟨b, off, none⟩) {k : Nat} (hk : k < l.length) (w' : World) :
    (Instr.indexAt 24 (.slice ia n ic) (.int .i64 k)).run Tryd.prog w' = .ok (.pointer (some ⟨b, off + k * 4, none⟩)) w' := by
  subst hn
  have e := ha (by intro e; subst e; simp at hk)
  subst e
  rw [run_indexAt_slice w' _ _ _ _ .i64 k elemArrs, if_pos (by omega), sizeArrs]
  show Result.ok _ w' = _
  rw [show (k : Int).toNat = k by omega, add_plain]

theorem min_low {x : Int} (h : x ≤ 262145) : min x 262145 = x := by omega
theorem min_high {x : Int} (h : 262145 ≤ x) : min x 262145 = 262145 := by omega

set_option maxHeartbeats 1000000 in
theorem weightR_any (n : Nat) : ∀ (v : Value) (A : Arr) (w : World), rk A ≤ n → ArrAt w v A → Calls Tryd.prog 17 #[v] w fun e w' => e = .returned (.int .i64 (wt A)) ∧ Below w.heap.size w w' := by
  induction n with
  | zero =>
    intro v A w hn _
    obtain ⟨k, sh, nu, it⟩ := A
    rw [rk] at hn; omega
  | succ n ih =>
    intro v A w hn h
    have hA := h
    obtain ⟨k, sh, nu, it⟩ := A
    rw [ArrAt] at h
    obtain ⟨sa, sc, na, nc, ia, ic, rfl, hk, hs, hnn, h1, h2, b, off, ha, hc⟩ := h
    have hnl := hnn.len
    by_cases k3 : k = 3
    · subst k3
      have HW : Hid (wt (.mk 3 sh nu it) = min ((it.length : Int) + sumW it) 262145) := by unfold Hid; rw [wt]; rfl
      clear hs hnn hk
      go_enter Tryd.func17, Tryd.ntmps17
      go_wp2_with (go_at_call 26; refine (sizeR _ _ _ (hA.below (below_new _ _))).mono ?_; rintro e w1 ⟨rfl, hb1⟩)
      go_loopw [3, 4] (fun m i wr => ∃ (j : Nat), j ≤ it.length ∧ i = .int .i64 j ∧ m = .int .i64 ((it.length : Int) + sumW (it.take j)) ∧ Par wr w.heap.size (.int .i64 3) (.slice sa sh.length sc) (.slice na nu.length nc) (.slice ia it.length ic) ∧ Below w.heap.size w wr) (fun _ i _ => it.length - (intOf i).toNat)
      case atStart => exact ⟨0, Nat.zero_le _, rfl, by rw [List.take_zero, sumW, Int.add_zero]; rfl, (Par.new w _ _ _ _ _).below hb1, Below.then (below_new _ _) hb1⟩
      case round =>
        obtain ⟨j, hj, rfl, rfl, hp, hb⟩ := hrel
        obtain ⟨p0, p1, p2, p3, p4⟩ := id hp
        have s0 := sumW_nn (it.take j)
        by_cases hlt : j < it.length
        · by_cases c4 : (it.length : Int) + sumW (it.take j) ≤ 262144
          · have hi := items_at (ic := ic) rfl ha hlt
            obtain ⟨c0, c1, c2, c3, ⟨g0, g1, g2, g3⟩, hB⟩ := (ArrsAt.below hb hc).at hlt
            have HS : Hid (sumW (it.take (j + 1)) = sumW (it.take j) + wt it[j]) := sumW_step hlt
            have l1 := wt_nn it[j]
            have l2 := wt_le it[j]
            go_wp2_with (go_at_call 17; refine (ih _ _ _ (Nat.le_of_lt_succ (Nat.lt_of_lt_of_le (rk_item hlt) hn)) hB).mono ?_; rintro e w2 ⟨rfl, hb2⟩)
            go_roundw
            case rel => exact ⟨j + 1, by omega, by go_num, by rw [HS.out, Int.add_assoc], hp.below hb2, hb.trans (hb2.mono hb.size)⟩
            case measure => simp [intOf]; omega
          · have HE : Hid (wt (.mk 3 sh nu it) = 262145) := by unfold Hid; rw [HW.out]; have := sumW_take it j; exact min_high (by omega)
            clear HW
            go_wp2_with fail
            all_goals go_ret
            all_goals exact ⟨ret_int (by have := HE.out; omega), hb⟩
        · obtain rfl : j = it.length := by omega
          clear s0
          have s0 := sumW_nn it
          have HE := HW
          clear HW
          by_cases c5 : (it.length : Int) + sumW it ≤ 262145
          · have HF : Hid (wt (.mk 3 sh nu it) = (it.length : Int) + sumW it) := by unfold Hid; rw [HE.out]; exact min_low c5
            clear HE
            go_wp2_with fail
            go_ret
            exact ⟨ret_int HF.out.symm, hb⟩
          · have HF : Hid (wt (.mk 3 sh nu it) = 262145) := by unfold Hid; rw [HE.out]; exact min_high (by omega)
            clear HE
            go_wp2_with fail
            go_ret
            exact ⟨ret_int HF.out.symm, hb⟩
    · have e3 : (k == 3) = false := by simpa using k3
      have HW : Hid (wt (.mk k sh nu it) = min (aSize (.mk k sh nu it) : Int) 262145) := by unfold Hid; rw [wt, if_neg k3, Int.add_zero]
      obtain ⟨z, hzz, hz1⟩ : ∃ z : Nat, aSize (.mk k sh nu it) = z ∧ z ≤ 9223372036854775807 := by
        exact ⟨_, rfl, aSize_le hnl (by omega)⟩
      have S := fun w' (g : ArrAt w' (.agg #[.int .i64 k, .slice sa sh.length sc, .slice na nu.length nc, .slice ia it.length ic]) (.mk k sh nu it)) => sizeR _ _ w' g
      rw [hzz] at S HW
      clear hs hnn k3 hzz
      by_cases hpos : 0 < it.length
      · by_cases c5 : (z : Int) ≤ 262145
        · have HF : Hid (wt (.mk k sh nu it) = (z : Int)) := by unfold Hid; rw [HW.out]; exact min_low c5
          clear HW
          go_enter Tryd.func17, Tryd.ntmps17
          go_wp2_with (go_at_call 26; refine (S _ (hA.below (below_new _ _))).mono ?_; rintro e w1 ⟨rfl, hb1⟩)
          obtain ⟨p0, p1, p2, p3, p4⟩ := (Par.new w (.int .i64 k) (.slice sa sh.length sc) (.slice na nu.length nc) (.slice ia it.length ic) _).below hb1
          refine wp_loop_rounds 1 ?_
          rw [rounds_succ]
          go_wp2_with fail
          go_ret
          exact ⟨ret_int HF.out.symm, Below.then (below_new _ _) hb1⟩
        · have HF : Hid (wt (.mk k sh nu it) = 262145) := by unfold Hid; rw [HW.out]; exact min_high (by omega)
          clear HW
          go_enter Tryd.func17, Tryd.ntmps17
          go_wp2_with (go_at_call 26; refine (S _ (hA.below (below_new _ _))).mono ?_; rintro e w1 ⟨rfl, hb1⟩)
          obtain ⟨p0, p1, p2, p3, p4⟩ := (Par.new w (.int .i64 k) (.slice sa sh.length sc) (.slice na nu.length nc) (.slice ia it.length ic) _).below hb1
          refine wp_loop_rounds 1 ?_
          rw [rounds_succ]
          go_wp2_with fail
          go_ret
          exact ⟨ret_int HF.out.symm, Below.then (below_new _ _) hb1⟩
      · by_cases c5 : (z : Int) ≤ 262145
        · have HF : Hid (wt (.mk k sh nu it) = (z : Int)) := by unfold Hid; rw [HW.out]; exact min_low c5
          clear HW
          go_enter Tryd.func17, Tryd.ntmps17
          go_wp2_with (go_at_call 26; refine (S _ (hA.below (below_new _ _))).mono ?_; rintro e w1 ⟨rfl, hb1⟩)
          obtain ⟨p0, p1, p2, p3, p4⟩ := (Par.new w (.int .i64 k) (.slice sa sh.length sc) (.slice na nu.length nc) (.slice ia it.length ic) _).below hb1
          refine wp_loop_rounds 1 ?_
          rw [rounds_succ]
          go_wp2_with fail
          go_ret
          exact ⟨ret_int HF.out.symm, Below.then (below_new _ _) hb1⟩
        · have HF : Hid (wt (.mk k sh nu it) = 262145) := by unfold Hid; rw [HW.out]; exact min_high (by omega)
          clear HW
          go_enter Tryd.func17, Tryd.ntmps17
          go_wp2_with (go_at_call 26; refine (S _ (hA.below (below_new _ _))).mono ?_; rintro e w1 ⟨rfl, hb1⟩)
          obtain ⟨p0, p1, p2, p3, p4⟩ := (Par.new w (.int .i64 k) (.slice sa sh.length sc) (.slice na nu.length nc) (.slice ia it.length ic) _).below hb1
          refine wp_loop_rounds 1 ?_
          rw [rounds_succ]
          go_wp2_with fail
          go_ret
          exact ⟨ret_int HF.out.symm, Below.then (below_new _ _) hb1⟩

theorem weightR (v : Value) (A : Arr) (w : World) (h : ArrAt w v A) : Calls Tryd.prog 17 #[v] w fun e w' => e = .returned (.int .i64 (wt A)) ∧ Below w.heap.size w w' :=
  weightR_any (rk A) v A w (Nat.le_refl _) h
end Go.Proofs.YtngcahaidlgkfaaDoor.Shape
