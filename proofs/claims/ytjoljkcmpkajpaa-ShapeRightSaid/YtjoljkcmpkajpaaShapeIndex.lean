/-
  Layer 2: the reference's Index: it appends to a slice of its own.
-/
import Derived.Test.YtjoljkcmpkajpaaShapeAgree
namespace Go.Proofs.Ytjoljkcmpkajpaa.Shape
open Go.RowKit

/-! ### Slices that live on -/
theorem cell_lt {w : World} {b o : Nat} {v : Value} (h : w.cell? ⟨b, o, none⟩ = some v) : b < w.heap.size := by
  rcases Nat.lt_or_ge b w.heap.size with h1 | h1
  · exact h1
  · have e : w.heap[b]? = none := by simp [h1]
    simp [World.cell?, e] at h
theorem IntsAt.below {w w' : World} {a : Option Addr} {cap : Nat} {xs : List Int} (h : IntsAt w a cap xs) (hb : Below w.heap.size w w') : IntsAt w' a cap xs := by
  obtain ⟨h1, h2, h3, b, off, ha, hc⟩ := h
  exact ⟨h1, h2, h3, b, off, ha, fun i hi => (hb.cell (cell_lt (hc i hi))).trans (hc i hi)⟩
/-- What the call has appended reads as a slice of ints. -/
theorem IntsAt.own {w : World} {base n : Nat} {v : Value} {L : List Int} (h : w.ownsRow base 3 1 v n (L.map (Value.int .i64))) (hn : n = L.length)
    (hb : ∀ x ∈ L, -9223372036854775808 ≤ x ∧ x ≤ 9223372036854775807) : ∃ a c, v = .slice a L.length c ∧ IntsAt w a c L := by
  subst hn
  rcases h.2 with ⟨rfl, h0⟩ | ⟨g, cap, cur, rfl, _, hg, hnc, hcm, hcs, ht⟩
  · exact ⟨none, 0, by rw [h0], by omega, by omega, hb, 0, 0, fun hne => absurd (List.length_eq_zero_iff.1 h0) hne, fun i hi => by omega⟩
  · refine ⟨some ⟨g, 0, none⟩, cap, rfl, hnc, by unfold maxLen at hcm; omega, hb, g, 0, fun _ => rfl, fun i hi => ?_⟩
    have e1 : (L.map (Value.int .i64))[i]? = some (.int .i64 L[i]) := by simp [hi]
    rw [← ht, List.getElem?_take_of_lt (by omega)] at e1
    simp only [World.cell?, hg]
    simpa using e1

/-! ### Index -/
def idxGo : List Int → Int → List Int
  | [], _ => []
  | _ :: r, o => o / pr r :: idxGo r (o % pr r)
def idxB (xs : List Int) (o : Int) : Bool := rightB xs && decide (0 ≤ o ∧ o < pr xs)
def idxL (xs : List Int) (o : Int) : List Int := if idxB xs o = true then idxGo xs o else []
theorem idxL_no {xs : List Int} {o : Int} (h : idxB xs o = false) : idxL xs o = [] := by rw [idxL, h]; rfl
theorem idxL_yes {xs : List Int} {o : Int} (h : idxB xs o = true) : idxL xs o = idxGo xs o := by rw [idxL, if_pos h]
theorem idxGo_step {xs : List Int} {k : Nat} {o : Int} (hk : k < xs.length) : idxGo (xs.drop k) o = o / pr (xs.drop (k + 1)) :: idxGo (xs.drop (k + 1)) (o % pr (xs.drop (k + 1))) := by
  rw [List.drop_eq_getElem_cons hk, idxGo]
theorem pr_drop {xs : List Int} {k : Nat} (hk : k < xs.length) : pr (xs.drop k) = xs[k] * pr (xs.drop (k + 1)) := by
  rw [List.drop_eq_getElem_cons hk, pr]
theorem idx_bd {xs : List Int} {k : Nat} {o : Int} (hr : rightB xs = true) (hk : k < xs.length) (h0 : 0 ≤ o) (h1 : o < pr (xs.drop k)) :
    1 ≤ pr (xs.drop (k + 1)) ∧ pr (xs.drop (k + 1)) ≤ 65536 ∧ 0 ≤ o / pr (xs.drop (k + 1)) ∧ o / pr (xs.drop (k + 1)) < xs[k] ∧ 0 ≤ o % pr (xs.drop (k + 1)) ∧ o % pr (xs.drop (k + 1)) < pr (xs.drop (k + 1)) := by
  have hb := part_bd (a := xs.take (k + 1)) (b := xs.drop (k + 1)) (by rw [List.take_append_drop]; exact hr)
  rw [pr_drop hk] at h1
  have hp : 1 ≤ pr (xs.drop (k + 1)) := by
    rcases Int.lt_or_le 0 (pr (xs.drop (k + 1))) with h | h
    · omega
    · have : pr (xs.drop (k + 1)) = 0 := by omega
      rw [this, Int.mul_zero] at h1; omega
  exact ⟨hp, hb.2.2.2, Int.ediv_nonneg h0 (by omega), Int.ediv_lt_of_lt_mul (by omega) h1, Int.emod_nonneg _ (by omega), Int.emod_lt_of_pos _ (by omega)⟩

theorem intInfo : (Try.prog.info? 3).map (fun i => (i.zero, i.size, i.bytes)) = some (some (.int .i64 0), 1, 8) := by kernel_rfl

set_option maxHeartbeats 1000000 in
theorem indexR (a : Option Addr) (cap : Nat) (xs : List Int) (o : Int) (w : World) (h : IntsAt w a cap xs) :
    Calls Try.prog 20 #[.slice a xs.length cap, .int .i64 o] w (SliceBool (idxL xs o) (idxB xs o) w) := by
  have hl := h.len
  by_cases hr : rightB xs = true
  · by_cases h0 : o < 0
    · have ES : Hid (idxB xs o = false) := by unfold Hid; rw [idxB, hr]; simp; omega
      go_enter Try.func20, Try.ntmps20
      go_wp2_with (go_at_call 12; refine (rightR _ _ _ _ h).mono ?_; rintro e w' ⟨rfl, rfl⟩)
      go_ret2
      exact SliceBool.none (idxL_no ES.out) ES.out (Below.refl _ _)
    · by_cases h1 : pr xs ≤ o
      · have ES : Hid (idxB xs o = false) := by unfold Hid; rw [idxB, hr]; simp; omega
        have hsz : sizeS xs = pr xs := by rw [sizeS, if_pos hr]
        go_enter Try.func20, Try.ntmps20
        go_wp2_with (first | (go_at_call 12; refine (rightR _ _ _ _ h).mono ?_; rintro e w' ⟨rfl, rfl⟩) | (go_at_call 14; refine (sizeR _ _ _ _ h).mono ?_; rintro e w' ⟨rfl, rfl⟩))
        go_ret2
        exact SliceBool.none (idxL_no ES.out) ES.out (Below.refl _ _)
      · have ES : Hid (idxB xs o = true) := by unfold Hid; rw [idxB, hr]; simp; omega
        have hsz : sizeS xs = pr xs := by rw [sizeS, if_pos hr]
        have hlen := (right_def.1 hr).1
        obtain ⟨i0, hi, hz0, hz1, hz2⟩ := info_parts intInfo
        go_enter Try.func20, Try.ntmps20
        go_wp2_with (first | (go_at_call 12; refine (rightR _ _ _ _ h).mono ?_; rintro e w' ⟨rfl, rfl⟩) | (go_at_call 14; refine (sizeR _ _ _ _ h).mono ?_; rintro e w' ⟨rfl, rfl⟩))
        go_loopw [1, 6, 7] (fun q v i wr => ∃ (k : Nat) (O : Int) (L : List Int), k ≤ xs.length ∧ L.length = k ∧ q = .int .i64 O ∧ i = .int .i64 k ∧ wr.ownsRow w.heap.size 3 1 v L.length (L.map (Value.int .i64)) ∧ Below w.heap.size w wr ∧ 0 ≤ O ∧ O < pr (xs.drop k) ∧ (∀ x ∈ L, 0 ≤ x ∧ x ≤ 65536) ∧ idxGo xs o = L ++ idxGo (xs.drop k) O) (fun _ _ i _ => xs.length - (intOf i).toNat)
        case atStart => exact ⟨0, o, [], Nat.zero_le _, rfl, rfl, rfl, World.ownsRow_nil _ _ _ _, Below.refl _ _, by omega, by rw [List.drop_zero]; omega, fun x hx => absurd hx (by simp), rfl⟩
        case round =>
          obtain ⟨k, O, L, hk, hL, rfl, rfl, hown, hbel, hO0, hO1, hLb, hg⟩ := hrel
          by_cases hlt : k < xs.length
          · obtain ⟨p1, p2, p3, p4, p5, p6⟩ := idx_bd hr hlt hO0 hO1
            have hd := dim_bd hr hlt
            have hg2 := hg
            rw [idxGo_step hlt] at hg2
            have HG : Hid (idxGo xs o = L ++ (O / pr (xs.drop (k + 1)) :: idxGo (xs.drop (k + 1)) (O % pr (xs.drop (k + 1))))) := hg2
            have HL : Hid (L.length = k) := hL
            have HD : Hid (0 ≤ xs[k] ∧ xs[k] ≤ 65536) := hd
            have HP5 : Hid (0 ≤ O % pr (xs.drop (k + 1)) ∧ O % pr (xs.drop (k + 1)) < pr (xs.drop (k + 1))) := ⟨p5, p6⟩
            have HP3 : Hid (0 ≤ O / pr (xs.drop (k + 1)) ∧ O / pr (xs.drop (k + 1)) < xs[k]) := ⟨p3, p4⟩
            have ep : (xs.take xs.length).drop (k + 1) = xs.drop (k + 1) := by rw [List.take_length]
            have hO2 : O ≤ 4294967296 := by
              rw [pr_drop hlt] at hO1
              have : xs[k] * pr (xs.drop (k + 1)) ≤ 65536 * 65536 := Int.mul_le_mul hd.2 p2 (by omega) (by decide)
              omega
            have q1 : O.tdiv (pr (xs.drop (k + 1))) = O / pr (xs.drop (k + 1)) := Int.tdiv_eq_ediv_of_nonneg hO0
            have q2 : O.tmod (pr (xs.drop (k + 1))) = O % pr (xs.drop (k + 1)) := Int.tmod_eq_emod_of_nonneg hO0
            have q3 : wrap64 (O / pr (xs.drop (k + 1))) = O / pr (xs.drop (k + 1)) := IntWalk.wrap64_in _ (by omega)
            clear hg hg2 hL hd hO1 p3 p4 p5 p6
            go_wp2_with (first
              | (go_at_call 27; refine (productR2 _ _ _ (k + 1) xs.length _ _ (by omega) rfl _ (h.below hbel) hr (by omega) (Nat.le_refl _)).mono ?_; rintro e w' ⟨rfl, rfl⟩)
              | (at_builtin; refine wpList_append_own _ rfl _ _ 22 rfl w.heap.size 3 i0 (.int .i64 0) 1 8 Try.underlying22 hi hz0 hz1 hz2 rfl (by decide) _ _ _ rfl (hown.alloc _) ⟨wr.heap.size, 0, none⟩ 1 1 [.int .i64 (O / pr (xs.drop (k + 1)))] rfl rfl ?c1 ?c2 ?c3 ?c4 ?c5 ?_))
            case c1 =>
              intro j u hj
              match j, hj with
              | 0, hj => simp at hj; subst hj; simp [Addr.add]
            case c2 => intro u hu; simp at hu; subst hu; rfl
            case c3 => have := HL.out; unfold maxLen; omega
            case c4 => have := HL.out; omega
            case c5 => have := hbel.size; simp; omega
            intro v' w1 hown' hgrow _
            have hbel2 := (hbel.alloc hbel.size _).grown hgrow (by have := hbel.size; simp; omega) (fun j hj => ((hown.lt j hj).1))
            go_wp2
            go_roundw
            case rel =>
              exact ⟨k + 1, _, L ++ [O / pr (xs.drop (k + 1))], by omega, by have := HL.out; simp; omega, rfl, by go_num, by simpa using hown', hbel2, HP5.out.1, HP5.out.2, fun x hx => by
                rcases List.mem_append.1 hx with h1 | h1
                · exact hLb x h1
                · rw [List.mem_singleton.1 h1]; have := HP3.out; have := HD.out; omega, by rw [HG.out]; simp⟩
            case measure => simp [intOf]; omega
          · obtain rfl : k = xs.length := by omega
            rw [List.drop_length] at hg
            have HG : Hid (idxL xs o = L) := by unfold Hid; rw [idxL_yes ES.out, hg]; simp [idxGo]
            clear hg
            obtain ⟨a1, c1, hv, hin⟩ := IntsAt.own hown rfl (fun x hx => by have := hLb x hx; omega)
            have HV : Hid (u6 = .slice a1 L.length c1) := hv
            clear hv
            go_wp2
            go_ret2
            rw [HV.out]
            exact SliceBool.some HG.out ES.out hin hbel
  · have hr' : rightB xs = false := by simpa using hr
    have ea : idxB xs o = false := by rw [idxB, hr']; rfl
    have ES : Hid (idxB xs o = false) := ea
    clear ea hr
    go_enter Try.func20, Try.ntmps20
    go_wp2_with (go_at_call 12; refine (rightR _ _ _ _ h).mono ?_; rintro e w' ⟨rfl, rfl⟩)
    go_ret2
    exact SliceBool.none (idxL_no ES.out) ES.out (Below.refl _ _)
end Go.Proofs.Ytjoljkcmpkajpaa.Shape
