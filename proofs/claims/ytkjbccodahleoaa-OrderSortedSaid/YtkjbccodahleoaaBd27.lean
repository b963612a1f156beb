/-
  Layer 6: the library's exchanging of rows and rotating, in an own block.
  Layer 6: the library's merging of two runs, in an own block: one number ahead of a run, or behind one. (Written by wip/gen/order-sy.py.)
  Layer 6: the library's merging of two runs, in an own block: one number behind a run. (Written by wip/gen/order-sy.py.)
  Layer 6: the library's merging of two runs, in an own block: two and more behind two and more, and whole. (Written by wip/gen/order-sy.py.)
  Layer 6: the library's stable sort of the first numbers, in an own block.
-/
import Derived.Test.YtkjbccodahleoaaBd6
import Derived.BigRegion
import Derived.Deep.RegionHeld3
namespace Go.Proofs.Ytkjbccodahleoaa.Shape
open Go.RowKit
set_option linter.unusedVariables false

theorem Nats.sw {w : World} {G : Nat} {ys : List Nat} (h : Nats w G ys) {i j : Nat} (hi : i < ys.length) (hj : j < ys.length) : Nats ((w.setCell ⟨G, i, none⟩ (.int .i64 (ys.getD j 0 : Nat))).setCell ⟨G, j, none⟩ (.int .i64 (ys.getD i 0 : Nat))) G (sw ys i j) := by
  unfold Shape.sw
  exact (h.set hi _).set (by simpa using hj) _
set_option maxRecDepth 100000 in
set_option maxHeartbeats 4000000 in
theorem swrQ (B G n cap : Nat) (w0 : World) (fn : Value) (hB : B ≤ G) (hn : n ≤ 1000) (k a b : Nat) (hab : a + k ≤ b) (hb : b + k ≤ n)
    (ys : List Nat) (hy : ys.length = n) (w : World) (hw : Below B w0 w) (hG : Nats w G ys) :
    Calls Try.prog 105 #[.slice (some ⟨G, 0, none⟩) n cap, .int .i64 (a : Int), .int .i64 (b : Int), .int .i64 (k : Int), fn] w
      fun e w' => e = .returned (.tuple #[]) ∧ Nats w' G (swrF k a b ys) ∧ Below B w0 w' := by
  obtain ⟨T, hT⟩ : ∃ T, Hid (swrF k a b ys = T) := ⟨_, rfl⟩
  rw [hT.out]
  go_enter Try.func105, Try.ntmps105
  go_wp2_with fail
  go_loopw [10] (fun v wr => ∃ (i : Nat) (zs : List Nat), v = .int .i64 i ∧ i ≤ k ∧ Hid (zs.length = n) ∧ Hid (swrF (k - i) (a + i) (b + i) zs = T) ∧ Nats wr G zs ∧ Below B w0 wr) (fun v _ => k - (intOf v).toNat)
  case atStart => exact ⟨0, ys, rfl, Nat.zero_le _, hy, hT, hG, hw⟩
  case round =>
    clear hT hG hw
    obtain ⟨i, zs, rfl, hik, hz, hS, hGr, hbr⟩ := hrel
    by_cases hlt : i < k
    · have hne : ¬ a + i = b + i := by omega
      have hne2 : ¬ b + i = a + i := by omega
      have hi1 : a + i < zs.length := by rw [hz.out]; omega
      have hj1 : b + i < zs.length := by rw [hz.out]; omega
      have k1 := hGr.cellD hi1
      have k2 := hGr.cellD hj1
      have f1 := hGr.free (a + i)
      have f2 := hGr.free (b + i)
      have N1 := hGr.sw hi1 hj1
      obtain ⟨x, hx⟩ : ∃ x, zs.getD (a + i) 0 = x := ⟨_, rfl⟩
      obtain ⟨y, hyy⟩ : ∃ y, zs.getD (b + i) 0 = y := ⟨_, rfl⟩
      rw [hx] at k1 N1
      rw [hyy] at k2 N1
      have ix := fun w' => elem_nat w' G n cap (a + i) (by omega)
      have iy := fun w' => elem_nat w' G n cap (b + i) (by omega)
      rw [show ((a + i : Nat) : Int) = (a : Int) + (i : Int) by omega] at ix
      rw [show ((b + i : Nat) : Int) = (b : Int) + (i : Int) by omega] at iy
      have S1 : Hid (swrF (k - (i + 1)) (a + (i + 1)) (b + (i + 1)) (sw zs (a + i) (b + i)) = T) := by
        have := hS.out
        rw [show k - i = (k - (i + 1)) + 1 by omega, swrF] at this
        exact this
      have L1 : Hid ((sw zs (a + i) (b + i)).length = n) := by unfold Hid; rw [sw_len]; exact hz.out
      have W1 : IntKind.i64.wrap ((a : Int) + (i : Int)) = (a : Int) + (i : Int) := by rw [IntWalk.i64_left]; exact IntWalk.wrap64_in _ (by omega)
      have W2 : IntKind.i64.wrap ((b : Int) + (i : Int)) = (b : Int) + (i : Int) := by rw [IntWalk.i64_left]; exact IntWalk.wrap64_in _ (by omega)
      clear hS hx hyy
      go_wp2_with fail
      go_region
      go_wp2_with fail
      go_roundw
      case rel => exact ⟨i + 1, _, by go_num, by omega, L1, S1, N1, ((hbr.setCell hB _).setCell hB _).drew⟩
      case measure => simp [intOf]; omega
    · have I2 : T = zs := by
        have := hS.out
        rw [show k - i = 0 by omega, swrF] at this
        exact this.symm
      subst I2
      clear hS
      go_wp2_with fail
      first | go_end0 | refine bodyPost_ret (results_none rfl _ _ _) rfl ?_
      exact ⟨rfl, hGr, hbr⟩
theorem swrF_len : ∀ (k a b : Nat) (ys : List Nat), (swrF k a b ys).length = ys.length
  | 0, a, b, ys => rfl
  | k + 1, a, b, ys => by rw [swrF, swrF_len k, sw_len]
set_option maxRecDepth 100000 in
set_option maxHeartbeats 4000000 in
theorem rotQ (B G n cap : Nat) (w0 : World) (fn : Value) (hB : B ≤ G) (hn : n ≤ 1000) (a m b : Nat) (h1 : a < m) (h2 : m < b) (h3 : b ≤ n)
    (ys : List Nat) (hy : ys.length = n) (w : World) (hw : Below B w0 w) (hG : Nats w G ys) :
    Calls Try.prog 101 #[.slice (some ⟨G, 0, none⟩) n cap, .int .i64 (a : Int), .int .i64 (m : Int), .int .i64 (b : Int), fn] w
      fun e w' => e = .returned (.tuple #[]) ∧ Nats w' G (rotF (b - a) m (m - a) (b - m) ys) ∧ Below B w0 w' := by
  obtain ⟨T, hT⟩ : ∃ T, Hid (rotF (b - a) m (m - a) (b - m) ys = T) := ⟨_, rfl⟩
  rw [hT.out]
  have e1 : ((m : Int) - (a : Int)) = ((m - a : Nat) : Int) := by omega
  have e2 : ((b : Int) - (m : Int)) = ((b - m : Nat) : Int) := by omega
  go_enter Try.func101, Try.ntmps101
  go_wp2_with fail
  go_loopw [10, 11] (fun u v wr => ∃ (i j f : Nat) (zs : List Nat), u = .int .i64 i ∧ v = .int .i64 j ∧ 0 < i ∧ 0 < j ∧ i ≤ m ∧ m + j ≤ n ∧ i + j ≤ f ∧ Hid (zs.length = n) ∧ Hid (rotF f m i j zs = T) ∧ Nats wr G zs ∧ Below B w0 wr) (fun u v _ => (intOf u).toNat + (intOf v).toNat)
  case atStart => exact ⟨m - a, b - m, b - a, ys, by go_num, by go_num, by omega, by omega, by omega, by omega, by omega, hy, hT, hG, hw⟩
  case round =>
    clear hT hG hw e1 e2
    obtain ⟨i, j, f, zs, rfl, rfl, hi0, hj0, him, hjn, hf, hz, hS, hGr, hbr⟩ := hrel
    obtain ⟨f, rfl⟩ : ∃ f', f = f' + 1 := ⟨f - 1, by omega⟩
    by_cases hij : i = j
    · subst hij
      have hs := hS.out
      rw [rotF, if_pos rfl] at hs
      have C := swrQ B G n cap w0 fn hB hn i (m - i) m (by omega) (by omega) zs hz.out wr hbr hGr
      rw [hs, show ((m - i : Nat) : Int) = (m : Int) - (i : Int) by omega] at C
      clear hS hs hGr hz hf
      go_wp2_with (go_at_call 105; (with_reducible refine C.mono ?_); rintro e w3 ⟨rfl, n3, b3⟩)
      first | go_end0 | refine bodyPost_ret (results_none rfl _ _ _) rfl ?_
      exact ⟨rfl, n3, b3⟩
    · have hne : ((i : Int) != (j : Int)) = true := by simp; omega
      by_cases hlt : j < i
      · have hs := hS.out
        rw [rotF, if_neg hij, if_pos hlt] at hs
        have C := swrQ B G n cap w0 fn hB hn j (m - i) m (by omega) (by omega) zs hz.out wr hbr hGr
        have L1 : Hid ((swrF j (m - i) m zs).length = n) := by unfold Hid; rw [swrF_len]; exact hz.out
        rw [show ((m - i : Nat) : Int) = (m : Int) - (i : Int) by omega] at C
        generalize swrF j (m - i) m zs = zz at *
        have HS : Hid (rotF f m (i - j) j zz = T) := hs
        clear hS hs hGr hz
        go_wp2_with (go_at_call 105; (with_reducible refine C.mono ?_); rintro e w3 ⟨rfl, n3, b3⟩)
        go_roundw
        case rel => exact ⟨i - j, j, f, zz, by go_num, rfl, by omega, hj0, by omega, hjn, by omega, L1, HS, n3, b3⟩
        case measure => simp [intOf]; omega
      · have hs := hS.out
        rw [rotF, if_neg hij, if_neg hlt] at hs
        have C := swrQ B G n cap w0 fn hB hn i (m - i) (m + j - i) (by omega) (by omega) zs hz.out wr hbr hGr
        have L1 : Hid ((swrF i (m - i) (m + j - i) zs).length = n) := by unfold Hid; rw [swrF_len]; exact hz.out
        rw [show ((m - i : Nat) : Int) = (m : Int) - (i : Int) by omega, show ((m + j - i : Nat) : Int) = (m : Int) + (j : Int) - (i : Int) by omega] at C
        generalize swrF i (m - i) (m + j - i) zs = zz at *
        have HS : Hid (rotF f m i (j - i) zz = T) := hs
        clear hS hs hGr hz
        go_wp2_with (go_at_call 105; (with_reducible refine C.mono ?_); rintro e w3 ⟨rfl, n3, b3⟩)
        go_roundw
        case rel => exact ⟨i, j - i, f, zz, rfl, by go_num, hi0, by omega, him, by omega, by omega, L1, HS, n3, b3⟩
        case measure => simp [intOf]; omega
end Go.Proofs.Ytkjbccodahleoaa.Shape

namespace Go.Proofs.Ytkjbccodahleoaa.Shape
open Go.RowKit
set_option linter.unusedVariables false
theorem half_cast (i j : Nat) : ((i : Int) + (j : Int)) / 2 = (((i + j) / 2 : Nat) : Int) := by omega
/-- What a search has found so far: the place ahead of i is below, the place j is not. -/
def FndA (c : Nat → Nat → Int) (ys : List Nat) (x m i : Nat) : Prop := m < i → c (ys.getD (i - 1) 0) x < 0
def FndB (c : Nat → Nat → Int) (ys : List Nat) (x b j : Nat) : Prop := j < b → ¬ c (ys.getD j 0) x < 0
theorem seg_b {P A R S : List Nat} {k : Nat} (hk : k < R.length) : (P ++ (A ++ (R ++ S))).getD (P.length + A.length + k) 0 = R.getD k 0 := by
  rw [List.getD_eq_getElem?_getD, List.getD_eq_getElem?_getD, List.getElem?_append_right (by omega), List.getElem?_append_right (by omega), List.getElem?_append_left (by omega)]
  congr 2; omega
theorem seg_a {P A R S : List Nat} {k : Nat} (hk : k < A.length) : (P ++ (A ++ (R ++ S))).getD (P.length + k) 0 = A.getD k 0 := by
  rw [List.getD_eq_getElem?_getD, List.getD_eq_getElem?_getD, List.getElem?_append_right (by omega), List.getElem?_append_left (by omega)]
  congr 2; omega
set_option maxRecDepth 100000 in
set_option maxHeartbeats 8000000 in
theorem symA (c : Nat → Nat → Int) (o : Ord3 c) (N B G n cap : Nat) (w0 : World) (la : Option Addr) (ln lc : Nat) (hB : B ≤ G) (hn : n ≤ 1000)
    (HC : ∀ (w' : World) (x y : Nat), Below B w0 w' → x < N → y < N → Calls Try.prog 57 #[.slice la ln lc, .int .i64 (x : Int), .int .i64 (y : Int)] w' fun e w2 => e = .returned (.int .i64 (c x y)) ∧ Below w'.heap.size w' w2)
    (P R S : List Nat) (x : Nat) (a m b : Nat) (ha : a = P.length) (hm : m = a + 1) (hb : b = m + R.length) (hl : (P ++ ([x] ++ (R ++ S))).length = n) (hN : ∀ y ∈ P ++ ([x] ++ (R ++ S)), y < N) (hR : Runs c [x] R) (w : World) (hw : Below B w0 w) (hG : Nats w G (P ++ ([x] ++ (R ++ S)))) :
    Calls Try.prog 93 #[.slice (some ⟨G, 0, none⟩) n cap, .int .i64 (a : Int), .int .i64 (m : Int), .int .i64 (b : Int), (.func (.func 57) #[.slice la ln lc] #[])] w fun e w' => e = .returned (.tuple #[]) ∧ ∃ C, Srt c ([x] ++ R) C ∧ Nats w' G (P ++ (C ++ S)) ∧ Below B w0 w' := by
  have e0 : ((m : Int) - (a : Int) == 1) = true := by simp; omega
  have hbn : b ≤ n := by rw [← hl]; simp only [List.length_append, List.length_cons, List.length_nil]; omega
  obtain ⟨ys, hys⟩ : ∃ ys, P ++ ([x] ++ (R ++ S)) = ys := ⟨_, rfl⟩
  have gB : Hid (∀ k, k < R.length → ys.getD (m + k) 0 = R.getD k 0) := fun k hk => by
    rw [← hys, hm, ha]
    exact seg_b (A := [x]) hk
  have gx : ys.getD a 0 = x := by
    rw [← hys, ha]
    exact getD_app P x (R ++ S)
  have HY : Hid (P ++ (x :: (R ++ S)) = ys) := hys
  rw [hys] at hl hN hG
  have HNN : Hid (∀ y ∈ ys, y < N) := hN
  have hxN : x < N := by rw [← gx]; exact getD_lt hN (by omega)
  have HR : Hid (Runs c [x] R) := hR
  have HL : Hid (ys.length = n) := hl
  have HP : Hid (a = P.length) := ha
  have HM : Hid (m = a + 1 ∧ b = m + R.length) := ⟨hm, hb⟩
  have gx' : Hid (ys.getD a 0 = x) := gx
  have hmb : m ≤ b := by omega
  have ham : a < m := by omega
  clear hys hR hl hN gx hb ha hm
  go_enter Try.func93, Try.ntmps93
  go_wp2_with fail
  go_loopw [10, 11] (fun u v wr => ∃ i j : Nat, u = .int .i64 i ∧ v = .int .i64 j ∧ m ≤ i ∧ i ≤ j ∧ j ≤ b ∧ FndA c ys x m i ∧ FndB c ys x b j ∧ Nats wr G ys ∧ Below B w0 wr) (fun u v _ => (intOf v).toNat - (intOf u).toNat)
  case atStart => exact ⟨m, b, rfl, rfl, Nat.le_refl _, hmb, Nat.le_refl _, fun h => absurd h (Nat.lt_irrefl _), fun h => absurd h (Nat.lt_irrefl _), hG, hw⟩
  case round =>
    clear hG hw
    obtain ⟨i, j, rfl, rfl, hmi, hij, hjb, Q1, Q2, hGr, hbr⟩ := hrel
    by_cases hlt : i < j
    · have hh := half_cast i j
      obtain ⟨h, hdef⟩ : ∃ h, (i + j) / 2 = h := ⟨_, rfl⟩
      rw [hdef] at hh
      have hi1 : i ≤ h := by omega
      have hi2 : h < j := by omega
      clear hdef
      have k1 := hGr.cellD (j := h) (by rw [HL.out]; omega)
      have k2 := hGr.cellD (j := a) (by rw [HL.out]; omega)
      have HC1 := fun w' (g : Below B w0 w') => HC w' (ys.getD h 0) x g (getD_lt HNN.out (by rw [HL.out]; omega)) hxN
      obtain ⟨z, hz⟩ : ∃ z, ys.getD h 0 = z := ⟨_, rfl⟩
      simp only [hz] at HC1
      rw [hz] at k1
      rw [gx'.out] at k2
      have ix := fun w' => elem_nat w' G n cap h (by omega)
      have iy := fun w' => elem_nat w' G n cap a (by omega)
      have H0 : ∀ w', Below wr.heap.size wr w' → w'.cell? ⟨G, h, none⟩ = some (.int .i64 (z : Int)) ∧ w'.cell? ⟨G, a, none⟩ = some (.int .i64 (x : Int)) ∧ Below wr.heap.size wr w' := fun w' g => ⟨(g.cell (cell_lt k1)).trans k1, (g.cell (cell_lt k2)).trans k2, g⟩
      by_cases q : c z x < 0
      · have Q3 : FndA c ys x m (h + 1) := fun _ => by rw [show h + 1 - 1 = h by omega, hz]; exact q
        clear hz
        go_wp2_with fail
        go_region_held3 (fun w' => w'.cell? ⟨G, h, none⟩ = some (.int .i64 (z : Int)) ∧ w'.cell? ⟨G, a, none⟩ = some (.int .i64 (x : Int)) ∧ Below wr.heap.size wr w') (exact H0 _ (by go_grown))
            ((go_at_call 57; (with_reducible refine (HC1 _ (by first | exact hbr.drew | exact hbr)).mono ?_); rintro e w1 ⟨rfl, b1⟩; (have e1 : Below wr.heap.size wr w1 := Below.then (by go_grown) b1); (have S1 := e1.size)))
        have G1 := hGr.below e1
        have B1 : Below B w0 w1 := hbr.trans (e1.mono (by have := hGr.lt; omega))
        clear H0 HC HC1 k1 k2 e1 b1 S1
        go_wp2_with fail
        go_roundw
        case rel => exact ⟨h + 1, j, by go_num, rfl, by omega, by omega, hjb, Q3, Q2, G1, B1⟩
        case measure => simp [intOf]; omega
      · have Q3 : FndB c ys x b h := fun _ => by rw [hz]; exact q
        clear hz
        go_wp2_with fail
        go_region_held3 (fun w' => w'.cell? ⟨G, h, none⟩ = some (.int .i64 (z : Int)) ∧ w'.cell? ⟨G, a, none⟩ = some (.int .i64 (x : Int)) ∧ Below wr.heap.size wr w') (exact H0 _ (by go_grown))
            ((go_at_call 57; (with_reducible refine (HC1 _ (by first | exact hbr.drew | exact hbr)).mono ?_); rintro e w1 ⟨rfl, b1⟩; (have e1 : Below wr.heap.size wr w1 := Below.then (by go_grown) b1); (have S1 := e1.size)))
        have G1 := hGr.below e1
        have B1 : Below B w0 w1 := hbr.trans (e1.mono (by have := hGr.lt; omega))
        clear H0 HC HC1 k1 k2 e1 b1 S1
        go_wp2_with fail
        go_roundw
        case rel => exact ⟨i, h, rfl, rfl, by omega, by omega, by omega, Q1, Q3, G1, B1⟩
        case measure => simp [intOf]; omega
    · obtain rfl : i = j := by omega
      obtain ⟨s, hs⟩ : ∃ s, i = m + s := ⟨i - m, by omega⟩
      have hsl : s ≤ R.length := by have := HM.out; omega
      have ST := runs_search o HR.out s hsl (fun h => by
        have := Q1 (by omega)
        rw [show i - 1 = m + (s - 1) by omega, gB.out (s - 1) (by omega)] at this
        exact this) (fun h => by
        have := Q2 (by have := HM.out; omega)
        rw [show i = m + s by omega, gB.out s h] at this
        exact this)
      have HST : Hid (Srt c ([x] ++ R) (R.take s ++ x :: R.drop s)) := ST
      have UP : Hid (upF (i - 1 - a) a ys = P ++ ((R.take s ++ x :: R.drop s) ++ S)) := by
        have e := up_app x (R.drop s ++ S) (R.take s) P
        have hm := HM.out
        unfold Hid
        rw [← HY.out, show i - 1 - a = (R.take s).length by rw [List.length_take]; omega, HP.out]
        rw [show R.take s ++ (R.drop s ++ S) = R ++ S by rw [← List.append_assoc, List.take_append_drop]] at e
        rw [e]
        simp
      generalize R.take s ++ x :: R.drop s = C at *
      obtain ⟨TT, hTT⟩ : ∃ TT, P ++ (C ++ S) = TT := ⟨_, rfl⟩
      rw [hTT] at UP
      have HTT : Hid (P ++ (C ++ S) = TT) := hTT
      have hai : a + 1 ≤ i := by omega
      have hin : i ≤ n := by omega
      clear hTT ST Q1 Q2 hs hsl HC gB HNN hxN HR gx' HM HP HY
      go_wp2_with fail
      go_loopw [13] (fun v wx => ∃ (k : Nat) (zs : List Nat), v = .int .i64 k ∧ a ≤ k ∧ k ≤ i - 1 ∧ Hid (zs.length = n) ∧ Hid (upF (i - 1 - k) k zs = TT) ∧ Nats wx G zs ∧ Below B w0 wx) (fun v _ => i - (intOf v).toNat)
      case atStart => exact ⟨a, ys, rfl, Nat.le_refl _, by omega, HL, UP, hGr, hbr⟩
      case round =>
        clear UP hGr hbr HL
        obtain ⟨k, zs, rfl, hak, hki, hz, hS, hGr, hbr⟩ := hrel
        by_cases hlt2 : k < i - 1
        · have hlt2' : (k : Int) < (i : Int) - 1 := by omega
          have hi1 : k < zs.length := by rw [hz.out]; omega
          have hj1 : k + 1 < zs.length := by rw [hz.out]; omega
          have k1 := hGr.cellD hi1
          have k2 := hGr.cellD hj1
          have f1 := hGr.free k
          have f2 := hGr.free (k + 1)
          have N1 := hGr.sw hi1 hj1
          obtain ⟨x1, hx1⟩ : ∃ x1, zs.getD k 0 = x1 := ⟨_, rfl⟩
          obtain ⟨y1, hy1⟩ : ∃ y1, zs.getD (k + 1) 0 = y1 := ⟨_, rfl⟩
          rw [hx1] at k1 N1
          rw [hy1] at k2 N1
          have ix := fun w' => elem_nat w' G n cap k (by omega)
          have iy := fun w' => elem_nat w' G n cap (k + 1) (by omega)
          rw [show ((k + 1 : Nat) : Int) = (k : Int) + 1 by omega] at iy
          have S1 : Hid (upF (i - 1 - (k + 1)) (k + 1) (sw zs k (k + 1)) = TT) := by
            have := hS.out
            rw [show i - 1 - k = (i - 1 - (k + 1)) + 1 by omega, upF] at this
            exact this
          have L1 : Hid ((sw zs k (k + 1)).length = n) := by unfold Hid; rw [sw_len]; exact hz.out
          have W1 : IntKind.i64.wrap ((k : Int) + 1) = (k : Int) + 1 := by rw [IntWalk.i64_left]; exact IntWalk.wrap64_in _ (by omega)
          have hne : ¬ k = k + 1 := by omega
          clear hS hx1 hy1
          go_wp2_with fail
          go_region
          go_wp2_with fail
          go_roundw
          case rel => exact ⟨k + 1, _, by go_num, by omega, by omega, L1, S1, N1, ((hbr.setCell hB _).setCell hB _).drew⟩
          case measure => simp [intOf]; omega
        · have hnlt : ¬ ((k : Int) < (i : Int) - 1) := by omega
          have I2 : Hid (TT = zs) := by
            have := hS.out
            rw [show i - 1 - k = 0 by omega, upF] at this
            exact this.symm
          clear hS
          go_wp2_with fail
          first | go_end0 | refine bodyPost_ret (results_none rfl _ _ _) rfl ?_
          exact ⟨rfl, C, HST.out, by rw [HTT.out, I2.out]; exact hGr, hbr⟩
end Go.Proofs.Ytkjbccodahleoaa.Shape

namespace Go.Proofs.Ytkjbccodahleoaa.Shape
open Go.RowKit
set_option linter.unusedVariables false
def FndC (c : Nat → Nat → Int) (ys : List Nat) (y a i : Nat) : Prop := a < i → ¬ c y (ys.getD (i - 1) 0) < 0
def FndD (c : Nat → Nat → Int) (ys : List Nat) (y m j : Nat) : Prop := j < m → c y (ys.getD j 0) < 0
set_option maxRecDepth 100000 in
set_option maxHeartbeats 8000000 in
theorem symB (c : Nat → Nat → Int) (o : Ord3 c) (N B G n cap : Nat) (w0 : World) (la : Option Addr) (ln lc : Nat) (hB : B ≤ G) (hn : n ≤ 1000)
    (HC : ∀ (w' : World) (x y : Nat), Below B w0 w' → x < N → y < N → Calls Try.prog 57 #[.slice la ln lc, .int .i64 (x : Int), .int .i64 (y : Int)] w' fun e w2 => e = .returned (.int .i64 (c x y)) ∧ Below w'.heap.size w' w2)
    (P A S : List Nat) (y : Nat) (a m b : Nat) (ha : a = P.length) (hm : m = a + A.length) (hb : b = m + 1) (hA1 : 2 ≤ A.length) (hl : (P ++ (A ++ ([y] ++ S))).length = n) (hN : ∀ y' ∈ P ++ (A ++ ([y] ++ S)), y' < N) (hR : Runs c A [y]) (w : World) (hw : Below B w0 w) (hG : Nats w G (P ++ (A ++ ([y] ++ S)))) :
    Calls Try.prog 93 #[.slice (some ⟨G, 0, none⟩) n cap, .int .i64 (a : Int), .int .i64 (m : Int), .int .i64 (b : Int), (.func (.func 57) #[.slice la ln lc] #[])] w fun e w' => e = .returned (.tuple #[]) ∧ ∃ C, Srt c (A ++ [y]) C ∧ Nats w' G (P ++ (C ++ S)) ∧ Below B w0 w' := by
  have e0 : ((m : Int) - (a : Int) == 1) = false := by simp; omega
  have e1 : ((b : Int) - (m : Int) == 1) = true := by simp; omega
  have hbn : b ≤ n := by rw [← hl]; simp only [List.length_append, List.length_cons, List.length_nil]; omega
  obtain ⟨ys, hys⟩ : ∃ ys, P ++ (A ++ ([y] ++ S)) = ys := ⟨_, rfl⟩
  have gA : Hid (∀ k, k < A.length → ys.getD (a + k) 0 = A.getD k 0) := fun k hk => by
    rw [← hys, ha]
    exact seg_a hk
  have gy : ys.getD m 0 = y := by
    rw [← hys, hm, ha, ← List.append_assoc]
    have := getD_app (P ++ A) y S
    rw [List.length_append] at this
    exact this
  have HY : Hid (P ++ (A ++ ([y] ++ S)) = ys) := hys
  rw [hys] at hl hN hG
  have HNN : Hid (∀ y ∈ ys, y < N) := hN
  have hyN : y < N := by rw [← gy]; exact getD_lt hN (by omega)
  have HR : Hid (Runs c A [y]) := hR
  have HL : Hid (ys.length = n) := hl
  have HP : Hid (a = P.length) := ha
  have HM : Hid (m = a + A.length ∧ b = m + 1) := ⟨hm, hb⟩
  have gy' : Hid (ys.getD m 0 = y) := gy
  have hmb : m < b := by omega
  have ham : a < m := by omega
  clear hys hR hl hN gy hb ha hm
  go_enter Try.func93, Try.ntmps93
  go_wp2_with fail
  go_loopw [14, 15] (fun u v wr => ∃ i j : Nat, u = .int .i64 i ∧ v = .int .i64 j ∧ a ≤ i ∧ i ≤ j ∧ j ≤ m ∧ FndC c ys y a i ∧ FndD c ys y m j ∧ Nats wr G ys ∧ Below B w0 wr) (fun u v _ => (intOf v).toNat - (intOf u).toNat)
  case atStart => exact ⟨a, m, rfl, rfl, Nat.le_refl _, by omega, Nat.le_refl _, fun h => absurd h (Nat.lt_irrefl _), fun h => absurd h (Nat.lt_irrefl _), hG, hw⟩
  case round =>
    clear hG hw
    obtain ⟨i, j, rfl, rfl, hmi, hij, hjb, Q1, Q2, hGr, hbr⟩ := hrel
    by_cases hlt : i < j
    · have hh := half_cast i j
      obtain ⟨h, hdef⟩ : ∃ h, (i + j) / 2 = h := ⟨_, rfl⟩
      rw [hdef] at hh
      have hi1 : i ≤ h := by omega
      have hi2 : h < j := by omega
      clear hdef
      have k1 := hGr.cellD (j := h) (by rw [HL.out]; omega)
      have k2 := hGr.cellD (j := m) (by rw [HL.out]; omega)
      have HC1 := fun w' (g : Below B w0 w') => HC w' y (ys.getD h 0) g hyN (getD_lt HNN.out (by rw [HL.out]; omega))
      obtain ⟨z, hz⟩ : ∃ z, ys.getD h 0 = z := ⟨_, rfl⟩
      simp only [hz] at HC1
      rw [hz] at k1
      rw [gy'.out] at k2
      have ix := fun w' => elem_nat w' G n cap h (by omega)
      have iy := fun w' => elem_nat w' G n cap m (by omega)
      have H0 : ∀ w', Below wr.heap.size wr w' → w'.cell? ⟨G, h, none⟩ = some (.int .i64 (z : Int)) ∧ w'.cell? ⟨G, m, none⟩ = some (.int .i64 (y : Int)) ∧ Below wr.heap.size wr w' := fun w' g => ⟨(g.cell (cell_lt k1)).trans k1, (g.cell (cell_lt k2)).trans k2, g⟩
      by_cases q : c y z < 0
      · have Q3 : FndD c ys y m h := fun _ => by rw [hz]; exact q
        have nq : (!decide (c y z < 0)) = false := by simp [q]
        clear hz
        go_wp2_with fail
        go_region_held3 (fun w' => w'.cell? ⟨G, h, none⟩ = some (.int .i64 (z : Int)) ∧ w'.cell? ⟨G, m, none⟩ = some (.int .i64 (y : Int)) ∧ Below wr.heap.size wr w') (exact H0 _ (by go_grown))
            ((go_at_call 57; (with_reducible refine (HC1 _ (by first | exact hbr.drew | exact hbr)).mono ?_); rintro e w1 ⟨rfl, b1⟩; (have e1 : Below wr.heap.size wr w1 := Below.then (by go_grown) b1); (have S1 := e1.size)))
        have G1 := hGr.below e1
        have B1 : Below B w0 w1 := hbr.trans (e1.mono (by have := hGr.lt; omega))
        clear H0 HC HC1 k1 k2 e1 b1 S1
        go_wp2_with fail
        go_roundw
        case rel => exact ⟨i, h, rfl, rfl, by omega, by omega, by omega, Q1, Q3, G1, B1⟩
        case measure => simp [intOf]; omega
      · have Q3 : FndC c ys y a (h + 1) := fun _ => by rw [show h + 1 - 1 = h by omega, hz]; exact q
        have nq : (!decide (c y z < 0)) = true := by rw [decide_eq_false q]; rfl
        clear hz
        go_wp2_with fail
        go_region_held3 (fun w' => w'.cell? ⟨G, h, none⟩ = some (.int .i64 (z : Int)) ∧ w'.cell? ⟨G, m, none⟩ = some (.int .i64 (y : Int)) ∧ Below wr.heap.size wr w') (exact H0 _ (by go_grown))
            ((go_at_call 57; (with_reducible refine (HC1 _ (by first | exact hbr.drew | exact hbr)).mono ?_); rintro e w1 ⟨rfl, b1⟩; (have e1 : Below wr.heap.size wr w1 := Below.then (by go_grown) b1); (have S1 := e1.size)))
        have G1 := hGr.below e1
        have B1 : Below B w0 w1 := hbr.trans (e1.mono (by have := hGr.lt; omega))
        clear H0 HC HC1 k1 k2 e1 b1 S1
        go_wp2_with fail
        go_roundw
        case rel => exact ⟨h + 1, j, by go_num, rfl, by omega, by omega, hjb, Q3, Q2, G1, B1⟩
        case measure => simp [intOf]; omega
    · obtain rfl : i = j := by omega
      obtain ⟨s, hs⟩ : ∃ s, i = a + s := ⟨i - a, by omega⟩
      have hsl : s ≤ A.length := by have := HM.out; omega
      have ST := search_runs o HR.out s hsl (fun h => by
        have := Q1 (by omega)
        rw [show i - 1 = a + (s - 1) by omega, gA.out (s - 1) (by omega)] at this
        exact this) (fun h => by
        have := Q2 (by have := HM.out; omega)
        rw [show i = a + s by omega, gA.out s h] at this
        exact this)
      have HST : Hid (Srt c (A ++ [y]) (A.take s ++ y :: A.drop s)) := ST
      have DN : Hid (dnF (m - i) m ys = P ++ ((A.take s ++ y :: A.drop s) ++ S)) := by
        have hm := HM.out
        have e := dn_app y (m - i) (A.drop s) (P ++ A.take s) S (by rw [List.length_drop]; omega)
        rw [List.length_append, List.length_take, show P.length + min s A.length + (m - i) = m by have := HP.out; omega] at e
        unfold Hid
        rw [← HY.out]
        have e2 : P ++ A.take s ++ (A.drop s ++ y :: S) = P ++ (A ++ ([y] ++ S)) := by
          rw [List.append_assoc, ← List.append_assoc (A.take s), List.take_append_drop]; rfl
        rw [e2] at e
        rw [e]
        simp
      generalize A.take s ++ y :: A.drop s = C at *
      obtain ⟨TT, hTT⟩ : ∃ TT, P ++ (C ++ S) = TT := ⟨_, rfl⟩
      rw [hTT] at DN
      have HTT : Hid (P ++ (C ++ S) = TT) := hTT
      clear hTT ST Q1 Q2 hs hsl HC gA HNN hyN HR gy' HM HP HY
      go_wp2_with fail
      go_loopw [17] (fun v wx => ∃ (k : Nat) (zs : List Nat), v = .int .i64 k ∧ i ≤ k ∧ k ≤ m ∧ Hid (zs.length = n) ∧ Hid (dnF (k - i) k zs = TT) ∧ Nats wx G zs ∧ Below B w0 wx) (fun v _ => (intOf v).toNat)
      case atStart => exact ⟨m, ys, rfl, hjb, Nat.le_refl _, HL, DN, hGr, hbr⟩
      case round =>
        clear DN hGr hbr HL
        obtain ⟨k, zs, rfl, hak, hki, hz, hS, hGr, hbr⟩ := hrel
        by_cases hlt2 : i < k
        · have hi1 : k < zs.length := by rw [hz.out]; omega
          have hj1 : k - 1 < zs.length := by rw [hz.out]; omega
          have k1 := hGr.cellD hi1
          have k2 := hGr.cellD hj1
          have f1 := hGr.free k
          have f2 := hGr.free (k - 1)
          have N1 := hGr.sw hi1 hj1
          obtain ⟨x1, hx1⟩ : ∃ x1, zs.getD k 0 = x1 := ⟨_, rfl⟩
          obtain ⟨y1, hy1⟩ : ∃ y1, zs.getD (k - 1) 0 = y1 := ⟨_, rfl⟩
          rw [hx1] at k1 N1
          rw [hy1] at k2 N1
          have ix := fun w' => elem_nat w' G n cap k (by omega)
          have iy := fun w' => elem_nat w' G n cap (k - 1) (by omega)
          rw [show ((k - 1 : Nat) : Int) = (k : Int) - 1 by omega] at iy
          have S1 : Hid (dnF (k - 1 - i) (k - 1) (sw zs k (k - 1)) = TT) := by
            have := hS.out
            rw [show k - i = (k - 1 - i) + 1 by omega, dnF] at this
            exact this
          have L1 : Hid ((sw zs k (k - 1)).length = n) := by unfold Hid; rw [sw_len]; exact hz.out
          have W1 : IntKind.i64.wrap ((k : Int) - 1) = (k : Int) - 1 := by rw [IntWalk.i64_left]; exact IntWalk.wrap64_in _ (by omega)
          have hne : ¬ k = k - 1 := by omega
          have hne2 : ¬ k - 1 = k := by omega
          clear hS hx1 hy1
          go_wp2_with fail
          go_region
          go_wp2_with fail
          go_roundw
          case rel => exact ⟨k - 1, _, by go_num, by omega, by omega, L1, S1, N1, ((hbr.setCell hB _).setCell hB _).drew⟩
          case measure => simp [intOf]; omega
        · have I2 : Hid (TT = zs) := by
            have := hS.out
            rw [show k - i = 0 by omega, dnF] at this
            exact this.symm
          clear hS
          go_wp2_with fail
          first | go_end0 | refine bodyPost_ret (results_none rfl _ _ _) rfl ?_
          exact ⟨rfl, C, HST.out, by rw [HTT.out, I2.out]; exact hGr, hbr⟩
end Go.Proofs.Ytkjbccodahleoaa.Shape

namespace Go.Proofs.Ytkjbccodahleoaa.Shape
open Go.RowKit
set_option linter.unusedVariables false
def SymPost (c : Nat → Nat → Int) (G B : Nat) (w0 : World) (P A R S : List Nat) (e : Ending) (w' : World) : Prop := e = .returned (.tuple #[]) ∧ ∃ C, Srt c (A ++ R) C ∧ Nats w' G (P ++ (C ++ S)) ∧ Below B w0 w'
def SymSpec (c : Nat → Nat → Int) (N B G n cap : Nat) (w0 : World) (la : Option Addr) (ln lc d : Nat) : Prop := ∀ (P A R S : List Nat) (a m b : Nat) (w : World), A.length + R.length ≤ d → 1 ≤ A.length → 1 ≤ R.length → a = P.length → m = a + A.length → b = m + R.length →
    (P ++ (A ++ (R ++ S))).length = n → (∀ y ∈ P ++ (A ++ (R ++ S)), y < N) → Runs c A R → Below B w0 w → Nats w G (P ++ (A ++ (R ++ S))) →
    Calls Try.prog 93 #[.slice (some ⟨G, 0, none⟩) n cap, .int .i64 (a : Int), .int .i64 (m : Int), .int .i64 (b : Int), (.func (.func 57) #[.slice la ln lc] #[])] w (SymPost c G B w0 P A R S)
def FndE (c : Nat → Nat → Int) (ys : List Nat) (p lo i : Nat) : Prop := lo < i → ¬ c (ys.getD (p - (i - 1)) 0) (ys.getD (i - 1) 0) < 0
def FndF (c : Nat → Nat → Int) (ys : List Nat) (p hi j : Nat) : Prop := j < hi → c (ys.getD (p - j) 0) (ys.getD j 0) < 0
theorem srt_self {c : Nat → Nat → Int} {A R : List Nat} (h : Runs c A R) (e : A = [] ∨ R = []) : Srt c (A ++ R) (A ++ R) := by
  refine ⟨List.Perm.refl _, ?_⟩
  rcases e with rfl | rfl
  · simpa using h.b
  · simpa using h.a
theorem parts_eq (P A R S : List Nat) (s t : Nat) (h : A.drop s = [] ∨ R.take t = []) : P ++ (A ++ (R ++ S)) = P ++ (A.take s ++ (R.take t ++ (A.drop s ++ (R.drop t ++ S)))) := by
  have hA : A = A.take s ++ A.drop s := (List.take_append_drop s A).symm
  have hR : R = R.take t ++ R.drop t := (List.take_append_drop t R).symm
  rcases h with h | h
  · rw [h, List.nil_append, ← List.append_assoc (R.take t), ← hR]
    rw [h, List.append_nil] at hA
    rw [← hA]
  · rw [h, List.nil_append, ← List.append_assoc (A.take s), ← hA]
    rw [h, List.nil_append] at hR
    rw [← hR]
theorem parts_rot (P A R S : List Nat) (a m en st s t : Nat) (ha : a = P.length) (hm : m = a + A.length) (hs : st = a + s) (ht : en = m + t) (hsl : s < A.length) (htl : 0 < t) (htr : t ≤ R.length) :
    rotF (en - st) m (m - st) (en - m) (P ++ (A ++ (R ++ S))) = P ++ (A.take s ++ (R.take t ++ (A.drop s ++ (R.drop t ++ S)))) := by
  have hA : A = A.take s ++ A.drop s := (List.take_append_drop s A).symm
  have hR : R = R.take t ++ R.drop t := (List.take_append_drop t R).symm
  have l1 : (A.take s).length = s := by rw [List.length_take]; omega
  have l2 : (A.drop s).length = A.length - s := by rw [List.length_drop]
  have l3 : (R.take t).length = t := by rw [List.length_take]; omega
  have r := rot_app (en - st) (A.drop s) (R.take t) (P ++ A.take s) (R.drop t ++ S) (by omega) (by omega) (by omega)
  rw [l2, l3, List.length_append, l1] at r
  rw [show m - st = A.length - s by omega, show en - m = t by omega, show m = P.length + s + (A.length - s) by omega]
  have e : P ++ A.take s ++ (A.drop s ++ (R.take t ++ (R.drop t ++ S))) = P ++ (A ++ (R ++ S)) := by
    rw [List.append_assoc, ← List.append_assoc (A.take s), ← hA, ← List.append_assoc (R.take t), ← hR]
  rw [e] at r
  rw [r, List.append_assoc]
theorem parts_mem {P A R S : List Nat} {s t : Nat} {y : Nat} (h : y ∈ P ++ (A.take s ++ (R.take t ++ (A.drop s ++ (R.drop t ++ S))))) : y ∈ P ++ (A ++ (R ++ S)) := by
  simp only [List.mem_append] at h ⊢
  rcases h with h | h | h | h | h | h
  · exact Or.inl h
  · exact Or.inr (Or.inl (List.mem_of_mem_take h))
  · exact Or.inr (Or.inr (Or.inl (List.mem_of_mem_take h)))
  · exact Or.inr (Or.inl (List.mem_of_mem_drop h))
  · exact Or.inr (Or.inr (Or.inl (List.mem_of_mem_drop h)))
  · exact Or.inr (Or.inr (Or.inr h))
set_option maxRecDepth 100000 in
set_option maxHeartbeats 16000000 in
theorem symC (c : Nat → Nat → Int) (o : Ord3 c) (N B G n cap : Nat) (w0 : World) (la : Option Addr) (ln lc : Nat) (hB : B ≤ G) (hn : n ≤ 1000)
    (HC : ∀ (w' : World) (x y : Nat), Below B w0 w' → x < N → y < N → Calls Try.prog 57 #[.slice la ln lc, .int .i64 (x : Int), .int .i64 (y : Int)] w' fun e w2 => e = .returned (.int .i64 (c x y)) ∧ Below w'.heap.size w' w2) (d : Nat) (ih : SymSpec c N B G n cap w0 la ln lc d)
    (P A R S : List Nat) (a m b mid lo hi : Nat) (hd : A.length + R.length ≤ d + 1) (ha : a = P.length) (hm : m = a + A.length) (hb : b = m + R.length) (hA1 : 2 ≤ A.length) (hR1 : 2 ≤ R.length) (hl : (P ++ (A ++ (R ++ S))).length = n) (hN : ∀ y' ∈ P ++ (A ++ (R ++ S)), y' < N) (hR : Runs c A R)
    (hmid : (a + b) / 2 = mid) (hc : (mid < m ∧ lo = mid + m - b ∧ hi = mid) ∨ (¬ mid < m ∧ lo = a ∧ hi = m)) (w : World) (hw : Below B w0 w) (hG : Nats w G (P ++ (A ++ (R ++ S)))) :
    Calls Try.prog 93 #[.slice (some ⟨G, 0, none⟩) n cap, .int .i64 (a : Int), .int .i64 (m : Int), .int .i64 (b : Int), (.func (.func 57) #[.slice la ln lc] #[])] w (SymPost c G B w0 P A R S) := by
  have e0 : ((m : Int) - (a : Int) == 1) = false := by simp; omega
  have e1 : ((b : Int) - (m : Int) == 1) = false := by simp; omega
  have hbn : b ≤ n := by rw [← hl]; simp only [List.length_append]; omega
  have hh0 := half_cast a b
  rw [hmid] at hh0
  have hlo : mid + m ≤ lo + b := by omega
  have hhm : hi ≤ mid := by omega
  have hhi : hi ≤ m := by omega
  have hla : a ≤ lo := by omega
  have hlh : lo ≤ hi := by omega
  have hmidb : mid < b := by omega
  have hamid : a < mid := by omega
  have HD : Hid (A.length + R.length ≤ d + 1) := hd
  have HAR : Hid (2 ≤ A.length ∧ 2 ≤ R.length) := ⟨hA1, hR1⟩
  have HM2 : Hid ((mid < m ∧ lo = mid + m - b ∧ hi = mid) ∨ (¬ mid < m ∧ lo = a ∧ hi = m)) := hc
  obtain ⟨ys, hys⟩ : ∃ ys, P ++ (A ++ (R ++ S)) = ys := ⟨_, rfl⟩
  have gA : Hid (∀ k, k < A.length → ys.getD (a + k) 0 = A.getD k 0) := fun k hk => by
    rw [← hys, ha]
    exact seg_a hk
  have gB : Hid (∀ k, k < R.length → ys.getD (m + k) 0 = R.getD k 0) := fun k hk => by
    rw [← hys, hm, ha]
    exact seg_b hk
  have HY : Hid (P ++ (A ++ (R ++ S)) = ys) := hys
  rw [hys] at hl hN hG
  have HNN : Hid (∀ y ∈ ys, y < N) := hN
  have HR : Hid (Runs c A R) := hR
  have HL : Hid (ys.length = n) := hl
  have HP : Hid (a = P.length) := ha
  have HM : Hid (m = a + A.length ∧ b = m + R.length) := ⟨hm, hb⟩
  have hmb : m < b := by omega
  have ham : a < m := by omega
  clear hys hR hl hN hb ha hm hd hA1 hR1 hmid
  go_enter Try.func93, Try.ntmps93
  go_upto_if 140 with fail
  go_cut [20, 21] from 140 to 146 (fun u v wx => u = .int .i64 (lo : Int) ∧ v = .int .i64 (hi : Int) ∧ w = wx)
  case first =>
    rcases hc with ⟨h1, rfl, rfl⟩ | ⟨h1, rfl, rfl⟩
    · have e3 : ((hi + m - b : Nat) : Int) = (hi : Int) + (m : Int) - (b : Int) := by omega
      go_wp2_with fail
      go_meet
      exact ⟨by rw [e3], rfl, rfl⟩
    · go_wp2_with fail
      go_meet
      exact ⟨rfl, rfl, rfl⟩
  case rest =>
    obtain ⟨rfl, rfl, rfl⟩ := hcut
    clear hc
    go_wp2_with fail
    go_loopw [20, 21] (fun u v wr => ∃ i j : Nat, u = .int .i64 i ∧ v = .int .i64 j ∧ lo ≤ i ∧ i ≤ j ∧ j ≤ hi ∧ FndE c ys (mid + m - 1) lo i ∧ FndF c ys (mid + m - 1) hi j ∧ Nats wr G ys ∧ Below B w0 wr) (fun u v _ => (intOf v).toNat - (intOf u).toNat)
    case atStart => exact ⟨lo, hi, rfl, rfl, Nat.le_refl _, hlh, Nat.le_refl _, fun h => absurd h (Nat.lt_irrefl _), fun h => absurd h (Nat.lt_irrefl _), hG, hw⟩
    case round =>
      clear hG hw
      obtain ⟨i, j, rfl, rfl, hmi, hij, hjb, Q1, Q2, hGr, hbr⟩ := hrel
      by_cases hlt : i < j
      · have hh := half_cast i j
        obtain ⟨h, hdef⟩ : ∃ h, (i + j) / 2 = h := ⟨_, rfl⟩
        rw [hdef] at hh
        have hi1 : i ≤ h := by omega
        have hi2 : h < j := by omega
        clear hdef
        obtain ⟨q0, hq0⟩ : ∃ q0, mid + m - 1 - h = q0 := ⟨_, rfl⟩
        have hq1 : q0 < n := by omega
        have hq2 : (mid : Int) + (m : Int) - 1 - (h : Int) = (q0 : Int) := by omega
        have k1 := hGr.cellD (j := q0) (by rw [HL.out]; omega)
        have k2 := hGr.cellD (j := h) (by rw [HL.out]; omega)
        have HC1 := fun w' (g : Below B w0 w') => HC w' (ys.getD q0 0) (ys.getD h 0) g (getD_lt HNN.out (by rw [HL.out]; omega)) (getD_lt HNN.out (by rw [HL.out]; omega))
        obtain ⟨z, hz⟩ : ∃ z, ys.getD q0 0 = z := ⟨_, rfl⟩
        obtain ⟨y, hy⟩ : ∃ y, ys.getD h 0 = y := ⟨_, rfl⟩
        simp only [hz, hy] at HC1
        rw [hz] at k1
        rw [hy] at k2
        have ix := fun w' => elem_nat w' G n cap q0 hq1
        have W1 : IntKind.i64.wrap ((mid : Int) + (m : Int) - 1 - (h : Int)) = (mid : Int) + (m : Int) - 1 - (h : Int) := by rw [IntWalk.i64_left]; exact IntWalk.wrap64_in _ (by omega)
        rw [← hq2] at ix
        have iy := fun w' => elem_nat w' G n cap h (by omega)
        have H0 : ∀ w', Below wr.heap.size wr w' → w'.cell? ⟨G, q0, none⟩ = some (.int .i64 (z : Int)) ∧ w'.cell? ⟨G, h, none⟩ = some (.int .i64 (y : Int)) ∧ Below wr.heap.size wr w' := fun w' g => ⟨(g.cell (cell_lt k1)).trans k1, (g.cell (cell_lt k2)).trans k2, g⟩
        by_cases q : c z y < 0
        · have Q3 : FndF c ys (mid + m - 1) hi h := fun _ => by rw [hq0, hz, hy]; exact q
          have nq : (!decide (c z y < 0)) = false := by simp [q]
          clear hz hy hq0 hq2 ih
          go_wp2_with fail
          go_region_held3 (fun w' => w'.cell? ⟨G, q0, none⟩ = some (.int .i64 (z : Int)) ∧ w'.cell? ⟨G, h, none⟩ = some (.int .i64 (y : Int)) ∧ Below wr.heap.size wr w') (exact H0 _ (by go_grown))
            ((go_at_call 57; (with_reducible refine (HC1 _ (by first | exact hbr.drew | exact hbr)).mono ?_); rintro e w1 ⟨rfl, b1⟩; (have e1 : Below wr.heap.size wr w1 := Below.then (by go_grown) b1); (have S1 := e1.size)))
          have G1 := hGr.below e1
          have B1 : Below B w0 w1 := hbr.trans (e1.mono (by have := hGr.lt; omega))
          clear H0 HC HC1 k1 k2 e1 b1 S1
          go_wp2_with fail
          go_roundw
          case rel => exact ⟨i, h, rfl, rfl, by omega, by omega, by omega, Q1, Q3, G1, B1⟩
          case measure => simp [intOf]; omega
        · have Q3 : FndE c ys (mid + m - 1) lo (h + 1) := fun _ => by rw [show h + 1 - 1 = h by omega, hq0, hz, hy]; exact q
          have nq : (!decide (c z y < 0)) = true := by rw [decide_eq_false q]; rfl
          clear hz hy hq0 hq2 ih
          go_wp2_with fail
          go_region_held3 (fun w' => w'.cell? ⟨G, q0, none⟩ = some (.int .i64 (z : Int)) ∧ w'.cell? ⟨G, h, none⟩ = some (.int .i64 (y : Int)) ∧ Below wr.heap.size wr w') (exact H0 _ (by go_grown))
            ((go_at_call 57; (with_reducible refine (HC1 _ (by first | exact hbr.drew | exact hbr)).mono ?_); rintro e w1 ⟨rfl, b1⟩; (have e1 : Below wr.heap.size wr w1 := Below.then (by go_grown) b1); (have S1 := e1.size)))
          have G1 := hGr.below e1
          have B1 : Below B w0 w1 := hbr.trans (e1.mono (by have := hGr.lt; omega))
          clear H0 HC HC1 k1 k2 e1 b1 S1
          go_wp2_with fail
          go_roundw
          case rel => exact ⟨h + 1, j, by go_num, rfl, by omega, by omega, hjb, Q3, Q2, G1, B1⟩
          case measure => simp [intOf]; omega
      · obtain rfl : i = j := by omega
        obtain ⟨s, hs⟩ : ∃ s, i = a + s := ⟨i - a, by omega⟩
        obtain ⟨t, ht⟩ : ∃ t, mid = i + t := ⟨mid - i, by omega⟩
        obtain ⟨en, hen⟩ : ∃ en, mid + m - i = en := ⟨_, rfl⟩
        have hM := HM.out
        have hAR := HAR.out
        have hD := HD.out
        have hM2 := HM2.out
        have hP := HP.out
        have hsl : s ≤ A.length := by omega
        have htl : t ≤ R.length := by omega
        have henI : (mid : Int) + (m : Int) - (i : Int) = (en : Int) := by omega
        have q1 : Hid (0 < s → t < R.length → ¬ c (R.getD t 0) (A.getD (s - 1) 0) < 0) := fun h1 h2 => by
          have := Q1 (by omega)
          rw [show mid + m - 1 - (i - 1) = m + t by omega, show i - 1 = a + (s - 1) by omega, gB.out t h2, gA.out (s - 1) (by omega)] at this
          exact this
        have q2 : Hid (s < A.length → 0 < t → c (R.getD (t - 1) 0) (A.getD s 0) < 0) := fun h1 h2 => by
          have := Q2 (by omega)
          rw [show mid + m - 1 - i = m + (t - 1) by omega, show i = a + s by omega, gB.out (t - 1) (by omega), gA.out s h1] at this
          exact this
        have PS : Hid (∀ C1 C2, Srt c (A.take s ++ R.take t) C1 → Srt c (A.drop s ++ R.drop t) C2 → Srt c (A ++ R) (C1 ++ C2)) := fun C1 C2 s1 s2 => parted_search o HR.out s t hsl htl q1.out q2.out s1 s2
        have RN := (show Runs c (A.take s ++ A.drop s) (R.take t ++ R.drop t) by rw [List.take_append_drop, List.take_append_drop]; exact HR.out).sub
        have l1 : (A.take s).length = s := by rw [List.length_take]; omega
        have l2 : (A.drop s).length = A.length - s := by rw [List.length_drop]
        have l3 : (R.take t).length = t := by rw [List.length_take]; omega
        have l4 : (R.drop t).length = R.length - t := by rw [List.length_drop]
        have l5 : (P ++ (A ++ (R ++ S))).length = n := by rw [HY.out]; exact HL.out
        have l6 : P.length + A.length + R.length + S.length = n := by rw [← l5]; simp only [List.length_append]; omega
        have MEM := fun y (h : y ∈ P ++ (A.take s ++ (R.take t ++ (A.drop s ++ (R.drop t ++ S))))) => HNN.out y (HY.out ▸ parts_mem h)
        -- what each of the three steps leaves
        have SR : Hid (i < m → i < mid → Calls Try.prog 101 #[.slice (some ⟨G, 0, none⟩) n cap, .int .i64 (i : Int), .int .i64 (m : Int), .int .i64 (en : Int), (.func (.func 57) #[.slice la ln lc] #[])] wr fun e w' => e = .returned (.tuple #[]) ∧ Nats w' G (P ++ (A.take s ++ (R.take t ++ (A.drop s ++ (R.drop t ++ S))))) ∧ Below B w0 w') := fun p1 p2 => by
          have r := rotQ B G n cap w0 (.func (.func 57) #[.slice la ln lc] #[]) hB hn i m en p1 (by omega) (by omega) ys HL.out wr hbr hGr
          rw [← HY.out, parts_rot P A R S a m en i s t hP hM.1 hs (by omega) (by omega) (by omega) htl] at r
          exact r
        have NR : Hid (¬ (i < m ∧ i < mid) → Nats wr G (P ++ (A.take s ++ (R.take t ++ (A.drop s ++ (R.drop t ++ S)))))) := fun p => by
          rw [← parts_eq P A R S s t (by
            by_cases h1 : i < m
            · exact Or.inr (List.eq_nil_of_length_eq_zero (by omega))
            · exact Or.inl (List.eq_nil_of_length_eq_zero (by omega))), HY.out]
          exact hGr
        have SL : Hid (a < i → i < mid → ∀ w', Below B w0 w' → Nats w' G (P ++ (A.take s ++ (R.take t ++ (A.drop s ++ (R.drop t ++ S))))) → Calls Try.prog 93 #[.slice (some ⟨G, 0, none⟩) n cap, .int .i64 (a : Int), .int .i64 (i : Int), .int .i64 (mid : Int), (.func (.func 57) #[.slice la ln lc] #[])] w' (SymPost c G B w0 P (A.take s) (R.take t) (A.drop s ++ (R.drop t ++ S)))) := fun p1 p2 w' b1 n1 =>
          ih P (A.take s) (R.take t) (A.drop s ++ (R.drop t ++ S)) a i mid w' (by omega) (by omega) (by omega) hP (by omega) (by omega) (by simp only [List.length_append, l1, l2, l3, l4]; omega) MEM RN.1 b1 n1
        have NL : Hid (¬ (a < i ∧ i < mid) → Srt c (A.take s ++ R.take t) (A.take s ++ R.take t)) := fun p => srt_self RN.1 (by
            by_cases h1 : a < i
            · exact Or.inr (List.eq_nil_of_length_eq_zero (by omega))
            · exact Or.inl (List.eq_nil_of_length_eq_zero (by omega)))
        have SQ : Hid (i < m → mid + m < i + b → ∀ C1, Srt c (A.take s ++ R.take t) C1 → ∀ w', Below B w0 w' → Nats w' G (P ++ (C1 ++ (A.drop s ++ (R.drop t ++ S)))) → Calls Try.prog 93 #[.slice (some ⟨G, 0, none⟩) n cap, .int .i64 (mid : Int), .int .i64 (en : Int), .int .i64 (b : Int), (.func (.func 57) #[.slice la ln lc] #[])] w' (SymPost c G B w0 (P ++ C1) (A.drop s) (R.drop t) S)) := fun p1 p2 C1 sc w' b1 n1 => by
          have lc : C1.length = s + t := by rw [sc.perm.length_eq, List.length_append, l1, l3]
          rw [← List.append_assoc] at n1
          exact ih (P ++ C1) (A.drop s) (R.drop t) S mid en b w' (by omega) (by omega) (by omega) (by rw [List.length_append]; omega) (by omega) (by omega) (by simp only [List.length_append, l2, l4]; omega) (fun y h => by
            rw [List.append_assoc] at h
            refine MEM y ?_
            rcases List.mem_append.1 h with h | h
            · exact List.mem_append_left _ h
            · rcases List.mem_append.1 h with h | h
              · rw [← List.append_assoc (A.take s)]
                exact List.mem_append_right _ (List.mem_append_left _ (sc.perm.mem_iff.1 h))
              · exact List.mem_append_right _ (List.mem_append_right _ (List.mem_append_right _ h))) RN.2 b1 n1
        have NQ : Hid (¬ (i < m ∧ mid + m < i + b) → Srt c (A.drop s ++ R.drop t) (A.drop s ++ R.drop t)) := fun p => srt_self RN.2 (by
            by_cases h1 : i < m
            · exact Or.inr (List.eq_nil_of_length_eq_zero (by omega))
            · exact Or.inl (List.eq_nil_of_length_eq_zero (by omega)))
        have K1 : i < mid → m < en := fun h => by omega
        have K2 : ¬ i < mid → ¬ m < en := fun h => by omega
        have K3 : i < m → mid < en := fun h => by omega
        have K4 : ¬ i < m → ¬ mid < en := fun h => by omega
        have K5 : mid + m < i + b → en < b := fun h => by omega
        have K6 : ¬ mid + m < i + b → ¬ en < b := fun h => by omega
        have hen1 : en ≤ b := by omega
        clear Q1 Q2 gA gB HNN HC ih MEM RN l1 l2 l3 l4 l5 l6 hAR hD hM2 hP hM hsl htl hs ht hen q1 q2 HM2 HAR HD HP HM HY HL HR
        by_cases p1 : i < m
        · by_cases p2 : i < mid
          · by_cases p3 : a < i
            · by_cases p4 : mid + m < i + b
              · have k1 := K1 p2
                have k3 := K3 p1
                have k5 := K5 p4
                have SR := SR.out p1 p2
                have SL := SL.out p3 p2
                have SQ := SQ.out p1 p4
                clear K1 K2 K3 K4 K5 K6 NR NL NQ
                go_wp2_with (first | (go_at_call 101; ((with_reducible refine SR.mono ?_); rintro e w3 ⟨rfl, n3, b3⟩; (have SL3 := SL _ b3 n3); clear SR)) | (go_at_call 93; ((with_reducible refine SL3.mono ?_); rintro e w4 ⟨rfl, C1, s1, n4, b4⟩; clear SL3; (have SQ4 := SQ _ s1 _ b4 n4))) | (go_at_call 93; ((with_reducible refine SQ4.mono ?_); rintro e w5 ⟨rfl, C2, s2, n5, b5⟩; clear SQ4)))
                first | go_end0 | refine bodyPost_ret (results_none rfl _ _ _) rfl ?_
                exact ⟨rfl, C1 ++ C2, PS.out _ _ s1 s2, by have := n5; rw [List.append_assoc] at this; simpa only [List.append_assoc] using this, b5⟩
              · have k1 := K1 p2
                have k3 := K3 p1
                have k5 := K6 p4
                have SR := SR.out p1 p2
                have SL := SL.out p3 p2
                have s2 := NQ.out (fun h => p4 h.2)
                clear K1 K2 K3 K4 K5 K6 NR NL NQ SQ
                go_wp2_with (first | (go_at_call 101; ((with_reducible refine SR.mono ?_); rintro e w3 ⟨rfl, n3, b3⟩; (have SL3 := SL _ b3 n3); clear SR)) | (go_at_call 93; ((with_reducible refine SL3.mono ?_); rintro e w4 ⟨rfl, C1, s1, n4, b4⟩; clear SL3)))
                first | go_end0 | refine bodyPost_ret (results_none rfl _ _ _) rfl ?_
                exact ⟨rfl, C1 ++ (A.drop s ++ R.drop t), PS.out _ _ s1 s2, by simpa only [List.append_assoc] using n4, b4⟩
            · by_cases p4 : mid + m < i + b
              · have k1 := K1 p2
                have k3 := K3 p1
                have k5 := K5 p4
                have SR := SR.out p1 p2
                have s1 := NL.out (fun h => p3 h.1)
                have SQ := SQ.out p1 p4
                clear K1 K2 K3 K4 K5 K6 NR NL NQ SL
                go_wp2_with (first | (go_at_call 101; ((with_reducible refine SR.mono ?_); rintro e w3 ⟨rfl, n3, b3⟩; (have n4 := n3); (have b4 := b3); (have SQ4 := SQ _ s1 _ b4 (by rw [List.append_assoc]; exact n4)); clear SR)) | (go_at_call 93; ((with_reducible refine SQ4.mono ?_); rintro e w5 ⟨rfl, C2, s2, n5, b5⟩; clear SQ4)))
                first | go_end0 | refine bodyPost_ret (results_none rfl _ _ _) rfl ?_
                exact ⟨rfl, (A.take s ++ R.take t) ++ C2, PS.out _ _ s1 s2, by have := n5; rw [List.append_assoc] at this; simpa only [List.append_assoc] using this, b5⟩
              · have k1 := K1 p2
                have k3 := K3 p1
                have k5 := K6 p4
                have SR := SR.out p1 p2
                have s1 := NL.out (fun h => p3 h.1)
                have s2 := NQ.out (fun h => p4 h.2)
                clear K1 K2 K3 K4 K5 K6 NR NL NQ SL SQ
                go_wp2_with (first | (go_at_call 101; ((with_reducible refine SR.mono ?_); rintro e w3 ⟨rfl, n3, b3⟩; (have n4 := n3); (have b4 := b3); clear SR)))
                first | go_end0 | refine bodyPost_ret (results_none rfl _ _ _) rfl ?_
                exact ⟨rfl, (A.take s ++ R.take t) ++ (A.drop s ++ R.drop t), PS.out _ _ s1 s2, by simpa only [List.append_assoc] using n4, b4⟩
          · by_cases p3 : a < i
            · by_cases p4 : mid + m < i + b
              · have k1 := K2 p2
                have k3 := K3 p1
                have k5 := K5 p4
                have n3 := NR.out (fun h => p2 h.2)
                have b3 := hbr
                have s1 := NL.out (fun h => p2 h.2)
                have SQ := SQ.out p1 p4
                have n4 := n3
                have b4 := b3
                have SQ4 := SQ _ s1 _ b4 (by rw [List.append_assoc]; exact n4)
                clear K1 K2 K3 K4 K5 K6 NR NL NQ SR SL
                go_wp2_with (first | (go_at_call 93; ((with_reducible refine SQ4.mono ?_); rintro e w5 ⟨rfl, C2, s2, n5, b5⟩; clear SQ4)))
                first | go_end0 | refine bodyPost_ret (results_none rfl _ _ _) rfl ?_
                exact ⟨rfl, (A.take s ++ R.take t) ++ C2, PS.out _ _ s1 s2, by have := n5; rw [List.append_assoc] at this; simpa only [List.append_assoc] using this, b5⟩
              · have k1 := K2 p2
                have k3 := K3 p1
                have k5 := K6 p4
                have n3 := NR.out (fun h => p2 h.2)
                have b3 := hbr
                have s1 := NL.out (fun h => p2 h.2)
                have s2 := NQ.out (fun h => p4 h.2)
                have n4 := n3
                have b4 := b3
                clear K1 K2 K3 K4 K5 K6 NR NL NQ SR SL SQ
                go_wp2_with (fail)
                first | go_end0 | refine bodyPost_ret (results_none rfl _ _ _) rfl ?_
                exact ⟨rfl, (A.take s ++ R.take t) ++ (A.drop s ++ R.drop t), PS.out _ _ s1 s2, by simpa only [List.append_assoc] using n4, b4⟩
            · by_cases p4 : mid + m < i + b
              · have k1 := K2 p2
                have k3 := K3 p1
                have k5 := K5 p4
                have n3 := NR.out (fun h => p2 h.2)
                have b3 := hbr
                have s1 := NL.out (fun h => p3 h.1)
                have SQ := SQ.out p1 p4
                have n4 := n3
                have b4 := b3
                have SQ4 := SQ _ s1 _ b4 (by rw [List.append_assoc]; exact n4)
                clear K1 K2 K3 K4 K5 K6 NR NL NQ SR SL
                go_wp2_with (first | (go_at_call 93; ((with_reducible refine SQ4.mono ?_); rintro e w5 ⟨rfl, C2, s2, n5, b5⟩; clear SQ4)))
                first | go_end0 | refine bodyPost_ret (results_none rfl _ _ _) rfl ?_
                exact ⟨rfl, (A.take s ++ R.take t) ++ C2, PS.out _ _ s1 s2, by have := n5; rw [List.append_assoc] at this; simpa only [List.append_assoc] using this, b5⟩
              · have k1 := K2 p2
                have k3 := K3 p1
                have k5 := K6 p4
                have n3 := NR.out (fun h => p2 h.2)
                have b3 := hbr
                have s1 := NL.out (fun h => p3 h.1)
                have s2 := NQ.out (fun h => p4 h.2)
                have n4 := n3
                have b4 := b3
                clear K1 K2 K3 K4 K5 K6 NR NL NQ SR SL SQ
                go_wp2_with (fail)
                first | go_end0 | refine bodyPost_ret (results_none rfl _ _ _) rfl ?_
                exact ⟨rfl, (A.take s ++ R.take t) ++ (A.drop s ++ R.drop t), PS.out _ _ s1 s2, by simpa only [List.append_assoc] using n4, b4⟩
        · by_cases p2 : i < mid
          · by_cases p3 : a < i
            · by_cases p4 : mid + m < i + b
              · have k1 := K1 p2
                have k3 := K4 p1
                have k5 := K5 p4
                have n3 := NR.out (fun h => p1 h.1)
                have b3 := hbr
                have SL := SL.out p3 p2
                have SL3 := SL _ b3 n3
                have s2 := NQ.out (fun h => p1 h.1)
                clear K1 K2 K3 K4 K5 K6 NR NL NQ SR SQ
                go_wp2_with (first | (go_at_call 93; ((with_reducible refine SL3.mono ?_); rintro e w4 ⟨rfl, C1, s1, n4, b4⟩; clear SL3)))
                first | go_end0 | refine bodyPost_ret (results_none rfl _ _ _) rfl ?_
                exact ⟨rfl, C1 ++ (A.drop s ++ R.drop t), PS.out _ _ s1 s2, by simpa only [List.append_assoc] using n4, b4⟩
              · have k1 := K1 p2
                have k3 := K4 p1
                have k5 := K6 p4
                have n3 := NR.out (fun h => p1 h.1)
                have b3 := hbr
                have SL := SL.out p3 p2
                have SL3 := SL _ b3 n3
                have s2 := NQ.out (fun h => p1 h.1)
                clear K1 K2 K3 K4 K5 K6 NR NL NQ SR SQ
                go_wp2_with (first | (go_at_call 93; ((with_reducible refine SL3.mono ?_); rintro e w4 ⟨rfl, C1, s1, n4, b4⟩; clear SL3)))
                first | go_end0 | refine bodyPost_ret (results_none rfl _ _ _) rfl ?_
                exact ⟨rfl, C1 ++ (A.drop s ++ R.drop t), PS.out _ _ s1 s2, by simpa only [List.append_assoc] using n4, b4⟩
            · by_cases p4 : mid + m < i + b
              · have k1 := K1 p2
                have k3 := K4 p1
                have k5 := K5 p4
                have n3 := NR.out (fun h => p1 h.1)
                have b3 := hbr
                have s1 := NL.out (fun h => p3 h.1)
                have s2 := NQ.out (fun h => p1 h.1)
                have n4 := n3
                have b4 := b3
                clear K1 K2 K3 K4 K5 K6 NR NL NQ SR SL SQ
                go_wp2_with (fail)
                first | go_end0 | refine bodyPost_ret (results_none rfl _ _ _) rfl ?_
                exact ⟨rfl, (A.take s ++ R.take t) ++ (A.drop s ++ R.drop t), PS.out _ _ s1 s2, by simpa only [List.append_assoc] using n4, b4⟩
              · have k1 := K1 p2
                have k3 := K4 p1
                have k5 := K6 p4
                have n3 := NR.out (fun h => p1 h.1)
                have b3 := hbr
                have s1 := NL.out (fun h => p3 h.1)
                have s2 := NQ.out (fun h => p1 h.1)
                have n4 := n3
                have b4 := b3
                clear K1 K2 K3 K4 K5 K6 NR NL NQ SR SL SQ
                go_wp2_with (fail)
                first | go_end0 | refine bodyPost_ret (results_none rfl _ _ _) rfl ?_
                exact ⟨rfl, (A.take s ++ R.take t) ++ (A.drop s ++ R.drop t), PS.out _ _ s1 s2, by simpa only [List.append_assoc] using n4, b4⟩
          · by_cases p3 : a < i
            · by_cases p4 : mid + m < i + b
              · have k1 := K2 p2
                have k3 := K4 p1
                have k5 := K5 p4
                have n3 := NR.out (fun h => p1 h.1)
                have b3 := hbr
                have s1 := NL.out (fun h => p2 h.2)
                have s2 := NQ.out (fun h => p1 h.1)
                have n4 := n3
                have b4 := b3
                clear K1 K2 K3 K4 K5 K6 NR NL NQ SR SL SQ
                go_wp2_with (fail)
                first | go_end0 | refine bodyPost_ret (results_none rfl _ _ _) rfl ?_
                exact ⟨rfl, (A.take s ++ R.take t) ++ (A.drop s ++ R.drop t), PS.out _ _ s1 s2, by simpa only [List.append_assoc] using n4, b4⟩
              · have k1 := K2 p2
                have k3 := K4 p1
                have k5 := K6 p4
                have n3 := NR.out (fun h => p1 h.1)
                have b3 := hbr
                have s1 := NL.out (fun h => p2 h.2)
                have s2 := NQ.out (fun h => p1 h.1)
                have n4 := n3
                have b4 := b3
                clear K1 K2 K3 K4 K5 K6 NR NL NQ SR SL SQ
                go_wp2_with (fail)
                first | go_end0 | refine bodyPost_ret (results_none rfl _ _ _) rfl ?_
                exact ⟨rfl, (A.take s ++ R.take t) ++ (A.drop s ++ R.drop t), PS.out _ _ s1 s2, by simpa only [List.append_assoc] using n4, b4⟩
            · by_cases p4 : mid + m < i + b
              · have k1 := K2 p2
                have k3 := K4 p1
                have k5 := K5 p4
                have n3 := NR.out (fun h => p1 h.1)
                have b3 := hbr
                have s1 := NL.out (fun h => p3 h.1)
                have s2 := NQ.out (fun h => p1 h.1)
                have n4 := n3
                have b4 := b3
                clear K1 K2 K3 K4 K5 K6 NR NL NQ SR SL SQ
                go_wp2_with (fail)
                first | go_end0 | refine bodyPost_ret (results_none rfl _ _ _) rfl ?_
                exact ⟨rfl, (A.take s ++ R.take t) ++ (A.drop s ++ R.drop t), PS.out _ _ s1 s2, by simpa only [List.append_assoc] using n4, b4⟩
              · have k1 := K2 p2
                have k3 := K4 p1
                have k5 := K6 p4
                have n3 := NR.out (fun h => p1 h.1)
                have b3 := hbr
                have s1 := NL.out (fun h => p3 h.1)
                have s2 := NQ.out (fun h => p1 h.1)
                have n4 := n3
                have b4 := b3
                clear K1 K2 K3 K4 K5 K6 NR NL NQ SR SL SQ
                go_wp2_with (fail)
                first | go_end0 | refine bodyPost_ret (results_none rfl _ _ _) rfl ?_
                exact ⟨rfl, (A.take s ++ R.take t) ++ (A.drop s ++ R.drop t), PS.out _ _ s1 s2, by simpa only [List.append_assoc] using n4, b4⟩
theorem sym_all (c : Nat → Nat → Int) (o : Ord3 c) (N B G n cap : Nat) (w0 : World) (la : Option Addr) (ln lc : Nat) (hB : B ≤ G) (hn : n ≤ 1000)
    (HC : ∀ (w' : World) (x y : Nat), Below B w0 w' → x < N → y < N → Calls Try.prog 57 #[.slice la ln lc, .int .i64 (x : Int), .int .i64 (y : Int)] w' fun e w2 => e = .returned (.int .i64 (c x y)) ∧ Below w'.heap.size w' w2) : ∀ d, SymSpec c N B G n cap w0 la ln lc d
  | 0 => fun P A R S a m b w hd h1 h2 => by omega
  | d + 1 => fun P A R S a m b w hd h1 h2 ha hm hb hl hN hR hw hG => by
    by_cases hA : A.length = 1
    · match A, hA with
      | [x], _ => exact symA c o N B G n cap w0 la ln lc hB hn HC P R S x a m b ha (by simpa using hm) hb hl hN hR w hw hG
    · by_cases hR1 : R.length = 1
      · match R, hR1 with
        | [y], _ => exact symB c o N B G n cap w0 la ln lc hB hn HC P A S y a m b ha hm (by simpa using hb) (by omega) hl hN hR w hw hG
      · have ih := sym_all c o N B G n cap w0 la ln lc hB hn HC d
        by_cases g : (a + b) / 2 < m
        · exact symC c o N B G n cap w0 la ln lc hB hn HC d ih P A R S a m b ((a + b) / 2) ((a + b) / 2 + m - b) ((a + b) / 2) hd ha hm hb (by omega) (by omega) hl hN hR rfl (Or.inl ⟨g, rfl, rfl⟩) w hw hG
        · exact symC c o N B G n cap w0 la ln lc hB hn HC d ih P A R S a m b ((a + b) / 2) a m hd ha hm hb (by omega) (by omega) hl hN hR rfl (Or.inr ⟨g, rfl, rfl⟩) w hw hG
end Go.Proofs.Ytkjbccodahleoaa.Shape

namespace Go.Proofs.Ytkjbccodahleoaa.Shape
open Go.RowKit
set_option linter.unusedVariables false
set_option linter.unusedSimpArgs false

theorem range_cut (a k n : Nat) (h1 : 1 ≤ k) (h2 : a + k ≤ n) : List.range' a (n - a) = [a] ++ (List.range' (a + 1) (k - 1) ++ List.range' (a + k) (n - a - k)) := by
  have e1 : List.range' a (n - a) = List.range' a k ++ List.range' (a + k) (n - a - k) := by
    rw [List.range'_append_1]; congr 1; omega
  have e2 : List.range' a k = [a] ++ List.range' (a + 1) (k - 1) := by
    obtain ⟨j, rfl⟩ : ∃ j, k = j + 1 := ⟨k - 1, by omega⟩
    rw [List.range'_succ]; rfl
  rw [e1, e2, List.append_assoc]
theorem range_up (a k : Nat) : (List.range' a k).Pairwise (· < ·) := by
  have := List.pairwise_lt_range' (s := a) (n := k) (step := 1)
  exact this
theorem ins_block {c : Nat → Nat → Int} (o : Ord3 c) (P : List Nat) (a k n : Nat) (ha : P.length = a) (h1 : 1 ≤ k) (h2 : a + k ≤ n) :
    ∃ C, insF c a (k - 1) (a + 1) (P ++ List.range' a (n - a)) = P ++ (C ++ List.range' (a + k) (n - a - k)) ∧ Srt c (List.range' a k) C ∧ C.length = k := by
  have e2 : List.range' a k = [a] ++ List.range' (a + 1) (k - 1) := by
    obtain ⟨j, rfl⟩ : ∃ j, k = j + 1 := ⟨k - 1, by omega⟩
    rw [List.range'_succ]; rfl
  obtain ⟨C, hC, hq⟩ := insF_srt o (List.range' (a + 1) (k - 1)) [a] P (List.range' (a + k) (n - a - k)) (by simp) (Or.inl (by rw [← e2]; exact range_up a k))
  rw [← e2] at hq
  rw [range_cut a k n h1 h2]
  rw [List.length_range', ha] at hC
  exact ⟨C, hC, hq, by rw [hq.perm.length_eq, List.length_range']⟩
theorem flat_two (D : List (List Nat)) (X Y : List Nat) (r : List (List Nat)) : (D ++ X :: Y :: r).flatten = D.flatten ++ (X ++ (Y ++ r.flatten)) := by simp
theorem flat_one (D : List (List Nat)) (C : List Nat) (r : List (List Nat)) : (D ++ [C] ++ r).flatten = D.flatten ++ (C ++ r.flatten) := by simp
/-- Two blocks merged into one. -/
theorem bok_merge {c : Nat → Nat → Int} {D : List (List Nat)} {X Y C : List Nat} {r : List (List Nat)} (h : Bok c 0 (D ++ X :: Y :: r)) (hC : Srt c (X ++ Y) C) : Runs c X Y ∧ Bok c 0 (D ++ [C] ++ r) := by
  rw [bok_app] at h
  obtain ⟨h1, h2, h3, h4⟩ := h
  have hl : C.length = X.length + Y.length := by have := hC.perm.length_eq; simpa using this
  refine ⟨runs_blocks h2 h3, ?_⟩
  rw [List.append_assoc, bok_app]
  refine ⟨h1, srt_blocks h2 h3 hC, ?_⟩
  show Bok c (0 + D.flatten.length + C.length) r
  rw [hl, ← Nat.add_assoc]
  exact h4
theorem bok_runs {c : Nat → Nat → Int} {D : List (List Nat)} {X Y : List Nat} {r : List (List Nat)} (h : Bok c 0 (D ++ X :: Y :: r)) : Runs c X Y := by
  rw [bok_app] at h
  exact runs_blocks h.2.1 h.2.2.1
/-- All numbers of the blocks are below their count. -/
theorem bok_lt {c : Nat → Nat → Int} : ∀ {L : List (List Nat)} {lo : Nat}, Bok c lo L → ∀ y ∈ L.flatten, y < lo + L.flatten.length
  | [], lo, _, y, hy => by simp at hy
  | X :: r, lo, h, y, hy => by
    rw [List.flatten_cons] at hy ⊢
    rw [List.length_append]
    rcases List.mem_append.1 hy with hy | hy
    · have := h.1.perm.mem_iff.1 hy
      rw [List.mem_range'_1] at this
      omega
    · have := bok_lt h.2 y hy
      omega
/-- Sorted: what the stable sort leaves. -/
def StOut (c : Nat → Nat → Int) (G B n : Nat) (w0 : World) (e : Ending) (w' : World) : Prop := e = .returned (.tuple #[]) ∧ ∃ C, Srt c (List.range n) C ∧ Nats w' G C ∧ Below B w0 w'
set_option maxRecDepth 100000 in
set_option maxHeartbeats 16000000 in
theorem stableQ (c : Nat → Nat → Int) (o : Ord3 c) (N B G n cap : Nat) (w0 : World) (la : Option Addr) (ln lc : Nat) (hB : B ≤ G) (hn : n ≤ 1000)
    (HC : ∀ (w' : World) (x y : Nat), Below B w0 w' → x < N → y < N → Calls Try.prog 57 #[.slice la ln lc, .int .i64 (x : Int), .int .i64 (y : Int)] w' fun e w2 => e = .returned (.int .i64 (c x y)) ∧ Below w'.heap.size w' w2) (hNn : n ≤ N) (w : World) (hw : Below B w0 w) (hG : Nats w G (List.range n)) :
    Calls Try.prog 78 #[.slice (some ⟨G, 0, none⟩) n cap, .int .i64 (n : Int), (.func (.func 57) #[.slice la ln lc] #[])] w (StOut c G B n w0) := by
  rw [List.range_eq_range'] at hG
  go_enter Try.func78, Try.ntmps78
  go_wp2_with fail
  go_loopw [7, 8] (fun u v wr => ∃ (L : List (List Nat)) (a : Nat), u = .int .i64 a ∧ v = .int .i64 ((a : Int) + 20) ∧ a ≤ n ∧ Hid (L.flatten.length = a) ∧ Hid (∀ X ∈ L, X.length = 20) ∧ Bok c 0 L ∧ Nats wr G (L.flatten ++ List.range' a (n - a)) ∧ Below B w0 wr) (fun u _ _ => n - (intOf u).toNat)
  case atStart => exact ⟨[], 0, rfl, rfl, Nat.zero_le _, rfl, (fun X h => by cases h), trivial, by simpa using hG, hw⟩
  case round =>
    clear hG hw
    obtain ⟨L, a, rfl, rfl, han, hL, hX, hk, hGr, hbr⟩ := hrel
    have hlen : (L.flatten ++ List.range' a (n - a)).length = n := by rw [List.length_append, hL.out, List.length_range']; omega
    have hlt0 : ∀ x ∈ L.flatten ++ List.range' a (n - a), x < N := fun x hx => by
      rcases List.mem_append.1 hx with h | h
      · have := bok_lt hk x h
        rw [hL.out] at this
        omega
      · rw [List.mem_range'_1] at h
        omega
    by_cases hlt : (a : Int) + 20 ≤ (n : Int)
    · have I := insSort c N B G n cap a (a + 20) w0 la ln lc hB hn (by omega) HC _ hlen hlt0 (by omega) wr hbr hGr
      obtain ⟨C, hC, sC, lC⟩ := ins_block o L.flatten a 20 n hL.out (by decide) (by omega)
      rw [show a + 20 - (a + 1) = 20 - 1 by omega, hC, show ((a + 20 : Nat) : Int) = (a : Int) + 20 by omega] at I
      have hX' : Hid (∀ X ∈ L ++ [C], X.length = 20) := fun X h => by
        rcases List.mem_append.1 h with h | h
        · exact hX.out X h
        · obtain rfl : X = C := by simpa using h
          exact lC
      have hL' : Hid ((L ++ [C]).flatten.length = a + 20) := by
        unfold Hid
        rw [List.flatten_append, List.length_append, hL.out]
        simp [lC]
      have hk' : Bok c 0 (L ++ [C]) := by
        rw [bok_app]
        refine ⟨hk, ?_, trivial⟩
        rw [hL.out, Nat.zero_add, lC]
        exact sC
      have hD : Hid (L.flatten ++ (C ++ List.range' (a + 20) (n - a - 20)) = (L ++ [C]).flatten ++ List.range' (a + 20) (n - (a + 20))) := by
        unfold Hid
        rw [show n - a - 20 = n - (a + 20) by omega]
        simp
      clear HC hlen hlt0 hC sC lC hGr hk hX hL
      generalize L.flatten ++ (C ++ List.range' (a + 20) (n - a - 20)) = zs at *
      go_wp2_with (go_at_call 92; (with_reducible refine I.mono ?_); rintro e w1 ⟨rfl, n1, b1⟩)
      go_roundw
      case rel => exact ⟨L ++ [C], a + 20, by go_num, by go_num, by omega, hL', hX', hk', hD.out ▸ n1, b1⟩
      case measure => simp [intOf]; omega
    · -- what is left over, and then the merging
      have I := insSort c N B G n cap a n w0 la ln lc hB hn (Nat.le_refl _) HC _ hlen hlt0 (by omega) wr hbr hGr
      obtain ⟨M, hM, sM, kM, lM⟩ : ∃ M, insF c a (n - (a + 1)) (a + 1) (L.flatten ++ List.range' a (n - a)) = M.flatten ∧ Shp 20 M ∧ Bok c 0 M ∧ M.flatten.length = n := by
        by_cases e : a = n
        · subst e
          refine ⟨L, ?_, ?_, hk, hL.out⟩
          · rw [show a - (a + 1) = 0 by omega, insF]; simp
          · have := shp_done (bs := 20) (D := L) (R := []) hX.out (by decide) trivial
            simpa using this
        · obtain ⟨C, hC, sC, lC⟩ := ins_block o L.flatten a (n - a) n hL.out (by omega) (by omega)
          refine ⟨L ++ [C], ?_, ?_, ?_, ?_⟩
          · rw [show n - (a + 1) = n - a - 1 by omega, hC, show n - a - (n - a) = 0 by omega]; simp
          · exact shp_done hX.out (by decide) ⟨by omega, by omega⟩
          · rw [bok_app]
            refine ⟨hk, ?_, trivial⟩
            rw [hL.out, Nat.zero_add, lC]
            exact sC
          · rw [List.flatten_append, List.length_append, hL.out]
            simp [lC]; omega
      rw [hM] at I
      have HS : Shp 20 M := sM
      have HLM : Hid (M.flatten.length = n) := lM
      clear hlen hlt0 hGr hk hX hL hM sM lM
      go_wp2_with (go_at_call 92; (with_reducible refine I.mono ?_); rintro e w1 ⟨rfl, n1, b1⟩)
      have N0 := n1
      have B0 := b1
      clear I n1 b1 hbr
      go_loopw [6, 7, 8, 9] (fun u _ _ _ wx => ∃ (bs : Nat) (Q : List (List Nat)), u = .int .i64 bs ∧ 0 < bs ∧ bs ≤ 2000 ∧ Shp bs Q ∧ Bok c 0 Q ∧ Hid (Q.flatten.length = n) ∧ Nats wx G Q.flatten ∧ Below B w0 wx) (fun u _ _ _ _ => 2 * n - (intOf u).toNat)
      case atStart => exact ⟨20, M, rfl, by decide, by decide, HS, kM, HLM, N0, B0⟩
      case round =>
        clear N0 B0 HS kM HLM
        obtain ⟨bs, Q, rfl, hb0, hb1, sQ, kQ, lQ, hGr, hbr⟩ := hrel
        by_cases hbn : bs < n
        · have W1 : IntKind.i64.wrap (2 * (bs : Int)) = 2 * (bs : Int) := by rw [IntWalk.i64_left]; exact IntWalk.wrap64_in _ (by omega)
          have W2 : IntKind.i64.wrap ((bs : Int) * 2) = (bs : Int) * 2 := by rw [IntWalk.i64_left]; exact IntWalk.wrap64_in _ (by omega)
          go_wp2_with fail
          go_loopw [7, 8] (fun u v wx => ∃ (D R : List (List Nat)) (a : Nat), u = .int .i64 a ∧ v = .int .i64 ((a : Int) + 2 * (bs : Int)) ∧ a ≤ n ∧ Hid (D.flatten.length = a) ∧ Hid (∀ X ∈ D, X.length = 2 * bs) ∧ Shp bs R ∧ Bok c 0 (D ++ R) ∧ Hid ((D ++ R).flatten.length = n) ∧ Nats wx G (D ++ R).flatten ∧ Below B w0 wx) (fun u _ _ => n - (intOf u).toNat)
          case atStart => exact ⟨[], Q, 0, rfl, by go_num, Nat.zero_le _, rfl, (fun X h => by cases h), sQ, kQ, lQ, hGr, hbr⟩
          case round =>
            clear hGr hbr sQ kQ lQ
            obtain ⟨D, R, a, rfl, rfl, han, hD, hX, sR, kR, lR, hGr, hbr⟩ := hrel
            have lDR : D.flatten.length + R.flatten.length = n := by have := lR.out; rw [List.flatten_append, List.length_append] at this; exact this
            have hDa := hD.out
            have hlt0 : ∀ x ∈ (D ++ R).flatten, x < N := fun x hx => by
              have := bok_lt kR x hx
              rw [lR.out] at this
              omega
            by_cases hlt : (a : Int) + 2 * (bs : Int) ≤ (n : Int)
            · obtain ⟨X, Y, r, rfl, lX, lY⟩ := shp_two sR (by omega) hb0
              have e2 := flat_two D X Y r
              have lr := lR.out
              rw [e2] at hGr hlt0 lr
              have Y1 := sym_all c o N B G n cap w0 la ln lc hB hn HC (X.length + Y.length) D.flatten X Y r.flatten a (a + bs) (a + 2 * bs) wr (Nat.le_refl _) (by omega) (by omega) hDa.symm (by omega) (by omega) lr hlt0 (bok_runs kR) hbr hGr
              unfold SymPost at Y1
              rw [show ((a + bs : Nat) : Int) = (a : Int) + (bs : Int) by omega, show ((a + 2 * bs : Nat) : Int) = (a : Int) + 2 * (bs : Int) by omega] at Y1
              have HK : Hid (∀ C, Srt c (X ++ Y) C → Bok c 0 (D ++ [C] ++ r) ∧ (D ++ [C]).flatten.length = a + 2 * bs ∧ (∀ X ∈ D ++ [C], X.length = 2 * bs) ∧ (D ++ [C] ++ r).flatten.length = n ∧ D.flatten ++ (C ++ r.flatten) = (D ++ [C] ++ r).flatten) := fun C sC => by
                have lC : C.length = 2 * bs := by have := sC.perm.length_eq; rw [List.length_append, lX, lY] at this; omega
                refine ⟨(bok_merge kR sC).2, by rw [List.flatten_append, List.length_append, hDa]; simp [lC], fun Z hZ => ?_, ?_, (flat_one D C r).symm⟩
                · rcases List.mem_append.1 hZ with h | h
                  · exact hX.out Z h
                  · obtain rfl : Z = C := by simpa using h
                    exact lC
                · rw [flat_one]
                  simp only [List.length_append] at lr ⊢
                  omega
              have sr : Shp bs r := shp_tail (shp_tail sR)
              clear HC e2 lr hlt0 hGr kR hX hD sR lDR hDa lR lX lY
              go_wp2_with (go_at_call 93; (with_reducible refine Y1.mono ?_); rintro e w1 ⟨rfl, C, sC, n1, b1⟩)
              obtain ⟨g1, g2, g3, g4, g5⟩ := HK.out C sC
              have g2' : Hid ((D ++ [C]).flatten.length = a + 2 * bs) := g2
              have g3' : Hid (∀ X ∈ D ++ [C], X.length = 2 * bs) := g3
              have g4' : Hid ((D ++ [C] ++ r).flatten.length = n) := g4
              rw [g5] at n1
              clear Y1 HK g2 g3 g4 g5 hbr sC
              go_roundw
              case rel => exact ⟨D ++ [C], r, a + 2 * bs, by go_num, by go_num, by omega, g2', g3', sr, g1, g4', n1, b1⟩
              case measure => simp [intOf]; omega
            · have few := shp_few sR (by omega)
              by_cases hm : (a : Int) + (bs : Int) < (n : Int)
              · obtain ⟨X, Y, rfl, lX, lY⟩ : ∃ X Y, R = [X, Y] ∧ X.length = bs ∧ 0 < Y.length := by
                  rcases few with rfl | ⟨X, rfl, h1, h2⟩ | h
                  · simp only [List.flatten_cons, List.flatten_nil, List.append_nil, List.length_append, List.length_nil] at lDR; omega
                  · simp only [List.flatten_cons, List.flatten_nil, List.append_nil, List.length_append, List.length_nil] at lDR; omega
                  · exact h
                have e2 := flat_two D X Y []
                have lr := lR.out
                rw [e2] at hGr hlt0 lr
                have lY2 : a + bs + Y.length = n := by simp only [List.flatten_cons, List.flatten_nil, List.append_nil, List.length_append, List.length_nil] at lDR; omega
                have Y1 := sym_all c o N B G n cap w0 la ln lc hB hn HC (X.length + Y.length) D.flatten X Y [] a (a + bs) n wr (Nat.le_refl _) (by omega) (by omega) hDa.symm (by omega) (by omega) lr hlt0 (bok_runs kR) hbr hGr
                unfold SymPost at Y1
                rw [show ((a + bs : Nat) : Int) = (a : Int) + (bs : Int) by omega] at Y1
                have HK : Hid (∀ C, Srt c (X ++ Y) C → Bok c 0 (D ++ [C]) ∧ Shp (bs * 2) (D ++ [C]) ∧ (D ++ [C]).flatten.length = n ∧ D.flatten ++ (C ++ []) = (D ++ [C]).flatten) := fun C sC => by
                  have lC : C.length = X.length + Y.length := by have := sC.perm.length_eq; rw [List.length_append] at this; exact this
                  refine ⟨by have := (bok_merge kR sC).2; simpa using this, ?_, by rw [List.flatten_append, List.length_append, hDa]; simp [lC]; omega, by simp⟩
                  refine shp_done (bs := bs * 2) (fun Z hZ => by rw [hX.out Z hZ]; omega) (by omega) ⟨by omega, by omega⟩
                clear HC e2 lr hlt0 hGr kR hX hD sR lDR hDa lR lX lY few lY2
                try simp only [List.flatten_nil] at Y1
                go_wp2_with (go_at_call 93; (with_reducible refine Y1.mono ?_); rintro e w1 ⟨rfl, C, sC, n1, b1⟩)
                obtain ⟨g1, g2, g3, g4⟩ := HK.out C sC
                have g3' : Hid ((D ++ [C]).flatten.length = n) := g3
                rw [g4] at n1
                clear Y1 HK g3 g4 hbr sC
                go_roundw
                case rel => exact ⟨bs * 2, D ++ [C], by go_num, by omega, by omega, g2, g1, g3', n1, b1⟩
                case measure => simp [intOf]; omega
              · have sQ : Shp (bs * 2) (D ++ R) := by
                  refine shp_done (bs := bs * 2) (fun Z hZ => by rw [hX.out Z hZ]; omega) (by omega) ?_
                  rcases few with rfl | ⟨X, rfl, h1, h2⟩ | ⟨X, Y, rfl, h1, h2⟩
                  · trivial
                  · exact ⟨h1, by omega⟩
                  · simp only [List.flatten_cons, List.flatten_nil, List.append_nil, List.length_append, List.length_nil] at lDR; omega
                clear HC hlt0 hX hD sR lDR hDa few
                go_wp2_with fail
                go_roundw
                case rel => exact ⟨bs * 2, D ++ R, by go_num, by omega, by omega, sQ, kR, lR, hGr, hbr⟩
                case measure => simp [intOf]; omega
        · have AS := all_sorted sQ kQ lQ.out (by omega) hb0
          clear HC
          go_wp2_with fail
          first | go_end0 | refine bodyPost_ret (results_none rfl _ _ _) rfl ?_
          exact ⟨rfl, Q.flatten, AS, hGr, hbr⟩
set_option maxRecDepth 100000 in
set_option maxHeartbeats 1000000 in
theorem sortQ (c : Nat → Nat → Int) (o : Ord3 c) (N B G n cap : Nat) (w0 : World) (la : Option Addr) (ln lc : Nat) (hB : B ≤ G) (hn : n ≤ 1000)
    (HC : ∀ (w' : World) (x y : Nat), Below B w0 w' → x < N → y < N → Calls Try.prog 57 #[.slice la ln lc, .int .i64 (x : Int), .int .i64 (y : Int)] w' fun e w2 => e = .returned (.int .i64 (c x y)) ∧ Below w'.heap.size w' w2) (hNn : n ≤ N) (w : World) (hw : Below B w0 w) (hG : Nats w G (List.range n)) :
    Calls Try.prog 56 #[.slice (some ⟨G, 0, none⟩) n cap, (.func (.func 57) #[.slice la ln lc] #[])] w (StOut c G B n w0) := by
  have S := stableQ c o N B G n cap w0 la ln lc hB hn HC hNn w hw hG
  clear HC hG
  go_enter Try.func56, Try.ntmps56
  go_wp2_with (go_at_call 78; (with_reducible refine S.mono ?_); rintro e w1 ⟨rfl, C, h1, h2, h3⟩)
  first | go_end0 | refine bodyPost_ret (results_none rfl _ _ _) rfl ?_
  exact ⟨rfl, C, h1, h2, h3⟩
end Go.Proofs.Ytkjbccodahleoaa.Shape
