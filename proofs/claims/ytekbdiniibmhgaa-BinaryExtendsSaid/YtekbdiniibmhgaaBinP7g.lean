/-
  Layer 16: combine of the program.
-/
import Derived.Test.YtekbdiniibmhgaaBinP6g
import Derived.Test.YtekbdiniibmhgaaArrP3g
namespace Go.Proofs.Ytekbdiniibmhgaa.Shape
open Go.RowKit
open Go.Proofs.Ytekbdiniibmhgaa.Shp (agB agL)
set_option linter.unusedVariables false
set_option linter.unusedSimpArgs false

/-- The results, or the first error. -/
def resG (g : Int → Int → Int × Int) (A B : Arr) (s : List Int) : List Int × Int := goF (fun i => g (elF A s i) (elF B s i)) (pr s).toNat 0 []
def Comb (L : List Int × Int) (w : World) (e : Ending) (w' : World) : Prop := ∃ a c, e = .returned (.tuple #[.slice a L.1.length c, .int .i64 L.2]) ∧ IntsOn (fun q => w.heap.size ≤ q) w' a c L.1 ∧ Below w.heap.size w w'
theorem Comb.err {er : Int} {L : List Int × Int} {w w' : World} (h : L = ([], er)) (hb : Below w.heap.size w w') : Comb L w (.returned (.tuple #[.slice none 0 0, .int .i64 er])) w' := by
  subst h
  exact ⟨none, 0, rfl, ⟨⟨Nat.zero_le _, by decide, fun x hx => absurd hx (by simp), 0, 0, fun hn => absurd rfl hn, fun i hi => absurd hi (by simp)⟩, fun g => absurd rfl g⟩, hb⟩
theorem Comb.ok {acc : List Int} {N nb : Nat} {L : List Int × Int} {w w' : World} (h : L = (acc, 0)) (hN : N = acc.length) (hr : Row16 w' nb acc N) (hbd : ∀ x ∈ acc, -9223372036854775808 ≤ x ∧ x ≤ 9223372036854775807) (hm : N ≤ 65536) (hn : w.heap.size ≤ nb) (hb : Below w.heap.size w w') : Comb L w (.returned (.tuple #[.slice (some ⟨nb, 0, none⟩) N N, .int .i64 0])) w' := by
  subst h; subst hN
  exact ⟨_, _, rfl, hr.ints rfl hbd hm _ hn, hb⟩

set_option maxRecDepth 100000 in
set_option maxHeartbeats 2000000 in
theorem combineP (g : Int → Int → Int × Int) (fv v v2 : Value) (A B : Arr) (SL : List Int) (sg : Option Addr) (cg : Nat) (w : World) (hv : Fun16 w fv g) (h : ArrAt w v A) (h2 : ArrAt w v2 B) (hs : IntsAt w sg cg SL) (hr : rightB SL = true)
    (pr1 : SL.take A.shape.length = A.shape) (pr2 : SL.take B.shape.length = B.shape) (le1 : A.shape.length ≤ SL.length) (le2 : B.shape.length ≤ SL.length) (sz1 : (A.nums.length : Int) = pr A.shape) (sz2 : (B.nums.length : Int) = pr B.shape)
    (f1 : ∀ x ∈ A.nums, Num.fitsB x = true) (f2 : ∀ x ∈ B.nums, Num.fitsB x = true) (hbd : ∀ x y, Num.fitsB x = true → Num.fitsB y = true → -9223372036854775808 ≤ (g x y).1 ∧ (g x y).1 ≤ 9223372036854775807) :
    Calls Try.prog 34 #[fv, v, v2, .slice sg SL.length cg] w (Comb (resG g A B SL) w) := by
  obtain ⟨t, cap, rfl, HE, hc⟩ := hv
  unfold Ent at HE
  obtain ⟨k1, sh1, nu1, it1⟩ := A
  obtain ⟨k2, sh2, nu2, it2⟩ := B
  rw [ArrAt] at h h2
  obtain ⟨s1, sc1, n1, nc1, i1, ic1, rfl, hkb1, hs1, hn1, -⟩ := h
  obtain ⟨s2, sc2, n2, nc2, i2, ic2, rfl, hkb2, hs2, hn2, -⟩ := h2
  replace pr1 : SL.take sh1.length = sh1 := pr1
  replace pr2 : SL.take sh2.length = sh2 := pr2
  replace le1 : sh1.length ≤ SL.length := le1
  replace le2 : sh2.length ≤ SL.length := le2
  replace sz1 : (nu1.length : Int) = pr sh1 := sz1
  replace sz2 : (nu2.length : Int) = pr sh2 := sz2
  replace f1 : ∀ x ∈ nu1, Num.fitsB x = true := f1
  replace f2 : ∀ x ∈ nu2, Num.fitsB x = true := f2
  obtain ⟨F, hF⟩ : ∃ F : Nat → Int × Int, F = fun i => g (elF (.mk k1 sh1 nu1 it1) SL i) (elF (.mk k2 sh2 nu2 it2) SL i) := ⟨_, rfl⟩
  obtain ⟨RS, hRS⟩ : ∃ R, resG g (.mk k1 sh1 nu1 it1) (.mk k2 sh2 nu2 it2) SL = R := ⟨_, rfl⟩
  have HR : Hid (RS = goF F (pr SL).toNat 0 []) := by unfold Hid; rw [← hRS, hF]; rfl
  have HF : Hid (∀ i, F i = g (nu1.getD (i / (pr (SL.drop sh1.length)).toNat) 0) (nu2.getD (i / (pr (SL.drop sh2.length)).toNat) 0)) := fun i => by rw [hF]; rfl
  rw [hRS]
  clear hF hRS
  have b2 := below2 w (.cells #[.int .i64 k1, .slice s1 sh1.length sc1, .slice n1 nu1.length nc1, .slice i1 it1.length ic1] 33) (.cells #[.int .i64 k2, .slice s2 sh2.length sc2, .slice n2 nu2.length nc2, .slice i2 it2.length ic2] 33)
  have qx : Quad ((w.alloc (.cells #[.int .i64 k1, .slice s1 sh1.length sc1, .slice n1 nu1.length nc1, .slice i1 it1.length ic1] 33)).alloc (.cells #[.int .i64 k2, .slice s2 sh2.length sc2, .slice n2 nu2.length nc2, .slice i2 it2.length ic2] 33)) (w.heap.size) (.int .i64 k1) (.slice s1 sh1.length sc1) (.slice n1 nu1.length nc1) (.slice i1 it1.length ic1) :=
    (Quad.new w _ _ _ _).below (below_new _ _)
  have qy : Quad ((w.alloc (.cells #[.int .i64 k1, .slice s1 sh1.length sc1, .slice n1 nu1.length nc1, .slice i1 it1.length ic1] 33)).alloc (.cells #[.int .i64 k2, .slice s2 sh2.length sc2, .slice n2 nu2.length nc2, .slice i2 it2.length ic2] 33)) (w.heap.size + 1) (.int .i64 k2) (.slice s2 sh2.length sc2) (.slice n2 nu2.length nc2) (.slice i2 it2.length ic2) := by
    have := Quad.new (w.alloc (.cells #[.int .i64 k1, .slice s1 sh1.length sc1, .slice n1 nu1.length nc1, .slice i1 it1.length ic1] 33)) (.int .i64 k2) (.slice s2 sh2.length sc2) (.slice n2 nu2.length nc2) (.slice i2 it2.length ic2)
    simpa using this
  obtain ⟨x0, x1, x2, x3, -⟩ := qx.cells
  obtain ⟨y0, y1, y2, y3, -⟩ := qy.cells
  have hsA := hs.below b2
  have L0 := hs.len
  have L1 := hs1.len
  have L2 := hs2.len
  have RW1 : ∀ w', IntsAt w' sg cg SL → Calls Try.prog 68 #[.slice sg SL.length cg, .int .i64 (sh1.length : Int)] w' fun e w'' => e = .returned (.tuple #[.int .i64 (pr (SL.take sh1.length)), .int .i64 (pr (SL.drop sh1.length))]) ∧ Below w'.heap.size w' w'' := fun w' hi =>
    (Shp.rowP sg cg SL sh1.length w' hi).mono fun e w'' ⟨h1, n, h2⟩ => ⟨by rw [h1, Shp.rowS_yes hr le1], by rw [h2]; exact Shp.below_drewN n⟩
  have RW2 : ∀ w', IntsAt w' sg cg SL → Calls Try.prog 68 #[.slice sg SL.length cg, .int .i64 (sh2.length : Int)] w' fun e w'' => e = .returned (.tuple #[.int .i64 (pr (SL.take sh2.length)), .int .i64 (pr (SL.drop sh2.length))]) ∧ Below w'.heap.size w' w'' := fun w' hi =>
    (Shp.rowP sg cg SL sh2.length w' hi).mono fun e w'' ⟨h1, n, h2⟩ => ⟨by rw [h1, Shp.rowS_yes hr le2], by rw [h2]; exact Shp.below_drewN n⟩
  have hpr := part_bd (a := SL) (b := []) (by rw [List.append_nil]; exact hr)
  have hp0 : 0 ≤ pr SL := hpr.1
  have hp1 : pr SL ≤ 65536 := hpr.2.1
  have HP1 : Hid (∀ j : Nat, (j : Int) < pr SL → 0 < pr (SL.drop sh1.length) ∧ pr (SL.drop sh1.length) ≤ 65536 ∧ j / (pr (SL.drop sh1.length)).toNat < nu1.length) := fun j hj => by
    have := part_at hr pr1 hj; rw [← sz1] at this; exact ⟨this.1, this.2.1, by omega⟩
  have HP2 : Hid (∀ j : Nat, (j : Int) < pr SL → 0 < pr (SL.drop sh2.length) ∧ pr (SL.drop sh2.length) ≤ 65536 ∧ j / (pr (SL.drop sh2.length)).toNat < nu2.length) := fun j hj => by
    have := part_at hr pr2 hj; rw [← sz2] at this; exact ⟨this.1, this.2.1, by omega⟩
  obtain ⟨N, hN⟩ : ∃ N : Nat, pr SL = N := ⟨(pr SL).toNat, by omega⟩
  rw [hN] at hp1 HP1 HP2 HR
  rw [Int.toNat_natCast] at HR
  have SZ := fun w' (hi : IntsAt w' sg cg SL) => Shp.sizeP sg cg SL w' hi
  rw [show Shp.sizeS SL = N by unfold Shp.sizeS; rw [if_pos hr, hN]] at SZ
  have HM := fun w => run_make16 w N (by omega)
  have HN1 : Hid (∀ w', Below w.heap.size w w' → IntsAt w' n1 nc1 nu1) := fun w' hb => hn1.below hb
  have HN2 : Hid (∀ w', Below w.heap.size w w' → IntsAt w' n2 nc2 nu2) := fun w' hb => hn2.below hb
  have HFa : Hid (∀ x ∈ nu1, Num.fitsB x = true) := f1
  have HFb : Hid (∀ x ∈ nu2, Num.fitsB x = true) := f2
  have HBd : Hid (∀ x y, Num.fitsB x = true → Num.fitsB y = true → -9223372036854775808 ≤ (g x y).1 ∧ (g x y).1 ≤ 9223372036854775807) := hbd
  have HC : Hid (∀ (x y : Int) (w1 : World), Below w.heap.size w w1 → Num.fitsB x = true → Num.fitsB y = true → Calls Try.prog t (#[.int .i64 x, .int .i64 y] ++ cap) w1 fun e w' => e = .returned (.tuple #[.int .i64 (g x y).1, .int .i64 (g x y).2]) ∧ Below w1.heap.size w1 w') := hc
  clear hc hbd f1 f2 pr1 pr2 le1 le2 sz1 sz2 hs1 hs2 hn1 hn2 hkb1 hkb2 hpr hp0 hs hr hN
  go_enter Try.func34, Try.ntmps34
  go_wp2_with fail
  go_step3
  go_wp2_with (first
    | (go_at_call 68; (with_reducible refine Calls.mono (RW1 _ hsA) ?_); rintro e w3 ⟨rfl, hb3⟩; (obtain ⟨x30, x31, x32, x33, -⟩ := (qx.below hb3).cells); (obtain ⟨y30, y31, y32, y33, -⟩ := (qy.below hb3).cells); (have hsB := hsA.below hb3))
    | (go_at_call 68; (with_reducible refine Calls.mono (RW2 _ hsB) ?_); rintro e w4 ⟨rfl, hb4⟩; (have hb34 := Below.then hb3 hb4); (obtain ⟨x40, x41, x42, x43, -⟩ := (qx.below hb34).cells); (obtain ⟨y40, y41, y42, y43, -⟩ := (qy.below hb34).cells); (have hsC := hsB.below hb4))
    | (go_at_call 69; (with_reducible refine Calls.mono (SZ _ hsC) ?_); rintro e w5 ⟨rfl, rfl⟩))
  go_step3
  go_wp2_with fail
  have I0 := row16_new w4 N
  have B0 := below_new w4 (.cells (madeCells #[.int .i64 0] N) 3)
  have HW4 : Hid (Below w.heap.size w w4) := Below.then b2 hb34
  have qx4 := qx.below hb34
  have qy4 := qy.below hb34
  have hw4 : w.heap.size ≤ w4.heap.size := HW4.out.size
  clear x0 x1 x2 x3 y0 y1 y2 y3 x30 x31 x32 x33 y30 y31 y32 y33 x40 x41 x42 x43 y40 y41 y42 y43 hb3 hb4 hb34 hsA hsB hsC RW1 RW2 SZ HM qx qy b2
  generalize (w4.alloc (.cells (madeCells #[.int .i64 0] N) 3)) = W at I0 B0 ⊢
  go_loopw [15, 38] (fun v15 v38 wr => ∃ acc : List Int, acc.length ≤ N ∧ v38 = .int .i64 (acc.length : Int) ∧ v15 = .int .i64 0 ∧ Row16 wr w4.heap.size acc N ∧ (∀ x ∈ acc, -9223372036854775808 ≤ x ∧ x ≤ 9223372036854775807) ∧ Hid (goF F (N - acc.length) acc.length acc = goF F N 0 []) ∧ Below w4.heap.size w4 wr) (fun _ v38 _ => ((N : Int) - intOf v38).toNat)
  case atStart => exact ⟨[], Nat.zero_le _, rfl, rfl, I0, fun x hx => absurd hx (by simp), rfl, B0⟩
  case round =>
    obtain ⟨acc, hj, rfl, rfl, hI, hbd, hG, hB⟩ := hrel
    obtain ⟨p0, p1, p2, p3, -⟩ := (qx4.below hB).cells
    obtain ⟨g0, g1, g2, g3, -⟩ := (qy4.below hB).cells
    obtain ⟨j, hjl⟩ : ∃ j, acc.length = j := ⟨_, rfl⟩
    by_cases hlt : j < N
    · have hFj := HF.out j
      have HWr : Hid (Below w.heap.size w wr) := HW4.out.trans (hB.mono hw4)
      obtain ⟨hd1, hdb1, hm1⟩ := HP1.out j (by omega)
      obtain ⟨eb1, eo1, ix1, ce0⟩ := (HN1.out w (Below.refl _ _)).at hm1
      have le1 : eb1 < w.heap.size := cell_lt ce0
      have ce1 := (HWr.out.cell le1).trans ce0
      clear ce0
      have ft1 := HFa.out _ (List.getElem_mem hm1)
      have tq1 := tdiv_nat (j := j) hd1
      have md1 := Nat.div_le_self j (pr (SL.drop sh1.length)).toNat
      rw [show nu1.getD (j / (pr (SL.drop sh1.length)).toNat) 0 = nu1[j / (pr (SL.drop sh1.length)).toNat]'hm1 by rw [List.getD_eq_getElem?_getD, List.getElem?_eq_getElem hm1]; rfl] at hFj
      generalize nu1[j / (pr (SL.drop sh1.length)).toNat]'hm1 = X1 at ce1 hFj ft1
      generalize j / (pr (SL.drop sh1.length)).toNat = m1 at ce1 ix1 tq1 md1 hm1
      generalize pr (SL.drop sh1.length) = D1 at tq1 hd1 hdb1 ⊢
      have hne1 : D1 ≠ 0 := by omega
      have hwm1 : IntKind.i64.wrap (m1 : Int) = (m1 : Int) := IntWalk.i64_in _ (by omega)
      obtain ⟨hd2, hdb2, hm2⟩ := HP2.out j (by omega)
      obtain ⟨eb2, eo2, ix2, ce0⟩ := (HN2.out w (Below.refl _ _)).at hm2
      have le2 : eb2 < w.heap.size := cell_lt ce0
      have ce2 := (HWr.out.cell le2).trans ce0
      clear ce0
      have ft2 := HFb.out _ (List.getElem_mem hm2)
      have tq2 := tdiv_nat (j := j) hd2
      have md2 := Nat.div_le_self j (pr (SL.drop sh2.length)).toNat
      rw [show nu2.getD (j / (pr (SL.drop sh2.length)).toNat) 0 = nu2[j / (pr (SL.drop sh2.length)).toNat]'hm2 by rw [List.getD_eq_getElem?_getD, List.getElem?_eq_getElem hm2]; rfl] at hFj
      generalize nu2[j / (pr (SL.drop sh2.length)).toNat]'hm2 = X2 at ce2 hFj ft2
      generalize j / (pr (SL.drop sh2.length)).toNat = m2 at ce2 ix2 tq2 md2 hm2
      generalize pr (SL.drop sh2.length) = D2 at tq2 hd2 hdb2 ⊢
      have hne2 : D2 ≠ 0 := by omega
      have hwm2 : IntKind.i64.wrap (m2 : Int) = (m2 : Int) := IntWalk.i64_in _ (by omega)
      have hbx := HBd.out X1 X2 ft1 ft2
      have HCj : ∀ w1, Below wr.heap.size wr w1 → Calls Try.prog t (#[.int .i64 X1, .int .i64 X2] ++ cap) w1 fun e w' => e = .returned (.tuple #[.int .i64 (g X1 X2).1, .int .i64 (g X1 X2).2]) ∧ Below wr.heap.size wr w' := fun w1 hb => (HC.out X1 X2 w1 (Below.then HWr.out hb) ft1 ft2).mono fun e w' h => ⟨h.1, Below.then hb h.2⟩
      obtain ⟨r, er, hgr⟩ : ∃ r er, g X1 X2 = (r, er) := ⟨_, _, rfl⟩
      rw [hgr] at hFj hbx HCj
      simp only at hbx HCj
      clear hgr ft1 ft2
      have hcj := hI.cell (by omega)
      rw [hjl] at hcj ⊢
      obtain ⟨c0, z0⟩ := hcj
      have hnb := hI.lt
      have he1 : eb1 < wr.heap.size := cell_lt ce1
      have he2 : eb2 < wr.heap.size := cell_lt ce2
      have hXl : w.heap.size < wr.heap.size := cell_lt p0
      have hYl : w.heap.size + 1 < wr.heap.size := cell_lt g0
      have hYn : w.heap.size + 1 < w4.heap.size := qy4.lt
      have H0 : ∀ w', Below wr.heap.size wr w' → w'.cell? ⟨w.heap.size, 2, none⟩ = some (.slice n1 nu1.length nc1) ∧ w'.cell? ⟨w.heap.size + 1, 2, none⟩ = some (.slice n2 nu2.length nc2) ∧ w'.cell? ⟨eb1, eo1 + m1, none⟩ = some (.int .i64 X1) ∧ w'.cell? ⟨eb2, eo2 + m2, none⟩ = some (.int .i64 X2) := fun w' hb =>
        ⟨(hb.cell hXl).trans p2, (hb.cell hYl).trans g2, (hb.cell he1).trans ce1, (hb.cell he2).trans ce2⟩
      have H1 : ∀ w1, Below wr.heap.size wr w1 → ∀ w', w' = w1.setCell ⟨w4.heap.size, j, none⟩ (.int .i64 r) → w'.cell? ⟨w.heap.size, 2, none⟩ = some (.slice n1 nu1.length nc1) ∧ w'.cell? ⟨w.heap.size + 1, 2, none⟩ = some (.slice n2 nu2.length nc2) ∧ w'.cell? ⟨eb1, eo1 + m1, none⟩ = some (.int .i64 X1) ∧ w'.cell? ⟨eb2, eo2 + m2, none⟩ = some (.int .i64 X2) := fun w1 hb w' hw => by
        obtain ⟨a0, a1, a2, a3⟩ := H0 w1 hb
        subst hw
        have n0 : w.heap.size ≠ w4.heap.size := by omega
        have n1 : w.heap.size + 1 ≠ w4.heap.size := by omega
        have n2 : eb1 ≠ w4.heap.size := by omega
        have n3 : eb2 ≠ w4.heap.size := by omega
        exact ⟨(World.cell?_of_block (set_other w1 _ j _ (.int .i64 r) n0)).trans a0, (World.cell?_of_block (set_other w1 _ j _ (.int .i64 r) n1)).trans a1, (World.cell?_of_block (set_other w1 _ j _ (.int .i64 r) n2)).trans a2, (World.cell?_of_block (set_other w1 _ j _ (.int .i64 r) n3)).trans a3⟩
      go_wp2_with fail
      go_cut [15] (fun v15 wx => ∃ w2, Below wr.heap.size wr w2 ∧ v15 = .int .i64 er ∧ wx = w2.setCell ⟨w4.heap.size, j, none⟩ (.int .i64 r))
      case first =>
        go_region_held_law (fun w' => w'.cell? ⟨w.heap.size, 2, none⟩ = some (.slice n1 nu1.length nc1) ∧ w'.cell? ⟨w.heap.size + 1, 2, none⟩ = some (.slice n2 nu2.length nc2) ∧ w'.cell? ⟨eb1, eo1 + m1, none⟩ = some (.int .i64 X1) ∧ w'.cell? ⟨eb2, eo2 + m2, none⟩ = some (.int .i64 X2))
          (first | (refine H0 _ ?_; go_grown; done) | (refine H1 _ ?_ _ rfl; go_grown; done))
          ((go_simp; (with_reducible refine (HCj _ (by go_grown)).mono ?_); rintro e w1 ⟨rfl, hb1⟩; (have c1 := (hb1.cell hnb).trans c0); (have z1 := (hb1.frozen hnb).trans z0)))
        all_goals go_wp2_with fail
        all_goals go_meet
        all_goals exact ⟨_, hb1, rfl, rfl⟩
      case rest =>
        obtain ⟨w2, hb2, rfl, rfl⟩ := hcut
        have hI2 := (hI.below hb2).set (by omega) r
        have hB2 : Below w4.heap.size w4 (w2.setCell ⟨w4.heap.size, j, none⟩ (.int .i64 r)) := (hB.trans (hb2.mono hB.size)).setCell (Nat.le_refl _) _
        clear H0 H1 HCj p0 p1 p2 p3 g0 g1 g2 g3 c0 z0 tq1 tq2 ix1 ix2 ce1 ce2 hm1 hm2 md1 md2 hwm1 hwm2 hne1 hne2 hd1 hd2 hdb1 hdb2 HN1 HN2 HP1 HP2 HF HFa HFb HBd HC HE
        by_cases he : er = 0
        · subst he
          have HG1 : Hid (goF F (N - (acc ++ [r]).length) (acc ++ [r]).length (acc ++ [r]) = goF F N 0 []) := by
            unfold Hid
            rw [← hG.out, List.length_append, List.length_singleton, hjl, show N - j = (N - (j + 1)) + 1 by omega, goF, hFj, if_pos rfl]
          rw [hjl] at hI2
          clear hFj
          go_wp2_with fail
          go_roundw
          case rel => exact ⟨acc ++ [r], by simp; omega, by rw [List.length_append, List.length_singleton, hjl]; go_num, rfl, hI2, by intro x hx; rcases List.mem_append.1 hx with hx | hx; exact hbd x hx; rw [List.mem_singleton] at hx; subst hx; exact hbx, HG1, hB2⟩
          case measure => simp [intOf]; omega
        · have qe : (er != 0) = true := by simpa using he
          have HQ : Hid (RS = ([], er)) := by
            unfold Hid
            rw [HR.out, ← hG.out, hjl, show N - j = (N - (j + 1)) + 1 by omega, goF, hFj, if_neg he]
          clear hFj
          go_wp2_with fail
          rw [Exit.noGoto_ret]
          go_ret2
          exact Comb.err HQ.out (HW4.out.trans (hB2.mono hw4))
    · obtain rfl : N = acc.length := by omega
      have HQ : Hid (RS = (acc, 0)) := by
        unfold Hid
        rw [HR.out, ← hG.out, Nat.sub_self]
        rfl
      clear HE
      go_wp2_with fail
      rw [Exit.noGoto_ret]
      go_ret2
      exact Comb.ok HQ.out rfl hI hbd (by omega) hw4 (HW4.out.trans (hB.mono hw4))
end Go.Proofs.Ytekbdiniibmhgaa.Shape
