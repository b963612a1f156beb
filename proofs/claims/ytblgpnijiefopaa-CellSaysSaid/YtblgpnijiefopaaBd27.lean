/-
  Layer 4: the reference's Pad. (Written by wip/gen/cell-padr.py.)
  Layer 4: small things for the law of padding.
-/
import Derived.Test.YtblgpnijiefopaaBd26
import Derived.Test.YtblgpnijiefopaaBd20
import Derived.Test.YtblgpnijiefopaaBd18
import Derived.Deep.RegionHeldLaw
import Derived.Deep.CutRange
import Derived.Handy
namespace Go.Proofs.Ytblgpnijiefopaa.Shape
open Go.RowKit
set_option linter.unusedVariables false

/-- An array over blocks of a kind and an error. -/
def GiveOnE (P : Nat → Prop) (A : Arr) (er : Int) (w : World) (e : Ending) (w' : World) : Prop := ∃ k sa ls sc na ln nc ia li ic, e = .returned (.tuple #[.agg #[.int .i64 k, .slice sa ls sc, .slice na ln nc, .slice ia li ic], .int .i64 er]) ∧ ArrOn P w' (.agg #[.int .i64 k, .slice sa ls sc, .slice na ln nc, .slice ia li ic]) A ∧ Below w.heap.size w w'
theorem checkedRR {P : Nat → Prop} (k : Int) (sa : Option Addr) (ls sc : Nat) (na : Option Addr) (ln nc : Nat) (ia : Option Addr) (li ic : Nat) (A : Arr) (w : World) (h : ArrOn P w (.agg #[.int .i64 k, .slice sa ls sc, .slice na ln nc, .slice ia li ic]) A) : Calls Try.prog 56 #[.agg #[.int .i64 k, .slice sa ls sc, .slice na ln nc, .slice ia li ic]] w (GiveOnE P (outR A).1 (outR A).2 w) := by
  refine (checkedR _ A w h.at).mono ?_
  rintro e w' ⟨h1, h2, hb⟩
  rw [outR]
  by_cases hx : rightE A = 0
  · rw [if_pos hx]
    exact ⟨_, _, _, _, _, _, _, _, _, _, h1 hx, (h.below hb).mono fun g hg => hg.1, hb⟩
  · rw [if_neg hx]
    exact ⟨_, _, _, _, _, _, _, _, _, _, h2 hx, zero_on P _, hb⟩
theorem ints_set4 {w : World} {a : Option Addr} {c B n X : Nat} {xs : List Int} {z0 z1 z2 z3 : Value} (ho : w.ownsRow B 3 1 (.slice a xs.length c) n (xs.map (Value.int .i64))) (q : Quad w X z0 z1 z2 z3) (hb : ∀ x ∈ xs, -9223372036854775808 ≤ x ∧ x ≤ 9223372036854775807) (c0 c1 c2 c3 : Value) :
    IntsOn (fun g => B ≤ g) ((((w.setCell ⟨X, 0, none⟩ c0).setCell ⟨X, 1, none⟩ c1).setCell ⟨X, 2, none⟩ c2).setCell ⟨X, 3, none⟩ c3) a c xs := by
  have hn : n = xs.length := by
    rcases ho.2 with ⟨hv, h0⟩ | ⟨g, cap, cur, hv, -⟩
    · simp only [Value.slice.injEq] at hv
      rw [hv.2.1, h0]
    · simp only [Value.slice.injEq] at hv
      exact hv.2.1.symm
  obtain ⟨a', c', hv, hi⟩ := row_ints hn ho q hb
  simp only [Value.slice.injEq, true_and] at hv
  obtain ⟨rfl, rfl⟩ := hv
  exact (hi.keep (R := fun g => B ≤ g) fun g hg _ => ⟨hg.1, fun o => World.cell?_of_block ((set4 q c0 c1 c2 c3).2 g hg.2)⟩)
theorem small_wrap {q : Nat} (h : q ≤ 10000000) : wrap64 (q : Int) = (q : Int) := IntWalk.wrap64_in _ (by omega)
theorem right_lead {s : List Int} {n : Nat} (h : rightB s = true) (hn : n ≤ 8) (hl : s.length ≤ n) : rightB (leadS s n) = true := by
  obtain ⟨-, h2, h3⟩ := right_def.1 h
  refine right_def.2 ⟨by rw [leadS_len hl]; exact hn, leadS_NN h2, ?_⟩
  have : ∀ k : Nat, nz (List.replicate k 1 ++ s) = nz s := by
    intro k
    induction k with
    | zero => rfl
    | succ k ih => rw [List.replicate_succ, List.cons_append, nz, ih]; simp
  rw [leadS, this]; exact h3

set_option maxRecDepth 100000 in
set_option maxHeartbeats 4000000 in
theorem padR (v : Value) (A : Arr) (ta : Option Addr) (tc : Nat) (tt : List Int) (w : World) (h : ArrAt w v A) (ht : IntsAt w ta tc tt) (hR : Reach A) :
    Calls Try.prog 24 #[v, .slice ta tt.length tc] w (GiveArrE (padA A tt).1 (padA A tt).2 w) := by
  have h0 := h
  obtain ⟨kk, sa, ls, sc, na, ln, nc, ia, li, ic, rfl, hs, hls, hkk⟩ : ∃ kk sa ls sc na ln nc ia li ic, v = .agg #[.int .i64 kk, .slice sa ls sc, .slice na ln nc, .slice ia li ic] ∧ IntsAt w sa sc A.shape ∧ ls = A.shape.length ∧ kk = A.kind := by
    obtain ⟨kk, sh, nu, it⟩ := A
    rw [ArrAt] at h
    obtain ⟨sa, sc, na, nc, ia, ic, hv, -, hs, -⟩ := h
    exact ⟨_, _, _, _, _, _, _, _, _, _, hv, hs, rfl, rfl⟩
  subst hls
  have HKK : Hid (kk = A.kind) := hkk
  clear hkk
  have bw := below_two w (.cells #[.int .i64 kk, .slice sa A.shape.length sc, .slice na ln nc, .slice ia li ic] 26) (.cells #[.int .i64 0, .slice none 0 0, .slice none 0 0, .slice none 0 0] 26)
  have q0 := (Quad.new w (.int .i64 kk) (.slice sa A.shape.length sc) (.slice na ln nc) (.slice ia li ic)).below (below_new _ (.cells #[.int .i64 0, .slice none 0 0, .slice none 0 0, .slice none 0 0] 26))
  have q4 : Quad ((w.alloc (.cells #[.int .i64 kk, .slice sa A.shape.length sc, .slice na ln nc, .slice ia li ic] 26)).alloc (.cells #[.int .i64 0, .slice none 0 0, .slice none 0 0, .slice none 0 0] 26)) (w.heap.size + 1) (.int .i64 0) (.slice none 0 0) (.slice none 0 0) (.slice none 0 0) := by
    simpa using Quad.new (w.alloc (.cells #[.int .i64 kk, .slice sa A.shape.length sc, .slice na ln nc, .slice ia li ic] 26)) (.int .i64 0) (.slice none 0 0) (.slice none 0 0) (.slice none 0 0)
  have hA := h0.below bw
  have hs1 := hs.below bw
  have ht1 := ht.below bw
  have hlt := ht.len
  have hlsh := hs.len
  obtain ⟨x, hx⟩ : ∃ x, rightE A = x := ⟨_, rfl⟩
  have R := fun v' w' (g : ArrAt w' v' A) => rightR3 v' A w' g
  rw [hx] at R
  have T := fun W (g : IntsAt W ta tc tt) => refRightR ta tc tt W g
  obtain ⟨y, hy⟩ : ∃ y, rightB tt = y := ⟨_, rfl⟩
  rw [hy] at T
  by_cases hx0 : x = 0
  · have e1 : (x != 0) = false := by simpa using hx0
    cases y with
    | false =>
      have HP : Hid (padA A tt = (zeroA, 1)) := by unfold Hid; rw [padA, if_pos (by rw [hx]; exact hx0), if_neg (by rw [hy]; decide)]
      go_enter Try.func24, Try.ntmps24
      go_wp2_with (first
        | (go_at_call 28; refine (R _ _ hA).mono ?_; rintro e w1 ⟨rfl, hb1⟩; (obtain ⟨s0, s1, s2, s3, s4, s5, s6, s7⟩ := (q4.below hb1).cells); (have htw := ht1.below hb1))
        | (go_at_call 54; refine (T _ htw).mono ?_; rintro e w1' ⟨rfl, rfl⟩))
      have G := give_set4 (w := w) (Nat.le_succ w.heap.size) (q4.below hb1) (zero_on _ _) (Below.then bw hb1)
      obtain ⟨QW, -⟩ := set4 (q4.below hb1) (.int .i64 0) (.slice none 0 0) (.slice none 0 0) (.slice none 0 0)
      generalize ((((w1.setCell ⟨w.heap.size + 1, 0, none⟩ (.int .i64 0)).setCell ⟨w.heap.size + 1, 1, none⟩ (.slice none 0 0)).setCell ⟨w.heap.size + 1, 2, none⟩ (.slice none 0 0)).setCell ⟨w.heap.size + 1, 3, none⟩ (.slice none 0 0)) = WW at QW G ⊢
      obtain ⟨z0, z1, z2, z3, -⟩ := QW.cells
      exact bodyPost_ret (v := .tuple #[.agg #[.int .i64 0, .slice none 0 0, .slice none 0 0, .slice none 0 0], .int .i64 1]) (by simp [results, Try.results24, go_sem, z0, z1, z2, z3]) rfl (by rw [HP.out]; exact (GiveNewE.mk G).arr)
    | true =>
      by_cases hl : tt.length < A.shape.length
      · have HP : Hid (padA A tt = (zeroA, 15)) := by unfold Hid; rw [padA, if_pos (by rw [hx]; exact hx0), if_pos hy, if_pos hl]
        have e3 : (tt.length : Int) < (A.shape.length : Int) := by omega
        go_enter Try.func24, Try.ntmps24
        go_wp2_with (first
          | (go_at_call 28; refine (R _ _ hA).mono ?_; rintro e w1 ⟨rfl, hb1⟩; (obtain ⟨s0, s1, s2, s3, s4, s5, s6, s7⟩ := (q4.below hb1).cells); (obtain ⟨p0, p1, p2, p3, -⟩ := (q0.below hb1).cells); (have htw := ht1.below hb1))
          | (go_at_call 54; refine (T _ htw).mono ?_; rintro e w1' ⟨rfl, rfl⟩))
        have G := give_set4 (w := w) (Nat.le_succ w.heap.size) (q4.below hb1) (zero_on _ _) (Below.then bw hb1)
        obtain ⟨QW, -⟩ := set4 (q4.below hb1) (.int .i64 0) (.slice none 0 0) (.slice none 0 0) (.slice none 0 0)
        generalize ((((w1.setCell ⟨w.heap.size + 1, 0, none⟩ (.int .i64 0)).setCell ⟨w.heap.size + 1, 1, none⟩ (.slice none 0 0)).setCell ⟨w.heap.size + 1, 2, none⟩ (.slice none 0 0)).setCell ⟨w.heap.size + 1, 3, none⟩ (.slice none 0 0)) = WW at QW G ⊢
        obtain ⟨z0, z1, z2, z3, -⟩ := QW.cells
        exact bodyPost_ret (v := .tuple #[.agg #[.int .i64 0, .slice none 0 0, .slice none 0 0, .slice none 0 0], .int .i64 15]) (by simp [results, Try.results24, go_sem, z0, z1, z2, z3]) rfl (by rw [HP.out]; exact (GiveNewE.mk G).arr)
      · obtain ⟨ms, hms⟩ : ∃ ms, tt.length - A.shape.length = ms := ⟨_, rfl⟩
        have e3 : (tt.length : Int) - (A.shape.length : Int) = (ms : Int) := by omega
        have hr : rightB tt = true := hy
        have hxx : rightE A = 0 := by rw [hx]; exact hx0
        have h8 := (right_def.1 hr).1
        have hlA : A.shape.length ≤ 8 := by omega
        clear hlt hlsh
        have hrl := right_lead (right_short hxx) h8 (by omega : A.shape.length ≤ tt.length)
        have HS : Hid (smallB tt A.shape = true ↔ ∀ i, i < A.shape.length → A.shape.getD i 0 ≤ tt.getD (ms + i) 0) := by unfold Hid; rw [← hms]; exact smallB_iff
        have HP1 : Hid (smallB tt A.shape = true → padA A tt = outR (asmA A.kind tt tt [A])) := fun h => by
          have hok := okay_pad hxx hr (by omega) h
          have hk13 := (right_lens hxx).2.2.2.2
          have e := outR_asm (k := A.kind) (sh := tt) (cm := tt) (l := [A]) (fun B hB => by rw [List.mem_singleton.1 hB]; exact hxx) hok hk13 hr hr (by simp)
          rw [padA, if_pos (by rw [hx]; exact hx0), if_pos hy, if_neg hl, if_pos h, asmS, List.nil_append, if_pos hr, e]
        have HP2 : Hid (¬ smallB tt A.shape = true → padA A tt = (zeroA, 16)) := fun h => by rw [padA, if_pos (by rw [hx]; exact hx0), if_pos hy, if_neg hl, if_neg h]
        have LR := fun W (g : IntsAt W sa sc A.shape) => leadR sa sc A.shape tt.length W g (by omega) (by omega)
        have PS := fun (W : World) (va : Option Addr) (vc : Nat) (fa : Option Addr) (fc fl : Nat) (vv : Value) (i0 : w.heap.size + 1 < W.heap.size) (i1 : IntsOn (fun g => w.heap.size + 1 < g) W va vc tt) (i2 : ArrAt W vv A) (i3 : fl = (leadS A.shape tt.length).length) (i4 : IntsAt W fa fc (leadS A.shape tt.length)) (i5 : IntsAt W ta tc tt) => putStart (P := fun g => w.heap.size + 1 < g) (sa := va) (sc := vc) (ls := tt.length) (v := vv) (fa := fa) (fc := fc) (fl := fl) W hxx hr (by omega) hrl rfl i1 (fun g hg => Nat.lt_of_lt_of_le i0 hg) i2 hR i3 i4 i5
        rw [← HKK.out] at PS
        have CK := fun k sa ls sc na ln nc ia li ic w' (g : ArrOn (fun g => w.heap.size + 1 < g) w' (.agg #[.int .i64 k, .slice sa ls sc, .slice na ln nc, .slice ia li ic]) (asmA kk tt tt [A])) => checkedRR k sa ls sc na ln nc ia li ic _ w' g
        have HPk : Hid (smallB tt A.shape = true → padA A tt = outR (asmA kk tt tt [A])) := fun h => by rw [HKK.out]; exact HP1.out h
        clear HP1 hrl hxx
        obtain ⟨LL, hLL⟩ : ∃ LL, leadS A.shape tt.length = LL := ⟨_, rfl⟩
        rw [hLL] at LR PS
        clear hLL
        obtain ⟨AS, hAS⟩ : ∃ AS, asmA kk tt tt [A] = AS := ⟨_, rfl⟩
        rw [hAS] at PS CK HPk
        clear hAS
        obtain ⟨PA, er, hPA⟩ : ∃ PA er, outR AS = (PA, er) := ⟨_, _, rfl⟩
        rw [hPA] at CK HPk
        clear hPA
        go_enter Try.func24, Try.ntmps24
        go_wp2_with (first
          | (go_at_call 28; refine (R _ _ hA).mono ?_; rintro e w1 ⟨rfl, hb1⟩; (obtain ⟨s0, s1, s2, s3, s4, s5, s6, s7⟩ := (q4.below hb1).cells); (obtain ⟨p0, p1, p2, p3, -⟩ := (q0.below hb1).cells); (have hsw := hs1.below hb1); (have htw := ht1.below hb1))
          | (go_at_call 54; refine (T _ htw).mono ?_; rintro e w1' ⟨rfl, rfl⟩)
          | (go_at_call 55; refine (LR _ hsw).mono ?_; rintro e w2 ⟨fa, fc, rfl, hF, hb2⟩; (obtain ⟨g0, g1, g2, g3, -⟩ := ((q0.below hb1).below hb2).cells)))
        have hB2 := Below.then (Below.then bw hb1) hb2
        have Q0 := (q0.below hb1).below hb2
        have Q4 := (q4.below hb1).below hb2
        have hsx := hsw.below hb2
        have htx := htw.below hb2
        have hAx := (hA.below hb1).below hb2
        clear s0 s1 s2 s3 s4 s5 s6 s7 p0 p1 p2 p3 hsw htw hb1 hb2 q0 q4 hA hs1 ht1 LR bw
        obtain ⟨fl, hfl⟩ : ∃ fl, fl = LL.length := ⟨_, rfl⟩
        rw [← hfl]
        have HFL : Hid (fl = LL.length) := hfl
        clear hfl
        go_loopw [7] (fun i wr => ∃ j n : Nat, j ≤ A.shape.length ∧ i = .int .i64 j ∧ wr = w2.drewN n ∧ ∀ i', i' < j → A.shape.getD i' 0 ≤ tt.getD (ms + i') 0) (fun i _ => A.shape.length - (intOf i).toNat)
        case atStart => exact ⟨0, 0, Nat.zero_le _, rfl, rfl, fun i' h => absurd h (Nat.not_lt_zero _)⟩
        case round =>
          obtain ⟨j, n, hj, rfl, rfl, hall⟩ := hrel
          have HALL : Hid (∀ i', i' < j → A.shape.getD i' 0 ≤ tt.getD (ms + i') 0) := hall
          clear hall
          by_cases hlt2 : j < A.shape.length
          · obtain ⟨b1, o1, hi1, hc1⟩ := hsx.at hlt2
            have hmj : ms + j < tt.length := by omega
            obtain ⟨b2, o2, hi2, hc2⟩ := htx.at hmj
            obtain ⟨q, hq⟩ : ∃ q, ms + j = q := ⟨_, rfl⟩
            have e4 : (ms : Int) + (j : Int) = (q : Int) := by rw [← hq]; rfl
            obtain ⟨X, hX⟩ : ∃ X, A.shape[j] = X := ⟨_, rfl⟩
            obtain ⟨Y, hY⟩ : ∃ Y, tt[ms + j] = Y := ⟨_, rfl⟩
            have gX : A.shape.getD j 0 = X := by rw [List.getD_eq_getElem?_getD, List.getElem?_eq_getElem hlt2, hX]; rfl
            have gY : tt.getD (ms + j) 0 = Y := by rw [List.getD_eq_getElem?_getD, List.getElem?_eq_getElem hmj, hY]; rfl
            have ew1 : wrap64 (ms : Int) = (ms : Int) := small_wrap (Nat.le_trans (Nat.le_trans (Nat.le_add_right ms j) (Nat.le_of_lt hmj)) (Nat.le_trans h8 (by decide)))
            have ew2 : wrap64 (q : Int) = (q : Int) := small_wrap (Nat.le_trans (Nat.le_of_lt (hq ▸ hmj)) (Nat.le_trans h8 (by decide)))
            rw [hX] at hc1
            rw [hY] at hc2
            rw [hq] at hi2 hc2
            have GX : Hid (A.shape.getD j 0 = X) := gX
            have GY : Hid (tt.getD (ms + j) 0 = Y) := gY
            clear hX hY gX gY hq
            by_cases hgt : Y < X
            · have HP : Hid (padA A tt = (zeroA, 16)) := HP2.out fun h => by
                have := HS.out.1 h j hlt2
                rw [GX.out, GY.out] at this
                omega
              clear HALL HPk HP2 PS CK
              obtain ⟨s0, s1, s2, s3, s4, s5, s6, s7⟩ := Q4.cells
              go_wp2_with fail
              go_quiet (fail)
              go_wp2_with fail
              have G := give_set4 (w := w) (Nat.le_succ w.heap.size) ((show Quad (w2.drewN (n + nq)) (w.heap.size + 1) (.int .i64 0) (.slice none 0 0) (.slice none 0 0) (.slice none 0 0) from Q4)) (zero_on _ _) (hB2.trans ((below_drewN (w := w2) (n + nq)).mono hB2.size))
              obtain ⟨QW, -⟩ := set4 ((show Quad (w2.drewN (n + nq)) (w.heap.size + 1) (.int .i64 0) (.slice none 0 0) (.slice none 0 0) (.slice none 0 0) from Q4)) (.int .i64 0) (.slice none 0 0) (.slice none 0 0) (.slice none 0 0)
              generalize (((((w2.drewN (n + nq)).setCell ⟨w.heap.size + 1, 0, none⟩ (.int .i64 0)).setCell ⟨w.heap.size + 1, 1, none⟩ (.slice none 0 0)).setCell ⟨w.heap.size + 1, 2, none⟩ (.slice none 0 0)).setCell ⟨w.heap.size + 1, 3, none⟩ (.slice none 0 0)) = WW at QW G ⊢
              obtain ⟨z0, z1, z2, z3, -⟩ := QW.cells
              exact bodyPost_ret (v := .tuple #[.agg #[.int .i64 0, .slice none 0 0, .slice none 0 0, .slice none 0 0], .int .i64 16]) (by simp [results, Try.results24, go_sem, z0, z1, z2, z3]) rfl (by rw [HP.out]; exact (GiveNewE.mk G).arr)
            · go_wp2_with fail
              go_quiet (fail)
              go_wp2_with fail
              go_roundw
              case rel => exact ⟨j + 1, n + nq, by omega, by go_num, rfl, fun i' hi' => by
                rcases Nat.lt_succ_iff_lt_or_eq.1 hi' with h | h
                · exact HALL.out i' h
                · rw [h, GX.out, GY.out]; omega⟩
              case measure => simp [intOf]; omega
          · obtain rfl : j = A.shape.length := by omega
            have HP := HPk.out (HS.out.2 HALL.out)
            have HPA : Hid (padA A tt = (PA, er)) := HP
            clear HALL HP HPk HP2 HS T R
            have Q0n : Quad (w2.drewN n) w.heap.size (.int .i64 kk) (.slice sa A.shape.length sc) (.slice na ln nc) (.slice ia li ic) := Q0
            have Q4n : Quad (w2.drewN n) (w.heap.size + 1) (.int .i64 0) (.slice none 0 0) (.slice none 0 0) (.slice none 0 0) := Q4
            have hBn : Below w.heap.size w (w2.drewN n) := hB2.trans ((below_drewN (w := w2) n).mono hB2.size)
            have hTn : IntsAt (w2.drewN n) ta tc tt := htx
            have hFn : IntsAt (w2.drewN n) fa fc LL := hF.1
            have hAn : ArrAt (w2.drewN n) (.agg #[.int .i64 kk, .slice sa A.shape.length sc, .slice na ln nc, .slice ia li ic]) A := hAx.below (below_drewN n)
            clear Q0 Q4 hB2 htx hF hAx hsx
            go_wp2_with fail
            clear g0 g1 g2 g3
            generalize w2.drewN n = W at *
            obtain ⟨p0, p1, p2, p3, -⟩ := Q0n.cells
            have P0h : Hid (W.cell? ⟨w.heap.size, 0, none⟩ = some (.int .i64 kk)) := p0
            have H0 : ∀ w', Below W.heap.size W w' → w'.cell? ⟨w.heap.size, 0, none⟩ = some (.int .i64 kk) ∧ Below W.heap.size W w' := fun w' hb => ⟨(hb.cell (cell_lt P0h.out)).trans P0h.out, hb⟩
            have r1 := rowlitB W W.heap.size (Nat.le_refl _)
            have r2 := rowlitB (W.alloc (.cells #[.int .i64 0, .slice none 0 0, .slice none 0 0, .slice none 0 0] 26)) W.heap.size (by rw [alloc_sizeP]; exact Nat.le_succ _)
            have r3 := r1.alloc (.cells #[.int .i64 0, .slice none 0 0, .slice none 0 0, .slice none 0 0] 26)
            rw [alloc_sizeP] at r2
            have bt : ∀ x ∈ tt, -9223372036854775808 ≤ x ∧ x ≤ 9223372036854775807 := hTn.2.2.1
            have h8r : (0 + tt.length) * 8 ≤ 140737488351232 := by rw [Nat.zero_add]; exact Nat.le_trans (Nat.mul_le_mul_right 8 h8) (by decide)
            go_cut [8] (fun v8 wx => ∃ (X : Nat) (va : Option Addr) (vc : Nat), v8 = .pointer (some ⟨X, 0, none⟩) ∧ Quad wx X (.int .i64 kk) (.slice va tt.length vc) (.slice none 0 0) (.slice none 0 0) ∧ IntsOn (fun g => W.heap.size ≤ g) wx va vc tt ∧ Below W.heap.size W wx)
            case first =>
              go_region_held_law (fun w' => w'.cell? ⟨w.heap.size, 0, none⟩ = some (.int .i64 kk) ∧ Below W.heap.size W w')
                (first
                  | exact H0 _ (by go_grown)
                  | exact H0 _ (Below.setCell (Below.setCell (Below.setCell (Below.setCell (by go_grown) (by first | exact Nat.le_refl _ | assumption | omega) _) (by first | exact Nat.le_refl _ | assumption | omega) _) (by first | exact Nat.le_refl _ | assumption | omega) _) (by first | exact Nat.le_refl _ | assumption | omega) _))
                (((first
                  | (refine step_ints_own rfl _ _ rfl W.heap.size 0 (.slice (some ⟨W.heap.size, 0, none⟩) 0 0) [] (by rfl) (by first | exact r1 | exact r3) (by simp <;> omega) _ _ _ tt (by rfl) rfl (hTn.below (by go_grown)) h8r ?_; intro v2 w3 ho2 hg2; (have bg : Below W.heap.size W w3 := Below.grown (by go_grown) hg2 (by simp <;> omega) (fun q hq => by have e := Option.some.inj hq; rw [← e]; first | exact Nat.le_refl _ | exact Nat.le_succ _)); (simp only [Nat.zero_add, List.nil_append] at ho2); (obtain ⟨va, vc, rfl, hi⟩ := ints_of_own rfl ho2 bt); (have S3 := bg.size); (first | (have qX := Quad.keep (Quad.new (W.alloc (.cells #[] 3)) (.int .i64 0) (.slice none 0 0) (.slice none 0 0) (.slice none 0 0)) (hg2.block (W.alloc (.cells #[] 3)).heap.size (by simp <;> omega) (by simp [Value.ownBlock])); (rw [alloc_sizeP] at qX); (obtain ⟨x0, x1, x2, x3, x4, x5, x6, x7⟩ := qX.cells)) | skip))
                  | (refine step_ints_own rfl _ _ rfl W.heap.size 0 (.slice (some ⟨W.heap.size + 1, 0, none⟩) 0 0) [] (by rfl) (by exact r2) (by simp <;> omega) _ _ _ tt (by rfl) rfl (hTn.below (by go_grown)) h8r ?_; intro v2 w3 ho2 hg2; (have bg : Below W.heap.size W w3 := Below.grown (by go_grown) hg2 (by simp <;> omega) (fun q hq => by have e := Option.some.inj hq; rw [← e]; first | exact Nat.le_refl _ | exact Nat.le_succ _)); (simp only [Nat.zero_add, List.nil_append] at ho2); (obtain ⟨va, vc, rfl, hi⟩ := ints_of_own rfl ho2 bt); (have S3 := bg.size); (have qX := Quad.keep (Quad.below (below_new _ (.cells #[] 3)) (Quad.new W (.int .i64 0) (.slice none 0 0) (.slice none 0 0) (.slice none 0 0))) (hg2.block W.heap.size (by simp <;> omega) (by simp [Value.ownBlock])); (obtain ⟨x0, x1, x2, x3, x4, x5, x6, x7⟩ := qX.cells))))))
              all_goals go_wp2_with fail
              all_goals go_meet
              all_goals first
                | exact ⟨_, va, vc, rfl, Quad.new _ _ _ _ _, (hi.below (below_new _ _)).mono (fun g hg => hg.1), Below.then bg (below_new _ _)⟩
                | exact ⟨_, va, vc, rfl, (set4 qX _ _ _ _).1, ints_set4 ho2 qX bt _ _ _ _, bg.trans (set4_below (by first | exact Nat.le_refl _ | exact Nat.le_succ _) _ _ _ _)⟩
            case rest =>
              obtain ⟨X, va, vc, rfl, qX, hV, BX⟩ := hcut
              have A1 := hAn.below BX
              have T1 := hTn.below BX
              have F1 := hFn.below BX
              have q4x := Q4n.below BX
              obtain ⟨x0, x1, x2, x3, -⟩ := qX.cells
              obtain ⟨y0, y1, y2, y3, -⟩ := (Q0n.below BX).cells
              have hl4 := Q4n.lt
              have PS1 := PS wc va vc fa fc fl _ (Nat.lt_of_lt_of_le hl4 BX.size) (hV.mono fun g hg => Nat.lt_of_lt_of_le hl4 hg) A1 HFL.out F1 T1
              clear H0 P0h p0 p1 p2 p3 r1 r2 r3 bt h8r PS hV
              go_wp2_with (first
                | (go_at_call 57; (with_reducible refine PS1.mono ?_); rintro e w5 ⟨n5, l5, c5, i5, m5, d5, rfl, hN5, hb5⟩; (have CK1 := CK _ _ _ _ _ _ _ _ _ _ w5 hN5))
                | (go_at_call 56; (with_reducible refine CK1.mono ?_); rintro e w6 ⟨kr, sar, lsr, scr, nar, lnr, ncr, iar, lir, icr, rfl, hO, hb6⟩; (obtain ⟨s0, s1, s2, s3, s4, s5, s6, s7⟩ := ((q4x.below hb5).below hb6).cells)))
              have q3 := (q4x.below hb5).below hb6
              have G := give_set4 (w := w) (Nat.le_succ w.heap.size) q3 hO (Below.then (Below.then (hBn.trans (BX.mono hBn.size)) hb5) hb6)
              obtain ⟨QW, -⟩ := set4 q3 (.int .i64 kr) (.slice sar lsr scr) (.slice nar lnr ncr) (.slice iar lir icr)
              generalize ((((w6.setCell ⟨w.heap.size + 1, 0, none⟩ (.int .i64 kr)).setCell ⟨w.heap.size + 1, 1, none⟩ (.slice sar lsr scr)).setCell ⟨w.heap.size + 1, 2, none⟩ (.slice nar lnr ncr)).setCell ⟨w.heap.size + 1, 3, none⟩ (.slice iar lir icr)) = WW at QW G ⊢
              obtain ⟨z0, z1, z2, z3, -⟩ := QW.cells
              exact bodyPost_ret (v := .tuple #[.agg #[.int .i64 kr, .slice sar lsr scr, .slice nar lnr ncr, .slice iar lir icr], .int .i64 er]) (by simp [results, Try.results24, go_sem, z0, z1, z2, z3]) rfl (by rw [HPA.out]; exact (GiveNewE.mk G).arr)
  · have HP : Hid (padA A tt = (zeroA, 1)) := by unfold Hid; rw [padA, if_neg (by rw [hx]; exact hx0)]
    have e1 : (x != 0) = true := by simpa using hx0
    go_enter Try.func24, Try.ntmps24
    go_wp2_with (go_at_call 28; refine (R _ _ hA).mono ?_; rintro e w1 ⟨rfl, hb1⟩; (obtain ⟨s0, s1, s2, s3, s4, s5, s6, s7⟩ := (q4.below hb1).cells))
    have G := give_set4 (w := w) (Nat.le_succ w.heap.size) (q4.below hb1) (zero_on _ _) (Below.then bw hb1)
    obtain ⟨QW, -⟩ := set4 (q4.below hb1) (.int .i64 0) (.slice none 0 0) (.slice none 0 0) (.slice none 0 0)
    generalize ((((w1.setCell ⟨w.heap.size + 1, 0, none⟩ (.int .i64 0)).setCell ⟨w.heap.size + 1, 1, none⟩ (.slice none 0 0)).setCell ⟨w.heap.size + 1, 2, none⟩ (.slice none 0 0)).setCell ⟨w.heap.size + 1, 3, none⟩ (.slice none 0 0)) = WW at QW G ⊢
    obtain ⟨z0, z1, z2, z3, -⟩ := QW.cells
    exact bodyPost_ret (v := .tuple #[.agg #[.int .i64 0, .slice none 0 0, .slice none 0 0, .slice none 0 0], .int .i64 1]) (by simp [results, Try.results24, go_sem, z0, z1, z2, z3]) rfl (by rw [HP.out]; exact (GiveNewE.mk G).arr)
end Go.Proofs.Ytblgpnijiefopaa.Shape

namespace Go.Proofs.Ytblgpnijiefopaa.Shape
open Go.RowKit
set_option linter.unusedVariables false

/-- The law's count of a shape's elements: no product beyond an int. -/
theorem pads_num (N : Nat) (hN : N ≤ 2000) (y : Int) : ∃ M P : Nat, (if 2001 < if y < 1 then 1 else y then 2001 else if y < 1 then 1 else y) = (M : Int) ∧ (N : Int) * (M : Int) = (P : Int) ∧ wrap64 (P : Int) = (P : Int) := by
  obtain ⟨M, hM, hM2⟩ : ∃ M : Nat, (if 2001 < if y < 1 then 1 else y then 2001 else if y < 1 then 1 else y) = (M : Int) ∧ M ≤ 2001 := by
    by_cases h1 : y < 1
    · exact ⟨1, by simp [h1], by decide⟩
    · by_cases h2 : 2001 < y
      · exact ⟨2001, by simp [h1, h2], by decide⟩
      · exact ⟨y.toNat, by simp only [h1, h2, if_false]; omega, by omega⟩
  refine ⟨M, N * M, hM, by simp, IntWalk.wrap64_in _ ?_⟩
  have : N * M ≤ 2000 * 2001 := Nat.mul_le_mul hN hM2
  omega
theorem natbdL {n m : Nat} (h : n ≤ m) (hm : m ≤ 10000000) : -9223372036854775808 ≤ (n : Int) ∧ (n : Int) ≤ 9223372036854775807 := by omega
/-- A cell of a list of arrays: the lengths of its lists. -/
theorem cell_parts {w : World} {b : Nat} {l : List Arr} (h : ArrsAt w b 0 l) {j : Nat} (hj : j < l.length) : ∃ (y0 y1 : Value) (aN : Option Addr) (dN : Nat) (aI : Option Addr) (dI : Nat), w.cell? ⟨b, j * 4 + 2, none⟩ = some (.slice aN l[j].nums.length dN) ∧ w.cell? ⟨b, j * 4 + 3, none⟩ = some (.slice aI l[j].items.length dI) := by
  obtain ⟨c0, c1, c2, c3, ⟨-, -, g2, g3⟩, hA⟩ := h.at hj
  rw [Nat.zero_add] at g2 g3
  generalize l[j] = X at hA ⊢
  obtain ⟨k, sh, nu, it⟩ := X
  rw [ArrAt] at hA
  obtain ⟨sa, sc, na, nc, ia, ic, hv, -⟩ := hA
  simp only [Value.agg.injEq, Array.mk.injEq, List.cons.injEq, and_true] at hv
  obtain ⟨-, -, rfl, rfl⟩ := hv
  exact ⟨c0, c1, na, nc, ia, ic, g2, g3⟩
theorem back_sum {l : List Arr} {s n j q : Nat} (h : ∀ C ∈ l, C.nums.length + C.items.length = s) (ht : l.length * s = n) (hn : n ≤ 65536) (hj : j < l.length) (hq : Hid (q = j * s)) : ∃ q2 : Nat, Hid (q2 = (j + 1) * s) ∧ (l[j].nums.length : Int) + (l[j].items.length : Int) = (s : Int) ∧ (q : Int) + (s : Int) = (q2 : Int) ∧ wrap64 (s : Int) = (s : Int) ∧ wrap64 (q2 : Int) = (q2 : Int) ∧ True := by
  have h1 := h _ (List.getElem_mem hj)
  have hq' := hq.out
  have h2 : (j + 1) * s ≤ l.length * s := Nat.mul_le_mul_right _ hj
  have h3 : s ≤ (j + 1) * s := by rw [Nat.succ_mul]; omega
  refine ⟨(j + 1) * s, rfl, by omega, by rw [hq', Nat.succ_mul]; omega, small_wrap (by omega), small_wrap (by omega), trivial⟩
theorem GiveArrE.formL {A : Arr} {er : Int} {w w' : World} {e : Ending} (h : GiveArrE A er w e w') : ∃ k sa ls sc na ln nc ia li ic, e = .returned (.tuple #[.agg #[.int .i64 k, .slice sa ls sc, .slice na ln nc, .slice ia li ic], .int .i64 er]) ∧
    ArrAt w' (.agg #[.int .i64 k, .slice sa ls sc, .slice na ln nc, .slice ia li ic]) A ∧ Below w.heap.size w w' := by
  obtain ⟨v, rfl, hA, hb⟩ := h
  have hA' := hA
  obtain ⟨k, sh, nu, it⟩ := A
  rw [ArrAt] at hA
  obtain ⟨sa, sc, na, nc, ia, ic, rfl, -⟩ := hA
  exact ⟨k, sa, _, sc, na, _, nc, ia, _, ic, rfl, hA', hb⟩
end Go.Proofs.Ytblgpnijiefopaa.Shape
