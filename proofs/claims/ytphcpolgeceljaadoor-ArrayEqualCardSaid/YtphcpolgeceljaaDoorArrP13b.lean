/-
  Layer 3: the program's Of where the source has no elements. (Written by wip/gen/array-p13.py.)
-/
import Derived.Test.YtphcpolgeceljaaDoorArrP13
namespace Go.Proofs.YtphcpolgeceljaaDoor.Shape
open Go.RowKit
set_option linter.unusedVariables false

set_option maxRecDepth 100000 in
set_option maxHeartbeats 8000000 in
theorem ofN_fill (a : Option Addr) (cap : Nat) (sh : List Int) (v : Value) (F S : Arr) (w : World) (g : IntsAt w a cap sh) (h : ArrAt w v F) (hE : rightE F = 0) (hD : dimsE sh = 0) (hz : aSize F = 0) (hS : S = fillA F.kind) (hR : Reach S) :
    Calls Tryd.prog 41 #[.slice a sh.length cap, v] w (GiveNewE (outA (repA S sh (pr sh).toNat)).1 (outA (repA S sh (pr sh).toNat)).2 w) := by
  have hA := h
  obtain ⟨k, sa, ls, sc, na, ln, nc, ia, li, ic, rfl⟩ : ∃ k sa ls sc na ln nc ia li ic, v = .agg #[.int .i64 k, .slice sa ls sc, .slice na ln nc, .slice ia li ic] := by
    obtain ⟨k, sh, nu, it⟩ := F
    rw [ArrAt] at h
    obtain ⟨sa, sc, na, nc, ia, ic, rfl, -⟩ := h
    exact ⟨_, _, _, _, _, _, _, _, _, _, rfl⟩
  clear h
  have bw := below_two w (.cells #[.int .i64 k, .slice sa ls sc, .slice na ln nc, .slice ia li ic] 26) (.cells #[.int .i64 0, .slice none 0 0, .slice none 0 0, .slice none 0 0] 26)
  have hA1 := hA.below bw
  have g1 := g.below bw
  have q1 := (Quad.new w (.int .i64 k) (.slice sa ls sc) (.slice na ln nc) (.slice ia li ic)).below (below_new _ (.cells #[.int .i64 0, .slice none 0 0, .slice none 0 0, .slice none 0 0] 26))
  have q2 : Quad ((w.alloc (.cells #[.int .i64 k, .slice sa ls sc, .slice na ln nc, .slice ia li ic] 26)).alloc (.cells #[.int .i64 0, .slice none 0 0, .slice none 0 0, .slice none 0 0] 26)) (w.heap.size + 1) (.int .i64 0) (.slice none 0 0) (.slice none 0 0) (.slice none 0 0) := by simpa using Quad.new (w.alloc (.cells #[.int .i64 k, .slice sa ls sc, .slice na ln nc, .slice ia li ic] 26)) (.int .i64 0) (.slice none 0 0) (.slice none 0 0) (.slice none 0 0)
  have bz : Hid (((w.alloc (.cells #[.int .i64 k, .slice sa ls sc, .slice na ln nc, .slice ia li ic] 26)).alloc (.cells #[.int .i64 0, .slice none 0 0, .slice none 0 0, .slice none 0 0] 26)).heap.size = w.heap.size + 2) := by unfold Hid; simp
  have C1 := fun v' w' (g : ArrAt w' v' F) => rightQ v' F w' g
  rw [hE] at C1
  obtain ⟨p0, p1⟩ := dims_small hD
  obtain ⟨n, hn⟩ : ∃ n : Nat, (pr sh).toNat = n := ⟨_, rfl⟩
  have hnp : pr sh = (n : Int) := by omega
  have hn1 : n ≤ 65536 := by omega
  have C2 := fun w' (g : IntsAt w' a cap sh) => checkShapeQ a cap sh w' g
  simp only [shN_ok hD, hD, hnp] at C2
  have C3 := fun v' w' (g : ArrAt w' v' F) => sizeQ v' F w' g
  rw [hz] at C3
  have CF := fun v' w' (g : ArrAt w' v' F) => fillN v' F w' g
  rw [← hS] at CF
  rw [hn]
  have hRR := reach_rep (n := n) hD hn1 hR
  clear hnp hn p0 p1 hA
  go_enter Tryd.func41, Tryd.ntmps41
  go_upto_region 8 with (first
    | (go_at_call 13; refine (C1 _ _ hA1).mono ?_; rintro e w1 ⟨rfl, hb1⟩; (obtain ⟨x0, x1, x2, x3, -⟩ := (q1.below hb1).cells))
    | (go_at_call 61; refine (C2 _ (g1.below hb1)).mono ?_; rintro e w2 ⟨rfl, rfl⟩)
    | (go_at_call 15; refine (C3 _ _ (hA1.below hb1)).mono ?_; rintro e w3 ⟨rfl, hb3⟩; (obtain ⟨y0, y1, y2, y3, y4, y5, y6, y7⟩ := ((q1.below hb1).below hb3).cells))
    | (go_at_call 35; refine (CF _ _ ((hA1.below hb1).below hb3)).mono ?_; intro e w4 hN; (obtain ⟨kk, saa, lss, scc, naa, lnn, ncc, iaa, lii, icc, rfl, hO, hb4⟩ := hN.form); (obtain ⟨s0, s1, s2, s3, s4, s5, s6, s7⟩ := (((q1.below hb1).below hb3).below hb4).cells)))
  have hz' := bz.out
  have hq5 := ((q1.below hb1).below hb3).below hb4
  obtain ⟨qS, hOth⟩ := set4 hq5 (.int .i64 kk) (.slice saa lss scc) (.slice naa lnn ncc) (.slice iaa lii icc)
  have z1 := hb1.size
  have z3 := hb3.size
  have hBW : Below w.heap.size w ((((w4.setCell ⟨w.heap.size, 0, none⟩ (.int .i64 kk)).setCell ⟨w.heap.size, 1, none⟩ (.slice saa lss scc)).setCell ⟨w.heap.size, 2, none⟩ (.slice naa lnn ncc)).setCell ⟨w.heap.size, 3, none⟩ (.slice iaa lii icc)) := (Below.then (Below.then (Below.then bw hb1) hb3) hb4).trans (set4_below (Nat.le_refl _) _ _ _ _)
  have hAS := (hO.keep (R := fun _ => True) fun g hg _ => ⟨trivial, fun o => World.cell?_of_block (hOth g (by omega))⟩).at
  have qR := (((q2.below hb1).below hb3).below hb4).keep (hOth (w.heap.size + 1) (by omega))
  have gS := g.below hBW
  generalize ((((w4.setCell ⟨w.heap.size, 0, none⟩ (.int .i64 kk)).setCell ⟨w.heap.size, 1, none⟩ (.slice saa lss scc)).setCell ⟨w.heap.size, 2, none⟩ (.slice naa lnn ncc)).setCell ⟨w.heap.size, 3, none⟩ (.slice iaa lii icc)) = WS at qS hOth hBW hAS qR gS ⊢
  clear hOth hq5 hO hb4 hb3 hb1 z1 z3 hz' q1 q2 g1 hA1 bw bz C1 C2 C3 CF s0 s1 s2 s3 s4 s5 s6 s7 x0 x1 x2 x3 y0 y1 y2 y3 y4 y5 y6 y7
  obtain ⟨k', gs, gn, gi⟩ := S
  have hAS2 := hAS.on
  rw [ArrOn] at hAS2
  obtain ⟨sa', sc', na', nc', ia', ic', hv', hk', hsS, hnS, hlc, hic, b, off, ha, hcS⟩ := hAS2
  simp only [Value.agg.injEq, Array.mk.injEq, List.cons.injEq, and_true, Value.int.injEq, true_and] at hv'
  obtain ⟨rfl, hv1, hv2, hv3⟩ := hv'
  simp only [hv1, hv2, hv3] at qS hAS ⊢
  clear hv1 hv2 hv3
  rw [Reach] at hR
  obtain ⟨r1, r2, r3, r4⟩ := hR
  have CI := fun w' (hb : Below WS.heap.size WS w') => cycleIQ na' nc' gn n w' (hnS.1.below hb) r2 hn1
  have CA := fun w' (hb : Below WS.heap.size WS w') => cycleAQ (fun g => g < WS.heap.size) ia' ic' b off gi n w' hlc (fun g => (ha g).1) (hcS.keep' (fun g hg _ => ⟨hg, fun _ => hb.cell hg⟩) (fun g => (ha g).2)) r3 hn1
  obtain ⟨d0, d1, d2, d3, -⟩ := qS.cells
  go_cut [8] (fun v8 wx => ∃ (X : Nat) (na2 : Option Addr) (nc2 : Nat) (ia2 : Option Addr) (ic2 : Nat), v8 = .pointer (some ⟨X, 0, none⟩) ∧ Quad wx X (.int .i64 kk) (.slice a sh.length cap) (.slice na2 (cyc0 gn 0 n).length nc2) (.slice ia2 (cyc0 gi zeroA n).length ic2) ∧ ArrAt wx (.agg #[.int .i64 kk, .slice a sh.length cap, .slice na2 (cyc0 gn 0 n).length nc2, .slice ia2 (cyc0 gi zeroA n).length ic2]) (repA (.mk kk gs gn gi) sh n) ∧ Quad wx (w.heap.size + 1) (.int .i64 0) (.slice none 0 0) (.slice none 0 0) (.slice none 0 0) ∧ Below w.heap.size w wx)
  case first =>
    have H0 : ∀ w', Below WS.heap.size WS w' → w'.cell? ⟨w.heap.size, 0, none⟩ = some (.int .i64 kk) ∧ w'.cell? ⟨w.heap.size, 2, none⟩ = some (.slice na' gn.length nc') ∧ w'.cell? ⟨w.heap.size, 3, none⟩ = some (.slice ia' gi.length ic') ∧ Below WS.heap.size WS w' := by
      intro w' hb
      obtain ⟨x0, x1, x2, x3, -⟩ := (qS.below hb).cells
      exact ⟨x0, x2, x3, hb⟩
    clear d0 d1 d2 d3
    go_region_held_law (fun w' => w'.cell? ⟨w.heap.size, 0, none⟩ = some (.int .i64 kk) ∧ w'.cell? ⟨w.heap.size, 2, none⟩ = some (.slice na' gn.length nc') ∧ w'.cell? ⟨w.heap.size, 3, none⟩ = some (.slice ia' gi.length ic') ∧ Below WS.heap.size WS w')
      (first
        | exact H0 _ (by go_grown)
        | exact H0 _ (Below.setCell (Below.setCell (Below.setCell (Below.setCell (by go_grown) (by first | exact Nat.le_refl _ | assumption | omega) _) (by first | exact Nat.le_refl _ | assumption | omega) _) (by first | exact Nat.le_refl _ | assumption | omega) _) (by first | exact Nat.le_refl _ | assumption | omega) _))
      (((first
      | (go_simp; (with_reducible refine (CI _ (by go_grown)).mono ?_); rintro e w4 ⟨na2, nc2, rfl, i1, b1⟩; (have e1 : Below WS.heap.size WS w4 := Below.then (by go_grown) b1); (have S1 := e1.size); (first | (have qX := Quad.below b1 (Quad.new _ _ _ _ _); obtain ⟨m0, m1, m2, m3, m4, m5, m6, m7⟩ := qX.cells) | skip))
      | (go_simp; (with_reducible refine (CA _ (by go_grown)).mono ?_); rintro e w5 ⟨ia2, ic2, b2', rfl, l1, l2, l3, lb, l4, b2⟩; (have e2 : Below WS.heap.size WS w5 := Below.then (by go_grown) b2); (have S2 := e2.size); (have e12 : Below w4.heap.size w4 w5 := Below.then (by go_grown) b2); (first | (have qY := Quad.below b2 (Quad.new _ _ _ _ _); obtain ⟨o0, o1, o2, o3, o4, o5, o6, o7⟩ := qY.cells) | (have qY := Quad.below b2 qX; obtain ⟨o0, o1, o2, o3, o4, o5, o6, o7⟩ := qY.cells) | skip)))))
    all_goals
      have i0 : IntsOn (fun g => g < WS.heap.size) w5 a cap sh := gS.on.keep (fun g hg _ => ⟨hg, fun _ => e2.cell hg⟩)
      have S3 := e12.size
      have S4 := b1.size
      have S5 := b2.size
    · have i1' : IntsOn (fun g => g ≠ w5.heap.size) w5 na2 nc2 (cyc0 gn 0 n) := i1.keep (fun g hg hl => ⟨by omega, fun _ => b2.cell hl⟩)
      have W6 := below_new w5 (.cells #[.int .i64 kk, .slice a sh.length cap, .slice na2 (cyc0 gn 0 n).length nc2, .slice ia2 (cyc0 gi zeroA n).length ic2] 26)
      go_wp2_with fail
      go_meet
      refine ⟨_, na2, nc2, ia2, ic2, rfl, Quad.new _ _ _ _ _, ?_, (qR.below e2).below W6, Below.then (Below.then hBW e2) W6⟩
      by_cases hne : cyc0 gi zeroA n = []
      · exact rep_at (X := w5.heap.size) (b' := w5.heap.size + 1) (fun g h1 h2 o => W6.cell h2) hk' (i0.mono fun g hg => by omega) i1' l1 l2 (fun h => absurd hne h) (by omega) (by rw [hne, ArrsOn]; trivial)
      · have hb' : b2' < w5.heap.size := by
          cases hx : cyc0 gi zeroA n with
          | nil => exact absurd hx hne
          | cons A r =>
            have l5 := l4
            rw [hx, ArrsOn] at l5
            obtain ⟨⟨c0, _, _, _, ⟨e, -⟩, -⟩, -⟩ := l5
            exact cell_lt e
        exact rep_at (X := w5.heap.size) (fun g h1 h2 o => W6.cell h2) hk' (i0.mono fun g hg => by omega) i1' l1 l2 l3 (by omega) (l4.weak fun g hg => by omega)
    · obtain ⟨qZ, hOt⟩ := set4 qY (.int .i64 kk) (.slice a sh.length cap) (.slice na2 (cyc0 gn 0 n).length nc2) (.slice ia2 (cyc0 gi zeroA n).length ic2)
      have lb' : w4.heap.size + 1 ≤ b2' := by simpa using lb
      have i1' : IntsOn (fun g => g ≠ w4.heap.size) w5 na2 nc2 (cyc0 gn 0 n) := i1.keep (fun g hg hl => ⟨by omega, fun _ => e12.cell hl⟩)
      have hBX := (Below.then hBW e2).trans (set4_below (w := w5) (B := w.heap.size) (b := w4.heap.size) (by have := hBW.size; omega) (.int .i64 kk) (.slice a sh.length cap) (.slice na2 (cyc0 gn 0 n).length nc2) (.slice ia2 (cyc0 gi zeroA n).length ic2))
      have qRX := (qR.below e2).keep (hOt _ (by have := qR.lt; omega))
      have hA6 := rep_at (X := w4.heap.size) (fun g h1 h2 o => World.cell?_of_block (hOt g h1)) hk' (i0.mono fun g hg => by omega) i1' l1 l2 l3 (by omega) (l4.weak fun g hg => by omega)
      go_wp2_with fail
      go_meet
      exact ⟨_, na2, nc2, ia2, ic2, rfl, qZ, hA6, qRX, hBX⟩
    · obtain ⟨qZ, hOt⟩ := set4 qY (.int .i64 kk) (.slice a sh.length cap) (.slice na2 (cyc0 gn 0 n).length nc2) (.slice ia2 (cyc0 gi zeroA n).length ic2)
      have lb' : WS.heap.size + 1 ≤ b2' := by (have h7 : WS.heap.size + 1 ≤ w4.heap.size := by simpa [World.drew] using S4); omega
      have i1' : IntsOn (fun g => g ≠ WS.heap.size) w5 na2 nc2 (cyc0 gn 0 n) := i1.keep (fun g hg hl => ⟨by (have h7 : WS.heap.size + 1 ≤ g := by simpa [World.drew] using hg); omega, fun _ => e12.cell hl⟩)
      have hBX := (Below.then hBW e2).trans (set4_below (w := w5) (B := w.heap.size) (b := WS.heap.size) (by have := hBW.size; omega) (.int .i64 kk) (.slice a sh.length cap) (.slice na2 (cyc0 gn 0 n).length nc2) (.slice ia2 (cyc0 gi zeroA n).length ic2))
      have qRX := (qR.below e2).keep (hOt _ (by have := qR.lt; omega))
      have hA6 := rep_at (X := WS.heap.size) (fun g h1 h2 o => World.cell?_of_block (hOt g h1)) hk' (i0.mono fun g hg => by omega) i1' l1 l2 l3 (by omega) (l4.weak fun g hg => by omega)
      go_wp2_with fail
      go_meet
      exact ⟨_, na2, nc2, ia2, ic2, rfl, qZ, hA6, qRX, hBX⟩
  case rest =>
    obtain ⟨X, na2, nc2, ia2, ic2, rfl, qX, hRA, qR2, hBX⟩ := hcut
    clear CI CA qS qR hAS gS hBW hcS hnS hsS d0 d1 d2 d3
    obtain ⟨x0, x1, x2, x3, -⟩ := qX.cells
    have K := weightQ _ _ wc hRA hRR
    obtain ⟨T, hT⟩ : ∃ T, wt (repA (.mk kk gs gn gi) sh n) = T := ⟨_, rfl⟩
    have HT : Hid (wt (repA (.mk kk gs gn gi) sh n) = T) := hT
    rw [hT] at K
    clear hT
    by_cases hbig : 262144 < T
    · have HO : Hid (outA (repA (.mk kk gs gn gi) sh n) = (zeroA, 21)) := outA_big (by rw [HT.out]; exact hbig)
      go_wp2_with (go_at_call 17; refine K.mono ?_; rintro e w6 ⟨rfl, hb6⟩; (obtain ⟨s0, s1, s2, s3, s4, s5, s6, s7⟩ := (qR2.below hb6).cells))
      have q3 := qR2.below hb6
      have G := give_set4 (Nat.le_succ w.heap.size) q3 (zero_on _ _) (Below.then hBX hb6)
      obtain ⟨QW, -⟩ := set4 q3 (.int .i64 0) (.slice none 0 0) (.slice none 0 0) (.slice none 0 0)
      generalize ((((w6.setCell ⟨w.heap.size + 1, 0, none⟩ (.int .i64 0)).setCell ⟨w.heap.size + 1, 1, none⟩ (.slice none 0 0)).setCell ⟨w.heap.size + 1, 2, none⟩ (.slice none 0 0)).setCell ⟨w.heap.size + 1, 3, none⟩ (.slice none 0 0)) = WW at QW G ⊢
      obtain ⟨z0, z1, z2, z3, -⟩ := QW.cells
      rw [HO.out]
      exact bodyPost_ret (v := .tuple #[.agg #[.int .i64 0, .slice none 0 0, .slice none 0 0, .slice none 0 0], .int .i64 21]) (by simp [results, Tryd.results41, go_sem, z0, z1, z2, z3]) rfl (GiveNewE.mk G)
    · have HO : Hid (outA (repA (.mk kk gs gn gi) sh n) = (repA (.mk kk gs gn gi) sh n, 0)) := outA_ok (by rw [HT.out]; exact hbig)
      go_wp2_with (first
        | (go_at_call 17; refine K.mono ?_; rintro e w6 ⟨rfl, hb6⟩; (obtain ⟨u0, u1, u2, u3, -⟩ := (qX.below hb6).cells))
        | (go_at_call 20; refine (cloneN _ _ _ (hRA.below hb6) hRR).mono ?_; intro e w7 hN; (obtain ⟨kr, sar, lsr, scr, nar, lnr, ncr, iar, lir, icr, rfl, hO, hb7⟩ := hN.form); (obtain ⟨s0, s1, s2, s3, s4, s5, s6, s7⟩ := ((qR2.below hb6).below hb7).cells)))
      have q3 := (qR2.below hb6).below hb7
      have hs6 := hb6.size
      have hlr := qR2.lt
      have G := give_set4 (Nat.le_succ w.heap.size) q3 (hO.mono fun g hg => by omega) (Below.then (Below.then hBX hb6) hb7)
      obtain ⟨QW, -⟩ := set4 q3 (.int .i64 kr) (.slice sar lsr scr) (.slice nar lnr ncr) (.slice iar lir icr)
      generalize ((((w7.setCell ⟨w.heap.size + 1, 0, none⟩ (.int .i64 kr)).setCell ⟨w.heap.size + 1, 1, none⟩ (.slice sar lsr scr)).setCell ⟨w.heap.size + 1, 2, none⟩ (.slice nar lnr ncr)).setCell ⟨w.heap.size + 1, 3, none⟩ (.slice iar lir icr)) = WW at QW G ⊢
      obtain ⟨z0, z1, z2, z3, -⟩ := QW.cells
      rw [HO.out]
      exact bodyPost_ret (v := .tuple #[.agg #[.int .i64 kr, .slice sar lsr scr, .slice nar lnr ncr, .slice iar lir icr], .int .i64 0]) (by simp [results, Tryd.results41, go_sem, z0, z1, z2, z3]) rfl (GiveNewE.mk G)
end Go.Proofs.YtphcpolgeceljaaDoor.Shape
