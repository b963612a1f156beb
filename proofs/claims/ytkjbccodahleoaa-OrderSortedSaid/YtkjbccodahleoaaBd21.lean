/-
  Layer 4: the program's Of where the source has no elements: the parts of its result lie apart. (Written by wip/gen/cell-split.py.)
  Layer 4: the program's filled: the array of a shape that consists of fill elements.
-/
import Derived.Test.YtkjbccodahleoaaBd17
import Derived.Test.YtkjbccodahleoaaBd19
import Derived.Test.YtkjbccodahleoaaBd7
import Derived.Test.YtkjbccodahleoaaBd2
namespace Go.Proofs.Ytkjbccodahleoaa.Shape
open Go.RowKit
set_option linter.unusedVariables false

def GiveSplitE (A : Arr) (er : Int) (w : World) (e : Ending) (w' : World) : Prop :=
  ∃ c0 c1 c2 c3, e = .returned (.tuple #[.agg #[c0, c1, c2, c3], .int .i64 er]) ∧ GiveSplit A w (.returned (.agg #[c0, c1, c2, c3])) w'
theorem GiveSplitE.mk {A : Arr} {er : Int} {w w' : World} {c0 c1 c2 c3 : Value} (h : GiveSplit A w (.returned (.agg #[c0, c1, c2, c3])) w') : GiveSplitE A er w (.returned (.tuple #[.agg #[c0, c1, c2, c3], .int .i64 er])) w' := ⟨c0, c1, c2, c3, rfl, h⟩
theorem GiveSplitE.form {A : Arr} {er : Int} {w w' : World} {e : Ending} (h : GiveSplitE A er w e w') : ∃ k sa ls sc na ln nc ia li ic, e = .returned (.tuple #[.agg #[.int .i64 k, .slice sa ls sc, .slice na ln nc, .slice ia li ic], .int .i64 er]) ∧
    SplitAt w.heap.size w' (.agg #[.int .i64 k, .slice sa ls sc, .slice na ln nc, .slice ia li ic]) A ∧ Below w.heap.size w w' := by
  obtain ⟨c0, c1, c2, c3, rfl, hG⟩ := h
  obtain ⟨k, sa, ls, sc, na, ln, nc, ia, li, ic, hv, hO, hb⟩ := hG.form
  simp only [Ending.returned.injEq] at hv
  exact ⟨k, sa, ls, sc, na, ln, nc, ia, li, ic, by rw [hv], hO, hb⟩
set_option maxRecDepth 100000 in
set_option maxHeartbeats 8000000 in
theorem ofS_fill (a : Option Addr) (cap : Nat) (sh : List Int) (v : Value) (F S : Arr) (w : World) (g : IntsAt w a cap sh) (h : ArrAt w v F) (hE : rightE F = 0) (hD : dimsE sh = 0) (hz : aSize F = 0) (hS : S = fillA F.kind) (hR : Reach S) :
    Calls Try.prog 84 #[.slice a sh.length cap, v] w (GiveSplitE (outA (repA S sh (pr sh).toNat)).1 (outA (repA S sh (pr sh).toNat)).2 w) := by
  have hA := h
  obtain ⟨k, sa, ls, sc, na, ln, nc, ia, li, ic, rfl⟩ : ∃ k sa ls sc na ln nc ia li ic, v = .agg #[.int .i64 k, .slice sa ls sc, .slice na ln nc, .slice ia li ic] := by
    obtain ⟨k, sh, nu, it⟩ := F
    rw [ArrAt] at h
    obtain ⟨sa, sc, na, nc, ia, ic, rfl, -⟩ := h
    exact ⟨_, _, _, _, _, _, _, _, _, _, rfl⟩
  clear h
  have bw := below_two w (.cells #[.int .i64 k, .slice sa ls sc, .slice na ln nc, .slice ia li ic] 26) (.cells #[.int .i64 0, .slice none 0 0, .slice none 0 0, .slice none 0 0] 26)
  have hA1 := hA.below bw
  have g1 := g.below bw
  have q1 := (Quad.new w (.int .i64 k) (.slice sa ls sc) (.slice na ln nc) (.slice ia li ic)).below (below_new _ (.cells #[.int .i64 0, .slice none 0 0, .slice none 0 0, .slice none 0 0] 26))
  have q2 : Quad ((w.alloc (.cells #[.int .i64 k, .slice sa ls sc, .slice na ln nc, .slice ia li ic] 26)).alloc (.cells #[.int .i64 0, .slice none 0 0, .slice none 0 0, .slice none 0 0] 26)) (w.heap.size + 1) (.int .i64 0) (.slice none 0 0) (.slice none 0 0) (.slice none 0 0) := by simpa using Quad.new (w.alloc (.cells #[.int .i64 k, .slice sa ls sc, .slice na ln nc, .slice ia li ic] 26)) (.int .i64 0) (.slice none 0 0) (.slice none 0 0) (.slice none 0 0)
  have bz : Hid (((w.alloc (.cells #[.int .i64 k, .slice sa ls sc, .slice na ln nc, .slice ia li ic] 26)).alloc (.cells #[.int .i64 0, .slice none 0 0, .slice none 0 0, .slice none 0 0] 26)).heap.size = w.heap.size + 2) := by unfold Hid; simp
  have C1 := fun v' w' (g : ArrAt w' v' F) => rightQ v' F w' g
  rw [hE] at C1
  obtain ⟨p0, p1⟩ := dims_small hD
  obtain ⟨n, hn⟩ : ∃ n : Nat, (pr sh).toNat = n := ⟨_, rfl⟩
  have hnp : pr sh = (n : Int) := by omega
  have hn1 : n ≤ 65536 := by omega
  have C2 := fun w' (g : IntsAt w' a cap sh) => checkShapeQ a cap sh w' g
  simp only [shN_ok hD, hD, hnp] at C2
  have C3 := fun v' w' (g : ArrAt w' v' F) => sizeQ v' F w' g
  rw [hz] at C3
  have CF := fun v' w' (g : ArrAt w' v' F) => fillN v' F w' g
  rw [← hS] at CF
  rw [hn]
  have hRR := reach_rep (n := n) hD hn1 hR
  clear hnp hn p0 p1 hA
  go_enter Try.func84, Try.ntmps84
  go_upto_region 8 with (first
    | (go_at_call 34; refine (C1 _ _ hA1).mono ?_; rintro e w1 ⟨rfl, hb1⟩; (obtain ⟨x0, x1, x2, x3, -⟩ := (q1.below hb1).cells))
    | (go_at_call 82; refine (C2 _ (g1.below hb1)).mono ?_; rintro e w2 ⟨rfl, rfl⟩)
    | (go_at_call 61; refine (C3 _ _ (hA1.below hb1)).mono ?_; rintro e w3 ⟨rfl, hb3⟩; (obtain ⟨y0, y1, y2, y3, y4, y5, y6, y7⟩ := ((q1.below hb1).below hb3).cells))
    | (go_at_call 94; refine (CF _ _ ((hA1.below hb1).below hb3)).mono ?_; intro e w4 hN; (obtain ⟨kk, saa, lss, scc, naa, lnn, ncc, iaa, lii, icc, rfl, hO, hb4⟩ := hN.form); (obtain ⟨s0, s1, s2, s3, s4, s5, s6, s7⟩ := (((q1.below hb1).below hb3).below hb4).cells)))
  have hz' := bz.out
  have hq5 := ((q1.below hb1).below hb3).below hb4
  obtain ⟨qS, hOth⟩ := set4 hq5 (.int .i64 kk) (.slice saa lss scc) (.slice naa lnn ncc) (.slice iaa lii icc)
  have z1 := hb1.size
  have z3 := hb3.size
  have hBW : Below w.heap.size w ((((w4.setCell ⟨w.heap.size, 0, none⟩ (.int .i64 kk)).setCell ⟨w.heap.size, 1, none⟩ (.slice saa lss scc)).setCell ⟨w.heap.size, 2, none⟩ (.slice naa lnn ncc)).setCell ⟨w.heap.size, 3, none⟩ (.slice iaa lii icc)) := (Below.then (Below.then (Below.then bw hb1) hb3) hb4).trans (set4_below (Nat.le_refl _) _ _ _ _)
  have hAS := (hO.keep (R := fun _ => True) fun g hg _ => ⟨trivial, fun o => World.cell?_of_block (hOth g (by omega))⟩).at
  have qR := (((q2.below hb1).below hb3).below hb4).keep (hOth (w.heap.size + 1) (by omega))
  have gS := g.below hBW
  generalize ((((w4.setCell ⟨w.heap.size, 0, none⟩ (.int .i64 kk)).setCell ⟨w.heap.size, 1, none⟩ (.slice saa lss scc)).setCell ⟨w.heap.size, 2, none⟩ (.slice naa lnn ncc)).setCell ⟨w.heap.size, 3, none⟩ (.slice iaa lii icc)) = WS at qS hOth hBW hAS qR gS ⊢
  clear hOth hq5 hO hb4 hb3 hb1 z1 z3 hz' q1 q2 g1 hA1 bw bz C1 C2 C3 CF s0 s1 s2 s3 s4 s5 s6 s7 x0 x1 x2 x3 y0 y1 y2 y3 y4 y5 y6 y7
  obtain ⟨k', gs, gn, gi⟩ := S
  have hAS2 := hAS.on
  rw [ArrOn] at hAS2
  obtain ⟨sa', sc', na', nc', ia', ic', hv', hk', hsS, hnS, hlc, hic, b, off, ha, hcS⟩ := hAS2
  simp only [Value.agg.injEq, Array.mk.injEq, List.cons.injEq, and_true, Value.int.injEq, true_and] at hv'
  obtain ⟨rfl, hv1, hv2, hv3⟩ := hv'
  simp only [hv1, hv2, hv3] at qS hAS ⊢
  clear hv1 hv2 hv3
  rw [Reach] at hR
  obtain ⟨r1, r2, r3, r4⟩ := hR
  have CI := fun w' (hb : Below WS.heap.size WS w') => cycleIQ na' nc' gn n w' (hnS.1.below hb) r2 hn1
  have CA := fun w' (hb : Below WS.heap.size WS w') => cycleAQ (fun g => g < WS.heap.size) ia' ic' b off gi n w' hlc (fun g => (ha g).1) (hcS.keep' (fun g hg _ => ⟨hg, fun _ => hb.cell hg⟩) (fun g => (ha g).2)) r3 hn1
  obtain ⟨d0, d1, d2, d3, -⟩ := qS.cells
  go_cut [8] (fun v8 wx => ∃ (X : Nat) (na2 : Option Addr) (nc2 : Nat) (ia2 : Option Addr) (ic2 : Nat), v8 = .pointer (some ⟨X, 0, none⟩) ∧ Quad wx X (.int .i64 kk) (.slice a sh.length cap) (.slice na2 (cyc0 gn 0 n).length nc2) (.slice ia2 (cyc0 gi zeroA n).length ic2) ∧ ArrAt wx (.agg #[.int .i64 kk, .slice a sh.length cap, .slice na2 (cyc0 gn 0 n).length nc2, .slice ia2 (cyc0 gi zeroA n).length ic2]) (repA (.mk kk gs gn gi) sh n) ∧ Quad wx (w.heap.size + 1) (.int .i64 0) (.slice none 0 0) (.slice none 0 0) (.slice none 0 0) ∧ Below w.heap.size w wx)
  case first =>
    have H0 : ∀ w', Below WS.heap.size WS w' → w'.cell? ⟨w.heap.size, 0, none⟩ = some (.int .i64 kk) ∧ w'.cell? ⟨w.heap.size, 2, none⟩ = some (.slice na' gn.length nc') ∧ w'.cell? ⟨w.heap.size, 3, none⟩ = some (.slice ia' gi.length ic') ∧ Below WS.heap.size WS w' := by
      intro w' hb
      obtain ⟨x0, x1, x2, x3, -⟩ := (qS.below hb).cells
      exact ⟨x0, x2, x3, hb⟩
    clear d0 d1 d2 d3
    go_region_held_law (fun w' => w'.cell? ⟨w.heap.size, 0, none⟩ = some (.int .i64 kk) ∧ w'.cell? ⟨w.heap.size, 2, none⟩ = some (.slice na' gn.length nc') ∧ w'.cell? ⟨w.heap.size, 3, none⟩ = some (.slice ia' gi.length ic') ∧ Below WS.heap.size WS w')
      (first
        | exact H0 _ (by go_grown)
        | exact H0 _ (Below.setCell (Below.setCell (Below.setCell (Below.setCell (by go_grown) (by first | exact Nat.le_refl _ | assumption | omega) _) (by first | exact Nat.le_refl _ | assumption | omega) _) (by first | exact Nat.le_refl _ | assumption | omega) _) (by first | exact Nat.le_refl _ | assumption | omega) _))
      (((first
      | (go_simp; (with_reducible refine (CI _ (by go_grown)).mono ?_); rintro e w4 ⟨na2, nc2, rfl, i1, b1⟩; (have e1 : Below WS.heap.size WS w4 := Below.then (by go_grown) b1); (have S1 := e1.size); (first | (have qX := Quad.below b1 (Quad.new _ _ _ _ _); obtain ⟨m0, m1, m2, m3, m4, m5, m6, m7⟩ := qX.cells) | skip))
      | (go_simp; (with_reducible refine (CA _ (by go_grown)).mono ?_); rintro e w5 ⟨ia2, ic2, b2', rfl, l1, l2, l3, lb, l4, b2⟩; (have e2 : Below WS.heap.size WS w5 := Below.then (by go_grown) b2); (have S2 := e2.size); (have e12 : Below w4.heap.size w4 w5 := Below.then (by go_grown) b2); (first | (have qY := Quad.below b2 (Quad.new _ _ _ _ _); obtain ⟨o0, o1, o2, o3, o4, o5, o6, o7⟩ := qY.cells) | (have qY := Quad.below b2 qX; obtain ⟨o0, o1, o2, o3, o4, o5, o6, o7⟩ := qY.cells) | skip)))))
    all_goals
      have i0 : IntsOn (fun g => g < WS.heap.size) w5 a cap sh := gS.on.keep (fun g hg _ => ⟨hg, fun _ => e2.cell hg⟩)
      have S3 := e12.size
      have S4 := b1.size
      have S5 := b2.size
    · have i1' : IntsOn (fun g => g ≠ w5.heap.size) w5 na2 nc2 (cyc0 gn 0 n) := i1.keep (fun g hg hl => ⟨by omega, fun _ => b2.cell hl⟩)
      have W6 := below_new w5 (.cells #[.int .i64 kk, .slice a sh.length cap, .slice na2 (cyc0 gn 0 n).length nc2, .slice ia2 (cyc0 gi zeroA n).length ic2] 26)
      go_wp2_with fail
      go_meet
      refine ⟨_, na2, nc2, ia2, ic2, rfl, Quad.new _ _ _ _ _, ?_, (qR.below e2).below W6, Below.then (Below.then hBW e2) W6⟩
      by_cases hne : cyc0 gi zeroA n = []
      · exact rep_at (X := w5.heap.size) (b' := w5.heap.size + 1) (fun g h1 h2 o => W6.cell h2) hk' (i0.mono fun g hg => by omega) i1' l1 l2 (fun h => absurd hne h) (by omega) (by rw [hne, ArrsOn]; trivial)
      · have hb' : b2' < w5.heap.size := by
          cases hx : cyc0 gi zeroA n with
          | nil => exact absurd hx hne
          | cons A r =>
            have l5 := l4
            rw [hx, ArrsOn] at l5
            obtain ⟨⟨c0, _, _, _, ⟨e, -⟩, -⟩, -⟩ := l5
            exact cell_lt e
        exact rep_at (X := w5.heap.size) (fun g h1 h2 o => W6.cell h2) hk' (i0.mono fun g hg => by omega) i1' l1 l2 l3 (by omega) (l4.weak fun g hg => by omega)
    · obtain ⟨qZ, hOt⟩ := set4 qY (.int .i64 kk) (.slice a sh.length cap) (.slice na2 (cyc0 gn 0 n).length nc2) (.slice ia2 (cyc0 gi zeroA n).length ic2)
      have lb' : w4.heap.size + 1 ≤ b2' := by simpa using lb
      have i1' : IntsOn (fun g => g ≠ w4.heap.size) w5 na2 nc2 (cyc0 gn 0 n) := i1.keep (fun g hg hl => ⟨by omega, fun _ => e12.cell hl⟩)
      have hBX := (Below.then hBW e2).trans (set4_below (w := w5) (B := w.heap.size) (b := w4.heap.size) (by have := hBW.size; omega) (.int .i64 kk) (.slice a sh.length cap) (.slice na2 (cyc0 gn 0 n).length nc2) (.slice ia2 (cyc0 gi zeroA n).length ic2))
      have qRX := (qR.below e2).keep (hOt _ (by have := qR.lt; omega))
      have hA6 := rep_at (X := w4.heap.size) (fun g h1 h2 o => World.cell?_of_block (hOt g h1)) hk' (i0.mono fun g hg => by omega) i1' l1 l2 l3 (by omega) (l4.weak fun g hg => by omega)
      go_wp2_with fail
      go_meet
      exact ⟨_, na2, nc2, ia2, ic2, rfl, qZ, hA6, qRX, hBX⟩
    · obtain ⟨qZ, hOt⟩ := set4 qY (.int .i64 kk) (.slice a sh.length cap) (.slice na2 (cyc0 gn 0 n).length nc2) (.slice ia2 (cyc0 gi zeroA n).length ic2)
      have lb' : WS.heap.size + 1 ≤ b2' := by (have h7 : WS.heap.size + 1 ≤ w4.heap.size := by simpa [World.drew] using S4); omega
      have i1' : IntsOn (fun g => g ≠ WS.heap.size) w5 na2 nc2 (cyc0 gn 0 n) := i1.keep (fun g hg hl => ⟨by (have h7 : WS.heap.size + 1 ≤ g := by simpa [World.drew] using hg); omega, fun _ => e12.cell hl⟩)
      have hBX := (Below.then hBW e2).trans (set4_below (w := w5) (B := w.heap.size) (b := WS.heap.size) (by have := hBW.size; omega) (.int .i64 kk) (.slice a sh.length cap) (.slice na2 (cyc0 gn 0 n).length nc2) (.slice ia2 (cyc0 gi zeroA n).length ic2))
      have qRX := (qR.below e2).keep (hOt _ (by have := qR.lt; omega))
      have hA6 := rep_at (X := WS.heap.size) (fun g h1 h2 o => World.cell?_of_block (hOt g h1)) hk' (i0.mono fun g hg => by omega) i1' l1 l2 l3 (by omega) (l4.weak fun g hg => by omega)
      go_wp2_with fail
      go_meet
      exact ⟨_, na2, nc2, ia2, ic2, rfl, qZ, hA6, qRX, hBX⟩
  case rest =>
    obtain ⟨X, na2, nc2, ia2, ic2, rfl, qX, hRA, qR2, hBX⟩ := hcut
    clear CI CA qS qR hAS gS hBW hcS hnS hsS d0 d1 d2 d3
    obtain ⟨x0, x1, x2, x3, -⟩ := qX.cells
    have K := weightQ _ _ wc hRA hRR
    obtain ⟨T, hT⟩ : ∃ T, wt (repA (.mk kk gs gn gi) sh n) = T := ⟨_, rfl⟩
    have HT : Hid (wt (repA (.mk kk gs gn gi) sh n) = T) := hT
    rw [hT] at K
    clear hT
    by_cases hbig : 262144 < T
    · have HO : Hid (outA (repA (.mk kk gs gn gi) sh n) = (zeroA, 21)) := outA_big (by rw [HT.out]; exact hbig)
      go_wp2_with (go_at_call 70; refine K.mono ?_; rintro e w6 ⟨rfl, hb6⟩; (obtain ⟨s0, s1, s2, s3, s4, s5, s6, s7⟩ := (qR2.below hb6).cells))
      have q3 := qR2.below hb6
      have G := split_set4 (w1 := w6) (Nat.le_succ w.heap.size) (qR2.below hb6).lt q3 (split_zero _ _) (Below.then hBX hb6)
      obtain ⟨QW, -⟩ := set4 q3 (.int .i64 0) (.slice none 0 0) (.slice none 0 0) (.slice none 0 0)
      generalize ((((w6.setCell ⟨w.heap.size + 1, 0, none⟩ (.int .i64 0)).setCell ⟨w.heap.size + 1, 1, none⟩ (.slice none 0 0)).setCell ⟨w.heap.size + 1, 2, none⟩ (.slice none 0 0)).setCell ⟨w.heap.size + 1, 3, none⟩ (.slice none 0 0)) = WW at QW G ⊢
      obtain ⟨z0, z1, z2, z3, -⟩ := QW.cells
      rw [HO.out]
      exact bodyPost_ret (v := .tuple #[.agg #[.int .i64 0, .slice none 0 0, .slice none 0 0, .slice none 0 0], .int .i64 21]) (by simp [results, Try.results84, go_sem, z0, z1, z2, z3]) rfl (GiveSplitE.mk G)
    · have HO : Hid (outA (repA (.mk kk gs gn gi) sh n) = (repA (.mk kk gs gn gi) sh n, 0)) := outA_ok (by rw [HT.out]; exact hbig)
      go_wp2_with (first
        | (go_at_call 70; refine K.mono ?_; rintro e w6 ⟨rfl, hb6⟩; (obtain ⟨u0, u1, u2, u3, -⟩ := (qX.below hb6).cells))
        | (go_at_call 39; refine (cloneS _ _ _ (hRA.below hb6) hRR).mono ?_; intro e w7 hN; (obtain ⟨kr, sar, lsr, scr, nar, lnr, ncr, iar, lir, icr, rfl, hO, hb7⟩ := hN.form); (obtain ⟨s0, s1, s2, s3, s4, s5, s6, s7⟩ := ((qR2.below hb6).below hb7).cells)))
      have q3 := (qR2.below hb6).below hb7
      have hs6 := hb6.size
      have hlr := qR2.lt
      have G := split_set4 (Nat.le_succ w.heap.size) (qR2.below hb6).lt q3 hO (Below.then (Below.then hBX hb6) hb7)
      obtain ⟨QW, -⟩ := set4 q3 (.int .i64 kr) (.slice sar lsr scr) (.slice nar lnr ncr) (.slice iar lir icr)
      generalize ((((w7.setCell ⟨w.heap.size + 1, 0, none⟩ (.int .i64 kr)).setCell ⟨w.heap.size + 1, 1, none⟩ (.slice sar lsr scr)).setCell ⟨w.heap.size + 1, 2, none⟩ (.slice nar lnr ncr)).setCell ⟨w.heap.size + 1, 3, none⟩ (.slice iar lir icr)) = WW at QW G ⊢
      obtain ⟨z0, z1, z2, z3, -⟩ := QW.cells
      rw [HO.out]
      exact bodyPost_ret (v := .tuple #[.agg #[.int .i64 kr, .slice sar lsr scr, .slice nar lnr ncr, .slice iar lir icr], .int .i64 0]) (by simp [results, Try.results84, go_sem, z0, z1, z2, z3]) rfl (GiveSplitE.mk G)
end Go.Proofs.Ytkjbccodahleoaa.Shape

namespace Go.Proofs.Ytkjbccodahleoaa.Shape
open Go.RowKit
set_option linter.unusedVariables false

theorem lit_intsC (w : World) (L : List Int) (t : TypeId) (C : Array Value) (n m : Nat) (hC : C = (L.map (Value.int .i64)).toArray) (hn : n = w.heap.size) (hm : m = L.length) (hb : ∀ x ∈ L, -9223372036854775808 ≤ x ∧ x ≤ 9223372036854775807) (hl : L.length ≤ 1000000) :
    IntsAt (w.alloc (.cells C t)) (some ⟨n, 0, none⟩) m L := by
  subst hC; subst hn; subst hm
  refine ⟨Nat.le_refl _, by omega, hb, w.heap.size, 0, fun _ => rfl, fun i hi => ?_⟩
  rw [Nat.zero_add, World.cell?_alloc_new]
  simp [hi]
/-- All fill. -/
def allF (k : Int) (sh : List Int) : Arr := repA (fillA k) sh (prN sh)
/-- What filled gives. -/
def filledS (k : Int) (sh : List Int) : Arr × Int := if rightB sh = true then (allF k sh, 0) else (zeroA, 21)
theorem right_empty {k : Int} (hk : 1 ≤ k ∧ k ≤ 3) : rightE (.mk k [0] [] []) = 0 := by
  rcases (by omega : k = 1 ∨ k = 2 ∨ k = 3) with rfl | rfl | rfl <;> decide
theorem cyc_const {α : Type} (x z : α) (n : Nat) : cyc [x] z n = List.replicate n x := by
  unfold cyc
  apply List.ext_getElem
  · simp
  · intro i h1 h2
    simp [Nat.mod_one]
theorem sumW_rep (n : Nat) (A : Arr) (h : wt A = 0) : sumW (List.replicate n A) = 0 := by
  induction n with
  | zero => rw [List.replicate_zero, sumW]
  | succ n ih => rw [List.replicate_succ, sumW, ih, h]; rfl
theorem all_weight {k : Int} {sh : List Int} (hk : 1 ≤ k ∧ k ≤ 3) (hr : rightB sh = true) : ¬ 262144 < wt (allF k sh) := by
  have hp : prN sh ≤ 65536 := by
    have := (part_bd (a := sh) (b := []) (by rw [List.append_nil]; exact hr)).2.1
    unfold prN; omega
  rcases (by omega : k = 1 ∨ k = 2 ∨ k = 3) with rfl | rfl | rfl
  · show ¬ 262144 < wt (.mk 1 sh (cyc0 [0] 0 (prN sh)) (cyc0 [] zeroA (prN sh)))
    rw [cyc0, if_neg (by simp), cyc0, if_pos rfl, cyc_const]
    rw [wt, if_neg (by decide)]
    have : (aSize (.mk 1 sh (List.replicate (prN sh) 0) []) : Int) = prN sh := by simp [aSize, Arr.kind, Arr.nums]
    omega
  · show ¬ 262144 < wt (.mk 2 sh (cyc0 [32] 0 (prN sh)) (cyc0 [] zeroA (prN sh)))
    rw [cyc0, if_neg (by simp), cyc0, if_pos rfl, cyc_const]
    rw [wt, if_neg (by decide)]
    have : (aSize (.mk 2 sh (List.replicate (prN sh) 32) []) : Int) = prN sh := by simp [aSize, Arr.kind, Arr.nums]
    omega
  · show ¬ 262144 < wt (.mk 3 sh (cyc0 [] 0 (prN sh)) (cyc0 [.mk 1 [0] [] []] zeroA (prN sh)))
    rw [cyc0, if_pos rfl, cyc0, if_neg (by simp), cyc_const]
    rw [wt, if_pos rfl, sumW_rep _ _ (by decide)]
    have : (aSize (.mk 3 sh [] (List.replicate (prN sh) (.mk 1 [0] [] []))) : Int) = prN sh := by simp [aSize, Arr.kind, Arr.items]
    omega
theorem reach_fill {k : Int} (hk : 1 ≤ k ∧ k ≤ 3) : Reach (fillA k) := by
  rcases (by omega : k = 1 ∨ k = 2 ∨ k = 3) with rfl | rfl | rfl
  · exact reach_plain (by decide) (by decide)
  · exact reach_plain (by decide) (by decide)
  · show Reach (.mk 3 [] [] [.mk 1 [0] [] []])
    rw [Reach, ReachL, ReachL]; exact ⟨by decide, by decide, by decide, reach_plain (by decide) (by decide), trivial⟩
/-- Of a shape, from an array without elements. -/
theorem of_empty (a : Option Addr) (cap : Nat) (sh : List Int) (k : Int) (v : Value) (w : World) (g : IntsAt w a cap sh) (hk : 1 ≤ k ∧ k ≤ 3) (hr : rightB sh = true) (h : ArrAt w v (.mk k [0] [] [])) :
    Calls Try.prog 84 #[.slice a sh.length cap, v] w (GiveSplitE (allF k sh) 0 w) := by
  have K := ofS_fill a cap sh v _ (fillA k) w g h (right_empty hk) ((dimsE_right sh).2 hr) (by rcases (by omega : k = 1 ∨ k = 2 ∨ k = 3) with rfl | rfl | rfl <;> rfl) rfl (reach_fill hk)
  have e : outA (repA (fillA k) sh (pr sh).toNat) = (allF k sh, 0) := outA_ok (all_weight hk hr)
  rw [e] at K
  exact K
set_option maxRecDepth 100000 in
set_option maxHeartbeats 2000000 in
theorem filledQ (a : Option Addr) (cap : Nat) (sh : List Int) (k : Int) (w : World) (g : IntsAt w a cap sh) (hk : 1 ≤ k ∧ k ≤ 3) :
    Calls Try.prog 66 #[.slice a sh.length cap, .int .i64 k] w (GiveSplitE (filledS k sh).1 (filledS k sh).2 w) := by
  have bw := below_two w (.cells #[.int .i64 0, .slice none 0 0, .slice none 0 0, .slice none 0 0] 26) (.cells #[.int .i64 0] 3)
  have q0 := (Quad.new w (.int .i64 0) (.slice none 0 0) (.slice none 0 0) (.slice none 0 0)).below (below_new _ (.cells #[.int .i64 0] 3))
  have hF : ArrAt ((w.alloc (.cells #[.int .i64 0, .slice none 0 0, .slice none 0 0, .slice none 0 0] 26)).alloc (.cells #[.int .i64 0] 3)) (.agg #[.int .i64 k, .slice (some ⟨w.heap.size + 1, 0, none⟩) 1 1, .slice none 0 0, .slice none 0 0]) (.mk k [0] [] []) :=
    arr_plain (sh := [0]) (nu := []) (by omega) rfl rfl (lit_intsC _ [0] _ _ _ _ rfl (by simp) rfl (by decide) (by decide)) (ints_nil _)
  have g1 := g.below bw
  have hs1 : ((w.alloc (.cells #[.int .i64 0, .slice none 0 0, .slice none 0 0, .slice none 0 0] 26)).alloc (.cells #[.int .i64 0] 3)).heap.size = w.heap.size + 2 := by simp
  by_cases hr : rightB sh = true
  · have e : filledS k sh = (allF k sh, 0) := by rw [filledS, if_pos hr]
    rw [e]
    have K := of_empty a cap sh k _ _ g1 hk hr hF
    generalize allF k sh = A at K ⊢
    generalize hW0 : ((w.alloc (.cells #[.int .i64 0, .slice none 0 0, .slice none 0 0, .slice none 0 0] 26)).alloc (.cells #[.int .i64 0] 3)) = W0 at K q0 hs1 bw
    clear hF g1 e hr
    go_enter Try.func66, Try.ntmps66
    go_wp2_with (go_at_call 84; refine K.mono ?_; intro e w1 hN; (obtain ⟨k1, sa, ls, sc, na, ln, nc, ia, li, ic, rfl, hO, hb⟩ := hN.form); (obtain ⟨x0, x1, x2, x3, x4, x5, x6, x7⟩ := ((q0.below hb).below (below_new _ (.cells #[.int .i64 k1, .slice sa ls sc, .slice na ln nc, .slice ia li ic] 26))).cells))
    have bN := below_new w1 (.cells #[.int .i64 k1, .slice sa ls sc, .slice na ln nc, .slice ia li ic] 26)
    have q3 := (q0.below hb).below bN
    have G := split_set4 (w1 := W0) (Nat.le_refl w.heap.size) (by omega) q3 (hO.below bN) (Below.then (Below.then bw hb) bN)
    obtain ⟨QW, -⟩ := set4 q3 (.int .i64 k1) (.slice sa ls sc) (.slice na ln nc) (.slice ia li ic)
    generalize (((((w1.alloc (.cells #[.int .i64 k1, .slice sa ls sc, .slice na ln nc, .slice ia li ic] 26)).setCell ⟨w.heap.size, 0, none⟩ (.int .i64 k1)).setCell ⟨w.heap.size, 1, none⟩ (.slice sa ls sc)).setCell ⟨w.heap.size, 2, none⟩ (.slice na ln nc)).setCell ⟨w.heap.size, 3, none⟩ (.slice ia li ic)) = WW at QW G ⊢
    obtain ⟨z0, z1, z2, z3, -⟩ := QW.cells
    exact bodyPost_ret (v := .tuple #[.agg #[.int .i64 k1, .slice sa ls sc, .slice na ln nc, .slice ia li ic], .int .i64 0]) (by simp [results, Try.results66, go_sem, z0, z1, z2, z3]) rfl (GiveSplitE.mk G)
  · have e : filledS k sh = (zeroA, 21) := by rw [filledS, if_neg hr]
    rw [e]
    have hD : dimsE sh ≠ 0 := fun h => hr ((dimsE_right sh).1 h)
    have K := ofN_dims a cap sh _ _ _ g1 hF (right_empty hk) hD
    generalize dimsE sh = y at K hD
    have e2 : (y != 0) = true := by simpa using hD
    generalize hW0 : ((w.alloc (.cells #[.int .i64 0, .slice none 0 0, .slice none 0 0, .slice none 0 0] 26)).alloc (.cells #[.int .i64 0] 3)) = W0 at K q0 hs1 bw
    clear hF g1 e hr hD
    go_enter Try.func66, Try.ntmps66
    go_wp2_with (go_at_call 84; refine K.mono ?_; intro e w1 hN; (obtain ⟨d0, d1, d2, d3, rfl, hG⟩ := hN); (obtain ⟨k1, sa, ls, sc, na, ln, nc, ia, li, ic, hv, hO, hb⟩ := hG.form); (simp only [Ending.returned.injEq, Value.agg.injEq, Array.mk.injEq, List.cons.injEq, and_true] at hv); (obtain ⟨rfl, rfl, rfl, rfl⟩ := hv); (obtain ⟨x0, x1, x2, x3, x4, x5, x6, x7⟩ := ((q0.below hb).below (below_new _ (.cells #[.int .i64 k1, .slice sa ls sc, .slice na ln nc, .slice ia li ic] 26))).cells))
    have bN := below_new w1 (.cells #[.int .i64 k1, .slice sa ls sc, .slice na ln nc, .slice ia li ic] 26)
    have q3 := (q0.below hb).below bN
    have G := split_set4 (w1 := W0) (Nat.le_refl w.heap.size) (by omega) q3 (split_zero _ _) (Below.then (Below.then bw hb) bN)
    obtain ⟨QW, -⟩ := set4 q3 (.int .i64 0) (.slice none 0 0) (.slice none 0 0) (.slice none 0 0)
    generalize (((((w1.alloc (.cells #[.int .i64 k1, .slice sa ls sc, .slice na ln nc, .slice ia li ic] 26)).setCell ⟨w.heap.size, 0, none⟩ (.int .i64 0)).setCell ⟨w.heap.size, 1, none⟩ (.slice none 0 0)).setCell ⟨w.heap.size, 2, none⟩ (.slice none 0 0)).setCell ⟨w.heap.size, 3, none⟩ (.slice none 0 0)) = WW at QW G ⊢
    obtain ⟨z0, z1, z2, z3, -⟩ := QW.cells
    exact bodyPost_ret (v := .tuple #[.agg #[.int .i64 0, .slice none 0 0, .slice none 0 0, .slice none 0 0], .int .i64 21]) (by simp [results, Try.results66, go_sem, z0, z1, z2, z3]) rfl (GiveSplitE.mk G)
end Go.Proofs.Ytkjbccodahleoaa.Shape
