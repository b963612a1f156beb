/-
  Layer 3: the program's Of, whole. (Written by wip/gen/array-p13.py.)
  Layer 3: the program's Of where the source has no elements. (Written by wip/gen/array-p13.py.)
  Layer 4: the program's place, of int. (Written by wip/gen/cell-place.py.)
  Layer 4: the program's place, of arraylang/api.Array. (Written by wip/gen/cell-place.py.)
-/
import Derived.Test.YtkjbccodahleoaaBd16
import Derived.Handy
import Derived.Deep.RegionHeldLaw
import Derived.Deep.RegionHeld3
namespace Go.Proofs.Ytkjbccodahleoaa.Shape
open Go.RowKit
set_option linter.unusedVariables false

def repA (S : Arr) (sh : List Int) (n : Nat) : Arr := .mk S.kind sh (cyc0 S.nums 0 n) (cyc0 S.items zeroA n)
def outA (A : Arr) : Arr × Int := if 262144 < wt A then (zeroA, 21) else (A, 0)
theorem outA_big {A : Arr} (h : 262144 < wt A) : outA A = (zeroA, 21) := by rw [outA, if_pos h]
theorem outA_ok {A : Arr} (h : ¬ 262144 < wt A) : outA A = (A, 0) := by rw [outA, if_neg h]
theorem IntsAt.on {w : World} {a : Option Addr} {cap : Nat} {xs : List Int} (h : IntsAt w a cap xs) : IntsOn (fun g => g < w.heap.size) w a cap xs := by
  refine ⟨h, fun hne ad e => ?_⟩
  obtain ⟨-, -, -, b', off', ha', hc'⟩ := h
  rw [ha' hne] at e
  cases e
  exact cell_lt (hc' 0 (List.length_pos_iff.2 hne))
theorem ArrsOn.weak {P R : Nat → Prop} {w : World} (h : ∀ g, P g → R g) : ∀ {l : List Arr} {b off : Nat}, ArrsOn P w b off l → ArrsOn R w b off l
  | [], _, _, _ => by rw [ArrsOn]; trivial
  | A :: r, b, off, g => by
    rw [ArrsOn] at g ⊢
    obtain ⟨⟨c0, c1, c2, c3, hc, hA⟩, hr⟩ := g
    exact ⟨⟨c0, c1, c2, c3, hc, hA.mono h⟩, ArrsOn.weak h hr⟩
theorem rep_at {w5 W : World} {X b' : Nat} {k : Int} {sh N : List Int} {I : List Arr} {a na ia : Option Addr} {cap nc ic : Nat} (hk : ∀ g, g ≠ X → g < w5.heap.size → ∀ o, W.cell? ⟨g, o, none⟩ = w5.cell? ⟨g, o, none⟩) (hk' : -9223372036854775808 ≤ k ∧ k ≤ 9223372036854775807)
    (i0 : IntsOn (fun g => g ≠ X) w5 a cap sh) (i1 : IntsOn (fun g => g ≠ X) w5 na nc N) (l1 : I.length ≤ ic) (l2 : ic ≤ 9223372036854775807) (l3 : I ≠ [] → ia = some ⟨b', 0, none⟩) (lb : b' ≠ X) (l4 : ArrsOn (fun g => g ≠ X) w5 b' 0 I) :
    ArrAt W (.agg #[.int .i64 k, .slice a sh.length cap, .slice na N.length nc, .slice ia I.length ic]) (.mk k sh N I) := by
  have hk2 : ∀ g, g ≠ X → g < w5.heap.size → g ≠ X ∧ ∀ o, W.cell? ⟨g, o, none⟩ = w5.cell? ⟨g, o, none⟩ := fun g h1 h2 => ⟨h1, hk g h1 h2⟩
  rw [ArrAt]
  exact ⟨a, cap, na, nc, ia, ic, rfl, hk', (i0.keep hk2).1, (i1.keep hk2).1, l1, l2, b', 0, l3, (l4.keep' hk2 (fun _ => lb)).at⟩
theorem reachL_mem : ∀ {l : List Arr}, (∀ A ∈ l, Reach A) → ReachL l
  | [], _ => by rw [ReachL]; trivial
  | A :: r, h => by rw [ReachL]; exact ⟨h A (by simp), reachL_mem fun B hB => h B (List.mem_cons_of_mem _ hB)⟩
theorem reach_mem : ∀ {l : List Arr}, ReachL l → ∀ A ∈ l, Reach A
  | [], _, A, hA => by cases hA
  | B :: r, h, A, hA => by
    rw [ReachL] at h
    rcases List.mem_cons.1 hA with rfl | hA
    · exact h.1
    · exact reach_mem h.2 A hA
theorem reach_cyc {l : List Arr} {n : Nat} (h : ReachL l) : ReachL (cyc0 l zeroA n) := by
  refine reachL_mem fun A hA => ?_
  unfold cyc0 at hA
  split at hA
  · cases hA
  · unfold cyc at hA
    obtain ⟨i, -, rfl⟩ := List.mem_map.1 hA
    rw [List.getD_eq_getElem?_getD]
    cases e : l[i % l.length]? with
    | none => show Reach (.mk 0 [] [] []); rw [Reach, ReachL]; exact ⟨by decide, by decide, by decide, trivial⟩
    | some B => exact reach_mem h B (List.mem_of_getElem? e)
theorem cyc0_len {α : Type} (l : List α) (z : α) (n : Nat) : (cyc0 l z n).length ≤ n := by
  unfold cyc0
  split
  · exact Nat.zero_le _
  · rw [cyc_len]; exact Nat.le_refl _
theorem reach_rep {S : Arr} {sh : List Int} {n : Nat} (hD : dimsE sh = 0) (hn : n ≤ 65536) (h : Reach S) : Reach (repA S sh n) := by
  have h8 := (right_def.1 ((dimsE_right sh).1 hD)).1
  have h1 := cyc0_len S.nums 0 n
  have h2 := cyc0_len S.items zeroA n
  obtain ⟨k, gs, gn, gi⟩ := S
  rw [Reach] at h
  rw [repA, Reach]
  exact ⟨by omega, by omega, by omega, reach_cyc h.2.2.2⟩

set_option maxRecDepth 100000 in
set_option maxHeartbeats 8000000 in
theorem ofN_plain (a : Option Addr) (cap : Nat) (sh : List Int) (v : Value) (F S : Arr) (w : World) (g : IntsAt w a cap sh) (h : ArrAt w v F) (hE : rightE F = 0) (hD : dimsE sh = 0) (hz : aSize F ≠ 0) (hS : S = F) (hR : Reach S) :
    Calls Try.prog 84 #[.slice a sh.length cap, v] w (GiveNewE (outA (repA S sh (pr sh).toNat)).1 (outA (repA S sh (pr sh).toNat)).2 w) := by
  have hA := h
  obtain ⟨k, sa, ls, sc, na, ln, nc, ia, li, ic, rfl⟩ : ∃ k sa ls sc na ln nc ia li ic, v = .agg #[.int .i64 k, .slice sa ls sc, .slice na ln nc, .slice ia li ic] := by
    obtain ⟨k, sh, nu, it⟩ := F
    rw [ArrAt] at h
    obtain ⟨sa, sc, na, nc, ia, ic, rfl, -⟩ := h
    exact ⟨_, _, _, _, _, _, _, _, _, _, rfl⟩
  clear h
  have bw := below_two w (.cells #[.int .i64 k, .slice sa ls sc, .slice na ln nc, .slice ia li ic] 26) (.cells #[.int .i64 0, .slice none 0 0, .slice none 0 0, .slice none 0 0] 26)
  have hA1 := hA.below bw
  have g1 := g.below bw
  have q1 := (Quad.new w (.int .i64 k) (.slice sa ls sc) (.slice na ln nc) (.slice ia li ic)).below (below_new _ (.cells #[.int .i64 0, .slice none 0 0, .slice none 0 0, .slice none 0 0] 26))
  have q2 : Quad ((w.alloc (.cells #[.int .i64 k, .slice sa ls sc, .slice na ln nc, .slice ia li ic] 26)).alloc (.cells #[.int .i64 0, .slice none 0 0, .slice none 0 0, .slice none 0 0] 26)) (w.heap.size + 1) (.int .i64 0) (.slice none 0 0) (.slice none 0 0) (.slice none 0 0) := by simpa using Quad.new (w.alloc (.cells #[.int .i64 k, .slice sa ls sc, .slice na ln nc, .slice ia li ic] 26)) (.int .i64 0) (.slice none 0 0) (.slice none 0 0) (.slice none 0 0)
  have bz : Hid (((w.alloc (.cells #[.int .i64 k, .slice sa ls sc, .slice na ln nc, .slice ia li ic] 26)).alloc (.cells #[.int .i64 0, .slice none 0 0, .slice none 0 0, .slice none 0 0] 26)).heap.size = w.heap.size + 2) := by unfold Hid; simp
  have C1 := fun v' w' (g : ArrAt w' v' F) => rightQ v' F w' g
  rw [hE] at C1
  obtain ⟨p0, p1⟩ := dims_small hD
  obtain ⟨n, hn⟩ : ∃ n : Nat, (pr sh).toNat = n := ⟨_, rfl⟩
  have hnp : pr sh = (n : Int) := by omega
  have hn1 : n ≤ 65536 := by omega
  have C2 := fun w' (g : IntsAt w' a cap sh) => checkShapeQ a cap sh w' g
  simp only [shN_ok hD, hD, hnp] at C2
  have C3 := fun v' w' (g : ArrAt w' v' F) => sizeQ v' F w' g
  have hz2 : ((aSize F : Int) == 0) = false := by simpa using hz
  rw [hn]
  have hRR := reach_rep (n := n) hD hn1 hR
  clear hnp hn p0 p1 hA
  go_enter Try.func84, Try.ntmps84
  go_upto_region 8 with (first
    | (go_at_call 34; refine (C1 _ _ hA1).mono ?_; rintro e w1 ⟨rfl, hb1⟩; (obtain ⟨x0, x1, x2, x3, -⟩ := (q1.below hb1).cells))
    | (go_at_call 82; refine (C2 _ (g1.below hb1)).mono ?_; rintro e w2 ⟨rfl, rfl⟩)
    | (go_at_call 61; refine (C3 _ _ (hA1.below hb1)).mono ?_; rintro e w3 ⟨rfl, hb3⟩; (obtain ⟨y0, y1, y2, y3, y4, y5, y6, y7⟩ := ((q1.below hb1).below hb3).cells)))
  have qS := (q1.below hb1).below hb3
  have qR := (q2.below hb1).below hb3
  have hBW := Below.then (Below.then bw hb1) hb3
  have hAS := (hA1.below hb1).below hb3
  have gS := g.below hBW
  rw [← hS] at hAS
  generalize w3 = WS at qS hBW hAS qR gS ⊢
  clear q1 q2 g1 hA1 bw bz C1 C2 C3 x0 x1 x2 x3 y0 y1 y2 y3 y4 y5 y6 y7 hb1
  obtain ⟨k', gs, gn, gi⟩ := S
  have hAS2 := hAS.on
  rw [ArrOn] at hAS2
  obtain ⟨sa', sc', na', nc', ia', ic', hv', hk', hsS, hnS, hlc, hic, b, off, ha, hcS⟩ := hAS2
  simp only [Value.agg.injEq, Array.mk.injEq, List.cons.injEq, and_true, Value.int.injEq, true_and] at hv'
  obtain ⟨rfl, hv1, hv2, hv3⟩ := hv'
  simp only [hv1, hv2, hv3] at qS hAS ⊢
  clear hv1 hv2 hv3
  rw [Reach] at hR
  obtain ⟨r1, r2, r3, r4⟩ := hR
  have CI := fun w' (hb : Below WS.heap.size WS w') => cycleIQ na' nc' gn n w' (hnS.1.below hb) r2 hn1
  have CA := fun w' (hb : Below WS.heap.size WS w') => cycleAQ (fun g => g < WS.heap.size) ia' ic' b off gi n w' hlc (fun g => (ha g).1) (hcS.keep' (fun g hg _ => ⟨hg, fun _ => hb.cell hg⟩) (fun g => (ha g).2)) r3 hn1
  obtain ⟨d0, d1, d2, d3, -⟩ := qS.cells
  go_cut [8] (fun v8 wx => ∃ (X : Nat) (na2 : Option Addr) (nc2 : Nat) (ia2 : Option Addr) (ic2 : Nat), v8 = .pointer (some ⟨X, 0, none⟩) ∧ Quad wx X (.int .i64 k) (.slice a sh.length cap) (.slice na2 (cyc0 gn 0 n).length nc2) (.slice ia2 (cyc0 gi zeroA n).length ic2) ∧ ArrAt wx (.agg #[.int .i64 k, .slice a sh.length cap, .slice na2 (cyc0 gn 0 n).length nc2, .slice ia2 (cyc0 gi zeroA n).length ic2]) (repA (.mk k gs gn gi) sh n) ∧ Quad wx (w.heap.size + 1) (.int .i64 0) (.slice none 0 0) (.slice none 0 0) (.slice none 0 0) ∧ Below w.heap.size w wx)
  case first =>
    have H0 : ∀ w', Below WS.heap.size WS w' → w'.cell? ⟨w.heap.size, 0, none⟩ = some (.int .i64 k) ∧ w'.cell? ⟨w.heap.size, 2, none⟩ = some (.slice na' gn.length nc') ∧ w'.cell? ⟨w.heap.size, 3, none⟩ = some (.slice ia' gi.length ic') ∧ Below WS.heap.size WS w' := by
      intro w' hb
      obtain ⟨x0, x1, x2, x3, -⟩ := (qS.below hb).cells
      exact ⟨x0, x2, x3, hb⟩
    clear d0 d1 d2 d3
    go_region_held_law (fun w' => w'.cell? ⟨w.heap.size, 0, none⟩ = some (.int .i64 k) ∧ w'.cell? ⟨w.heap.size, 2, none⟩ = some (.slice na' gn.length nc') ∧ w'.cell? ⟨w.heap.size, 3, none⟩ = some (.slice ia' gi.length ic') ∧ Below WS.heap.size WS w')
      (first
        | exact H0 _ (by go_grown)
        | exact H0 _ (Below.setCell (Below.setCell (Below.setCell (Below.setCell (by go_grown) (by first | exact Nat.le_refl _ | assumption | omega) _) (by first | exact Nat.le_refl _ | assumption | omega) _) (by first | exact Nat.le_refl _ | assumption | omega) _) (by first | exact Nat.le_refl _ | assumption | omega) _))
      (((first
      | (go_simp; (with_reducible refine (CI _ (by go_grown)).mono ?_); rintro e w4 ⟨na2, nc2, rfl, i1, b1⟩; (have e1 : Below WS.heap.size WS w4 := Below.then (by go_grown) b1); (have S1 := e1.size); (first | (have qX := Quad.below b1 (Quad.new _ _ _ _ _); obtain ⟨m0, m1, m2, m3, m4, m5, m6, m7⟩ := qX.cells) | skip))
      | (go_simp; (with_reducible refine (CA _ (by go_grown)).mono ?_); rintro e w5 ⟨ia2, ic2, b2', rfl, l1, l2, l3, lb, l4, b2⟩; (have e2 : Below WS.heap.size WS w5 := Below.then (by go_grown) b2); (have S2 := e2.size); (have e12 : Below w4.heap.size w4 w5 := Below.then (by go_grown) b2); (first | (have qY := Quad.below b2 (Quad.new _ _ _ _ _); obtain ⟨o0, o1, o2, o3, o4, o5, o6, o7⟩ := qY.cells) | (have qY := Quad.below b2 qX; obtain ⟨o0, o1, o2, o3, o4, o5, o6, o7⟩ := qY.cells) | skip)))))
    all_goals
      have i0 : IntsOn (fun g => g < WS.heap.size) w5 a cap sh := gS.on.keep (fun g hg _ => ⟨hg, fun _ => e2.cell hg⟩)
      have S3 := e12.size
      have S4 := b1.size
      have S5 := b2.size
    · have i1' : IntsOn (fun g => g ≠ w5.heap.size) w5 na2 nc2 (cyc0 gn 0 n) := i1.keep (fun g hg hl => ⟨by omega, fun _ => b2.cell hl⟩)
      have W6 := below_new w5 (.cells #[.int .i64 k, .slice a sh.length cap, .slice na2 (cyc0 gn 0 n).length nc2, .slice ia2 (cyc0 gi zeroA n).length ic2] 26)
      go_wp2_with fail
      go_meet
      refine ⟨_, na2, nc2, ia2, ic2, rfl, Quad.new _ _ _ _ _, ?_, (qR.below e2).below W6, Below.then (Below.then hBW e2) W6⟩
      by_cases hne : cyc0 gi zeroA n = []
      · exact rep_at (X := w5.heap.size) (b' := w5.heap.size + 1) (fun g h1 h2 o => W6.cell h2) hk' (i0.mono fun g hg => by omega) i1' l1 l2 (fun h => absurd hne h) (by omega) (by rw [hne, ArrsOn]; trivial)
      · have hb' : b2' < w5.heap.size := by
          cases hx : cyc0 gi zeroA n with
          | nil => exact absurd hx hne
          | cons A r =>
            have l5 := l4
            rw [hx, ArrsOn] at l5
            obtain ⟨⟨c0, _, _, _, ⟨e, -⟩, -⟩, -⟩ := l5
            exact cell_lt e
        exact rep_at (X := w5.heap.size) (fun g h1 h2 o => W6.cell h2) hk' (i0.mono fun g hg => by omega) i1' l1 l2 l3 (by omega) (l4.weak fun g hg => by omega)
    · obtain ⟨qZ, hOt⟩ := set4 qY (.int .i64 k) (.slice a sh.length cap) (.slice na2 (cyc0 gn 0 n).length nc2) (.slice ia2 (cyc0 gi zeroA n).length ic2)
      have lb' : w4.heap.size + 1 ≤ b2' := by simpa using lb
      have i1' : IntsOn (fun g => g ≠ w4.heap.size) w5 na2 nc2 (cyc0 gn 0 n) := i1.keep (fun g hg hl => ⟨by omega, fun _ => e12.cell hl⟩)
      have hBX := (Below.then hBW e2).trans (set4_below (w := w5) (B := w.heap.size) (b := w4.heap.size) (by have := hBW.size; omega) (.int .i64 k) (.slice a sh.length cap) (.slice na2 (cyc0 gn 0 n).length nc2) (.slice ia2 (cyc0 gi zeroA n).length ic2))
      have qRX := (qR.below e2).keep (hOt _ (by have := qR.lt; omega))
      have hA6 := rep_at (X := w4.heap.size) (fun g h1 h2 o => World.cell?_of_block (hOt g h1)) hk' (i0.mono fun g hg => by omega) i1' l1 l2 l3 (by omega) (l4.weak fun g hg => by omega)
      go_wp2_with fail
      go_meet
      exact ⟨_, na2, nc2, ia2, ic2, rfl, qZ, hA6, qRX, hBX⟩
    · obtain ⟨qZ, hOt⟩ := set4 qY (.int .i64 k) (.slice a sh.length cap) (.slice na2 (cyc0 gn 0 n).length nc2) (.slice ia2 (cyc0 gi zeroA n).length ic2)
      have lb' : WS.heap.size + 1 ≤ b2' := by (have h7 : WS.heap.size + 1 ≤ w4.heap.size := by simpa [World.drew] using S4); omega
      have i1' : IntsOn (fun g => g ≠ WS.heap.size) w5 na2 nc2 (cyc0 gn 0 n) := i1.keep (fun g hg hl => ⟨by (have h7 : WS.heap.size + 1 ≤ g := by simpa [World.drew] using hg); omega, fun _ => e12.cell hl⟩)
      have hBX := (Below.then hBW e2).trans (set4_below (w := w5) (B := w.heap.size) (b := WS.heap.size) (by have := hBW.size; omega) (.int .i64 k) (.slice a sh.length cap) (.slice na2 (cyc0 gn 0 n).length nc2) (.slice ia2 (cyc0 gi zeroA n).length ic2))
      have qRX := (qR.below e2).keep (hOt _ (by have := qR.lt; omega))
      have hA6 := rep_at (X := WS.heap.size) (fun g h1 h2 o => World.cell?_of_block (hOt g h1)) hk' (i0.mono fun g hg => by omega) i1' l1 l2 l3 (by omega) (l4.weak fun g hg => by omega)
      go_wp2_with fail
      go_meet
      exact ⟨_, na2, nc2, ia2, ic2, rfl, qZ, hA6, qRX, hBX⟩
  case rest =>
    obtain ⟨X, na2, nc2, ia2, ic2, rfl, qX, hRA, qR2, hBX⟩ := hcut
    clear CI CA qS qR hAS gS hBW hcS hnS hsS d0 d1 d2 d3
    obtain ⟨x0, x1, x2, x3, -⟩ := qX.cells
    have K := weightQ _ _ wc hRA hRR
    obtain ⟨T, hT⟩ : ∃ T, wt (repA (.mk k gs gn gi) sh n) = T := ⟨_, rfl⟩
    have HT : Hid (wt (repA (.mk k gs gn gi) sh n) = T) := hT
    rw [hT] at K
    clear hT
    by_cases hbig : 262144 < T
    · have HO : Hid (outA (repA (.mk k gs gn gi) sh n) = (zeroA, 21)) := outA_big (by rw [HT.out]; exact hbig)
      go_wp2_with (go_at_call 70; refine K.mono ?_; rintro e w6 ⟨rfl, hb6⟩; (obtain ⟨s0, s1, s2, s3, s4, s5, s6, s7⟩ := (qR2.below hb6).cells))
      have q3 := qR2.below hb6
      have G := give_set4 (Nat.le_succ w.heap.size) q3 (zero_on _ _) (Below.then hBX hb6)
      obtain ⟨QW, -⟩ := set4 q3 (.int .i64 0) (.slice none 0 0) (.slice none 0 0) (.slice none 0 0)
      generalize ((((w6.setCell ⟨w.heap.size + 1, 0, none⟩ (.int .i64 0)).setCell ⟨w.heap.size + 1, 1, none⟩ (.slice none 0 0)).setCell ⟨w.heap.size + 1, 2, none⟩ (.slice none 0 0)).setCell ⟨w.heap.size + 1, 3, none⟩ (.slice none 0 0)) = WW at QW G ⊢
      obtain ⟨z0, z1, z2, z3, -⟩ := QW.cells
      rw [HO.out]
      exact bodyPost_ret (v := .tuple #[.agg #[.int .i64 0, .slice none 0 0, .slice none 0 0, .slice none 0 0], .int .i64 21]) (by simp [results, Try.results84, go_sem, z0, z1, z2, z3]) rfl (GiveNewE.mk G)
    · have HO : Hid (outA (repA (.mk k gs gn gi) sh n) = (repA (.mk k gs gn gi) sh n, 0)) := outA_ok (by rw [HT.out]; exact hbig)
      go_wp2_with (first
        | (go_at_call 70; refine K.mono ?_; rintro e w6 ⟨rfl, hb6⟩; (obtain ⟨u0, u1, u2, u3, -⟩ := (qX.below hb6).cells))
        | (go_at_call 39; refine (cloneN _ _ _ (hRA.below hb6) hRR).mono ?_; intro e w7 hN; (obtain ⟨kr, sar, lsr, scr, nar, lnr, ncr, iar, lir, icr, rfl, hO, hb7⟩ := hN.form); (obtain ⟨s0, s1, s2, s3, s4, s5, s6, s7⟩ := ((qR2.below hb6).below hb7).cells)))
      have q3 := (qR2.below hb6).below hb7
      have hs6 := hb6.size
      have hlr := qR2.lt
      have G := give_set4 (Nat.le_succ w.heap.size) q3 (hO.mono fun g hg => by omega) (Below.then (Below.then hBX hb6) hb7)
      obtain ⟨QW, -⟩ := set4 q3 (.int .i64 kr) (.slice sar lsr scr) (.slice nar lnr ncr) (.slice iar lir icr)
      generalize ((((w7.setCell ⟨w.heap.size + 1, 0, none⟩ (.int .i64 kr)).setCell ⟨w.heap.size + 1, 1, none⟩ (.slice sar lsr scr)).setCell ⟨w.heap.size + 1, 2, none⟩ (.slice nar lnr ncr)).setCell ⟨w.heap.size + 1, 3, none⟩ (.slice iar lir icr)) = WW at QW G ⊢
      obtain ⟨z0, z1, z2, z3, -⟩ := QW.cells
      rw [HO.out]
      exact bodyPost_ret (v := .tuple #[.agg #[.int .i64 kr, .slice sar lsr scr, .slice nar lnr ncr, .slice iar lir icr], .int .i64 0]) (by simp [results, Try.results84, go_sem, z0, z1, z2, z3]) rfl (GiveNewE.mk G)
end Go.Proofs.Ytkjbccodahleoaa.Shape

namespace Go.Proofs.Ytkjbccodahleoaa.Shape
open Go.RowKit
set_option linter.unusedVariables false

set_option maxRecDepth 100000 in
set_option maxHeartbeats 8000000 in
theorem ofN_fill (a : Option Addr) (cap : Nat) (sh : List Int) (v : Value) (F S : Arr) (w : World) (g : IntsAt w a cap sh) (h : ArrAt w v F) (hE : rightE F = 0) (hD : dimsE sh = 0) (hz : aSize F = 0) (hS : S = fillA F.kind) (hR : Reach S) :
    Calls Try.prog 84 #[.slice a sh.length cap, v] w (GiveNewE (outA (repA S sh (pr sh).toNat)).1 (outA (repA S sh (pr sh).toNat)).2 w) := by
  have hA := h
  obtain ⟨k, sa, ls, sc, na, ln, nc, ia, li, ic, rfl⟩ : ∃ k sa ls sc na ln nc ia li ic, v = .agg #[.int .i64 k, .slice sa ls sc, .slice na ln nc, .slice ia li ic] := by
    obtain ⟨k, sh, nu, it⟩ := F
    rw [ArrAt] at h
    obtain ⟨sa, sc, na, nc, ia, ic, rfl, -⟩ := h
    exact ⟨_, _, _, _, _, _, _, _, _, _, rfl⟩
  clear h
  have bw := below_two w (.cells #[.int .i64 k, .slice sa ls sc, .slice na ln nc, .slice ia li ic] 26) (.cells #[.int .i64 0, .slice none 0 0, .slice none 0 0, .slice none 0 0] 26)
  have hA1 := hA.below bw
  have g1 := g.below bw
  have q1 := (Quad.new w (.int .i64 k) (.slice sa ls sc) (.slice na ln nc) (.slice ia li ic)).below (below_new _ (.cells #[.int .i64 0, .slice none 0 0, .slice none 0 0, .slice none 0 0] 26))
  have q2 : Quad ((w.alloc (.cells #[.int .i64 k, .slice sa ls sc, .slice na ln nc, .slice ia li ic] 26)).alloc (.cells #[.int .i64 0, .slice none 0 0, .slice none 0 0, .slice none 0 0] 26)) (w.heap.size + 1) (.int .i64 0) (.slice none 0 0) (.slice none 0 0) (.slice none 0 0) := by simpa using Quad.new (w.alloc (.cells #[.int .i64 k, .slice sa ls sc, .slice na ln nc, .slice ia li ic] 26)) (.int .i64 0) (.slice none 0 0) (.slice none 0 0) (.slice none 0 0)
  have bz : Hid (((w.alloc (.cells #[.int .i64 k, .slice sa ls sc, .slice na ln nc, .slice ia li ic] 26)).alloc (.cells #[.int .i64 0, .slice none 0 0, .slice none 0 0, .slice none 0 0] 26)).heap.size = w.heap.size + 2) := by unfold Hid; simp
  have C1 := fun v' w' (g : ArrAt w' v' F) => rightQ v' F w' g
  rw [hE] at C1
  obtain ⟨p0, p1⟩ := dims_small hD
  obtain ⟨n, hn⟩ : ∃ n : Nat, (pr sh).toNat = n := ⟨_, rfl⟩
  have hnp : pr sh = (n : Int) := by omega
  have hn1 : n ≤ 65536 := by omega
  have C2 := fun w' (g : IntsAt w' a cap sh) => checkShapeQ a cap sh w' g
  simp only [shN_ok hD, hD, hnp] at C2
  have C3 := fun v' w' (g : ArrAt w' v' F) => sizeQ v' F w' g
  rw [hz] at C3
  have CF := fun v' w' (g : ArrAt w' v' F) => fillN v' F w' g
  rw [← hS] at CF
  rw [hn]
  have hRR := reach_rep (n := n) hD hn1 hR
  clear hnp hn p0 p1 hA
  go_enter Try.func84, Try.ntmps84
  go_upto_region 8 with (first
    | (go_at_call 34; refine (C1 _ _ hA1).mono ?_; rintro e w1 ⟨rfl, hb1⟩; (obtain ⟨x0, x1, x2, x3, -⟩ := (q1.below hb1).cells))
    | (go_at_call 82; refine (C2 _ (g1.below hb1)).mono ?_; rintro e w2 ⟨rfl, rfl⟩)
    | (go_at_call 61; refine (C3 _ _ (hA1.below hb1)).mono ?_; rintro e w3 ⟨rfl, hb3⟩; (obtain ⟨y0, y1, y2, y3, y4, y5, y6, y7⟩ := ((q1.below hb1).below hb3).cells))
    | (go_at_call 94; refine (CF _ _ ((hA1.below hb1).below hb3)).mono ?_; intro e w4 hN; (obtain ⟨kk, saa, lss, scc, naa, lnn, ncc, iaa, lii, icc, rfl, hO, hb4⟩ := hN.form); (obtain ⟨s0, s1, s2, s3, s4, s5, s6, s7⟩ := (((q1.below hb1).below hb3).below hb4).cells)))
  have hz' := bz.out
  have hq5 := ((q1.below hb1).below hb3).below hb4
  obtain ⟨qS, hOth⟩ := set4 hq5 (.int .i64 kk) (.slice saa lss scc) (.slice naa lnn ncc) (.slice iaa lii icc)
  have z1 := hb1.size
  have z3 := hb3.size
  have hBW : Below w.heap.size w ((((w4.setCell ⟨w.heap.size, 0, none⟩ (.int .i64 kk)).setCell ⟨w.heap.size, 1, none⟩ (.slice saa lss scc)).setCell ⟨w.heap.size, 2, none⟩ (.slice naa lnn ncc)).setCell ⟨w.heap.size, 3, none⟩ (.slice iaa lii icc)) := (Below.then (Below.then (Below.then bw hb1) hb3) hb4).trans (set4_below (Nat.le_refl _) _ _ _ _)
  have hAS := (hO.keep (R := fun _ => True) fun g hg _ => ⟨trivial, fun o => World.cell?_of_block (hOth g (by omega))⟩).at
  have qR := (((q2.below hb1).below hb3).below hb4).keep (hOth (w.heap.size + 1) (by omega))
  have gS := g.below hBW
  generalize ((((w4.setCell ⟨w.heap.size, 0, none⟩ (.int .i64 kk)).setCell ⟨w.heap.size, 1, none⟩ (.slice saa lss scc)).setCell ⟨w.heap.size, 2, none⟩ (.slice naa lnn ncc)).setCell ⟨w.heap.size, 3, none⟩ (.slice iaa lii icc)) = WS at qS hOth hBW hAS qR gS ⊢
  clear hOth hq5 hO hb4 hb3 hb1 z1 z3 hz' q1 q2 g1 hA1 bw bz C1 C2 C3 CF s0 s1 s2 s3 s4 s5 s6 s7 x0 x1 x2 x3 y0 y1 y2 y3 y4 y5 y6 y7
  obtain ⟨k', gs, gn, gi⟩ := S
  have hAS2 := hAS.on
  rw [ArrOn] at hAS2
  obtain ⟨sa', sc', na', nc', ia', ic', hv', hk', hsS, hnS, hlc, hic, b, off, ha, hcS⟩ := hAS2
  simp only [Value.agg.injEq, Array.mk.injEq, List.cons.injEq, and_true, Value.int.injEq, true_and] at hv'
  obtain ⟨rfl, hv1, hv2, hv3⟩ := hv'
  simp only [hv1, hv2, hv3] at qS hAS ⊢
  clear hv1 hv2 hv3
  rw [Reach] at hR
  obtain ⟨r1, r2, r3, r4⟩ := hR
  have CI := fun w' (hb : Below WS.heap.size WS w') => cycleIQ na' nc' gn n w' (hnS.1.below hb) r2 hn1
  have CA := fun w' (hb : Below WS.heap.size WS w') => cycleAQ (fun g => g < WS.heap.size) ia' ic' b off gi n w' hlc (fun g => (ha g).1) (hcS.keep' (fun g hg _ => ⟨hg, fun _ => hb.cell hg⟩) (fun g => (ha g).2)) r3 hn1
  obtain ⟨d0, d1, d2, d3, -⟩ := qS.cells
  go_cut [8] (fun v8 wx => ∃ (X : Nat) (na2 : Option Addr) (nc2 : Nat) (ia2 : Option Addr) (ic2 : Nat), v8 = .pointer (some ⟨X, 0, none⟩) ∧ Quad wx X (.int .i64 kk) (.slice a sh.length cap) (.slice na2 (cyc0 gn 0 n).length nc2) (.slice ia2 (cyc0 gi zeroA n).length ic2) ∧ ArrAt wx (.agg #[.int .i64 kk, .slice a sh.length cap, .slice na2 (cyc0 gn 0 n).length nc2, .slice ia2 (cyc0 gi zeroA n).length ic2]) (repA (.mk kk gs gn gi) sh n) ∧ Quad wx (w.heap.size + 1) (.int .i64 0) (.slice none 0 0) (.slice none 0 0) (.slice none 0 0) ∧ Below w.heap.size w wx)
  case first =>
    have H0 : ∀ w', Below WS.heap.size WS w' → w'.cell? ⟨w.heap.size, 0, none⟩ = some (.int .i64 kk) ∧ w'.cell? ⟨w.heap.size, 2, none⟩ = some (.slice na' gn.length nc') ∧ w'.cell? ⟨w.heap.size, 3, none⟩ = some (.slice ia' gi.length ic') ∧ Below WS.heap.size WS w' := by
      intro w' hb
      obtain ⟨x0, x1, x2, x3, -⟩ := (qS.below hb).cells
      exact ⟨x0, x2, x3, hb⟩
    clear d0 d1 d2 d3
    go_region_held_law (fun w' => w'.cell? ⟨w.heap.size, 0, none⟩ = some (.int .i64 kk) ∧ w'.cell? ⟨w.heap.size, 2, none⟩ = some (.slice na' gn.length nc') ∧ w'.cell? ⟨w.heap.size, 3, none⟩ = some (.slice ia' gi.length ic') ∧ Below WS.heap.size WS w')
      (first
        | exact H0 _ (by go_grown)
        | exact H0 _ (Below.setCell (Below.setCell (Below.setCell (Below.setCell (by go_grown) (by first | exact Nat.le_refl _ | assumption | omega) _) (by first | exact Nat.le_refl _ | assumption | omega) _) (by first | exact Nat.le_refl _ | assumption | omega) _) (by first | exact Nat.le_refl _ | assumption | omega) _))
      (((first
      | (go_simp; (with_reducible refine (CI _ (by go_grown)).mono ?_); rintro e w4 ⟨na2, nc2, rfl, i1, b1⟩; (have e1 : Below WS.heap.size WS w4 := Below.then (by go_grown) b1); (have S1 := e1.size); (first | (have qX := Quad.below b1 (Quad.new _ _ _ _ _); obtain ⟨m0, m1, m2, m3, m4, m5, m6, m7⟩ := qX.cells) | skip))
      | (go_simp; (with_reducible refine (CA _ (by go_grown)).mono ?_); rintro e w5 ⟨ia2, ic2, b2', rfl, l1, l2, l3, lb, l4, b2⟩; (have e2 : Below WS.heap.size WS w5 := Below.then (by go_grown) b2); (have S2 := e2.size); (have e12 : Below w4.heap.size w4 w5 := Below.then (by go_grown) b2); (first | (have qY := Quad.below b2 (Quad.new _ _ _ _ _); obtain ⟨o0, o1, o2, o3, o4, o5, o6, o7⟩ := qY.cells) | (have qY := Quad.below b2 qX; obtain ⟨o0, o1, o2, o3, o4, o5, o6, o7⟩ := qY.cells) | skip)))))
    all_goals
      have i0 : IntsOn (fun g => g < WS.heap.size) w5 a cap sh := gS.on.keep (fun g hg _ => ⟨hg, fun _ => e2.cell hg⟩)
      have S3 := e12.size
      have S4 := b1.size
      have S5 := b2.size
    · have i1' : IntsOn (fun g => g ≠ w5.heap.size) w5 na2 nc2 (cyc0 gn 0 n) := i1.keep (fun g hg hl => ⟨by omega, fun _ => b2.cell hl⟩)
      have W6 := below_new w5 (.cells #[.int .i64 kk, .slice a sh.length cap, .slice na2 (cyc0 gn 0 n).length nc2, .slice ia2 (cyc0 gi zeroA n).length ic2] 26)
      go_wp2_with fail
      go_meet
      refine ⟨_, na2, nc2, ia2, ic2, rfl, Quad.new _ _ _ _ _, ?_, (qR.below e2).below W6, Below.then (Below.then hBW e2) W6⟩
      by_cases hne : cyc0 gi zeroA n = []
      · exact rep_at (X := w5.heap.size) (b' := w5.heap.size + 1) (fun g h1 h2 o => W6.cell h2) hk' (i0.mono fun g hg => by omega) i1' l1 l2 (fun h => absurd hne h) (by omega) (by rw [hne, ArrsOn]; trivial)
      · have hb' : b2' < w5.heap.size := by
          cases hx : cyc0 gi zeroA n with
          | nil => exact absurd hx hne
          | cons A r =>
            have l5 := l4
            rw [hx, ArrsOn] at l5
            obtain ⟨⟨c0, _, _, _, ⟨e, -⟩, -⟩, -⟩ := l5
            exact cell_lt e
        exact rep_at (X := w5.heap.size) (fun g h1 h2 o => W6.cell h2) hk' (i0.mono fun g hg => by omega) i1' l1 l2 l3 (by omega) (l4.weak fun g hg => by omega)
    · obtain ⟨qZ, hOt⟩ := set4 qY (.int .i64 kk) (.slice a sh.length cap) (.slice na2 (cyc0 gn 0 n).length nc2) (.slice ia2 (cyc0 gi zeroA n).length ic2)
      have lb' : w4.heap.size + 1 ≤ b2' := by simpa using lb
      have i1' : IntsOn (fun g => g ≠ w4.heap.size) w5 na2 nc2 (cyc0 gn 0 n) := i1.keep (fun g hg hl => ⟨by omega, fun _ => e12.cell hl⟩)
      have hBX := (Below.then hBW e2).trans (set4_below (w := w5) (B := w.heap.size) (b := w4.heap.size) (by have := hBW.size; omega) (.int .i64 kk) (.slice a sh.length cap) (.slice na2 (cyc0 gn 0 n).length nc2) (.slice ia2 (cyc0 gi zeroA n).length ic2))
      have qRX := (qR.below e2).keep (hOt _ (by have := qR.lt; omega))
      have hA6 := rep_at (X := w4.heap.size) (fun g h1 h2 o => World.cell?_of_block (hOt g h1)) hk' (i0.mono fun g hg => by omega) i1' l1 l2 l3 (by omega) (l4.weak fun g hg => by omega)
      go_wp2_with fail
      go_meet
      exact ⟨_, na2, nc2, ia2, ic2, rfl, qZ, hA6, qRX, hBX⟩
    · obtain ⟨qZ, hOt⟩ := set4 qY (.int .i64 kk) (.slice a sh.length cap) (.slice na2 (cyc0 gn 0 n).length nc2) (.slice ia2 (cyc0 gi zeroA n).length ic2)
      have lb' : WS.heap.size + 1 ≤ b2' := by (have h7 : WS.heap.size + 1 ≤ w4.heap.size := by simpa [World.drew] using S4); omega
      have i1' : IntsOn (fun g => g ≠ WS.heap.size) w5 na2 nc2 (cyc0 gn 0 n) := i1.keep (fun g hg hl => ⟨by (have h7 : WS.heap.size + 1 ≤ g := by simpa [World.drew] using hg); omega, fun _ => e12.cell hl⟩)
      have hBX := (Below.then hBW e2).trans (set4_below (w := w5) (B := w.heap.size) (b := WS.heap.size) (by have := hBW.size; omega) (.int .i64 kk) (.slice a sh.length cap) (.slice na2 (cyc0 gn 0 n).length nc2) (.slice ia2 (cyc0 gi zeroA n).length ic2))
      have qRX := (qR.below e2).keep (hOt _ (by have := qR.lt; omega))
      have hA6 := rep_at (X := WS.heap.size) (fun g h1 h2 o => World.cell?_of_block (hOt g h1)) hk' (i0.mono fun g hg => by omega) i1' l1 l2 l3 (by omega) (l4.weak fun g hg => by omega)
      go_wp2_with fail
      go_meet
      exact ⟨_, na2, nc2, ia2, ic2, rfl, qZ, hA6, qRX, hBX⟩
  case rest =>
    obtain ⟨X, na2, nc2, ia2, ic2, rfl, qX, hRA, qR2, hBX⟩ := hcut
    clear CI CA qS qR hAS gS hBW hcS hnS hsS d0 d1 d2 d3
    obtain ⟨x0, x1, x2, x3, -⟩ := qX.cells
    have K := weightQ _ _ wc hRA hRR
    obtain ⟨T, hT⟩ : ∃ T, wt (repA (.mk kk gs gn gi) sh n) = T := ⟨_, rfl⟩
    have HT : Hid (wt (repA (.mk kk gs gn gi) sh n) = T) := hT
    rw [hT] at K
    clear hT
    by_cases hbig : 262144 < T
    · have HO : Hid (outA (repA (.mk kk gs gn gi) sh n) = (zeroA, 21)) := outA_big (by rw [HT.out]; exact hbig)
      go_wp2_with (go_at_call 70; refine K.mono ?_; rintro e w6 ⟨rfl, hb6⟩; (obtain ⟨s0, s1, s2, s3, s4, s5, s6, s7⟩ := (qR2.below hb6).cells))
      have q3 := qR2.below hb6
      have G := give_set4 (Nat.le_succ w.heap.size) q3 (zero_on _ _) (Below.then hBX hb6)
      obtain ⟨QW, -⟩ := set4 q3 (.int .i64 0) (.slice none 0 0) (.slice none 0 0) (.slice none 0 0)
      generalize ((((w6.setCell ⟨w.heap.size + 1, 0, none⟩ (.int .i64 0)).setCell ⟨w.heap.size + 1, 1, none⟩ (.slice none 0 0)).setCell ⟨w.heap.size + 1, 2, none⟩ (.slice none 0 0)).setCell ⟨w.heap.size + 1, 3, none⟩ (.slice none 0 0)) = WW at QW G ⊢
      obtain ⟨z0, z1, z2, z3, -⟩ := QW.cells
      rw [HO.out]
      exact bodyPost_ret (v := .tuple #[.agg #[.int .i64 0, .slice none 0 0, .slice none 0 0, .slice none 0 0], .int .i64 21]) (by simp [results, Try.results84, go_sem, z0, z1, z2, z3]) rfl (GiveNewE.mk G)
    · have HO : Hid (outA (repA (.mk kk gs gn gi) sh n) = (repA (.mk kk gs gn gi) sh n, 0)) := outA_ok (by rw [HT.out]; exact hbig)
      go_wp2_with (first
        | (go_at_call 70; refine K.mono ?_; rintro e w6 ⟨rfl, hb6⟩; (obtain ⟨u0, u1, u2, u3, -⟩ := (qX.below hb6).cells))
        | (go_at_call 39; refine (cloneN _ _ _ (hRA.below hb6) hRR).mono ?_; intro e w7 hN; (obtain ⟨kr, sar, lsr, scr, nar, lnr, ncr, iar, lir, icr, rfl, hO, hb7⟩ := hN.form); (obtain ⟨s0, s1, s2, s3, s4, s5, s6, s7⟩ := ((qR2.below hb6).below hb7).cells)))
      have q3 := (qR2.below hb6).below hb7
      have hs6 := hb6.size
      have hlr := qR2.lt
      have G := give_set4 (Nat.le_succ w.heap.size) q3 (hO.mono fun g hg => by omega) (Below.then (Below.then hBX hb6) hb7)
      obtain ⟨QW, -⟩ := set4 q3 (.int .i64 kr) (.slice sar lsr scr) (.slice nar lnr ncr) (.slice iar lir icr)
      generalize ((((w7.setCell ⟨w.heap.size + 1, 0, none⟩ (.int .i64 kr)).setCell ⟨w.heap.size + 1, 1, none⟩ (.slice sar lsr scr)).setCell ⟨w.heap.size + 1, 2, none⟩ (.slice nar lnr ncr)).setCell ⟨w.heap.size + 1, 3, none⟩ (.slice iar lir icr)) = WW at QW G ⊢
      obtain ⟨z0, z1, z2, z3, -⟩ := QW.cells
      rw [HO.out]
      exact bodyPost_ret (v := .tuple #[.agg #[.int .i64 kr, .slice sar lsr scr, .slice nar lnr ncr, .slice iar lir icr], .int .i64 0]) (by simp [results, Try.results84, go_sem, z0, z1, z2, z3]) rfl (GiveNewE.mk G)
end Go.Proofs.Ytkjbccodahleoaa.Shape

namespace Go.Proofs.Ytkjbccodahleoaa.Shape
open Go.RowKit
set_option linter.unusedVariables false

/-- What place is handed. -/
structure PlI (w : World) (ts fs : List Int) (T : TypeId) (els tgt : List (List Value)) (L1 L2 : List Value) (b N pc tc ec fc : Nat) (pa ta ea fa : Option Addr) : Prop where
  rt : rightB ts = true
  nf : NN fs
  lf : fs.length ≤ ts.length
  fit : N ≠ 0 → fits ts (leadS fs ts.length)
  le : els.length = prN fs
  ht : Units 1 tgt
  hg : tgt.length = N
  hu : Units 1 els
  hN : N = prN ts
  npc : N ≤ pc
  cpc : pc ≤ 9223372036854775807
  hpa : N ≠ 0 → pa = some ⟨b, L1.length, none⟩
  ele : els.length ≤ ec
  cle : ec ≤ 9223372036854775807
  src : ElsAt w b ea els.flatten
  area : AreaAt w b T L1 tgt.flatten L2
  it : IntsOn (fun g => g ≠ b) w ta tc ts
  iff : IntsOn (fun g => g ≠ b) w fa fc fs
/-- What it leaves. -/
def PlIPost (w : World) (ts fs : List Int) (T : TypeId) (els tgt : List (List Value)) (L1 L2 : List Value) (b : Nat) (e : Ending) (w' : World) : Prop :=
  e = .returned (.tuple #[]) ∧ AreaAt w' b T L1 (padT ts (leadS fs ts.length) els tgt).flatten L2 ∧ But b w w'
theorem PlI.ntl {w : World} {ts fs : List Int} {T : TypeId} {els tgt : List (List Value)} {L1 L2 : List Value} {b N pc tc ec fc : Nat} {pa ta ea fa : Option Addr} (h : PlI w ts fs T els tgt L1 L2 b N pc tc ec fc pa ta ea fa) : NN ts ∧ (leadS fs ts.length).length = ts.length ∧ NN (leadS fs ts.length) ∧ els.length = prN (leadS fs ts.length) ∧ N ≤ 65536 :=
  ⟨(right_def.1 h.rt).2.1, leadS_len h.lf, leadS_NN h.nf, by rw [leadS_prN h.nf]; exact h.le, by
    have := (part_bd (a := ts) (b := []) (by rw [List.append_nil]; exact h.rt)).2.1
    have := h.hN
    unfold prN at this; omega⟩
set_option maxHeartbeats 1000000 in
theorem placeI_none {w : World} {ts fs : List Int} {T : TypeId} {els tgt : List (List Value)} {L1 L2 : List Value} {b N pc tc ec fc : Nat} {pa ta ea fa : Option Addr} (h : PlI w ts fs T els tgt L1 L2 b N pc tc ec fc pa ta ea fa) (h0 : N = 0 ∨ els.length = 0) :
    Calls Try.prog 68 #[.slice pa N pc, .slice ta ts.length tc, .slice ea els.length ec, .slice fa fs.length fc] w (PlIPost w ts fs T els tgt L1 L2 b) := by
  obtain ⟨nt, hl, nl, hle, -⟩ := h.ntl
  have e : padT ts (leadS fs ts.length) els tgt = tgt := by
    rcases h0 with h0 | h0
    · have := padT_len ts (leadS fs ts.length) els tgt hl.symm nt nl hle (by rw [h.hg, h.hN])
      rw [← h.hN, h0] at this
      have h9 := h.hg
      rw [h0] at h9
      rw [List.eq_nil_of_length_eq_zero this, List.eq_nil_of_length_eq_zero h9]
    · exact padT_none _ _ _ _ hl.symm nt nl (by rw [h.hg, h.hN]) (by omega)
  have hpost : PlIPost w ts fs T els tgt L1 L2 b (.returned (.tuple #[])) w := ⟨rfl, by rw [e]; exact h.area, But.refl _ _⟩
  have c1 := h.npc
  have c2 := h.ele
  clear h e nt hl nl hle
  by_cases hn : N = 0
  · have e1 : ((N : Int) == 0) = true := by simpa using hn
    go_enter Try.func68, Try.ntmps68
    go_wp2_with fail
    go_end0
    exact hpost
  · have hm : els.length = 0 := h0.resolve_left hn
    have e1 : ((N : Int) == 0) = false := by simpa using hn
    have e2 : ((els.length : Int) == 0) = true := by simp [hm]
    generalize els.length = M at e2 c2 ⊢
    clear hm h0
    go_enter Try.func68, Try.ntmps68
    go_wp2_with fail
    go_end0
    exact hpost
set_option maxHeartbeats 1000000 in
theorem placeI_small {w : World} {ts fs : List Int} {T : TypeId} {els tgt : List (List Value)} {L1 L2 : List Value} {b N pc tc ec fc : Nat} {pa ta ea fa : Option Addr} (h : PlI w ts fs T els tgt L1 L2 b N pc tc ec fc pa ta ea fa) (h0 : N ≠ 0) (hm0 : els.length ≠ 0) (h1 : ts.length ≤ 1) :
    Calls Try.prog 68 #[.slice pa N pc, .slice ta ts.length tc, .slice ea els.length ec, .slice fa fs.length fc] w (PlIPost w ts fs T els tgt L1 L2 b) := by
  obtain ⟨nt, hl, nl, hle, -⟩ := h.ntl
  have e := padT_small ts fs els tgt h1 h.lf nt h.nf (h.fit h0) h.le (by rw [h.hg, h.hN])
  have hMN : els.length ≤ N := by
    have h2 := padT_len ts (leadS fs ts.length) els tgt hl.symm nt nl hle (by rw [h.hg, h.hN])
    rw [e, List.length_append, ← h.hN] at h2
    omega
  obtain ⟨W, hcp, hA, hB⟩ := area_copy (P := Try.prog) w 23 23 3 T b N pc els.length ec 1 L1 L2 els tgt ea Try.underlying23 sizeInt1 h.ht h.hg h.hu (by decide) rfl hm0 hMN h.area h.src
  have hpost : PlIPost w ts fs T els tgt L1 L2 b (.returned (.tuple #[])) W := ⟨rfl, by rw [e]; exact hA, hB⟩
  have hpa := h.hpa h0
  subst hpa
  have c1 := h.npc
  have c2 := h.ele
  have c3 := h.cpc
  have c4 := h.cle
  have e1 : ((N : Int) == 0) = false := by simpa using h0
  have e2 : ((els.length : Int) == 0) = false := by simpa using hm0
  have e3 : (ts.length : Int) ≤ 1 := by omega
  clear h e nt hl nl hle hA hB h0 hm0 h1
  generalize els.length = M at *
  generalize ts.length = K at *
  go_enter Try.func68, Try.ntmps68
  go_wp2_with fail
  go_end0
  exact hpost
theorem PlI.heap {w W : World} {ts fs : List Int} {T : TypeId} {els tgt : List (List Value)} {L1 L2 : List Value} {b N pc tc ec fc : Nat} {pa ta ea fa : Option Addr} (h : PlI w ts fs T els tgt L1 L2 b N pc tc ec fc pa ta ea fa) (hW : W.heap = w.heap) : PlI W ts fs T els tgt L1 L2 b N pc tc ec fc pa ta ea fa := by
  have hc : ∀ g o, W.cell? ⟨g, o, none⟩ = w.cell? ⟨g, o, none⟩ := fun g o => World.cell?_of_block (by rw [hW])
  refine ⟨h.rt, h.nf, h.lf, h.fit, h.le, h.ht, h.hg, h.hu, h.hN, h.npc, h.cpc, h.hpa, h.ele, h.cle, ?_, ?_, h.it.keep fun g hg _ => ⟨hg, fun o => hc g o⟩, h.iff.keep fun g hg _ => ⟨hg, fun o => hc g o⟩⟩
  · intro hne
    obtain ⟨be, oe, ha, hn, hs⟩ := h.src hne
    exact ⟨be, oe, ha, hn, fun j v hj => (hc _ _).trans (hs j v hj)⟩
  · have := h.area
    unfold AreaAt at this ⊢
    rw [hW]; exact this
set_option maxRecDepth 100000 in
set_option maxHeartbeats 4000000 in
theorem placeI_lead {w : World} {tn : Nat} {ts fs : List Int} {T : TypeId} {els tgt : List (List Value)} {L1 L2 : List Value} {b N pc tc ec fc : Nat} {pa ta ea fa : Option Addr} (h : PlI w (tn :: ts) fs T els tgt L1 L2 b N pc tc ec fc pa ta ea fa) (h0 : N ≠ 0) (hm0 : els.length ≠ 0) (h1 : 1 ≤ ts.length) (hl : fs.length ≤ ts.length)
    (ih : ∀ W, W.heap = w.heap → ∀ {tgt' L2' st tc' ta'}, PlI W ts fs T els tgt' L1 L2' b st st tc' ec fc (some ⟨b, L1.length, none⟩) ta' ea fa → Calls Try.prog 68 #[.slice (some ⟨b, L1.length, none⟩) st st, .slice ta' ts.length tc', .slice ea els.length ec, .slice fa fs.length fc] W (PlIPost W ts fs T els tgt' L1 L2' b)) :
    Calls Try.prog 68 #[.slice pa N pc, .slice ta (ts.length + 1) tc, .slice ea els.length ec, .slice fa fs.length fc] w (PlIPost w (tn :: ts) fs T els tgt L1 L2 b) := by
  obtain ⟨nt, -, -, -, hN6⟩ := h.ntl
  have hls := leadS_step (s := fs) (n := ts.length) (by omega)
  have hfit := h.fit h0
  rw [List.length_cons, hls] at hfit
  have hNs : N = tn * prN ts := by rw [h.hN, prN_cons nt.head nt.tail]; simp
  obtain ⟨st, hst⟩ : ∃ st, prN ts = st := ⟨_, rfl⟩
  rw [hst] at hNs
  have ht0 : tn ≠ 0 := by intro e; subst e; simp at hNs; exact h0 hNs
  have hs0 : st ≠ 0 := by intro e; subst e; simp at hNs; exact h0 hNs
  have hsN : st ≤ N := by rw [hNs]; exact Nat.le_mul_of_pos_left _ (by omega)
  have hq := quo_nat hNs ht0
  obtain ⟨i1, s1, bb, oo, x1, c1, -⟩ := h.it.from1
  have hpa := h.hpa h0
  subst hpa
  have HB : ∀ W, Calls Try.prog 37 #[.slice (some ⟨b, L1.length, none⟩) N pc, .int .i64 0, .int .i64 (st : Int)] W fun e w' => e = .returned (.slice (some ⟨b, L1.length, none⟩) st st) ∧ W = w' := by
    intro W
    have := blockI (some ⟨b, L1.length, none⟩) N pc 0 st W h0 h.npc h.cpc (by omega) (by omega)
    rw [blkA_some hs0, Nat.zero_mul, Nat.zero_mul, Nat.add_zero] at this
    exact this
  have HI : ∀ W, W.heap = w.heap → But b w W → Calls Try.prog 68 #[.slice (some ⟨b, L1.length, none⟩) st st, .slice (fromAt ta tc 1) ts.length (tc - 1), .slice ea els.length ec, .slice fa fs.length fc] W (PlIPost w (tn :: ts) fs T els tgt L1 L2 b) := by
    intro W hW hbW
    have hP : PlI w ts fs T els (tgt.take st) L1 ((tgt.drop st).flatten ++ L2) b st st (tc - 1) ec fc (some ⟨b, L1.length, none⟩) (fromAt ta tc 1) ea fa := by
      refine ⟨?_, h.nf, hl, fun _ => hfit.2, h.le, (fun x hx => h.ht x (List.mem_of_mem_take hx)), by rw [List.length_take, h.hg]; omega, h.hu, hst.symm, Nat.le_refl _, by omega, fun _ => rfl, h.ele, h.cle, h.src, ?_, i1, h.iff⟩
      · have := right_drop (k := 1) h.rt
        exact this
      · have := h.area
        rw [← List.take_append_drop st tgt, List.flatten_append] at this
        unfold AreaAt at this ⊢
        simpa only [List.append_assoc] using this
    refine (ih W hW (hP.heap hW)).mono ?_
    rintro e w3 ⟨he, hA, hB⟩
    refine ⟨he, ?_, hbW.trans hB⟩
    rw [List.length_cons, hls, padT_lead _ _ _ _ _ (by omega) (by rw [leadS_prN h.nf]; exact h.le) (by rw [leadS_prN h.nf, ← h.le]; omega) (by rw [h.hg, hst, hNs]; simp), List.flatten_append, hst]
    unfold AreaAt at hA ⊢
    simpa only [List.append_assoc, Int.toNat_natCast] using hA
  have HI1 := HI w rfl (But.refl _ _)
  have HI2 := HI w.drew rfl But.drew
  have c2 := h.npc
  have c3 := h.cpc
  have c4 := h.ele
  have c5 := h.cle
  have e1 : ((N : Int) == 0) = false := by simpa using h0
  have e2 : ((els.length : Int) == 0) = false := by simpa using hm0
  have e3 : ¬ ((ts.length + 1 : Nat) : Int) ≤ 1 := by omega
  have e4 : (fs.length : Int) < ((ts.length + 1 : Nat) : Int) := by omega
  have e5 : ((tn : Int) == 0) = false := by simpa using ht0
  clear ih h hls hfit hm0 i1 hNs hst nt hl h1 HI
  generalize els.length = M at *
  generalize fs.length = KF at *
  generalize ts.length = K' at *
  generalize hK : K' + 1 = K at *
  clear hK
  go_enter Try.func68, Try.ntmps68
  go_wp2_with fail
  go_region_held3 (fun _ => True)
    (exact trivial)
    ((first
    | (go_at_call 37; (with_reducible refine (HB _).mono ?_); rintro e w1 ⟨rfl, rfl⟩)
    | (go_at_call 68; (first | (with_reducible refine HI1.mono ?_) | (with_reducible refine HI2.mono ?_)); rintro e w3 ⟨rfl, hpost⟩)))
  all_goals go_wp2_with fail
  all_goals go_end0
  all_goals exact ⟨rfl, hpost⟩
theorem padJI_step {w : World} {b : Nat} {T : TypeId} {L1 L2 : List Value} {els tgt : List (List Value)} {t : Nat} {ts fs : List Int} {j : Nat} (htg : Units 1 tgt) (hu : Units 1 els) (hj : j < t) (hg : tgt.length = t * prN ts) (he : (j + 1) * prN fs ≤ els.length) (hl : ts.length = fs.length) (ht : NN ts) (hf : NN fs) :
    ∃ done : List Value, done.length = j * prN ts * 1 ∧
      (AreaAt w b T L1 (padJ ts fs els tgt j).flatten L2 → AreaAt w b T (L1 ++ done) (blk tgt j (prN ts)).flatten ((tgt.drop ((j + 1) * prN ts)).flatten ++ L2)) ∧
      ∀ w' : World, AreaAt w' b T (L1 ++ done) (padT ts fs (blk els j (prN fs)) (blk tgt j (prN ts))).flatten ((tgt.drop ((j + 1) * prN ts)).flatten ++ L2) → AreaAt w' b T L1 (padJ ts fs els tgt (j + 1)).flatten L2 := by
  have hblk : ∀ i, i < j + 1 → (blk els i (prN fs)).length = prN fs := by
    intro i hi
    have h1 : (i + 1) * prN fs ≤ (j + 1) * prN fs := Nat.mul_le_mul_right _ hi
    exact blk_len (by omega)
  have hblt : ∀ i, i < j + 1 → (blk tgt i (prN ts)).length = prN ts := by
    intro i hi
    have h1 : (i + 1) * prN ts ≤ t * prN ts := Nat.mul_le_mul_right _ (by omega)
    exact blk_len (by omega)
  have hD : Units 1 ((List.range j).map fun i => padT ts fs (blk els i (prN fs)) (blk tgt i (prN ts))).flatten := by
    intro e hm
    obtain ⟨l, hl', hx⟩ := List.mem_flatten.1 hm
    obtain ⟨i, -, rfl⟩ := List.mem_map.1 hl'
    rcases padT_mem ts fs _ _ e hx with h1 | h1
    · exact htg e (blk_mem h1)
    · exact hu e (blk_mem h1)
  have hDl := flatten_len j (prN ts) (fun i => padT ts fs (blk els i (prN fs)) (blk tgt i (prN ts))) (fun i hi => padT_len ts fs _ _ hl ht hf (hblk i (by omega)) (hblt i (by omega)))
  have hsp : tgt.drop (j * prN ts) = blk tgt j (prN ts) ++ tgt.drop ((j + 1) * prN ts) := by
    rw [blk, Nat.succ_mul, ← List.drop_drop, List.take_append_drop]
  refine ⟨(((List.range j).map fun i => padT ts fs (blk els i (prN fs)) (blk tgt i (prN ts))).flatten).flatten, by rw [hD.len, hDl], ?_, ?_⟩
  · intro h
    unfold padJ at h
    rw [hsp, List.flatten_append, List.flatten_append] at h
    unfold AreaAt at h ⊢
    simpa only [List.append_assoc] using h
  · intro w' h
    unfold padJ
    rw [flatten_succ, List.flatten_append, List.flatten_append]
    unfold AreaAt at h ⊢
    simpa only [List.append_assoc] using h
set_option maxRecDepth 100000 in
set_option maxHeartbeats 4000000 in
theorem placeI_grid {w : World} {tn fn : Nat} {ts fs : List Int} {T : TypeId} {els tgt : List (List Value)} {L1 L2 : List Value} {b N pc tc ec fc : Nat} {pa ta ea fa : Option Addr} (h : PlI w (tn :: ts) (fn :: fs) T els tgt L1 L2 b N pc tc ec fc pa ta ea fa) (h0 : N ≠ 0) (hm0 : els.length ≠ 0) (h1 : 1 ≤ ts.length) (hl : fs.length = ts.length)
    (ih : ∀ W {els' tgt' L1' L2' st tc' ec' fc' pa' ta' ea' fa'}, PlI W ts fs T els' tgt' L1' L2' b st st tc' ec' fc' pa' ta' ea' fa' → Calls Try.prog 68 #[.slice pa' st st, .slice ta' ts.length tc', .slice ea' els'.length ec', .slice fa' fs.length fc'] W (PlIPost W ts fs T els' tgt' L1' L2' b)) :
    Calls Try.prog 68 #[.slice pa N pc, .slice ta (ts.length + 1) tc, .slice ea els.length ec, .slice fa (fs.length + 1) fc] w (PlIPost w (tn :: ts) (fn :: fs) T els tgt L1 L2 b) := by
  obtain ⟨nt, -, -, -, hN6⟩ := h.ntl
  have nf := h.nf
  have hfit := h.fit h0
  rw [leadS_full (by simp [hl])] at hfit
  have hNs : N = tn * prN ts := by rw [h.hN, prN_cons nt.head nt.tail]; simp
  have hMs : els.length = fn * prN fs := by rw [h.le, prN_cons nf.head nf.tail]; simp
  have hE : ∀ w' : World, AreaAt w' b T L1 (padJ ts fs els tgt fn).flatten L2 → AreaAt w' b T L1 (padT ((tn : Int) :: ts) (leadS ((fn : Int) :: fs) ((tn : Int) :: ts).length) els tgt).flatten L2 := by
    intro w' ha
    rw [leadS_full (by simp [hl]), padJ_end _ _ _ _ _ _ nf.head hfit.1 (by
      rcases Nat.eq_zero_or_pos (prN fs) with e | e
      · rw [e] at hMs; omega
      · exact e) (by rw [h.hg, hNs]; simp)]
    simpa using ha
  obtain ⟨st, hst⟩ : ∃ st, prN ts = st := ⟨_, rfl⟩
  obtain ⟨rw', hrw⟩ : ∃ r, prN fs = r := ⟨_, rfl⟩
  rw [hst] at hNs
  rw [hrw] at hMs
  have ht0 : tn ≠ 0 := by intro e; subst e; simp at hNs; exact h0 hNs
  have hs0 : st ≠ 0 := by intro e; subst e; simp at hNs; exact h0 hNs
  have hf0 : fn ≠ 0 := by intro e; subst e; simp at hMs; exact hm0 (by rw [hMs]; rfl)
  have hr0 : rw' ≠ 0 := by intro e; subst e; simp at hMs; exact hm0 (by rw [hMs]; rfl)
  have hsN : st ≤ N := by rw [hNs]; exact Nat.le_mul_of_pos_left _ (by omega)
  have htN : tn ≤ N := by rw [hNs]; exact Nat.le_mul_of_pos_right _ (by omega)
  have hft : fn ≤ tn := by have := hfit.1; omega
  have hrM : rw' ≤ els.length := by rw [hMs]; exact Nat.le_mul_of_pos_left _ (by omega)
  have hq := quo_nat hNs ht0
  have hq2 := quo_nat hMs hf0
  obtain ⟨i1, s1, bb, oo, x1, c1, n1⟩ := h.it.from1
  obtain ⟨j1, s2, bf, of', x2, c2, n2⟩ := h.iff.from1
  have hpa := h.hpa h0
  subst hpa
  have HB : ∀ (j : Nat) W, j < fn → Calls Try.prog 37 #[.slice (some ⟨b, L1.length, none⟩) N pc, .int .i64 (j : Int), .int .i64 (st : Int)] W fun e w' => e = .returned (.slice (some ⟨b, L1.length + j * st * 1, none⟩) st st) ∧ W = w' := by
    intro j W hj
    have := blockI (some ⟨b, L1.length, none⟩) N pc j st W h0 h.npc h.cpc (by rw [hNs]; exact Nat.mul_le_mul_right _ (by omega)) (by omega)
    rw [blkA_some hs0] at this
    exact this
  have HC : ∀ (j : Nat) W, j < fn → Calls Try.prog 37 #[.slice ea els.length ec, .int .i64 (j : Int), .int .i64 (rw' : Int)] W fun e w' => e = .returned (.slice (blkA ea j rw' 1) rw' rw') ∧ W = w' := fun j W hj =>
    blockI ea els.length ec j rw' W hm0 h.ele h.cle (by rw [hMs]; exact Nat.mul_le_mul_right _ (by omega)) (by omega)
  have HI : ∀ (j : Nat) (wr W : World), j < fn → But b w wr → W.heap = wr.heap → But b wr W → AreaAt wr b T L1 (padJ ts fs els tgt j).flatten L2 →
      Calls Try.prog 68 #[.slice (some ⟨b, L1.length + j * st * 1, none⟩) st st, .slice (fromAt ta tc 1) ts.length (tc - 1), .slice (blkA ea j rw' 1) rw' rw', .slice (fromAt fa fc 1) fs.length (fc - 1)] W fun e w' => e = .returned (.tuple #[]) ∧ AreaAt w' b T L1 (padJ ts fs els tgt (j + 1)).flatten L2 ∧ But b w w' := by
    intro j wr W hj hbr hW hbW hA
    have hjm : (j + 1) * rw' ≤ els.length := by rw [hMs]; exact Nat.mul_le_mul_right _ (by omega)
    obtain ⟨done, d1, d2, d3⟩ := padJI_step (w := wr) (b := b) (T := T) (L1 := L1) (L2 := L2) (els := els) (tgt := tgt) (t := tn) (ts := ts) (fs := fs) (j := j) h.ht h.hu (by omega) (by rw [h.hg, hst, hNs]) (by rw [hrw]; exact hjm) hl.symm nt.tail nf.tail
    rw [hst] at d1 d2 d3
    rw [hrw] at d3
    have hbl : (blk els j rw').length = rw' := blk_len hjm
    have hbt : (blk tgt j st).length = st := blk_len (by rw [h.hg, hNs]; exact Nat.mul_le_mul_right _ (by omega))
    have hP : PlI wr ts fs T (blk els j rw') (blk tgt j st) (L1 ++ done) ((tgt.drop ((j + 1) * st)).flatten ++ L2) b st st (tc - 1) rw' (fc - 1) (some ⟨b, L1.length + j * st * 1, none⟩) (fromAt ta tc 1) (blkA ea j rw' 1) (fromAt fa fc 1) := by
      refine ⟨right_drop (k := 1) h.rt, nf.tail, by omega, fun _ => by rw [leadS_full (by omega)]; exact hfit.2, by rw [hbl, hrw], (fun x hx => h.ht x (blk_mem hx)), hbt, (fun x hx => h.hu x (blk_mem hx)), hst.symm, Nat.le_refl _, by omega, fun _ => by rw [List.length_append, d1], by rw [hbl]; exact Nat.le_refl _, by have := h.ele; have := h.cle; omega, (h.src.blk h.hu j rw' hr0).but hbr, d2 hA, i1.but hbr, j1.but hbr⟩
    have := ih W (hP.heap hW)
    rw [hbl] at this
    refine this.mono ?_
    rintro e w3 ⟨he, hA3, hB3⟩
    rw [leadS_full (by omega)] at hA3
    exact ⟨he, d3 w3 hA3, (hbr.trans hbW).trans hB3⟩
  have hA0 : AreaAt w b T L1 (padJ ts fs els tgt 0).flatten L2 := by
    have := h.area
    unfold padJ
    simpa using this
  have KX1 : ∀ wr, But b w wr → wr.cell? ⟨bf, of', none⟩ = some (.int .i64 (fn : Int)) := fun wr hb => hb.cell n2 c2
  have g2 := h.npc
  have g3 := h.cpc
  have g4 := h.ele
  have g5 := h.cle
  have e1 : ((N : Int) == 0) = false := by simpa using h0
  have e2 : ((els.length : Int) == 0) = false := by simpa using hm0
  have e3 : ¬ ((ts.length + 1 : Nat) : Int) ≤ 1 := by omega
  have e4 : ¬ ((fs.length + 1 : Nat) : Int) < ((ts.length + 1 : Nat) : Int) := by omega
  have e5 : ((tn : Int) == 0) = false := by simpa using ht0
  have e6 : ((fn : Int) == 0) = false := by simpa using hf0
  have hQ : ∀ w', AreaAt w' b T L1 (padJ ts fs els tgt fn).flatten L2 ∧ But b w w' → PlIPost w ((tn : Int) :: ts) ((fn : Int) :: fs) T els tgt L1 L2 b (.returned (.tuple #[])) w' := fun w' ⟨k1, k2⟩ => ⟨rfl, hE w' k1, k2⟩
  generalize PlIPost w ((tn : Int) :: ts) ((fn : Int) :: fs) T els tgt L1 L2 b = Q at hQ ⊢
  obtain ⟨AR, hAR⟩ : ∃ AR : Nat → World → Prop, ∀ j w', AR j w' ↔ (AreaAt w' b T L1 (padJ ts fs els tgt j).flatten L2 ∧ But b w w') := ⟨fun j w' => _, fun j w' => Iff.rfl⟩
  have HI' : ∀ (j : Nat) (wr W : World), j < fn → AR j wr → W.heap = wr.heap → But b wr W → Calls Try.prog 68 #[.slice (some ⟨b, L1.length + j * st * 1, none⟩) st st, .slice (fromAt ta tc 1) ts.length (tc - 1), .slice (blkA ea j rw' 1) rw' rw', .slice (fromAt fa fc 1) fs.length (fc - 1)] W fun e w' => e = .returned (.tuple #[]) ∧ AR (j + 1) w' := by
    intro j wr W hj hR hW hbW
    obtain ⟨r1, r2⟩ := (hAR _ _).1 hR
    exact (HI j wr W hj r2 hW hbW r1).mono fun e w' ⟨he, ha, hb⟩ => ⟨he, (hAR _ _).2 ⟨ha, hb⟩⟩
  have hA0' : AR 0 w := (hAR _ _).2 ⟨hA0, But.refl _ _⟩
  have hQ' : ∀ w', AR fn w' → Q (.returned (.tuple #[])) w' := fun w' hr => hQ w' ((hAR _ _).1 hr)
  clear ih h hfit hm0 i1 j1 hNs hMs hst hrw nt nf hl h1 HI hA0 hQ hAR hE
  generalize els.length = M at *
  generalize fs.length = KF' at *
  generalize ts.length = K' at *
  generalize hK : K' + 1 = K at *
  generalize hKF : KF' + 1 = KF at *
  clear hK hKF
  go_enter Try.func68, Try.ntmps68
  go_wp2_with fail
  go_loopw [53] (fun i wr => ∃ j : Nat, j ≤ fn ∧ i = .int .i64 j ∧ AR j wr) (fun i _ => fn - (intOf i).toNat)
  case atStart => exact ⟨0, Nat.zero_le _, rfl, hA0'⟩
  case round =>
    obtain ⟨j, hj, rfl, hR⟩ := hrel
    by_cases hlt : j < fn
    · have HBj := fun W => HB j W hlt
      have HCj := fun W => HC j W hlt
      have HI1 := HI' j wr wr hlt hR rfl (But.refl _ _)
      have HI2 := HI' j wr wr.drew hlt hR rfl But.drew
      clear HB HC HI' hR
      generalize L1.length + j * st * 1 = oj at HBj HI1 HI2
      generalize blkA ea j rw' 1 = AE at HCj HI1 HI2
      go_wp2_with fail
      go_region_held3 (fun _ => True)
        (exact trivial)
        ((first
        | (go_at_call 37; (first | (with_reducible refine (HBj _).mono ?_) | (with_reducible refine (HCj _).mono ?_)); rintro e w1 ⟨rfl, rfl⟩)
        | (go_at_call 68; (first | (with_reducible refine HI1.mono ?_) | (with_reducible refine HI2.mono ?_)); rintro e w3 ⟨rfl, hpost⟩)))
      all_goals go_wp2_with fail
      all_goals refine ⟨⟨j + 1, by omega, by go_num, hpost⟩, ?_⟩
      all_goals (simp [intOf]; omega)
    · obtain rfl : j = fn := by omega
      go_wp2_with fail
      go_end0
      exact hQ' _ hR
theorem placeI_all (n : Nat) : ∀ (w : World) (ts fs : List Int) (T : TypeId) (els tgt : List (List Value)) (L1 L2 : List Value) (b N pc tc ec fc : Nat) (pa ta ea fa : Option Addr), ts.length ≤ n → PlI w ts fs T els tgt L1 L2 b N pc tc ec fc pa ta ea fa →
    Calls Try.prog 68 #[.slice pa N pc, .slice ta ts.length tc, .slice ea els.length ec, .slice fa fs.length fc] w (PlIPost w ts fs T els tgt L1 L2 b) := by
  induction n with
  | zero =>
    intro w ts fs T els tgt L1 L2 b N pc tc ec fc pa ta ea fa hn h
    by_cases h0 : N = 0 ∨ els.length = 0
    · exact placeI_none h h0
    · exact placeI_small h (by omega) (by omega) (by omega)
  | succ n ih =>
    intro w ts fs T els tgt L1 L2 b N pc tc ec fc pa ta ea fa hn h
    by_cases h0 : N = 0 ∨ els.length = 0
    · exact placeI_none h h0
    · by_cases h1 : ts.length ≤ 1
      · exact placeI_small h (by omega) (by omega) h1
      · obtain ⟨nt, -⟩ := h.ntl
        cases ts with
        | nil => simp at h1
        | cons t ts =>
          have ht := nt.head
          obtain ⟨tn, rfl⟩ : ∃ tn : Nat, t = tn := ⟨t.toNat, by omega⟩
          simp only [List.length_cons] at hn h1
          by_cases hlf : fs.length ≤ ts.length
          · exact placeI_lead h (by omega) (by omega) (by omega) hlf (fun W _ {tgt' L2' st tc' ta'} hP => ih W ts fs T els tgt' L1 L2' b st st tc' ec fc _ ta' ea fa (by omega) hP)
          · cases fs with
            | nil => simp at hlf
            | cons f fs =>
              have hf := h.nf.head
              obtain ⟨fn, rfl⟩ : ∃ fn : Nat, f = fn := ⟨f.toNat, by omega⟩
              have hlf' := h.lf
              simp only [List.length_cons] at hlf hlf'
              exact placeI_grid h (by omega) (by omega) (by omega) (by omega) (fun W {els' tgt' L1' L2' st tc' ec' fc' pa' ta' ea' fa'} hP => ih W ts fs T els' tgt' L1' L2' b st st tc' ec' fc' pa' ta' ea' fa' (by omega) hP)
theorem placeI (w : World) (ts fs : List Int) (T : TypeId) (els tgt : List (List Value)) (L1 L2 : List Value) (b N pc tc ec fc : Nat) (pa ta ea fa : Option Addr) (h : PlI w ts fs T els tgt L1 L2 b N pc tc ec fc pa ta ea fa) :
    Calls Try.prog 68 #[.slice pa N pc, .slice ta ts.length tc, .slice ea els.length ec, .slice fa fs.length fc] w (PlIPost w ts fs T els tgt L1 L2 b) := placeI_all ts.length w ts fs T els tgt L1 L2 b N pc tc ec fc pa ta ea fa (Nat.le_refl _) h
end Go.Proofs.Ytkjbccodahleoaa.Shape

namespace Go.Proofs.Ytkjbccodahleoaa.Shape
open Go.RowKit
set_option linter.unusedVariables false

/-- What place is handed. -/
structure PlA (w : World) (ts fs : List Int) (T : TypeId) (els tgt : List (List Value)) (L1 L2 : List Value) (b N pc tc ec fc : Nat) (pa ta ea fa : Option Addr) : Prop where
  rt : rightB ts = true
  nf : NN fs
  lf : fs.length ≤ ts.length
  fit : N ≠ 0 → fits ts (leadS fs ts.length)
  le : els.length = prN fs
  ht : Units 4 tgt
  hg : tgt.length = N
  hu : Units 4 els
  hN : N = prN ts
  npc : N ≤ pc
  cpc : pc ≤ 9223372036854775807
  hpa : N ≠ 0 → pa = some ⟨b, L1.length, none⟩
  ele : els.length ≤ ec
  cle : ec ≤ 9223372036854775807
  src : ElsAt w b ea els.flatten
  area : AreaAt w b T L1 tgt.flatten L2
  it : IntsOn (fun g => g ≠ b) w ta tc ts
  iff : IntsOn (fun g => g ≠ b) w fa fc fs
/-- What it leaves. -/
def PlAPost (w : World) (ts fs : List Int) (T : TypeId) (els tgt : List (List Value)) (L1 L2 : List Value) (b : Nat) (e : Ending) (w' : World) : Prop :=
  e = .returned (.tuple #[]) ∧ AreaAt w' b T L1 (padT ts (leadS fs ts.length) els tgt).flatten L2 ∧ But b w w'
theorem PlA.ntl {w : World} {ts fs : List Int} {T : TypeId} {els tgt : List (List Value)} {L1 L2 : List Value} {b N pc tc ec fc : Nat} {pa ta ea fa : Option Addr} (h : PlA w ts fs T els tgt L1 L2 b N pc tc ec fc pa ta ea fa) : NN ts ∧ (leadS fs ts.length).length = ts.length ∧ NN (leadS fs ts.length) ∧ els.length = prN (leadS fs ts.length) ∧ N ≤ 65536 :=
  ⟨(right_def.1 h.rt).2.1, leadS_len h.lf, leadS_NN h.nf, by rw [leadS_prN h.nf]; exact h.le, by
    have := (part_bd (a := ts) (b := []) (by rw [List.append_nil]; exact h.rt)).2.1
    have := h.hN
    unfold prN at this; omega⟩
set_option maxHeartbeats 1000000 in
theorem placeA_none {w : World} {ts fs : List Int} {T : TypeId} {els tgt : List (List Value)} {L1 L2 : List Value} {b N pc tc ec fc : Nat} {pa ta ea fa : Option Addr} (h : PlA w ts fs T els tgt L1 L2 b N pc tc ec fc pa ta ea fa) (h0 : N = 0 ∨ els.length = 0) :
    Calls Try.prog 69 #[.slice pa N pc, .slice ta ts.length tc, .slice ea els.length ec, .slice fa fs.length fc] w (PlAPost w ts fs T els tgt L1 L2 b) := by
  obtain ⟨nt, hl, nl, hle, -⟩ := h.ntl
  have e : padT ts (leadS fs ts.length) els tgt = tgt := by
    rcases h0 with h0 | h0
    · have := padT_len ts (leadS fs ts.length) els tgt hl.symm nt nl hle (by rw [h.hg, h.hN])
      rw [← h.hN, h0] at this
      have h9 := h.hg
      rw [h0] at h9
      rw [List.eq_nil_of_length_eq_zero this, List.eq_nil_of_length_eq_zero h9]
    · exact padT_none _ _ _ _ hl.symm nt nl (by rw [h.hg, h.hN]) (by omega)
  have hpost : PlAPost w ts fs T els tgt L1 L2 b (.returned (.tuple #[])) w := ⟨rfl, by rw [e]; exact h.area, But.refl _ _⟩
  have c1 := h.npc
  have c2 := h.ele
  clear h e nt hl nl hle
  by_cases hn : N = 0
  · have e1 : ((N : Int) == 0) = true := by simpa using hn
    go_enter Try.func69, Try.ntmps69
    go_wp2_with fail
    go_end0
    exact hpost
  · have hm : els.length = 0 := h0.resolve_left hn
    have e1 : ((N : Int) == 0) = false := by simpa using hn
    have e2 : ((els.length : Int) == 0) = true := by simp [hm]
    generalize els.length = M at e2 c2 ⊢
    clear hm h0
    go_enter Try.func69, Try.ntmps69
    go_wp2_with fail
    go_end0
    exact hpost
set_option maxHeartbeats 1000000 in
theorem placeA_small {w : World} {ts fs : List Int} {T : TypeId} {els tgt : List (List Value)} {L1 L2 : List Value} {b N pc tc ec fc : Nat} {pa ta ea fa : Option Addr} (h : PlA w ts fs T els tgt L1 L2 b N pc tc ec fc pa ta ea fa) (h0 : N ≠ 0) (hm0 : els.length ≠ 0) (h1 : ts.length ≤ 1) :
    Calls Try.prog 69 #[.slice pa N pc, .slice ta ts.length tc, .slice ea els.length ec, .slice fa fs.length fc] w (PlAPost w ts fs T els tgt L1 L2 b) := by
  obtain ⟨nt, hl, nl, hle, -⟩ := h.ntl
  have e := padT_small ts fs els tgt h1 h.lf nt h.nf (h.fit h0) h.le (by rw [h.hg, h.hN])
  have hMN : els.length ≤ N := by
    have h2 := padT_len ts (leadS fs ts.length) els tgt hl.symm nt nl hle (by rw [h.hg, h.hN])
    rw [e, List.length_append, ← h.hN] at h2
    omega
  obtain ⟨W, hcp, hA, hB⟩ := area_copy (P := Try.prog) w 24 24 26 T b N pc els.length ec 4 L1 L2 els tgt ea Try.underlying24 sizeArr4 h.ht h.hg h.hu (by decide) rfl hm0 hMN h.area h.src
  have hpost : PlAPost w ts fs T els tgt L1 L2 b (.returned (.tuple #[])) W := ⟨rfl, by rw [e]; exact hA, hB⟩
  have hpa := h.hpa h0
  subst hpa
  have c1 := h.npc
  have c2 := h.ele
  have c3 := h.cpc
  have c4 := h.cle
  have e1 : ((N : Int) == 0) = false := by simpa using h0
  have e2 : ((els.length : Int) == 0) = false := by simpa using hm0
  have e3 : (ts.length : Int) ≤ 1 := by omega
  clear h e nt hl nl hle hA hB h0 hm0 h1
  generalize els.length = M at *
  generalize ts.length = K at *
  go_enter Try.func69, Try.ntmps69
  go_wp2_with fail
  go_end0
  exact hpost
theorem PlA.heap {w W : World} {ts fs : List Int} {T : TypeId} {els tgt : List (List Value)} {L1 L2 : List Value} {b N pc tc ec fc : Nat} {pa ta ea fa : Option Addr} (h : PlA w ts fs T els tgt L1 L2 b N pc tc ec fc pa ta ea fa) (hW : W.heap = w.heap) : PlA W ts fs T els tgt L1 L2 b N pc tc ec fc pa ta ea fa := by
  have hc : ∀ g o, W.cell? ⟨g, o, none⟩ = w.cell? ⟨g, o, none⟩ := fun g o => World.cell?_of_block (by rw [hW])
  refine ⟨h.rt, h.nf, h.lf, h.fit, h.le, h.ht, h.hg, h.hu, h.hN, h.npc, h.cpc, h.hpa, h.ele, h.cle, ?_, ?_, h.it.keep fun g hg _ => ⟨hg, fun o => hc g o⟩, h.iff.keep fun g hg _ => ⟨hg, fun o => hc g o⟩⟩
  · intro hne
    obtain ⟨be, oe, ha, hn, hs⟩ := h.src hne
    exact ⟨be, oe, ha, hn, fun j v hj => (hc _ _).trans (hs j v hj)⟩
  · have := h.area
    unfold AreaAt at this ⊢
    rw [hW]; exact this
set_option maxRecDepth 100000 in
set_option maxHeartbeats 4000000 in
theorem placeA_lead {w : World} {tn : Nat} {ts fs : List Int} {T : TypeId} {els tgt : List (List Value)} {L1 L2 : List Value} {b N pc tc ec fc : Nat} {pa ta ea fa : Option Addr} (h : PlA w (tn :: ts) fs T els tgt L1 L2 b N pc tc ec fc pa ta ea fa) (h0 : N ≠ 0) (hm0 : els.length ≠ 0) (h1 : 1 ≤ ts.length) (hl : fs.length ≤ ts.length)
    (ih : ∀ W, W.heap = w.heap → ∀ {tgt' L2' st tc' ta'}, PlA W ts fs T els tgt' L1 L2' b st st tc' ec fc (some ⟨b, L1.length, none⟩) ta' ea fa → Calls Try.prog 69 #[.slice (some ⟨b, L1.length, none⟩) st st, .slice ta' ts.length tc', .slice ea els.length ec, .slice fa fs.length fc] W (PlAPost W ts fs T els tgt' L1 L2' b)) :
    Calls Try.prog 69 #[.slice pa N pc, .slice ta (ts.length + 1) tc, .slice ea els.length ec, .slice fa fs.length fc] w (PlAPost w (tn :: ts) fs T els tgt L1 L2 b) := by
  obtain ⟨nt, -, -, -, hN6⟩ := h.ntl
  have hls := leadS_step (s := fs) (n := ts.length) (by omega)
  have hfit := h.fit h0
  rw [List.length_cons, hls] at hfit
  have hNs : N = tn * prN ts := by rw [h.hN, prN_cons nt.head nt.tail]; simp
  obtain ⟨st, hst⟩ : ∃ st, prN ts = st := ⟨_, rfl⟩
  rw [hst] at hNs
  have ht0 : tn ≠ 0 := by intro e; subst e; simp at hNs; exact h0 hNs
  have hs0 : st ≠ 0 := by intro e; subst e; simp at hNs; exact h0 hNs
  have hsN : st ≤ N := by rw [hNs]; exact Nat.le_mul_of_pos_left _ (by omega)
  have hq := quo_nat hNs ht0
  obtain ⟨i1, s1, bb, oo, x1, c1, -⟩ := h.it.from1
  have hpa := h.hpa h0
  subst hpa
  have HB : ∀ W, Calls Try.prog 38 #[.slice (some ⟨b, L1.length, none⟩) N pc, .int .i64 0, .int .i64 (st : Int)] W fun e w' => e = .returned (.slice (some ⟨b, L1.length, none⟩) st st) ∧ W = w' := by
    intro W
    have := blockA (some ⟨b, L1.length, none⟩) N pc 0 st W h0 h.npc h.cpc (by omega) (by omega)
    rw [blkA_some hs0, Nat.zero_mul, Nat.zero_mul, Nat.add_zero] at this
    exact this
  have HI : ∀ W, W.heap = w.heap → But b w W → Calls Try.prog 69 #[.slice (some ⟨b, L1.length, none⟩) st st, .slice (fromAt ta tc 1) ts.length (tc - 1), .slice ea els.length ec, .slice fa fs.length fc] W (PlAPost w (tn :: ts) fs T els tgt L1 L2 b) := by
    intro W hW hbW
    have hP : PlA w ts fs T els (tgt.take st) L1 ((tgt.drop st).flatten ++ L2) b st st (tc - 1) ec fc (some ⟨b, L1.length, none⟩) (fromAt ta tc 1) ea fa := by
      refine ⟨?_, h.nf, hl, fun _ => hfit.2, h.le, (fun x hx => h.ht x (List.mem_of_mem_take hx)), by rw [List.length_take, h.hg]; omega, h.hu, hst.symm, Nat.le_refl _, by omega, fun _ => rfl, h.ele, h.cle, h.src, ?_, i1, h.iff⟩
      · have := right_drop (k := 1) h.rt
        exact this
      · have := h.area
        rw [← List.take_append_drop st tgt, List.flatten_append] at this
        unfold AreaAt at this ⊢
        simpa only [List.append_assoc] using this
    refine (ih W hW (hP.heap hW)).mono ?_
    rintro e w3 ⟨he, hA, hB⟩
    refine ⟨he, ?_, hbW.trans hB⟩
    rw [List.length_cons, hls, padT_lead _ _ _ _ _ (by omega) (by rw [leadS_prN h.nf]; exact h.le) (by rw [leadS_prN h.nf, ← h.le]; omega) (by rw [h.hg, hst, hNs]; simp), List.flatten_append, hst]
    unfold AreaAt at hA ⊢
    simpa only [List.append_assoc, Int.toNat_natCast] using hA
  have HI1 := HI w rfl (But.refl _ _)
  have HI2 := HI w.drew rfl But.drew
  have c2 := h.npc
  have c3 := h.cpc
  have c4 := h.ele
  have c5 := h.cle
  have e1 : ((N : Int) == 0) = false := by simpa using h0
  have e2 : ((els.length : Int) == 0) = false := by simpa using hm0
  have e3 : ¬ ((ts.length + 1 : Nat) : Int) ≤ 1 := by omega
  have e4 : (fs.length : Int) < ((ts.length + 1 : Nat) : Int) := by omega
  have e5 : ((tn : Int) == 0) = false := by simpa using ht0
  clear ih h hls hfit hm0 i1 hNs hst nt hl h1 HI
  generalize els.length = M at *
  generalize fs.length = KF at *
  generalize ts.length = K' at *
  generalize hK : K' + 1 = K at *
  clear hK
  go_enter Try.func69, Try.ntmps69
  go_wp2_with fail
  go_region_held3 (fun _ => True)
    (exact trivial)
    ((first
    | (go_at_call 38; (with_reducible refine (HB _).mono ?_); rintro e w1 ⟨rfl, rfl⟩)
    | (go_at_call 69; (first | (with_reducible refine HI1.mono ?_) | (with_reducible refine HI2.mono ?_)); rintro e w3 ⟨rfl, hpost⟩)))
  all_goals go_wp2_with fail
  all_goals go_end0
  all_goals exact ⟨rfl, hpost⟩
theorem padJA_step {w : World} {b : Nat} {T : TypeId} {L1 L2 : List Value} {els tgt : List (List Value)} {t : Nat} {ts fs : List Int} {j : Nat} (htg : Units 4 tgt) (hu : Units 4 els) (hj : j < t) (hg : tgt.length = t * prN ts) (he : (j + 1) * prN fs ≤ els.length) (hl : ts.length = fs.length) (ht : NN ts) (hf : NN fs) :
    ∃ done : List Value, done.length = j * prN ts * 4 ∧
      (AreaAt w b T L1 (padJ ts fs els tgt j).flatten L2 → AreaAt w b T (L1 ++ done) (blk tgt j (prN ts)).flatten ((tgt.drop ((j + 1) * prN ts)).flatten ++ L2)) ∧
      ∀ w' : World, AreaAt w' b T (L1 ++ done) (padT ts fs (blk els j (prN fs)) (blk tgt j (prN ts))).flatten ((tgt.drop ((j + 1) * prN ts)).flatten ++ L2) → AreaAt w' b T L1 (padJ ts fs els tgt (j + 1)).flatten L2 := by
  have hblk : ∀ i, i < j + 1 → (blk els i (prN fs)).length = prN fs := by
    intro i hi
    have h1 : (i + 1) * prN fs ≤ (j + 1) * prN fs := Nat.mul_le_mul_right _ hi
    exact blk_len (by omega)
  have hblt : ∀ i, i < j + 1 → (blk tgt i (prN ts)).length = prN ts := by
    intro i hi
    have h1 : (i + 1) * prN ts ≤ t * prN ts := Nat.mul_le_mul_right _ (by omega)
    exact blk_len (by omega)
  have hD : Units 4 ((List.range j).map fun i => padT ts fs (blk els i (prN fs)) (blk tgt i (prN ts))).flatten := by
    intro e hm
    obtain ⟨l, hl', hx⟩ := List.mem_flatten.1 hm
    obtain ⟨i, -, rfl⟩ := List.mem_map.1 hl'
    rcases padT_mem ts fs _ _ e hx with h1 | h1
    · exact htg e (blk_mem h1)
    · exact hu e (blk_mem h1)
  have hDl := flatten_len j (prN ts) (fun i => padT ts fs (blk els i (prN fs)) (blk tgt i (prN ts))) (fun i hi => padT_len ts fs _ _ hl ht hf (hblk i (by omega)) (hblt i (by omega)))
  have hsp : tgt.drop (j * prN ts) = blk tgt j (prN ts) ++ tgt.drop ((j + 1) * prN ts) := by
    rw [blk, Nat.succ_mul, ← List.drop_drop, List.take_append_drop]
  refine ⟨(((List.range j).map fun i => padT ts fs (blk els i (prN fs)) (blk tgt i (prN ts))).flatten).flatten, by rw [hD.len, hDl], ?_, ?_⟩
  · intro h
    unfold padJ at h
    rw [hsp, List.flatten_append, List.flatten_append] at h
    unfold AreaAt at h ⊢
    simpa only [List.append_assoc] using h
  · intro w' h
    unfold padJ
    rw [flatten_succ, List.flatten_append, List.flatten_append]
    unfold AreaAt at h ⊢
    simpa only [List.append_assoc] using h
set_option maxRecDepth 100000 in
set_option maxHeartbeats 4000000 in
theorem placeA_grid {w : World} {tn fn : Nat} {ts fs : List Int} {T : TypeId} {els tgt : List (List Value)} {L1 L2 : List Value} {b N pc tc ec fc : Nat} {pa ta ea fa : Option Addr} (h : PlA w (tn :: ts) (fn :: fs) T els tgt L1 L2 b N pc tc ec fc pa ta ea fa) (h0 : N ≠ 0) (hm0 : els.length ≠ 0) (h1 : 1 ≤ ts.length) (hl : fs.length = ts.length)
    (ih : ∀ W {els' tgt' L1' L2' st tc' ec' fc' pa' ta' ea' fa'}, PlA W ts fs T els' tgt' L1' L2' b st st tc' ec' fc' pa' ta' ea' fa' → Calls Try.prog 69 #[.slice pa' st st, .slice ta' ts.length tc', .slice ea' els'.length ec', .slice fa' fs.length fc'] W (PlAPost W ts fs T els' tgt' L1' L2' b)) :
    Calls Try.prog 69 #[.slice pa N pc, .slice ta (ts.length + 1) tc, .slice ea els.length ec, .slice fa (fs.length + 1) fc] w (PlAPost w (tn :: ts) (fn :: fs) T els tgt L1 L2 b) := by
  obtain ⟨nt, -, -, -, hN6⟩ := h.ntl
  have nf := h.nf
  have hfit := h.fit h0
  rw [leadS_full (by simp [hl])] at hfit
  have hNs : N = tn * prN ts := by rw [h.hN, prN_cons nt.head nt.tail]; simp
  have hMs : els.length = fn * prN fs := by rw [h.le, prN_cons nf.head nf.tail]; simp
  have hE : ∀ w' : World, AreaAt w' b T L1 (padJ ts fs els tgt fn).flatten L2 → AreaAt w' b T L1 (padT ((tn : Int) :: ts) (leadS ((fn : Int) :: fs) ((tn : Int) :: ts).length) els tgt).flatten L2 := by
    intro w' ha
    rw [leadS_full (by simp [hl]), padJ_end _ _ _ _ _ _ nf.head hfit.1 (by
      rcases Nat.eq_zero_or_pos (prN fs) with e | e
      · rw [e] at hMs; omega
      · exact e) (by rw [h.hg, hNs]; simp)]
    simpa using ha
  obtain ⟨st, hst⟩ : ∃ st, prN ts = st := ⟨_, rfl⟩
  obtain ⟨rw', hrw⟩ : ∃ r, prN fs = r := ⟨_, rfl⟩
  rw [hst] at hNs
  rw [hrw] at hMs
  have ht0 : tn ≠ 0 := by intro e; subst e; simp at hNs; exact h0 hNs
  have hs0 : st ≠ 0 := by intro e; subst e; simp at hNs; exact h0 hNs
  have hf0 : fn ≠ 0 := by intro e; subst e; simp at hMs; exact hm0 (by rw [hMs]; rfl)
  have hr0 : rw' ≠ 0 := by intro e; subst e; simp at hMs; exact hm0 (by rw [hMs]; rfl)
  have hsN : st ≤ N := by rw [hNs]; exact Nat.le_mul_of_pos_left _ (by omega)
  have htN : tn ≤ N := by rw [hNs]; exact Nat.le_mul_of_pos_right _ (by omega)
  have hft : fn ≤ tn := by have := hfit.1; omega
  have hrM : rw' ≤ els.length := by rw [hMs]; exact Nat.le_mul_of_pos_left _ (by omega)
  have hq := quo_nat hNs ht0
  have hq2 := quo_nat hMs hf0
  obtain ⟨i1, s1, bb, oo, x1, c1, n1⟩ := h.it.from1
  obtain ⟨j1, s2, bf, of', x2, c2, n2⟩ := h.iff.from1
  have hpa := h.hpa h0
  subst hpa
  have HB : ∀ (j : Nat) W, j < fn → Calls Try.prog 38 #[.slice (some ⟨b, L1.length, none⟩) N pc, .int .i64 (j : Int), .int .i64 (st : Int)] W fun e w' => e = .returned (.slice (some ⟨b, L1.length + j * st * 4, none⟩) st st) ∧ W = w' := by
    intro j W hj
    have := blockA (some ⟨b, L1.length, none⟩) N pc j st W h0 h.npc h.cpc (by rw [hNs]; exact Nat.mul_le_mul_right _ (by omega)) (by omega)
    rw [blkA_some hs0] at this
    exact this
  have HC : ∀ (j : Nat) W, j < fn → Calls Try.prog 38 #[.slice ea els.length ec, .int .i64 (j : Int), .int .i64 (rw' : Int)] W fun e w' => e = .returned (.slice (blkA ea j rw' 4) rw' rw') ∧ W = w' := fun j W hj =>
    blockA ea els.length ec j rw' W hm0 h.ele h.cle (by rw [hMs]; exact Nat.mul_le_mul_right _ (by omega)) (by omega)
  have HI : ∀ (j : Nat) (wr W : World), j < fn → But b w wr → W.heap = wr.heap → But b wr W → AreaAt wr b T L1 (padJ ts fs els tgt j).flatten L2 →
      Calls Try.prog 69 #[.slice (some ⟨b, L1.length + j * st * 4, none⟩) st st, .slice (fromAt ta tc 1) ts.length (tc - 1), .slice (blkA ea j rw' 4) rw' rw', .slice (fromAt fa fc 1) fs.length (fc - 1)] W fun e w' => e = .returned (.tuple #[]) ∧ AreaAt w' b T L1 (padJ ts fs els tgt (j + 1)).flatten L2 ∧ But b w w' := by
    intro j wr W hj hbr hW hbW hA
    have hjm : (j + 1) * rw' ≤ els.length := by rw [hMs]; exact Nat.mul_le_mul_right _ (by omega)
    obtain ⟨done, d1, d2, d3⟩ := padJA_step (w := wr) (b := b) (T := T) (L1 := L1) (L2 := L2) (els := els) (tgt := tgt) (t := tn) (ts := ts) (fs := fs) (j := j) h.ht h.hu (by omega) (by rw [h.hg, hst, hNs]) (by rw [hrw]; exact hjm) hl.symm nt.tail nf.tail
    rw [hst] at d1 d2 d3
    rw [hrw] at d3
    have hbl : (blk els j rw').length = rw' := blk_len hjm
    have hbt : (blk tgt j st).length = st := blk_len (by rw [h.hg, hNs]; exact Nat.mul_le_mul_right _ (by omega))
    have hP : PlA wr ts fs T (blk els j rw') (blk tgt j st) (L1 ++ done) ((tgt.drop ((j + 1) * st)).flatten ++ L2) b st st (tc - 1) rw' (fc - 1) (some ⟨b, L1.length + j * st * 4, none⟩) (fromAt ta tc 1) (blkA ea j rw' 4) (fromAt fa fc 1) := by
      refine ⟨right_drop (k := 1) h.rt, nf.tail, by omega, fun _ => by rw [leadS_full (by omega)]; exact hfit.2, by rw [hbl, hrw], (fun x hx => h.ht x (blk_mem hx)), hbt, (fun x hx => h.hu x (blk_mem hx)), hst.symm, Nat.le_refl _, by omega, fun _ => by rw [List.length_append, d1], by rw [hbl]; exact Nat.le_refl _, by have := h.ele; have := h.cle; omega, (h.src.blk h.hu j rw' hr0).but hbr, d2 hA, i1.but hbr, j1.but hbr⟩
    have := ih W (hP.heap hW)
    rw [hbl] at this
    refine this.mono ?_
    rintro e w3 ⟨he, hA3, hB3⟩
    rw [leadS_full (by omega)] at hA3
    exact ⟨he, d3 w3 hA3, (hbr.trans hbW).trans hB3⟩
  have hA0 : AreaAt w b T L1 (padJ ts fs els tgt 0).flatten L2 := by
    have := h.area
    unfold padJ
    simpa using this
  have KX1 : ∀ wr, But b w wr → wr.cell? ⟨bf, of', none⟩ = some (.int .i64 (fn : Int)) := fun wr hb => hb.cell n2 c2
  have g2 := h.npc
  have g3 := h.cpc
  have g4 := h.ele
  have g5 := h.cle
  have e1 : ((N : Int) == 0) = false := by simpa using h0
  have e2 : ((els.length : Int) == 0) = false := by simpa using hm0
  have e3 : ¬ ((ts.length + 1 : Nat) : Int) ≤ 1 := by omega
  have e4 : ¬ ((fs.length + 1 : Nat) : Int) < ((ts.length + 1 : Nat) : Int) := by omega
  have e5 : ((tn : Int) == 0) = false := by simpa using ht0
  have e6 : ((fn : Int) == 0) = false := by simpa using hf0
  have hQ : ∀ w', AreaAt w' b T L1 (padJ ts fs els tgt fn).flatten L2 ∧ But b w w' → PlAPost w ((tn : Int) :: ts) ((fn : Int) :: fs) T els tgt L1 L2 b (.returned (.tuple #[])) w' := fun w' ⟨k1, k2⟩ => ⟨rfl, hE w' k1, k2⟩
  generalize PlAPost w ((tn : Int) :: ts) ((fn : Int) :: fs) T els tgt L1 L2 b = Q at hQ ⊢
  obtain ⟨AR, hAR⟩ : ∃ AR : Nat → World → Prop, ∀ j w', AR j w' ↔ (AreaAt w' b T L1 (padJ ts fs els tgt j).flatten L2 ∧ But b w w') := ⟨fun j w' => _, fun j w' => Iff.rfl⟩
  have HI' : ∀ (j : Nat) (wr W : World), j < fn → AR j wr → W.heap = wr.heap → But b wr W → Calls Try.prog 69 #[.slice (some ⟨b, L1.length + j * st * 4, none⟩) st st, .slice (fromAt ta tc 1) ts.length (tc - 1), .slice (blkA ea j rw' 4) rw' rw', .slice (fromAt fa fc 1) fs.length (fc - 1)] W fun e w' => e = .returned (.tuple #[]) ∧ AR (j + 1) w' := by
    intro j wr W hj hR hW hbW
    obtain ⟨r1, r2⟩ := (hAR _ _).1 hR
    exact (HI j wr W hj r2 hW hbW r1).mono fun e w' ⟨he, ha, hb⟩ => ⟨he, (hAR _ _).2 ⟨ha, hb⟩⟩
  have hA0' : AR 0 w := (hAR _ _).2 ⟨hA0, But.refl _ _⟩
  have hQ' : ∀ w', AR fn w' → Q (.returned (.tuple #[])) w' := fun w' hr => hQ w' ((hAR _ _).1 hr)
  clear ih h hfit hm0 i1 j1 hNs hMs hst hrw nt nf hl h1 HI hA0 hQ hAR hE
  generalize els.length = M at *
  generalize fs.length = KF' at *
  generalize ts.length = K' at *
  generalize hK : K' + 1 = K at *
  generalize hKF : KF' + 1 = KF at *
  clear hK hKF
  go_enter Try.func69, Try.ntmps69
  go_wp2_with fail
  go_loopw [53] (fun i wr => ∃ j : Nat, j ≤ fn ∧ i = .int .i64 j ∧ AR j wr) (fun i _ => fn - (intOf i).toNat)
  case atStart => exact ⟨0, Nat.zero_le _, rfl, hA0'⟩
  case round =>
    obtain ⟨j, hj, rfl, hR⟩ := hrel
    by_cases hlt : j < fn
    · have HBj := fun W => HB j W hlt
      have HCj := fun W => HC j W hlt
      have HI1 := HI' j wr wr hlt hR rfl (But.refl _ _)
      have HI2 := HI' j wr wr.drew hlt hR rfl But.drew
      clear HB HC HI' hR
      generalize L1.length + j * st * 4 = oj at HBj HI1 HI2
      generalize blkA ea j rw' 4 = AE at HCj HI1 HI2
      go_wp2_with fail
      go_region_held3 (fun _ => True)
        (exact trivial)
        ((first
        | (go_at_call 38; (first | (with_reducible refine (HBj _).mono ?_) | (with_reducible refine (HCj _).mono ?_)); rintro e w1 ⟨rfl, rfl⟩)
        | (go_at_call 69; (first | (with_reducible refine HI1.mono ?_) | (with_reducible refine HI2.mono ?_)); rintro e w3 ⟨rfl, hpost⟩)))
      all_goals go_wp2_with fail
      all_goals refine ⟨⟨j + 1, by omega, by go_num, hpost⟩, ?_⟩
      all_goals (simp [intOf]; omega)
    · obtain rfl : j = fn := by omega
      go_wp2_with fail
      go_end0
      exact hQ' _ hR
theorem placeA_all (n : Nat) : ∀ (w : World) (ts fs : List Int) (T : TypeId) (els tgt : List (List Value)) (L1 L2 : List Value) (b N pc tc ec fc : Nat) (pa ta ea fa : Option Addr), ts.length ≤ n → PlA w ts fs T els tgt L1 L2 b N pc tc ec fc pa ta ea fa →
    Calls Try.prog 69 #[.slice pa N pc, .slice ta ts.length tc, .slice ea els.length ec, .slice fa fs.length fc] w (PlAPost w ts fs T els tgt L1 L2 b) := by
  induction n with
  | zero =>
    intro w ts fs T els tgt L1 L2 b N pc tc ec fc pa ta ea fa hn h
    by_cases h0 : N = 0 ∨ els.length = 0
    · exact placeA_none h h0
    · exact placeA_small h (by omega) (by omega) (by omega)
  | succ n ih =>
    intro w ts fs T els tgt L1 L2 b N pc tc ec fc pa ta ea fa hn h
    by_cases h0 : N = 0 ∨ els.length = 0
    · exact placeA_none h h0
    · by_cases h1 : ts.length ≤ 1
      · exact placeA_small h (by omega) (by omega) h1
      · obtain ⟨nt, -⟩ := h.ntl
        cases ts with
        | nil => simp at h1
        | cons t ts =>
          have ht := nt.head
          obtain ⟨tn, rfl⟩ : ∃ tn : Nat, t = tn := ⟨t.toNat, by omega⟩
          simp only [List.length_cons] at hn h1
          by_cases hlf : fs.length ≤ ts.length
          · exact placeA_lead h (by omega) (by omega) (by omega) hlf (fun W _ {tgt' L2' st tc' ta'} hP => ih W ts fs T els tgt' L1 L2' b st st tc' ec fc _ ta' ea fa (by omega) hP)
          · cases fs with
            | nil => simp at hlf
            | cons f fs =>
              have hf := h.nf.head
              obtain ⟨fn, rfl⟩ : ∃ fn : Nat, f = fn := ⟨f.toNat, by omega⟩
              have hlf' := h.lf
              simp only [List.length_cons] at hlf hlf'
              exact placeA_grid h (by omega) (by omega) (by omega) (by omega) (fun W {els' tgt' L1' L2' st tc' ec' fc' pa' ta' ea' fa'} hP => ih W ts fs T els' tgt' L1' L2' b st st tc' ec' fc' pa' ta' ea' fa' (by omega) hP)
theorem placeA (w : World) (ts fs : List Int) (T : TypeId) (els tgt : List (List Value)) (L1 L2 : List Value) (b N pc tc ec fc : Nat) (pa ta ea fa : Option Addr) (h : PlA w ts fs T els tgt L1 L2 b N pc tc ec fc pa ta ea fa) :
    Calls Try.prog 69 #[.slice pa N pc, .slice ta ts.length tc, .slice ea els.length ec, .slice fa fs.length fc] w (PlAPost w ts fs T els tgt L1 L2 b) := placeA_all ts.length w ts fs T els tgt L1 L2 b N pc tc ec fc pa ta ea fa (Nat.le_refl _) h
end Go.Proofs.Ytkjbccodahleoaa.Shape
