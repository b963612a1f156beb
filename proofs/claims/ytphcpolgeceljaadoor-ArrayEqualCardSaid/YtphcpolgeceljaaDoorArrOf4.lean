/-
  Layer 3: the reference's Of: items. (Written by wip/gen/array-of.py.)
-/
import Derived.Test.YtphcpolgeceljaaDoorArrOf3
namespace Go.Proofs.YtphcpolgeceljaaDoor.Shape
open Go.RowKit

/-- What Of returns for boxes: an array, or an error of too much weight. -/
def OfBox (sh : List Int) (gi : List Arr) (w : World) (e : Ending) (w' : World) : Prop :=
  if pr sh + sumW (cyc gi zeroA (pr sh).toNat) ≤ 262144 then GiveNewE (.mk 3 sh [] (cyc gi zeroA (pr sh).toNat)) 0 w e w' else GiveNewE zeroA 21 w e w'
theorem OfBox.yes {sh : List Int} {gi : List Arr} {w w' : World} {e : Ending} (h : Hid (pr sh + sumW (cyc gi zeroA (pr sh).toNat) ≤ 262144)) (g : GiveNewE (.mk 3 sh [] (cyc gi zeroA (pr sh).toNat)) 0 w e w') : OfBox sh gi w e w' := by
  unfold OfBox; rw [if_pos h.out]; exact g
theorem OfBox.no {sh : List Int} {gi : List Arr} {w w' : World} {e : Ending} (h : Hid (262144 < pr sh + sumW (cyc gi zeroA (pr sh).toNat))) (g : GiveNewE zeroA 21 w e w') : OfBox sh gi w e w' := by
  unfold OfBox; rw [if_neg (by have := h.out; omega)]; exact g
/-- A boxed scalar. -/
theorem box_form {A : Arr} {w w' : World} {e : Ending} (h : GiveNew (.mk 3 [] [] [A]) w e w') : ∃ ea el ecc eo lo co eb ef ec c0 c1 c2 c3, e = .returned (.agg #[.int .i64 3, .slice ea el ecc, .slice eo lo co, .slice (some ⟨eb, ef, none⟩) 1 ec]) ∧
    (w'.cell? ⟨eb, ef, none⟩ = some c0 ∧ w'.cell? ⟨eb, ef + 1, none⟩ = some c1 ∧ w'.cell? ⟨eb, ef + 2, none⟩ = some c2 ∧ w'.cell? ⟨eb, ef + 3, none⟩ = some c3) ∧ (∀ u ∈ [c0, c1, c2, c3], Value.oneCell' u = true) ∧ ArrOn (fun g => w.heap.size ≤ g) w' (.agg #[c0, c1, c2, c3]) A ∧ Below w.heap.size w w' := by
  obtain ⟨c0, c1, c2, c3, rfl, _, hO, hb⟩ := h
  rw [ArrOn] at hO
  obtain ⟨sa, sc, na, nc, ia, ic, hv, -, -, -, -, -, b, off, ha, hc⟩ := hO
  have e := (ha (by simp)).1
  subst e
  rw [ArrsOn] at hc
  obtain ⟨⟨d0, d1, d2, d3, hd, hA⟩, -⟩ := hc
  have hA' := hA
  obtain ⟨k, sh, nu, it⟩ := A
  rw [ArrOn] at hA
  obtain ⟨_, _, _, _, _, _, hv2, -⟩ := hA
  simp only [Value.agg.injEq, Array.mk.injEq, List.cons.injEq, and_true] at hv2
  obtain ⟨rfl, rfl, rfl, rfl⟩ := hv2
  refine ⟨sa, _, sc, na, _, nc, b, off, ic, _, _, _, _, by rw [hv]; rfl, hd, ?_, hA', hb⟩
  intro u hu
  simp only [List.mem_cons, List.not_mem_nil, or_false] at hu
  rcases hu with rfl | rfl | rfl | rfl <;> rfl
theorem of_quads {W0 wr w1 w2 : World} {bx n g cap : Nat} {k : Int} {sh : List Int} {c2 c3 v d0 d1 d2 d3 x0 x1 x2 x3 : Value} {qs : List Value} {l : List Arr} {A : Arr} (h : OInv W0 wr bx k sh c2 c3 v 26 4 n qs) (b1 : Below wr.heap.size wr w1) (P : Put1 w1 w2 (bx + 1) 26 4 n v qs [x0, x1, x2, x3] g cap)
    (hq : Quads (Far W0 bx v) wr qs l) (hX : ArrOn (fun g => wr.heap.size ≤ g) w1 (.agg #[x0, x1, x2, x3]) A) :
    Quads (Far W0 bx (.slice (some ⟨g, 0, none⟩) (n + 1) cap)) ((((w2.setCell ⟨bx, 0, none⟩ d0).setCell ⟨bx, 1, none⟩ d1).setCell ⟨bx, 2, none⟩ d2).setCell ⟨bx, 3, none⟩ d3) (qs ++ [x0, x1, x2, x3]) (l ++ [A]) := by
  obtain ⟨k1, k2⟩ := of_kept (d0 := d0) (d1 := d1) (d2 := d2) (d3 := d3) h b1 P
  exact (hq.keep k1).snoc (hX.keep k2)
theorem of_box_out {W0 wr : World} {bx n B : Nat} {sh : List Int} {a2 : Value} {qs : List Value} {l : List Arr} {a1 va : Option Addr} {c1 vl vc : Nat} (h : OInv W0 wr bx 3 sh a2 (.slice va vl vc) (.slice va vl vc) 26 4 n qs) (hq : Quads (Far W0 bx (.slice va vl vc)) wr qs l) (hl : l.length = n) (hB : B < W0.heap.size)
    (i1 : IntsOn (Far W0 bx (.slice va vl vc)) wr a1 c1 sh) :
    ArrOn (fun g => B < g) wr (.agg #[.int .i64 3, .slice a1 sh.length c1, .slice none 0 0, .slice va vl vc]) (.mk 3 sh [] l) := by
  subst hl
  have own := h.own
  have hbx := h.bxl
  have keepF : ∀ b, Far W0 bx (.slice va vl vc) b → b < wr.heap.size → B < b ∧ ∀ o, wr.cell? ⟨b, o, none⟩ = wr.cell? ⟨b, o, none⟩ := fun b hF _ => ⟨by have := hF.1; omega, fun _ => rfl⟩
  rw [ArrOn]
  have own' := own
  rcases own'.2 with ⟨hv, h0⟩ | ⟨g, cap, cur, hv, hg, hh, hnc, hcm, hcs, htake⟩
  · have hl : l = [] := List.eq_nil_of_length_eq_zero h0
    subst hl
    rw [hv]
    exact ⟨a1, c1, none, 0, none, 0, rfl, by decide, i1.keep keepF, ⟨ints_nil wr, fun g => absurd rfl g⟩, Nat.le_refl _, by decide, 0, 0, fun g => absurd rfl g, by rw [ArrsOn]; trivial⟩
  · rw [hv] at own ⊢
    refine ⟨a1, c1, none, 0, some ⟨g, 0, none⟩, cap, rfl, by decide, i1.keep keepF, ⟨ints_nil wr, fun g => absurd rfl g⟩, hnc, by unfold maxLen at hcm; omega, g, 0, fun _ => ⟨rfl, by omega⟩, ?_⟩
    refine (hq.keep keepF).arrs fun i hi => ?_
    rw [Nat.zero_add, own.cellAt i (by rw [own.1] at hi; exact hi)]
    simp [hi]
theorem cyc_take {α : Type} (l : List α) (z : α) (m : Nat) : ∀ n, m ≤ n → (cyc l z n).take m = cyc l z m := by
  intro n hn
  rw [cyc, cyc, ← List.map_take, List.take_range, Nat.min_eq_left hn]
theorem sumW_cyc (l : List Arr) (z : Arr) (m n : Nat) (h : m ≤ n) : sumW (cyc l z m) ≤ sumW (cyc l z n) := by
  rw [← cyc_take l z m n h]; exact sumW_take _ _

set_option maxRecDepth 100000 in
set_option maxHeartbeats 16000000 in
theorem ofR_box (a : Option Addr) (cap : Nat) (sh : List Int) (v : Value) (gs gn : List Int) (gi : List Arr) (w : World) (g : IntsAt w a cap sh) (h : ArrAt w v (.mk 3 gs gn gi)) (hE : rightE (.mk 3 gs gn gi) = 0) (hD : dimsE sh = 0) (hn0 : 0 < gi.length) (hR : ReachL gi) (hr : rightB sh = true) :
    Calls Tryd.prog 42 #[.slice a sh.length cap, v] w (OfBox sh gi w) := by
  have hA := h
  rw [ArrAt] at h
  obtain ⟨sa, sc, na, nc, ia, ic, rfl, hkb, hs, hn, h1, h2, b, off, ha, hc⟩ := h
  have bw := below_two w (.cells #[.int .i64 3, .slice sa gs.length sc, .slice na gn.length nc, .slice ia gi.length ic] 26) (.cells #[.int .i64 0, .slice none 0 0, .slice none 0 0, .slice none 0 0] 26)
  have q1 := (Quad.new w (.int .i64 3) (.slice sa gs.length sc) (.slice na gn.length nc) (.slice ia gi.length ic)).below (below_new _ (.cells #[.int .i64 0, .slice none 0 0, .slice none 0 0, .slice none 0 0] 26))
  have q2 : Quad ((w.alloc (.cells #[.int .i64 3, .slice sa gs.length sc, .slice na gn.length nc, .slice ia gi.length ic] 26)).alloc (.cells #[.int .i64 0, .slice none 0 0, .slice none 0 0, .slice none 0 0] 26)) (w.heap.size + 1) (.int .i64 0) (.slice none 0 0) (.slice none 0 0) (.slice none 0 0) := by
    simpa using Quad.new (w.alloc (.cells #[.int .i64 3, .slice sa gs.length sc, .slice na gn.length nc, .slice ia gi.length ic] 26)) (.int .i64 0) (.slice none 0 0) (.slice none 0 0) (.slice none 0 0)
  have R := fun v' w' (g : ArrAt w' v' (.mk 3 gs gn gi)) => rightR3 v' _ w' g
  rw [hE] at R
  have D := fun w' (g : IntsAt w' a cap sh) => dimsR a cap sh w' g
  rw [hD] at D
  have HA1 := hA.below bw
  have HG1 := g.below bw
  have HW2 : Hid (Below w.heap.size w ((w.alloc (.cells #[.int .i64 3, .slice sa gs.length sc, .slice na gn.length nc, .slice ia gi.length ic] 26)).alloc (.cells #[.int .i64 0, .slice none 0 0, .slice none 0 0, .slice none 0 0] 26))) := bw
  have r1 : sh.length * 8 ≤ 140737488351232 := by have := (right_def.1 hr).1; omega
  have S := fun v' w' (g : ArrAt w' v' (.mk 3 gs gn gi)) => sizeR v' _ w' g
  rw [show aSize (.mk 3 gs gn gi) = gi.length by simp [aSize, Arr.kind, Arr.items]] at S
  have hgl : gi.length ≤ 9223372036854775807 := Nat.le_trans h1 h2
  have esz : ((gi.length : Int) == 0) = false := by rw [beq_eq_false_iff_ne]; omega
  clear hE hD hs hn h1 h2 ha hc bw
  go_enter Tryd.func42, Tryd.ntmps42
  go_wp2_with (first
    | (go_at_call 14; refine (R _ _ HA1).mono ?_; rintro e w1 ⟨rfl, hb1⟩; (obtain ⟨p0, p1, p2, p3, -⟩ := (q1.below hb1).cells))
    | (go_at_call 39; refine (D _ (HG1.below hb1)).mono ?_; rintro e w2 ⟨rfl, rfl⟩)
    | (go_at_call 16; refine (S _ _ (HA1.below hb1)).mono ?_; rintro e w3' ⟨rfl, hb3⟩))
  have bw3 : Below w.heap.size w w3' := Below.then (Below.then HW2.out hb1) hb3
  have q1' := (q1.below hb1).below hb3
  have q2' := (q2.below hb1).below hb3
  have HA3 := (HA1.below hb1).below hb3
  have HG3 := (HG1.below hb1).below hb3
  clear q1 q2 HA1 HG1 HW2 R D hb1 hb3 p0 p1 p2 p3 esz
  obtain ⟨b3, off3, ha3, hc3⟩ : ∃ b3 off3, (gi ≠ [] → ia = some ⟨b3, off3, none⟩) ∧ ArrsAt w3' b3 off3 gi := by
    have h := HA3
    rw [ArrAt] at h
    obtain ⟨_, _, _, _, xa, xc, hv, -, -, -, -, -, b3, off3, hx, hy⟩ := h
    simp only [Value.agg.injEq, Array.mk.injEq, List.cons.injEq, Value.slice.injEq, and_true] at hv
    obtain ⟨-, -, -, rfl, -⟩ := hv
    exact ⟨b3, off3, hx, hy⟩
  have hpr := part_bd (a := sh) (b := []) (by rw [List.append_nil]; exact hr)
  have hp0 : 0 ≤ pr sh := hpr.1
  have hp1 : pr sh ≤ 65536 := hpr.2.1
  clear hpr
  obtain ⟨d0, -⟩ := q1'.cells
  have H0 : ∀ w', Below w3'.heap.size w3' w' → w'.cell? ⟨w.heap.size, 0, none⟩ = some (.int .i64 3) ∧ IntsAt w' a cap sh ∧ Below w3'.heap.size w3' w' :=
    fun w' hb => ⟨(hb.cell (cell_lt d0)).trans d0, HG3.below hb, hb⟩
  clear d0
  go_region_held_law (fun w' => w'.cell? ⟨w.heap.size, 0, none⟩ = some (.int .i64 3) ∧ IntsAt w' a cap sh ∧ Below w3'.heap.size w3' w')
    (first
      | exact H0 _ (Below.refl _ _).drew
      | exact H0 _ e1
      | exact H0 _ (Below.alloc e1 e1.size _)
      | exact H0 _ (Below.alloc (Below.refl _ _).drew (Nat.le_refl _) _)
      | exact H0 _ (Below.setCell (Below.setCell (Below.setCell (Below.setCell e1 (by first | exact Nat.le_refl _ | assumption | omega) _) (by first | exact Nat.le_refl _ | assumption | omega) _) (by first | exact Nat.le_refl _ | assumption | omega) _) (by first | exact Nat.le_refl _ | assumption | omega) _))
    (((refine step_append_ints rfl _ _ rfl rfl _ _ _ sh rfl rfl (by go_split_ands; assumption) r1 ?_)
      intro a1 c1 w1 i1 b1
      (have e1 : Below w3'.heap.size w3' w1 := by go_split_ands; exact Below.then (by assumption) b1)
      (have l1 := e1.size)
      (first
      | (have q := Quad.below b1 (Quad.new _ _ _ _ _); obtain ⟨m0, m1, m2, m3, m4, m5, m6, m7⟩ := q.cells)
      | skip)))
  rotate_left 1
  · have I0 := (of_start2 (W0 := w3'.drew) (k := 3) (sh := sh) (e := 26) (size := 4) b1 i1 q).undrew
    dsimp only [World.drew] at I0
    generalize ((((w1.setCell ⟨w3'.heap.size, 0, none⟩ (.int .i64 3)).setCell ⟨w3'.heap.size, 1, none⟩ (.slice a1 sh.length c1)).setCell ⟨w3'.heap.size, 2, none⟩ (.slice none 0 0)).setCell ⟨w3'.heap.size, 3, none⟩ (.slice none 0 0)) = W at I0 ⊢
    obtain ⟨bx, hbx0⟩ : ∃ bx, bx = w3'.heap.size := ⟨_, rfl⟩
    rw [← hbx0] at I0 ⊢
    clear hbx0 i1 b1 e1 l1 H0 q m0 m1 m2 m3 m4 m5 m6 m7
    go_wp2_with (go_at_call 40; refine (countR a cap sh _ (HG3.below I0.bel) hr).mono ?_; rintro e w4 ⟨rfl, rfl⟩)
    go_loopw [9, 10] (fun wg ix wr => ∃ (i : Nat) (va : Option Addr) (vl vc : Nat) (qs : List Value) (T : Int), (i : Int) ≤ pr sh ∧ wg = .int .i64 T ∧ T ≤ 262144 ∧ Hid (T = pr sh + sumW (cyc gi zeroA i)) ∧ ix = .int .i64 i ∧ OInv w3' wr bx 3 sh (.slice none 0 0) (.slice va vl vc) (.slice va vl vc) 26 4 i qs ∧ Quads (Far w3' bx (.slice va vl vc)) wr qs (cyc gi zeroA i)) (fun _ ix _ => (pr sh - intOf ix).toNat)
    case atStart => exact ⟨0, none, 0, 0, [], pr sh, by omega, rfl, by omega, by unfold Hid; simp [cyc, sumW], rfl, I0, by rw [show cyc gi zeroA 0 = [] from rfl, Quads]; trivial⟩
    case round =>
      obtain ⟨i, va, vl, vc, qs, T, hi, rfl, hT, HT, rfl, hI, hQs⟩ := hrel
      obtain ⟨bel, bxl, own, a1, c1, blk, i1⟩ := id hI
      obtain ⟨p0, p1, p2, p3, -⟩ := (q1'.below bel).cells
      obtain ⟨f0, f1, f2, f3, -⟩ := blk.cells
      have T0 : 0 ≤ T := by rw [HT.out]; have := sumW_nn (cyc gi zeroA i); omega
      by_cases hlt : (i : Int) < pr sh
      · have hj : i % gi.length < gi.length := Nat.mod_lt _ hn0
        have q0 : Int.tmod (i : Int) (gi.length : Int) = ((i % gi.length : Nat) : Int) := by rw [Int.tmod_eq_emod_of_nonneg (by omega)]; rfl
        have hne : (gi.length : Int) ≠ 0 := by omega
        have hwm : IntKind.i64.wrap ((i % gi.length : Nat) : Int) = ((i % gi.length : Nat) : Int) := IntWalk.i64_in _ (by omega)
        have CS : Hid (cyc gi zeroA (i + 1) = cyc gi zeroA i ++ [gi[i % gi.length]]) := by unfold Hid; rw [cyc_succ]; simp [hj]
        have hib : i ≤ 65536 := by omega
        generalize i % gi.length = j at q0 hwm hj CS
        have hix := items_at (ic := ic) rfl ha3 hj
        obtain ⟨y0, y1, y2, y3, ⟨g0, g1, g2, g3⟩, hB⟩ := (ArrsAt.below bel hc3).at hj
        have hw0 := wt_nn gi[j]
        have hw1 := wt_le gi[j]
        have WT := fun v' w' (g : ArrAt w' v' gi[j]) => weightR v' _ w' g
        obtain ⟨U, hU⟩ : ∃ U, wt gi[j] = U := ⟨_, rfl⟩
        rw [hU] at hw0 hw1 WT
        have HU : Hid (T + U = pr sh + sumW (cyc gi zeroA (i + 1))) := by unfold Hid; rw [CS.out, sumW_append, sumW, sumW, hU, HT.out]; omega
        clear hU
        have hbx := blk.lt
        by_cases hbig : T + U ≤ 262144
        · go_wp2_with (first
            | (go_at_call 16; refine (S _ _ (HA3.below bel)).mono ?_; rintro e w4 ⟨rfl, b4⟩; (obtain ⟨p10, p11, p12, p13, -⟩ := ((q1'.below bel).below b4).cells); (have g10 := (b4.cell (cell_lt g0)).trans g0); (have g11 := (b4.cell (cell_lt g1)).trans g1); (have g12 := (b4.cell (cell_lt g2)).trans g2); (have g13 := (b4.cell (cell_lt g3)).trans g3); (obtain ⟨f10, f11, f12, f13, -⟩ := (blk.below b4).cells))
            | (go_at_call 18; refine (WT _ _ (hB.below b4)).mono ?_; rintro e w7 ⟨rfl, b7⟩; (obtain ⟨p20, p21, p22, p23, -⟩ := (((q1'.below bel).below b4).below b7).cells); (obtain ⟨f40, f41, f42, f43, -⟩ := ((blk.below b4).below b7).cells)))
          have b47 := Below.then b4 b7
          go_region_law ((first
            | (go_simp; refine (atR_box _ gs gn gi j _ ((HA3.below bel).below (Below.trans b47 (Below.refl _ _).drew)) hR hj).mono ?_; intro e w5 hN; (obtain ⟨ea, el, ecc, eo, lo, co, eb, ef, ec, x0, x1, x2, x3, rfl, hx, hone, hX, b5⟩ := box_form hN); (have b45 : Below wr.heap.size wr w5 := Below.then b47 (Below.trans (Below.refl _ _).drew b5)); (obtain ⟨f20, f21, f22, f23, -⟩ := (blk.below b45).cells))
            | (go_simp; refine (putR_box a1 _ c1 none 0 0 va vl vc 3 ea el ecc eo lo co eb ef ec x0 x1 x2 x3 hone w5 (bx + 1) i _ (by have := b45.size; omega) (by omega) (own_below own b45) hx).mono ?_; rintro e w6 ⟨gg, cap6, rfl, P6⟩; (obtain ⟨f30, f31, f32, f33, f34, f35, f36, f37⟩ := (of_mid hI b45 P6 blk).cells))))
          all_goals go_wp2_with fail
          all_goals go_roundw
          all_goals first
            | exact ⟨i + 1, _, _, _, _, T + U, by omega, rfl, hbig, HU, by go_num, of_step hI b45 P6 blk i1, by rw [CS.out]; exact of_quads hI b45 P6 hQs (hX.mono (R := fun g => wr.heap.size ≤ g) fun g hg => by have := b47.size; have : w7.drew.heap.size = w7.heap.size := rfl; omega)⟩
            | (simp [intOf]; omega)
        · have q5 := q2'.below bel
          have HF : Hid (262144 < pr sh + sumW (cyc gi zeroA (pr sh).toNat)) := by
            unfold Hid
            have h1 := HU.out
            have h2 := sumW_cyc gi zeroA (i + 1) (pr sh).toNat (by omega)
            omega
          clear HT HU CS
          go_wp2_with (first
            | (go_at_call 16; refine (S _ _ (HA3.below bel)).mono ?_; rintro e w4 ⟨rfl, b4⟩; (obtain ⟨p10, p11, p12, p13, -⟩ := ((q1'.below bel).below b4).cells); (have g10 := (b4.cell (cell_lt g0)).trans g0); (have g11 := (b4.cell (cell_lt g1)).trans g1); (have g12 := (b4.cell (cell_lt g2)).trans g2); (have g13 := (b4.cell (cell_lt g3)).trans g3))
            | (go_at_call 18; refine (WT _ _ (hB.below b4)).mono ?_; rintro e w7 ⟨rfl, b7⟩; (obtain ⟨s0, s1, s2, s3, s4, s5, s6, s7⟩ := ((q5.below b4).below b7).cells)))
          have q7 := (q5.below b4).below b7
          have G := give_set4 (Nat.le_succ w.heap.size) q7 (zero_on _ _) ((bw3.trans (bel.mono bw3.size)).trans ((Below.then b4 b7).mono (bw3.trans (bel.mono bw3.size)).size))
          obtain ⟨QW, -⟩ := set4 q7 (.int .i64 0) (.slice none 0 0) (.slice none 0 0) (.slice none 0 0)
          generalize ((((w7.setCell ⟨w.heap.size + 1, 0, none⟩ (.int .i64 0)).setCell ⟨w.heap.size + 1, 1, none⟩ (.slice none 0 0)).setCell ⟨w.heap.size + 1, 2, none⟩ (.slice none 0 0)).setCell ⟨w.heap.size + 1, 3, none⟩ (.slice none 0 0)) = WW at QW G ⊢
          obtain ⟨z0, z1, z2, z3, -⟩ := QW.cells
          exact bodyPost_ret (v := .tuple #[.agg #[.int .i64 0, .slice none 0 0, .slice none 0 0, .slice none 0 0], .int .i64 21]) (by simp [results, Tryd.results42, go_sem, z0, z1, z2, z3]) rfl (OfBox.no HF (GiveNewE.mk G))
      · obtain ⟨n, hn⟩ : ∃ n : Nat, pr sh = n := ⟨(pr sh).toNat, by omega⟩
        obtain rfl : i = n := by omega
        have HC : Hid ((pr sh).toNat = i) := by unfold Hid; omega
        have HF : Hid (pr sh + sumW (cyc gi zeroA (pr sh).toNat) ≤ 262144) := by unfold Hid; rw [HC.out, ← HT.out]; exact hT
        have q5 := q2'.below bel
        obtain ⟨s0, s1, s2, s3, s4, s5, s6, s7⟩ := q5.cells
        have hl3 := q2'.lt
        have hOut : ArrOn (fun g => w.heap.size + 1 < g) wr (.agg #[.int .i64 3, .slice a1 sh.length c1, .slice none 0 0, .slice va vl vc]) (.mk 3 sh [] (cyc gi zeroA i)) := of_box_out hI hQs (cyc_len gi zeroA i) hl3 i1
        clear hn HT
        go_wp2_with fail
        have G := give_set4 (Nat.le_succ w.heap.size) q5 hOut (bw3.trans (bel.mono bw3.size))
        obtain ⟨QW, -⟩ := set4 q5 (.int .i64 3) (.slice a1 sh.length c1) (.slice none 0 0) (.slice va vl vc)
        generalize ((((wr.setCell ⟨w.heap.size + 1, 0, none⟩ (.int .i64 3)).setCell ⟨w.heap.size + 1, 1, none⟩ (.slice a1 sh.length c1)).setCell ⟨w.heap.size + 1, 2, none⟩ (.slice none 0 0)).setCell ⟨w.heap.size + 1, 3, none⟩ (.slice va vl vc)) = WW at QW G ⊢
        obtain ⟨z0, z1, z2, z3, -⟩ := QW.cells
        exact bodyPost_ret (v := .tuple #[.agg #[.int .i64 3, .slice a1 sh.length c1, .slice none 0 0, .slice va vl vc], .int .i64 0]) (by simp [results, Tryd.results42, go_sem, z0, z1, z2, z3]) rfl (OfBox.yes HF (by rw [HC.out]; exact GiveNewE.mk G))
  · have I0 := of_start1 (W0 := w3') (k := 3) (sh := sh) (e := 26) (size := 4) i1 e1
    generalize (w1.alloc (.cells #[.int .i64 3, .slice a1 sh.length c1, .slice none 0 0, .slice none 0 0] 26)) = W at I0 ⊢
    generalize w1.heap.size = bx at I0 ⊢
    clear i1 b1 e1 l1 H0
    go_wp2_with (go_at_call 40; refine (countR a cap sh _ (HG3.below I0.bel) hr).mono ?_; rintro e w4 ⟨rfl, rfl⟩)
    go_loopw [9, 10] (fun wg ix wr => ∃ (i : Nat) (va : Option Addr) (vl vc : Nat) (qs : List Value) (T : Int), (i : Int) ≤ pr sh ∧ wg = .int .i64 T ∧ T ≤ 262144 ∧ Hid (T = pr sh + sumW (cyc gi zeroA i)) ∧ ix = .int .i64 i ∧ OInv w3' wr bx 3 sh (.slice none 0 0) (.slice va vl vc) (.slice va vl vc) 26 4 i qs ∧ Quads (Far w3' bx (.slice va vl vc)) wr qs (cyc gi zeroA i)) (fun _ ix _ => (pr sh - intOf ix).toNat)
    case atStart => exact ⟨0, none, 0, 0, [], pr sh, by omega, rfl, by omega, by unfold Hid; simp [cyc, sumW], rfl, I0, by rw [show cyc gi zeroA 0 = [] from rfl, Quads]; trivial⟩
    case round =>
      obtain ⟨i, va, vl, vc, qs, T, hi, rfl, hT, HT, rfl, hI, hQs⟩ := hrel
      obtain ⟨bel, bxl, own, a1, c1, blk, i1⟩ := id hI
      obtain ⟨p0, p1, p2, p3, -⟩ := (q1'.below bel).cells
      obtain ⟨f0, f1, f2, f3, -⟩ := blk.cells
      have T0 : 0 ≤ T := by rw [HT.out]; have := sumW_nn (cyc gi zeroA i); omega
      by_cases hlt : (i : Int) < pr sh
      · have hj : i % gi.length < gi.length := Nat.mod_lt _ hn0
        have q0 : Int.tmod (i : Int) (gi.length : Int) = ((i % gi.length : Nat) : Int) := by rw [Int.tmod_eq_emod_of_nonneg (by omega)]; rfl
        have hne : (gi.length : Int) ≠ 0 := by omega
        have hwm : IntKind.i64.wrap ((i % gi.length : Nat) : Int) = ((i % gi.length : Nat) : Int) := IntWalk.i64_in _ (by omega)
        have CS : Hid (cyc gi zeroA (i + 1) = cyc gi zeroA i ++ [gi[i % gi.length]]) := by unfold Hid; rw [cyc_succ]; simp [hj]
        have hib : i ≤ 65536 := by omega
        generalize i % gi.length = j at q0 hwm hj CS
        have hix := items_at (ic := ic) rfl ha3 hj
        obtain ⟨y0, y1, y2, y3, ⟨g0, g1, g2, g3⟩, hB⟩ := (ArrsAt.below bel hc3).at hj
        have hw0 := wt_nn gi[j]
        have hw1 := wt_le gi[j]
        have WT := fun v' w' (g : ArrAt w' v' gi[j]) => weightR v' _ w' g
        obtain ⟨U, hU⟩ : ∃ U, wt gi[j] = U := ⟨_, rfl⟩
        rw [hU] at hw0 hw1 WT
        have HU : Hid (T + U = pr sh + sumW (cyc gi zeroA (i + 1))) := by unfold Hid; rw [CS.out, sumW_append, sumW, sumW, hU, HT.out]; omega
        clear hU
        have hbx := blk.lt
        by_cases hbig : T + U ≤ 262144
        · go_wp2_with (first
            | (go_at_call 16; refine (S _ _ (HA3.below bel)).mono ?_; rintro e w4 ⟨rfl, b4⟩; (obtain ⟨p10, p11, p12, p13, -⟩ := ((q1'.below bel).below b4).cells); (have g10 := (b4.cell (cell_lt g0)).trans g0); (have g11 := (b4.cell (cell_lt g1)).trans g1); (have g12 := (b4.cell (cell_lt g2)).trans g2); (have g13 := (b4.cell (cell_lt g3)).trans g3); (obtain ⟨f10, f11, f12, f13, -⟩ := (blk.below b4).cells))
            | (go_at_call 18; refine (WT _ _ (hB.below b4)).mono ?_; rintro e w7 ⟨rfl, b7⟩; (obtain ⟨p20, p21, p22, p23, -⟩ := (((q1'.below bel).below b4).below b7).cells); (obtain ⟨f40, f41, f42, f43, -⟩ := ((blk.below b4).below b7).cells)))
          have b47 := Below.then b4 b7
          go_region_law ((first
            | (go_simp; refine (atR_box _ gs gn gi j _ ((HA3.below bel).below (Below.trans b47 (Below.refl _ _).drew)) hR hj).mono ?_; intro e w5 hN; (obtain ⟨ea, el, ecc, eo, lo, co, eb, ef, ec, x0, x1, x2, x3, rfl, hx, hone, hX, b5⟩ := box_form hN); (have b45 : Below wr.heap.size wr w5 := Below.then b47 (Below.trans (Below.refl _ _).drew b5)); (obtain ⟨f20, f21, f22, f23, -⟩ := (blk.below b45).cells))
            | (go_simp; refine (putR_box a1 _ c1 none 0 0 va vl vc 3 ea el ecc eo lo co eb ef ec x0 x1 x2 x3 hone w5 (bx + 1) i _ (by have := b45.size; omega) (by omega) (own_below own b45) hx).mono ?_; rintro e w6 ⟨gg, cap6, rfl, P6⟩; (obtain ⟨f30, f31, f32, f33, f34, f35, f36, f37⟩ := (of_mid hI b45 P6 blk).cells))))
          all_goals go_wp2_with fail
          all_goals go_roundw
          all_goals first
            | exact ⟨i + 1, _, _, _, _, T + U, by omega, rfl, hbig, HU, by go_num, of_step hI b45 P6 blk i1, by rw [CS.out]; exact of_quads hI b45 P6 hQs (hX.mono (R := fun g => wr.heap.size ≤ g) fun g hg => by have := b47.size; have : w7.drew.heap.size = w7.heap.size := rfl; omega)⟩
            | (simp [intOf]; omega)
        · have q5 := q2'.below bel
          have HF : Hid (262144 < pr sh + sumW (cyc gi zeroA (pr sh).toNat)) := by
            unfold Hid
            have h1 := HU.out
            have h2 := sumW_cyc gi zeroA (i + 1) (pr sh).toNat (by omega)
            omega
          clear HT HU CS
          go_wp2_with (first
            | (go_at_call 16; refine (S _ _ (HA3.below bel)).mono ?_; rintro e w4 ⟨rfl, b4⟩; (obtain ⟨p10, p11, p12, p13, -⟩ := ((q1'.below bel).below b4).cells); (have g10 := (b4.cell (cell_lt g0)).trans g0); (have g11 := (b4.cell (cell_lt g1)).trans g1); (have g12 := (b4.cell (cell_lt g2)).trans g2); (have g13 := (b4.cell (cell_lt g3)).trans g3))
            | (go_at_call 18; refine (WT _ _ (hB.below b4)).mono ?_; rintro e w7 ⟨rfl, b7⟩; (obtain ⟨s0, s1, s2, s3, s4, s5, s6, s7⟩ := ((q5.below b4).below b7).cells)))
          have q7 := (q5.below b4).below b7
          have G := give_set4 (Nat.le_succ w.heap.size) q7 (zero_on _ _) ((bw3.trans (bel.mono bw3.size)).trans ((Below.then b4 b7).mono (bw3.trans (bel.mono bw3.size)).size))
          obtain ⟨QW, -⟩ := set4 q7 (.int .i64 0) (.slice none 0 0) (.slice none 0 0) (.slice none 0 0)
          generalize ((((w7.setCell ⟨w.heap.size + 1, 0, none⟩ (.int .i64 0)).setCell ⟨w.heap.size + 1, 1, none⟩ (.slice none 0 0)).setCell ⟨w.heap.size + 1, 2, none⟩ (.slice none 0 0)).setCell ⟨w.heap.size + 1, 3, none⟩ (.slice none 0 0)) = WW at QW G ⊢
          obtain ⟨z0, z1, z2, z3, -⟩ := QW.cells
          exact bodyPost_ret (v := .tuple #[.agg #[.int .i64 0, .slice none 0 0, .slice none 0 0, .slice none 0 0], .int .i64 21]) (by simp [results, Tryd.results42, go_sem, z0, z1, z2, z3]) rfl (OfBox.no HF (GiveNewE.mk G))
      · obtain ⟨n, hn⟩ : ∃ n : Nat, pr sh = n := ⟨(pr sh).toNat, by omega⟩
        obtain rfl : i = n := by omega
        have HC : Hid ((pr sh).toNat = i) := by unfold Hid; omega
        have HF : Hid (pr sh + sumW (cyc gi zeroA (pr sh).toNat) ≤ 262144) := by unfold Hid; rw [HC.out, ← HT.out]; exact hT
        have q5 := q2'.below bel
        obtain ⟨s0, s1, s2, s3, s4, s5, s6, s7⟩ := q5.cells
        have hl3 := q2'.lt
        have hOut : ArrOn (fun g => w.heap.size + 1 < g) wr (.agg #[.int .i64 3, .slice a1 sh.length c1, .slice none 0 0, .slice va vl vc]) (.mk 3 sh [] (cyc gi zeroA i)) := of_box_out hI hQs (cyc_len gi zeroA i) hl3 i1
        clear hn HT
        go_wp2_with fail
        have G := give_set4 (Nat.le_succ w.heap.size) q5 hOut (bw3.trans (bel.mono bw3.size))
        obtain ⟨QW, -⟩ := set4 q5 (.int .i64 3) (.slice a1 sh.length c1) (.slice none 0 0) (.slice va vl vc)
        generalize ((((wr.setCell ⟨w.heap.size + 1, 0, none⟩ (.int .i64 3)).setCell ⟨w.heap.size + 1, 1, none⟩ (.slice a1 sh.length c1)).setCell ⟨w.heap.size + 1, 2, none⟩ (.slice none 0 0)).setCell ⟨w.heap.size + 1, 3, none⟩ (.slice va vl vc)) = WW at QW G ⊢
        obtain ⟨z0, z1, z2, z3, -⟩ := QW.cells
        exact bodyPost_ret (v := .tuple #[.agg #[.int .i64 3, .slice a1 sh.length c1, .slice none 0 0, .slice va vl vc], .int .i64 0]) (by simp [results, Tryd.results42, go_sem, z0, z1, z2, z3]) rfl (OfBox.yes HF (by rw [HC.out]; exact GiveNewE.mk G))

set_option maxRecDepth 100000 in
set_option maxHeartbeats 16000000 in
theorem ofR_box_fill (a : Option Addr) (cap : Nat) (sh : List Int) (v : Value) (fs fn : List Int) (fi : List Arr) (gs gn : List Int) (gi : List Arr) (hG : fillA 3 = .mk 3 gs gn gi) (hz : aSize (.mk 3 fs fn fi) = 0) (w : World) (g : IntsAt w a cap sh) (h : ArrAt w v (.mk 3 fs fn fi)) (hE : rightE (.mk 3 fs fn fi) = 0) (hD : dimsE sh = 0) (hn0 : 0 < gi.length) (hR : ReachL gi) (hr : rightB sh = true) :
    Calls Tryd.prog 42 #[.slice a sh.length cap, v] w (OfBox sh gi w) := by
  have hA := h
  rw [ArrAt] at h
  obtain ⟨sa, sc, na, nc, ia, ic, rfl, hkb, hs, hn, h1, h2, b, off, ha, hc⟩ := h
  have bw := below_two w (.cells #[.int .i64 3, .slice sa fs.length sc, .slice na fn.length nc, .slice ia fi.length ic] 26) (.cells #[.int .i64 0, .slice none 0 0, .slice none 0 0, .slice none 0 0] 26)
  have q1 := (Quad.new w (.int .i64 3) (.slice sa fs.length sc) (.slice na fn.length nc) (.slice ia fi.length ic)).below (below_new _ (.cells #[.int .i64 0, .slice none 0 0, .slice none 0 0, .slice none 0 0] 26))
  have q2 : Quad ((w.alloc (.cells #[.int .i64 3, .slice sa fs.length sc, .slice na fn.length nc, .slice ia fi.length ic] 26)).alloc (.cells #[.int .i64 0, .slice none 0 0, .slice none 0 0, .slice none 0 0] 26)) (w.heap.size + 1) (.int .i64 0) (.slice none 0 0) (.slice none 0 0) (.slice none 0 0) := by
    simpa using Quad.new (w.alloc (.cells #[.int .i64 3, .slice sa fs.length sc, .slice na fn.length nc, .slice ia fi.length ic] 26)) (.int .i64 0) (.slice none 0 0) (.slice none 0 0) (.slice none 0 0)
  have R := fun v' w' (g : ArrAt w' v' (.mk 3 fs fn fi)) => rightR3 v' _ w' g
  rw [hE] at R
  have D := fun w' (g : IntsAt w' a cap sh) => dimsR a cap sh w' g
  rw [hD] at D
  have HA1 := hA.below bw
  have HG1 := g.below bw
  have HW2 : Hid (Below w.heap.size w ((w.alloc (.cells #[.int .i64 3, .slice sa fs.length sc, .slice na fn.length nc, .slice ia fi.length ic] 26)).alloc (.cells #[.int .i64 0, .slice none 0 0, .slice none 0 0, .slice none 0 0] 26))) := bw
  have r1 : sh.length * 8 ≤ 140737488351232 := by have := (right_def.1 hr).1; omega
  have S0 := fun v' w' (g : ArrAt w' v' (.mk 3 fs fn fi)) => sizeR v' _ w' g
  rw [hz] at S0
  have FL := fun v' w' (g : ArrAt w' v' (.mk 3 fs fn fi)) => fillR_new v' _ w' g
  rw [show (Arr.mk 3 fs fn fi).kind = 3 from rfl, hG] at FL
  have S := fun v' w' (g : ArrAt w' v' (.mk 3 gs gn gi)) => sizeR v' _ w' g
  rw [show aSize (.mk 3 gs gn gi) = gi.length by simp [aSize, Arr.kind, Arr.items]] at S
  clear hE hD hs hn h1 h2 ha hc bw hz
  go_enter Tryd.func42, Tryd.ntmps42
  go_wp2_with (first
    | (go_at_call 14; refine (R _ _ HA1).mono ?_; rintro e w1 ⟨rfl, hb1⟩; (obtain ⟨p0, p1, p2, p3, -⟩ := (q1.below hb1).cells))
    | (go_at_call 39; refine (D _ (HG1.below hb1)).mono ?_; rintro e w2 ⟨rfl, rfl⟩)
    | (go_at_call 16; refine (S0 _ _ (HA1.below hb1)).mono ?_; rintro e w3 ⟨rfl, hb3⟩; (obtain ⟨p10, p11, p12, p13, -⟩ := ((q1.below hb1).below hb3).cells))
    | (go_at_call 36; refine (FL _ _ ((HA1.below hb1).below hb3)).mono ?_; intro e w4 hN; (obtain ⟨sa', sc', na', nc', ia', ic', rfl, hO, hb4⟩ := hN.typed); (obtain ⟨p20, p21, p22, p23, p24, p25, p26, p27⟩ := (((q1.below hb1).below hb3).below hb4).cells)))
  have bw4 : Below w.heap.size w w4 := Below.then (Below.then (Below.then HW2.out hb1) hb3) hb4
  have q4 := ((q1.below hb1).below hb3).below hb4
  have q24 := ((q2.below hb1).below hb3).below hb4
  have HG4 := ((HG1.below hb1).below hb3).below hb4
  obtain ⟨q1', hoth⟩ := set4 q4 (.int .i64 3) (.slice sa' gs.length sc') (.slice na' gn.length nc') (.slice ia' gi.length ic')
  have bs4 := set4_below (w := w4) (B := w.heap.size) (b := w.heap.size) (Nat.le_refl _) (.int .i64 3) (.slice sa' gs.length sc') (.slice na' gn.length nc') (.slice ia' gi.length ic')
  have q2' := q24.keep (hoth (w.heap.size + 1) (by omega))
  have l3 := (q1.below hb1).lt
  have s3 := hb3.size
  have HA3 : ArrAt _ _ (.mk 3 gs gn gi) := (hO.keep (R := fun _ => True) fun g hp _ => ⟨trivial, fun o => World.cell?_of_block (hoth g (by omega))⟩).at
  have bw3 := bw4.trans bs4
  have HG3 := (g.below bw3)
  generalize ((((w4.setCell ⟨w.heap.size, 0, none⟩ (.int .i64 3)).setCell ⟨w.heap.size, 1, none⟩ (.slice sa' gs.length sc')).setCell ⟨w.heap.size, 2, none⟩ (.slice na' gn.length nc')).setCell ⟨w.heap.size, 3, none⟩ (.slice ia' gi.length ic')) = w3' at q1' q2' HA3 bw3 HG3 ⊢
  clear q1 q2 HA1 HG1 HW2 R D S0 FL hb1 hb3 hb4 p0 p1 p2 p3 p10 p11 p12 p13 p20 p21 p22 p23 p24 p25 p26 p27 bw4 q4 q24 HG4 hoth bs4 l3 s3 hO hN
  have hgl : gi.length ≤ 9223372036854775807 := by rw [ArrAt] at HA3; obtain ⟨_, _, _, _, _, _, _, _, _, hnn, h1', h2', _⟩ := HA3; exact Nat.le_trans h1' h2'
  obtain ⟨b3, off3, ha3, hc3⟩ : ∃ b3 off3, (gi ≠ [] → ia' = some ⟨b3, off3, none⟩) ∧ ArrsAt w3' b3 off3 gi := by
    have h := HA3
    rw [ArrAt] at h
    obtain ⟨_, _, _, _, xa, xc, hv, -, -, -, -, -, b3, off3, hx, hy⟩ := h
    simp only [Value.agg.injEq, Array.mk.injEq, List.cons.injEq, Value.slice.injEq, and_true] at hv
    obtain ⟨-, -, -, rfl, -⟩ := hv
    exact ⟨b3, off3, hx, hy⟩
  have hpr := part_bd (a := sh) (b := []) (by rw [List.append_nil]; exact hr)
  have hp0 : 0 ≤ pr sh := hpr.1
  have hp1 : pr sh ≤ 65536 := hpr.2.1
  clear hpr
  obtain ⟨d0, -⟩ := q1'.cells
  have H0 : ∀ w', Below w3'.heap.size w3' w' → w'.cell? ⟨w.heap.size, 0, none⟩ = some (.int .i64 3) ∧ IntsAt w' a cap sh ∧ Below w3'.heap.size w3' w' :=
    fun w' hb => ⟨(hb.cell (cell_lt d0)).trans d0, HG3.below hb, hb⟩
  clear d0
  go_region_held_law (fun w' => w'.cell? ⟨w.heap.size, 0, none⟩ = some (.int .i64 3) ∧ IntsAt w' a cap sh ∧ Below w3'.heap.size w3' w')
    (first
      | exact H0 _ (Below.refl _ _).drew
      | exact H0 _ e1
      | exact H0 _ (Below.alloc e1 e1.size _)
      | exact H0 _ (Below.alloc (Below.refl _ _).drew (Nat.le_refl _) _)
      | exact H0 _ (Below.setCell (Below.setCell (Below.setCell (Below.setCell e1 (by first | exact Nat.le_refl _ | assumption | omega) _) (by first | exact Nat.le_refl _ | assumption | omega) _) (by first | exact Nat.le_refl _ | assumption | omega) _) (by first | exact Nat.le_refl _ | assumption | omega) _))
    (((refine step_append_ints rfl _ _ rfl rfl _ _ _ sh rfl rfl (by go_split_ands; assumption) r1 ?_)
      intro a1 c1 w1 i1 b1
      (have e1 : Below w3'.heap.size w3' w1 := by go_split_ands; exact Below.then (by assumption) b1)
      (have l1 := e1.size)
      (first
      | (have q := Quad.below b1 (Quad.new _ _ _ _ _); obtain ⟨m0, m1, m2, m3, m4, m5, m6, m7⟩ := q.cells)
      | skip)))
  rotate_left 1
  · have I0 := (of_start2 (W0 := w3'.drew) (k := 3) (sh := sh) (e := 26) (size := 4) b1 i1 q).undrew
    dsimp only [World.drew] at I0
    generalize ((((w1.setCell ⟨w3'.heap.size, 0, none⟩ (.int .i64 3)).setCell ⟨w3'.heap.size, 1, none⟩ (.slice a1 sh.length c1)).setCell ⟨w3'.heap.size, 2, none⟩ (.slice none 0 0)).setCell ⟨w3'.heap.size, 3, none⟩ (.slice none 0 0)) = W at I0 ⊢
    obtain ⟨bx, hbx0⟩ : ∃ bx, bx = w3'.heap.size := ⟨_, rfl⟩
    rw [← hbx0] at I0 ⊢
    clear hbx0 i1 b1 e1 l1 H0 q m0 m1 m2 m3 m4 m5 m6 m7
    go_wp2_with (go_at_call 40; refine (countR a cap sh _ (HG3.below I0.bel) hr).mono ?_; rintro e w4 ⟨rfl, rfl⟩)
    go_loopw [9, 10] (fun wg ix wr => ∃ (i : Nat) (va : Option Addr) (vl vc : Nat) (qs : List Value) (T : Int), (i : Int) ≤ pr sh ∧ wg = .int .i64 T ∧ T ≤ 262144 ∧ Hid (T = pr sh + sumW (cyc gi zeroA i)) ∧ ix = .int .i64 i ∧ OInv w3' wr bx 3 sh (.slice none 0 0) (.slice va vl vc) (.slice va vl vc) 26 4 i qs ∧ Quads (Far w3' bx (.slice va vl vc)) wr qs (cyc gi zeroA i)) (fun _ ix _ => (pr sh - intOf ix).toNat)
    case atStart => exact ⟨0, none, 0, 0, [], pr sh, by omega, rfl, by omega, by unfold Hid; simp [cyc, sumW], rfl, I0, by rw [show cyc gi zeroA 0 = [] from rfl, Quads]; trivial⟩
    case round =>
      obtain ⟨i, va, vl, vc, qs, T, hi, rfl, hT, HT, rfl, hI, hQs⟩ := hrel
      obtain ⟨bel, bxl, own, a1, c1, blk, i1⟩ := id hI
      obtain ⟨p0, p1, p2, p3, -⟩ := (q1'.below bel).cells
      obtain ⟨f0, f1, f2, f3, -⟩ := blk.cells
      have T0 : 0 ≤ T := by rw [HT.out]; have := sumW_nn (cyc gi zeroA i); omega
      by_cases hlt : (i : Int) < pr sh
      · have hj : i % gi.length < gi.length := Nat.mod_lt _ hn0
        have q0 : Int.tmod (i : Int) (gi.length : Int) = ((i % gi.length : Nat) : Int) := by rw [Int.tmod_eq_emod_of_nonneg (by omega)]; rfl
        have hne : (gi.length : Int) ≠ 0 := by omega
        have hwm : IntKind.i64.wrap ((i % gi.length : Nat) : Int) = ((i % gi.length : Nat) : Int) := IntWalk.i64_in _ (by omega)
        have CS : Hid (cyc gi zeroA (i + 1) = cyc gi zeroA i ++ [gi[i % gi.length]]) := by unfold Hid; rw [cyc_succ]; simp [hj]
        have hib : i ≤ 65536 := by omega
        generalize i % gi.length = j at q0 hwm hj CS
        have hix := items_at (ic := ic') rfl ha3 hj
        obtain ⟨y0, y1, y2, y3, ⟨g0, g1, g2, g3⟩, hB⟩ := (ArrsAt.below bel hc3).at hj
        have hw0 := wt_nn gi[j]
        have hw1 := wt_le gi[j]
        have WT := fun v' w' (g : ArrAt w' v' gi[j]) => weightR v' _ w' g
        obtain ⟨U, hU⟩ : ∃ U, wt gi[j] = U := ⟨_, rfl⟩
        rw [hU] at hw0 hw1 WT
        have HU : Hid (T + U = pr sh + sumW (cyc gi zeroA (i + 1))) := by unfold Hid; rw [CS.out, sumW_append, sumW, sumW, hU, HT.out]; omega
        clear hU
        have hbx := blk.lt
        by_cases hbig : T + U ≤ 262144
        · go_wp2_with (first
            | (go_at_call 16; refine (S _ _ (HA3.below bel)).mono ?_; rintro e w4 ⟨rfl, b4⟩; (obtain ⟨p10, p11, p12, p13, -⟩ := ((q1'.below bel).below b4).cells); (have g10 := (b4.cell (cell_lt g0)).trans g0); (have g11 := (b4.cell (cell_lt g1)).trans g1); (have g12 := (b4.cell (cell_lt g2)).trans g2); (have g13 := (b4.cell (cell_lt g3)).trans g3); (obtain ⟨f10, f11, f12, f13, -⟩ := (blk.below b4).cells))
            | (go_at_call 18; refine (WT _ _ (hB.below b4)).mono ?_; rintro e w7 ⟨rfl, b7⟩; (obtain ⟨p20, p21, p22, p23, -⟩ := (((q1'.below bel).below b4).below b7).cells); (obtain ⟨f40, f41, f42, f43, -⟩ := ((blk.below b4).below b7).cells)))
          have b47 := Below.then b4 b7
          go_region_law ((first
            | (go_simp; refine (atR_box _ gs gn gi j _ ((HA3.below bel).below (Below.trans b47 (Below.refl _ _).drew)) hR hj).mono ?_; intro e w5 hN; (obtain ⟨ea, el, ecc, eo, lo, co, eb, ef, ec, x0, x1, x2, x3, rfl, hx, hone, hX, b5⟩ := box_form hN); (have b45 : Below wr.heap.size wr w5 := Below.then b47 (Below.trans (Below.refl _ _).drew b5)); (obtain ⟨f20, f21, f22, f23, -⟩ := (blk.below b45).cells))
            | (go_simp; refine (putR_box a1 _ c1 none 0 0 va vl vc 3 ea el ecc eo lo co eb ef ec x0 x1 x2 x3 hone w5 (bx + 1) i _ (by have := b45.size; omega) (by omega) (own_below own b45) hx).mono ?_; rintro e w6 ⟨gg, cap6, rfl, P6⟩; (obtain ⟨f30, f31, f32, f33, f34, f35, f36, f37⟩ := (of_mid hI b45 P6 blk).cells))))
          all_goals go_wp2_with fail
          all_goals go_roundw
          all_goals first
            | exact ⟨i + 1, _, _, _, _, T + U, by omega, rfl, hbig, HU, by go_num, of_step hI b45 P6 blk i1, by rw [CS.out]; exact of_quads hI b45 P6 hQs (hX.mono (R := fun g => wr.heap.size ≤ g) fun g hg => by have := b47.size; have : w7.drew.heap.size = w7.heap.size := rfl; omega)⟩
            | (simp [intOf]; omega)
        · have q5 := q2'.below bel
          have HF : Hid (262144 < pr sh + sumW (cyc gi zeroA (pr sh).toNat)) := by
            unfold Hid
            have h1 := HU.out
            have h2 := sumW_cyc gi zeroA (i + 1) (pr sh).toNat (by omega)
            omega
          clear HT HU CS
          go_wp2_with (first
            | (go_at_call 16; refine (S _ _ (HA3.below bel)).mono ?_; rintro e w4 ⟨rfl, b4⟩; (obtain ⟨p10, p11, p12, p13, -⟩ := ((q1'.below bel).below b4).cells); (have g10 := (b4.cell (cell_lt g0)).trans g0); (have g11 := (b4.cell (cell_lt g1)).trans g1); (have g12 := (b4.cell (cell_lt g2)).trans g2); (have g13 := (b4.cell (cell_lt g3)).trans g3))
            | (go_at_call 18; refine (WT _ _ (hB.below b4)).mono ?_; rintro e w7 ⟨rfl, b7⟩; (obtain ⟨s0, s1, s2, s3, s4, s5, s6, s7⟩ := ((q5.below b4).below b7).cells)))
          have q7 := (q5.below b4).below b7
          have G := give_set4 (Nat.le_succ w.heap.size) q7 (zero_on _ _) ((bw3.trans (bel.mono bw3.size)).trans ((Below.then b4 b7).mono (bw3.trans (bel.mono bw3.size)).size))
          obtain ⟨QW, -⟩ := set4 q7 (.int .i64 0) (.slice none 0 0) (.slice none 0 0) (.slice none 0 0)
          generalize ((((w7.setCell ⟨w.heap.size + 1, 0, none⟩ (.int .i64 0)).setCell ⟨w.heap.size + 1, 1, none⟩ (.slice none 0 0)).setCell ⟨w.heap.size + 1, 2, none⟩ (.slice none 0 0)).setCell ⟨w.heap.size + 1, 3, none⟩ (.slice none 0 0)) = WW at QW G ⊢
          obtain ⟨z0, z1, z2, z3, -⟩ := QW.cells
          exact bodyPost_ret (v := .tuple #[.agg #[.int .i64 0, .slice none 0 0, .slice none 0 0, .slice none 0 0], .int .i64 21]) (by simp [results, Tryd.results42, go_sem, z0, z1, z2, z3]) rfl (OfBox.no HF (GiveNewE.mk G))
      · obtain ⟨n, hn⟩ : ∃ n : Nat, pr sh = n := ⟨(pr sh).toNat, by omega⟩
        obtain rfl : i = n := by omega
        have HC : Hid ((pr sh).toNat = i) := by unfold Hid; omega
        have HF : Hid (pr sh + sumW (cyc gi zeroA (pr sh).toNat) ≤ 262144) := by unfold Hid; rw [HC.out, ← HT.out]; exact hT
        have q5 := q2'.below bel
        obtain ⟨s0, s1, s2, s3, s4, s5, s6, s7⟩ := q5.cells
        have hl3 := q2'.lt
        have hOut : ArrOn (fun g => w.heap.size + 1 < g) wr (.agg #[.int .i64 3, .slice a1 sh.length c1, .slice none 0 0, .slice va vl vc]) (.mk 3 sh [] (cyc gi zeroA i)) := of_box_out hI hQs (cyc_len gi zeroA i) hl3 i1
        clear hn HT
        go_wp2_with fail
        have G := give_set4 (Nat.le_succ w.heap.size) q5 hOut (bw3.trans (bel.mono bw3.size))
        obtain ⟨QW, -⟩ := set4 q5 (.int .i64 3) (.slice a1 sh.length c1) (.slice none 0 0) (.slice va vl vc)
        generalize ((((wr.setCell ⟨w.heap.size + 1, 0, none⟩ (.int .i64 3)).setCell ⟨w.heap.size + 1, 1, none⟩ (.slice a1 sh.length c1)).setCell ⟨w.heap.size + 1, 2, none⟩ (.slice none 0 0)).setCell ⟨w.heap.size + 1, 3, none⟩ (.slice va vl vc)) = WW at QW G ⊢
        obtain ⟨z0, z1, z2, z3, -⟩ := QW.cells
        exact bodyPost_ret (v := .tuple #[.agg #[.int .i64 3, .slice a1 sh.length c1, .slice none 0 0, .slice va vl vc], .int .i64 0]) (by simp [results, Tryd.results42, go_sem, z0, z1, z2, z3]) rfl (OfBox.yes HF (by rw [HC.out]; exact GiveNewE.mk G))
  · have I0 := of_start1 (W0 := w3') (k := 3) (sh := sh) (e := 26) (size := 4) i1 e1
    generalize (w1.alloc (.cells #[.int .i64 3, .slice a1 sh.length c1, .slice none 0 0, .slice none 0 0] 26)) = W at I0 ⊢
    generalize w1.heap.size = bx at I0 ⊢
    clear i1 b1 e1 l1 H0
    go_wp2_with (go_at_call 40; refine (countR a cap sh _ (HG3.below I0.bel) hr).mono ?_; rintro e w4 ⟨rfl, rfl⟩)
    go_loopw [9, 10] (fun wg ix wr => ∃ (i : Nat) (va : Option Addr) (vl vc : Nat) (qs : List Value) (T : Int), (i : Int) ≤ pr sh ∧ wg = .int .i64 T ∧ T ≤ 262144 ∧ Hid (T = pr sh + sumW (cyc gi zeroA i)) ∧ ix = .int .i64 i ∧ OInv w3' wr bx 3 sh (.slice none 0 0) (.slice va vl vc) (.slice va vl vc) 26 4 i qs ∧ Quads (Far w3' bx (.slice va vl vc)) wr qs (cyc gi zeroA i)) (fun _ ix _ => (pr sh - intOf ix).toNat)
    case atStart => exact ⟨0, none, 0, 0, [], pr sh, by omega, rfl, by omega, by unfold Hid; simp [cyc, sumW], rfl, I0, by rw [show cyc gi zeroA 0 = [] from rfl, Quads]; trivial⟩
    case round =>
      obtain ⟨i, va, vl, vc, qs, T, hi, rfl, hT, HT, rfl, hI, hQs⟩ := hrel
      obtain ⟨bel, bxl, own, a1, c1, blk, i1⟩ := id hI
      obtain ⟨p0, p1, p2, p3, -⟩ := (q1'.below bel).cells
      obtain ⟨f0, f1, f2, f3, -⟩ := blk.cells
      have T0 : 0 ≤ T := by rw [HT.out]; have := sumW_nn (cyc gi zeroA i); omega
      by_cases hlt : (i : Int) < pr sh
      · have hj : i % gi.length < gi.length := Nat.mod_lt _ hn0
        have q0 : Int.tmod (i : Int) (gi.length : Int) = ((i % gi.length : Nat) : Int) := by rw [Int.tmod_eq_emod_of_nonneg (by omega)]; rfl
        have hne : (gi.length : Int) ≠ 0 := by omega
        have hwm : IntKind.i64.wrap ((i % gi.length : Nat) : Int) = ((i % gi.length : Nat) : Int) := IntWalk.i64_in _ (by omega)
        have CS : Hid (cyc gi zeroA (i + 1) = cyc gi zeroA i ++ [gi[i % gi.length]]) := by unfold Hid; rw [cyc_succ]; simp [hj]
        have hib : i ≤ 65536 := by omega
        generalize i % gi.length = j at q0 hwm hj CS
        have hix := items_at (ic := ic') rfl ha3 hj
        obtain ⟨y0, y1, y2, y3, ⟨g0, g1, g2, g3⟩, hB⟩ := (ArrsAt.below bel hc3).at hj
        have hw0 := wt_nn gi[j]
        have hw1 := wt_le gi[j]
        have WT := fun v' w' (g : ArrAt w' v' gi[j]) => weightR v' _ w' g
        obtain ⟨U, hU⟩ : ∃ U, wt gi[j] = U := ⟨_, rfl⟩
        rw [hU] at hw0 hw1 WT
        have HU : Hid (T + U = pr sh + sumW (cyc gi zeroA (i + 1))) := by unfold Hid; rw [CS.out, sumW_append, sumW, sumW, hU, HT.out]; omega
        clear hU
        have hbx := blk.lt
        by_cases hbig : T + U ≤ 262144
        · go_wp2_with (first
            | (go_at_call 16; refine (S _ _ (HA3.below bel)).mono ?_; rintro e w4 ⟨rfl, b4⟩; (obtain ⟨p10, p11, p12, p13, -⟩ := ((q1'.below bel).below b4).cells); (have g10 := (b4.cell (cell_lt g0)).trans g0); (have g11 := (b4.cell (cell_lt g1)).trans g1); (have g12 := (b4.cell (cell_lt g2)).trans g2); (have g13 := (b4.cell (cell_lt g3)).trans g3); (obtain ⟨f10, f11, f12, f13, -⟩ := (blk.below b4).cells))
            | (go_at_call 18; refine (WT _ _ (hB.below b4)).mono ?_; rintro e w7 ⟨rfl, b7⟩; (obtain ⟨p20, p21, p22, p23, -⟩ := (((q1'.below bel).below b4).below b7).cells); (obtain ⟨f40, f41, f42, f43, -⟩ := ((blk.below b4).below b7).cells)))
          have b47 := Below.then b4 b7
          go_region_law ((first
            | (go_simp; refine (atR_box _ gs gn gi j _ ((HA3.below bel).below (Below.trans b47 (Below.refl _ _).drew)) hR hj).mono ?_; intro e w5 hN; (obtain ⟨ea, el, ecc, eo, lo, co, eb, ef, ec, x0, x1, x2, x3, rfl, hx, hone, hX, b5⟩ := box_form hN); (have b45 : Below wr.heap.size wr w5 := Below.then b47 (Below.trans (Below.refl _ _).drew b5)); (obtain ⟨f20, f21, f22, f23, -⟩ := (blk.below b45).cells))
            | (go_simp; refine (putR_box a1 _ c1 none 0 0 va vl vc 3 ea el ecc eo lo co eb ef ec x0 x1 x2 x3 hone w5 (bx + 1) i _ (by have := b45.size; omega) (by omega) (own_below own b45) hx).mono ?_; rintro e w6 ⟨gg, cap6, rfl, P6⟩; (obtain ⟨f30, f31, f32, f33, f34, f35, f36, f37⟩ := (of_mid hI b45 P6 blk).cells))))
          all_goals go_wp2_with fail
          all_goals go_roundw
          all_goals first
            | exact ⟨i + 1, _, _, _, _, T + U, by omega, rfl, hbig, HU, by go_num, of_step hI b45 P6 blk i1, by rw [CS.out]; exact of_quads hI b45 P6 hQs (hX.mono (R := fun g => wr.heap.size ≤ g) fun g hg => by have := b47.size; have : w7.drew.heap.size = w7.heap.size := rfl; omega)⟩
            | (simp [intOf]; omega)
        · have q5 := q2'.below bel
          have HF : Hid (262144 < pr sh + sumW (cyc gi zeroA (pr sh).toNat)) := by
            unfold Hid
            have h1 := HU.out
            have h2 := sumW_cyc gi zeroA (i + 1) (pr sh).toNat (by omega)
            omega
          clear HT HU CS
          go_wp2_with (first
            | (go_at_call 16; refine (S _ _ (HA3.below bel)).mono ?_; rintro e w4 ⟨rfl, b4⟩; (obtain ⟨p10, p11, p12, p13, -⟩ := ((q1'.below bel).below b4).cells); (have g10 := (b4.cell (cell_lt g0)).trans g0); (have g11 := (b4.cell (cell_lt g1)).trans g1); (have g12 := (b4.cell (cell_lt g2)).trans g2); (have g13 := (b4.cell (cell_lt g3)).trans g3))
            | (go_at_call 18; refine (WT _ _ (hB.below b4)).mono ?_; rintro e w7 ⟨rfl, b7⟩; (obtain ⟨s0, s1, s2, s3, s4, s5, s6, s7⟩ := ((q5.below b4).below b7).cells)))
          have q7 := (q5.below b4).below b7
          have G := give_set4 (Nat.le_succ w.heap.size) q7 (zero_on _ _) ((bw3.trans (bel.mono bw3.size)).trans ((Below.then b4 b7).mono (bw3.trans (bel.mono bw3.size)).size))
          obtain ⟨QW, -⟩ := set4 q7 (.int .i64 0) (.slice none 0 0) (.slice none 0 0) (.slice none 0 0)
          generalize ((((w7.setCell ⟨w.heap.size + 1, 0, none⟩ (.int .i64 0)).setCell ⟨w.heap.size + 1, 1, none⟩ (.slice none 0 0)).setCell ⟨w.heap.size + 1, 2, none⟩ (.slice none 0 0)).setCell ⟨w.heap.size + 1, 3, none⟩ (.slice none 0 0)) = WW at QW G ⊢
          obtain ⟨z0, z1, z2, z3, -⟩ := QW.cells
          exact bodyPost_ret (v := .tuple #[.agg #[.int .i64 0, .slice none 0 0, .slice none 0 0, .slice none 0 0], .int .i64 21]) (by simp [results, Tryd.results42, go_sem, z0, z1, z2, z3]) rfl (OfBox.no HF (GiveNewE.mk G))
      · obtain ⟨n, hn⟩ : ∃ n : Nat, pr sh = n := ⟨(pr sh).toNat, by omega⟩
        obtain rfl : i = n := by omega
        have HC : Hid ((pr sh).toNat = i) := by unfold Hid; omega
        have HF : Hid (pr sh + sumW (cyc gi zeroA (pr sh).toNat) ≤ 262144) := by unfold Hid; rw [HC.out, ← HT.out]; exact hT
        have q5 := q2'.below bel
        obtain ⟨s0, s1, s2, s3, s4, s5, s6, s7⟩ := q5.cells
        have hl3 := q2'.lt
        have hOut : ArrOn (fun g => w.heap.size + 1 < g) wr (.agg #[.int .i64 3, .slice a1 sh.length c1, .slice none 0 0, .slice va vl vc]) (.mk 3 sh [] (cyc gi zeroA i)) := of_box_out hI hQs (cyc_len gi zeroA i) hl3 i1
        clear hn HT
        go_wp2_with fail
        have G := give_set4 (Nat.le_succ w.heap.size) q5 hOut (bw3.trans (bel.mono bw3.size))
        obtain ⟨QW, -⟩ := set4 q5 (.int .i64 3) (.slice a1 sh.length c1) (.slice none 0 0) (.slice va vl vc)
        generalize ((((wr.setCell ⟨w.heap.size + 1, 0, none⟩ (.int .i64 3)).setCell ⟨w.heap.size + 1, 1, none⟩ (.slice a1 sh.length c1)).setCell ⟨w.heap.size + 1, 2, none⟩ (.slice none 0 0)).setCell ⟨w.heap.size + 1, 3, none⟩ (.slice va vl vc)) = WW at QW G ⊢
        obtain ⟨z0, z1, z2, z3, -⟩ := QW.cells
        exact bodyPost_ret (v := .tuple #[.agg #[.int .i64 3, .slice a1 sh.length c1, .slice none 0 0, .slice va vl vc], .int .i64 0]) (by simp [results, Tryd.results42, go_sem, z0, z1, z2, z3]) rfl (OfBox.yes HF (by rw [HC.out]; exact GiveNewE.mk G))

end Go.Proofs.YtphcpolgeceljaaDoor.Shape
