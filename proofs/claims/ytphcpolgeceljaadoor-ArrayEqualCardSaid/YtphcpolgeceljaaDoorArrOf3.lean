/-
  Layer 3: the reference's Of: numbers.
-/
import Derived.Test.YtphcpolgeceljaaDoorArrFillNew
namespace Go.Proofs.YtphcpolgeceljaaDoor.Shape
open Go.RowKit

theorem own_below {w w1 : World} {base e size n : Nat} {v : Value} {qs : List Value} (ho : w.ownsRow base e size v n qs) (b1 : Below w.heap.size w w1) : w1.ownsRow base e size v n qs := by
  have hv := ho.lt
  obtain ⟨h1, h2⟩ := ho
  refine ⟨h1, ?_⟩
  rcases h2 with h2 | ⟨g, cap, cur, rfl, hg, hh, r⟩
  · exact Or.inl h2
  · exact Or.inr ⟨g, cap, cur, rfl, hg, (b1.block g (hv g rfl).2).trans hh, r⟩
theorem OInv.undrew {W0 wr : World} {bx n : Nat} {k : Int} {sh : List Int} {c2 c3 v : Value} {e : TypeId} {size : Nat} {qs : List Value} (h : OInv W0.drew wr bx k sh c2 c3 v e size n qs) : OInv W0 wr bx k sh c2 c3 v e size n qs :=
  ⟨Below.trans (Below.refl _ _).drew h.bel, h.bxl, h.own, h.blk⟩
/-- The literal's block behind an element. -/
theorem of_mid {W0 wr w1 w2 : World} {bx n g cap : Nat} {k : Int} {sh : List Int} {c2 c3 v x0 x1 x2 x3 : Value} {e : TypeId} {size : Nat} {qs news : List Value} (h : OInv W0 wr bx k sh c2 c3 v e size n qs) (b1 : Below wr.heap.size wr w1) (P : Put1 w1 w2 (bx + 1) e size n v qs news g cap) (blk : Quad wr bx x0 x1 x2 x3) : Quad w2 bx x0 x1 x2 x3 := by
  have hv := h.own.lt
  have s1 := b1.size
  have hbx := blk.lt
  exact blk.keep ((P.far bx (by omega) (fun e => by have := (hv bx e).1; omega)).trans (b1.block bx hbx))
/-- A scalar that holds one number. -/
theorem one_form {k x : Int} {w w' : World} {e : Ending} (h : GiveNew (.mk k [] [x] []) w e w') : ∃ ea el ecc eb ef ec eo lo co, e = .returned (.agg #[.int .i64 k, .slice ea el ecc, .slice (some ⟨eb, ef, none⟩) 1 ec, .slice eo lo co]) ∧ w'.cell? ⟨eb, ef, none⟩ = some (.int .i64 x) ∧ Below w.heap.size w w' := by
  obtain ⟨c0, c1, c2, c3, rfl, _, hO, hb⟩ := h
  rw [ArrOn] at hO
  obtain ⟨sa, sc, na, nc, ia, ic, hv, -, -, ⟨⟨_, _, _, b, off, ha, hc⟩, -⟩, -⟩ := hO
  have e := ha (by simp)
  subst e
  exact ⟨sa, _, sc, b, off, nc, ia, _, ic, by rw [hv]; rfl, by simpa using hc 0 (by simp), hb⟩

theorem cyc_bd {l : List Int} {n : Nat} (h : ∀ x ∈ l, -9223372036854775808 ≤ x ∧ x ≤ 9223372036854775807) : ∀ x ∈ cyc l 0 n, -9223372036854775808 ≤ x ∧ x ≤ 9223372036854775807 := by
  intro x hx
  rw [cyc, List.mem_map] at hx
  obtain ⟨i, -, rfl⟩ := hx
  rw [List.getD_eq_getElem?_getD]
  cases he : l[i % l.length]? with
  | none => decide
  | some y => exact h y (List.mem_of_getElem? he)
/-- The array of numbers that Of has gathered. -/
theorem of_num_out {W0 wr : World} {bx n B : Nat} {k : Int} {sh : List Int} {a2 : Value} {nu : List Int} {a1 va : Option Addr} {c1 vl vc : Nat} (h : OInv W0 wr bx k sh (.slice va vl vc) a2 (.slice va vl vc) 3 1 n (nu.map (Value.int .i64))) (hk : -9223372036854775808 ≤ k ∧ k ≤ 9223372036854775807) (hb : ∀ x ∈ nu, -9223372036854775808 ≤ x ∧ x ≤ 9223372036854775807) (hB : B < W0.heap.size)
    (_blk : Quad wr bx (.int .i64 k) (.slice a1 sh.length c1) (.slice va vl vc) a2) (i1 : IntsOn (Far W0 bx (.slice va vl vc)) wr a1 c1 sh) :
    ArrOn (fun g => B < g) wr (.agg #[.int .i64 k, .slice a1 sh.length c1, .slice va vl vc, .slice none 0 0]) (.mk k sh nu []) := by
  have own := h.own
  have hbx := h.bxl
  have hn : n = nu.length := by have := own.1; simpa using this.symm
  obtain ⟨av, cv, hv, hon⟩ := ints_of_own hn own hb
  rw [hv, ArrOn]
  exact ⟨a1, c1, av, cv, none, 0, rfl, hk, i1.mono fun g hg => by have := hg.1; omega, hon.mono fun g hg => by omega, Nat.le_refl _, by decide, 0, 0, fun g => absurd rfl g, by rw [ArrsOn]; trivial⟩

theorem GiveNew.typed {k : Int} {gs gn : List Int} {gi : List Arr} {w w' : World} {e : Ending} (h : GiveNew (.mk k gs gn gi) w e w') : ∃ sa sc na nc ia ic, e = .returned (.agg #[.int .i64 k, .slice sa gs.length sc, .slice na gn.length nc, .slice ia gi.length ic]) ∧
    ArrOn (fun g => w.heap.size ≤ g) w' (.agg #[.int .i64 k, .slice sa gs.length sc, .slice na gn.length nc, .slice ia gi.length ic]) (.mk k gs gn gi) ∧ Below w.heap.size w w' := by
  obtain ⟨c0, c1, c2, c3, rfl, _, hO, hb⟩ := h
  have hO' := hO
  rw [ArrOn] at hO
  obtain ⟨sa, sc, na, nc, ia, ic, hv, -⟩ := hO
  rw [hv] at hO'
  exact ⟨sa, sc, na, nc, ia, ic, by rw [hv], hO', hb⟩

set_option maxRecDepth 100000 in
set_option maxHeartbeats 16000000 in
theorem ofR_num (a : Option Addr) (cap : Nat) (sh : List Int) (v : Value) (k : Int) (gs gn : List Int) (gi : List Arr) (w : World) (g : IntsAt w a cap sh) (h : ArrAt w v (.mk k gs gn gi)) (hE : rightE (.mk k gs gn gi) = 0) (hD : dimsE sh = 0) (hk : k = 1 ∨ k = 2) (hn0 : 0 < gn.length) (hr : rightB sh = true) :
    Calls Tryd.prog 42 #[.slice a sh.length cap, v] w (GiveNewE (.mk k sh (cyc gn 0 (pr sh).toNat) []) 0 w) := by
  have hA := h
  rw [ArrAt] at h
  obtain ⟨sa, sc, na, nc, ia, ic, rfl, hkb, hs, hn, h1, h2, b, off, ha, hc⟩ := h
  have bw := below_two w (.cells #[.int .i64 k, .slice sa gs.length sc, .slice na gn.length nc, .slice ia gi.length ic] 26) (.cells #[.int .i64 0, .slice none 0 0, .slice none 0 0, .slice none 0 0] 26)
  have q1 := (Quad.new w (.int .i64 k) (.slice sa gs.length sc) (.slice na gn.length nc) (.slice ia gi.length ic)).below (below_new _ (.cells #[.int .i64 0, .slice none 0 0, .slice none 0 0, .slice none 0 0] 26))
  have q2 : Quad ((w.alloc (.cells #[.int .i64 k, .slice sa gs.length sc, .slice na gn.length nc, .slice ia gi.length ic] 26)).alloc (.cells #[.int .i64 0, .slice none 0 0, .slice none 0 0, .slice none 0 0] 26)) (w.heap.size + 1) (.int .i64 0) (.slice none 0 0) (.slice none 0 0) (.slice none 0 0) := by
    simpa using Quad.new (w.alloc (.cells #[.int .i64 k, .slice sa gs.length sc, .slice na gn.length nc, .slice ia gi.length ic] 26)) (.int .i64 0) (.slice none 0 0) (.slice none 0 0) (.slice none 0 0)
  have R := fun v' w' (g : ArrAt w' v' (.mk k gs gn gi)) => rightR3 v' _ w' g
  rw [hE] at R
  have D := fun w' (g : IntsAt w' a cap sh) => dimsR a cap sh w' g
  rw [hD] at D
  have HA1 := hA.below bw
  have HG1 := g.below bw
  have HW2 : Hid (Below w.heap.size w ((w.alloc (.cells #[.int .i64 k, .slice sa gs.length sc, .slice na gn.length nc, .slice ia gi.length ic] 26)).alloc (.cells #[.int .i64 0, .slice none 0 0, .slice none 0 0, .slice none 0 0] 26))) := bw
  have r1 : sh.length * 8 ≤ 140737488351232 := by have := (right_def.1 hr).1; omega
  have S := fun v' w' (g : ArrAt w' v' (.mk k gs gn gi)) => sizeR v' _ w' g
  rw [show aSize (.mk k gs gn gi) = gn.length by rcases hk with rfl | rfl <;> simp [aSize, Arr.kind, Arr.nums]] at S
  have gbd := hn.2.2.1
  have hgl : gn.length ≤ 9223372036854775807 := hn.len
  have esz : ((gn.length : Int) == 0) = false := by rw [beq_eq_false_iff_ne]; omega
  clear hE hD hs hn h1 h2 ha hc bw
  go_enter Tryd.func42, Tryd.ntmps42
  go_wp2_with (first
    | (go_at_call 14; refine (R _ _ HA1).mono ?_; rintro e w1 ⟨rfl, hb1⟩; (obtain ⟨p0, p1, p2, p3, -⟩ := (q1.below hb1).cells))
    | (go_at_call 39; refine (D _ (HG1.below hb1)).mono ?_; rintro e w2 ⟨rfl, rfl⟩)
    | (go_at_call 16; refine (S _ _ (HA1.below hb1)).mono ?_; rintro e w3' ⟨rfl, hb3⟩))
  have bw3 : Below w.heap.size w w3' := Below.then (Below.then HW2.out hb1) hb3
  have q1' := (q1.below hb1).below hb3
  have q2' := (q2.below hb1).below hb3
  have HA3 := (HA1.below hb1).below hb3
  have HG3 := (HG1.below hb1).below hb3
  clear q1 q2 HA1 HG1 HW2 R D hb1 hb3 p0 p1 p2 p3 esz
  have hpr := part_bd (a := sh) (b := []) (by rw [List.append_nil]; exact hr)
  have hp0 : 0 ≤ pr sh := hpr.1
  have hp1 : pr sh ≤ 65536 := hpr.2.1
  have k3 : (k == 3) = false := by rcases hk with rfl | rfl <;> rfl
  clear hpr
  obtain ⟨d0, -⟩ := q1'.cells
  have H0 : ∀ w', Below w3'.heap.size w3' w' → w'.cell? ⟨w.heap.size, 0, none⟩ = some (.int .i64 k) ∧ IntsAt w' a cap sh ∧ Below w3'.heap.size w3' w' :=
    fun w' hb => ⟨(hb.cell (cell_lt d0)).trans d0, HG3.below hb, hb⟩
  clear d0
  go_region_held_law (fun w' => w'.cell? ⟨w.heap.size, 0, none⟩ = some (.int .i64 k) ∧ IntsAt w' a cap sh ∧ Below w3'.heap.size w3' w')
    (first
      | exact H0 _ (Below.refl _ _).drew
      | exact H0 _ e1
      | exact H0 _ (Below.alloc e1 e1.size _)
      | exact H0 _ (Below.alloc (Below.refl _ _).drew (Nat.le_refl _) _)
      | exact H0 _ (Below.setCell (Below.setCell (Below.setCell (Below.setCell e1 (by first | exact Nat.le_refl _ | assumption | omega) _) (by first | exact Nat.le_refl _ | assumption | omega) _) (by first | exact Nat.le_refl _ | assumption | omega) _) (by first | exact Nat.le_refl _ | assumption | omega) _))
    (((refine step_append_ints rfl _ _ rfl rfl _ _ _ sh rfl rfl (by go_split_ands; assumption) r1 ?_)
      intro a1 c1 w1 i1 b1
      (have e1 : Below w3'.heap.size w3' w1 := by go_split_ands; exact Below.then (by assumption) b1)
      (have l1 := e1.size)
      (first
      | (have q := Quad.below b1 (Quad.new _ _ _ _ _); obtain ⟨m0, m1, m2, m3, m4, m5, m6, m7⟩ := q.cells)
      | skip)))
  rotate_left 1
  · have I0 := (of_start2 (W0 := w3'.drew) (k := k) (sh := sh) (e := 3) (size := 1) b1 i1 q).undrew
    dsimp only [World.drew] at I0
    generalize ((((w1.setCell ⟨w3'.heap.size, 0, none⟩ (.int .i64 k)).setCell ⟨w3'.heap.size, 1, none⟩ (.slice a1 sh.length c1)).setCell ⟨w3'.heap.size, 2, none⟩ (.slice none 0 0)).setCell ⟨w3'.heap.size, 3, none⟩ (.slice none 0 0)) = W at I0 ⊢
    obtain ⟨bx, hbx0⟩ : ∃ bx, bx = w3'.heap.size := ⟨_, rfl⟩
    rw [← hbx0] at I0 ⊢
    clear hbx0 i1 b1 e1 l1 H0 q m0 m1 m2 m3 m4 m5 m6 m7
    go_wp2_with (go_at_call 40; refine (countR a cap sh _ (HG3.below I0.bel) hr).mono ?_; rintro e w4 ⟨rfl, rfl⟩)
    go_loopw [9, 10] (fun wg ix wr => ∃ (i : Nat) (va : Option Addr) (vl vc : Nat), (i : Int) ≤ pr sh ∧ wg = .int .i64 (pr sh) ∧ ix = .int .i64 i ∧ OInv w3' wr bx k sh (.slice va vl vc) (.slice none 0 0) (.slice va vl vc) 3 1 i ((cyc gn 0 i).map (Value.int .i64))) (fun _ ix _ => (pr sh - intOf ix).toNat)
    case atStart => exact ⟨0, none, 0, 0, by omega, rfl, rfl, I0⟩
    case round =>
      obtain ⟨i, va, vl, vc, hi, rfl, rfl, hI⟩ := hrel
      obtain ⟨bel, bxl, own, a1, c1, blk, i1⟩ := id hI
      obtain ⟨p0, p1, p2, p3, -⟩ := (q1'.below bel).cells
      obtain ⟨f0, f1, f2, f3, -⟩ := blk.cells
      by_cases hlt : (i : Int) < pr sh
      · have hj : i % gn.length < gn.length := Nat.mod_lt _ hn0
        have q0 : Int.tmod (i : Int) (gn.length : Int) = ((i % gn.length : Nat) : Int) := by rw [Int.tmod_eq_emod_of_nonneg (by omega)]; rfl
        have hne : (gn.length : Int) ≠ 0 := by omega
        have hwm : IntKind.i64.wrap ((i % gn.length : Nat) : Int) = ((i % gn.length : Nat) : Int) := IntWalk.i64_in _ (by omega)
        have CS : Hid (cyc gn 0 (i + 1) = cyc gn 0 i ++ [gn[i % gn.length]]) := by unfold Hid; rw [cyc_succ]; simp [hj]
        have hib : i ≤ 65536 := by omega
        generalize i % gn.length = j at q0 hwm hj CS
        have hbx := blk.lt
        go_wp2_with (go_at_call 16; refine (S _ _ (HA3.below bel)).mono ?_; rintro e w4 ⟨rfl, b4⟩; (obtain ⟨p10, p11, p12, p13, -⟩ := ((q1'.below bel).below b4).cells); (obtain ⟨f10, f11, f12, f13, -⟩ := (blk.below b4).cells))
        go_region_law ((first
          | (go_simp; refine (atR_num _ k gs gn gi j _ ((HA3.below bel).below (Below.trans b4 (Below.refl _ _).drew)) hk hj).mono ?_; intro e w5 hN; (obtain ⟨ea, el, ecc, eb, ef, ec, eo, lo, co, rfl, hx, b5⟩ := one_form hN); (have b45 : Below wr.heap.size wr w5 := Below.then b4 (Below.trans (Below.refl _ _).drew b5)); (obtain ⟨f20, f21, f22, f23, -⟩ := (blk.below b45).cells))
          | (go_simp; refine (putR_num k (by rintro rfl; cases k3) a1 _ c1 va vl vc none 0 0 k ea el ecc eb ef ec eo lo co gn[j] w5 (bx + 1) i _ (by have := b45.size; omega) (by omega) (own_below own b45) hx).mono ?_; rintro e w6 ⟨gg, cap6, rfl, P6⟩; (obtain ⟨f30, f31, f32, f33, f34, f35, f36, f37⟩ := (of_mid hI b45 P6 blk).cells))))
        all_goals go_wp2_with fail
        all_goals go_roundw
        all_goals first
          | exact ⟨i + 1, _, _, _, by omega, rfl, by go_num, by rw [CS.out, List.map_append]; exact of_step hI b45 P6 blk i1⟩
          | (simp [intOf]; omega)
      · obtain ⟨n, hn⟩ : ∃ n : Nat, pr sh = n := ⟨(pr sh).toNat, by omega⟩
        obtain rfl : i = n := by omega
        have HC : Hid ((pr sh).toNat = i) := by unfold Hid; omega
        have q5 := q2'.below bel
        obtain ⟨s0, s1, s2, s3, s4, s5, s6, s7⟩ := q5.cells
        have hlt5 := q5.lt
        have hl3 := q2'.lt
        have hOut : ArrOn (fun g => w.heap.size + 1 < g) wr (.agg #[.int .i64 k, .slice a1 sh.length c1, .slice va vl vc, .slice none 0 0]) (.mk k sh (cyc gn 0 i) []) := of_num_out hI hkb (by intro x hx; exact cyc_bd gbd x hx) hl3 blk i1
        clear hn
        go_wp2_with fail
        have G := give_set4 (Nat.le_succ w.heap.size) q5 hOut (bw3.trans (bel.mono bw3.size))
        obtain ⟨QW, -⟩ := set4 q5 (.int .i64 k) (.slice a1 sh.length c1) (.slice va vl vc) (.slice none 0 0)
        generalize ((((wr.setCell ⟨w.heap.size + 1, 0, none⟩ (.int .i64 k)).setCell ⟨w.heap.size + 1, 1, none⟩ (.slice a1 sh.length c1)).setCell ⟨w.heap.size + 1, 2, none⟩ (.slice va vl vc)).setCell ⟨w.heap.size + 1, 3, none⟩ (.slice none 0 0)) = WW at QW G ⊢
        obtain ⟨z0, z1, z2, z3, -⟩ := QW.cells
        rw [HC.out]
        exact bodyPost_ret (v := .tuple #[.agg #[.int .i64 k, .slice a1 sh.length c1, .slice va vl vc, .slice none 0 0], .int .i64 0]) (by simp [results, Tryd.results42, go_sem, z0, z1, z2, z3]) rfl (GiveNewE.mk G)
  · have I0 := of_start1 (W0 := w3') (k := k) (sh := sh) (e := 3) (size := 1) i1 e1
    generalize (w1.alloc (.cells #[.int .i64 k, .slice a1 sh.length c1, .slice none 0 0, .slice none 0 0] 26)) = W at I0 ⊢
    generalize w1.heap.size = bx at I0 ⊢
    clear i1 b1 e1 l1 H0
    go_wp2_with (go_at_call 40; refine (countR a cap sh _ (HG3.below I0.bel) hr).mono ?_; rintro e w4 ⟨rfl, rfl⟩)
    go_loopw [9, 10] (fun wg ix wr => ∃ (i : Nat) (va : Option Addr) (vl vc : Nat), (i : Int) ≤ pr sh ∧ wg = .int .i64 (pr sh) ∧ ix = .int .i64 i ∧ OInv w3' wr bx k sh (.slice va vl vc) (.slice none 0 0) (.slice va vl vc) 3 1 i ((cyc gn 0 i).map (Value.int .i64))) (fun _ ix _ => (pr sh - intOf ix).toNat)
    case atStart => exact ⟨0, none, 0, 0, by omega, rfl, rfl, I0⟩
    case round =>
      obtain ⟨i, va, vl, vc, hi, rfl, rfl, hI⟩ := hrel
      obtain ⟨bel, bxl, own, a1, c1, blk, i1⟩ := id hI
      obtain ⟨p0, p1, p2, p3, -⟩ := (q1'.below bel).cells
      obtain ⟨f0, f1, f2, f3, -⟩ := blk.cells
      by_cases hlt : (i : Int) < pr sh
      · have hj : i % gn.length < gn.length := Nat.mod_lt _ hn0
        have q0 : Int.tmod (i : Int) (gn.length : Int) = ((i % gn.length : Nat) : Int) := by rw [Int.tmod_eq_emod_of_nonneg (by omega)]; rfl
        have hne : (gn.length : Int) ≠ 0 := by omega
        have hwm : IntKind.i64.wrap ((i % gn.length : Nat) : Int) = ((i % gn.length : Nat) : Int) := IntWalk.i64_in _ (by omega)
        have CS : Hid (cyc gn 0 (i + 1) = cyc gn 0 i ++ [gn[i % gn.length]]) := by unfold Hid; rw [cyc_succ]; simp [hj]
        have hib : i ≤ 65536 := by omega
        generalize i % gn.length = j at q0 hwm hj CS
        have hbx := blk.lt
        go_wp2_with (go_at_call 16; refine (S _ _ (HA3.below bel)).mono ?_; rintro e w4 ⟨rfl, b4⟩; (obtain ⟨p10, p11, p12, p13, -⟩ := ((q1'.below bel).below b4).cells); (obtain ⟨f10, f11, f12, f13, -⟩ := (blk.below b4).cells))
        go_region_law ((first
          | (go_simp; refine (atR_num _ k gs gn gi j _ ((HA3.below bel).below (Below.trans b4 (Below.refl _ _).drew)) hk hj).mono ?_; intro e w5 hN; (obtain ⟨ea, el, ecc, eb, ef, ec, eo, lo, co, rfl, hx, b5⟩ := one_form hN); (have b45 : Below wr.heap.size wr w5 := Below.then b4 (Below.trans (Below.refl _ _).drew b5)); (obtain ⟨f20, f21, f22, f23, -⟩ := (blk.below b45).cells))
          | (go_simp; refine (putR_num k (by rintro rfl; cases k3) a1 _ c1 va vl vc none 0 0 k ea el ecc eb ef ec eo lo co gn[j] w5 (bx + 1) i _ (by have := b45.size; omega) (by omega) (own_below own b45) hx).mono ?_; rintro e w6 ⟨gg, cap6, rfl, P6⟩; (obtain ⟨f30, f31, f32, f33, f34, f35, f36, f37⟩ := (of_mid hI b45 P6 blk).cells))))
        all_goals go_wp2_with fail
        all_goals go_roundw
        all_goals first
          | exact ⟨i + 1, _, _, _, by omega, rfl, by go_num, by rw [CS.out, List.map_append]; exact of_step hI b45 P6 blk i1⟩
          | (simp [intOf]; omega)
      · obtain ⟨n, hn⟩ : ∃ n : Nat, pr sh = n := ⟨(pr sh).toNat, by omega⟩
        obtain rfl : i = n := by omega
        have HC : Hid ((pr sh).toNat = i) := by unfold Hid; omega
        have q5 := q2'.below bel
        obtain ⟨s0, s1, s2, s3, s4, s5, s6, s7⟩ := q5.cells
        have hlt5 := q5.lt
        have hl3 := q2'.lt
        have hOut : ArrOn (fun g => w.heap.size + 1 < g) wr (.agg #[.int .i64 k, .slice a1 sh.length c1, .slice va vl vc, .slice none 0 0]) (.mk k sh (cyc gn 0 i) []) := of_num_out hI hkb (by intro x hx; exact cyc_bd gbd x hx) hl3 blk i1
        clear hn
        go_wp2_with fail
        have G := give_set4 (Nat.le_succ w.heap.size) q5 hOut (bw3.trans (bel.mono bw3.size))
        obtain ⟨QW, -⟩ := set4 q5 (.int .i64 k) (.slice a1 sh.length c1) (.slice va vl vc) (.slice none 0 0)
        generalize ((((wr.setCell ⟨w.heap.size + 1, 0, none⟩ (.int .i64 k)).setCell ⟨w.heap.size + 1, 1, none⟩ (.slice a1 sh.length c1)).setCell ⟨w.heap.size + 1, 2, none⟩ (.slice va vl vc)).setCell ⟨w.heap.size + 1, 3, none⟩ (.slice none 0 0)) = WW at QW G ⊢
        obtain ⟨z0, z1, z2, z3, -⟩ := QW.cells
        rw [HC.out]
        exact bodyPost_ret (v := .tuple #[.agg #[.int .i64 k, .slice a1 sh.length c1, .slice va vl vc, .slice none 0 0], .int .i64 0]) (by simp [results, Tryd.results42, go_sem, z0, z1, z2, z3]) rfl (GiveNewE.mk G)

set_option maxRecDepth 100000 in
set_option maxHeartbeats 16000000 in
theorem ofR_num_fill (a : Option Addr) (cap : Nat) (sh : List Int) (v : Value) (k : Int) (fs fn : List Int) (fi : List Arr) (gs gn : List Int) (gi : List Arr) (hG : fillA k = .mk k gs gn gi) (hz : aSize (.mk k fs fn fi) = 0) (w : World) (g : IntsAt w a cap sh) (h : ArrAt w v (.mk k fs fn fi)) (hE : rightE (.mk k fs fn fi) = 0) (hD : dimsE sh = 0) (hk : k = 1 ∨ k = 2) (hn0 : 0 < gn.length) (gbd : ∀ x ∈ gn, -9223372036854775808 ≤ x ∧ x ≤ 9223372036854775807) (hr : rightB sh = true) :
    Calls Tryd.prog 42 #[.slice a sh.length cap, v] w (GiveNewE (.mk k sh (cyc gn 0 (pr sh).toNat) []) 0 w) := by
  have hA := h
  rw [ArrAt] at h
  obtain ⟨sa, sc, na, nc, ia, ic, rfl, hkb, hs, hn, h1, h2, b, off, ha, hc⟩ := h
  have bw := below_two w (.cells #[.int .i64 k, .slice sa fs.length sc, .slice na fn.length nc, .slice ia fi.length ic] 26) (.cells #[.int .i64 0, .slice none 0 0, .slice none 0 0, .slice none 0 0] 26)
  have q1 := (Quad.new w (.int .i64 k) (.slice sa fs.length sc) (.slice na fn.length nc) (.slice ia fi.length ic)).below (below_new _ (.cells #[.int .i64 0, .slice none 0 0, .slice none 0 0, .slice none 0 0] 26))
  have q2 : Quad ((w.alloc (.cells #[.int .i64 k, .slice sa fs.length sc, .slice na fn.length nc, .slice ia fi.length ic] 26)).alloc (.cells #[.int .i64 0, .slice none 0 0, .slice none 0 0, .slice none 0 0] 26)) (w.heap.size + 1) (.int .i64 0) (.slice none 0 0) (.slice none 0 0) (.slice none 0 0) := by
    simpa using Quad.new (w.alloc (.cells #[.int .i64 k, .slice sa fs.length sc, .slice na fn.length nc, .slice ia fi.length ic] 26)) (.int .i64 0) (.slice none 0 0) (.slice none 0 0) (.slice none 0 0)
  have R := fun v' w' (g : ArrAt w' v' (.mk k fs fn fi)) => rightR3 v' _ w' g
  rw [hE] at R
  have D := fun w' (g : IntsAt w' a cap sh) => dimsR a cap sh w' g
  rw [hD] at D
  have HA1 := hA.below bw
  have HG1 := g.below bw
  have HW2 : Hid (Below w.heap.size w ((w.alloc (.cells #[.int .i64 k, .slice sa fs.length sc, .slice na fn.length nc, .slice ia fi.length ic] 26)).alloc (.cells #[.int .i64 0, .slice none 0 0, .slice none 0 0, .slice none 0 0] 26))) := bw
  have r1 : sh.length * 8 ≤ 140737488351232 := by have := (right_def.1 hr).1; omega
  have S0 := fun v' w' (g : ArrAt w' v' (.mk k fs fn fi)) => sizeR v' _ w' g
  rw [hz] at S0
  have FL := fun v' w' (g : ArrAt w' v' (.mk k fs fn fi)) => fillR_new v' _ w' g
  rw [show (Arr.mk k fs fn fi).kind = k from rfl, hG] at FL
  have S := fun v' w' (g : ArrAt w' v' (.mk k gs gn gi)) => sizeR v' _ w' g
  rw [show aSize (.mk k gs gn gi) = gn.length by rcases hk with rfl | rfl <;> simp [aSize, Arr.kind, Arr.nums]] at S
  clear hE hD hs hn h1 h2 ha hc bw hz
  go_enter Tryd.func42, Tryd.ntmps42
  go_wp2_with (first
    | (go_at_call 14; refine (R _ _ HA1).mono ?_; rintro e w1 ⟨rfl, hb1⟩; (obtain ⟨p0, p1, p2, p3, -⟩ := (q1.below hb1).cells))
    | (go_at_call 39; refine (D _ (HG1.below hb1)).mono ?_; rintro e w2 ⟨rfl, rfl⟩)
    | (go_at_call 16; refine (S0 _ _ (HA1.below hb1)).mono ?_; rintro e w3 ⟨rfl, hb3⟩; (obtain ⟨p10, p11, p12, p13, -⟩ := ((q1.below hb1).below hb3).cells))
    | (go_at_call 36; refine (FL _ _ ((HA1.below hb1).below hb3)).mono ?_; intro e w4 hN; (obtain ⟨sa', sc', na', nc', ia', ic', rfl, hO, hb4⟩ := hN.typed); (obtain ⟨p20, p21, p22, p23, p24, p25, p26, p27⟩ := (((q1.below hb1).below hb3).below hb4).cells)))
  have bw4 : Below w.heap.size w w4 := Below.then (Below.then (Below.then HW2.out hb1) hb3) hb4
  have q4 := ((q1.below hb1).below hb3).below hb4
  have q24 := ((q2.below hb1).below hb3).below hb4
  have HG4 := ((HG1.below hb1).below hb3).below hb4
  obtain ⟨q1', hoth⟩ := set4 q4 (.int .i64 k) (.slice sa' gs.length sc') (.slice na' gn.length nc') (.slice ia' gi.length ic')
  have bs4 := set4_below (w := w4) (B := w.heap.size) (b := w.heap.size) (Nat.le_refl _) (.int .i64 k) (.slice sa' gs.length sc') (.slice na' gn.length nc') (.slice ia' gi.length ic')
  have q2' := q24.keep (hoth (w.heap.size + 1) (by omega))
  have l3 := (q1.below hb1).lt
  have s3 := hb3.size
  have HA3 : ArrAt _ _ (.mk k gs gn gi) := (hO.keep (R := fun _ => True) fun g hp _ => ⟨trivial, fun o => World.cell?_of_block (hoth g (by omega))⟩).at
  have bw3 := bw4.trans bs4
  have HG3 := (g.below bw3)
  generalize ((((w4.setCell ⟨w.heap.size, 0, none⟩ (.int .i64 k)).setCell ⟨w.heap.size, 1, none⟩ (.slice sa' gs.length sc')).setCell ⟨w.heap.size, 2, none⟩ (.slice na' gn.length nc')).setCell ⟨w.heap.size, 3, none⟩ (.slice ia' gi.length ic')) = w3' at q1' q2' HA3 bw3 HG3 ⊢
  clear q1 q2 HA1 HG1 HW2 R D S0 FL hb1 hb3 hb4 p0 p1 p2 p3 p10 p11 p12 p13 p20 p21 p22 p23 p24 p25 p26 p27 bw4 q4 q24 HG4 hoth bs4 l3 s3 hO hN
  have hgl : gn.length ≤ 9223372036854775807 := by rw [ArrAt] at HA3; obtain ⟨_, _, _, _, _, _, _, _, _, hnn, h1', h2', _⟩ := HA3; exact hnn.len
  have hpr := part_bd (a := sh) (b := []) (by rw [List.append_nil]; exact hr)
  have hp0 : 0 ≤ pr sh := hpr.1
  have hp1 : pr sh ≤ 65536 := hpr.2.1
  have k3 : (k == 3) = false := by rcases hk with rfl | rfl <;> rfl
  clear hpr
  obtain ⟨d0, -⟩ := q1'.cells
  have H0 : ∀ w', Below w3'.heap.size w3' w' → w'.cell? ⟨w.heap.size, 0, none⟩ = some (.int .i64 k) ∧ IntsAt w' a cap sh ∧ Below w3'.heap.size w3' w' :=
    fun w' hb => ⟨(hb.cell (cell_lt d0)).trans d0, HG3.below hb, hb⟩
  clear d0
  go_region_held_law (fun w' => w'.cell? ⟨w.heap.size, 0, none⟩ = some (.int .i64 k) ∧ IntsAt w' a cap sh ∧ Below w3'.heap.size w3' w')
    (first
      | exact H0 _ (Below.refl _ _).drew
      | exact H0 _ e1
      | exact H0 _ (Below.alloc e1 e1.size _)
      | exact H0 _ (Below.alloc (Below.refl _ _).drew (Nat.le_refl _) _)
      | exact H0 _ (Below.setCell (Below.setCell (Below.setCell (Below.setCell e1 (by first | exact Nat.le_refl _ | assumption | omega) _) (by first | exact Nat.le_refl _ | assumption | omega) _) (by first | exact Nat.le_refl _ | assumption | omega) _) (by first | exact Nat.le_refl _ | assumption | omega) _))
    (((refine step_append_ints rfl _ _ rfl rfl _ _ _ sh rfl rfl (by go_split_ands; assumption) r1 ?_)
      intro a1 c1 w1 i1 b1
      (have e1 : Below w3'.heap.size w3' w1 := by go_split_ands; exact Below.then (by assumption) b1)
      (have l1 := e1.size)
      (first
      | (have q := Quad.below b1 (Quad.new _ _ _ _ _); obtain ⟨m0, m1, m2, m3, m4, m5, m6, m7⟩ := q.cells)
      | skip)))
  rotate_left 1
  · have I0 := (of_start2 (W0 := w3'.drew) (k := k) (sh := sh) (e := 3) (size := 1) b1 i1 q).undrew
    dsimp only [World.drew] at I0
    generalize ((((w1.setCell ⟨w3'.heap.size, 0, none⟩ (.int .i64 k)).setCell ⟨w3'.heap.size, 1, none⟩ (.slice a1 sh.length c1)).setCell ⟨w3'.heap.size, 2, none⟩ (.slice none 0 0)).setCell ⟨w3'.heap.size, 3, none⟩ (.slice none 0 0)) = W at I0 ⊢
    obtain ⟨bx, hbx0⟩ : ∃ bx, bx = w3'.heap.size := ⟨_, rfl⟩
    rw [← hbx0] at I0 ⊢
    clear hbx0 i1 b1 e1 l1 H0 q m0 m1 m2 m3 m4 m5 m6 m7
    go_wp2_with (go_at_call 40; refine (countR a cap sh _ (HG3.below I0.bel) hr).mono ?_; rintro e w4 ⟨rfl, rfl⟩)
    go_loopw [9, 10] (fun wg ix wr => ∃ (i : Nat) (va : Option Addr) (vl vc : Nat), (i : Int) ≤ pr sh ∧ wg = .int .i64 (pr sh) ∧ ix = .int .i64 i ∧ OInv w3' wr bx k sh (.slice va vl vc) (.slice none 0 0) (.slice va vl vc) 3 1 i ((cyc gn 0 i).map (Value.int .i64))) (fun _ ix _ => (pr sh - intOf ix).toNat)
    case atStart => exact ⟨0, none, 0, 0, by omega, rfl, rfl, I0⟩
    case round =>
      obtain ⟨i, va, vl, vc, hi, rfl, rfl, hI⟩ := hrel
      obtain ⟨bel, bxl, own, a1, c1, blk, i1⟩ := id hI
      obtain ⟨p0, p1, p2, p3, -⟩ := (q1'.below bel).cells
      obtain ⟨f0, f1, f2, f3, -⟩ := blk.cells
      by_cases hlt : (i : Int) < pr sh
      · have hj : i % gn.length < gn.length := Nat.mod_lt _ hn0
        have q0 : Int.tmod (i : Int) (gn.length : Int) = ((i % gn.length : Nat) : Int) := by rw [Int.tmod_eq_emod_of_nonneg (by omega)]; rfl
        have hne : (gn.length : Int) ≠ 0 := by omega
        have hwm : IntKind.i64.wrap ((i % gn.length : Nat) : Int) = ((i % gn.length : Nat) : Int) := IntWalk.i64_in _ (by omega)
        have CS : Hid (cyc gn 0 (i + 1) = cyc gn 0 i ++ [gn[i % gn.length]]) := by unfold Hid; rw [cyc_succ]; simp [hj]
        have hib : i ≤ 65536 := by omega
        generalize i % gn.length = j at q0 hwm hj CS
        have hbx := blk.lt
        go_wp2_with (go_at_call 16; refine (S _ _ (HA3.below bel)).mono ?_; rintro e w4 ⟨rfl, b4⟩; (obtain ⟨p10, p11, p12, p13, -⟩ := ((q1'.below bel).below b4).cells); (obtain ⟨f10, f11, f12, f13, -⟩ := (blk.below b4).cells))
        go_region_law ((first
          | (go_simp; refine (atR_num _ k gs gn gi j _ ((HA3.below bel).below (Below.trans b4 (Below.refl _ _).drew)) hk hj).mono ?_; intro e w5 hN; (obtain ⟨ea, el, ecc, eb, ef, ec, eo, lo, co, rfl, hx, b5⟩ := one_form hN); (have b45 : Below wr.heap.size wr w5 := Below.then b4 (Below.trans (Below.refl _ _).drew b5)); (obtain ⟨f20, f21, f22, f23, -⟩ := (blk.below b45).cells))
          | (go_simp; refine (putR_num k (by rintro rfl; cases k3) a1 _ c1 va vl vc none 0 0 k ea el ecc eb ef ec eo lo co gn[j] w5 (bx + 1) i _ (by have := b45.size; omega) (by omega) (own_below own b45) hx).mono ?_; rintro e w6 ⟨gg, cap6, rfl, P6⟩; (obtain ⟨f30, f31, f32, f33, f34, f35, f36, f37⟩ := (of_mid hI b45 P6 blk).cells))))
        all_goals go_wp2_with fail
        all_goals go_roundw
        all_goals first
          | exact ⟨i + 1, _, _, _, by omega, rfl, by go_num, by rw [CS.out, List.map_append]; exact of_step hI b45 P6 blk i1⟩
          | (simp [intOf]; omega)
      · obtain ⟨n, hn⟩ : ∃ n : Nat, pr sh = n := ⟨(pr sh).toNat, by omega⟩
        obtain rfl : i = n := by omega
        have HC : Hid ((pr sh).toNat = i) := by unfold Hid; omega
        have q5 := q2'.below bel
        obtain ⟨s0, s1, s2, s3, s4, s5, s6, s7⟩ := q5.cells
        have hlt5 := q5.lt
        have hl3 := q2'.lt
        have hOut : ArrOn (fun g => w.heap.size + 1 < g) wr (.agg #[.int .i64 k, .slice a1 sh.length c1, .slice va vl vc, .slice none 0 0]) (.mk k sh (cyc gn 0 i) []) := of_num_out hI hkb (by intro x hx; exact cyc_bd gbd x hx) hl3 blk i1
        clear hn
        go_wp2_with fail
        have G := give_set4 (Nat.le_succ w.heap.size) q5 hOut (bw3.trans (bel.mono bw3.size))
        obtain ⟨QW, -⟩ := set4 q5 (.int .i64 k) (.slice a1 sh.length c1) (.slice va vl vc) (.slice none 0 0)
        generalize ((((wr.setCell ⟨w.heap.size + 1, 0, none⟩ (.int .i64 k)).setCell ⟨w.heap.size + 1, 1, none⟩ (.slice a1 sh.length c1)).setCell ⟨w.heap.size + 1, 2, none⟩ (.slice va vl vc)).setCell ⟨w.heap.size + 1, 3, none⟩ (.slice none 0 0)) = WW at QW G ⊢
        obtain ⟨z0, z1, z2, z3, -⟩ := QW.cells
        rw [HC.out]
        exact bodyPost_ret (v := .tuple #[.agg #[.int .i64 k, .slice a1 sh.length c1, .slice va vl vc, .slice none 0 0], .int .i64 0]) (by simp [results, Tryd.results42, go_sem, z0, z1, z2, z3]) rfl (GiveNewE.mk G)
  · have I0 := of_start1 (W0 := w3') (k := k) (sh := sh) (e := 3) (size := 1) i1 e1
    generalize (w1.alloc (.cells #[.int .i64 k, .slice a1 sh.length c1, .slice none 0 0, .slice none 0 0] 26)) = W at I0 ⊢
    generalize w1.heap.size = bx at I0 ⊢
    clear i1 b1 e1 l1 H0
    go_wp2_with (go_at_call 40; refine (countR a cap sh _ (HG3.below I0.bel) hr).mono ?_; rintro e w4 ⟨rfl, rfl⟩)
    go_loopw [9, 10] (fun wg ix wr => ∃ (i : Nat) (va : Option Addr) (vl vc : Nat), (i : Int) ≤ pr sh ∧ wg = .int .i64 (pr sh) ∧ ix = .int .i64 i ∧ OInv w3' wr bx k sh (.slice va vl vc) (.slice none 0 0) (.slice va vl vc) 3 1 i ((cyc gn 0 i).map (Value.int .i64))) (fun _ ix _ => (pr sh - intOf ix).toNat)
    case atStart => exact ⟨0, none, 0, 0, by omega, rfl, rfl, I0⟩
    case round =>
      obtain ⟨i, va, vl, vc, hi, rfl, rfl, hI⟩ := hrel
      obtain ⟨bel, bxl, own, a1, c1, blk, i1⟩ := id hI
      obtain ⟨p0, p1, p2, p3, -⟩ := (q1'.below bel).cells
      obtain ⟨f0, f1, f2, f3, -⟩ := blk.cells
      by_cases hlt : (i : Int) < pr sh
      · have hj : i % gn.length < gn.length := Nat.mod_lt _ hn0
        have q0 : Int.tmod (i : Int) (gn.length : Int) = ((i % gn.length : Nat) : Int) := by rw [Int.tmod_eq_emod_of_nonneg (by omega)]; rfl
        have hne : (gn.length : Int) ≠ 0 := by omega
        have hwm : IntKind.i64.wrap ((i % gn.length : Nat) : Int) = ((i % gn.length : Nat) : Int) := IntWalk.i64_in _ (by omega)
        have CS : Hid (cyc gn 0 (i + 1) = cyc gn 0 i ++ [gn[i % gn.length]]) := by unfold Hid; rw [cyc_succ]; simp [hj]
        have hib : i ≤ 65536 := by omega
        generalize i % gn.length = j at q0 hwm hj CS
        have hbx := blk.lt
        go_wp2_with (go_at_call 16; refine (S _ _ (HA3.below bel)).mono ?_; rintro e w4 ⟨rfl, b4⟩; (obtain ⟨p10, p11, p12, p13, -⟩ := ((q1'.below bel).below b4).cells); (obtain ⟨f10, f11, f12, f13, -⟩ := (blk.below b4).cells))
        go_region_law ((first
          | (go_simp; refine (atR_num _ k gs gn gi j _ ((HA3.below bel).below (Below.trans b4 (Below.refl _ _).drew)) hk hj).mono ?_; intro e w5 hN; (obtain ⟨ea, el, ecc, eb, ef, ec, eo, lo, co, rfl, hx, b5⟩ := one_form hN); (have b45 : Below wr.heap.size wr w5 := Below.then b4 (Below.trans (Below.refl _ _).drew b5)); (obtain ⟨f20, f21, f22, f23, -⟩ := (blk.below b45).cells))
          | (go_simp; refine (putR_num k (by rintro rfl; cases k3) a1 _ c1 va vl vc none 0 0 k ea el ecc eb ef ec eo lo co gn[j] w5 (bx + 1) i _ (by have := b45.size; omega) (by omega) (own_below own b45) hx).mono ?_; rintro e w6 ⟨gg, cap6, rfl, P6⟩; (obtain ⟨f30, f31, f32, f33, f34, f35, f36, f37⟩ := (of_mid hI b45 P6 blk).cells))))
        all_goals go_wp2_with fail
        all_goals go_roundw
        all_goals first
          | exact ⟨i + 1, _, _, _, by omega, rfl, by go_num, by rw [CS.out, List.map_append]; exact of_step hI b45 P6 blk i1⟩
          | (simp [intOf]; omega)
      · obtain ⟨n, hn⟩ : ∃ n : Nat, pr sh = n := ⟨(pr sh).toNat, by omega⟩
        obtain rfl : i = n := by omega
        have HC : Hid ((pr sh).toNat = i) := by unfold Hid; omega
        have q5 := q2'.below bel
        obtain ⟨s0, s1, s2, s3, s4, s5, s6, s7⟩ := q5.cells
        have hlt5 := q5.lt
        have hl3 := q2'.lt
        have hOut : ArrOn (fun g => w.heap.size + 1 < g) wr (.agg #[.int .i64 k, .slice a1 sh.length c1, .slice va vl vc, .slice none 0 0]) (.mk k sh (cyc gn 0 i) []) := of_num_out hI hkb (by intro x hx; exact cyc_bd gbd x hx) hl3 blk i1
        clear hn
        go_wp2_with fail
        have G := give_set4 (Nat.le_succ w.heap.size) q5 hOut (bw3.trans (bel.mono bw3.size))
        obtain ⟨QW, -⟩ := set4 q5 (.int .i64 k) (.slice a1 sh.length c1) (.slice va vl vc) (.slice none 0 0)
        generalize ((((wr.setCell ⟨w.heap.size + 1, 0, none⟩ (.int .i64 k)).setCell ⟨w.heap.size + 1, 1, none⟩ (.slice a1 sh.length c1)).setCell ⟨w.heap.size + 1, 2, none⟩ (.slice va vl vc)).setCell ⟨w.heap.size + 1, 3, none⟩ (.slice none 0 0)) = WW at QW G ⊢
        obtain ⟨z0, z1, z2, z3, -⟩ := QW.cells
        rw [HC.out]
        exact bodyPost_ret (v := .tuple #[.agg #[.int .i64 k, .slice a1 sh.length c1, .slice va vl vc, .slice none 0 0], .int .i64 0]) (by simp [results, Tryd.results42, go_sem, z0, z1, z2, z3]) rfl (GiveNewE.mk G)

end Go.Proofs.YtphcpolgeceljaaDoor.Shape
