/-
  Layer 3: the reference's Clone.
-/
import Derived.Test.YtkjbccodahleoaaBd9
import Derived.Test.YtkjbccodahleoaaBd1
import Derived.Test.YtkjbccodahleoaaBd11
import Derived.Deep.RegionHeldLaw
import Derived.Deep.RegionLaw
import Derived.Deep.RegionHeld
import Derived.StillTactics
namespace Go.Proofs.Ytkjbccodahleoaa.Shape
open Go.RowKit

/-- What the literal of Clone reads, behind steps that keep old memory. -/
theorem held_of {w w' : World} {B : Nat} {x0 x1 x2 : Value} {sa na : Option Addr} {sc nc : Nat} {sh nu : List Int}
    (h : w.cell? ⟨B, 0, none⟩ = some x0 ∧ w.cell? ⟨B, 1, none⟩ = some x1 ∧ w.cell? ⟨B, 2, none⟩ = some x2 ∧ IntsAt w sa sc sh ∧ IntsAt w na nc nu) (hb : Below w.heap.size w w') :
    w'.cell? ⟨B, 0, none⟩ = some x0 ∧ w'.cell? ⟨B, 1, none⟩ = some x1 ∧ w'.cell? ⟨B, 2, none⟩ = some x2 ∧ IntsAt w' sa sc sh ∧ IntsAt w' na nc nu ∧ Below w.heap.size w w' :=
  ⟨(hb.cell (cell_lt h.1)).trans h.1, (hb.cell (cell_lt h.2.1)).trans h.2.1, (hb.cell (cell_lt h.2.2.1)).trans h.2.2.1, h.2.2.2.1.below hb, h.2.2.2.2.below hb, hb⟩

theorem infoArr : (Try.prog.info? 26).map (fun i => (i.zero, i.size, i.bytes)) = some (some (.agg #[.int .i64 0, .slice none 0 0, .slice none 0 0, .slice none 0 0]), 4, 80) := by kernel_rfl

set_option maxRecDepth 100000 in
set_option maxHeartbeats 8000000 in
theorem cloneR_any (n : Nat) : ∀ (v : Value) (A : Arr) (w : World), rk A ≤ n → ArrAt w v A → Reach A → Calls Try.prog 41 #[v] w (GiveNew A w) := by
  induction n with
  | zero =>
    intro v A w hn _ _
    obtain ⟨k, sh, nu, it⟩ := A
    rw [rk] at hn; omega
  | succ n ih =>
  intro v A w hn h hr
  have hA := h
  obtain ⟨k, sh, nu, it⟩ := A
  rw [ArrAt] at h
  rw [Reach] at hr
  obtain ⟨r1, r2, r3, r4⟩ := hr
  obtain ⟨sa, sc, na, nc, ia, ic, rfl, hk, hs, hnn, h1, h2, b, off, ha, hc⟩ := h
  go_enter Try.func41, Try.ntmps41
  go_wp2_with fail
  have q1 := (Quad.new w (.int .i64 k) (.slice sa sh.length sc) (.slice na nu.length nc) (.slice ia it.length ic)).below (below_new _ (.cells #[.int .i64 0, .slice none 0 0, .slice none 0 0, .slice none 0 0] 26))
  have q2 : Quad ((w.alloc (.cells #[.int .i64 k, .slice sa sh.length sc, .slice na nu.length nc, .slice ia it.length ic] 26)).alloc (.cells #[.int .i64 0, .slice none 0 0, .slice none 0 0, .slice none 0 0] 26)) (w.heap.size + 1) (.int .i64 0) (.slice none 0 0) (.slice none 0 0) (.slice none 0 0) := by simpa using Quad.new (w.alloc (.cells #[.int .i64 k, .slice sa sh.length sc, .slice na nu.length nc, .slice ia it.length ic] 26)) (.int .i64 0) (.slice none 0 0) (.slice none 0 0) (.slice none 0 0)
  have bw : Below w.heap.size w ((w.alloc (.cells #[.int .i64 k, .slice sa sh.length sc, .slice na nu.length nc, .slice ia it.length ic] 26)).alloc (.cells #[.int .i64 0, .slice none 0 0, .slice none 0 0, .slice none 0 0] 26)) := ((Below.refl _ _).alloc (Nat.le_refl _) _).alloc (by simp) _
  have bz : Hid (((w.alloc (.cells #[.int .i64 k, .slice sa sh.length sc, .slice na nu.length nc, .slice ia it.length ic] 26)).alloc (.cells #[.int .i64 0, .slice none 0 0, .slice none 0 0, .slice none 0 0] 26)).heap.size = w.heap.size + 2) := by unfold Hid; simp
  generalize ((w.alloc (.cells #[.int .i64 k, .slice sa sh.length sc, .slice na nu.length nc, .slice ia it.length ic] 26)).alloc (.cells #[.int .i64 0, .slice none 0 0, .slice none 0 0, .slice none 0 0] 26)) = W0 at q1 q2 bw bz ⊢
  obtain ⟨d0, d1, d2, -⟩ := q1.cells
  have H0 : ∀ w', Below W0.heap.size W0 w' → w'.cell? ⟨w.heap.size, 0, none⟩ = some (.int .i64 k) ∧ w'.cell? ⟨w.heap.size, 1, none⟩ = some (.slice sa sh.length sc) ∧ w'.cell? ⟨w.heap.size, 2, none⟩ = some (.slice na nu.length nc) ∧ IntsAt w' sa sc sh ∧ IntsAt w' na nc nu ∧ Below W0.heap.size W0 w' :=
    fun w' hb => held_of ⟨d0, d1, d2, hs.below bw, hnn.below bw⟩ hb
  have q1' : Hid (Quad W0 w.heap.size (.int .i64 k) (.slice sa sh.length sc) (.slice na nu.length nc) (.slice ia it.length ic)) := q1
  have q2' : Hid (Quad W0 (w.heap.size + 1) (.int .i64 0) (.slice none 0 0) (.slice none 0 0) (.slice none 0 0)) := q2
  clear q1 q2 d0 d1 d2
  go_region_held_law (fun w' => w'.cell? ⟨w.heap.size, 0, none⟩ = some (.int .i64 k) ∧ w'.cell? ⟨w.heap.size, 1, none⟩ = some (.slice sa sh.length sc) ∧ w'.cell? ⟨w.heap.size, 2, none⟩ = some (.slice na nu.length nc) ∧ IntsAt w' sa sc sh ∧ IntsAt w' na nc nu ∧ Below W0.heap.size W0 w')
    (first
      | exact H0 _ (Below.refl _ _).drew
      | exact H0 _ e1
      | exact H0 _ (Below.alloc e1 e1.size _)
      | exact H0 _ (Below.alloc (Below.refl _ _).drew (Nat.le_refl _) _)
      | exact H0 _ (Below.setCell (Below.setCell (Below.setCell (Below.setCell e1 (by first | exact Nat.le_refl _ | assumption | omega) _) (by first | exact Nat.le_refl _ | assumption | omega) _) (by first | exact Nat.le_refl _ | assumption | omega) _) (by first | exact Nat.le_refl _ | assumption | omega) _))
    (((first
      | (refine step_append_ints rfl _ _ rfl rfl _ _ _ sh rfl rfl (by go_split_ands; assumption) r1 ?_)
      | (refine step_append_ints rfl _ _ rfl rfl _ _ _ nu rfl rfl (by go_split_ands; assumption) r2 ?_))
      intro a1 c1 w1 i1 b1
      (have e1 : Below W0.heap.size W0 w1 := by go_split_ands; exact Below.then (by assumption) b1)
      (have l1 := e1.size)
      (first
      | (have q := Quad.below b1 (Quad.new _ _ _ _ _); obtain ⟨m0, m1, m2, m3, m4, m5, m6, m7⟩ := q.cells)
      | (have q := Quad.below b1 (by assumption : Quad _ _ (.int .i64 0) (.slice none 0 0) (.slice none 0 0) (.slice none 0 0)); obtain ⟨m0, m1, m2, m3, m4, m5, m6, m7⟩ := q.cells)
      | skip)))
  rotate_left 2
  · have st := Start.undrew (start3 (W0 := W0.drew) (k := k) (sh := sh) (by assumption) (by assumption) b1 q i1)
    dsimp only [World.drew] at st
    go_wp2_with fail
    obtain ⟨W, hW, st⟩ : ∃ W, W = _ ∧ Start W0 W _ k sh nu := ⟨_, rfl, st⟩
    obtain ⟨bx, hb, st⟩ : ∃ bx, bx = _ ∧ Start W0 W bx k sh nu := ⟨_, rfl, st⟩
    simp only [← hW]
    simp only [← hb]
    clear hW hb i1 b1 e1 l1 q m0 m1 m2 m3 m4 m5 m6 m7 H0
    have I0 := st.inv bw bz.out q1'.out q2'.out
    clear q1' q2' bw bz st
    obtain ⟨i0, hi0, hz0, hz1, hz2⟩ := info_parts infoArr
    go_loopw [4] (fun i wr => ∃ (j : Nat) (v : Value), j ≤ it.length ∧ i = .int .i64 j ∧ CInv w wr bx (.int .i64 k) (.slice sa sh.length sc) (.slice na nu.length nc) (.slice ia it.length ic) k sh nu (it.take j) v) (fun i _ => it.length - (intOf i).toNat)
    case atStart => exact ⟨0, _, Nat.zero_le _, rfl, by rw [List.take_zero]; exact I0⟩
    case round =>
      obtain ⟨j, v, hj, rfl, hI⟩ := hrel
      obtain ⟨bxl, par, res, ⟨qs, ho, hq⟩, ⟨a1, d1, a2, d2, blk, k1, k2⟩, bel⟩ := id hI
      obtain ⟨p0, p1, p2, p3, -, -, -, p7⟩ := par.cells
      obtain ⟨f0, f1, f2, f3, -, -, -, f7⟩ := blk.cells
      have hbx := blk.lt
      by_cases hlt : j < it.length
      · have hix := items_at (ic := ic) rfl ha hlt
        obtain ⟨c0, c1, c2, c3, ⟨g0, g1, g2, g3⟩, hB⟩ := (ArrsAt.below bel hc).at hlt
        have hlen : (it.take j).length = j := by rw [List.length_take]; omega
        rw [hlen] at ho
        have TK : Hid (it.take (j + 1) = it.take j ++ [it[j]]) := by unfold Hid; rw [List.take_succ_eq_append_getElem hlt]
        go_wp2_with fail
        go_region_law ((first
          | (refine step_append_lies _ (by rfl) _ _ _ (by rfl) (bx + 1) 26 i0 _ 4 80 Try.underlying24 hi0 hz0 hz1 hz2 rfl (by omega) v j qs (by rfl) (own_alloc ho b2 _) ⟨w1.heap.size, 0, none⟩ 1 1 [e0, e1, e2, e3] (by rfl) (by rfl) (World.news_of_block (cs := #[e0, e1, e2, e3]) (t := 26) (fr := (0, 0)) (heap_alloc_new w1 _)) oc (by omega) (by unfold maxLen; omega) (by omega) (by have := b2.size; simp; omega) (w1.heap.size + 1) (by simp) ?_; intro gg cap w2 hown hgrow hat hl2; (obtain ⟨t0, t1, t2, t3, -, -, -, t7⟩ := (clone_mid blk (Nat.le_refl _) ho b2 hgrow).cells))
          | (go_simp; refine (ih _ _ _ (Nat.le_of_lt_succ (Nat.lt_of_lt_of_le (rk_item hlt) hn)) (hB.below (Below.refl _ _).drew) (r4.at hlt)).mono ?_; rintro e w1 ⟨e0, e1, e2, e3, rfl, oc, hN, b1⟩; (have b2 : Below wr.heap.size wr w1 := Below.trans (Below.refl _ _).drew b1); (obtain ⟨u0, u1, u2, u3, -, -, -, u7⟩ := (blk.below b2).cells); (have u9 : (w1.alloc (.cells #[e0, e1, e2, e3] 26)).cell? ⟨bx, 3, none⟩ = some v := by rw [World.cell?_alloc_past _ _ _ (cell_lt u3)]; exact u3))))
        all_goals go_wp2_with fail
        all_goals go_roundw
        all_goals first
          | exact ⟨j + 1, _, by omega, by go_num, by rw [TK.out]; exact clone_step hI (by rw [hlen]; exact ho) hq b2 hN (by rw [hlen]) hown hgrow hat⟩
          | (simp [intOf]; omega)
      · obtain rfl : j = it.length := by omega
        rw [List.take_length] at hI
        obtain ⟨av, mv, cv, rfl⟩ := own_form ho
        obtain ⟨q0, q1, q2, q3, q4, q5, q6, q7⟩ := res.cells
        go_wp2_with fail
        obtain ⟨QW, OW⟩ := set4 res (.int .i64 k) (.slice a1 sh.length d1) (.slice a2 nu.length d2) (.slice av mv cv)
        have BW := set4_below (w := wr) (B := w.heap.size) (b := w.heap.size + 1) (by omega) (.int .i64 k) (.slice a1 sh.length d1) (.slice a2 nu.length d2) (.slice av mv cv)
        generalize ((((wr.setCell ⟨w.heap.size + 1, 0, none⟩ (.int .i64 k)).setCell ⟨w.heap.size + 1, 1, none⟩ (.slice a1 sh.length d1)).setCell ⟨w.heap.size + 1, 2, none⟩ (.slice a2 nu.length d2)).setCell ⟨w.heap.size + 1, 3, none⟩ (.slice av mv cv)) = WW at QW OW BW ⊢
        obtain ⟨z0, z1, z2, z3, -⟩ := QW.cells
        exact bodyPost_ret (v := .agg #[.int .i64 k, .slice a1 sh.length d1, .slice a2 nu.length d2, .slice av mv cv]) (by simp [results, Try.results41, go_sem, z0, z1, z2, z3]) rfl (GiveNew.mk (clone_end hI hk OW blk k1 k2) (bel.trans BW))
  · have st := start1 (W0 := W0) (k := k) (sh := sh) (by assumption) (by assumption) b1 i1
    go_wp2_with fail
    obtain ⟨W, hW, st⟩ : ∃ W, W = _ ∧ Start W0 W _ k sh nu := ⟨_, rfl, st⟩
    obtain ⟨bx, hb, st⟩ : ∃ bx, bx = _ ∧ Start W0 W bx k sh nu := ⟨_, rfl, st⟩
    simp only [← hW]
    simp only [← hb]
    clear hW hb i1 b1 e1 l1 q m0 m1 m2 m3 m4 m5 m6 m7 H0
    have I0 := st.inv bw bz.out q1'.out q2'.out
    clear q1' q2' bw bz st
    obtain ⟨i0, hi0, hz0, hz1, hz2⟩ := info_parts infoArr
    go_loopw [4] (fun i wr => ∃ (j : Nat) (v : Value), j ≤ it.length ∧ i = .int .i64 j ∧ CInv w wr bx (.int .i64 k) (.slice sa sh.length sc) (.slice na nu.length nc) (.slice ia it.length ic) k sh nu (it.take j) v) (fun i _ => it.length - (intOf i).toNat)
    case atStart => exact ⟨0, _, Nat.zero_le _, rfl, by rw [List.take_zero]; exact I0⟩
    case round =>
      obtain ⟨j, v, hj, rfl, hI⟩ := hrel
      obtain ⟨bxl, par, res, ⟨qs, ho, hq⟩, ⟨a1, d1, a2, d2, blk, k1, k2⟩, bel⟩ := id hI
      obtain ⟨p0, p1, p2, p3, -, -, -, p7⟩ := par.cells
      obtain ⟨f0, f1, f2, f3, -, -, -, f7⟩ := blk.cells
      have hbx := blk.lt
      by_cases hlt : j < it.length
      · have hix := items_at (ic := ic) rfl ha hlt
        obtain ⟨c0, c1, c2, c3, ⟨g0, g1, g2, g3⟩, hB⟩ := (ArrsAt.below bel hc).at hlt
        have hlen : (it.take j).length = j := by rw [List.length_take]; omega
        rw [hlen] at ho
        have TK : Hid (it.take (j + 1) = it.take j ++ [it[j]]) := by unfold Hid; rw [List.take_succ_eq_append_getElem hlt]
        go_wp2_with fail
        go_region_law ((first
          | (refine step_append_lies _ (by rfl) _ _ _ (by rfl) (bx + 1) 26 i0 _ 4 80 Try.underlying24 hi0 hz0 hz1 hz2 rfl (by omega) v j qs (by rfl) (own_alloc ho b2 _) ⟨w1.heap.size, 0, none⟩ 1 1 [e0, e1, e2, e3] (by rfl) (by rfl) (World.news_of_block (cs := #[e0, e1, e2, e3]) (t := 26) (fr := (0, 0)) (heap_alloc_new w1 _)) oc (by omega) (by unfold maxLen; omega) (by omega) (by have := b2.size; simp; omega) (w1.heap.size + 1) (by simp) ?_; intro gg cap w2 hown hgrow hat hl2; (obtain ⟨t0, t1, t2, t3, -, -, -, t7⟩ := (clone_mid blk (Nat.le_refl _) ho b2 hgrow).cells))
          | (go_simp; refine (ih _ _ _ (Nat.le_of_lt_succ (Nat.lt_of_lt_of_le (rk_item hlt) hn)) (hB.below (Below.refl _ _).drew) (r4.at hlt)).mono ?_; rintro e w1 ⟨e0, e1, e2, e3, rfl, oc, hN, b1⟩; (have b2 : Below wr.heap.size wr w1 := Below.trans (Below.refl _ _).drew b1); (obtain ⟨u0, u1, u2, u3, -, -, -, u7⟩ := (blk.below b2).cells); (have u9 : (w1.alloc (.cells #[e0, e1, e2, e3] 26)).cell? ⟨bx, 3, none⟩ = some v := by rw [World.cell?_alloc_past _ _ _ (cell_lt u3)]; exact u3))))
        all_goals go_wp2_with fail
        all_goals go_roundw
        all_goals first
          | exact ⟨j + 1, _, by omega, by go_num, by rw [TK.out]; exact clone_step hI (by rw [hlen]; exact ho) hq b2 hN (by rw [hlen]) hown hgrow hat⟩
          | (simp [intOf]; omega)
      · obtain rfl : j = it.length := by omega
        rw [List.take_length] at hI
        obtain ⟨av, mv, cv, rfl⟩ := own_form ho
        obtain ⟨q0, q1, q2, q3, q4, q5, q6, q7⟩ := res.cells
        go_wp2_with fail
        obtain ⟨QW, OW⟩ := set4 res (.int .i64 k) (.slice a1 sh.length d1) (.slice a2 nu.length d2) (.slice av mv cv)
        have BW := set4_below (w := wr) (B := w.heap.size) (b := w.heap.size + 1) (by omega) (.int .i64 k) (.slice a1 sh.length d1) (.slice a2 nu.length d2) (.slice av mv cv)
        generalize ((((wr.setCell ⟨w.heap.size + 1, 0, none⟩ (.int .i64 k)).setCell ⟨w.heap.size + 1, 1, none⟩ (.slice a1 sh.length d1)).setCell ⟨w.heap.size + 1, 2, none⟩ (.slice a2 nu.length d2)).setCell ⟨w.heap.size + 1, 3, none⟩ (.slice av mv cv)) = WW at QW OW BW ⊢
        obtain ⟨z0, z1, z2, z3, -⟩ := QW.cells
        exact bodyPost_ret (v := .agg #[.int .i64 k, .slice a1 sh.length d1, .slice a2 nu.length d2, .slice av mv cv]) (by simp [results, Try.results41, go_sem, z0, z1, z2, z3]) rfl (GiveNew.mk (clone_end hI hk OW blk k1 k2) (bel.trans BW))
  · have st := start2 (W0 := W0) (k := k) (sh := sh) (by assumption) (by assumption) b1 q i1
    go_wp2_with fail
    obtain ⟨W, hW, st⟩ : ∃ W, W = _ ∧ Start W0 W _ k sh nu := ⟨_, rfl, st⟩
    obtain ⟨bx, hb, st⟩ : ∃ bx, bx = _ ∧ Start W0 W bx k sh nu := ⟨_, rfl, st⟩
    simp only [← hW]
    simp only [← hb]
    clear hW hb i1 b1 e1 l1 q m0 m1 m2 m3 m4 m5 m6 m7 H0
    have I0 := st.inv bw bz.out q1'.out q2'.out
    clear q1' q2' bw bz st
    obtain ⟨i0, hi0, hz0, hz1, hz2⟩ := info_parts infoArr
    go_loopw [4] (fun i wr => ∃ (j : Nat) (v : Value), j ≤ it.length ∧ i = .int .i64 j ∧ CInv w wr bx (.int .i64 k) (.slice sa sh.length sc) (.slice na nu.length nc) (.slice ia it.length ic) k sh nu (it.take j) v) (fun i _ => it.length - (intOf i).toNat)
    case atStart => exact ⟨0, _, Nat.zero_le _, rfl, by rw [List.take_zero]; exact I0⟩
    case round =>
      obtain ⟨j, v, hj, rfl, hI⟩ := hrel
      obtain ⟨bxl, par, res, ⟨qs, ho, hq⟩, ⟨a1, d1, a2, d2, blk, k1, k2⟩, bel⟩ := id hI
      obtain ⟨p0, p1, p2, p3, -, -, -, p7⟩ := par.cells
      obtain ⟨f0, f1, f2, f3, -, -, -, f7⟩ := blk.cells
      have hbx := blk.lt
      by_cases hlt : j < it.length
      · have hix := items_at (ic := ic) rfl ha hlt
        obtain ⟨c0, c1, c2, c3, ⟨g0, g1, g2, g3⟩, hB⟩ := (ArrsAt.below bel hc).at hlt
        have hlen : (it.take j).length = j := by rw [List.length_take]; omega
        rw [hlen] at ho
        have TK : Hid (it.take (j + 1) = it.take j ++ [it[j]]) := by unfold Hid; rw [List.take_succ_eq_append_getElem hlt]
        go_wp2_with fail
        go_region_law ((first
          | (refine step_append_lies _ (by rfl) _ _ _ (by rfl) (bx + 1) 26 i0 _ 4 80 Try.underlying24 hi0 hz0 hz1 hz2 rfl (by omega) v j qs (by rfl) (own_alloc ho b2 _) ⟨w1.heap.size, 0, none⟩ 1 1 [e0, e1, e2, e3] (by rfl) (by rfl) (World.news_of_block (cs := #[e0, e1, e2, e3]) (t := 26) (fr := (0, 0)) (heap_alloc_new w1 _)) oc (by omega) (by unfold maxLen; omega) (by omega) (by have := b2.size; simp; omega) (w1.heap.size + 1) (by simp) ?_; intro gg cap w2 hown hgrow hat hl2; (obtain ⟨t0, t1, t2, t3, -, -, -, t7⟩ := (clone_mid blk (Nat.le_refl _) ho b2 hgrow).cells))
          | (go_simp; refine (ih _ _ _ (Nat.le_of_lt_succ (Nat.lt_of_lt_of_le (rk_item hlt) hn)) (hB.below (Below.refl _ _).drew) (r4.at hlt)).mono ?_; rintro e w1 ⟨e0, e1, e2, e3, rfl, oc, hN, b1⟩; (have b2 : Below wr.heap.size wr w1 := Below.trans (Below.refl _ _).drew b1); (obtain ⟨u0, u1, u2, u3, -, -, -, u7⟩ := (blk.below b2).cells); (have u9 : (w1.alloc (.cells #[e0, e1, e2, e3] 26)).cell? ⟨bx, 3, none⟩ = some v := by rw [World.cell?_alloc_past _ _ _ (cell_lt u3)]; exact u3))))
        all_goals go_wp2_with fail
        all_goals go_roundw
        all_goals first
          | exact ⟨j + 1, _, by omega, by go_num, by rw [TK.out]; exact clone_step hI (by rw [hlen]; exact ho) hq b2 hN (by rw [hlen]) hown hgrow hat⟩
          | (simp [intOf]; omega)
      · obtain rfl : j = it.length := by omega
        rw [List.take_length] at hI
        obtain ⟨av, mv, cv, rfl⟩ := own_form ho
        obtain ⟨q0, q1, q2, q3, q4, q5, q6, q7⟩ := res.cells
        go_wp2_with fail
        obtain ⟨QW, OW⟩ := set4 res (.int .i64 k) (.slice a1 sh.length d1) (.slice a2 nu.length d2) (.slice av mv cv)
        have BW := set4_below (w := wr) (B := w.heap.size) (b := w.heap.size + 1) (by omega) (.int .i64 k) (.slice a1 sh.length d1) (.slice a2 nu.length d2) (.slice av mv cv)
        generalize ((((wr.setCell ⟨w.heap.size + 1, 0, none⟩ (.int .i64 k)).setCell ⟨w.heap.size + 1, 1, none⟩ (.slice a1 sh.length d1)).setCell ⟨w.heap.size + 1, 2, none⟩ (.slice a2 nu.length d2)).setCell ⟨w.heap.size + 1, 3, none⟩ (.slice av mv cv)) = WW at QW OW BW ⊢
        obtain ⟨z0, z1, z2, z3, -⟩ := QW.cells
        exact bodyPost_ret (v := .agg #[.int .i64 k, .slice a1 sh.length d1, .slice a2 nu.length d2, .slice av mv cv]) (by simp [results, Try.results41, go_sem, z0, z1, z2, z3]) rfl (GiveNew.mk (clone_end hI hk OW blk k1 k2) (bel.trans BW))

theorem cloneR (v : Value) (A : Arr) (w : World) (h : ArrAt w v A) (hr : Reach A) : Calls Try.prog 41 #[v] w (GiveNew A w) := cloneR_any (rk A) v A w (Nat.le_refl _) h hr
end Go.Proofs.Ytkjbccodahleoaa.Shape
