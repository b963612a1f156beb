/-
  Layer 3: the program's Clone: its recursive closure.
-/
import Derived.Test.YtngcahaidlgkfaaDoorArrP7a
namespace Go.Proofs.YtngcahaidlgkfaaDoor.Shape
open Go.RowKit
set_option linter.unusedVariables false

set_option maxRecDepth 100000 in
set_option maxHeartbeats 4000000 in
theorem clQ_any (n : Nat) : ∀ (v : Value) (A : Arr) (w : World) (q : Nat), rk A ≤ n → ArrAt w v A → Reach A → isCl w q → Calls Tryd.prog 90 #[v, .pointer (some ⟨q, 0, none⟩)] w (GiveOwn A w) := by
  induction n with
  | zero =>
    intro v A w q hn _ _ _
    obtain ⟨k, sh, nu, it⟩ := A
    rw [rk] at hn; omega
  | succ n ih =>
    intro v A w q hn h hr hf
    obtain ⟨k, sh, nu, it⟩ := A
    have h' := h.on
    rw [ArrOn] at h'
    rw [Reach] at hr
    obtain ⟨r1, r2, r3, r4⟩ := hr
    obtain ⟨sa, sc, na, nc, ia, ic, rfl, hk, hs, hnn, h1, h2, b, off, ha, hc⟩ := h'
    have bw := below2 w (.cells #[.int .i64 k, .slice sa sh.length sc, .slice na nu.length nc, .slice ia it.length ic] 26) (.cells #[.int .i64 0, .slice none 0 0, .slice none 0 0, .slice none 0 0] 26)
    have q1 := (Quad.new w (.int .i64 k) (.slice sa sh.length sc) (.slice na nu.length nc) (.slice ia it.length ic)).below (below_new _ (.cells #[.int .i64 0, .slice none 0 0, .slice none 0 0, .slice none 0 0] 26))
    have q2 : Quad ((w.alloc (.cells #[.int .i64 k, .slice sa sh.length sc, .slice na nu.length nc, .slice ia it.length ic] 26)).alloc (.cells #[.int .i64 0, .slice none 0 0, .slice none 0 0, .slice none 0 0] 26)) (w.heap.size + 1) (.int .i64 0) (.slice none 0 0) (.slice none 0 0) (.slice none 0 0) := by simpa using Quad.new (w.alloc (.cells #[.int .i64 k, .slice sa sh.length sc, .slice na nu.length nc, .slice ia it.length ic] 26)) (.int .i64 0) (.slice none 0 0) (.slice none 0 0) (.slice none 0 0)
    have bz : ((w.alloc (.cells #[.int .i64 k, .slice sa sh.length sc, .slice na nu.length nc, .slice ia it.length ic] 26)).alloc (.cells #[.int .i64 0, .slice none 0 0, .slice none 0 0, .slice none 0 0] 26)).heap.size = w.heap.size + 2 := by simp
    go_enter Tryd.func90, Tryd.ntmps90
    go_upto_region 1 with fail
    generalize ((w.alloc (.cells #[.int .i64 k, .slice sa sh.length sc, .slice na nu.length nc, .slice ia it.length ic] 26)).alloc (.cells #[.int .i64 0, .slice none 0 0, .slice none 0 0, .slice none 0 0] 26)) = W0 at q1 q2 bw bz ⊢
    have BZ : Hid (W0.heap.size = w.heap.size + 2) := bz
    obtain ⟨d0, d1, d2, d3, d4, d5, d6, d7⟩ := q1.cells
    have CI := fun w' (hb : Below W0.heap.size W0 w') => copiedIQ sa sc sh w' ((hs.1.below bw).below hb) r1
    have CN := fun w' (hb : Below W0.heap.size W0 w') => copiedIQ na nc nu w' ((hnn.1.below bw).below hb) r2
    have CA := fun w' (hb : Below W0.heap.size W0 w') => copiedAQ (fun g => g < w.heap.size) ia ic b off it w' h1 h2 (fun g => (ha g).1) (hc.keep' (fun g hg _ => ⟨hg, fun _ => (Below.then bw hb).cell hg⟩) (fun g => (ha g).2)) r3
    clear bz
    go_cut [] (fun wx => ∃ (G : Nat) (a1 a2 a3 : Option Addr) (c1 c2 c3 : Nat), w.heap.size + 2 ≤ G ∧ LInv w wx G k sh nu it a1 a2 a3 c1 c2 c3 0 ∧ (it ≠ [] → a3 = some ⟨G, 0, none⟩) ∧ it.length ≤ c3 ∧ c3 ≤ 9223372036854775807)
    case first =>
      go_region_law ((first
        | (go_simp; (with_reducible refine (CI _ (Below.refl _ _).drew).mono ?_); rintro e w1 ⟨a1, c1, rfl, i1, b1⟩; (have e1 : Below W0.heap.size W0 w1 := Below.then (below_drew _) b1); (obtain ⟨f0, f1, f2, f3, f4, f5, f6, f7⟩ := (q1.below e1).cells))
        | (go_simp; (with_reducible refine (CN _ e1).mono ?_); rintro e w2 ⟨a2, c2, rfl, i2, b2⟩; (have e2 : Below W0.heap.size W0 w2 := Below.then e1 b2); (obtain ⟨g0, g1, g2, g3, g4, g5, g6, g7⟩ := (q1.below e2).cells))
        | (go_simp; (with_reducible refine (CA _ e2).mono ?_); rintro e w3 ⟨a3, c3, rfl, l1, l2, b3, n0, n1⟩; (have e3 : Below W0.heap.size W0 w3 := Below.then e2 b3); (obtain ⟨m0, m1, m2, m3, m4, m5, m6, m7⟩ := (q1.below e3).cells))))
      all_goals
        obtain ⟨G, hG, a3r⟩ : ∃ G, w2.heap.size ≤ G ∧ (it ≠ [] → a3 = some ⟨G, 0, none⟩ ∧ ∃ qs, w3.heap[G]? = some (.cells qs.toArray 26 (0, 0)) ∧ qs.length = it.length * 4 ∧ Quads (fun g => g < w.heap.size) w3 qs it ∧ ∀ u ∈ qs, u.oneCell' = true) := by
          cases a3 with
          | none => exact ⟨w2.heap.size, Nat.le_refl _, fun g => absurd (n0 rfl) g⟩
          | some ad =>
            obtain ⟨G, qs, rfl, x1, x2, x3, x4, x5⟩ := n1 ad rfl
            exact ⟨G, x1, fun _ => ⟨rfl, qs, x2, x3, x4, x5⟩⟩
        have zz := BZ.out
        have z1 := e1.size
        have z2 := b2.size
        have z3 := b3.size
        have hG2 : w.heap.size + 2 ≤ G := by omega
        have Q3 := ((((q1.below e3).set (.slice a1 sh.length c1)).2.1.set (.slice a2 nu.length c2)).2.2.1.set (.slice a3 it.length c3)).2.2.2
        have HO : ∀ g, g ≠ w.heap.size → (((w3.setCell ⟨w.heap.size, 1, none⟩ (.slice a1 sh.length c1)).setCell ⟨w.heap.size, 2, none⟩ (.slice a2 nu.length c2)).setCell ⟨w.heap.size, 3, none⟩ (.slice a3 it.length c3)).heap[g]? = w3.heap[g]? := fun g hg => by
          rw [set_other _ _ _ _ _ hg, set_other _ _ _ _ _ hg, set_other _ _ _ _ _ hg]
        have HB : Below w.heap.size w (((w3.setCell ⟨w.heap.size, 1, none⟩ (.slice a1 sh.length c1)).setCell ⟨w.heap.size, 2, none⟩ (.slice a2 nu.length c2)).setCell ⟨w.heap.size, 3, none⟩ (.slice a3 it.length c3)) :=
          Below.setCell (Below.setCell (Below.setCell (Below.then bw e3) (p := ⟨w.heap.size, 1, none⟩) (Nat.le_refl _) _) (p := ⟨w.heap.size, 2, none⟩) (Nat.le_refl _) _) (p := ⟨w.heap.size, 3, none⟩) (Nat.le_refl _) _
        generalize (((w3.setCell ⟨w.heap.size, 1, none⟩ (.slice a1 sh.length c1)).setCell ⟨w.heap.size, 2, none⟩ (.slice a2 nu.length c2)).setCell ⟨w.heap.size, 3, none⟩ (.slice a3 it.length c3)) = WA at Q3 HO HB ⊢
        have I0 : LInv w WA G k sh nu it a1 a2 a3 c1 c2 c3 0 := by
          refine ⟨Q3, (q2.below e3).keep (HO _ (by omega)), i1.keep fun g hg hl => ?_, i2.keep fun g hg hl => ?_, fun hne => ?_, HB⟩
          · have hg1 : W0.heap.size ≤ g := hg.1
            have e : WA.heap[g]? = w1.heap[g]? := (HO g (by omega)).trans ((Below.then b2 b3).block g hl)
            exact ⟨⟨by omega, by omega, thaw_of hg.2 e⟩, fun o => World.cell?_of_block e⟩
          · have hg1 := hg.1
            have e : WA.heap[g]? = w2.heap[g]? := (HO g (by omega)).trans (b3.block g hl)
            exact ⟨⟨by omega, by omega, thaw_of hg.2 e⟩, fun o => World.cell?_of_block e⟩
          · obtain ⟨-, qs, y1, y2, y3, y4⟩ := a3r hne
            exact ⟨[], qs, (HO G (by omega)).trans y1, by simp, y4, by rw [List.take_zero, Quads]; trivial, by rw [List.drop_zero]; exact y3.keep fun g hg hl => ⟨hg, fun o => World.cell?_of_block (HO g (by omega))⟩⟩
        go_wp2_with fail
        go_meet
        exact ⟨G, a1, a2, a3, c1, c2, c3, hG2, I0, (fun g => (a3r g).1), l1, l2⟩
    case rest =>
      obtain ⟨G, a1, a2, a3, c1, c2, c3, hG2, I0, ha3, l1, l2⟩ := hcut
      clear CI CN CA d0 d1 d2 d3 d4 d5 d6 d7 q1 q2
      obtain ⟨s0, s1, s2, s3, -⟩ := I0.par.cells
      go_wp2_with fail
      clear s0 s1 s2 s3
      go_loopw [21] (fun i wr => ∃ j : Nat, j ≤ it.length ∧ i = .int .i64 j ∧ LInv w wr G k sh nu it a1 a2 a3 c1 c2 c3 j) (fun i _ => it.length - (intOf i).toNat)
      case atStart => exact ⟨0, Nat.zero_le _, rfl, I0⟩
      case round =>
        obtain ⟨j, hj, rfl, hI⟩ := hrel
        clear I0
        by_cases hlt : j < it.length
        · have hne : it ≠ [] := by intro e; subst e; simp at hlt
          have hix := items_at (ic := c3) (n := it.length) rfl ha3 hlt
          obtain ⟨done, todo, hrow, hdl, hone, hq1, hq2⟩ := hI.row hne
          rw [List.drop_eq_getElem_cons hlt] at hq2
          obtain ⟨x0, x1, x2, x3, todo', rfl, hX, hq3⟩ := quads_cons hq2
          obtain ⟨ik, ia1, in1, im1, ia2, in2, im2, ia3, in3, im3, rfl, rfl, rfl, rfl⟩ := hX.at.four
          obtain ⟨y0, y1, y2, y3, -⟩ := row_cells hrow (p := j * 4) hdl
          have bI := below_new wr (.cells #[.int .i64 ik, .slice ia1 in1 im1, .slice ia2 in2 im2, .slice ia3 in3 im3] 26)
          have rI := (bI.block G (lt_of_heap hrow)).trans hrow
          have pI := hI.par.below bI
          have fI := (hf.below hI.bel).below bI
          have hK := ih _ _ (wr.alloc (.cells #[.int .i64 ik, .slice ia1 in1 im1, .slice ia2 in2 im2, .slice ia3 in3 im3] 26)).drew q (Nat.le_of_lt_succ (Nat.lt_of_lt_of_le (rk_item hlt) hn)) (hX.at.below bI).drew (r4.at hlt) fI
          unfold isCl at fI
          obtain ⟨o0, o1, o2, o3, o4⟩ := Par.new wr (.int .i64 ik) (.slice ia1 in1 im1) (.slice ia2 in2 im2) (.slice ia3 in3 im3) 26
          clear ih hne
          go_wp2_with fail
          generalize hWI : wr.alloc (.cells #[.int .i64 ik, .slice ia1 in1 im1, .slice ia2 in2 im2, .slice ia3 in3 im3] 26) = WI at bI rI pI fI hK o0 o1 o2 o3 o4 ⊢
          obtain ⟨p0, p1, p2, p3, -⟩ := pI.cells
          go_region_law ((first
            | (go_simp; (with_reducible refine hK.mono ?_); rintro e w4 ⟨ek, ea1, en1, em1, ea2, en2, em2, ea3, en3, em3, rfl, hO, b4⟩; (have b5 : Below WI.heap.size WI w4 := Below.then (below_drew _) b4); (obtain ⟨t0, t1, t2, t3, t4, t5, t6, t7⟩ := row_cells ((b5.block G (lt_of_heap rI)).trans rI) (p := j * 4) hdl); (obtain ⟨u0, u1, u2, u3, -⟩ := (pI.below b5).cells))))
          all_goals go_wp2_with fail
          all_goals go_roundw
          all_goals first
            | exact ⟨j + 1, by omega, by go_num, cl_step hI hG2 hlt hrow hdl hone hq1 hq3 (Below.then bI b5) (hO.mono fun g hg => ⟨Nat.le_trans bI.size hg.1, hg.2⟩) four_one (j * 4) rfl⟩
            | (simp [intOf]; omega)
        · obtain rfl : j = it.length := by omega
          obtain ⟨p0, p1, p2, p3, -⟩ := hI.par.cells
          obtain ⟨q0, q1, q2, q3, q4, q5, q6, q7⟩ := hI.res.cells
          go_wp2_with fail
          obtain ⟨QW, OW⟩ := set4 hI.res (.int .i64 k) (.slice a1 sh.length c1) (.slice a2 nu.length c2) (.slice a3 it.length c3)
          have BW := set4_below (w := wr) (B := w.heap.size) (b := w.heap.size + 1) (by omega) (.int .i64 k) (.slice a1 sh.length c1) (.slice a2 nu.length c2) (.slice a3 it.length c3)
          generalize ((((wr.setCell ⟨w.heap.size + 1, 0, none⟩ (.int .i64 k)).setCell ⟨w.heap.size + 1, 1, none⟩ (.slice a1 sh.length c1)).setCell ⟨w.heap.size + 1, 2, none⟩ (.slice a2 nu.length c2)).setCell ⟨w.heap.size + 1, 3, none⟩ (.slice a3 it.length c3)) = WW at QW OW BW ⊢
          obtain ⟨z0, z1, z2, z3, -⟩ := QW.cells
          exact bodyPost_ret (v := .agg #[.int .i64 k, .slice a1 sh.length c1, .slice a2 nu.length c2, .slice a3 it.length c3]) (by simp [results, Tryd.results90, go_sem, z0, z1, z2, z3]) rfl ⟨_, _, _, _, _, _, _, _, _, _, rfl, cl_end hI hk hG2 l1 l2 ha3 OW, hI.bel.trans BW⟩

end Go.Proofs.YtngcahaidlgkfaaDoor.Shape
