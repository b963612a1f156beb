/-
  The law arraylanglaw04.CellKeeps holds for every input: it returns true, and each argument reads afterwards as it read before. No condition.
-/
import Derived.Test.YtblgpnijiefopaaBd24
import Derived.Test.YtblgpnijiefopaaBd30
import Derived.Test.YtblgpnijiefopaaBd32
import Derived.Test.YtblgpnijiefopaaBd31
import Derived.Test.YtblgpnijiefopaaBd20
import Derived.Test.YtblgpnijiefopaaBd21
import Derived.Test.YtblgpnijiefopaaBd26
import Derived.Test.YtblgpnijiefopaaBd8
import Derived.SizedLaws
import Derived.Handy
import Derived.Deep.RegionHeld3
import Derived.ProofKit
import Derived.OpenShut
namespace Go.Proofs.Ytblgpnijiefopaa.cellKeepsProof
open Go.ChangeShapes Go.WideShapes Go.ChangeAt Go.RowKit Go.Proofs.Ytblgpnijiefopaa.Shape
open Go.WideMaps Go.WideElems
open Go.ChangeMaps (open_string shut_string)
set_option linter.unusedVariables false

theorem own : ownKnob Try.prog.godebug = none := by kernel_rfl
theorem laidOut : laidOutB Try.prog = true := by kernel_rfl

set_option maxRecDepth 100000 in
set_option maxHeartbeats 4000000 in
theorem walk (v0 : Value) (x0 : Arr) (a1 : Int) (w : World) (b0 : ArrAt w v0 x0) (s0 : Shape.Reach x0) (b1 : 0 ≤ a1 ∧ a1 ≤ 255) :
    Calls Try.prog 7 #[v0, .int .u8 a1] w fun e w' => e = .returned (.bool true) ∧ Below w.heap.size w w' := by
  obtain ⟨k, sa, sc, na, nc, ia, ic, rfl, b3⟩ : ∃ k sa sc na nc ia ic, v0 = .agg #[.int .i64 k, .slice sa x0.shape.length sc, .slice na x0.nums.length nc, .slice ia x0.items.length ic] ∧ (IntsAt w sa sc x0.shape ∧ IntsAt w na nc x0.nums ∧ k = x0.kind) := by
    have h := b0
    obtain ⟨k, sh, nu, it⟩ := x0
    rw [ArrAt] at h
    obtain ⟨sa, sc, na, nc, ia, ic, rfl, -, hs, hn, -⟩ := h
    exact ⟨_, _, _, _, _, _, _, rfl, hs, hn, rfl⟩
  obtain ⟨hs, hn, hkk⟩ := b3
  have bw := below_new w (.cells #[.int .i64 k, .slice sa x0.shape.length sc, .slice na x0.nums.length nc, .slice ia x0.items.length ic] 26)
  have q0 := Quad.new w (.int .i64 k) (.slice sa x0.shape.length sc) (.slice na x0.nums.length nc) (.slice ia x0.items.length ic)
  have hA := b0.below bw
  obtain ⟨x, hx⟩ : ∃ x, rightE x0 = x := ⟨_, rfl⟩
  have R := fun v' w' (g : ArrAt w' v' x0) => rightR3 v' x0 w' g
  rw [hx] at R
  have HKK : Hid (k = x0.kind) := hkk
  clear hkk
  go_enter Try.func7, Try.ntmps7
  go_wp2_with fail
  generalize hW0 : w.alloc (.cells #[.int .i64 k, .slice sa x0.shape.length sc, .slice na x0.nums.length nc, .slice ia x0.items.length ic] 26) = W0 at *
  clear hW0
  go_at_call 15
  refine (fewLX _ _ 300 W0 hA).mono ?_
  rintro e w1 ⟨t1, rfl, c1, hfew⟩
  have B1 := Below.then bw c1
  have hA1 := hA.below c1
  have Q1 := q0.below c1
  cases t1 with
  | false =>
    clear hfew
    go_wp2_with (go_at_call 16; refine (awakeL _).mono ?_; rintro e wA ⟨rfl, bA⟩)
    go_ret
    exact ⟨rfl, Below.then B1 bA⟩
  | true =>
    have HFw : Hid (x0.items = [] → (x0.nums.length : Int) ≤ 300) := hfew rfl
    clear hfew q0 hA c1
    obtain ⟨p0, p1, p2, p3, -⟩ := Q1.cells
    by_cases hx0 : x = 0
    · subst hx0
      have PQ := fun v' w' (g : ArrAt w' v' x0) (g2 : IntsAt w' sa sc x0.shape) => padQ v' x0 sa sc x0.shape w' g g2 s0
      rw [padA_self hx] at PQ
      have hs1 := hs.below B1
      have HX : Hid (rightE x0 = 0) := hx
      have hl8 : x0.shape.length ≤ 8 := (right_def.1 (right_short hx)).1
      clear hx
      go_wp2_with (first
        | (go_at_call 28; refine (R _ _ hA1).mono ?_; rintro e w2 ⟨rfl, c2⟩; (obtain ⟨r0, r1, r2, r3, -⟩ := (Q1.below c2).cells))
        | (go_at_call 23; refine (PQ _ _ (hA1.below c2) (hs1.below c2)).mono ?_; intro e w3 hN3; (obtain ⟨k3, sa3, ls3, sc3, na3, ln3, nc3, ia3, li3, ic3, rfl, h3, b3⟩ := hN3.form); (have bn3 := below_new w3 (.cells #[.int .i64 k3, .slice sa3 ls3 sc3, .slice na3 ln3 nc3, .slice ia3 li3 ic3] 26)); (obtain ⟨u0, u1, u2, u3, -⟩ := (((Q1.below c2).below b3).below bn3).cells); (obtain ⟨t0, t1, t2, t3, -⟩ := (Quad.new w3 (.int .i64 k3) (.slice sa3 ls3 sc3) (.slice na3 ln3 nc3) (.slice ia3 li3 ic3)).cells))
        | (go_at_call 25; refine (sameRX (h3.below bn3) (((hA1.below c2).below b3).below bn3)).mono ?_; rintro e w4 ⟨rfl, b4⟩))
      have E4 := Below.then (Below.then (Below.then c2 b3) bn3) b4
      have Q4 := Q1.below E4
      have hA4 := hA1.below E4
      have B4 := Below.then B1 E4
      have hs4 := hs.below B4
      clear p0 p1 p2 p3 r0 r1 r2 r3 u0 u1 u2 u3 t0 t1 t2 t3 bn3 h3 hN3 c2 b3 b4 E4 Q1 hA1 hs1 B1 R PQ
      go_loopw [7] (fun i wr => ∃ j : Nat, j ≤ x0.shape.length ∧ i = .int .i64 j ∧ wr = w4 ∧ ∀ i' (h : i' < x0.shape.length), i' < j → x0.shape[i'] ≤ 40) (fun i _ => x0.shape.length - (intOf i).toNat)
      case atStart => exact ⟨0, Nat.zero_le _, rfl, rfl, fun i' _ h => absurd h (Nat.not_lt_zero _)⟩
      case round =>
        obtain ⟨j, hj, rfl, rfl, hall⟩ := hrel
        have HALL : Hid (∀ i' (h : i' < x0.shape.length), i' < j → x0.shape[i'] ≤ 40) := hall
        clear hall
        obtain ⟨p0, p1, p2, p3, -⟩ := Q4.cells
        by_cases hlt : j < x0.shape.length
        · obtain ⟨fb, fo, hi, hc⟩ := hs4.at hlt
          obtain ⟨y, hy⟩ : ∃ y, x0.shape[j] = y := ⟨_, rfl⟩
          rw [hy] at hc
          have HY : Hid (x0.shape[j] = y) := hy
          clear hy
          by_cases h40 : 40 < y
          · go_wp2_with (go_at_call 16; refine (awakeL _).mono ?_; rintro e wA ⟨rfl, bA⟩)
            go_ret
            exact ⟨rfl, Below.then B4 bA⟩
          · have h41 : y ≤ 40 := by omega
            go_wp2_with fail
            go_roundw
            case rel => exact ⟨j + 1, by omega, by go_num, by first | rfl | trivial, fun i' h h2 => by
              rcases Nat.lt_succ_iff_lt_or_eq.1 h2 with h3 | h3
              · exact HALL.out i' h h3
              · subst h3; rw [HY.out]; exact h41⟩
            case measure => simp [intOf]; omega
        · obtain rfl : j = x0.shape.length := by omega
          by_cases h0 : x0.shape.length < 1
          · have e0 : ((x0.shape.length : Int) == 0) = true := beq_iff_eq.2 (by omega)
            go_wp2_with (go_at_call 16; refine (awakeL _).mono ?_; rintro e wA ⟨rfl, bA⟩)
            go_ret
            exact ⟨rfl, Below.then B4 bA⟩
          have e0 : ((x0.shape.length : Int) == 0) = false := beq_eq_false_iff_ne.2 (by omega)
          by_cases h3 : 3 < x0.shape.length
          · go_wp2_with (go_at_call 16; refine (awakeL _).mono ?_; rintro e wA ⟨rfl, bA⟩)
            go_ret
            exact ⟨rfl, Below.then B4 bA⟩
          by_cases hk3 : k = 3
          · have kb : (k == 3) = true := by rw [hk3]; rfl
            clear hk3
            go_wp2_with (go_at_call 16; refine (awakeL _).mono ?_; rintro e wA ⟨rfl, bA⟩)
            go_ret
            exact ⟨rfl, Below.then B4 bA⟩
          have kb : (k == 3) = false := by simpa using hk3
          have hk3' : x0.kind ≠ 3 := by rw [← HKK.out]; exact hk3
          clear hk3
          obtain ⟨f, ts, hsh⟩ : ∃ f ts, x0.shape = f :: ts := by
            cases hh : x0.shape with
            | nil => rw [hh] at h0; simp at h0
            | cons f ts => exact ⟨f, ts, rfl⟩
          obtain ⟨m, t, hm, hmt, hft, hf40, ht59, hl2, hright, hf0⟩ := keep_rows HX.out hk3' hsh HALL.out h3 HFw.out b1
          obtain ⟨M, hpad, hM⟩ := padA_rows HX.out hk3' hsh hft hright
          have PQ := fun va vc v' w' (g : ArrAt w' v' x0) (g2 : IntsAt w' va vc (t :: ts)) => padQ v' x0 va vc (t :: ts) w' g g2 s0
          rw [hpad] at PQ
          have hz12 : x0.kind = 1 ∨ x0.kind = 2 := by have := (right_lens HX.out).2.2.2.2; omega
          have HF := fun v' w' (g : ArrAt w' v' x0) => fillR v' x0 w' g
          rw [fillA_num hz12] at HF
          obtain ⟨z, hz⟩ : ∃ z, fillZ x0.kind = z := ⟨_, rfl⟩
          rw [hz] at PQ HF
          have HSH : Hid (x0.shape = f :: ts) := hsh
          have hs5 : IntsOn (fun _ => True) wr sa sc (f :: ts) := ⟨hsh ▸ hs4, fun _ _ _ => trivial⟩
          obtain ⟨ta, tc, hT, hTr⟩ := tailOn hs5 (L := x0.shape.length) (M := ts.length) (by rw [hsh]) rfl
          obtain ⟨fb, fo, hfi, hfc, -⟩ := firstAt hs5 (L := x0.shape.length) (by rw [hsh])
          have hT1 := hT.1
          have hn4 := hn.below B4
          clear hpad hright hz12 hz hsh hs5 hT HX HALL HFw hs4 hs hn
          go_wp2_with fail
          generalize hwo : wr = W4 at *
          clear hwo
          have H0 : ∀ w', Below W4.heap.size W4 w' → (w'.cell? ⟨w.heap.size, 0, none⟩ = some (.int .i64 k) ∧ w'.cell? ⟨w.heap.size, 1, none⟩ = some (.slice sa x0.shape.length sc) ∧ w'.cell? ⟨w.heap.size, 2, none⟩ = some (.slice na x0.nums.length nc) ∧ w'.cell? ⟨w.heap.size, 3, none⟩ = some (.slice ia x0.items.length ic)) ∧ w'.cell? ⟨fb, fo, none⟩ = some (.int .i64 f) ∧ Below W4.heap.size W4 w' := by
            intro w' hb
            obtain ⟨y0, y1, y2, y3, -⟩ := (Q4.below hb).cells
            exact ⟨⟨y0, y1, y2, y3⟩, (hb.cell (cell_lt hfc)).trans hfc, hb⟩
          have r1 := rowOne W4 W4.heap.size t (Nat.le_refl _)
          have ew1 : IntKind.i64.wrap a1 = a1 := by rw [IntWalk.i64_left]; exact IntWalk.wrap64_in _ (by omega)
          have ew3 : IntKind.i64.wrap t = t := by rw [IntWalk.i64_left]; exact IntWalk.wrap64_in _ (by omega)
          have bt : ∀ y ∈ t :: ts, -9223372036854775808 ≤ y ∧ y ≤ 9223372036854775807 := fun y hy => by
            rcases List.mem_cons.1 hy with rfl | hy
            · omega
            · exact hT1.2.2.1 y hy
          have h8r : (1 + ts.length) * 8 ≤ 140737488351232 := Nat.le_trans (Nat.mul_le_mul_right 8 (Nat.add_le_add_left hl2 1)) (by decide)
          go_region_held_law (fun w' => (w'.cell? ⟨w.heap.size, 0, none⟩ = some (.int .i64 k) ∧ w'.cell? ⟨w.heap.size, 1, none⟩ = some (.slice sa x0.shape.length sc) ∧ w'.cell? ⟨w.heap.size, 2, none⟩ = some (.slice na x0.nums.length nc) ∧ w'.cell? ⟨w.heap.size, 3, none⟩ = some (.slice ia x0.items.length ic)) ∧ w'.cell? ⟨fb, fo, none⟩ = some (.int .i64 f) ∧ Below W4.heap.size W4 w')
            (first | exact H0 _ (by go_grown))
            (((refine step_ints_own rfl _ _ rfl W4.heap.size 1 (.slice (some ⟨W4.heap.size, 0, none⟩) 1 1) [.int .i64 t] (by rfl) (by exact r1) (by simp <;> omega) _ _ _ ts (by rfl) rfl (hT1.below (by go_grown)) h8r ?_; intro v2 w5 ho2 hg2; (have bg : Below W4.heap.size W4 w5 := Below.grown (by go_grown) hg2 (by simp <;> omega) (fun q hq => by have e := Option.some.inj hq; rw [← e]; exact Nat.le_refl _)); (obtain ⟨va, vc, hv2, hi5⟩ := ints_of_row (xs := t :: ts) (Nat.add_comm 1 _) ho2 bt); (subst hv2))))
          have PQ1 := PQ va vc _ _ (hA4.below bg) hi5.1
          rw [show (t :: ts).length = ts.length + 1 from rfl] at PQ1
          have Q5 := Q4.below bg
          have hA5 := hA4.below bg
          have hn5 := hn4.below bg
          have B5 := Below.then B4 bg
          have hi5' := hi5.1
          obtain ⟨q0, q1, q2, q3, -⟩ := Q5.cells
          clear ew1 ew3 H0 r1 ho2 hg2 PQ hi5 hTr hfi hfc hT1 Q4 hA4 hn4 B4 bg p0 p1 p2 p3 bt h8r
          go_wp2_with (go_at_call 23; (with_reducible refine PQ1.mono ?_); intro e w6 hN6; (obtain ⟨k7, sa7, ls7, sc7, yn, L7, yc, ia7, li7, ic7, rfl, h6, b6⟩ := hN6.form); (obtain ⟨hLn, hyn⟩ := arr_nums h6); (obtain ⟨hLs, hys⟩ := arr_shape h6); (have hge : x0.nums.length ≤ L7 := by rw [hLn, List.length_append]; exact Nat.le_add_right _ _); (have hL6 : L7 ≤ 65536 := by rw [hLn, List.length_append, List.length_replicate]; exact hM); (have HLN : Hid (L7 = (x0.nums ++ List.replicate M z).length) := hLn); (have HLS : Hid (ls7 = (t :: ts).length) := hLs); (clear hLn hLs); (have bn6 := below_new w6 (.cells #[.int .i64 k7, .slice sa7 ls7 sc7, .slice yn L7 yc, .slice ia7 li7 ic7] 26)); (obtain ⟨u0, u1, u2, u3, -⟩ := ((Q5.below b6).below bn6).cells); (obtain ⟨t0, t1, t2, t3, -⟩ := (Quad.new w6 (.int .i64 k7) (.slice sa7 ls7 sc7) (.slice yn L7 yc) (.slice ia7 li7 ic7)).cells))
          have QY := Quad.new w6 (.int .i64 k7) (.slice sa7 ls7 sc7) (.slice yn L7 yc) (.slice ia7 li7 ic7)
          have QA := (Q5.below b6).below bn6
          have hA8 := (hA5.below b6).below bn6
          have hn8 := (hn5.below b6).below bn6
          have hy8 := hyn.below bn6
          have hys8 := hys.below bn6
          have hi8 := (hi5'.below b6).below bn6
          have B8 := Below.then (Below.then B5 b6) bn6
          clear u0 u1 u2 u3 t0 t1 t2 t3 q0 q1 q2 q3 Q5 hA5 hn5 hyn hys hi5' B5 b6 bn6 PQ1 hN6 h6
          generalize w6.alloc (.cells #[.int .i64 k7, .slice sa7 ls7 sc7, .slice yn L7 yc, .slice ia7 li7 ic7] 26) = W8 at *
          generalize w6.heap.size = YB at *
          go_loopw [11] (fun i wq => ∃ j : Nat, j ≤ L7 ∧ i = .int .i64 j ∧ Below W8.heap.size W8 wq) (fun i _ => L7 - (intOf i).toNat)
          case atStart => exact ⟨0, Nat.zero_le _, rfl, Below.refl _ _⟩
          case round =>
            obtain ⟨j, hj, rfl, EW⟩ := hrel
            obtain ⟨p0, p1, p2, p3, -⟩ := (QA.below EW).cells
            obtain ⟨t0, t1, t2, t3, -⟩ := (QY.below EW).cells
            by_cases hlt : j < L7
            · have hlt' : j < (x0.nums ++ List.replicate M z).length := by rw [← HLN.out]; exact hlt
              obtain ⟨yb, yo, hyx, hyc⟩ := (hy8.below EW).at hlt'
              rw [← HLN.out] at hyx
              obtain ⟨yv, hyv⟩ : ∃ yv, (x0.nums ++ List.replicate M z)[j] = yv := ⟨_, rfl⟩
              rw [hyv] at hyc
              by_cases hlo : j < x0.nums.length
              · obtain ⟨ab, ao, hax, hac⟩ := (hn8.below EW).at hlo
                have eyv : x0.nums[j] = yv := by rw [← hyv, List.getElem_append_left hlo]
                rw [eyv] at hac
                have e1 : (yv != yv) = false := by simp
                have hlo2 : ¬ x0.nums.length ≤ j := by omega
                clear hyv eyv HF hlt'
                go_wp2_with fail
                go_quiet (fail)
                go_wp2_with fail
                go_roundw
                case rel => exact ⟨j + 1, by omega, by go_num, by first | exact EW | exact EW.drew | exact Below.then EW (Shape.below_drewN _)⟩
                case measure => simp [intOf]; omega
              · have eyv : yv = z := by rw [← hyv, List.getElem_append_right (by omega), List.getElem_replicate]
                clear hyv hlt'
                subst eyv
                have e1 : (yv != yv) = false := by simp
                have hlo2 : x0.nums.length ≤ j := by omega
                go_wp2_with fail
                refine wp_region_tabF (by kernel_rfl) (fun g => g + 103) (keepT2 x0 w YB j L7 nc yc yb (yo + j) na yn yv) [2, 9, 11] 103 38 (by kernel_rfl) (by kernel_rfl) (by kernel_rfl) (of_decide_eq_true rfl) ⟨rfl, rfl, rfl, trivial⟩ ?_ ?_
                rotate_left
                · intro g wi hle H
                  have E : Below W8.heap.size W8 wi := Below.then (Below.then EW (below_drew wr)) hle
                  have h140 : g 140 = .bool false := H 140 (by decide) (by decide)
                  clear H
                  simp only [List.take_succ_cons, List.take_zero, List.drop_succ_cons, List.drop_zero, List.range'_succ, List.range'_zero, List.map_cons, List.map_nil, List.cons_append, List.nil_append, h140, Nat.reduceAdd]
                  go_wp2_with fail
                  go_roundw
                  case rel => exact ⟨j + 1, by omega, by go_num, E⟩
                  case measure => simp [intOf]; omega
                refine Draw.AllSteps.cons (Draw.StepOK.sk fun a wi hle H => ?_) ?_
                · as_aux_lemma =>
                  have E : Below W8.heap.size W8 wi := Below.then (Below.then EW (below_drew wr)) hle
                  have h11 : a.tmps[11]?.getD undef = (.int .i64 (j : Int)) := H 11 rfl
                  refine ⟨trivial, fun K Q hK => ?_⟩
                  go_simp
                  exact hK.out _ _ (grew.refl _) (by first | rfl | (show _ = _; simp; done) | (show _ = _; simp; omega))
                refine Draw.AllSteps.cons (Draw.StepOK.sk fun a wi hle H => ?_) ?_
                · as_aux_lemma =>
                  have E : Below W8.heap.size W8 wi := Below.then (Below.then EW (below_drew wr)) hle
                  have h2 : a.tmps[2]?.getD undef = (.pointer (some ⟨w.heap.size, 0, none⟩)) := H 2 rfl
                  refine ⟨trivial, fun K Q hK => ?_⟩
                  go_simp
                  exact hK.out _ _ (grew.refl _) (by first | rfl | (show _ = _; simp; done) | (show _ = _; simp; omega))
                refine Draw.AllSteps.cons (Draw.StepOK.sk fun a wi hle H => ?_) ?_
                · as_aux_lemma =>
                  have E : Below W8.heap.size W8 wi := Below.then (Below.then EW (below_drew wr)) hle
                  have h104 : a.tmps[104]?.getD undef = (.pointer (some ⟨w.heap.size, 2, none⟩)) := H 104 rfl
                  refine ⟨trivial, fun K Q hK => ?_⟩
                  obtain ⟨z0, z1, z2, z3, -⟩ := (QA.below E).cells
                  go_simp
                  exact hK.out _ _ (grew.refl _) rfl
                refine Draw.AllSteps.cons (Draw.StepOK.sk fun a wi hle H => ?_) ?_
                · as_aux_lemma =>
                  have E : Below W8.heap.size W8 wi := Below.then (Below.then EW (below_drew wr)) hle
                  have h105 : a.tmps[105]?.getD undef = (.slice na x0.nums.length nc) := H 105 rfl
                  refine ⟨trivial, fun K Q hK => ?_⟩
                  go_simp
                  exact hK.out _ _ (grew.refl _) (by first | rfl | (show _ = _; simp; done) | (show _ = _; simp; omega))
                refine Draw.AllSteps.cons (Draw.StepOK.sk fun a wi hle H => ?_) ?_
                · as_aux_lemma =>
                  have E : Below W8.heap.size W8 wi := Below.then (Below.then EW (below_drew wr)) hle
                  have h103 : a.tmps[103]?.getD undef = (.int .i64 (j : Int)) := H 103 rfl
                  have h106 : a.tmps[106]?.getD undef = (.int .i64 (x0.nums.length : Int)) := H 106 rfl
                  refine ⟨trivial, fun K Q hK => ?_⟩
                  go_simp
                  exact hK.out _ _ (grew.refl _) (by first | rfl | (show _ = _; simp; done) | (show _ = _; simp; omega))
                refine Draw.AllSteps.cons (Draw.StepOK.sk fun a wi hle H => ?_) ?_
                · as_aux_lemma =>
                  have E : Below W8.heap.size W8 wi := Below.then (Below.then EW (below_drew wr)) hle
                  have h107 : a.tmps[107]?.getD undef = (.bool false) := H 107 rfl
                  refine ⟨trivial, fun K Q hK => ?_⟩
                  go_simp
                  exact hK.out _ _ (grew.refl _) (by first | rfl | (show _ = _; simp; done) | (show _ = _; simp; omega))
                refine Draw.AllSteps.cons (Draw.StepSk.skip fun a wi H => ⟨Or.inl (H 108 rfl), rfl⟩) ?_
                refine Draw.AllSteps.cons (Draw.StepSk.skip fun a wi H => ⟨Or.inl (H 108 rfl), rfl⟩) ?_
                refine Draw.AllSteps.cons (Draw.StepSk.skip fun a wi H => ⟨Or.inl (H 108 rfl), rfl⟩) ?_
                refine Draw.AllSteps.cons (Draw.StepSk.skip fun a wi H => ⟨Or.inl (H 108 rfl), rfl⟩) ?_
                refine Draw.AllSteps.cons (Draw.StepSk.skip fun a wi H => ⟨Or.inl (H 108 rfl), rfl⟩) ?_
                refine Draw.AllSteps.cons (Draw.StepSk.skip fun a wi H => ⟨Or.inl (H 108 rfl), rfl⟩) ?_
                refine Draw.AllSteps.cons (Draw.StepSk.skip fun a wi H => ⟨Or.inl (H 108 rfl), rfl⟩) ?_
                refine Draw.AllSteps.cons (Draw.StepSk.skip fun a wi H => ⟨Or.inl (H 108 rfl), rfl⟩) ?_
                refine Draw.AllSteps.cons (Draw.StepSk.skip fun a wi H => ⟨Or.inl (H 108 rfl), rfl⟩) ?_
                refine Draw.AllSteps.cons (Draw.StepSk.skip fun a wi H => ⟨Or.inl (H 108 rfl), rfl⟩) ?_
                refine Draw.AllSteps.cons (Draw.StepSk.skip fun a wi H => ⟨Or.inl (H 108 rfl), rfl⟩) ?_
                refine Draw.AllSteps.cons (Draw.StepOK.sk fun a wi hle H => ?_) ?_
                · as_aux_lemma =>
                  have E : Below W8.heap.size W8 wi := Below.then (Below.then EW (below_drew wr)) hle
                  have h108 : a.tmps[108]?.getD undef = (.bool false) := H 108 rfl
                  refine ⟨trivial, fun K Q hK => ?_⟩
                  go_simp
                  exact hK.out _ _ (grew.refl _) (by first | rfl | (show _ = _; simp; done) | (show _ = _; simp; omega))
                refine Draw.AllSteps.cons (Draw.StepOK.sk fun a wi hle H => ?_) ?_
                · as_aux_lemma =>
                  have E : Below W8.heap.size W8 wi := Below.then (Below.then EW (below_drew wr)) hle
                  have h120 : a.tmps[120]?.getD undef = (.bool false) := H 120 rfl
                  refine ⟨trivial, fun K Q hK => ?_⟩
                  go_simp
                  exact hK.out _ _ (grew.refl _) (by first | rfl | (show _ = _; simp; done) | (show _ = _; simp; omega))
                refine Draw.AllSteps.cons (Draw.StepOK.sk fun a wi hle H => ?_) ?_
                · as_aux_lemma =>
                  have E : Below W8.heap.size W8 wi := Below.then (Below.then EW (below_drew wr)) hle
                  have h11 : a.tmps[11]?.getD undef = (.int .i64 (j : Int)) := H 11 rfl
                  refine ⟨H 121 rfl, fun K Q hK => ?_⟩
                  go_simp
                  exact hK.out _ _ (grew.refl _) (by first | rfl | (show _ = _; simp; done) | (show _ = _; simp; omega))
                refine Draw.AllSteps.cons (Draw.StepOK.sk fun a wi hle H => ?_) ?_
                · as_aux_lemma =>
                  have E : Below W8.heap.size W8 wi := Below.then (Below.then EW (below_drew wr)) hle
                  have h2 : a.tmps[2]?.getD undef = (.pointer (some ⟨w.heap.size, 0, none⟩)) := H 2 rfl
                  refine ⟨H 121 rfl, fun K Q hK => ?_⟩
                  go_simp
                  exact hK.out _ _ (grew.refl _) (by first | rfl | (show _ = _; simp; done) | (show _ = _; simp; omega))
                refine Draw.AllSteps.cons (Draw.StepOK.sk fun a wi hle H => ?_) ?_
                · as_aux_lemma =>
                  have E : Below W8.heap.size W8 wi := Below.then (Below.then EW (below_drew wr)) hle
                  have h123 : a.tmps[123]?.getD undef = (.pointer (some ⟨w.heap.size, 2, none⟩)) := H 123 rfl
                  refine ⟨H 121 rfl, fun K Q hK => ?_⟩
                  obtain ⟨z0, z1, z2, z3, -⟩ := (QA.below E).cells
                  go_simp
                  exact hK.out _ _ (grew.refl _) rfl
                refine Draw.AllSteps.cons (Draw.StepOK.sk fun a wi hle H => ?_) ?_
                · as_aux_lemma =>
                  have E : Below W8.heap.size W8 wi := Below.then (Below.then EW (below_drew wr)) hle
                  have h124 : a.tmps[124]?.getD undef = (.slice na x0.nums.length nc) := H 124 rfl
                  refine ⟨H 121 rfl, fun K Q hK => ?_⟩
                  go_simp
                  exact hK.out _ _ (grew.refl _) (by first | rfl | (show _ = _; simp; done) | (show _ = _; simp; omega))
                refine Draw.AllSteps.cons (Draw.StepOK.sk fun a wi hle H => ?_) ?_
                · as_aux_lemma =>
                  have E : Below W8.heap.size W8 wi := Below.then (Below.then EW (below_drew wr)) hle
                  have h122 : a.tmps[122]?.getD undef = (.int .i64 (j : Int)) := H 122 rfl
                  have h125 : a.tmps[125]?.getD undef = (.int .i64 (x0.nums.length : Int)) := H 125 rfl
                  refine ⟨H 121 rfl, fun K Q hK => ?_⟩
                  go_simp
                  exact hK.out _ _ (grew.refl _) (by first | rfl | (show _ = _; simp; done) | (show _ = _; simp; omega))
                refine Draw.AllSteps.cons (Draw.StepOK.sk fun a wi hle H => ?_) ?_
                · as_aux_lemma =>
                  have E : Below W8.heap.size W8 wi := Below.then (Below.then EW (below_drew wr)) hle
                  have h126 : a.tmps[126]?.getD undef = (.bool true) := H 126 rfl
                  refine ⟨H 121 rfl, fun K Q hK => ?_⟩
                  go_simp
                  exact hK.out _ _ (grew.refl _) (by first | rfl | (show _ = _; simp; done) | (show _ = _; simp; omega))
                refine Draw.AllSteps.cons (Draw.StepOK.sk fun a wi hle H => ?_) ?_
                · as_aux_lemma =>
                  have E : Below W8.heap.size W8 wi := Below.then (Below.then EW (below_drew wr)) hle
                  have h9 : a.tmps[9]?.getD undef = (.pointer (some ⟨YB, 0, none⟩)) := H 9 rfl
                  refine ⟨H 127 rfl, fun K Q hK => ?_⟩
                  go_simp
                  exact hK.out _ _ (grew.refl _) (by first | rfl | (show _ = _; simp; done) | (show _ = _; simp; omega))
                refine Draw.AllSteps.cons (Draw.StepOK.sk fun a wi hle H => ?_) ?_
                · as_aux_lemma =>
                  have E : Below W8.heap.size W8 wi := Below.then (Below.then EW (below_drew wr)) hle
                  have h128 : a.tmps[128]?.getD undef = (.pointer (some ⟨YB, 2, none⟩)) := H 128 rfl
                  refine ⟨H 127 rfl, fun K Q hK => ?_⟩
                  obtain ⟨z0, z1, z2, z3, -⟩ := (QY.below E).cells
                  go_simp
                  exact hK.out _ _ (grew.refl _) rfl
                refine Draw.AllSteps.cons (Draw.StepOK.sk fun a wi hle H => ?_) ?_
                · as_aux_lemma =>
                  have E : Below W8.heap.size W8 wi := Below.then (Below.then EW (below_drew wr)) hle
                  have h11 : a.tmps[11]?.getD undef = (.int .i64 (j : Int)) := H 11 rfl
                  refine ⟨H 127 rfl, fun K Q hK => ?_⟩
                  go_simp
                  exact hK.out _ _ (grew.refl _) (by first | rfl | (show _ = _; simp; done) | (show _ = _; simp; omega))
                refine Draw.AllSteps.cons (Draw.StepOK.sk fun a wi hle H => ?_) ?_
                · as_aux_lemma =>
                  have E : Below W8.heap.size W8 wi := Below.then (Below.then EW (below_drew wr)) hle
                  have h129 : a.tmps[129]?.getD undef = (.slice yn L7 yc) := H 129 rfl
                  have h130 : a.tmps[130]?.getD undef = (.int .i64 (j : Int)) := H 130 rfl
                  refine ⟨H 127 rfl, fun K Q hK => ?_⟩
                  have hix := hyx
                  go_simp
                  exact hK.out _ _ (grew.refl _) rfl
                refine Draw.AllSteps.cons (Draw.StepOK.sk fun a wi hle H => ?_) ?_
                · as_aux_lemma =>
                  have E : Below W8.heap.size W8 wi := Below.then (Below.then EW (below_drew wr)) hle
                  have h131 : a.tmps[131]?.getD undef = (.pointer (some ⟨yb, yo + j, none⟩)) := H 131 rfl
                  refine ⟨H 127 rfl, fun K Q hK => ?_⟩
                  have hz := ((Below.then (below_drew wr) hle).cell (cell_lt hyc)).trans hyc
                  go_simp
                  exact hK.out _ _ (grew.refl _) rfl
                refine Draw.AllSteps.cons (Draw.StepOK.sk fun a wi hle H => ?_) ?_
                · as_aux_lemma =>
                  have E : Below W8.heap.size W8 wi := Below.then (Below.then EW (below_drew wr)) hle
                  have h2 : a.tmps[2]?.getD undef = (.pointer (some ⟨w.heap.size, 0, none⟩)) := H 2 rfl
                  refine ⟨H 127 rfl, fun K Q hK => ?_⟩
                  obtain ⟨z0, z1, z2, z3, -⟩ := (QA.below E).cells
                  go_simp
                  exact hK.out _ _ (grew.refl _) (tabS_out (f := .f (.arr x0)) (by kernel_rfl) ⟨_, _, _, _, _, _, _, _, _, _, rfl, hA8.below E⟩)
                refine Draw.AllSteps.cons (Draw.StepOK.sk fun a wi hle H => ?_) ?_
                · as_aux_lemma =>
                  have E : Below W8.heap.size W8 wi := Below.then (Below.then EW (below_drew wr)) hle
                  obtain ⟨k133, sa133, ls133, sc133, na133, ln133, nc133, ia133, li133, ic133, h133, i133⟩ : Fact.holds (.arr x0) (a.tmps[133]?.getD undef) wi := H 133 rfl
                  refine ⟨H 127 rfl, fun K Q hK => ?_⟩
                  go_simp
                  go_at_call 29
                  with_reducible refine (HF _ wi i133).mono ?_
                  intro e w' hN; obtain ⟨k', sa', ls', sc', na', ln', nc', ia', li', ic', rfl, h', b'⟩ := hN.form
                  exact hK.out _ _ b' (tabS_out (f := .f (.arr (.mk x0.kind [] [yv] []))) (by kernel_rfl) ⟨_, _, _, _, _, _, _, _, _, _, rfl, h'⟩)
                refine Draw.AllSteps.cons (Draw.StepOK.sk fun a wi hle H => ?_) ?_
                · as_aux_lemma =>
                  have E : Below W8.heap.size W8 wi := Below.then (Below.then EW (below_drew wr)) hle
                  obtain ⟨k134, sa134, ls134, sc134, na134, ln134, nc134, ia134, li134, ic134, h134, i134⟩ : Fact.holds (.arr (.mk x0.kind [] [yv] [])) (a.tmps[134]?.getD undef) wi := H 134 rfl
                  refine ⟨H 127 rfl, fun K Q hK => ?_⟩
                  obtain ⟨hln, hin⟩ := arr_nums i134
                  have hln' : ln134 = 1 := hln
                  clear hln
                  subst hln'
                  go_simp
                  exact hK.out _ _ (grew.refl _) (tabS_out (f := .f (.ints [yv])) (by kernel_rfl) ⟨_, _, rfl, hin⟩)
                refine Draw.AllSteps.cons (Draw.StepOK.sk fun a wi hle H => ?_) ?_
                · as_aux_lemma =>
                  have E : Below W8.heap.size W8 wi := Below.then (Below.then EW (below_drew wr)) hle
                  obtain ⟨a135, c135, h135, i135⟩ : Fact.holds (.ints [yv]) (a.tmps[135]?.getD undef) wi := H 135 rfl
                  refine ⟨H 127 rfl, fun K Q hK => ?_⟩
                  obtain ⟨zb, zo, hix, hzc, -⟩ := firstAt (P := fun _ => True) ⟨i135, fun _ _ _ => trivial⟩ rfl
                  have hix' : ∀ w' : World, (Instr.indexAt 23 (.slice a135 1 c135) (.int .i64 0)).run Try.prog w' = .ok (.pointer (some ⟨zb, zo, none⟩)) w' := hix
                  clear hix
                  have h135' : a.tmps[135]?.getD undef = .slice a135 1 c135 := h135
                  clear h135
                  go_simp
                  exact hK.out _ _ (grew.refl _) (tabS_out (f := .ptr (.int .i64 yv)) (by kernel_rfl) ⟨_, _, rfl, hzc⟩)
                refine Draw.AllSteps.cons (Draw.StepOK.sk fun a wi hle H => ?_) ?_
                · as_aux_lemma =>
                  have E : Below W8.heap.size W8 wi := Below.then (Below.then EW (below_drew wr)) hle
                  obtain ⟨b136, o136, h136, g136⟩ : FactS.holds (.ptr (.int .i64 yv)) (a.tmps[136]?.getD undef) wi := H 136 rfl
                  refine ⟨H 127 rfl, fun K Q hK => ?_⟩
                  go_simp
                  exact hK.out _ _ (grew.refl _) rfl
                refine Draw.AllSteps.cons (Draw.StepOK.sk fun a wi hle H => ?_) ?_
                · as_aux_lemma =>
                  have E : Below W8.heap.size W8 wi := Below.then (Below.then EW (below_drew wr)) hle
                  have h132 : a.tmps[132]?.getD undef = (.int .i64 yv) := H 132 rfl
                  have h137 : a.tmps[137]?.getD undef = (.int .i64 yv) := H 137 rfl
                  refine ⟨H 127 rfl, fun K Q hK => ?_⟩
                  go_simp
                  exact hK.out _ _ (grew.refl _) (by first | rfl | (show _ = _; simp; done) | (show _ = _; simp; omega))
                refine Draw.AllSteps.cons (Draw.StepOK.sk fun a wi hle H => ?_) ?_
                · as_aux_lemma =>
                  have E : Below W8.heap.size W8 wi := Below.then (Below.then EW (below_drew wr)) hle
                  have h127 : a.tmps[127]?.getD undef = (.bool true) := H 127 rfl
                  have h138 : a.tmps[138]?.getD undef = (.bool false) := H 138 rfl
                  refine ⟨H 121 rfl, fun K Q hK => ?_⟩
                  go_simp
                  exact hK.out _ _ (grew.refl _) (by first | rfl | (show _ = _; simp; done) | (show _ = _; simp; omega))
                refine Draw.AllSteps.cons (Draw.StepOK.sk fun a wi hle H => ?_) ?_
                · as_aux_lemma =>
                  have E : Below W8.heap.size W8 wi := Below.then (Below.then EW (below_drew wr)) hle
                  have h121 : a.tmps[121]?.getD undef = (.bool false) := H 121 rfl
                  have h139 : a.tmps[139]?.getD undef = (.bool false) := H 139 rfl
                  refine ⟨trivial, fun K Q hK => ?_⟩
                  go_simp
                  exact hK.out _ _ (grew.refl _) (by first | rfl | (show _ = _; simp; done) | (show _ = _; simp; omega))
                exact Draw.AllSteps.nil
            · obtain rfl : j = L7 := by omega
              have hyW := (hys8.below EW)
              have hiW := (hi8.below EW)
              have HI := intsLX _ _ (t :: ts) va vc wr hyW hiW
              rw [show (t :: ts).length = ts.length + 1 from rfl] at HI
              have hls7 : ls7 = ts.length + 1 := HLS.out
              subst hls7
              clear HF hy8 hn8
              go_wp2_with (first
                | (go_at_call 17; (with_reducible refine HI.mono ?_); rintro e wI ⟨rfl, nI, hwI⟩; (have EI : Below w.heap.size w wI := hwI ▸ Below.then (Below.then B8 EW) (Shape.below_drewN nI)); (clear hwI))
                | (go_at_call 16; refine (awakeL _).mono ?_; rintro e wA ⟨rfl, bA⟩))
              go_ret
              exact ⟨rfl, Below.then EI bA⟩
    · have e2 : (x != 0) = true := by simpa using hx0
      go_wp2_with (first
        | (go_at_call 28; refine (R _ _ hA1).mono ?_; rintro e w3 ⟨rfl, c3⟩)
        | (go_at_call 16; refine (awakeL _).mono ?_; rintro e wA ⟨rfl, bA⟩))
      go_ret
      exact ⟨rfl, Below.then (Below.then B1 c3) bA⟩

set_option maxRecDepth 100000 in
theorem lifted (os : Os) (started : os.Started) (H : Type) (enc : TypeId × Value → H) :
    ReturnsInHanded {} Try.checked os 7 .any (Rows.cellKeepsSpec.pre6 enc Try.prog Try.f7 Rows.cellKeepsRow.domain false) (Rows.cellKeepsSpec.post enc Try.prog Try.f7 false true false false) := by
  refine returnsInHanded_of_change_sized (C := Try.checked) own started (by kernel_rfl) Try.func7
    (ChangeSpec.witness6 (enc := enc) (C := Try.checked) false ⟨#[], #[.agg #[.int .i64 0, .slice none 0 0, .slice none 0 0, .slice none 0 0], .int .u8 0], []⟩ 8 (by kernel_rfl) (by kernel_rfl) (by kernel_rfl) (by kernel_rfl)) ?_
  intro W base args ds gs before hval0 hW hcnd hsz0 _
  have hsz : (DataW.weightsEach Try.prog (Try.f7.params.toList ++ Rows.cellKeepsSpec.plain.varTypes Try.prog) (ds ++ gs)).all (· ≤ reachBytes) = true := hsz0
  have hval : ∀ (j : Nat) t v, Try.f7.params[j]? = some t → args[j]? = some v → Value.okWide Try.prog W .any base t v := hval0
  have hW' := hW
  obtain ⟨p, q, hA0, hV, rfl, hfz, hnd⟩ := hW
  have hA : DataW.TrodAll enc Try.prog W 0 (fun _ => true) true Try.f7.params.toList args.toList ds p := hA0
  rw [Try.params7] at hA hval hsz
  obtain ⟨v0, vs0, d0, ds0, p0, q0, hargs, rfl, rfl, h0, r0⟩ := trodAll_cons hA
  obtain ⟨v1, vs1, d1, ds1, p1, q1, rfl, rfl, rfl, h1, r1⟩ := trodAll_cons r0
  obtain ⟨rfl, rfl, rfl⟩ := trodAll_nil r1
  obtain rfl : args = #[v0, v1] := by cases args; simp_all
  obtain ⟨rfl, rfl⟩ := trodVars_none hV
  have k0 := h0
  have lt0 : ∀ x ∈ p0, x.block < W.heap.size := by obtain ⟨m, hm⟩ := k0; exact DataW.trod_lt m _ _ _ hm
  obtain ⟨x0, b0, z0⟩ := arr_open (hval 0 26 v0 rfl rfl) h0
  have s0 : Shape.Reach x0 := z0 (Sized.each hsz (j := 0) rfl rfl)
  obtain ⟨a1, rfl, rfl, rfl, w1⟩ := open_int Try.underlying5 (hval 1 5 v1 rfl rfl) h1
  have b1 : 0 ≤ a1 ∧ a1 ≤ 255 := by simpa [Lit.wf, IntKind.min, IntKind.max, IntKind.signed, IntKind.bits] using w1
  clear hA0 hval0
  refine (walk v0 x0 a1 W b0 s0 b1).mono fun e W' ⟨he, bel⟩ => ?_
  subst he
  exact ⟨_, rfl, _, _, _, [], _, [], hW', trodAll_mk1 (shut_bool Try.underlying4 _), (trodAll_cons_mk (Below.trod laidOut (by kernel_rfl) (of_decide_eq_true (by kernel_rfl)) k0 bel lt0) (trodAll_cons_mk (shut_int Try.underlying5 w1) trodAll_mk0)), rfl, bel.frame _, fun h => by cases h⟩

theorem over : Rows.cellKeepsRow.holds Try.pinned (OpenSpec.ofChange Rows.cellKeepsSpec) :=
  OpenClaim.holds_of_wide 7 Try.f7 rfl rfl rfl rfl rfl rfl rfl ⟨rfl, rfl, rfl, rfl, rfl⟩ rfl rfl rfl rfl rfl (by kernel_rfl) Try.func7 (by kernel_rfl)
    (of_decide_eq_true (by kernel_rfl)) (by unfold Func.isWrapper; first | (rw [if_pos (by decide +kernel)]; kernel_rfl) | (rw [if_neg (by decide +kernel)]; exact ⟨rfl, rfl⟩))
    (fun os started H enc _ => lifted os started H enc)

theorem proved : Rows.CellKeepsSaid := over
end Go.Proofs.Ytblgpnijiefopaa.cellKeepsProof
