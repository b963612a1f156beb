/-
  The law arraylanglaw04.CellBack holds for every input: it returns true, and each argument reads afterwards as it read before. No condition.
-/
import Derived.Test.YtblgpnijiefopaaBd24
import Derived.Test.YtblgpnijiefopaaBd21
import Derived.Test.YtblgpnijiefopaaBd27
import Derived.Test.YtblgpnijiefopaaBd8
import Derived.SizedLaws
import Derived.Handy
import Derived.Deep.RegionHeld3
import Derived.ProofKit
import Derived.OpenShut
namespace Go.Proofs.Ytblgpnijiefopaa.cellBackProof
open Go.ChangeShapes Go.WideShapes Go.ChangeAt Go.RowKit Go.Proofs.Ytblgpnijiefopaa.Shape
open Go.WideMaps Go.WideElems
open Go.ChangeMaps (open_string shut_string)
set_option linter.unusedVariables false

theorem own : ownKnob Try.prog.godebug = none := by kernel_rfl
theorem laidOut : laidOutB Try.prog = true := by kernel_rfl

set_option maxHeartbeats 1000000 in
theorem walk (v0 : Value) (x0 : Arr) (v1 : Value) (x1 : Arr) (a2 : Int) (w : World) (b0 : ArrAt w v0 x0) (s0 : Shape.Reach x0) (b1 : ArrAt w v1 x1) (s1 : Shape.Reach x1) (b2 : -9223372036854775808 ≤ a2 ∧ a2 ≤ 9223372036854775807) :
    Calls Try.prog 6 #[v0, v1, .int .i64 a2] w fun e w' => e = .returned (.bool true) ∧ Below w.heap.size w w' := by
  obtain ⟨k, sa, sc, na, nc, ia, ic, rfl, b3⟩ : ∃ k sa sc na nc ia ic, v0 = .agg #[.int .i64 k, .slice sa x0.shape.length sc, .slice na x0.nums.length nc, .slice ia x0.items.length ic] ∧ (IntsAt w sa sc x0.shape ∧ IntsAt w na nc x0.nums ∧ k = x0.kind) := by
    have h := b0
    obtain ⟨k, sh, nu, it⟩ := x0
    rw [ArrAt] at h
    obtain ⟨sa, sc, na, nc, ia, ic, rfl, -, hs, hn, -⟩ := h
    exact ⟨_, _, _, _, _, _, _, rfl, hs, hn, rfl⟩
  obtain ⟨k', sa', ls', sc', na', ln', nc', ia', li', ic', rfl⟩ : ∃ k sa ls sc na ln nc ia li ic, v1 = .agg #[.int .i64 k, .slice sa ls sc, .slice na ln nc, .slice ia li ic] := by
    have h := b1
    obtain ⟨k, sh, nu, it⟩ := x1
    rw [ArrAt] at h
    obtain ⟨sa, sc, na, nc, ia, ic, rfl, -⟩ := h
    exact ⟨_, _, _, _, _, _, _, _, _, _, rfl⟩
  have bw := below_two w (.cells #[.int .i64 k, .slice sa x0.shape.length sc, .slice na x0.nums.length nc, .slice ia x0.items.length ic] 26) (.cells #[.int .i64 k', .slice sa' ls' sc', .slice na' ln' nc', .slice ia' li' ic'] 26)
  have q0 := (Quad.new w (.int .i64 k) (.slice sa x0.shape.length sc) (.slice na x0.nums.length nc) (.slice ia x0.items.length ic)).below (below_new _ (.cells #[.int .i64 k', .slice sa' ls' sc', .slice na' ln' nc', .slice ia' li' ic'] 26))
  have q1 : Quad ((w.alloc (.cells #[.int .i64 k, .slice sa x0.shape.length sc, .slice na x0.nums.length nc, .slice ia x0.items.length ic] 26)).alloc (.cells #[.int .i64 k', .slice sa' ls' sc', .slice na' ln' nc', .slice ia' li' ic'] 26)) (w.heap.size + 1) (.int .i64 k') (.slice sa' ls' sc') (.slice na' ln' nc') (.slice ia' li' ic') := by simpa using Quad.new (w.alloc (.cells #[.int .i64 k, .slice sa x0.shape.length sc, .slice na x0.nums.length nc, .slice ia x0.items.length ic] 26)) (.int .i64 k') (.slice sa' ls' sc') (.slice na' ln' nc') (.slice ia' li' ic')
  have hA := b0.below bw
  have hB := b1.below bw
  obtain ⟨x, hx⟩ : ∃ x, rightE x0 = x := ⟨_, rfl⟩
  have R := fun v' w' (g : ArrAt w' v' x0) => rightR3 v' x0 w' g
  rw [hx] at R
  have b2' := b2
  clear b2 b3
  go_enter Try.func6, Try.ntmps6
  go_wp2_with fail
  generalize ((w.alloc (.cells #[.int .i64 k, .slice sa x0.shape.length sc, .slice na x0.nums.length nc, .slice ia x0.items.length ic] 26)).alloc (.cells #[.int .i64 k', .slice sa' ls' sc', .slice na' ln' nc', .slice ia' li' ic'] 26)) = W0 at *
  go_at_call 15
  refine (fewL _ _ 500 W0 hA).mono ?_
  rintro e w1 ⟨t1, rfl, c1⟩
  have B1 := Below.then bw c1
  cases t1 with
  | false =>
    go_wp2_with (go_at_call 16; refine (awakeL _).mono ?_; rintro e wA ⟨rfl, bA⟩)
    go_ret
    exact ⟨rfl, Below.then B1 bA⟩
  | true =>
    obtain ⟨p0, p1, p2, p3, -⟩ := (q1.below c1).cells
    go_wp2_with fail
    go_at_call 15
    refine (fewL _ _ 100 w1 (hB.below c1)).mono ?_
    rintro e w2 ⟨t2, rfl, c2⟩
    have B2 := Below.then B1 c2
    clear p0 p1 p2 p3
    cases t2 with
    | false =>
      go_wp2_with (go_at_call 16; refine (awakeL _).mono ?_; rintro e wA ⟨rfl, bA⟩)
      go_ret
      exact ⟨rfl, Below.then B2 bA⟩
    | true =>
      obtain ⟨p0, p1, p2, p3, -⟩ := ((q0.below c1).below c2).cells
      have hA2 := (hA.below c1).below c2
      by_cases hx0 : x = 0
      · subst hx0
        go_wp2_with (go_at_call 28; refine (R _ _ hA2).mono ?_; rintro e w3 ⟨rfl, c3⟩)
        have B3 := Below.then B2 c3
        have hA3 := hA2.below c3
        have hB3 := ((hB.below c1).below c2).below c3
        have Q0 := ((q0.below c1).below c2).below c3
        have Q1 := ((q1.below c1).below c2).below c3
        clear p0 p1 p2 p3 q0 q1 hA hB hA2 c1 c2 c3 B1 B2 bw R
        obtain ⟨s, hcs, htot, hc6, ht6, hcp⟩ := cells_count (k := a2) hx
        have hfl := frame_len (k := a2) hx
        have hfn := frame_NN (k := a2) hx
        have hrc := reach_cells (k := a2) s0
        have hjn := fun (B : Arr) (h : prN (x0.shape.take (frN x0 a2)) ≠ 0) => joinA_cells (B := B) (k := a2) hx h
        have hfe : frameS x0 a2 = x0.shape.take (frN x0 a2) := by rw [frameS, if_pos hx]
        rw [← hfe] at hjn
        obtain ⟨c, hc, hsub, hc0, hc1⟩ := frN_int x0 a2
        have h8s := (right_def.1 (right_short hx)).1
        have ewL : wrap64 (x0.shape.length : Int) = (x0.shape.length : Int) := small_wrap (Nat.le_trans h8s (by decide))
        have FQ := fun v' w' (g : ArrAt w' v' x0) => frameQ v' x0 a2 w' g b2'
        have CQ := fun v' w' (g : ArrAt w' v' x0) => cellsQ v' x0 a2 w' g s0 b2'
        have RK := fun w' => rankP a2 (x0.shape.length : Int) w' b2' (natbdL h8s (by decide))
        rw [hc] at RK
        clear hfe hc hx
        have hsum : ((frameS x0 a2).length : Int) + c = (x0.shape.length : Int) := by rw [hfl]; omega
        have ewI : IntKind.i64.wrap (x0.shape.length : Int) = (x0.shape.length : Int) := by rw [IntWalk.i64_left]; exact ewL
        have hfle : (frameS x0 a2).length ≤ 8 := by rw [hfl]; exact Nat.le_trans (frN_le _ _) h8s
        have HCS : Hid ((∀ C ∈ cellsS x0 a2, C.nums.length + C.items.length = s) ∧ (cellsS x0 a2).length * s = x0.nums.length + x0.items.length ∧ (cellsS x0 a2).length = prN (frameS x0 a2)) := ⟨hcs, htot, hcp⟩
        clear hfl hcs htot hcp
        generalize frameS x0 a2 = FR at *
        generalize cellsS x0 a2 = CL at *
        have H0 : ∀ w', Below w3.heap.size w3 w' → (w'.cell? ⟨w.heap.size, 0, none⟩ = some (.int .i64 k) ∧ w'.cell? ⟨w.heap.size, 1, none⟩ = some (.slice sa x0.shape.length sc) ∧ w'.cell? ⟨w.heap.size, 2, none⟩ = some (.slice na x0.nums.length nc) ∧ w'.cell? ⟨w.heap.size, 3, none⟩ = some (.slice ia x0.items.length ic)) ∧ Below w3.heap.size w3 w' := by
          intro w' hb
          obtain ⟨y0, y1, y2, y3, -⟩ := (Q0.below hb).cells
          exact ⟨⟨y0, y1, y2, y3⟩, hb⟩
        have hk2 : -9223372036854775808 ≤ a2 ∧ a2 ≤ 9223372036854775807 := b2'
        clear b2'
        go_wp2_with fail
        go_region_held3 (fun w' => (w'.cell? ⟨w.heap.size, 0, none⟩ = some (.int .i64 k) ∧ w'.cell? ⟨w.heap.size, 1, none⟩ = some (.slice sa x0.shape.length sc) ∧ w'.cell? ⟨w.heap.size, 2, none⟩ = some (.slice na x0.nums.length nc) ∧ w'.cell? ⟨w.heap.size, 3, none⟩ = some (.slice ia x0.items.length ic)) ∧ Below w3.heap.size w3 w')
          (first | exact H0 _ (by assumption) | exact H0 _ (Below.refl _ _).drew | exact H0 _ (Below.refl _ _))
          ((first
            | (go_at_call 18; (with_reducible refine (FQ _ _ (hA3.below (Below.refl _ _).drew)).mono ?_); rintro e w4 ⟨fa, fc, rfl, hF4, c4⟩; (have E4 : Below w3.heap.size w3 w4 := (Below.refl _ _).drew.trans c4))
            | (go_at_call 21; (with_reducible refine (CQ _ _ (hA3.below E4)).mono ?_); rintro e w5 ⟨ca, cc, cb, rfl, hcl, hcc, hca, hC5, c5⟩; (have E5 : Below w3.heap.size w3 w5 := Below.then E4 c5))))
        have H5 : ∀ w', Below w5.heap.size w5 w' → (w'.cell? ⟨w.heap.size, 0, none⟩ = some (.int .i64 k) ∧ w'.cell? ⟨w.heap.size, 1, none⟩ = some (.slice sa x0.shape.length sc) ∧ w'.cell? ⟨w.heap.size, 2, none⟩ = some (.slice na x0.nums.length nc) ∧ w'.cell? ⟨w.heap.size, 3, none⟩ = some (.slice ia x0.items.length ic)) ∧ Below w5.heap.size w5 w' := by
          intro w' hb
          obtain ⟨y0, y1, y2, y3, -⟩ := ((Q0.below E5).below hb).cells
          exact ⟨⟨y0, y1, y2, y3⟩, hb⟩
        go_wp2_with fail
        go_region_held3 (fun w' => (w'.cell? ⟨w.heap.size, 0, none⟩ = some (.int .i64 k) ∧ w'.cell? ⟨w.heap.size, 1, none⟩ = some (.slice sa x0.shape.length sc) ∧ w'.cell? ⟨w.heap.size, 2, none⟩ = some (.slice na x0.nums.length nc) ∧ w'.cell? ⟨w.heap.size, 3, none⟩ = some (.slice ia x0.items.length ic)) ∧ Below w5.heap.size w5 w')
          (first | exact H5 _ (by assumption) | exact H5 _ (Below.refl _ _).drew | exact H5 _ (Below.refl _ _))
          ((first
            | (go_at_call 13; (with_reducible refine (RK _).mono ?_); rintro e w6 ⟨rfl, rfl⟩)))
        have Q5 : Quad w5.drew w.heap.size (.int .i64 k) (.slice sa x0.shape.length sc) (.slice na x0.nums.length nc) (.slice ia x0.items.length ic) := Q0.below E5.drew
        have hF5 : IntsAt w5.drew fa fc FR := (hF4.1.below c5).below (Below.refl _ _).drew
        have hC5' : ArrsAt w5.drew cb 0 CL := ArrsAt.below (Below.refl _ _).drew hC5
        have hA5 := hA3.below E5.drew
        have hB5 := hB3.below E5.drew
        have Q15 : Quad w5.drew (w.heap.size + 1) (.int .i64 k') (.slice sa' ls' sc') (.slice na' ln' nc') (.slice ia' li' ic') := Q1.below E5.drew
        have B5 : Below w.heap.size w w5.drew := Below.then B3 E5.drew
        clear H5 H0 Q0 Q1 hF4 hC5 hA3 hB3 E4 E5 c4 c5 B3 FQ CQ RK
        generalize w5.drew = W5 at *
        go_wp2_with fail
        clear hsum ewI ewL hc0 hc1 hsub
        go_loopw [9] (fun i wr => ∃ j : Nat, j ≤ FR.length ∧ i = .int .i64 j ∧ wr = W5 ∧ ∀ i' (h : i' < FR.length), i' < j → FR[i'] ≠ 0) (fun i _ => FR.length - (intOf i).toNat)
        case atStart => exact ⟨0, Nat.zero_le _, rfl, rfl, fun i' _ h => absurd h (Nat.not_lt_zero _)⟩
        case round =>
          obtain ⟨j, hj, rfl, rfl, hall⟩ := hrel
          have HALL : Hid (∀ i' (h : i' < FR.length), i' < j → FR[i'] ≠ 0) := hall
          clear hall
          by_cases hlt : j < FR.length
          · obtain ⟨fb, fo, hi, hc⟩ := hF5.at hlt
            obtain ⟨y, hy⟩ : ∃ y, FR[j] = y := ⟨_, rfl⟩
            rw [hy] at hc
            have HY : Hid (FR[j] = y) := hy
            clear hy
            by_cases hy0 : y = 0
            · subst hy0
              have hCL : CL.length = 0 := by
                rw [HCS.out.2.2]
                exact prN_of_zero hfn (by rw [← HY.out]; exact List.getElem_mem hlt)
              rw [hCL]
              clear hCL
              go_wp2_with (go_at_call 16; refine (awakeL _).mono ?_; rintro e wA ⟨rfl, bA⟩)
              go_ret
              exact ⟨rfl, Below.then B5 bA⟩
            · have hyb : (y == 0) = false := by simpa using hy0
              go_wp2_with fail
              go_roundw
              case rel => exact ⟨j + 1, by omega, by go_num, by first | rfl | trivial, fun i' h h2 => by
                rcases Nat.lt_succ_iff_lt_or_eq.1 h2 with h3 | h3
                · exact HALL.out i' h h3
                · subst h3; rw [HY.out]; exact hy0⟩
              case measure => simp [intOf]; omega
          · obtain rfl : j = FR.length := by omega
            have hnz : prN FR ≠ 0 := prN_ne hfn fun x hx => by
              obtain ⟨i', h, rfl⟩ := List.getElem_of_mem hx
              exact HALL.out i' h h
            have hj2 := hjn x1 hnz
            have JQ := fun w' (f : IntsAt w' fa fc FR) (hC : ArrsAt w' cb 0 CL) (hB : ArrAt w' (.agg #[.int .i64 k', .slice sa' ls' sc', .slice na' ln' nc', .slice ia' li' ic']) x1) => joinQ fa fc FR ca cc CL _ x1 w' cb 0 f hcl hcc hca hC hrc hB
            rw [hj2] at JQ
            have hcl2 := hcl
            have HCC : Hid (CL.length ≤ cc ∧ cc ≤ 9223372036854775807) := ⟨hcl, hcc⟩
            clear hj2 hjn HALL hcl hcc hnz hcl2
            go_wp2_with fail
            go_loopw [10, 11] (fun m i wq => ∃ (j q t : Nat), j ≤ CL.length ∧ i = .int .i64 j ∧ m = .int .i64 (q : Int) ∧ Hid (q = j * s) ∧ wq = wr.drewN t) (fun _ i _ => CL.length - (intOf i).toNat)
            case atStart => exact ⟨0, 0, 0, Nat.zero_le _, rfl, rfl, (Nat.zero_mul s).symm, rfl⟩
            case round =>
              obtain ⟨j, q, t, hj, rfl, rfl, hq, rfl⟩ := hrel
              by_cases hlt : j < CL.length
              · obtain ⟨y0, y1, aN, dN, aI, dI, ⟨g2, g3⟩⟩ := cell_parts hC5' hlt
                have hix : ∀ W, (Instr.indexAt 24 (.slice ca CL.length cc) (.int .i64 j)).run Try.prog W = .ok (.pointer (some ⟨cb, j * 4, none⟩)) W := fun W => by simpa using items_at (ia := ca) (b := cb) (off := 0) (l := CL) (ic := cc) rfl hca hlt W
                obtain ⟨q2, hq2, f1, f2, f3, f4, f5⟩ := back_sum (l := CL) (j := j) (q := q) HCS.out.1 HCS.out.2.1 ht6 hlt hq
                have HF4 : Hid (wrap64 (q2 : Int) = (q2 : Int)) := f4
                go_wp2_with fail
                go_quiet (fail)
                go_wp2_with fail
                go_roundw
                case rel => exact ⟨j + 1, q2, t + nq, by omega, by go_num, by first | rfl | rw [HF4.out], hq2, by first | rfl | trivial⟩
                case measure => simp [intOf]; omega
              · obtain rfl : j = CL.length := by omega
                have htt := HCS.out.2.1
                rw [← hq.out] at htt
                have e8 : (x0.nums.length : Int) + (x0.items.length : Int) = (q : Int) := by rw [htt]; simp
                have ew8 : wrap64 (q : Int) = (q : Int) := small_wrap (by rw [htt]; exact Nat.le_trans ht6 (by decide))
                have ew9 : IntKind.i64.wrap (q : Int) = (q : Int) := by rw [IntWalk.i64_left]; exact ew8
                have Q6 := Q5.below (Shape.below_drewN t)
                have Q16 := Q15.below (Shape.below_drewN t)
                have hC6 := ArrsAt.below (Shape.below_drewN t) hC5'
                have hB6 := hB5.below (Shape.below_drewN t)
                have hA6 := hA5.below (Shape.below_drewN t)
                have hF6 := hF5.drewN t
                have B6 := Below.then B5 (Shape.below_drewN t)
                obtain ⟨p0, p1, p2, p3, -⟩ := Q16.cells
                clear Q5 Q15 hC5' hB5 hA5 hF5 B5 HCS hq htt
                go_wp2_with (first
                  | (go_at_call 26; refine (JQ _ hF6 hC6 hB6).mono ?_; intro e w7 hN7; (obtain ⟨k7, sa7, ls7, sc7, na7, ln7, nc7, ia7, li7, ic7, rfl, h7, b7⟩ := hN7.form); (have bn7 := below_new w7 (.cells #[.int .i64 k7, .slice sa7 ls7 sc7, .slice na7 ln7 nc7, .slice ia7 li7 ic7] 26)); (obtain ⟨r0, r1, r2, r3, -⟩ := ((Q6.below b7).below bn7).cells); (obtain ⟨t0, t1, t2, t3, -⟩ := (Quad.new w7 (.int .i64 k7) (.slice sa7 ls7 sc7) (.slice na7 ln7 nc7) (.slice ia7 li7 ic7)).cells))
                  | (go_at_call 25; refine (sameRX (h7.below bn7) ((hA6.below b7).below bn7)).mono ?_; rintro e w8 ⟨rfl, b8⟩)
                  | (go_at_call 16; refine (awakeL _).mono ?_; rintro e wA ⟨rfl, bA⟩))
                go_ret
                exact ⟨rfl, Below.then (Below.then (Below.then (Below.then B6 b7) bn7) b8) bA⟩
      · have e2 : (x != 0) = true := by simpa using hx0
        go_wp2_with (first
          | (go_at_call 28; refine (R _ _ hA2).mono ?_; rintro e w3 ⟨rfl, c3⟩)
          | (go_at_call 16; refine (awakeL _).mono ?_; rintro e wA ⟨rfl, bA⟩))
        go_ret
        exact ⟨rfl, Below.then (Below.then B2 c3) bA⟩

set_option maxRecDepth 100000 in
theorem lifted (os : Os) (started : os.Started) (H : Type) (enc : TypeId × Value → H) :
    ReturnsInHanded {} Try.checked os 6 .any (Rows.cellBackSpec.pre6 enc Try.prog Try.f6 Rows.cellBackRow.domain false) (Rows.cellBackSpec.post enc Try.prog Try.f6 false true false false) := by
  refine returnsInHanded_of_change_sized (C := Try.checked) own started (by kernel_rfl) Try.func6
    (ChangeSpec.witness6 (enc := enc) (C := Try.checked) false ⟨#[], #[.agg #[.int .i64 0, .slice none 0 0, .slice none 0 0, .slice none 0 0], .agg #[.int .i64 0, .slice none 0 0, .slice none 0 0, .slice none 0 0], .int .i64 0], []⟩ 8 (by kernel_rfl) (by kernel_rfl) (by kernel_rfl) (by kernel_rfl)) ?_
  intro W base args ds gs before hval0 hW hcnd hsz0 _
  have hsz : (DataW.weightsEach Try.prog (Try.f6.params.toList ++ Rows.cellBackSpec.plain.varTypes Try.prog) (ds ++ gs)).all (· ≤ reachBytes) = true := hsz0
  have hval : ∀ (j : Nat) t v, Try.f6.params[j]? = some t → args[j]? = some v → Value.okWide Try.prog W .any base t v := hval0
  have hW' := hW
  obtain ⟨p, q, hA0, hV, rfl, hfz, hnd⟩ := hW
  have hA : DataW.TrodAll enc Try.prog W 0 (fun _ => true) true Try.f6.params.toList args.toList ds p := hA0
  rw [Try.params6] at hA hval hsz
  obtain ⟨v0, vs0, d0, ds0, p0, q0, hargs, rfl, rfl, h0, r0⟩ := trodAll_cons hA
  obtain ⟨v1, vs1, d1, ds1, p1, q1, rfl, rfl, rfl, h1, r1⟩ := trodAll_cons r0
  obtain ⟨v2, vs2, d2, ds2, p2, q2, rfl, rfl, rfl, h2, r2⟩ := trodAll_cons r1
  obtain ⟨rfl, rfl, rfl⟩ := trodAll_nil r2
  obtain rfl : args = #[v0, v1, v2] := by cases args; simp_all
  obtain ⟨rfl, rfl⟩ := trodVars_none hV
  have k0 := h0
  have lt0 : ∀ x ∈ p0, x.block < W.heap.size := by obtain ⟨m, hm⟩ := k0; exact DataW.trod_lt m _ _ _ hm
  obtain ⟨x0, b0, z0⟩ := arr_open (hval 0 26 v0 rfl rfl) h0
  have s0 : Shape.Reach x0 := z0 (Sized.each hsz (j := 0) rfl rfl)
  have k1 := h1
  have lt1 : ∀ x ∈ p1, x.block < W.heap.size := by obtain ⟨m, hm⟩ := k1; exact DataW.trod_lt m _ _ _ hm
  obtain ⟨x1, b1, z1⟩ := arr_open (hval 1 26 v1 rfl rfl) h1
  have s1 : Shape.Reach x1 := z1 (Sized.each hsz (j := 1) rfl rfl)
  obtain ⟨a2, rfl, rfl, rfl, w2⟩ := open_int Try.underlying3 (hval 2 3 v2 rfl rfl) h2
  have b2 : -9223372036854775808 ≤ a2 ∧ a2 ≤ 9223372036854775807 := by simpa [Lit.wf, IntKind.min, IntKind.max, IntKind.signed, IntKind.bits] using w2
  clear hA0 hval0
  refine (walk v0 x0 v1 x1 a2 W b0 s0 b1 s1 b2).mono fun e W' ⟨he, bel⟩ => ?_
  subst he
  exact ⟨_, rfl, _, _, _, [], _, [], hW', trodAll_mk1 (shut_bool Try.underlying4 _), (trodAll_cons_mk (Below.trod laidOut (by kernel_rfl) (of_decide_eq_true (by kernel_rfl)) k0 bel lt0) (trodAll_cons_mk (Below.trod laidOut (by kernel_rfl) (of_decide_eq_true (by kernel_rfl)) k1 bel lt1) (trodAll_cons_mk (shut_int Try.underlying3 w2) trodAll_mk0))), rfl, bel.frame _, fun h => by cases h⟩

theorem over : Rows.cellBackRow.holds Try.pinned (OpenSpec.ofChange Rows.cellBackSpec) :=
  OpenClaim.holds_of_wide 6 Try.f6 rfl rfl rfl rfl rfl rfl rfl ⟨rfl, rfl, rfl, rfl, rfl⟩ rfl rfl rfl rfl rfl (by kernel_rfl) Try.func6 (by kernel_rfl)
    (of_decide_eq_true (by kernel_rfl)) (by unfold Func.isWrapper; first | (rw [if_pos (by decide +kernel)]; kernel_rfl) | (rw [if_neg (by decide +kernel)]; exact ⟨rfl, rfl⟩))
    (fun os started H enc _ => lifted os started H enc)

theorem proved : Rows.CellBackSaid := over
end Go.Proofs.Ytblgpnijiefopaa.cellBackProof
