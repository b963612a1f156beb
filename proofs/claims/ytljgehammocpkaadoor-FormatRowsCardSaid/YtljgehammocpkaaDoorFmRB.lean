/-
  Layer 5: FormatRows: the ways that end in knows.
  Layer 5: FormatRows: a valid matrix.
  Layer 5: FormatRows: a valid matrix with columns, the loop.
  Layer 5: FormatRows: a valid matrix with columns and no rows; all arrays.
-/
import Derived.Test.YtljgehammocpkaaDoorFmRA
import Derived.Test.YtljgehammocpkaaDoorFmtCardg
import Derived.Test.YtljgehammocpkaaDoorArrValid
import Derived.RegionTactic
namespace Go.Proofs.YtljgehammocpkaaDoor.Shape
open Go.RowKit Go.Proofs.YtljgehammocpkaaDoor.Num
set_option linter.unusedVariables false
set_option linter.unusedSimpArgs false

set_option maxRecDepth 100000 in
set_option maxHeartbeats 8000000 in
theorem rowsK {k : Int} {sh nu : List Int} {it : List Arr} {v : Value} {w : World} (h : ArrAt w v (.mk k sh nu it)) (hT : Tok.TZ w) (hg : 3 < w.heap.size) (hc : 400 < wt (.mk k sh nu it) ∨ rightE (.mk k sh nu it) ≠ 0 ∨ sh.length ≠ 2) :
    Calls Tryd.prog 5 #[v] w fun e w' => e = .returned (.bool true) ∧ Below w.heap.size w w' := by
  have hA := h
  rw [ArrAt] at h
  obtain ⟨sa, sc, na, nc, ia, ic, rfl, -⟩ := h
  obtain ⟨r, hr⟩ : ∃ r, sh.length = r := ⟨_, rfl⟩
  rw [hr] at hA hc ⊢
  have bw := below_new w (.cells #[.int .i64 k, .slice sa r sc, .slice na nu.length nc, .slice ia it.length ic] 26)
  have q0 := Quad.new w (.int .i64 k) (.slice sa r sc) (.slice na nu.length nc) (.slice ia it.length ic)
  have tz : ∀ W, Below w.heap.size w W → Tok.TZ W := fun W h => Tok.TZ.below hT h
  have gz : ∀ W, Below w.heap.size w W → 3 < W.heap.size := fun W h => Nat.lt_of_lt_of_le hg h.size
  have hA1 := hA.below bw
  have cF := fewR5 hA1
  have cR := fun v W (g : ArrAt W v (.mk k sh nu it)) => rightR3 v _ W g
  obtain ⟨p0, p1, p2, p3, -⟩ := q0.cells
  generalize wt (.mk k sh nu it) = x at *
  generalize rightE (.mk k sh nu it) = y at *
  by_cases h1 : x ≤ 400
  · rw [decide_eq_true h1] at cF
    by_cases h2 : y = 0
    · subst h2
      have h3 : r ≠ 2 := by omega
      have hb : ((r : Int) != 2) = true := by simp; omega
      clear hT hg hA
      go_enter Tryd.func5, Tryd.ntmps5
      go_wp2_with (first
        | (go_at_call 7; (with_reducible refine cF.mono ?_); rintro e1 w1 ⟨rfl, b1⟩; (have L1 := Below.then bw b1); (have hA2 := hA1.below b1); (have q1 := q0.below b1); (obtain ⟨y0, y1, y2, y3, -⟩ := q1.cells))
        | (go_at_call 15; (with_reducible refine (cR _ _ hA2).mono ?_); rintro e2 w2 ⟨rfl, b2⟩; (have L2 := Below.then L1 b2); (obtain ⟨z0, z1, z2, z3, -⟩ := (q1.below b2).cells))
        | (go_at_call 8; (with_reducible refine (knowsQ _ (tz _ L2) (gz _ L2)).mono ?_); rintro e4 w4 ⟨rfl, b4⟩; (have L4 := Below.then L2 b4)))
      go_ret
      exact ⟨rfl, L4⟩
    · have hb : (y != 0) = true := by simpa using h2
      clear hT hg hA
      go_enter Tryd.func5, Tryd.ntmps5
      go_wp2_with (first
        | (go_at_call 7; (with_reducible refine cF.mono ?_); rintro e1 w1 ⟨rfl, b1⟩; (have L1 := Below.then bw b1); (have hA2 := hA1.below b1); (have q1 := q0.below b1); (obtain ⟨y0, y1, y2, y3, -⟩ := q1.cells))
        | (go_at_call 15; (with_reducible refine (cR _ _ hA2).mono ?_); rintro e2 w2 ⟨rfl, b2⟩; (have L2 := Below.then L1 b2); (obtain ⟨z0, z1, z2, z3, -⟩ := (q1.below b2).cells))
        | (go_at_call 8; (with_reducible refine (knowsQ _ (tz _ L2) (gz _ L2)).mono ?_); rintro e4 w4 ⟨rfl, b4⟩; (have L4 := Below.then L2 b4)))
      go_ret
      exact ⟨rfl, L4⟩
  · rw [decide_eq_false h1] at cF
    clear hT hg hA
    go_enter Tryd.func5, Tryd.ntmps5
    go_wp2_with (first
      | (go_at_call 7; (with_reducible refine cF.mono ?_); rintro e1 w1 ⟨rfl, b1⟩; (have L1 := Below.then bw b1))
      | (go_at_call 8; (with_reducible refine (knowsQ _ (tz _ L1) (gz _ L1)).mono ?_); rintro e4 w4 ⟨rfl, b4⟩; (have L4 := Below.then L1 b4)))
    go_ret
    exact ⟨rfl, L4⟩
end Go.Proofs.YtljgehammocpkaaDoor.Shape

namespace Go.Proofs.YtljgehammocpkaaDoor.Shape
open Go.RowKit Go.Proofs.YtljgehammocpkaaDoor.Num
set_option linter.unusedVariables false
set_option linter.unusedSimpArgs false

set_option maxRecDepth 100000 in
set_option maxHeartbeats 8000000 in
theorem rows0 {k : Int} {nu : List Int} {it : List Arr} {v : Value} {w : World} (R C : Nat) (h : ArrAt w v (.mk k [(R : Int), (C : Int)] nu it)) (hw : wt (.mk k [(R : Int), (C : Int)] nu it) ≤ 400) (hx : rightE (.mk k [(R : Int), (C : Int)] nu it) = 0) (hT : Tok.TZ w) (hg : 3 < w.heap.size) (hC : C = 0) :
    Calls Tryd.prog 5 #[v] w fun e w' => e = .returned (.bool true) ∧ Below w.heap.size w w' := by
  subst hC
  have hA := h
  rw [ArrAt] at h
  obtain ⟨sa, sc, na, nc, ia, ic, rfl, -, hs, -⟩ := h
  rw [show ([(R : Int), ((0 : Nat) : Int)] : List Int).length = 2 from rfl] at hA ⊢
  obtain ⟨b1, o1, i1, c1⟩ := hs.spot (k := 1) (by simp) 2 rfl 1 rfl 0 rfl
  have bw := below_new w (.cells #[.int .i64 k, .slice sa 2 sc, .slice na nu.length nc, .slice ia it.length ic] 26)
  have q0 := Quad.new w (.int .i64 k) (.slice sa 2 sc) (.slice na nu.length nc) (.slice ia it.length ic)
  have tz : ∀ W, Below w.heap.size w W → Tok.TZ W := fun W h => Tok.TZ.below hT h
  have gz : ∀ W, Below w.heap.size w W → 3 < W.heap.size := fun W h => Nat.lt_of_lt_of_le hg h.size
  have hA1 := hA.below bw
  have cF := fewR5 hA1
  have cR := fun v W (g : ArrAt W v (.mk k [(R : Int), ((0 : Nat) : Int)] nu it)) => rightR3 v _ W g
  rw [decide_eq_true hw] at cF
  rw [hx] at cR
  obtain ⟨p0, p1, p2, p3, -⟩ := q0.cells
  clear hT hg hA hw hx hs
  go_enter Tryd.func5, Tryd.ntmps5
  go_wp2_with (first
    | (go_at_call 7; (with_reducible refine cF.mono ?_); rintro e1 w1 ⟨rfl, d1⟩; (have L1 := Below.then bw d1); (have hA2 := hA1.below d1); (have q1 := q0.below d1); (obtain ⟨y0, y1, y2, y3, -⟩ := q1.cells))
    | (go_at_call 15; (with_reducible refine (cR _ _ hA2).mono ?_); rintro e2 w2 ⟨rfl, d2⟩; (have L2 := Below.then L1 d2); (obtain ⟨z0, z1, z2, z3, -⟩ := (q1.below d2).cells); (have x1 := (L2.cell (cell_lt c1)).trans c1))
    | (go_at_call 8; (with_reducible refine (knowsQ _ (tz _ L2) (gz _ L2)).mono ?_); rintro e4 w4 ⟨rfl, d4⟩; (have L4 := Below.then L2 d4)))
  go_ret
  exact ⟨rfl, L4⟩
end Go.Proofs.YtljgehammocpkaaDoor.Shape

namespace Go.Proofs.YtljgehammocpkaaDoor.Shape
open Go.RowKit Go.Proofs.YtljgehammocpkaaDoor.Num
set_option linter.unusedVariables false
set_option linter.unusedSimpArgs false

theorem shw_bd {R C : Nat} {T : List (List UInt8)} {sep : List UInt8} (hR : R ≤ 400) (hC : C ≤ 400) (hsep : sep.length ≤ 10) (hT : ∀ t ∈ T, t.length ≤ 300000) : ∀ x ∈ tabT R C T sep, x.length ≤ 250000000 := fun x hx => by
  simp only [tabT, List.mem_map, List.mem_range] at hx
  obtain ⟨r, hr, rfl⟩ := hx
  have h1 := join_bd sep 600000 (rowT C (widGo C T T.length) T r) (row_bd (wid_bd C T hT T.length) hT)
  have h2 : (rowT C (widGo C T T.length) T r).length = C := by simp [rowT]
  rw [h2] at h1
  have : C * (600000 + sep.length) ≤ 400 * 600010 := Nat.mul_le_mul hC (by omega)
  omega
theorem ends_bd (m : Nat) : ∀ (L : List (List UInt8)), (∀ x ∈ L, x.length ≤ m) → ((L.map (· ++ [10])).flatten).length ≤ L.length * (m + 1)
  | [], _ => by simp
  | x :: r, h => by
    have h1 := ends_bd m r fun y hy => h y (List.mem_cons_of_mem _ hy)
    have h2 := h x (by simp)
    simp only [List.map_cons, List.flatten_cons, List.length_append, List.length_cons, List.length_nil, Nat.succ_mul]
    omega
set_option maxRecDepth 100000 in
set_option maxHeartbeats 16000000 in
theorem rows2 {k : Int} {nu : List Int} {it : List Arr} {v : Value} {w : World} (R C : Nat) (h : ArrAt w v (.mk k [(R : Int), (C : Int)] nu it)) (hw : wt (.mk k [(R : Int), (C : Int)] nu it) ≤ 400) (hx : rightE (.mk k [(R : Int), (C : Int)] nu it) = 0) (hT : Tok.TZ w) (hg : 3 < w.heap.size) (hR : 0 < R) (hC : 0 < C) :
    Calls Tryd.prog 5 #[v] w fun e w' => e = .returned (.bool true) ∧ Below w.heap.size w w' := by
  have hA := h
  have tz : ∀ W, Below w.heap.size w W → Tok.TZ W := fun W h => Tok.TZ.below hT h
  have gz : ∀ W, Below w.heap.size w W → 3 < W.heap.size := fun W h => Nat.lt_of_lt_of_le hg h.size
  obtain ⟨hRC, hR4, hC4, -⟩ := linesMat R C h hx hw hR hC hT hg
  have cL : ∀ W, Below w.heap.size w W → _ := fun W hW => (linesMat R C (h.below hW) hx hw hR hC (tz W hW) (gz W hW)).2.2.2
  have hbd := shw_bd (R := R) (C := C) (T := ctT (.mk k [(R : Int), (C : Int)] nu it)) (sep := sepK k) hR4 hC4 (sepK_len k) (ctT_bd hx hw)
  have heq : ∀ i j (hi : i < _) (hj : j < _), _ := fun i j hi hj => tab_eq (R := R) (C := C) (T := ctT (.mk k [(R : Int), (C : Int)] nu it)) (sep := sepK k) hRC (i := i) (j := j) hi hj
  have hlen := tab_len (R := R) (C := C) (T := ctT (.mk k [(R : Int), (C : Int)] nu it)) (sep := sepK k)
  generalize tabT R C (ctT (.mk k [(R : Int), (C : Int)] nu it)) (sepK k) = TB at cL hbd heq hlen
  have hall : ((TB.map (· ++ [10])).flatten).length ≤ 400 * 250000001 := Nat.le_trans (ends_bd 250000000 TB hbd) (by rw [hlen]; exact Nat.mul_le_mul_right _ hR4)
  have cS : ∀ W, Below w.heap.size w W → Calls Tryd.prog 13 #[v] W fun e w' => e = .returned (.string ⟨((TB.map (· ++ [10])).flatten).toArray⟩) ∧ Below W.heap.size W w' := fun W hW => by
    have := showQ_of TB v _ W (h.below hW) (by omega) (by rw [join_ends]; omega) (fun W2 h2 => (cL W2 (Below.then hW h2)).mono (by
      rintro e w' ⟨G, hG, rfl, hS, hb⟩
      exact ⟨_, rfl, Lns.of hS hlen (Nat.le_trans h2.size hG) (by unfold maxLen; omega), hb⟩))
    rw [join_ends] at this
    exact this
  rw [ArrAt] at h
  obtain ⟨sa, sc, na, nc, ia, ic, rfl, -, hs, -⟩ := h
  rw [show ([(R : Int), (C : Int)] : List Int).length = 2 from rfl] at hA cL cS ⊢
  obtain ⟨b0, o0, i0, c0⟩ := hs.spot (k := 0) (by simp) 2 rfl 0 rfl R rfl
  obtain ⟨b1, o1, i1, c1⟩ := hs.spot (k := 1) (by simp) 2 rfl 1 rfl C rfl
  have bw := below_new w (.cells #[.int .i64 k, .slice sa 2 sc, .slice na nu.length nc, .slice ia it.length ic] 26)
  have q0 := Quad.new w (.int .i64 k) (.slice sa 2 sc) (.slice na nu.length nc) (.slice ia it.length ic)
  have hA1 := hA.below bw
  have cF := fewR5 hA1
  have cR := fun v W (g : ArrAt W v (.mk k [(R : Int), (C : Int)] nu it)) => rightR3 v _ W g
  rw [decide_eq_true hw] at cF
  rw [hx] at cR
  have hC0 : ((C : Int) == 0) = false := by rw [beq_eq_false_iff_ne]; omega
  obtain ⟨p0, p1, p2, p3, -⟩ := q0.cells
  obtain ⟨S, hS⟩ : ∃ S : Nat → ByteArray, ∀ i, S i = ⟨(((TB.take i).map (· ++ [10])).flatten).toArray⟩ := ⟨_, fun _ => rfl⟩
  have hS0 : S 0 = ⟨#[]⟩ := by rw [hS]; simp
  have hSR : S R = ⟨((TB.map (· ++ [10])).flatten).toArray⟩ := by rw [hS, List.take_of_length_le (by omega)]
  rw [← hSR] at cS
  clear hT hg hA hw hx hs hRC hC4
  go_enter Tryd.func5, Tryd.ntmps5
  go_wp2_with (first
    | (go_at_call 7; (with_reducible refine cF.mono ?_); rintro e1 w1 ⟨rfl, d1⟩; (have L1 := Below.then bw d1); (have hA2 := hA1.below d1); (have q1 := q0.below d1); (obtain ⟨y0, y1, y2, y3, -⟩ := q1.cells))
    | (go_at_call 15; (with_reducible refine (cR _ _ hA2).mono ?_); rintro e2 w2 ⟨rfl, d2⟩; (have L2 := Below.then L1 d2); (have q2 := q1.below d2); (obtain ⟨z0, z1, z2, z3, -⟩ := q2.cells); (have x1 := (L2.cell (cell_lt c1)).trans c1))
    | (go_at_call 11; (with_reducible refine (cL _ L2).mono ?_); rintro e3 w3 ⟨G, hG, rfl, S3, d3⟩; (have L3 := Below.then L2 d3); (have q3 := q2.below d3); (obtain ⟨u0, u1, u2, u3, -⟩ := q3.cells); (have x0 := (L3.cell (cell_lt c0)).trans c0)))
  go_loopw [4, 5] (fun sacc i wr => ∃ j : Nat, j ≤ R ∧ i = .int .i64 (j : Int) ∧ sacc = .string (S j) ∧ Below w3.heap.size w3 wr) (fun _ i _ => R - (intOf i).toNat)
  case atStart => exact ⟨0, Nat.zero_le _, rfl, by rw [hS0], Below.refl _ _⟩
  case round =>
    obtain ⟨j, hj, rfl, rfl, Bw⟩ := hrel
    by_cases hlt : j < R
    · have hlt' : (j : Int) < (R : Int) := by omega
      have hjl : j < TB.length := by omega
      have h0l : 0 < TB.length := by omega
      have Sr := Strs.below S3 Bw
      have e := heq j 0 hjl h0l
      have g0 := Sr.cell h0l
      have gj := Sr.cell hjl
      have hi0 := fun w' => strs_at w' G R R 0 hR
      have hij := fun w' => strs_at w' G R R j hlt
      have hbj := hbd _ (List.getElem_mem hjl)
      have hstep : S (j + 1) = S j ++ (⟨TB[j].toArray⟩ ++ ⟨#[10]⟩) := by
        rw [hS, hS, List.take_succ_eq_append_getElem hjl, List.map_append, List.flatten_append]
        apply ByteArray.ext
        simp [ByteArray.data_append]
      have hz1 : (S (j + 1)).size ≤ 400 * 250000001 := by
        have h1 := ends_bd 250000000 (TB.take (j + 1)) (fun x hx => hbd x (List.mem_of_mem_take hx))
        have h2 : (TB.take (j + 1)).length ≤ 400 := by rw [List.length_take]; omega
        have h3 : (TB.take (j + 1)).length * (250000000 + 1) ≤ 400 * 250000001 := Nat.mul_le_mul h2 (Nat.le_refl _)
        have hz : (S (j + 1)).size = (((TB.take (j + 1)).map (· ++ [10])).flatten).length := by rw [hS]; simp [ByteArray.size]
        rw [hz]
        exact Nat.le_trans h1 h3
      have hszj : (⟨TB[j].toArray⟩ : ByteArray).size = TB[j].length := by simp [ByteArray.size]
      have hsz0 : (⟨TB[0].toArray⟩ : ByteArray).size = TB[j].length := by rw [e]; simp [ByteArray.size]
      unfold sv at g0 gj
      generalize (⟨TB[j].toArray⟩ : ByteArray) = tj at *
      generalize (⟨TB[0].toArray⟩ : ByteArray) = t0 at *
      generalize TB[j].length = n at *
      have a1 := fun w => run_string_add_sum (P := Tryd.prog) w tj ⟨#[10]⟩ (by rw [hszj]; show n + 1 ≤ _; omega)
      have a2 := fun w => run_string_add_sum (P := Tryd.prog) w (S j) (tj ++ ⟨#[10]⟩) (by rw [← ByteArray.size_append, ← hstep]; omega)
      rw [← hstep] at a2
      clear hstep e Sr heq hbd cL cS cF cR hz1 hS hS0 hSR
      go_wp2
      go_region
      all_goals go_wp2
      all_goals go_roundw
      case rel => exact ⟨j + 1, by omega, by go_num, rfl, by first | exact Bw.drew | exact Bw⟩
      case measure => simp [intOf]; omega
    · obtain rfl : j = R := by omega
      have hn0 : ¬ (j : Int) < (j : Int) := by omega
      have L4 := Below.then L3 Bw
      obtain ⟨m0, m1, m2, m3, -⟩ := (q3.below Bw).cells
      generalize S j = Sj at *
      go_wp2_with (first
        | (go_at_call 13; (with_reducible refine (cS _ L4).mono ?_); rintro e5 w5 ⟨rfl, d5⟩; (have L5 := Below.then L4 d5))
        | (go_at_call 8; (with_reducible refine (knowsQ _ (tz _ L5) (gz _ L5)).mono ?_); rintro e6 w6 ⟨rfl, d6⟩; (have L6 := Below.then L5 d6)))
      go_ret
      exact ⟨rfl, L6⟩
end Go.Proofs.YtljgehammocpkaaDoor.Shape

namespace Go.Proofs.YtljgehammocpkaaDoor.Shape
open Go.RowKit Go.Proofs.YtljgehammocpkaaDoor.Num
set_option linter.unusedVariables false
set_option linter.unusedSimpArgs false

set_option maxRecDepth 100000 in
set_option maxHeartbeats 16000000 in
theorem rows1 {k : Int} {nu : List Int} {it : List Arr} {v : Value} {w : World} (C : Nat) (h : ArrAt w v (.mk k [((0 : Nat) : Int), (C : Int)] nu it)) (hw : wt (.mk k [((0 : Nat) : Int), (C : Int)] nu it) ≤ 400) (hx : rightE (.mk k [((0 : Nat) : Int), (C : Int)] nu it) = 0) (hT : Tok.TZ w) (hg : 3 < w.heap.size) (hC : 0 < C) :
    Calls Tryd.prog 5 #[v] w fun e w' => e = .returned (.bool true) ∧ Below w.heap.size w w' := by
  have hA := h
  have tz : ∀ W, Below w.heap.size w W → Tok.TZ W := fun W h => Tok.TZ.below hT h
  have gz : ∀ W, Below w.heap.size w W → 3 < W.heap.size := fun W h => Nat.lt_of_lt_of_le hg h.size
  have hz : aSize (.mk k [((0 : Nat) : Int), (C : Int)] nu it) = 0 := by
    have := (val_of hx).size
    rw [show pr [((0 : Nat) : Int), (C : Int)] = 0 by simp [pr]] at this
    omega
  have cL : ∀ W, Below w.heap.size w W → _ := fun W hW => linesNone (h.below hW) rfl hx hz
  have cS : ∀ W, Below w.heap.size w W → Calls Tryd.prog 13 #[v] W fun e w' => e = .returned (.string ⟨#[]⟩) ∧ Below W.heap.size W w' := fun W hW => by
    have := showQ_of [] v _ W (h.below hW) (by decide) (by decide) (fun W2 h2 => (cL W2 (Below.then hW h2)).mono (by
      rintro e w' ⟨rfl, hb⟩
      exact ⟨_, rfl, Lns.nil _ _, hb⟩))
    exact this
  rw [ArrAt] at h
  obtain ⟨sa, sc, na, nc, ia, ic, rfl, -, hs, -⟩ := h
  rw [show ([((0 : Nat) : Int), (C : Int)] : List Int).length = 2 from rfl] at hA cL cS ⊢
  obtain ⟨b0, o0, i0, c0⟩ := hs.spot (k := 0) (by simp) 2 rfl 0 rfl 0 rfl
  obtain ⟨b1, o1, i1, c1⟩ := hs.spot (k := 1) (by simp) 2 rfl 1 rfl C rfl
  have bw := below_new w (.cells #[.int .i64 k, .slice sa 2 sc, .slice na nu.length nc, .slice ia it.length ic] 26)
  have q0 := Quad.new w (.int .i64 k) (.slice sa 2 sc) (.slice na nu.length nc) (.slice ia it.length ic)
  have hA1 := hA.below bw
  have cF := fewR5 hA1
  have cR := fun v W (g : ArrAt W v (.mk k [((0 : Nat) : Int), (C : Int)] nu it)) => rightR3 v _ W g
  rw [decide_eq_true hw] at cF
  rw [hx] at cR
  have hC0 : ((C : Int) == 0) = false := by rw [beq_eq_false_iff_ne]; omega
  obtain ⟨p0, p1, p2, p3, -⟩ := q0.cells
  clear hT hg hA hw hx hs hz
  go_enter Tryd.func5, Tryd.ntmps5
  go_wp2_with (first
    | (go_at_call 7; (with_reducible refine cF.mono ?_); rintro e1 w1 ⟨rfl, d1⟩; (have L1 := Below.then bw d1); (have hA2 := hA1.below d1); (have q1 := q0.below d1); (obtain ⟨y0, y1, y2, y3, -⟩ := q1.cells))
    | (go_at_call 15; (with_reducible refine (cR _ _ hA2).mono ?_); rintro e2 w2 ⟨rfl, d2⟩; (have L2 := Below.then L1 d2); (have q2 := q1.below d2); (obtain ⟨z0, z1, z2, z3, -⟩ := q2.cells); (have x1 := (L2.cell (cell_lt c1)).trans c1))
    | (go_at_call 11; (with_reducible refine (cL _ L2).mono ?_); rintro e3 w3 ⟨rfl, d3⟩; (have L3 := Below.then L2 d3); (have q3 := q2.below d3); (obtain ⟨u0, u1, u2, u3, -⟩ := q3.cells); (have x0 := (L3.cell (cell_lt c0)).trans c0)))
  go_loopw [4, 5] (fun sacc i wr => i = .int .i64 0 ∧ sacc = .string ⟨#[]⟩ ∧ Below w3.heap.size w3 wr) (fun _ _ _ => 0)
  case atStart => exact ⟨rfl, rfl, Below.refl _ _⟩
  case round =>
    obtain ⟨rfl, rfl, Bw⟩ := hrel
    have L4 := Below.then L3 Bw
    obtain ⟨m0, m1, m2, m3, -⟩ := (q3.below Bw).cells
    go_wp2_with (first
      | (go_at_call 13; (with_reducible refine (cS _ L4).mono ?_); rintro e5 w5 ⟨rfl, d5⟩; (have L5 := Below.then L4 d5))
      | (go_at_call 8; (with_reducible refine (knowsQ _ (tz _ L5) (gz _ L5)).mono ?_); rintro e6 w6 ⟨rfl, d6⟩; (have L6 := Below.then L5 d6)))
    go_ret
    exact ⟨rfl, L6⟩
theorem rowsQ {v : Value} {A : Arr} {w : World} (h : ArrAt w v A) (hT : Tok.TZ w) (hg : 3 < w.heap.size) :
    Calls Tryd.prog 5 #[v] w fun e w' => e = .returned (.bool true) ∧ Below w.heap.size w w' := by
  obtain ⟨k, sh, nu, it⟩ := A
  by_cases h1 : wt (.mk k sh nu it) ≤ 400
  · by_cases h2 : rightE (.mk k sh nu it) = 0
    · by_cases h3 : sh.length = 2
      · have hn := (dims_parts (val_of h2).dims).2.1
        obtain ⟨r, c, rfl⟩ : ∃ r c, sh = [r, c] := by
          rcases sh with _ | ⟨r, _ | ⟨c, _ | ⟨d, s⟩⟩⟩ <;> simp at h3
          exact ⟨_, _, rfl⟩
        have hr0 : 0 ≤ r := hn r (by simp)
        have hc0 : 0 ≤ c := hn c (by simp)
        obtain ⟨R, rfl⟩ := Int.eq_ofNat_of_zero_le hr0
        obtain ⟨C, rfl⟩ := Int.eq_ofNat_of_zero_le hc0
        rcases Nat.eq_zero_or_pos C with hC | hC
        · exact rows0 R C h h1 h2 hT hg hC
        · rcases Nat.eq_zero_or_pos R with hR | hR
          · subst hR
            exact rows1 C h h1 h2 hT hg hC
          · exact rows2 R C h h1 h2 hT hg hR hC
      · exact rowsK h hT hg (Or.inr (Or.inr h3))
    · exact rowsK h hT hg (Or.inr (Or.inl h2))
  · exact rowsK h hT hg (Or.inl (by omega))
end Go.Proofs.YtljgehammocpkaaDoor.Shape
