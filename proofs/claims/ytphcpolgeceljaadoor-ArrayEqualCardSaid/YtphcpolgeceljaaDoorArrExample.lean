/-
  Layer 3: the law's own example. (Written by wip/gen/array-example.py.)
-/
import Derived.Test.YtphcpolgeceljaaDoorArrLaw1
import Derived.Handy
import Derived.Deep.RegionHeld3
namespace Go.Proofs.YtphcpolgeceljaaDoor.Shape
open Go.RowKit

theorem textH (w : World) (hT : Tabs w) : Calls Tryd.prog 31 #[.string ⟨#[104, 105]⟩] w (GiveArr exT w) := ex_text_hi ▸ textQ ⟨#[104, 105]⟩ w (by decide) hT
theorem text0 (w : World) (hT : Tabs w) : Calls Tryd.prog 31 #[.string ⟨#[]⟩] w (GiveArr (.mk 2 [0] [] []) w) := ex_text_0 ▸ textQ ⟨#[]⟩ w (by decide) hT
theorem text1 (w : World) (hT : Tabs w) : Calls Tryd.prog 31 #[.string ⟨#[32]⟩] w (GiveArr (.mk 2 [1] [32] []) w) := ex_text_1 ▸ textQ ⟨#[32]⟩ w (by decide) hT
theorem rightM {v : Value} {w : World} (h : ArrAt w v exM) : Calls Tryd.prog 13 #[v] w fun e w' => e = .returned (.int .i64 0) ∧ Below w.heap.size w w' := by
  have := rightQ v exM w h; rw [ex_M] at this; exact this
theorem sizeB {v : Value} {w : World} (h : ArrAt w v exB) : Calls Tryd.prog 15 #[v] w fun e w' => e = .returned (.int .i64 2) ∧ Below w.heap.size w w' := by
  have := sizeQ v exB w h; rw [ex_size] at this; exact this
theorem reach_T : Reach exT := by rw [exT, Reach, ReachL]; exact ⟨by decide, by decide, by decide, trivial⟩
theorem reach_M : Reach exM := by rw [exM, Reach, ReachL]; exact ⟨by decide, by decide, by decide, trivial⟩
theorem reach_B : Reach exB := by rw [exB, Reach, ReachL, ReachL, ReachL]; exact ⟨by decide, by decide, by decide, reach_M, reach_T, trivial⟩
theorem weightB {v : Value} {w : World} (h : ArrAt w v exB) : Calls Tryd.prog 17 #[v] w fun e w' => e = .returned (.int .i64 8) ∧ Below w.heap.size w w' := by
  have := weightQ v exB w h reach_B; rw [ex_wt] at this; exact this
theorem atB {v : Value} {w : World} (h : ArrAt w v exB) : Calls Tryd.prog 37 #[v, .int .i64 1] w (GiveArr (.mk 3 [] [] [exT]) w) := by
  have := atQ v exB 1 w h reach_B (by decide); rw [ex_at] at this; exact this
theorem at0 {v : Value} {w : World} (h : ArrAt w v (.mk 2 [1] [32] [])) : Calls Tryd.prog 37 #[v, .int .i64 0] w (GiveArr (.mk 2 [] [32] []) w) := by
  have := atQ v _ 0 w h (by rw [Reach, ReachL]; exact ⟨by decide, by decide, by decide, trivial⟩) (by decide); rw [ex_at0] at this; exact this
theorem boxT {v : Value} {w : World} (h : ArrAt w v exT) : Calls Tryd.prog 27 #[v] w (GiveArr (.mk 3 [] [] [exT]) w) := by
  have := boxQ v exT w h reach_T; rw [ex_boxT] at this; exact this
theorem scalar1 (w : World) : Calls Tryd.prog 25 #[.int .i64 1] w (GiveArr (.mk 1 [] [1] []) w) := ex_sc ▸ scalarQ 1 w (by decide)
theorem fillT {v : Value} {w : World} (h : ArrAt w v (.mk 2 [0] [] [])) : Calls Tryd.prog 35 #[v] w (GiveArr (.mk 2 [] [32] []) w) := by
  have := fillQ v _ w h; rw [ex_fill] at this; exact this
theorem sameT {v v2 : Value} {w : World} (h : ArrAt w v (.mk 3 [] [] [exT])) (h2 : ArrAt w v2 (.mk 3 [] [] [exT])) : Calls Tryd.prog 21 #[v, v2] w fun e w' => e = .returned (.bool true) ∧ Below w.heap.size w w' := by
  have := sameQ v v2 _ _ w h h2; rw [ex_eq1] at this; exact this
theorem sameC {v v2 : Value} {w : World} (h : ArrAt w v (.mk 1 [5] [1, 2, 1, 2, 1] [])) (h2 : ArrAt w v2 (.mk 1 [5] [1, 2, 1, 2, 1] [])) : Calls Tryd.prog 21 #[v, v2] w fun e w' => e = .returned (.bool true) ∧ Below w.heap.size w w' := by
  have := sameQ v v2 _ _ w h h2; rw [ex_eq2] at this; exact this
theorem sameS {v v2 : Value} {w : World} (h : ArrAt w v (.mk 1 [] [1] [])) (h2 : ArrAt w v2 (.mk 1 [1] [1] [])) : Calls Tryd.prog 21 #[v, v2] w fun e w' => e = .returned (.bool false) ∧ Below w.heap.size w w' := by
  have := sameQ v v2 _ _ w h h2; rw [ex_eq3] at this; exact this
theorem sameF {v v2 : Value} {w : World} (h : ArrAt w v (.mk 2 [] [32] [])) (h2 : ArrAt w v2 (.mk 2 [] [32] [])) : Calls Tryd.prog 21 #[v, v2] w fun e w' => e = .returned (.bool true) ∧ Below w.heap.size w w' := by
  have := sameQ v v2 _ _ w h h2; rw [ex_eq4] at this; exact this
theorem vector2 {w : World} {b : Nat} (hw : b = w.heap.size) : Calls Tryd.prog 29 #[.slice (some ⟨b, 0, none⟩) 2 2] (w.alloc (.cells #[.int .i64 1, .int .i64 2] 3)) (GiveArr (.mk 1 [2] [1, 2] []) (w.alloc (.cells #[.int .i64 1, .int .i64 2] 3))) :=
  vectorX [1, 2] 2 _ _ rfl rfl ex_v2 (by decide) (by decide) w b hw
theorem vector5 {w : World} {b : Nat} (hw : b = w.heap.size) : Calls Tryd.prog 29 #[.slice (some ⟨b, 0, none⟩) 5 5] (w.alloc (.cells #[.int .i64 1, .int .i64 2, .int .i64 1, .int .i64 2, .int .i64 1] 3)) (GiveArr (.mk 1 [5] [1, 2, 1, 2, 1] []) (w.alloc (.cells #[.int .i64 1, .int .i64 2, .int .i64 1, .int .i64 2, .int .i64 1] 3))) :=
  vectorX [1, 2, 1, 2, 1] 5 _ _ rfl rfl ex_v5 (by decide) (by decide) w b hw
theorem vectorI {w : World} {a : Option Addr} (h : IntsAt w a 1 [1]) : Calls Tryd.prog 29 #[.slice a 1 1] w (GiveArr (.mk 1 [1] [1] []) w) := by
  have := vectorQ a 1 [1] w h (by decide)
  rw [show ([1] : List Int).length = 1 from rfl, ex_v1] at this
  exact this
theorem vector1 {w : World} {b : Nat} (hw : b = w.heap.size) : Calls Tryd.prog 29 #[.slice (some ⟨b, 0, none⟩) 1 1] (w.alloc (.cells #[.int .i64 1] 3)) (GiveArr (.mk 1 [1] [1] []) (w.alloc (.cells #[.int .i64 1] 3))) :=
  vectorX [1] 1 _ _ rfl rfl ex_v1 (by decide) (by decide) w b hw
/-- The array whose length is wrong, as a literal lays it. -/
theorem rightL {w : World} {a a2 : Nat} (ha : a = w.heap.size) (ha2 : a2 = w.heap.size + 1) : Calls Tryd.prog 13 #[.agg #[.int .i64 1, .slice (some ⟨a, 0, none⟩) 1 1, .slice (some ⟨a2, 0, none⟩) 1 1, .slice none 0 0]] ((w.alloc (.cells #[.int .i64 3] 3)).alloc (.cells #[.int .i64 1] 3)) fun e w' => e = .returned (.int .i64 16) ∧ Below ((w.alloc (.cells #[.int .i64 3] 3)).alloc (.cells #[.int .i64 1] 3)).heap.size ((w.alloc (.cells #[.int .i64 3] 3)).alloc (.cells #[.int .i64 1] 3)) w' := by
  subst ha; subst ha2
  have h : ArrAt ((w.alloc (.cells #[.int .i64 3] 3)).alloc (.cells #[.int .i64 1] 3)) (.agg #[.int .i64 1, .slice (some ⟨w.heap.size, 0, none⟩) 1 1, .slice (some ⟨w.heap.size + 1, 0, none⟩) 1 1, .slice none 0 0]) (.mk 1 [3] [1] []) :=
    arr_plain (sh := [3]) (nu := [1]) (by decide) rfl rfl ((lit_ints w [3] _ _ _ _ rfl rfl rfl (by decide) (by decide)).below (below_new _ _)) (lit_ints _ [1] _ _ _ _ rfl (by simp) rfl (by decide) (by decide))
  have := rightQ _ _ _ h; rw [ex_len] at this; exact this

theorem rightL2 {w : World} {a a2 : Nat} (ha : a = w.heap.size + 1) (ha2 : a2 = w.heap.size) : Calls Tryd.prog 13 #[.agg #[.int .i64 1, .slice (some ⟨a, 0, none⟩) 1 1, .slice (some ⟨a2, 0, none⟩) 1 1, .slice none 0 0]] ((w.alloc (.cells #[.int .i64 1] 3)).alloc (.cells #[.int .i64 3] 3)) fun e w' => e = .returned (.int .i64 16) ∧ Below ((w.alloc (.cells #[.int .i64 1] 3)).alloc (.cells #[.int .i64 3] 3)).heap.size ((w.alloc (.cells #[.int .i64 1] 3)).alloc (.cells #[.int .i64 3] 3)) w' := by
  subst ha; subst ha2
  have h : ArrAt ((w.alloc (.cells #[.int .i64 1] 3)).alloc (.cells #[.int .i64 3] 3)) (.agg #[.int .i64 1, .slice (some ⟨w.heap.size + 1, 0, none⟩) 1 1, .slice (some ⟨w.heap.size, 0, none⟩) 1 1, .slice none 0 0]) (.mk 1 [3] [1] []) :=
    arr_plain (sh := [3]) (nu := [1]) (by decide) rfl rfl (lit_ints _ [3] _ _ _ _ rfl (by simp) rfl (by decide) (by decide)) ((lit_ints w [1] _ _ _ _ rfl rfl rfl (by decide) (by decide)).below (below_new _ _))
  have := rightQ _ _ _ h; rw [ex_len] at this; exact this

set_option maxRecDepth 100000 in
set_option maxHeartbeats 64000000 in
theorem exampleL (w : World) (hT : Tabs w) : Calls Tryd.prog 12 #[] w fun e w' => e = .returned (.bool true) ∧ Below w.heap.size w w' := by
  go_enter Tryd.func12, Tryd.ntmps12
  go_wp2_with (first
    | (go_at_call 44; (with_reducible refine (matrixL w).mono ?_); intro e w1 hN1; (obtain ⟨k1, sa1, ls1, sc1, na1, ln1, nc1, ia1, li1, ic1, rfl, h1, b1⟩ := hN1.form))
    | (go_at_call 31; (with_reducible refine (textH w1 (hT.below b1)).mono ?_); intro e w2 hN2; (obtain ⟨k2, sa2, ls2, sc2, na2, ln2, nc2, ia2, li2, ic2, rfl, h2, b2⟩ := hN2.form))
    | (go_at_call 33; (with_reducible refine (boxesX (h1.below b2) h2).mono ?_); intro e w3 hN3; (obtain ⟨k3, sa3, ls3, sc3, na3, ln3, nc3, ia3, li3, ic3, rfl, h3, b3⟩ := hN3.form); (have B3 : Below w.heap.size w w3 := Below.then (Below.then b1 b2) (Below.then (below_new w2 _) b3)); (have q3 := Quad.new w3 (.int .i64 k3) (.slice sa3 ls3 sc3) (.slice na3 ln3 nc3) (.slice ia3 li3 ic3)); (have h3' := h3.below (below_new w3 (.cells #[.int .i64 k3, .slice sa3 ls3 sc3, .slice na3 ln3 nc3, .slice ia3 li3 ic3] 26))))
    | (go_at_call 29; (with_reducible refine (vector2 (by simp)).mono ?_); intro e w4 hN4; (obtain ⟨k4, sa4, ls4, sc4, na4, ln4, nc4, ia4, li4, ic4, rfl, h4, b4⟩ := hN4.form); (have g4 := ((lit_ints (w3.alloc (.cells #[.int .i64 k3, .slice sa3 ls3 sc3, .slice na3 ln3 nc3, .slice ia3 li3 ic3] 26)) [5] 3 #[.int .i64 5] (w3.heap.size + 1) 1 rfl (by simp) rfl (by decide) (by decide)).below (below_new _ (.cells #[.int .i64 1, .int .i64 2] 3))).below b4); (have B34 : Below (w3.alloc (.cells #[.int .i64 k3, .slice sa3 ls3 sc3, .slice na3 ln3 nc3, .slice ia3 li3 ic3] 26)).heap.size (w3.alloc (.cells #[.int .i64 k3, .slice sa3 ls3 sc3, .slice na3 ln3 nc3, .slice ia3 li3 ic3] 26)) w4 := Below.then (Below.then (below_new _ _) (below_new _ _)) b4))
    | (go_at_call 41; (with_reducible refine (ofX g4 h4).mono ?_); intro e w5 hN5; (obtain ⟨k5, sa5, ls5, sc5, na5, ln5, nc5, ia5, li5, ic5, rfl, h5, b5⟩ := hN5.form); (have B35 := Below.then B34 b5); (have q5 := Quad.new w5 (.int .i64 k5) (.slice sa5 ls5 sc5) (.slice na5 ln5 nc5) (.slice ia5 li5 ic5)); (have qb5 := (q3.below B35).below (below_new w5 (.cells #[.int .i64 k5, .slice sa5 ls5 sc5, .slice na5 ln5 nc5, .slice ia5 li5 ic5] 26))); (have hb5 := (h3'.below B35).below (below_new w5 (.cells #[.int .i64 k5, .slice sa5 ls5 sc5, .slice na5 ln5 nc5, .slice ia5 li5 ic5] 26))); (have hc5 := h5.below (below_new w5 (.cells #[.int .i64 k5, .slice sa5 ls5 sc5, .slice na5 ln5 nc5, .slice ia5 li5 ic5] 26)))))
  have BW5 : Below w.heap.size w (w5.alloc (.cells #[.int .i64 k5, .slice sa5 ls5 sc5, .slice na5 ln5 nc5, .slice ia5 li5 ic5] 26)) := Below.then (Below.then B3 (below_new w3 _)) (Below.then B35 (below_new w5 _))
  have qc5 : Quad (w5.alloc (.cells #[.int .i64 k5, .slice sa5 ls5 sc5, .slice na5 ln5 nc5, .slice ia5 li5 ic5] 26)) w5.heap.size (.int .i64 k5) (.slice sa5 ls5 sc5) (.slice na5 ln5 nc5) (.slice ia5 li5 ic5) := q5
  clear q5 h1 h2 h3 h3' h4 h5 q3 g4 B3 B34 B35
  generalize hW : w5.alloc (.cells #[.int .i64 k5, .slice sa5 ls5 sc5, .slice na5 ln5 nc5, .slice ia5 li5 ic5] 26) = W5 at qb5 hb5 hc5 qc5 BW5 ⊢
  generalize w5.heap.size = n5 at qc5 ⊢
  generalize w3.heap.size = n3 at qb5 ⊢
  clear hW
  have TW : Tabs W5 := hT.below BW5
  have H0 : ∀ w', Below W5.heap.size W5 w' → (w'.cell? ⟨n3, 0, none⟩ = some (.int .i64 k3) ∧ w'.cell? ⟨n3, 1, none⟩ = some (.slice sa3 ls3 sc3) ∧ w'.cell? ⟨n3, 2, none⟩ = some (.slice na3 ln3 nc3) ∧ w'.cell? ⟨n3, 3, none⟩ = some (.slice ia3 li3 ic3)) ∧ (w'.cell? ⟨n5, 0, none⟩ = some (.int .i64 k5) ∧ w'.cell? ⟨n5, 1, none⟩ = some (.slice sa5 ls5 sc5) ∧ w'.cell? ⟨n5, 2, none⟩ = some (.slice na5 ln5 nc5) ∧ w'.cell? ⟨n5, 3, none⟩ = some (.slice ia5 li5 ic5)) ∧ Below W5.heap.size W5 w' := by
    intro w' hb
    obtain ⟨x0, x1, x2, x3, -⟩ := (qb5.below hb).cells
    obtain ⟨u0, u1, u2, u3, -⟩ := (qc5.below hb).cells
    exact ⟨⟨x0, x1, x2, x3⟩, ⟨u0, u1, u2, u3⟩, hb⟩
  go_region_held3 (fun w' => (w'.cell? ⟨n3, 0, none⟩ = some (.int .i64 k3) ∧ w'.cell? ⟨n3, 1, none⟩ = some (.slice sa3 ls3 sc3) ∧ w'.cell? ⟨n3, 2, none⟩ = some (.slice na3 ln3 nc3) ∧ w'.cell? ⟨n3, 3, none⟩ = some (.slice ia3 li3 ic3)) ∧ (w'.cell? ⟨n5, 0, none⟩ = some (.int .i64 k5) ∧ w'.cell? ⟨n5, 1, none⟩ = some (.slice sa5 ls5 sc5) ∧ w'.cell? ⟨n5, 2, none⟩ = some (.slice na5 ln5 nc5) ∧ w'.cell? ⟨n5, 3, none⟩ = some (.slice ia5 li5 ic5)) ∧ Below W5.heap.size W5 w')
    (first | exact H0 _ (by go_grown) | go_keep)
    ((first
    | (go_at_call 44; (with_reducible refine (matrixL _).mono ?_); intro e w6 hN6; (obtain ⟨k6, sa6, ls6, sc6, na6, ln6, nc6, ia6, li6, ic6, rfl, h6, b6⟩ := hN6.form); (have E5_6 : Below W5.heap.size W5 w6 := Below.then (by go_grown) b6); (have S5_6 := E5_6.size))
    | (go_at_call 13; (with_reducible refine (rightM (h6.below (by go_grown))).mono ?_); rintro e w7 ⟨rfl, b7⟩; (have E5_7 : Below W5.heap.size W5 w7 := Below.then (by go_grown) b7); (have S5_7 := E5_7.size))
    | (go_at_call 15; (with_reducible refine (sizeB (hb5.below (by go_grown))).mono ?_); rintro e w8 ⟨rfl, b8⟩; (have E5_8 : Below W5.heap.size W5 w8 := Below.then (by go_grown) b8); (have S5_8 := E5_8.size))
    | (go_at_call 17; (with_reducible refine (weightB (hb5.below (by go_grown))).mono ?_); rintro e w9 ⟨rfl, b9⟩; (have E5_9 : Below W5.heap.size W5 w9 := Below.then (by go_grown) b9); (have S5_9 := E5_9.size))
    | (go_at_call 37; (with_reducible refine (atB (hb5.below (by go_grown))).mono ?_); intro e w10 hN10; (obtain ⟨k10, sa10, ls10, sc10, na10, ln10, nc10, ia10, li10, ic10, rfl, h10, b10⟩ := hN10.form); (have E5_10 : Below W5.heap.size W5 w10 := Below.then (by go_grown) b10); (have S5_10 := E5_10.size))
    | (go_at_call 31; (with_reducible refine (textH _ (TW.below (by go_grown))).mono ?_); intro e w11 hN11; (obtain ⟨k11, sa11, ls11, sc11, na11, ln11, nc11, ia11, li11, ic11, rfl, h11, b11⟩ := hN11.form); (have E5_11 : Below W5.heap.size W5 w11 := Below.then (by go_grown) b11); (have S5_11 := E5_11.size); (have E10_11 : Below w10.heap.size w10 w11 := Below.then (by go_grown) b11); (have S10_11 := E10_11.size))
    | (go_at_call 27; (with_reducible refine (boxT (h11.below (by go_grown))).mono ?_); intro e w12 hN12; (obtain ⟨k12, sa12, ls12, sc12, na12, ln12, nc12, ia12, li12, ic12, rfl, h12, b12⟩ := hN12.form); (have E5_12 : Below W5.heap.size W5 w12 := Below.then (by go_grown) b12); (have S5_12 := E5_12.size); (have E10_12 : Below w10.heap.size w10 w12 := Below.then (by go_grown) b12); (have S10_12 := E10_12.size))
    | (go_at_call 21; (with_reducible refine (sameT (h10.below (by go_grown)) (h12.below (by go_grown))).mono ?_); rintro e w13 ⟨rfl, b13⟩; (have E5_13 : Below W5.heap.size W5 w13 := Below.then (by go_grown) b13); (have S5_13 := E5_13.size))
    | (go_at_call 29; (with_reducible refine (vector5 (by simp)).mono ?_); intro e w14 hN14; (obtain ⟨k14, sa14, ls14, sc14, na14, ln14, nc14, ia14, li14, ic14, rfl, h14, b14⟩ := hN14.form); (have E5_14 : Below W5.heap.size W5 w14 := Below.then (by go_grown) b14); (have S5_14 := E5_14.size))
    | (go_at_call 21; (with_reducible refine (sameC (hc5.below (by go_grown)) (h14.below (by go_grown))).mono ?_); rintro e w15 ⟨rfl, b15⟩; (have E5_15 : Below W5.heap.size W5 w15 := Below.then (by go_grown) b15); (have S5_15 := E5_15.size))
    | (go_at_call 13; (with_reducible refine (rightL (by simp) (by simp)).mono ?_); rintro e w16 ⟨rfl, b16⟩; (have E5_16 : Below W5.heap.size W5 w16 := Below.then (by go_grown) b16); (have S5_16 := E5_16.size))
    | (go_at_call 25; (with_reducible refine (scalar1 _).mono ?_); intro e w17 hN17; (obtain ⟨k17, sa17, ls17, sc17, na17, ln17, nc17, ia17, li17, ic17, rfl, h17, b17⟩ := hN17.form); (have E5_17 : Below W5.heap.size W5 w17 := Below.then (by go_grown) b17); (have S5_17 := E5_17.size))
    | (go_at_call 13; (with_reducible refine (rightL2 (by simp) (by simp)).mono ?_); rintro e w16 ⟨rfl, b16⟩; (have E5_16 : Below W5.heap.size W5 w16 := Below.then (by go_grown) b16); (have S5_16 := E5_16.size))
    | (go_at_call 29; (with_reducible refine (vectorI ((lit_ints _ [1] _ _ _ 1 rfl (by simp) rfl (by decide) (by decide)).below b17)).mono ?_); intro e w18 hN18; (obtain ⟨k18, sa18, ls18, sc18, na18, ln18, nc18, ia18, li18, ic18, rfl, h18, b18⟩ := hN18.form); (have E5_18 : Below W5.heap.size W5 w18 := Below.then (by go_grown) b18); (have S5_18 := E5_18.size); (have E17_18 : Below w17.heap.size w17 w18 := Below.then (by go_grown) b18))
    | (go_at_call 29; (with_reducible refine (vector1 (by simp)).mono ?_); intro e w18 hN18; (obtain ⟨k18, sa18, ls18, sc18, na18, ln18, nc18, ia18, li18, ic18, rfl, h18, b18⟩ := hN18.form); (have E5_18 : Below W5.heap.size W5 w18 := Below.then (by go_grown) b18); (have S5_18 := E5_18.size); (have E17_18 : Below w17.heap.size w17 w18 := Below.then (by go_grown) b18))
    | (go_at_call 21; (with_reducible refine (sameS (h17.below (by go_grown)) (h18.below (by go_grown))).mono ?_); rintro e w19 ⟨rfl, b19⟩; (have E5_19 : Below W5.heap.size W5 w19 := Below.then (by go_grown) b19); (have S5_19 := E5_19.size))
    | (go_at_call 31; (with_reducible refine (text0 _ (TW.below (by go_grown))).mono ?_); intro e w20 hN20; (obtain ⟨k20, sa20, ls20, sc20, na20, ln20, nc20, ia20, li20, ic20, rfl, h20, b20⟩ := hN20.form); (have E5_20 : Below W5.heap.size W5 w20 := Below.then (by go_grown) b20); (have S5_20 := E5_20.size))
    | (go_at_call 35; (with_reducible refine (fillT (h20.below (by go_grown))).mono ?_); intro e w21 hN21; (obtain ⟨k21, sa21, ls21, sc21, na21, ln21, nc21, ia21, li21, ic21, rfl, h21, b21⟩ := hN21.form); (have E5_21 : Below W5.heap.size W5 w21 := Below.then (by go_grown) b21); (have S5_21 := E5_21.size))
    | (go_at_call 31; (with_reducible refine (text1 _ (TW.below (by go_grown))).mono ?_); intro e w22 hN22; (obtain ⟨k22, sa22, ls22, sc22, na22, ln22, nc22, ia22, li22, ic22, rfl, h22, b22⟩ := hN22.form); (have E5_22 : Below W5.heap.size W5 w22 := Below.then (by go_grown) b22); (have S5_22 := E5_22.size); (have E21_22 : Below w21.heap.size w21 w22 := Below.then (by go_grown) b22); (have S21_22 := E21_22.size))
    | (go_at_call 37; (with_reducible refine (at0 (h22.below (by go_grown))).mono ?_); intro e w23 hN23; (obtain ⟨k23, sa23, ls23, sc23, na23, ln23, nc23, ia23, li23, ic23, rfl, h23, b23⟩ := hN23.form); (have E5_23 : Below W5.heap.size W5 w23 := Below.then (by go_grown) b23); (have S5_23 := E5_23.size); (have E21_23 : Below w21.heap.size w21 w23 := Below.then (by go_grown) b23); (have S21_23 := E21_23.size))
    | (go_at_call 21; (with_reducible refine (sameF (h21.below (by go_grown)) (h23.below (by go_grown))).mono ?_); rintro e w24 ⟨rfl, b24⟩; (have E5_24 : Below W5.heap.size W5 w24 := Below.then (by go_grown) b24); (have S5_24 := E5_24.size))))
  all_goals go_wp2_with fail
  all_goals go_ret
  all_goals exact ⟨rfl, BW5.trans (E5_24.mono BW5.size)⟩
end Go.Proofs.YtphcpolgeceljaaDoor.Shape
