/-
  Layer 16: the chapter's examples (lives), over the contracts.
-/
import Derived.Test.YtekbdiniibmhgaaBinLv1g
import Derived.Test.YtekbdiniibmhgaaBinGW
import Derived.Deep.RegionHeldLaw
namespace Go.Proofs.Ytekbdiniibmhgaa.Shape
open Go.RowKit
open Go.Proofs.Ytekbdiniibmhgaa.Shp (agB agL)
set_option linter.unusedVariables false
set_option linter.unusedSimpArgs false

set_option maxRecDepth 100000 in
set_option maxHeartbeats 20000000 in
theorem lives16 (AP : ApplyOK) (SC : ScalarOK) (w : World) : Calls Try.prog 12 #[] w fun e w' => e = .returned (.bool true) ∧ Below w.heap.size w w' := by
  have A1 : ∀ (P : Nat → Prop) v v2 w, (∀ g, w.heap.size ≤ g → P g) → ArrOn P w v (vec16 [10, 20]) → ArrOn P w v2 exM16 → Calls Try.prog 14 #[.int .i64 1, v, v2] w (Gives P exR16 0 w) := fun P v v2 w hP h g => by
    have := AP P 1 v v2 _ _ w hP h g (reach_flat (by decide) (by decide)) (reach_flat (by decide) (by decide))
    rw [e16a] at this; exact this
  have A2 : ∀ (P : Nat → Prop) v v2 w, (∀ g, w.heap.size ≤ g → P g) → ArrOn P w v (vec16 [1, 2, 3]) → ArrOn P w v2 exM16 → Calls Try.prog 14 #[.int .i64 1, v, v2] w (Gives P zeroA 16 w) := fun P v v2 w hP h g => by
    have := AP P 1 v v2 _ _ w hP h g (reach_flat (by decide) (by decide)) (reach_flat (by decide) (by decide))
    rw [e16b] at this; exact this
  have A3 : ∀ v v2 w, ArrAt w v exC16 → ArrAt w v2 (vec16 [97, 98]) → Calls Try.prog 14 #[.int .i64 11, v, v2] w (Gives (fun _ => True) (vec16 [0, 0]) 0 w) := fun v v2 w h g => by
    have := AP (fun _ => True) 11 v v2 _ _ w (fun _ _ => trivial) (at_onT h) (at_onT g) (reach_flat (by decide) (by decide)) (reach_flat (by decide) (by decide))
    rw [e16c] at this; exact this
  have A4 : ∀ v v2 w, ArrAt w v (vec16 [1, 2, 3]) → ArrAt w v2 (vec16 [1, 0, 0]) → Calls Try.prog 14 #[.int .i64 4, v, v2] w (Gives (fun _ => True) zeroA 20 w) := fun v v2 w h g => by
    have := AP (fun _ => True) 4 v v2 _ _ w (fun _ _ => trivial) (at_onT h) (at_onT g) (reach_flat (by decide) (by decide)) (reach_flat (by decide) (by decide))
    rw [e16d] at this; exact this
  have SS := fun w => SC 5 (-7) 2 w
  rw [e16s] at SS
  clear AP SC
  have X0 := Ex16.new w
  go_enter Try.func12, Try.ntmps12
  go_upto_region 2 with fail
  generalize (((w.alloc (.cells #[.int .i64 2, .int .i64 3] 3)).alloc (.cells #[.int .i64 1, .int .i64 2, .int .i64 3, .int .i64 4, .int .i64 5, .int .i64 6] 3)).alloc (.cells #[.int .i64 1, .slice (some ⟨w.heap.size, 0, none⟩) 2 2, .slice (some ⟨w.heap.size + 1, 0, none⟩) 6 6, .slice none 0 0] 33)) = W at X0 ⊢
  go_cut [2, 3] from 15 to 22 (fun v2 v3 wx => ∃ (X : Nat) (k : Int) (sa : Option Addr) (ls sc : Nat) (na : Option Addr) (ln nc : Nat) (ia : Option Addr) (li ic : Nat), v2 = .pointer (some ⟨X, 0, none⟩) ∧ v3 = .int .i64 0 ∧ Quad wx X (.int .i64 k) (.slice sa ls sc) (.slice na ln nc) (.slice ia li ic) ∧ ArrAt wx (.agg #[.int .i64 k, .slice sa ls sc, .slice na ln nc, .slice ia li ic]) exR16 ∧ Ex16 w wx)
  case first =>
    clear A2 A3 A4 SS
    have l2 := lit16 W [10, 20] 3 #[.int .i64 10, .int .i64 20] W.heap.size 2 rfl rfl rfl (by decide) (by decide)
    have l3 := lit16 (W.alloc (.cells #[.int .i64 0, .slice none 0 0, .slice none 0 0, .slice none 0 0] 33)) [10, 20] 3 #[.int .i64 10, .int .i64 20] (W.heap.size + 1) 2 rfl (by simp) rfl (by decide) (by decide)
    have I1 := fun w' (hb : Below _ _ w') => ints16L (fun _ => True) (some ⟨W.heap.size, 0, none⟩) 2 [10, 20] 2 rfl w' (fun _ _ => trivial) ⟨l2.below hb, fun _ _ _ => trivial⟩
    have s2 : ((W.alloc (.cells #[.int .i64 10, .int .i64 20] 3)).alloc (.cells #[.int .i64 0, .slice none 0 0, .slice none 0 0, .slice none 0 0] 33)).heap.size = W.heap.size + 1 + 1 := by simp
    have s3 : ((W.alloc (.cells #[.int .i64 0, .slice none 0 0, .slice none 0 0, .slice none 0 0] 33)).alloc (.cells #[.int .i64 10, .int .i64 20] 3)).heap.size = W.heap.size + 1 + 1 := by simp
    have I2 := ints16L (fun g => g ≠ W.heap.size + 1) (some ⟨W.heap.size, 0, none⟩) 2 [10, 20] 2 rfl ((W.alloc (.cells #[.int .i64 10, .int .i64 20] 3)).alloc (.cells #[.int .i64 0, .slice none 0 0, .slice none 0 0, .slice none 0 0] 33)).drew (fun g hg => by have : W.heap.size + 1 + 1 ≤ g := s2 ▸ hg; omega) ⟨l2.below (Below.then (below_new _ _) (drew16 _)), fun _ ad e => by cases e; show W.heap.size ≠ W.heap.size + 1; omega⟩
    have I3 := ints16L (fun g => g ≠ W.heap.size) (some ⟨W.heap.size + 1, 0, none⟩) 2 [10, 20] 2 rfl ((W.alloc (.cells #[.int .i64 0, .slice none 0 0, .slice none 0 0, .slice none 0 0] 33)).alloc (.cells #[.int .i64 10, .int .i64 20] 3)).drew (fun g hg => by have : W.heap.size + 1 + 1 ≤ g := s3 ▸ hg; omega) ⟨l3.below (drew16 _), fun _ ad e => by cases e; show W.heap.size + 1 ≠ W.heap.size; omega⟩
    have qA : Quad (W.alloc (.cells #[.int .i64 0, .slice none 0 0, .slice none 0 0, .slice none 0 0] 33)) W.heap.size (.int .i64 0) (.slice none 0 0) (.slice none 0 0) (.slice none 0 0) := Quad.new W _ _ _ _
    have qB : Quad ((W.alloc (.cells #[.int .i64 10, .int .i64 20] 3)).alloc (.cells #[.int .i64 0, .slice none 0 0, .slice none 0 0, .slice none 0 0] 33)) (W.heap.size + 1) (.int .i64 0) (.slice none 0 0) (.slice none 0 0) (.slice none 0 0) := by
      simpa using Quad.new (W.alloc (.cells #[.int .i64 10, .int .i64 20] 3)) (.int .i64 0) (.slice none 0 0) (.slice none 0 0) (.slice none 0 0)
    have qC := fun w2 : World => Quad.new w2 (.int .i64 0) (.slice none 0 0) (.slice none 0 0) (.slice none 0 0)
    have H0 : ∀ w', Below W.heap.size W w' → (w'.cell? ⟨w.heap.size + 1 + 1, 0, none⟩ = some (.int .i64 1) ∧ w'.cell? ⟨w.heap.size + 1 + 1, 1, none⟩ = some (.slice (some ⟨w.heap.size, 0, none⟩) 2 2) ∧ w'.cell? ⟨w.heap.size + 1 + 1, 2, none⟩ = some (.slice (some ⟨w.heap.size + 1, 0, none⟩) 6 6) ∧ w'.cell? ⟨w.heap.size + 1 + 1, 3, none⟩ = some (.slice none 0 0)) := fun w' hb => by
      obtain ⟨k0, k1, k2, k3, -⟩ := (X0.below hb).q.cells
      exact ⟨k0, k1, k2, k3⟩
    have hW1 : W.heap.size ≤ W.heap.size + 1 := Nat.le_succ _
    clear l2 l3 s2 s3
    go_region_held_law (fun w' => w'.cell? ⟨w.heap.size + 1 + 1, 0, none⟩ = some (.int .i64 1) ∧ w'.cell? ⟨w.heap.size + 1 + 1, 1, none⟩ = some (.slice (some ⟨w.heap.size, 0, none⟩) 2 2) ∧ w'.cell? ⟨w.heap.size + 1 + 1, 2, none⟩ = some (.slice (some ⟨w.heap.size + 1, 0, none⟩) 6 6) ∧ w'.cell? ⟨w.heap.size + 1 + 1, 3, none⟩ = some (.slice none 0 0))
    (first
      | exact H0 _ (drew16 _)
      | exact H0 _ (Below.then (below_new _ _) (drew16 _))
      | exact H0 _ (Below.then (Below.then (below_new _ _) (below_new _ _)) (drew16 _))
      | exact H0 _ E2
      | exact H0 _ (Below.then E2 (below_new _ _))
      | exact H0 _ E3
      | exact H0 _ (Below.then E3 (below_new _ _))
      | exact H0 _ (Below.setCell (Below.setCell (Below.setCell (Below.setCell E3 (by first | exact Nat.le_refl _ | assumption) _) (by first | exact Nat.le_refl _ | assumption) _) (by first | exact Nat.le_refl _ | assumption) _) (by first | exact Nat.le_refl _ | assumption) _))
    (first
      | (go_at_call 28; first
        | ((with_reducible refine (I1 _ (drew16 _)).mono ?_); (intro e w2 hh2); (obtain ⟨b2, rfl, h2, hb2⟩ := hh2); (have E2 := (Below.then (Below.then (below_new _ _) (drew16 _)) hb2)); (have hs2 : W.heap.size ≤ w2.heap.size := E2.size))
        | ((with_reducible refine I2.mono ?_); (intro e w2 hh2); (obtain ⟨b2, rfl, h2, hb2⟩ := hh2); (have E2 := (Below.then (Below.then (Below.then (below_new _ _) (below_new _ _)) (drew16 _)) hb2)); (have hs2 : W.heap.size ≤ w2.heap.size := E2.size); (have qz := Quad.below (Below.then (drew16 _) hb2) qB); (obtain ⟨z0, z1, z2, z3, z4, z5, z6, z7⟩ := qz.cells); (have hm2 := apart (B := W.heap.size + 1) X0.a E2 (by omega)); (have hbz := qz.lt))
        | ((with_reducible refine I3.mono ?_); (intro e w2 hh2); (obtain ⟨b2, rfl, h2, hb2⟩ := hh2); (have E2 := (Below.then (Below.then (Below.then (below_new _ _) (below_new _ _)) (drew16 _)) hb2)); (have hs2 : W.heap.size ≤ w2.heap.size := E2.size); (have qz := Quad.below (Below.then (Below.then (below_new _ _) (drew16 _)) hb2) qA); (obtain ⟨z0, z1, z2, z3, z4, z5, z6, z7⟩ := qz.cells); (have hm2 := apart (B := W.heap.size) X0.a E2 (by omega)); (have hbz := qz.lt)))
      | (go_at_call 14; first
        | ((with_reducible refine (A1 (fun g => g ≠ W.heap.size + 1) _ _ _ (fun g hg => by have : w2.heap.size ≤ g := hg; have := hbz; omega) h2 hm2).mono ?_); intro e w3 h3; (obtain ⟨k3, sa3, ls3, sc3, na3, ln3, nc3, ia3, li3, ic3, rfl, a3, hb3⟩ := h3); (have E3 := Below.then E2 hb3); (have qy := qz.below hb3); (obtain ⟨y0, y1, y2, y3, y4, y5, y6, y7⟩ := qy.cells))
        | ((with_reducible refine (A1 (fun g => g ≠ W.heap.size) _ _ _ (fun g hg => by have : w2.heap.size ≤ g := hg; have := hbz; omega) h2 hm2).mono ?_); intro e w3 h3; (obtain ⟨k3, sa3, ls3, sc3, na3, ln3, nc3, ia3, li3, ic3, rfl, a3, hb3⟩ := h3); (have E3 := Below.then E2 hb3); (have qy := qz.below hb3); (obtain ⟨y0, y1, y2, y3, y4, y5, y6, y7⟩ := qy.cells))
        | ((with_reducible refine (A1 (fun _ => True) _ _ w2 (fun _ _ => trivial) h2 (at_onT (X0.below E2).a)).mono ?_); intro e w3 h3; (obtain ⟨k3, sa3, ls3, sc3, na3, ln3, nc3, ia3, li3, ic3, rfl, a3, hb3⟩ := h3); (have E3 := Below.then E2 hb3))
        | ((with_reducible refine (A1 (fun g => g ≠ w2.heap.size) _ _ _ (fun g hg => Nat.ne_of_gt (Nat.lt_of_succ_le (by simpa using hg))) (apart h2.at (below_new _ _) (Nat.le_refl _)) (apart (X0.below E2).a (below_new _ _) (Nat.le_refl _))).mono ?_); intro e w3 h3; (obtain ⟨k3, sa3, ls3, sc3, na3, ln3, nc3, ia3, li3, ic3, rfl, a3, hb3⟩ := h3); (have E3 := Below.then E2 (Below.then (below_new _ _) hb3)); (have qy := (qC w2).below hb3); (obtain ⟨y0, y1, y2, y3, y4, y5, y6, y7⟩ := qy.cells))))
    all_goals go_wp2_with fail
    all_goals go_meet
    all_goals first
      | (obtain ⟨r1, r2, r3⟩ := kept_set qy (H := W.heap.size) (by first | exact Nat.le_refl _ | assumption | omega) a3; exact ⟨_, _, _, _, _, _, _, _, _, _, _, rfl, rfl, r1, r2, X0.below (E3.trans r3)⟩)
      | (obtain ⟨r1, r2, r3⟩ := kept_new a3.at; exact ⟨_, _, _, _, _, _, _, _, _, _, _, rfl, rfl, r1, r2, X0.below (Below.then E3 r3)⟩)
  case rest =>
    obtain ⟨X, k, sa, ls, sc, na, ln, nc, ia, li, ic, rfl, rfl, qX, aX, X1⟩ := hcut
    clear A1 X0
    generalize wc = w1 at qX aX X1 ⊢
    go_upto_region 3 with fail
    go_cut [5] from 22 to 29 (fun v5 wy => v5 = .int .i64 16 ∧ Below w1.heap.size w1 wy)
    case first =>
      clear A3 A4 SS qX aX
      have l2 := lit16 w1 [1, 2, 3] 3 #[.int .i64 1, .int .i64 2, .int .i64 3] w1.heap.size 3 rfl rfl rfl (by decide) (by decide)
      have l3 := lit16 (w1.alloc (.cells #[.int .i64 0, .slice none 0 0, .slice none 0 0, .slice none 0 0] 33)) [1, 2, 3] 3 #[.int .i64 1, .int .i64 2, .int .i64 3] (w1.heap.size + 1) 3 rfl (by simp) rfl (by decide) (by decide)
      have I1 := fun w' (hb : Below _ _ w') => ints16L (fun _ => True) (some ⟨w1.heap.size, 0, none⟩) 3 [1, 2, 3] 3 rfl w' (fun _ _ => trivial) ⟨l2.below hb, fun _ _ _ => trivial⟩
      have s2 : ((w1.alloc (.cells #[.int .i64 1, .int .i64 2, .int .i64 3] 3)).alloc (.cells #[.int .i64 0, .slice none 0 0, .slice none 0 0, .slice none 0 0] 33)).heap.size = w1.heap.size + 1 + 1 := by simp
      have s3 : ((w1.alloc (.cells #[.int .i64 0, .slice none 0 0, .slice none 0 0, .slice none 0 0] 33)).alloc (.cells #[.int .i64 1, .int .i64 2, .int .i64 3] 3)).heap.size = w1.heap.size + 1 + 1 := by simp
      have I2 := ints16L (fun g => g ≠ w1.heap.size + 1) (some ⟨w1.heap.size, 0, none⟩) 3 [1, 2, 3] 3 rfl ((w1.alloc (.cells #[.int .i64 1, .int .i64 2, .int .i64 3] 3)).alloc (.cells #[.int .i64 0, .slice none 0 0, .slice none 0 0, .slice none 0 0] 33)).drew (fun g hg => by have : w1.heap.size + 1 + 1 ≤ g := s2 ▸ hg; omega) ⟨l2.below (Below.then (below_new _ _) (drew16 _)), fun _ ad e => by cases e; show w1.heap.size ≠ w1.heap.size + 1; omega⟩
      have I3 := ints16L (fun g => g ≠ w1.heap.size) (some ⟨w1.heap.size + 1, 0, none⟩) 3 [1, 2, 3] 3 rfl ((w1.alloc (.cells #[.int .i64 0, .slice none 0 0, .slice none 0 0, .slice none 0 0] 33)).alloc (.cells #[.int .i64 1, .int .i64 2, .int .i64 3] 3)).drew (fun g hg => by have : w1.heap.size + 1 + 1 ≤ g := s3 ▸ hg; omega) ⟨l3.below (drew16 _), fun _ ad e => by cases e; show w1.heap.size + 1 ≠ w1.heap.size; omega⟩
      have qA : Quad (w1.alloc (.cells #[.int .i64 0, .slice none 0 0, .slice none 0 0, .slice none 0 0] 33)) w1.heap.size (.int .i64 0) (.slice none 0 0) (.slice none 0 0) (.slice none 0 0) := Quad.new w1 _ _ _ _
      have qB : Quad ((w1.alloc (.cells #[.int .i64 1, .int .i64 2, .int .i64 3] 3)).alloc (.cells #[.int .i64 0, .slice none 0 0, .slice none 0 0, .slice none 0 0] 33)) (w1.heap.size + 1) (.int .i64 0) (.slice none 0 0) (.slice none 0 0) (.slice none 0 0) := by
        simpa using Quad.new (w1.alloc (.cells #[.int .i64 1, .int .i64 2, .int .i64 3] 3)) (.int .i64 0) (.slice none 0 0) (.slice none 0 0) (.slice none 0 0)
      have qC := fun w2 : World => Quad.new w2 (.int .i64 0) (.slice none 0 0) (.slice none 0 0) (.slice none 0 0)
      have H0 : ∀ w', Below w1.heap.size w1 w' → (w'.cell? ⟨w.heap.size + 1 + 1, 0, none⟩ = some (.int .i64 1) ∧ w'.cell? ⟨w.heap.size + 1 + 1, 1, none⟩ = some (.slice (some ⟨w.heap.size, 0, none⟩) 2 2) ∧ w'.cell? ⟨w.heap.size + 1 + 1, 2, none⟩ = some (.slice (some ⟨w.heap.size + 1, 0, none⟩) 6 6) ∧ w'.cell? ⟨w.heap.size + 1 + 1, 3, none⟩ = some (.slice none 0 0)) := fun w' hb => by
        obtain ⟨k0, k1, k2, k3, -⟩ := (X1.below hb).q.cells
        exact ⟨k0, k1, k2, k3⟩
      have hW1 : w1.heap.size ≤ w1.heap.size + 1 := Nat.le_succ _
      clear l2 l3 s2 s3
      go_region_held_law (fun w' => w'.cell? ⟨w.heap.size + 1 + 1, 0, none⟩ = some (.int .i64 1) ∧ w'.cell? ⟨w.heap.size + 1 + 1, 1, none⟩ = some (.slice (some ⟨w.heap.size, 0, none⟩) 2 2) ∧ w'.cell? ⟨w.heap.size + 1 + 1, 2, none⟩ = some (.slice (some ⟨w.heap.size + 1, 0, none⟩) 6 6) ∧ w'.cell? ⟨w.heap.size + 1 + 1, 3, none⟩ = some (.slice none 0 0))
      (first
        | exact H0 _ (drew16 _)
        | exact H0 _ (Below.then (below_new _ _) (drew16 _))
        | exact H0 _ (Below.then (Below.then (below_new _ _) (below_new _ _)) (drew16 _))
        | exact H0 _ E2
        | exact H0 _ (Below.then E2 (below_new _ _))
        | exact H0 _ E3
        | exact H0 _ (Below.then E3 (below_new _ _))
        | exact H0 _ (Below.setCell (Below.setCell (Below.setCell (Below.setCell E3 (by first | exact Nat.le_refl _ | assumption) _) (by first | exact Nat.le_refl _ | assumption) _) (by first | exact Nat.le_refl _ | assumption) _) (by first | exact Nat.le_refl _ | assumption) _))
      (first
        | (go_at_call 28; first
          | ((with_reducible refine (I1 _ (drew16 _)).mono ?_); (intro e w2 hh2); (obtain ⟨b2, rfl, h2, hb2⟩ := hh2); (have E2 := (Below.then (Below.then (below_new _ _) (drew16 _)) hb2)); (have hs2 : w1.heap.size ≤ w2.heap.size := E2.size))
          | ((with_reducible refine I2.mono ?_); (intro e w2 hh2); (obtain ⟨b2, rfl, h2, hb2⟩ := hh2); (have E2 := (Below.then (Below.then (Below.then (below_new _ _) (below_new _ _)) (drew16 _)) hb2)); (have hs2 : w1.heap.size ≤ w2.heap.size := E2.size); (have qz := Quad.below (Below.then (drew16 _) hb2) qB); (obtain ⟨z0, z1, z2, z3, z4, z5, z6, z7⟩ := qz.cells); (have hm2 := apart (B := w1.heap.size + 1) X1.a E2 (by omega)); (have hbz := qz.lt))
          | ((with_reducible refine I3.mono ?_); (intro e w2 hh2); (obtain ⟨b2, rfl, h2, hb2⟩ := hh2); (have E2 := (Below.then (Below.then (Below.then (below_new _ _) (below_new _ _)) (drew16 _)) hb2)); (have hs2 : w1.heap.size ≤ w2.heap.size := E2.size); (have qz := Quad.below (Below.then (Below.then (below_new _ _) (drew16 _)) hb2) qA); (obtain ⟨z0, z1, z2, z3, z4, z5, z6, z7⟩ := qz.cells); (have hm2 := apart (B := w1.heap.size) X1.a E2 (by omega)); (have hbz := qz.lt)))
        | (go_at_call 14; first
          | ((with_reducible refine (A2 (fun g => g ≠ w1.heap.size + 1) _ _ _ (fun g hg => by have : w2.heap.size ≤ g := hg; have := hbz; omega) h2 hm2).mono ?_); intro e w3 h3; (obtain ⟨k3, sa3, ls3, sc3, na3, ln3, nc3, ia3, li3, ic3, rfl, a3, hb3⟩ := h3); (have E3 := Below.then E2 hb3); (have qy := qz.below hb3); (obtain ⟨y0, y1, y2, y3, y4, y5, y6, y7⟩ := qy.cells))
          | ((with_reducible refine (A2 (fun g => g ≠ w1.heap.size) _ _ _ (fun g hg => by have : w2.heap.size ≤ g := hg; have := hbz; omega) h2 hm2).mono ?_); intro e w3 h3; (obtain ⟨k3, sa3, ls3, sc3, na3, ln3, nc3, ia3, li3, ic3, rfl, a3, hb3⟩ := h3); (have E3 := Below.then E2 hb3); (have qy := qz.below hb3); (obtain ⟨y0, y1, y2, y3, y4, y5, y6, y7⟩ := qy.cells))
          | ((with_reducible refine (A2 (fun _ => True) _ _ w2 (fun _ _ => trivial) h2 (at_onT (X1.below E2).a)).mono ?_); intro e w3 h3; (obtain ⟨k3, sa3, ls3, sc3, na3, ln3, nc3, ia3, li3, ic3, rfl, a3, hb3⟩ := h3); (have E3 := Below.then E2 hb3))
          | ((with_reducible refine (A2 (fun g => g ≠ w2.heap.size) _ _ _ (fun g hg => Nat.ne_of_gt (Nat.lt_of_succ_le (by simpa using hg))) (apart h2.at (below_new _ _) (Nat.le_refl _)) (apart (X1.below E2).a (below_new _ _) (Nat.le_refl _))).mono ?_); intro e w3 h3; (obtain ⟨k3, sa3, ls3, sc3, na3, ln3, nc3, ia3, li3, ic3, rfl, a3, hb3⟩ := h3); (have E3 := Below.then E2 (Below.then (below_new _ _) hb3)); (have qy := (qC w2).below hb3); (obtain ⟨y0, y1, y2, y3, y4, y5, y6, y7⟩ := qy.cells))))
      all_goals go_wp2_with fail
      all_goals go_meet
      all_goals first
        | (obtain ⟨r1, r2, r3⟩ := kept_set qy (H := w1.heap.size) (by first | exact Nat.le_refl _ | assumption | omega) a3; exact ⟨rfl, E3.trans r3⟩)
        | (obtain ⟨r1, r2, r3⟩ := kept_new a3.at; exact ⟨rfl, Below.then E3 r3⟩)
    case rest =>
      obtain ⟨rfl, by3⟩ := hcut
      have bA : Below w.heap.size w wc := Below.then X1.low by3
      have qX3 := qX.below by3
      have aX3 := aX.below by3
      clear A2 X1 by3 qX aX
      have J1 : ∀ (W : World) (n : Nat), n = W.heap.size → Calls Try.prog 28 #[.slice (some ⟨n, 0, none⟩) 2 2] (W.alloc (.cells #[.int .i64 97, .int .i64 98] 3)) (fun e w' => ∃ b : Nat, e = .returned (.agg #[.int .i64 1, .slice (some ⟨b, 0, none⟩) 1 1, .slice (some ⟨n, 0, none⟩) 2 2, .slice none 0 0]) ∧ ArrAt w' (.agg #[.int .i64 1, .slice (some ⟨b, 0, none⟩) 1 1, .slice (some ⟨n, 0, none⟩) 2 2, .slice none 0 0]) (vec16 [97, 98]) ∧ Below (W.alloc (.cells #[.int .i64 97, .int .i64 98] 3)).heap.size (W.alloc (.cells #[.int .i64 97, .int .i64 98] 3)) w') := fun W n hn =>
        (ints16L (fun _ => True) (some ⟨n, 0, none⟩) 2 [97, 98] 2 rfl (W.alloc (.cells #[.int .i64 97, .int .i64 98] 3)) (fun _ _ => trivial) ⟨lit16 W [97, 98] 3 #[.int .i64 97, .int .i64 98] n 2 rfl hn rfl (by decide) (by decide), fun _ _ _ => trivial⟩).mono fun e w' h => by
          obtain ⟨b, h1, h2, h3⟩ := h
          exact ⟨b, h1, h2.at, h3⟩
      have J2 : ∀ (W : World) (n : Nat), n = W.heap.size → Calls Try.prog 28 #[.slice (some ⟨n, 0, none⟩) 3 3] (W.alloc (.cells #[.int .i64 1, .int .i64 2, .int .i64 3] 3)) (fun e w' => ∃ b : Nat, e = .returned (.agg #[.int .i64 1, .slice (some ⟨b, 0, none⟩) 1 1, .slice (some ⟨n, 0, none⟩) 3 3, .slice none 0 0]) ∧ ArrAt w' (.agg #[.int .i64 1, .slice (some ⟨b, 0, none⟩) 1 1, .slice (some ⟨n, 0, none⟩) 3 3, .slice none 0 0]) (vec16 [1, 2, 3]) ∧ Below (W.alloc (.cells #[.int .i64 1, .int .i64 2, .int .i64 3] 3)).heap.size (W.alloc (.cells #[.int .i64 1, .int .i64 2, .int .i64 3] 3)) w') := fun W n hn =>
        (ints16L (fun _ => True) (some ⟨n, 0, none⟩) 3 [1, 2, 3] 3 rfl (W.alloc (.cells #[.int .i64 1, .int .i64 2, .int .i64 3] 3)) (fun _ _ => trivial) ⟨lit16 W [1, 2, 3] 3 #[.int .i64 1, .int .i64 2, .int .i64 3] n 3 rfl hn rfl (by decide) (by decide), fun _ _ _ => trivial⟩).mono fun e w' h => by
          obtain ⟨b, h1, h2, h3⟩ := h
          exact ⟨b, h1, h2.at, h3⟩
      have J3 : ∀ (W : World) (n : Nat), n = W.heap.size → Calls Try.prog 28 #[.slice (some ⟨n, 0, none⟩) 3 3] (W.alloc (.cells #[.int .i64 1, .int .i64 0, .int .i64 0] 3)) (fun e w' => ∃ b : Nat, e = .returned (.agg #[.int .i64 1, .slice (some ⟨b, 0, none⟩) 1 1, .slice (some ⟨n, 0, none⟩) 3 3, .slice none 0 0]) ∧ ArrAt w' (.agg #[.int .i64 1, .slice (some ⟨b, 0, none⟩) 1 1, .slice (some ⟨n, 0, none⟩) 3 3, .slice none 0 0]) (vec16 [1, 0, 0]) ∧ Below (W.alloc (.cells #[.int .i64 1, .int .i64 0, .int .i64 0] 3)).heap.size (W.alloc (.cells #[.int .i64 1, .int .i64 0, .int .i64 0] 3)) w') := fun W n hn =>
        (ints16L (fun _ => True) (some ⟨n, 0, none⟩) 3 [1, 0, 0] 3 rfl (W.alloc (.cells #[.int .i64 1, .int .i64 0, .int .i64 0] 3)) (fun _ _ => trivial) ⟨lit16 W [1, 0, 0] 3 #[.int .i64 1, .int .i64 0, .int .i64 0] n 3 rfl hn rfl (by decide) (by decide), fun _ _ _ => trivial⟩).mono fun e w' h => by
          obtain ⟨b, h1, h2, h3⟩ := h
          exact ⟨b, h1, h2.at, h3⟩
      have c1 := lit16 wc [2] 3 #[.int .i64 2] wc.heap.size 1 rfl rfl rfl (by decide) (by decide)
      have c2 := lit16 (wc.alloc (.cells #[.int .i64 2] 3)) [97, 98] 3 #[.int .i64 97, .int .i64 98] (wc.heap.size + 1) 2 rfl (by simp) rfl (by decide) (by decide)
      have HX : ∀ w4, Below (((wc.alloc (.cells #[.int .i64 2] 3)).alloc (.cells #[.int .i64 97, .int .i64 98] 3)).alloc (.cells #[.int .i64 97, .int .i64 98] 3)).heap.size (((wc.alloc (.cells #[.int .i64 2] 3)).alloc (.cells #[.int .i64 97, .int .i64 98] 3)).alloc (.cells #[.int .i64 97, .int .i64 98] 3)) w4 → ArrAt w4 (.agg #[.int .i64 2, .slice (some ⟨wc.heap.size, 0, none⟩) 1 1, .slice (some ⟨wc.heap.size + 1, 0, none⟩) 2 2, .slice none 0 0]) exC16 := fun w4 hb =>
        arr_plain (k := 2) (sh := [2]) (nu := [97, 98]) (by decide) rfl rfl (c1.below (Below.then (Below.then (below_new _ _) (below_new _ _)) hb)) (c2.below (Below.then (below_new _ _) hb))
      have HL : ∀ w4, Below (((wc.alloc (.cells #[.int .i64 2] 3)).alloc (.cells #[.int .i64 97, .int .i64 98] 3)).alloc (.cells #[.int .i64 97, .int .i64 98] 3)).heap.size (((wc.alloc (.cells #[.int .i64 2] 3)).alloc (.cells #[.int .i64 97, .int .i64 98] 3)).alloc (.cells #[.int .i64 97, .int .i64 98] 3)) w4 → Below wc.heap.size wc w4 := fun w4 hb => Below.then (Below.then (Below.then (below_new _ _) (below_new _ _)) (below_new _ _)) hb
      clear c1 c2
      go_upto_region 5 with (first
        | (go_at_call 28; (with_reducible refine (J1 _ _ (by simp)).mono ?_); intro e w4 hh4; (obtain ⟨b4, rfl, h4, hb4⟩ := hh4); (have hX := HX w4 hb4); (have bB := HL w4 hb4); clear hb4)
        | (go_at_call 14; (with_reducible refine (A3 _ _ _ hX h4).mono ?_); intro e w5 hh5; (obtain ⟨k5, sa5, ls5, sc5, na5, ln5, nc5, ia5, li5, ic5, rfl, a5, hb5⟩ := hh5)))
      obtain ⟨qB, aB, bN⟩ := kept_new a5.at
      have bw := Below.then (Below.then bB hb5) bN
      have bD := Below.then bA bw
      have qA := qX3.below bw
      have aA := aX3.below bw
      generalize (w5.alloc (.cells #[.int .i64 k5, .slice sa5 ls5 sc5, .slice na5 ln5 nc5, .slice ia5 li5 ic5] 33)) = W5 at qB aB bD qA aA ⊢
      generalize w5.heap.size = Y at qB ⊢
      clear hX h4 a5 hb5 bB bN bw J1 A3 HX HL qX3 aX3 bA
      go_upto_region 7 with (first
        | (go_at_call 28; (with_reducible refine (J2 _ _ rfl).mono ?_); intro e w6 hh6; (obtain ⟨b6, rfl, h6, hb6⟩ := hh6))
        | (go_at_call 28; (with_reducible refine (J3 _ _ rfl).mono ?_); intro e w7 hh7; (obtain ⟨b7, rfl, h7, hb7⟩ := hh7); (have h6' := h6.below (Below.then (below_new _ _) hb7)))
        | (go_at_call 14; (with_reducible refine (A4 _ _ _ h6' h7).mono ?_); intro e w8 hh8; (obtain ⟨k8, sa8, ls8, sc8, na8, ln8, nc8, ia8, li8, ic8, rfl, a8, hb8⟩ := hh8))
        | (go_at_call 8; (with_reducible refine (SS _).mono ?_); rintro e w9 ⟨rfl, hb9⟩))
      have bw := Below.then (Below.then (Below.then (Below.then (Below.then (Below.then (below_new W5 _) hb6) (below_new w6 _)) hb7) hb8) (below_new w8 _)) hb9
      have bE := Below.then bD bw
      have qX := qA.below bw
      have aX := aA.below bw
      have qY := qB.below bw
      have aY := aB.below bw
      clear h6 hb6 h7 hb7 h6' a8 hb8 hb9 bw qA aA qB aB bD J2 J3 A4 SS
      have H0 : ∀ w', Below w9.heap.size w9 w' → (w'.cell? ⟨X, 0, none⟩ = some (.int .i64 k) ∧ w'.cell? ⟨X, 1, none⟩ = some (.slice sa ls sc) ∧ w'.cell? ⟨X, 2, none⟩ = some (.slice na ln nc) ∧ w'.cell? ⟨X, 3, none⟩ = some (.slice ia li ic)) ∧ (w'.cell? ⟨Y, 0, none⟩ = some (.int .i64 k5) ∧ w'.cell? ⟨Y, 1, none⟩ = some (.slice sa5 ls5 sc5) ∧ w'.cell? ⟨Y, 2, none⟩ = some (.slice na5 ln5 nc5) ∧ w'.cell? ⟨Y, 3, none⟩ = some (.slice ia5 li5 ic5)) ∧ Below w9.heap.size w9 w' := fun w' hb => by
        obtain ⟨a0, a1, a2, a3, -⟩ := (qX.below hb).cells
        obtain ⟨c0, c1, c2, c3, -⟩ := (qY.below hb).cells
        exact ⟨⟨a0, a1, a2, a3⟩, ⟨c0, c1, c2, c3⟩, hb⟩
      have K1 : Calls Try.prog 16 #[.agg #[.int .i64 k, .slice sa ls sc, .slice na ln nc, .slice ia li ic], .agg #[.int .i64 1, .slice (some ⟨w9.heap.size, 0, none⟩) 2 2, .slice (some ⟨w9.heap.size + 1, 0, none⟩) 6 6, .slice none 0 0]] ((w9.alloc (.cells #[.int .i64 2, .int .i64 3] 3)).alloc (.cells #[.int .i64 11, .int .i64 12, .int .i64 13, .int .i64 24, .int .i64 25, .int .i64 26] 3)).drew (fun e w' => e = .returned (.bool true) ∧ Below w9.heap.size w9 w') := by
        have i1 := (lit16 w9 [2, 3] 3 #[.int .i64 2, .int .i64 3] w9.heap.size 2 rfl rfl rfl (by decide) (by decide)).below (Below.then (below_new _ (.cells #[.int .i64 11, .int .i64 12, .int .i64 13, .int .i64 24, .int .i64 25, .int .i64 26] 3)) (drew16 _))
        have i2 := (lit16 (w9.alloc (.cells #[.int .i64 2, .int .i64 3] 3)) [11, 12, 13, 24, 25, 26] 3 #[.int .i64 11, .int .i64 12, .int .i64 13, .int .i64 24, .int .i64 25, .int .i64 26] (w9.heap.size + 1) 6 rfl (by simp) rfl (by decide) (by decide)).below (drew16 _)
        have bx := Below.then (Below.then (below_new w9 (.cells #[.int .i64 2, .int .i64 3] 3)) (below_new _ (.cells #[.int .i64 11, .int .i64 12, .int .i64 13, .int .i64 24, .int .i64 25, .int .i64 26] 3))) (drew16 _)
        have aR : ArrAt ((w9.alloc (.cells #[.int .i64 2, .int .i64 3] 3)).alloc (.cells #[.int .i64 11, .int .i64 12, .int .i64 13, .int .i64 24, .int .i64 25, .int .i64 26] 3)).drew (.agg #[.int .i64 1, .slice (some ⟨w9.heap.size, 0, none⟩) 2 2, .slice (some ⟨w9.heap.size + 1, 0, none⟩) 6 6, .slice none 0 0]) exR16 := arr_plain (by decide) rfl rfl i1 i2
        exact (sameRX (aX.below bx) aR).mono fun e w' h => ⟨h.1, Below.then bx h.2⟩
      have K2 : Calls Try.prog 16 #[.agg #[.int .i64 k, .slice sa ls sc, .slice na ln nc, .slice ia li ic], .agg #[.int .i64 1, .slice (some ⟨w9.heap.size + 1, 0, none⟩) 2 2, .slice (some ⟨w9.heap.size, 0, none⟩) 6 6, .slice none 0 0]] ((w9.alloc (.cells #[.int .i64 11, .int .i64 12, .int .i64 13, .int .i64 24, .int .i64 25, .int .i64 26] 3)).alloc (.cells #[.int .i64 2, .int .i64 3] 3)).drew (fun e w' => e = .returned (.bool true) ∧ Below w9.heap.size w9 w') := by
        have i1 := (lit16 (w9.alloc (.cells #[.int .i64 11, .int .i64 12, .int .i64 13, .int .i64 24, .int .i64 25, .int .i64 26] 3)) [2, 3] 3 #[.int .i64 2, .int .i64 3] (w9.heap.size + 1) 2 rfl (by simp) rfl (by decide) (by decide)).below (drew16 _)
        have i2 := (lit16 w9 [11, 12, 13, 24, 25, 26] 3 #[.int .i64 11, .int .i64 12, .int .i64 13, .int .i64 24, .int .i64 25, .int .i64 26] w9.heap.size 6 rfl rfl rfl (by decide) (by decide)).below (Below.then (below_new _ (.cells #[.int .i64 2, .int .i64 3] 3)) (drew16 _))
        have bx := Below.then (Below.then (below_new w9 (.cells #[.int .i64 11, .int .i64 12, .int .i64 13, .int .i64 24, .int .i64 25, .int .i64 26] 3)) (below_new _ (.cells #[.int .i64 2, .int .i64 3] 3))) (drew16 _)
        have aR : ArrAt ((w9.alloc (.cells #[.int .i64 11, .int .i64 12, .int .i64 13, .int .i64 24, .int .i64 25, .int .i64 26] 3)).alloc (.cells #[.int .i64 2, .int .i64 3] 3)).drew (.agg #[.int .i64 1, .slice (some ⟨w9.heap.size + 1, 0, none⟩) 2 2, .slice (some ⟨w9.heap.size, 0, none⟩) 6 6, .slice none 0 0]) exR16 := arr_plain (by decide) rfl rfl i1 i2
        exact (sameRX (aX.below bx) aR).mono fun e w' h => ⟨h.1, Below.then bx h.2⟩
      have J4 : ∀ (w' : World) (n : Nat), IntsAt w' (some ⟨n, 0, none⟩) 2 [0, 0] → Below w9.heap.size w9 w' → Calls Try.prog 28 #[.slice (some ⟨n, 0, none⟩) 2 2] w' (fun e w2 => ∃ b : Nat, e = .returned (.agg #[.int .i64 1, .slice (some ⟨b, 0, none⟩) 1 1, .slice (some ⟨n, 0, none⟩) 2 2, .slice none 0 0]) ∧ ArrAt w2 (.agg #[.int .i64 1, .slice (some ⟨b, 0, none⟩) 1 1, .slice (some ⟨n, 0, none⟩) 2 2, .slice none 0 0]) (vec16 [0, 0]) ∧ Below w9.heap.size w9 w2) := fun w' n hi hb =>
        (ints16L (fun _ => True) (some ⟨n, 0, none⟩) 2 [0, 0] 2 rfl w' (fun _ _ => trivial) ⟨hi, fun _ _ _ => trivial⟩).mono fun e w2 h => by
          obtain ⟨b, h1, h2, h3⟩ := h
          exact ⟨b, h1, h2.at, Below.then hb h3⟩
      have Z1 : ∀ W : World, IntsAt (W.alloc (.cells #[.int .i64 0, .int .i64 0] 3)) (some ⟨W.heap.size, 0, none⟩) 2 [0, 0] := fun W => lit16 W [0, 0] 3 #[.int .i64 0, .int .i64 0] W.heap.size 2 rfl rfl rfl (by decide) (by decide)
      have Z0 : ∀ W : World, IntsAt (W.alloc (.cells #[.int .i64 0, .int .i64 0] 3)).drew (some ⟨W.heap.size, 0, none⟩) 2 [0, 0] := fun W => (Z1 W).below (drew16 _)
      have KS : ∀ (w' : World) (b n : Nat), ArrAt w' (.agg #[.int .i64 1, .slice (some ⟨b, 0, none⟩) 1 1, .slice (some ⟨n, 0, none⟩) 2 2, .slice none 0 0]) (vec16 [0, 0]) → Below w9.heap.size w9 w' → Calls Try.prog 16 #[.agg #[.int .i64 k5, .slice sa5 ls5 sc5, .slice na5 ln5 nc5, .slice ia5 li5 ic5], .agg #[.int .i64 1, .slice (some ⟨b, 0, none⟩) 1 1, .slice (some ⟨n, 0, none⟩) 2 2, .slice none 0 0]] w' (fun e w2 => e = .returned (.bool true) ∧ Below w9.heap.size w9 w2) := fun w' b n h hb => (sameRX (aY.below hb) h).mono fun e w2 h => ⟨h.1, Below.then hb h.2⟩
      go_cut [0] (fun v0 wz => v0 = .bool true ∧ Below w9.heap.size w9 wz)
      case first =>
        go_region_held_law (fun w' => (w'.cell? ⟨X, 0, none⟩ = some (.int .i64 k) ∧ w'.cell? ⟨X, 1, none⟩ = some (.slice sa ls sc) ∧ w'.cell? ⟨X, 2, none⟩ = some (.slice na ln nc) ∧ w'.cell? ⟨X, 3, none⟩ = some (.slice ia li ic)) ∧ (w'.cell? ⟨Y, 0, none⟩ = some (.int .i64 k5) ∧ w'.cell? ⟨Y, 1, none⟩ = some (.slice sa5 ls5 sc5) ∧ w'.cell? ⟨Y, 2, none⟩ = some (.slice na5 ln5 nc5) ∧ w'.cell? ⟨Y, 3, none⟩ = some (.slice ia5 li5 ic5)) ∧ Below w9.heap.size w9 w')
          (first
            | (refine H0 _ ?_; go_grown; done)
            | exact H0 _ E10
            | exact H0 _ E11
            | exact H0 _ E12
            | exact H0 _ (Below.then E10 (drew16 _))
            | exact H0 _ (Below.then E10 (below_new _ _))
            | exact H0 _ (Below.then E10 (Below.then (below_new _ _) (drew16 _)))
            | exact H0 _ (Below.then E11 (drew16 _)))
          (first
            | (go_at_call 16; (with_reducible refine K1.mono ?_); rintro e w10 ⟨rfl, E10⟩)
            | (go_at_call 16; (with_reducible refine K2.mono ?_); rintro e w10 ⟨rfl, E10⟩)
            | (go_at_call 28; (with_reducible refine (J4 _ _ (Z0 _) (Below.then E10 (Below.then (below_new _ _) (drew16 _)))).mono ?_); intro e w11 hh; (obtain ⟨b11, rfl, h11, E11⟩ := hh))
            | (go_at_call 28; (with_reducible refine (J4 _ _ (Z1 _) (Below.then E10 (below_new _ _))).mono ?_); intro e w11 hh; (obtain ⟨b11, rfl, h11, E11⟩ := hh))
            | (go_at_call 16; (with_reducible refine (KS _ _ _ h11 E11).mono ?_); rintro e w12 ⟨rfl, E12⟩)
            | (go_at_call 16; (with_reducible refine (KS _ _ _ (h11.below (drew16 _)) (Below.then E11 (drew16 _))).mono ?_); rintro e w12 ⟨rfl, E12⟩))
        all_goals go_wp2_with fail
        all_goals go_meet
        all_goals exact ⟨rfl, E12⟩
      case rest =>
        obtain ⟨rfl, bz⟩ := hcut
        go_wp2_with fail
        go_ret
        exact ⟨rfl, Below.then bE bz⟩
end Go.Proofs.Ytekbdiniibmhgaa.Shape
