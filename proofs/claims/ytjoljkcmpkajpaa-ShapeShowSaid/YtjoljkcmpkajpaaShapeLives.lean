/-
  Layer 2: the examples of the chapter that each law asks ('lives') hold.
-/
import Derived.Test.YtjoljkcmpkajpaaShapeQ
import Derived.Test.YtjoljkcmpkajpaaShapeLawMath
namespace Go.Proofs.Ytjoljkcmpkajpaa.Shape
open Go.RowKit

theorem lit_at (w : World) (L : List Int) (t : TypeId) (C : Array Value) (n m : Nat) (hC : C = (L.map (Value.int .i64)).toArray) (hn : n = w.heap.size) (hm : m = L.length) (hb : ∀ x ∈ L, -9223372036854775808 ≤ x ∧ x ≤ 9223372036854775807) (hl : L.length ≤ 1000000) :
    IntsAt (w.alloc (.cells C t)) (some ⟨n, 0, none⟩) m L := by
  subst hC; subst hn; subst hm
  refine ⟨Nat.le_refl _, by omega, hb, w.heap.size, 0, fun _ => rfl, fun i hi => ?_⟩
  rw [World.cell?_alloc_new]
  simp [hi]
theorem below_new (w : World) (o : Obj) : Below w.heap.size w (w.alloc o) := (Below.refl _ _).alloc (Nat.le_refl _) _
theorem IntsAt.old {w : World} {a : Option Addr} {cap : Nat} {xs : List Int} (h : IntsAt w a cap xs) (o : Obj) : IntsAt (w.alloc o) a cap xs := h.below (below_new w o)
theorem Below.then {a b c : World} (h : Below a.heap.size a b) (k : Below b.heap.size b c) : Below a.heap.size a c := h.trans (k.mono h.size)
/-- Element k, as the walk spells it where the length and the place are literals. -/
theorem IntsAt.spot {w : World} {a : Option Addr} {cap : Nat} {xs : List Int} (h : IntsAt w a cap xs) {k : Nat} (hk : k < xs.length) (n : Nat) (hn : n = xs.length) (i : Int) (hi : i = k) (v : Int) (hv : xs[k] = v) :
    ∃ b off : Nat, (∀ w' : World, (Instr.indexAt 22 (.slice a n cap) (.int .i64 i)).run Try.prog w' = .ok (.pointer (some ⟨b, off, none⟩)) w') ∧ w.cell? ⟨b, off, none⟩ = some (.int .i64 v) := by
  subst hn; subst hi; subst hv
  obtain ⟨b, off, h1, h2⟩ := h.at hk
  exact ⟨b, off + k, h1, h2⟩

theorem ex_off : offS [2, 3] [1, 2] = (5, true) := by decide
theorem ex_idx : idxL [2, 3] 4 = [1, 1] := by decide
theorem ex_idxb : idxB [2, 3] 4 = true := by decide
theorem ex_ag : agL [2] [2, 3] = [2, 3] := by decide
theorem ex_agb : agB [2] [2, 3] = true := by decide
theorem ex_ag2 : agL [3] [2, 3] = [] := by decide
theorem ex_agb2 : agB [3] [2, 3] = false := by decide
theorem ex_row : rowS [2, 3, 4] 1 = (2, 12) := by decide
theorem ex_size : sizeS [2, 3] = 6 := by decide
theorem ex_show : jS [3, -5] = ⟨#[51, 32, 95, 53]⟩ := by
  simp only [jS, jn, jn.jt]
  rw [Num.shL_pos (by decide), Num.shL_neg (by decide), Num.dg_last (by decide), Num.dg_last (by decide)]; rfl
theorem small_bd {L : List Int} (h : L.all (fun x => decide (-100 ≤ x ∧ x ≤ 100)) = true) : ∀ x ∈ L, -9223372036854775808 ≤ x ∧ x ≤ 9223372036854775807 := by
  intro x hx
  have := List.all_eq_true.1 h x hx
  simp at this
  omega

/-! The contracts at literals. -/
theorem offsetL (a : Option Addr) (cap : Nat) (xs : List Int) (a2 : Option Addr) (cap2 : Nat) (is : List Int) (n m : Nat) (hn : n = xs.length) (hm : m = is.length) (x : Int) (b : Bool) (hr : offS xs is = (x, b)) (w : World) (h : IntsAt w a cap xs) (g : IntsAt w a2 cap2 is) :
    Calls Try.prog 17 #[.slice a n cap, .slice a2 m cap2] w fun e w' => e = .returned (.tuple #[.int .i64 x, .bool b]) ∧ Below w.heap.size w w' := by
  subst hn; subst hm
  have := offsetQ a cap xs a2 cap2 is w h g
  rwa [hr] at this
theorem indexL (a : Option Addr) (cap : Nat) (xs : List Int) (o : Int) (n : Nat) (hn : n = xs.length) (L : List Int) (b : Bool) (hL : idxL xs o = L) (hb : idxB xs o = b) (w : World) (h : IntsAt w a cap xs) :
    Calls Try.prog 19 #[.slice a n cap, .int .i64 o] w (SliceBool L b w) := by
  subst hn; subst hL; subst hb; exact indexQ a cap xs o w h
theorem agreeL (a : Option Addr) (cap : Nat) (xs : List Int) (a2 : Option Addr) (cap2 : Nat) (ys : List Int) (n m : Nat) (hn : n = xs.length) (hm : m = ys.length) (L : List Int) (b : Bool) (hL : agL xs ys = L) (hb : agB xs ys = b) (w : World) (h : IntsAt w a cap xs) (g : IntsAt w a2 cap2 ys) :
    Calls Try.prog 21 #[.slice a n cap, .slice a2 m cap2] w (SliceBool L b w) := by
  subst hn; subst hm; subst hL; subst hb; exact agreeQ a cap xs a2 cap2 ys w h g
theorem rowL (a : Option Addr) (cap : Nat) (xs : List Int) (f : Int) (n : Nat) (hn : n = xs.length) (x y : Int) (hr : rowS xs f = (x, y)) (w : World) (h : IntsAt w a cap xs) :
    Calls Try.prog 23 #[.slice a n cap, .int .i64 f] w fun e w' => e = .returned (.tuple #[.int .i64 x, .int .i64 y]) ∧ Below w.heap.size w w' := by
  subst hn
  have := rowQ a cap xs f w h
  rwa [hr] at this
theorem sizeL (a : Option Addr) (cap : Nat) (xs : List Int) (n : Nat) (hn : n = xs.length) (x : Int) (hr : sizeS xs = x) (w : World) (h : IntsAt w a cap xs) :
    Calls Try.prog 13 #[.slice a n cap] w fun e w' => e = .returned (.int .i64 x) ∧ Below w.heap.size w w' := by
  subst hn; subst hr; exact sizeQ a cap xs w h
theorem showL (a : Option Addr) (cap : Nat) (xs : List Int) (n : Nat) (hn : n = xs.length) (s : ByteArray) (hr : jS xs = s) (hs : xs.length ≤ 1000000) (w : World) (h : IntsAt w a cap xs) :
    Calls Try.prog 25 #[.slice a n cap] w fun e w' => e = .returned (.string s) ∧ Below w.heap.size w w' := by
  subst hn; subst hr; exact showQ a cap xs w h hs

set_option maxHeartbeats 1000000 in
theorem livesL (w : World) :
    Calls Try.prog 10 #[] w fun e w' => e = .returned (.bool true) ∧ Below w.heap.size w w' := by
  go_enter Try.func10, Try.ntmps10
  go_wp2_with fail
  go_at_call 17
  refine (offsetL _ _ [2, 3] _ _ [1, 2] 2 2 rfl rfl 5 true ex_off _ ?h1 ?h2).mono ?_
  case h1 => exact (lit_at _ _ _ _ _ _ rfl rfl rfl (small_bd (by decide)) (by decide)).old _
  case h2 => exact lit_at _ _ _ _ _ _ rfl (by simp) rfl (small_bd (by decide)) (by decide)
  rintro e w1 ⟨rfl, hb1⟩
  have B1 : Below w.heap.size w w1 := Below.then (Below.then (below_new _ _) (below_new _ _)) hb1
  clear hb1
  go_wp2_with fail
  go_at_call 19
  refine (indexL _ _ [2, 3] 4 2 rfl [1, 1] true ex_idx ex_idxb _ ?h3).mono ?_
  case h3 => exact lit_at _ _ _ _ _ _ rfl rfl rfl (small_bd (by decide)) (by decide)
  rintro e w2 ⟨a2, c2, rfl, hi2, hb2⟩
  have B2 : Below w.heap.size w w2 := Below.then B1 (Below.then (below_new _ _) hb2)
  clear B1 hb2
  go_wp2_with fail
  go_at_call 21
  refine (agreeL _ _ [2] _ _ [2, 3] 1 2 rfl rfl [2, 3] true ex_ag ex_agb _ ?h4 ?h5).mono ?_
  case h4 => exact (lit_at _ _ _ _ _ _ rfl rfl rfl (small_bd (by decide)) (by decide)).old _
  case h5 => exact lit_at _ _ _ _ _ _ rfl (by simp) rfl (small_bd (by decide)) (by decide)
  rintro e w3 ⟨a3, c3, rfl, hi3, hb3⟩
  have B3 : Below w.heap.size w w3 := Below.then B2 (Below.then (Below.then (below_new _ _) (below_new _ _)) hb3)
  have i2 := ((hi2.old _).old _).below hb3
  clear B2 hi2 hb3
  go_wp2_with fail
  go_at_call 21
  refine (agreeL _ _ [3] _ _ [2, 3] 1 2 rfl rfl [] false ex_ag2 ex_agb2 _ ?h6 ?h7).mono ?_
  case h6 => exact (lit_at _ _ _ _ _ _ rfl rfl rfl (small_bd (by decide)) (by decide)).old _
  case h7 => exact lit_at _ _ _ _ _ _ rfl (by simp) rfl (small_bd (by decide)) (by decide)
  rintro e w4 ⟨a4, c4, rfl, hi4, hb4⟩
  have B4 : Below w.heap.size w w4 := Below.then B3 (Below.then (Below.then (below_new _ _) (below_new _ _)) hb4)
  have j2 := ((i2.old _).old _).below hb4
  have j3 := ((hi3.old _).old _).below hb4
  clear B3 i2 hi3 hb4 hi4
  go_wp2_with fail
  go_at_call 23
  refine (rowL _ _ [2, 3, 4] 1 3 rfl 2 12 ex_row _ ?h8).mono ?_
  case h8 => exact lit_at _ _ _ _ _ _ rfl rfl rfl (small_bd (by decide)) (by decide)
  rintro e w5 ⟨rfl, hb5⟩
  have B5 : Below w.heap.size w w5 := Below.then B4 (Below.then (below_new _ _) hb5)
  have k2 := (j2.old _).below hb5
  have k3 := (j3.old _).below hb5
  clear B4 j2 j3 hb5
  obtain ⟨x1, o1, f1, g1⟩ := k2.spot (k := 0) (by decide) 2 rfl 0 rfl 1 rfl
  obtain ⟨x2, o2, f2, g2⟩ := k2.spot (k := 1) (by decide) 2 rfl 1 rfl 1 rfl
  obtain ⟨x3, o3, f3, g3⟩ := k3.spot (k := 1) (by decide) 2 rfl 1 rfl 3 rfl
  clear k2 k3
  go_wp2_with fail
  go_at_call 13
  refine (sizeL _ _ [2, 3] 2 rfl 6 ex_size _ ?h9).mono ?_
  case h9 => exact lit_at _ _ _ _ _ _ rfl rfl rfl (small_bd (by decide)) (by decide)
  rintro e w6 ⟨rfl, hb6⟩
  have B6 : Below w.heap.size w w6 := Below.then B5 (Below.then (below_new _ _) hb6)
  clear B5 hb6 f1 f2 f3 g1 g2 g3
  go_wp2_with fail
  go_at_call 25
  refine (showL _ _ [3, -5] 2 rfl ⟨#[51, 32, 95, 53]⟩ ex_show (by decide) _ ?h10).mono ?_
  case h10 => exact lit_at _ _ _ _ _ _ rfl rfl rfl (small_bd (by decide)) (by decide)
  rintro e w7 ⟨rfl, hb7⟩
  have B7 : Below w.heap.size w w7 := Below.then B6 (Below.then (below_new _ _) hb7)
  clear B6 hb7
  go_wp2_with fail
  go_ret
  exact ⟨rfl, B7⟩
end Go.Proofs.Ytjoljkcmpkajpaa.Shape
