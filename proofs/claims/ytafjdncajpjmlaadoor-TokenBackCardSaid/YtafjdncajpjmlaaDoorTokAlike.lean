/-
  Layer 8: the reference's Alike of lists that are alike.
-/
import Derived.Test.YtafjdncajpjmlaaDoorTokBk2
import Derived.Test.YtafjdncajpjmlaaDoorTokEx
namespace Go.Proofs.YtafjdncajpjmlaaDoor.Tok
open Go.RowKit
set_option linter.unusedVariables false
set_option linter.unusedSimpArgs false

set_option maxRecDepth 100000 in
set_option maxHeartbeats 8000000 in
theorem alikeR (l1 l2 : List T5) (a1 a2 : Option Addr) (c1 c2 : Nat) (w : World) (hl1 : l1.length ≤ 1000000) (hk : l2.map key = l1.map key) (h1 : ToksAt w a1 c1 l1) (h2 : ToksAt w a2 c2 l2) :
    Calls Tryd.prog 8 #[.slice a1 l1.length c1, .slice a2 l2.length c2] w fun e w' => e = .returned (.bool true) ∧ Below w.heap.size w w' := by
  have hll : l2.length = l1.length := by have := congrArg List.length hk; rw [List.length_map, List.length_map] at this; exact this
  obtain ⟨n, hN⟩ : ∃ n, Hid (l1.length = n) := ⟨_, rfl⟩
  have hN2 : Hid (l2.length = n) := hll.trans hN.out
  rw [hN.out, hN2.out]
  have hn1 : n ≤ 1000000 := by rw [← hN.out]; exact hl1
  obtain ⟨-, m1, o1, ha1, hc1⟩ := h1
  obtain ⟨-, m2, o2, ha2, hc2⟩ := h2
  clear hl1 hll
  have hi64 : (n : Int) ≤ 1000000 := by omega
  have hnn : ((n : Int) != (n : Int)) = false := by simp
  go_enter Tryd.func8, Tryd.ntmps8
  go_wp2
  go_loopw [5] (fun i wr => ∃ j : Nat, j ≤ n ∧ i = .int .i64 (j : Int) ∧ Below w.heap.size w wr) (fun i _ => n - (intOf i).toNat)
  case atStart => exact ⟨0, Nat.zero_le _, rfl, Below.refl _ _⟩
  case round =>
    obtain ⟨j, hj, rfl, hb⟩ := hrel
    by_cases hlt : j < n
    · have hlt' : (j : Int) < (n : Int) := by omega
      have hj1 : j < l1.length := by rw [hN.out]; exact hlt
      have hj2 : j < l2.length := by rw [hN2.out]; exact hlt
      have e1 := ha1 (fun e => by rw [e] at hj1; exact absurd hj1 (by simp))
      have e2 := ha2 (fun e => by rw [e] at hj2; exact absurd hj2 (by simp))
      subst e1
      subst e2
      obtain ⟨x0, x1, x2, x3, x4⟩ := hc1.below hb j hj1
      obtain ⟨y0, y1, y2, y3, y4⟩ := hc2.below hb j hj2
      have hkj : key l2[j] = key l1[j] := by
        have := congrArg (fun L => L[j]?) hk
        simp only [List.getElem?_map, List.getElem?_eq_getElem hj1, List.getElem?_eq_getElem hj2, Option.map_some, Option.some.injEq] at this
        exact this
      have hx1 := fun w' => elem_tok w' m1 o1 n c1 j hlt
      have hx2 := fun w' => elem_tok w' m2 o2 n c2 j hlt
      clear hc1 hc2 hk ha1 ha2
      generalize l1[j] = x at *
      generalize l2[j] = y at *
      obtain ⟨k, p, z, nn, t⟩ := x
      obtain ⟨k2, p2, z2, nn2, t2⟩ := y
      simp only [key, Prod.mk.injEq] at hkj
      obtain ⟨rfl, rfl, rfl⟩ := hkj
      simp only [] at x0 x1 x2 x3 x4 y0 y1 y2 y3 y4
      have Y0 := fun o => cell_below y0 (below_new wr o)
      have Y1 := fun o => cell_below y1 (below_new wr o)
      have Y2 := fun o => cell_below y2 (below_new wr o)
      have Y3 := fun o => cell_below y3 (below_new wr o)
      have Y4 := fun o => cell_below y4 (below_new wr o)
      go_wp2
      go_region
      all_goals go_wp2
      all_goals go_roundw
      case rel => exact ⟨j + 1, by omega, by go_num, by exact (Below.then hb (by go_grown)).drew⟩
      case measure => simp [intOf]; omega
    · obtain rfl : n = j := by omega
      have hn0 : ¬ (n : Int) < (n : Int) := by omega
      go_wp2
      go_ret
      exact ⟨rfl, hb⟩
end Go.Proofs.YtafjdncajpjmlaaDoor.Tok
