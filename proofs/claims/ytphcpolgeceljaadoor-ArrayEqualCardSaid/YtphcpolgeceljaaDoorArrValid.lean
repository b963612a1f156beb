/-
  Layer 3: the reference's valid: a copy of a valid array, or the zero array.
-/
import Derived.Test.YtphcpolgeceljaaDoorArrClone
import Derived.Test.YtphcpolgeceljaaDoorArrSame
import Derived.Test.YtphcpolgeceljaaDoorArrFill
namespace Go.Proofs.YtphcpolgeceljaaDoor.Shape
open Go.RowKit

theorem GiveNew.form {A : Arr} {w w' : World} {e : Ending} (h : GiveNew A w e w') : ∃ k sa ls sc na ln nc ia li ic, e = .returned (.agg #[.int .i64 k, .slice sa ls sc, .slice na ln nc, .slice ia li ic]) ∧
    ArrOn (fun g => w.heap.size ≤ g) w' (.agg #[.int .i64 k, .slice sa ls sc, .slice na ln nc, .slice ia li ic]) A ∧ Below w.heap.size w w' := by
  obtain ⟨c0, c1, c2, c3, rfl, _, hO, hb⟩ := h
  have hO' := hO
  obtain ⟨k, sh, nu, it⟩ := A
  rw [ArrOn] at hO
  obtain ⟨sa, sc, na, nc, ia, ic, hv, -⟩ := hO
  rw [hv] at hO'
  exact ⟨k, sa, _, sc, na, _, nc, ia, _, ic, by rw [hv], hO', hb⟩
/-- The array that the result's variable holds after its four stores. -/
theorem give_set4 {w w2 : World} {R : Nat} {A : Arr} {z0 z1 z2 z3 c0 c1 c2 c3 : Value} (hR : w.heap.size ≤ R) (hq : Quad w2 R z0 z1 z2 z3) (hO : ArrOn (fun g => R < g) w2 (.agg #[c0, c1, c2, c3]) A) (hb : Below w.heap.size w w2) :
    GiveNew A w (.returned (.agg #[c0, c1, c2, c3])) ((((w2.setCell ⟨R, 0, none⟩ c0).setCell ⟨R, 1, none⟩ c1).setCell ⟨R, 2, none⟩ c2).setCell ⟨R, 3, none⟩ c3) := by
  obtain ⟨_, ho⟩ := set4 hq c0 c1 c2 c3
  exact GiveNew.mk (hO.keep fun g hp _ => ⟨by omega, fun o => World.cell?_of_block (ho g (by omega))⟩) (hb.trans (set4_below hR _ _ _ _))
theorem zero_on (P : Nat → Prop) (w : World) : ArrOn P w (.agg #[.int .i64 0, .slice none 0 0, .slice none 0 0, .slice none 0 0]) zeroA := by
  show ArrOn P w _ (.mk 0 [] [] [])
  rw [ArrOn]
  exact ⟨none, 0, none, 0, none, 0, rfl, by decide, ⟨ints_nil w, fun g => absurd rfl g⟩, ⟨ints_nil w, fun g => absurd rfl g⟩, Nat.le_refl _, by decide, 0, 0, fun g => absurd rfl g, by rw [ArrsOn]; trivial⟩

def validA (A : Arr) : Arr := if rightE A = 0 then A else zeroA
theorem below_two (w : World) (o o' : Obj) : Below w.heap.size w ((w.alloc o).alloc o') := ((Below.refl _ _).alloc (Nat.le_refl _) o).alloc (by simp) o'

set_option maxRecDepth 100000 in
set_option maxHeartbeats 2000000 in
theorem validR (v : Value) (A : Arr) (w : World) (h : ArrAt w v A) (hr : Reach A) : Calls Tryd.prog 57 #[v] w (GiveNew (validA A) w) := by
  have hA := h
  obtain ⟨k, sa, ls, sc, na, ln, nc, ia, li, ic, rfl⟩ : ∃ k sa ls sc na ln nc ia li ic, v = .agg #[.int .i64 k, .slice sa ls sc, .slice na ln nc, .slice ia li ic] := by
    obtain ⟨k, sh, nu, it⟩ := A
    rw [ArrAt] at h
    obtain ⟨sa, sc, na, nc, ia, ic, rfl, -⟩ := h
    exact ⟨_, _, _, _, _, _, _, _, _, _, rfl⟩
  have bw := below_two w (.cells #[.int .i64 k, .slice sa ls sc, .slice na ln nc, .slice ia li ic] 26) (.cells #[.int .i64 0, .slice none 0 0, .slice none 0 0, .slice none 0 0] 26)
  have hA1 := hA.below bw
  have q1 := (Quad.new w (.int .i64 k) (.slice sa ls sc) (.slice na ln nc) (.slice ia li ic)).below (below_new _ (.cells #[.int .i64 0, .slice none 0 0, .slice none 0 0, .slice none 0 0] 26))
  have q2 : Quad ((w.alloc (.cells #[.int .i64 k, .slice sa ls sc, .slice na ln nc, .slice ia li ic] 26)).alloc (.cells #[.int .i64 0, .slice none 0 0, .slice none 0 0, .slice none 0 0] 26)) (w.heap.size + 1) (.int .i64 0) (.slice none 0 0) (.slice none 0 0) (.slice none 0 0) := by
    simpa using Quad.new (w.alloc (.cells #[.int .i64 k, .slice sa ls sc, .slice na ln nc, .slice ia li ic] 26)) (.int .i64 0) (.slice none 0 0) (.slice none 0 0) (.slice none 0 0)
  have bz : ((w.alloc (.cells #[.int .i64 k, .slice sa ls sc, .slice na ln nc, .slice ia li ic] 26)).alloc (.cells #[.int .i64 0, .slice none 0 0, .slice none 0 0, .slice none 0 0] 26)).heap.size = w.heap.size + 2 := by simp
  obtain ⟨x, hx⟩ : ∃ x, rightE A = x := ⟨_, rfl⟩
  have R := fun v' w' (g : ArrAt w' v' A) => rightR3 v' A w' g
  rw [hx] at R
  have B := bz
  clear bz
  by_cases hz : x = 0
  · subst hz
    have HV : Hid (validA A = A) := by unfold Hid; rw [validA, if_pos hx]
    clear hx
    have HB : Hid _ := B
    clear B
    go_enter Tryd.func57, Tryd.ntmps57
    go_wp2_with (first
      | (go_at_call 14; refine (R _ _ hA1).mono ?_; rintro e w1 ⟨rfl, hb1⟩; (obtain ⟨p0, p1, p2, p3, -⟩ := (q1.below hb1).cells))
      | (go_at_call 19; refine (cloneR _ _ _ (hA1.below hb1) hr).mono ?_; intro e w2 hN; (obtain ⟨k', sa', ls', sc', na', ln', nc', ia', li', ic', rfl, hO, hb2⟩ := hN.form); (obtain ⟨s0, s1, s2, s3, s4, s5, s6, s7⟩ := ((q2.below hb1).below hb2).cells)))
    have q3 := (q2.below hb1).below hb2
    have hb := HB.out
    have hs1 := hb1.size
    have G := give_set4 (Nat.le_succ w.heap.size) q3 (hO.mono fun g hg => by omega) (Below.then (Below.then bw hb1) hb2)
    obtain ⟨QW, -⟩ := set4 q3 (.int .i64 k') (.slice sa' ls' sc') (.slice na' ln' nc') (.slice ia' li' ic')
    generalize ((((w2.setCell ⟨w.heap.size + 1, 0, none⟩ (.int .i64 k')).setCell ⟨w.heap.size + 1, 1, none⟩ (.slice sa' ls' sc')).setCell ⟨w.heap.size + 1, 2, none⟩ (.slice na' ln' nc')).setCell ⟨w.heap.size + 1, 3, none⟩ (.slice ia' li' ic')) = WW at QW G ⊢
    obtain ⟨z0, z1, z2, z3, -⟩ := QW.cells
    rw [HV.out]
    exact bodyPost_ret (v := .agg #[.int .i64 k', .slice sa' ls' sc', .slice na' ln' nc', .slice ia' li' ic']) (by simp [results, Tryd.results57, go_sem, z0, z1, z2, z3]) rfl G
  · have e1 : (x == 0) = false := by simpa using hz
    have e2 : (x != 0) = true := by simpa using hz
    have HV : Hid (validA A = zeroA) := by unfold Hid; rw [validA, hx, if_neg hz]
    clear hx hz B
    go_enter Tryd.func57, Tryd.ntmps57
    go_wp2_with (first
      | (go_at_call 14; refine (R _ _ hA1).mono ?_; rintro e w1 ⟨rfl, hb1⟩; (obtain ⟨s0, s1, s2, s3, s4, s5, s6, s7⟩ := (q2.below hb1).cells)))
    have q3 := q2.below hb1
    have G := give_set4 (Nat.le_succ w.heap.size) q3 (zero_on _ _) (Below.then bw hb1)
    obtain ⟨QW, -⟩ := set4 q3 (.int .i64 0) (.slice none 0 0) (.slice none 0 0) (.slice none 0 0)
    generalize ((((w1.setCell ⟨w.heap.size + 1, 0, none⟩ (.int .i64 0)).setCell ⟨w.heap.size + 1, 1, none⟩ (.slice none 0 0)).setCell ⟨w.heap.size + 1, 2, none⟩ (.slice none 0 0)).setCell ⟨w.heap.size + 1, 3, none⟩ (.slice none 0 0)) = WW at QW G ⊢
    obtain ⟨z0, z1, z2, z3, -⟩ := QW.cells
    rw [HV.out]
    exact bodyPost_ret (v := .agg #[.int .i64 0, .slice none 0 0, .slice none 0 0, .slice none 0 0]) (by simp [results, Tryd.results57, go_sem, z0, z1, z2, z3]) rfl G
end Go.Proofs.YtphcpolgeceljaaDoor.Shape
