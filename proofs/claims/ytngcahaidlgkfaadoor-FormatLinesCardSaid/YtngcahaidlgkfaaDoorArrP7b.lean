/-
  Layer 3: the program's Clone.
-/
import Derived.Test.YtngcahaidlgkfaaDoorArrP7
namespace Go.Proofs.YtngcahaidlgkfaaDoor.Shape
open Go.RowKit
set_option linter.unusedVariables false

theorem isCl.new (W : World) (B : Nat) (ty : TypeId) (hB : B = W.heap.size) : isCl (W.alloc (.cells #[.func (.func 90) #[] #[.pointer (some ⟨B, 0, none⟩)]] ty)) B := by
  subst hB
  unfold isCl
  rw [World.cell?_alloc_new]
  rfl
/-- The array that the result's variable holds after its four stores, in memory of which nothing is frozen. -/
theorem own_set4 {w w1 w2 : World} {R : Nat} {A : Arr} {z0 z1 z2 z3 : Value} {k : Int} {a1 a2 a3 : Option Addr} {n1 m1 n2 m2 n3 m3 : Nat} (hR : w.heap.size ≤ R) (h1 : R < w1.heap.size) (hq : Quad w2 R z0 z1 z2 z3) (hO : ArrOn (Own w1 w2) w2 (.agg #[.int .i64 k, .slice a1 n1 m1, .slice a2 n2 m2, .slice a3 n3 m3]) A) (hb : Below w.heap.size w w2) :
    GiveOwn A w (.returned (.agg #[.int .i64 k, .slice a1 n1 m1, .slice a2 n2 m2, .slice a3 n3 m3])) ((((w2.setCell ⟨R, 0, none⟩ (.int .i64 k)).setCell ⟨R, 1, none⟩ (.slice a1 n1 m1)).setCell ⟨R, 2, none⟩ (.slice a2 n2 m2)).setCell ⟨R, 3, none⟩ (.slice a3 n3 m3)) := by
  obtain ⟨_, ho⟩ := set4 hq (.int .i64 k) (.slice a1 n1 m1) (.slice a2 n2 m2) (.slice a3 n3 m3)
  refine ⟨_, _, _, _, _, _, _, _, _, _, rfl, hO.keep fun g hp _ => ?_, hb.trans (set4_below hR _ _ _ _)⟩
  have h2 := hp.1
  have e := ho g (by omega)
  exact ⟨⟨by omega, thaw_of hp.2 e⟩, fun o => World.cell?_of_block e⟩

set_option maxRecDepth 100000 in
set_option maxHeartbeats 2000000 in
theorem cloneO (v : Value) (A : Arr) (w : World) (h : ArrAt w v A) (hr : Reach A) : Calls Tryd.prog 87 #[v] w (GiveOwn A w) := by
  have hmf : ∀ (fn : Fn) (first cap : Array Value) (w : World), (Instr.makeFunc fn first cap).run Tryd.prog w = .ok (.func fn first cap) w := fun _ _ _ _ => rfl
  have hA := h
  obtain ⟨k, sa, ls, sc, na, ln, nc, ia, li, ic, rfl⟩ : ∃ k sa ls sc na ln nc ia li ic, v = .agg #[.int .i64 k, .slice sa ls sc, .slice na ln nc, .slice ia li ic] := by
    obtain ⟨k, sh, nu, it⟩ := A
    rw [ArrAt] at h
    obtain ⟨sa, sc, na, nc, ia, ic, rfl, -⟩ := h
    exact ⟨_, _, _, _, _, _, _, _, _, _, rfl⟩
  have bw := below3 w (.cells #[.int .i64 k, .slice sa ls sc, .slice na ln nc, .slice ia li ic] 26) (.cells #[.int .i64 0, .slice none 0 0, .slice none 0 0, .slice none 0 0] 26) (.cells #[.func (.func 90) #[] #[.pointer (some ⟨w.heap.size + 1 + 1, 0, none⟩)]] 56)
  have q2 : Quad (((w.alloc (.cells #[.int .i64 k, .slice sa ls sc, .slice na ln nc, .slice ia li ic] 26)).alloc (.cells #[.int .i64 0, .slice none 0 0, .slice none 0 0, .slice none 0 0] 26)).alloc (.cells #[.func (.func 90) #[] #[.pointer (some ⟨w.heap.size + 1 + 1, 0, none⟩)]] 56)) (w.heap.size + 1) (.int .i64 0) (.slice none 0 0) (.slice none 0 0) (.slice none 0 0) :=
    Quad.below (below_new _ _) (by simpa using Quad.new (w.alloc (.cells #[.int .i64 k, .slice sa ls sc, .slice na ln nc, .slice ia li ic] 26)) (.int .i64 0) (.slice none 0 0) (.slice none 0 0) (.slice none 0 0))
  have hc := isCl.new ((w.alloc (.cells #[.int .i64 k, .slice sa ls sc, .slice na ln nc, .slice ia li ic] 26)).alloc (.cells #[.int .i64 0, .slice none 0 0, .slice none 0 0, .slice none 0 0] 26)) (w.heap.size + 1 + 1) 56 (by simp)
  have hz : Hid ((((w.alloc (.cells #[.int .i64 k, .slice sa ls sc, .slice na ln nc, .slice ia li ic] 26)).alloc (.cells #[.int .i64 0, .slice none 0 0, .slice none 0 0, .slice none 0 0] 26)).alloc (.cells #[.func (.func 90) #[] #[.pointer (some ⟨w.heap.size + 1 + 1, 0, none⟩)]] 56)).heap.size = w.heap.size + 3) := by unfold Hid; simp
  have K := clQ_any _ _ _ _ _ (Nat.le_refl _) (hA.below bw) hr hc
  go_enter Tryd.func87, Tryd.ntmps87
  go_wp2_with (go_at_call 90; refine K.mono ?_; rintro e w2 ⟨k', sa', ls', sc', na', ln', nc', ia', li', ic', rfl, hO, hb2⟩; (obtain ⟨s0, s1, s2, s3, s4, s5, s6, s7⟩ := (q2.below hb2).cells))
  have q3 := q2.below hb2
  have hb := hz.out
  have G := own_set4 (w := w) (R := w.heap.size + 1) (by omega) (by omega) q3 hO (Below.then bw hb2)
  obtain ⟨QW, -⟩ := set4 q3 (.int .i64 k') (.slice sa' ls' sc') (.slice na' ln' nc') (.slice ia' li' ic')
  generalize ((((w2.setCell ⟨w.heap.size + 1, 0, none⟩ (.int .i64 k')).setCell ⟨w.heap.size + 1, 1, none⟩ (.slice sa' ls' sc')).setCell ⟨w.heap.size + 1, 2, none⟩ (.slice na' ln' nc')).setCell ⟨w.heap.size + 1, 3, none⟩ (.slice ia' li' ic')) = WW at QW G ⊢
  obtain ⟨z0, z1, z2, z3, -⟩ := QW.cells
  exact bodyPost_ret (v := .agg #[.int .i64 k', .slice sa' ls' sc', .slice na' ln' nc', .slice ia' li' ic']) (by simp [results, Tryd.results87, go_sem, z0, z1, z2, z3]) rfl G
end Go.Proofs.YtngcahaidlgkfaaDoor.Shape
