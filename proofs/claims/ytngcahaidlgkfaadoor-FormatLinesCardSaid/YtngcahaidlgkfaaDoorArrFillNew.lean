/-
  Layer 3: the reference's Fill makes a new array.
-/
import Derived.Test.YtngcahaidlgkfaaDoorArrOf2
namespace Go.Proofs.YtngcahaidlgkfaaDoor.Shape
open Go.RowKit

theorem cells_on {P : Nat → Prop} {w : World} {b b2 : Nat} (h : w.cell? ⟨b, 0, none⟩ = some (.int .i64 1) ∧ w.cell? ⟨b, 1, none⟩ = some (.slice (some ⟨b2, 0, none⟩) 1 1) ∧ w.cell? ⟨b, 2, none⟩ = some (.slice none 0 0) ∧ w.cell? ⟨b, 3, none⟩ = some (.slice none 0 0)) (h2 : w.cell? ⟨b2, 0, none⟩ = some (.int .i64 0)) (hb : P b) (hb2 : P b2) :
    ArrOn P w (.agg #[.int .i64 3, .slice none 0 0, .slice none 0 0, .slice (some ⟨b, 0, none⟩) 1 1]) (.mk 3 [] [] [.mk 1 [0] [] []]) := by
  obtain ⟨m0, m1, m2, m3⟩ := h
  have hin : ArrOn P w (.agg #[.int .i64 1, .slice (some ⟨b2, 0, none⟩) 1 1, .slice none 0 0, .slice none 0 0]) (.mk 1 [0] [] []) := by
    rw [ArrOn]
    exact ⟨some ⟨b2, 0, none⟩, 1, none, 0, none, 0, rfl, by decide, ⟨ints_one w b2 1 0 (by decide) h2 (by decide) (by decide), fun _ ad e => by cases e; exact hb2⟩, ⟨ints_nil w, fun g => absurd rfl g⟩, Nat.le_refl _, by decide, 0, 0, fun g => absurd rfl g, by rw [ArrsOn]; trivial⟩
  rw [ArrOn]
  refine ⟨none, 0, none, 0, some ⟨b, 0, none⟩, 1, rfl, by decide, ⟨ints_nil w, fun g => absurd rfl g⟩, ⟨ints_nil w, fun g => absurd rfl g⟩, Nat.le_refl _, by decide, b, 0, fun _ => ⟨rfl, hb⟩, ?_⟩
  rw [ArrsOn, ArrsOn]
  exact ⟨⟨_, _, _, _, ⟨m0, m1, m2, m3⟩, hin⟩, trivial⟩

set_option maxHeartbeats 1000000 in
theorem fillR_new (v : Value) (A : Arr) (w : World) (h : ArrAt w v A) : Calls Tryd.prog 40 #[v] w (GiveNew (fillA A.kind) w) := by
  obtain ⟨k, sh, nu, it⟩ := A
  rw [ArrAt] at h
  obtain ⟨sa, sc, na, nc, ia, ic, rfl, hk, -⟩ := h
  by_cases k1 : k = 1
  · subst k1
    go_enter Tryd.func40, Tryd.ntmps40
    go_wp2
    refine bodyPost_ret (v := .agg #[.int .i64 1, .slice none 0 0, .slice (some ⟨w.heap.size + 1 + 1, 0, none⟩) 1 1, .slice none 0 0]) (by simp [results, Tryd.results40, go_sem]) rfl (GiveNew.mk (A := .mk 1 [] [0] []) (one_on (by decide) (by decide) ?_ (by omega)) ?_)
    · rw [World.cell?_alloc_at _ _ _ _ (by simp)]; rfl
    · exact Below.then (below_new _ _) (Below.then (below_new _ _) (below_new _ _))
  · by_cases k2 : k = 2
    · subst k2
      go_enter Tryd.func40, Tryd.ntmps40
      go_wp2
      refine bodyPost_ret (v := .agg #[.int .i64 2, .slice none 0 0, .slice (some ⟨w.heap.size + 1 + 1, 0, none⟩) 1 1, .slice none 0 0]) (by simp [results, Tryd.results40, go_sem]) rfl (GiveNew.mk (A := .mk 2 [] [32] []) (one_on (by decide) (by decide) ?_ (by omega)) ?_)
      · rw [World.cell?_alloc_at _ _ _ _ (by simp)]; rfl
      · exact Below.then (below_new _ _) (Below.then (below_new _ _) (below_new _ _))
    · by_cases k3 : k = 3
      · subst k3
        go_enter Tryd.func40, Tryd.ntmps40
        go_wp2
        refine bodyPost_ret (v := .agg #[.int .i64 3, .slice none 0 0, .slice none 0 0, .slice (some ⟨w.heap.size + 1 + 1 + 1, 0, none⟩) 1 1]) (by simp [results, Tryd.results40, go_sem]) rfl (GiveNew.mk (A := .mk 3 [] [] [.mk 1 [0] [] []]) (cells_on (b2 := w.heap.size + 1 + 1) ⟨?_, ?_, ?_, ?_⟩ ?_ (by omega) (by omega)) ?_)
        · rw [World.cell?_alloc_at _ _ _ _ (by simp)]; rfl
        · rw [World.cell?_alloc_at _ _ _ _ (by simp)]; rfl
        · rw [World.cell?_alloc_at _ _ _ _ (by simp)]; rfl
        · rw [World.cell?_alloc_at _ _ _ _ (by simp)]; rfl
        · rw [World.cell?_alloc_past _ _ _ (by simp), World.cell?_alloc_at _ _ _ _ (by simp)]; rfl
        · exact Below.then (below_new _ _) (Below.then (below_new _ _) (Below.then (below_new _ _) (below_new _ _)))
      · have e1 : (k == 1) = false := by simpa using k1
        have e2 : (k == 2) = false := by simpa using k2
        have e3 : (k == 3) = false := by simpa using k3
        have HE : Hid (fillA k = zeroA) := by unfold Hid; rw [fillA, if_neg k1, if_neg k2, if_neg k3]
        clear k1 k2 k3
        go_enter Tryd.func40, Tryd.ntmps40
        go_wp2
        refine bodyPost_ret (v := .agg #[.int .i64 0, .slice none 0 0, .slice none 0 0, .slice none 0 0]) (by simp [results, Tryd.results40, go_sem]) rfl ?_
        rw [show (Arr.mk k sh nu it).kind = k from rfl, HE.out]
        exact GiveNew.mk (zero_on _ _) (Below.then (below_new _ _) (below_new _ _))
end Go.Proofs.YtngcahaidlgkfaaDoor.Shape
