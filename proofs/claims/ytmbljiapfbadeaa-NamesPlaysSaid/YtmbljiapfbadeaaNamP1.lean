/-
  Layer 11: the program's New, Open, Depth, contains, and its tests of classes and of names.
-/
import Derived.Test.YtmbljiapfbadeaaNamMath
namespace Go.Proofs.Ytmbljiapfbadeaa.Nam
open Go.RowKit Go.Maps
set_option linter.unusedVariables false

theorem psc_new (w : World) (k : Nat) (hk : k = w.heap.size) (d : Nat) (out : Option Nat) :
    PSc ((w.alloc (.map #[] 0)).alloc (.cells #[ptr out, .int .i64 (d : Int), .map (some k)] 46)) (w.heap.size + 1) k out d [] := by
  subst hk
  refine ⟨?_, ?_, uniq_nil⟩
  · have := heap_alloc_new (w.alloc (.map #[] 0)) (.cells #[ptr out, .int .i64 (d : Int), .map (some w.heap.size)] 46)
    rw [show (w.alloc (.map #[] 0)).heap.size = w.heap.size + 1 by simp] at this
    exact this
  · exact (World.ownsMap_made w _ _ _).alloc _
set_option maxRecDepth 100000 in
set_option maxHeartbeats 2000000 in
theorem newP (w : World) : Calls Try.prog 7 #[] w fun e w' => e = .returned (.pointer (some ⟨w.heap.size + 1, 0, none⟩)) ∧ w'.heap.size = w.heap.size + 2 ∧ PSc w' (w.heap.size + 1) w.heap.size none 0 [] ∧ Below w.heap.size w w' := by
  have hmm := @run_makeMap Try.prog
  go_enter Try.func7, Try.ntmps7
  go_wp2
  go_ret
  have := psc_new w w.heap.size rfl 0 none
  exact ⟨by simp, by simp, this, Below.then (below_new _ _) (below_new _ _)⟩
theorem PSc.set {w : World} {b m b0 : Nat} {ds : List Def} {d0 : Nat} (h : PSc w b m none d0 ds) (d : Nat) : PSc ((w.setCell ⟨b, 0, none⟩ (.pointer (some ⟨b0, 0, none⟩))).setCell ⟨b, 1, none⟩ (.int .i64 (d : Int))) b m (some b0) d ds := by
  have hb := h.blk
  refine ⟨?_, (h.map.setCell (fun e => h.ne e.symm) _).setCell (fun e => h.ne e.symm) _, h.uniq⟩
  simp only [World.setCell]
  rw [Array.getElem?_modify, if_pos rfl, Array.getElem?_modify, if_pos rfl, hb]
  simp [ptr]
set_option maxRecDepth 100000 in
set_option maxHeartbeats 2000000 in
theorem openP (w : World) (b m : Nat) (out : Option Nat) (d : Nat) (hd : d ≤ 1000) (ds : List Def) (h : PSc w b m out d ds) :
    Calls Try.prog 9 #[.pointer (some ⟨b, 0, none⟩)] w fun e w' => e = .returned (.pointer (some ⟨w.heap.size + 1, 0, none⟩)) ∧ w'.heap.size = w.heap.size + 2 ∧ PSc w' (w.heap.size + 1) w.heap.size (some b) (d + 1) [] ∧ Below w.heap.size w w' := by
  have hd' : (d : Int) ≤ 1000 := by omega
  go_enter Try.func9, Try.ntmps9
  go_wp2_with (go_at_call 7; (with_reducible refine (newP w).mono ?_); rintro e1 w1 ⟨rfl, hs1, h1, b1⟩; have c1 := (h.below b1).cells.2.1; have f0 := h1.cells.2.2.2 0; have f1 := h1.cells.2.2.2 1; have g0 := h1.cells.1; have g1 := h1.cells.2.1)
  go_ret
  have hn : d + 1 = d + 1 := rfl
  refine ⟨rfl, by simpa [World.setCell] using hs1, ?_, ?_⟩
  · have := h1.set (b0 := b) (d + 1)
    simpa using this
  · exact (b1.setCell (by show w.heap.size ≤ w.heap.size + 1; omega) _).setCell (by show w.heap.size ≤ w.heap.size + 1; omega) _
set_option maxRecDepth 100000 in
set_option maxHeartbeats 2000000 in
theorem openN (w : World) : Calls Try.prog 9 #[.pointer none] w fun e w' => e = .returned (.pointer none) ∧ Below w.heap.size w w' := by
  go_enter Try.func9, Try.ntmps9
  go_wp2
  go_ret
  exact ⟨rfl, Below.refl _ _⟩
set_option maxRecDepth 100000 in
set_option maxHeartbeats 2000000 in
theorem depthP (w : World) (b m : Nat) (out : Option Nat) (d : Nat) (ds : List Def) (h : PSc w b m out d ds) :
    Calls Try.prog 15 #[.pointer (some ⟨b, 0, none⟩)] w fun e w' => e = .returned (.int .i64 (d : Int)) ∧ Below w.heap.size w w' := by
  obtain ⟨c0, c1, c2, f⟩ := h.cells
  go_enter Try.func15, Try.ntmps15
  go_wp2
  go_ret
  exact ⟨rfl, Below.refl _ _⟩
set_option maxRecDepth 100000 in
set_option maxHeartbeats 2000000 in
theorem depthN (w : World) : Calls Try.prog 15 #[.pointer none] w fun e w' => e = .returned (.int .i64 0) ∧ Below w.heap.size w w' := by
  go_enter Try.func15, Try.ntmps15
  go_wp2
  go_ret
  exact ⟨rfl, Below.refl _ _⟩
end Go.Proofs.Ytmbljiapfbadeaa.Nam
