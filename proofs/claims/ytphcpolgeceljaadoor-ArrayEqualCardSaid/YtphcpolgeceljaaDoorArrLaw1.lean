/-
  Layer 3: the law's own helpers matrix and example.
-/
import Derived.Test.YtphcpolgeceljaaDoorArrQ
import Derived.Test.YtphcpolgeceljaaDoorArrEx
namespace Go.Proofs.YtphcpolgeceljaaDoor.Shape
open Go.RowKit

set_option maxRecDepth 100000 in
set_option maxHeartbeats 1000000 in
theorem matrixL (w : World) : Calls Tryd.prog 44 #[] w (GiveArr exM w) := by
  go_enter Tryd.func44, Tryd.ntmps44
  go_wp2
  refine bodyPost_ret (v := .agg #[.int .i64 1, .slice (some ⟨w.heap.size + 1, 0, none⟩) 2 2, .slice (some ⟨w.heap.size + 1 + 1, 0, none⟩) 4 4, .slice none 0 0]) (by simp [results, Tryd.results44, go_sem]) rfl (GiveArr.mk (A := exM) (arr_plain (sh := [2, 2]) (nu := [1, 2, 3, 4]) (by decide) rfl rfl (IntsAt.below (lit_ints _ [2, 2] _ _ _ _ rfl (by simp) rfl (by decide) (by decide)) (below_new _ _)) (lit_ints _ [1, 2, 3, 4] _ _ _ _ rfl (by simp) rfl (by decide) (by decide))) (Below.then (below_new _ _) (Below.then (below_new _ _) (below_new _ _))))

/-- Two arrays that a literal has laid one behind the other. -/
theorem two_items {w : World} {c0 c1 c2 c3 d0 d1 d2 d3 : Value} {A B : Arr} (hA : ArrAt w (.agg #[c0, c1, c2, c3]) A) (hB : ArrAt w (.agg #[d0, d1, d2, d3]) B) :
    ArrsAt (w.alloc (.cells #[c0, c1, c2, c3, d0, d1, d2, d3] 26)) w.heap.size 0 [A, B] := by
  have bn := below_new w (.cells #[c0, c1, c2, c3, d0, d1, d2, d3] 26)
  rw [ArrsAt, ArrsAt, ArrsAt]
  refine ⟨⟨c0, c1, c2, c3, ⟨?_, ?_, ?_, ?_⟩, hA.below bn⟩, ⟨d0, d1, d2, d3, ⟨?_, ?_, ?_, ?_⟩, hB.below bn⟩, trivial⟩
  all_goals (rw [World.cell?_alloc_new]; rfl)
theorem boxesX {w : World} {c0 c1 c2 c3 d0 d1 d2 d3 : Value} (hA : ArrAt w (.agg #[c0, c1, c2, c3]) exM) (hB : ArrAt w (.agg #[d0, d1, d2, d3]) exT) :
    Calls Tryd.prog 33 #[.slice (some ⟨w.heap.size, 0, none⟩) 2 2] (w.alloc (.cells #[c0, c1, c2, c3, d0, d1, d2, d3] 26)) (GiveArr exB (w.alloc (.cells #[c0, c1, c2, c3, d0, d1, d2, d3] 26))) := by
  have h := boxesQ (some ⟨w.heap.size, 0, none⟩) 2 [exM, exT] _ w.heap.size 0 (by decide) (by decide) (fun _ => rfl) (two_items hA hB) (by decide) (by rw [ReachL, ReachL, ReachL, exM, exT, Reach, Reach, ReachL]; exact ⟨⟨by decide, by decide, by decide, trivial⟩, ⟨by decide, by decide, by decide, trivial⟩, trivial⟩)
  rw [show ([exM, exT].length : Nat) = 2 from rfl, ex_Bv] at h
  exact h
theorem vectorX (L : List Int) (n : Nat) (A : Arr) (C : Array Value) (hC : C = (L.map (Value.int .i64)).toArray) (hn : n = L.length) (hv : validA (.mk 1 [(n : Int)] L []) = A) (hb : ∀ x ∈ L, -9223372036854775808 ≤ x ∧ x ≤ 9223372036854775807) (hl : L.length ≤ 1000) (w : World) (b : Nat) (hw : b = w.heap.size) :
    Calls Tryd.prog 29 #[.slice (some ⟨b, 0, none⟩) n n] (w.alloc (.cells C 3)) (GiveArr A (w.alloc (.cells C 3))) := by
  subst hn; subst hv
  exact vectorQ (some ⟨b, 0, none⟩) L.length L _ (lit_ints w L _ _ b L.length hC hw rfl hb (by omega)) (by omega)
theorem ofX {v : Value} {w : World} {a : Option Addr} (g : IntsAt w a 1 [5]) (h : ArrAt w v (.mk 1 [2] [1, 2] [])) :
    Calls Tryd.prog 41 #[.slice a 1 1, v] w (GiveArrE (.mk 1 [5] [1, 2, 1, 2, 1] []) 0 w) := by
  have := ofQ a 1 [5] v _ w g h (by rw [Reach, ReachL]; exact ⟨by decide, by decide, by decide, trivial⟩)
  rw [ex_of] at this
  exact this
theorem GiveArrE.form {A : Arr} {er : Int} {w w' : World} {e : Ending} (h : GiveArrE A er w e w') : ∃ k sa ls sc na ln nc ia li ic, e = .returned (.tuple #[.agg #[.int .i64 k, .slice sa ls sc, .slice na ln nc, .slice ia li ic], .int .i64 er]) ∧
    ArrAt w' (.agg #[.int .i64 k, .slice sa ls sc, .slice na ln nc, .slice ia li ic]) A ∧ Below w.heap.size w w' := by
  obtain ⟨v, rfl, hA, hb⟩ := h
  obtain ⟨k, sa, ls, sc, na, ln, nc, ia, li, ic, hv, g, b⟩ := GiveArr.form ⟨v, rfl, hA, hb⟩
  simp only [Ending.returned.injEq] at hv
  subst hv
  exact ⟨k, sa, ls, sc, na, ln, nc, ia, li, ic, rfl, g, b⟩
end Go.Proofs.YtphcpolgeceljaaDoor.Shape
