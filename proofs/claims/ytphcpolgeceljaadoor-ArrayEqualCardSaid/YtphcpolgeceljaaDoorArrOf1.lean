/-
  Layer 3: the reference's Of: what it returns, and its errors ahead of the loop.
-/
import Derived.Test.YtphcpolgeceljaaDoorArrPut
import Derived.Test.YtphcpolgeceljaaDoorArrAt
namespace Go.Proofs.YtphcpolgeceljaaDoor.Shape
open Go.RowKit

/-- A new array and an error as the results of a call. -/
def GiveNewE (A : Arr) (er : Int) (w : World) (e : Ending) (w' : World) : Prop :=
  ∃ c0 c1 c2 c3, e = .returned (.tuple #[.agg #[c0, c1, c2, c3], .int .i64 er]) ∧ GiveNew A w (.returned (.agg #[c0, c1, c2, c3])) w'
theorem GiveNewE.mk {A : Arr} {er : Int} {w w' : World} {c0 c1 c2 c3 : Value} (h : GiveNew A w (.returned (.agg #[c0, c1, c2, c3])) w') : GiveNewE A er w (.returned (.tuple #[.agg #[c0, c1, c2, c3], .int .i64 er])) w' := ⟨c0, c1, c2, c3, rfl, h⟩

/-- The first n elements of a list, repeated cyclically. -/
def cyc {α : Type} (l : List α) (z : α) (n : Nat) : List α := (List.range n).map (fun i => l.getD (i % l.length) z)
theorem cyc_len {α : Type} (l : List α) (z : α) (n : Nat) : (cyc l z n).length = n := by simp [cyc]
theorem cyc_succ {α : Type} (l : List α) (z : α) (n : Nat) : cyc l z (n + 1) = cyc l z n ++ [l.getD (n % l.length) z] := by
  rw [cyc, List.range_succ, List.map_append]; rfl
/-- What Of takes its elements from. -/
def srcA (F : Arr) : Arr := if aSize F = 0 then fillA F.kind else F
def ofA (sh : List Int) (F : Arr) : Arr × Int :=
  if rightE F = 0 then
    (if dimsE sh = 0 then
      (if (srcA F).kind = 3 then
        (if pr sh + sumW (cyc (srcA F).items zeroA (pr sh).toNat) ≤ 262144 then (.mk 3 sh [] (cyc (srcA F).items zeroA (pr sh).toNat), 0) else (zeroA, 21))
      else (.mk (srcA F).kind sh (cyc (srcA F).nums 0 (pr sh).toNat) [], 0))
    else (zeroA, dimsE sh))
  else (zeroA, 1)

set_option maxRecDepth 100000 in
set_option maxHeartbeats 4000000 in
/-- The source is not valid. -/
theorem ofR_bad (a : Option Addr) (cap : Nat) (sh : List Int) (v : Value) (F : Arr) (w : World) (h : ArrAt w v F) (hE : rightE F ≠ 0) :
    Calls Tryd.prog 42 #[.slice a sh.length cap, v] w (GiveNewE zeroA 1 w) := by
  have hA := h
  obtain ⟨k, sa, ls, sc, na, ln, nc, ia, li, ic, rfl⟩ : ∃ k sa ls sc na ln nc ia li ic, v = .agg #[.int .i64 k, .slice sa ls sc, .slice na ln nc, .slice ia li ic] := by
    obtain ⟨k, sh, nu, it⟩ := F
    rw [ArrAt] at h
    obtain ⟨sa, sc, na, nc, ia, ic, rfl, -⟩ := h
    exact ⟨_, _, _, _, _, _, _, _, _, _, rfl⟩
  clear h
  have bw := below_two w (.cells #[.int .i64 k, .slice sa ls sc, .slice na ln nc, .slice ia li ic] 26) (.cells #[.int .i64 0, .slice none 0 0, .slice none 0 0, .slice none 0 0] 26)
  have hA1 := hA.below bw
  have q2 : Quad ((w.alloc (.cells #[.int .i64 k, .slice sa ls sc, .slice na ln nc, .slice ia li ic] 26)).alloc (.cells #[.int .i64 0, .slice none 0 0, .slice none 0 0, .slice none 0 0] 26)) (w.heap.size + 1) (.int .i64 0) (.slice none 0 0) (.slice none 0 0) (.slice none 0 0) := by
    simpa using Quad.new (w.alloc (.cells #[.int .i64 k, .slice sa ls sc, .slice na ln nc, .slice ia li ic] 26)) (.int .i64 0) (.slice none 0 0) (.slice none 0 0) (.slice none 0 0)
  obtain ⟨x, hx⟩ : ∃ x, rightE F = x := ⟨_, rfl⟩
  have R := fun v' w' (g : ArrAt w' v' F) => rightR3 v' F w' g
  rw [hx] at R hE
  have e2 : (x != 0) = true := by simpa using hE
  clear hx hE hA
  go_enter Tryd.func42, Tryd.ntmps42
  go_wp2_with (go_at_call 14; refine (R _ _ hA1).mono ?_; rintro e w1 ⟨rfl, hb1⟩; (obtain ⟨s0, s1, s2, s3, s4, s5, s6, s7⟩ := (q2.below hb1).cells))
  have q3 := q2.below hb1
  have G := give_set4 (Nat.le_succ w.heap.size) q3 (zero_on _ _) (Below.then bw hb1)
  obtain ⟨QW, -⟩ := set4 q3 (.int .i64 0) (.slice none 0 0) (.slice none 0 0) (.slice none 0 0)
  generalize ((((w1.setCell ⟨w.heap.size + 1, 0, none⟩ (.int .i64 0)).setCell ⟨w.heap.size + 1, 1, none⟩ (.slice none 0 0)).setCell ⟨w.heap.size + 1, 2, none⟩ (.slice none 0 0)).setCell ⟨w.heap.size + 1, 3, none⟩ (.slice none 0 0)) = WW at QW G ⊢
  obtain ⟨z0, z1, z2, z3, -⟩ := QW.cells
  exact bodyPost_ret (v := .tuple #[.agg #[.int .i64 0, .slice none 0 0, .slice none 0 0, .slice none 0 0], .int .i64 1]) (by simp [results, Tryd.results42, go_sem, z0, z1, z2, z3]) rfl (GiveNewE.mk G)

set_option maxRecDepth 100000 in
set_option maxHeartbeats 4000000 in
/-- The shape is not valid. -/
theorem ofR_dims (a : Option Addr) (cap : Nat) (sh : List Int) (v : Value) (F : Arr) (w : World) (g : IntsAt w a cap sh) (h : ArrAt w v F) (hE : rightE F = 0) (hD : dimsE sh ≠ 0) :
    Calls Tryd.prog 42 #[.slice a sh.length cap, v] w (GiveNewE zeroA (dimsE sh) w) := by
  have hA := h
  obtain ⟨k, sa, ls, sc, na, ln, nc, ia, li, ic, rfl⟩ : ∃ k sa ls sc na ln nc ia li ic, v = .agg #[.int .i64 k, .slice sa ls sc, .slice na ln nc, .slice ia li ic] := by
    obtain ⟨k, sh, nu, it⟩ := F
    rw [ArrAt] at h
    obtain ⟨sa, sc, na, nc, ia, ic, rfl, -⟩ := h
    exact ⟨_, _, _, _, _, _, _, _, _, _, rfl⟩
  clear h
  have bw := below_two w (.cells #[.int .i64 k, .slice sa ls sc, .slice na ln nc, .slice ia li ic] 26) (.cells #[.int .i64 0, .slice none 0 0, .slice none 0 0, .slice none 0 0] 26)
  have hA1 := hA.below bw
  have g1 := g.below bw
  have q2 : Quad ((w.alloc (.cells #[.int .i64 k, .slice sa ls sc, .slice na ln nc, .slice ia li ic] 26)).alloc (.cells #[.int .i64 0, .slice none 0 0, .slice none 0 0, .slice none 0 0] 26)) (w.heap.size + 1) (.int .i64 0) (.slice none 0 0) (.slice none 0 0) (.slice none 0 0) := by
    simpa using Quad.new (w.alloc (.cells #[.int .i64 k, .slice sa ls sc, .slice na ln nc, .slice ia li ic] 26)) (.int .i64 0) (.slice none 0 0) (.slice none 0 0) (.slice none 0 0)
  have R := fun v' w' (g : ArrAt w' v' F) => rightR3 v' F w' g
  rw [hE] at R
  have D := fun w' (g : IntsAt w' a cap sh) => dimsR a cap sh w' g
  generalize dimsE sh = y at D hD ⊢
  have e2 : (y != 0) = true := by simpa using hD
  clear hE hA hD
  go_enter Tryd.func42, Tryd.ntmps42
  go_wp2_with (first
    | (go_at_call 14; refine (R _ _ hA1).mono ?_; rintro e w1 ⟨rfl, hb1⟩; (obtain ⟨s0, s1, s2, s3, s4, s5, s6, s7⟩ := (q2.below hb1).cells))
    | (go_at_call 39; refine (D _ (g1.below hb1)).mono ?_; rintro e w2 ⟨rfl, rfl⟩))
  have q3 := q2.below hb1
  have G := give_set4 (Nat.le_succ w.heap.size) q3 (zero_on _ _) (Below.then bw hb1)
  obtain ⟨QW, -⟩ := set4 q3 (.int .i64 0) (.slice none 0 0) (.slice none 0 0) (.slice none 0 0)
  generalize ((((w1.setCell ⟨w.heap.size + 1, 0, none⟩ (.int .i64 0)).setCell ⟨w.heap.size + 1, 1, none⟩ (.slice none 0 0)).setCell ⟨w.heap.size + 1, 2, none⟩ (.slice none 0 0)).setCell ⟨w.heap.size + 1, 3, none⟩ (.slice none 0 0)) = WW at QW G ⊢
  obtain ⟨z0, z1, z2, z3, -⟩ := QW.cells
  exact bodyPost_ret (v := .tuple #[.agg #[.int .i64 0, .slice none 0 0, .slice none 0 0, .slice none 0 0], .int .i64 y]) (by simp [results, Tryd.results42, go_sem, z0, z1, z2, z3]) rfl (GiveNewE.mk G)
end Go.Proofs.YtphcpolgeceljaaDoor.Shape
