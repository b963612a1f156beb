/-
  Layer 16: the chapter's examples that each law asks.
-/
import Derived.Test.YtekbdiniibmhgaaBinLv0g
namespace Go.Proofs.Ytekbdiniibmhgaa.Shape
open Go.RowKit
open Go.Proofs.Ytekbdiniibmhgaa.Shp (agB agL)
set_option linter.unusedVariables false
set_option linter.unusedSimpArgs false

abbrev exR16 : Arr := .mk 1 [2, 3] [11, 12, 13, 24, 25, 26] []
theorem reach_flat {k : Int} {sh nu : List Int} (h1 : sh.length ≤ 1000) (h2 : nu.length ≤ 1000) : Reach (.mk k sh nu []) := by
  rw [Reach, ReachL]
  refine ⟨?_, ?_, by decide, trivial⟩ <;> omega
theorem drew16 (w : World) : Below w.heap.size w w.drew := (Below.refl _ _).drew
theorem below_alloc {w w1 : World} (h : Below w.heap.size w w1) (o : Obj) : Below w.heap.size w (w1.alloc o) := Below.then h (below_new _ _)
/-- The laid matrix m, and all that lay before. -/
structure Ex16 (w W : World) : Prop where
  low : Below w.heap.size w W
  q : Quad W (w.heap.size + 1 + 1) (.int .i64 1) (.slice (some ⟨w.heap.size, 0, none⟩) 2 2) (.slice (some ⟨w.heap.size + 1, 0, none⟩) 6 6) (.slice none 0 0)
  a : ArrAt W (.agg #[.int .i64 1, .slice (some ⟨w.heap.size, 0, none⟩) 2 2, .slice (some ⟨w.heap.size + 1, 0, none⟩) 6 6, .slice none 0 0]) exM16
theorem Ex16.below {w W W' : World} (h : Ex16 w W) (hb : Below W.heap.size W W') : Ex16 w W' := ⟨Below.then h.low hb, h.q.below hb, h.a.below hb⟩
theorem Ex16.new (w : World) : Ex16 w (((w.alloc (.cells #[.int .i64 2, .int .i64 3] 3)).alloc (.cells #[.int .i64 1, .int .i64 2, .int .i64 3, .int .i64 4, .int .i64 5, .int .i64 6] 3)).alloc (.cells #[.int .i64 1, .slice (some ⟨w.heap.size, 0, none⟩) 2 2, .slice (some ⟨w.heap.size + 1, 0, none⟩) 6 6, .slice none 0 0] 33)) := by
  have i1 := lit16 w [2, 3] 3 #[.int .i64 2, .int .i64 3] w.heap.size 2 rfl rfl rfl (by decide) (by decide)
  have i2 := lit16 (w.alloc (.cells #[.int .i64 2, .int .i64 3] 3)) [1, 2, 3, 4, 5, 6] 3 #[.int .i64 1, .int .i64 2, .int .i64 3, .int .i64 4, .int .i64 5, .int .i64 6] (w.heap.size + 1) 6 rfl (by simp) rfl (by decide) (by decide)
  have b1 := below_new w (.cells #[.int .i64 2, .int .i64 3] 3)
  have z1 : (w.alloc (.cells #[.int .i64 2, .int .i64 3] 3)).heap.size = w.heap.size + 1 := by simp
  generalize w.alloc (.cells #[.int .i64 2, .int .i64 3] 3) = W1 at *
  have b2 := below_new W1 (.cells #[.int .i64 1, .int .i64 2, .int .i64 3, .int .i64 4, .int .i64 5, .int .i64 6] 3)
  have z2 : (W1.alloc (.cells #[.int .i64 1, .int .i64 2, .int .i64 3, .int .i64 4, .int .i64 5, .int .i64 6] 3)).heap.size = w.heap.size + 1 + 1 := by rw [← z1]; simp
  replace i1 := i1.below b2
  generalize W1.alloc (.cells #[.int .i64 1, .int .i64 2, .int .i64 3, .int .i64 4, .int .i64 5, .int .i64 6] 3) = W2 at *
  have b3 := below_new W2 (.cells #[.int .i64 1, .slice (some ⟨w.heap.size, 0, none⟩) 2 2, .slice (some ⟨w.heap.size + 1, 0, none⟩) 6 6, .slice none 0 0] 33)
  have q := Quad.new W2 (.int .i64 1) (.slice (some ⟨w.heap.size, 0, none⟩) 2 2) (.slice (some ⟨w.heap.size + 1, 0, none⟩) 6 6) (.slice none 0 0)
  rw [z2] at q
  exact ⟨Below.then (Below.then b1 b2) b3, q, arr_plain (by decide) rfl rfl (i1.below b3) (i2.below b3)⟩
mutual
theorem at_lt {w : World} : ∀ {v : Value} {A : Arr}, ArrAt w v A → ArrOn (fun g => g < w.heap.size) w v A
  | _, .mk k sh nu it, h => by
    rw [ArrAt] at h
    rw [ArrOn]
    obtain ⟨sa, sc, na, nc, ia, ic, hv, hk, hs, hn, h1, h2, b, off, ha, hc⟩ := h
    refine ⟨sa, sc, na, nc, ia, ic, hv, hk, ⟨hs, ?_⟩, ⟨hn, ?_⟩, h1, h2, b, off, fun g => ⟨ha g, ?_⟩, ats_lt hc⟩
    · intro hne ad e
      obtain ⟨-, -, -, b', off', ha', hc'⟩ := hs
      rw [ha' hne] at e
      cases e
      exact cell_lt (hc' 0 (List.length_pos_iff.2 hne))
    · intro hne ad e
      obtain ⟨-, -, -, b', off', ha', hc'⟩ := hn
      rw [ha' hne] at e
      cases e
      exact cell_lt (hc' 0 (List.length_pos_iff.2 hne))
    · cases it with
      | nil => exact absurd rfl g
      | cons A r =>
        rw [ArrsAt] at hc
        obtain ⟨⟨c0, _, _, _, ⟨e, -⟩, -⟩, -⟩ := hc
        exact cell_lt e
theorem ats_lt {w : World} : ∀ {b off : Nat} {l : List Arr}, ArrsAt w b off l → ArrsOn (fun g => g < w.heap.size) w b off l
  | _, _, [], _ => by rw [ArrsOn]; trivial
  | b, off, A :: r, h => by
    rw [ArrsAt] at h
    rw [ArrsOn]
    obtain ⟨⟨c0, c1, c2, c3, hc, hA⟩, hr⟩ := h
    exact ⟨⟨c0, c1, c2, c3, hc, at_lt hA⟩, ats_lt hr⟩
end
/-- An array that lay before block B was made lies apart from it. -/
theorem apart {w w' : World} {v : Value} {A : Arr} {B : Nat} (h : ArrAt w v A) (hb : Below w.heap.size w w') (hB : w.heap.size ≤ B) : ArrOn (fun g => g ≠ B) w' v A :=
  (at_lt h).keep fun g hg _ => ⟨by omega, fun o => hb.cell hg⟩
/-- What is left when a result has been stored: in a block of its own, laid before the call or behind it. -/
theorem kept_new {w3 : World} {k : Int} {sa na ia : Option Addr} {ls sc ln nc li ic : Nat} {A : Arr} (h : ArrAt w3 (.agg #[.int .i64 k, .slice sa ls sc, .slice na ln nc, .slice ia li ic]) A) :
    Quad (w3.alloc (.cells #[.int .i64 k, .slice sa ls sc, .slice na ln nc, .slice ia li ic] 33)) w3.heap.size (.int .i64 k) (.slice sa ls sc) (.slice na ln nc) (.slice ia li ic) ∧
    ArrAt (w3.alloc (.cells #[.int .i64 k, .slice sa ls sc, .slice na ln nc, .slice ia li ic] 33)) (.agg #[.int .i64 k, .slice sa ls sc, .slice na ln nc, .slice ia li ic]) A ∧
    Below w3.heap.size w3 (w3.alloc (.cells #[.int .i64 k, .slice sa ls sc, .slice na ln nc, .slice ia li ic] 33)) :=
  ⟨Quad.new _ _ _ _ _, h.below (below_new _ _), below_new _ _⟩
theorem kept_set {w3 : World} {B H : Nat} {k : Int} {sa na ia : Option Addr} {ls sc ln nc li ic : Nat} {A : Arr} {z0 z1 z2 z3 : Value} (q : Quad w3 B z0 z1 z2 z3) (hH : H ≤ B) (h : ArrOn (fun g => g ≠ B) w3 (.agg #[.int .i64 k, .slice sa ls sc, .slice na ln nc, .slice ia li ic]) A) :
    Quad ((((w3.setCell ⟨B, 0, none⟩ (.int .i64 k)).setCell ⟨B, 1, none⟩ (.slice sa ls sc)).setCell ⟨B, 2, none⟩ (.slice na ln nc)).setCell ⟨B, 3, none⟩ (.slice ia li ic)) B (.int .i64 k) (.slice sa ls sc) (.slice na ln nc) (.slice ia li ic) ∧
    ArrAt ((((w3.setCell ⟨B, 0, none⟩ (.int .i64 k)).setCell ⟨B, 1, none⟩ (.slice sa ls sc)).setCell ⟨B, 2, none⟩ (.slice na ln nc)).setCell ⟨B, 3, none⟩ (.slice ia li ic)) (.agg #[.int .i64 k, .slice sa ls sc, .slice na ln nc, .slice ia li ic]) A ∧
    Below H w3 ((((w3.setCell ⟨B, 0, none⟩ (.int .i64 k)).setCell ⟨B, 1, none⟩ (.slice sa ls sc)).setCell ⟨B, 2, none⟩ (.slice na ln nc)).setCell ⟨B, 3, none⟩ (.slice ia li ic)) := by
  obtain ⟨h1, h2⟩ := set4 q (.int .i64 k) (.slice sa ls sc) (.slice na ln nc) (.slice ia li ic)
  exact ⟨h1, (h.keep (R := fun _ => True) fun g hg _ => ⟨trivial, fun o => World.cell?_of_block (h2 g hg)⟩).at, set4_below hH _ _ _ _⟩
end Go.Proofs.Ytekbdiniibmhgaa.Shape
