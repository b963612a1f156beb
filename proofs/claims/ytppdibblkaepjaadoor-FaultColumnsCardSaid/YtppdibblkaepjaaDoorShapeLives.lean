/-
  Layer 2: the examples of the chapter that each law asks ('lives') hold.
-/
import Derived.Test.YtppdibblkaepjaaDoorShapeQ
import Derived.Test.YtppdibblkaepjaaDoorShapeLawMath
namespace Go.Proofs.YtppdibblkaepjaaDoor.Shape
open Go.RowKit

theorem lit_at (w : World) (L : List Int) (t : TypeId) (C : Array Value) (n m : Nat) (hC : C = (L.map (Value.int .i64)).toArray) (hn : n = w.heap.size) (hm : m = L.length) (hb : ∀ x ∈ L, -9223372036854775808 ≤ x ∧ x ≤ 9223372036854775807) (hl : L.length ≤ 1000000) :
    IntsAt (w.alloc (.cells C t)) (some ⟨n, 0, none⟩) m L := by
  subst hC; subst hn; subst hm
  refine ⟨Nat.le_refl _, by omega, hb, w.heap.size, 0, fun _ => rfl, fun i hi => ?_⟩
  rw [World.cell?_alloc_new]
  simp [hi]
theorem below_new (w : World) (o : Obj) : Below w.heap.size w (w.alloc o) := (Below.refl _ _).alloc (Nat.le_refl _) _
theorem IntsAt.old {w : World} {a : Option Addr} {cap : Nat} {xs : List Int} (h : IntsAt w a cap xs) (o : Obj) : IntsAt (w.alloc o) a cap xs := h.below (below_new w o)
theorem Below.then {a b c : World} (h : Below a.heap.size a b) (k : Below b.heap.size b c) : Below a.heap.size a c := h.trans (k.mono h.size)
/-- Element k, as the walk spells it where the length and the place are literals. -/
theorem IntsAt.spot {w : World} {a : Option Addr} {cap : Nat} {xs : List Int} (h : IntsAt w a cap xs) {k : Nat} (hk : k < xs.length) (n : Nat) (hn : n = xs.length) (i : Int) (hi : i = k) (v : Int) (hv : xs[k] = v) :
    ∃ b off : Nat, (∀ w' : World, (Instr.indexAt 29 (.slice a n cap) (.int .i64 i)).run Tryd.prog w' = .ok (.pointer (some ⟨b, off, none⟩)) w') ∧ w.cell? ⟨b, off, none⟩ = some (.int .i64 v) := by
  subst hn; subst hi; subst hv
  obtain ⟨b, off, h1, h2⟩ := h.at hk
  exact ⟨b, off + k, h1, h2⟩

theorem ex_off : offS [2, 3] [1, 2] = (5, true) := by decide
theorem ex_idx : idxL [2, 3] 4 = [1, 1] := by decide
theorem ex_idxb : idxB [2, 3] 4 = true := by decide
theorem ex_ag : agL [2] [2, 3] = [2, 3] := by decide
theorem ex_agb : agB [2] [2, 3] = true := by decide
theorem ex_ag2 : agL [3] [2, 3] = [] := by decide
theorem ex_agb2 : agB [3] [2, 3] = false := by decide
theorem ex_row : rowS [2, 3, 4] 1 = (2, 12) := by decide
theorem ex_size : sizeS [2, 3] = 6 := by decide
theorem ex_show : jS [3, -5] = ⟨#[51, 32, 95, 53]⟩ := by
  simp only [jS, jn, jn.jt]
  rw [Num.shL_pos (by decide), Num.shL_neg (by decide), Num.dg_last (by decide), Num.dg_last (by decide)]; rfl
theorem small_bd {L : List Int} (h : L.all (fun x => decide (-100 ≤ x ∧ x ≤ 100)) = true) : ∀ x ∈ L, -9223372036854775808 ≤ x ∧ x ≤ 9223372036854775807 := by
  intro x hx
  have := List.all_eq_true.1 h x hx
  simp at this
  omega

/-! The contracts at literals. -/
theorem showL (a : Option Addr) (cap : Nat) (xs : List Int) (n : Nat) (hn : n = xs.length) (s : ByteArray) (hr : jS xs = s) (hs : xs.length ≤ 2000000) (w : World) (h : IntsAt w a cap xs) :
    Calls Tryd.prog 30 #[.slice a n cap] w fun e w' => e = .returned (.string s) ∧ Below w.heap.size w w' := by
  subst hn; subst hr; exact showQ a cap xs w h hs

end Go.Proofs.YtppdibblkaepjaaDoor.Shape
