/-
  Layer 7: Same of the program and of the reference.
-/
import Derived.Test.YtppdibblkaepjaaDoorFltPlace
namespace Go.Proofs.YtppdibblkaepjaaDoor.Flt
open Go.RowKit Go.Proofs.YtppdibblkaepjaaDoor.Shape
set_option linter.unusedVariables false

theorem sameRB (a : Option Addr) (cap : Nat) (xs : List Int) (a2 : Option Addr) (cap2 : Nat) (ys : List Int) (w : World) (h : IntsAt w a cap xs) (g : IntsAt w a2 cap2 ys) :
    Calls Tryd.prog 25 #[.slice a xs.length cap, .slice a2 ys.length cap2] w fun e w' => e = .returned (.bool (sameB xs ys)) ∧ Below w.heap.size w w' :=
  (sameR a cap xs a2 cap2 ys w h g).mono fun _ _ ⟨he, n, hw⟩ => ⟨he, hw ▸ Shape.below_drewN n⟩
/-- A fault, as a value. -/
@[reducible] def fltV (k n : Int) (la : Option Addr) (ln lc : Nat) (ra : Option Addr) (rn rc : Nat) (s : ByteArray) : Value := .agg #[.int .i64 k, .int .i64 n, .slice la ln lc, .slice ra rn rc, .string s]
/-- A fault's block. -/
structure Five (w : World) (b : Nat) (c0 c1 c2 c3 c4 : Value) : Prop where
  p0 : w.cell? ⟨b, 0, none⟩ = some c0
  p1 : w.cell? ⟨b, 1, none⟩ = some c1
  p2 : w.cell? ⟨b, 2, none⟩ = some c2
  p3 : w.cell? ⟨b, 3, none⟩ = some c3
  p4 : w.cell? ⟨b, 4, none⟩ = some c4
theorem Five.new (w : World) (c0 c1 c2 c3 c4 : Value) (t : TypeId) : Five (w.alloc (.cells #[c0, c1, c2, c3, c4] t)) w.heap.size c0 c1 c2 c3 c4 := by
  constructor <;> (rw [World.cell?_alloc_new]; rfl)
theorem Five.new2 (w : World) (o : Obj) (c0 c1 c2 c3 c4 : Value) (t : TypeId) : Five ((w.alloc o).alloc (.cells #[c0, c1, c2, c3, c4] t)) (w.heap.size + 1) c0 c1 c2 c3 c4 := by
  have h := Five.new (w.alloc o) c0 c1 c2 c3 c4 t
  have e : (w.alloc o).heap.size = w.heap.size + 1 := by simp
  rw [e] at h
  exact h
theorem Five.below {w w' : World} {b : Nat} {c0 c1 c2 c3 c4 : Value} (h : Five w b c0 c1 c2 c3 c4) (hb : Below w.heap.size w w') : Five w' b c0 c1 c2 c3 c4 :=
  ⟨(hb.cell (cell_lt h.p0)).trans h.p0, (hb.cell (cell_lt h.p1)).trans h.p1, (hb.cell (cell_lt h.p2)).trans h.p2, (hb.cell (cell_lt h.p3)).trans h.p3, (hb.cell (cell_lt h.p4)).trans h.p4⟩
theorem below_two (w : World) (o o2 : Obj) : Below w.heap.size w ((w.alloc o).alloc o2) := Below.then (below_new _ _) (below_new _ _)
def fsame (k n : Int) (L R : List Int) (s : ByteArray) (k2 n2 : Int) (L2 R2 : List Int) (s2 : ByteArray) : Bool := k == k2 && n == n2 && decide (s.toList = s2.toList) && sameB L L2 && sameB R R2
theorem fsame_self (k n : Int) (L R : List Int) (s : ByteArray) : fsame k n L R s k n L R s = true := by simp [fsame, sameB]

set_option maxHeartbeats 1000000 in
theorem sameP (k n k2 n2 : Int) (L R L2 R2 : List Int) (s s2 : ByteArray) (la ra la2 ra2 : Option Addr) (lc rc lc2 rc2 : Nat) (w : World) (hL : IntsAt w la lc L) (hR : IntsAt w ra rc R) (hL2 : IntsAt w la2 lc2 L2) (hR2 : IntsAt w ra2 rc2 R2) :
    Calls Tryd.prog 15 #[fltV k n la L.length lc ra R.length rc s, fltV k2 n2 la2 L2.length lc2 ra2 R2.length rc2 s2] w fun e w' => e = .returned (.bool (fsame k n L R s k2 n2 L2 R2 s2)) ∧ Below w.heap.size w w' := by
  by_cases h1 : (k == k2) = true
  · by_cases h2 : (n == n2) = true
    · by_cases h3 : s.toList = s2.toList
      · have hb := below_two w (.cells #[.int .i64 k, .int .i64 n, .slice la L.length lc, .slice ra R.length rc, .string s] 31) (.cells #[.int .i64 k2, .int .i64 n2, .slice la2 L2.length lc2, .slice ra2 R2.length rc2, .string s2] 31)
        have f1 := (Five.new w (.int .i64 k) (.int .i64 n) (.slice la L.length lc) (.slice ra R.length rc) (.string s) 31).below (below_new _ (.cells #[.int .i64 k2, .int .i64 n2, .slice la2 L2.length lc2, .slice ra2 R2.length rc2, .string s2] 31))
        have f2 := Five.new2 w (.cells #[.int .i64 k, .int .i64 n, .slice la L.length lc, .slice ra R.length rc, .string s] 31) (.int .i64 k2) (.int .i64 n2) (.slice la2 L2.length lc2) (.slice ra2 R2.length rc2) (.string s2) 31
        have C1 := sameQ _ _ _ _ _ _ _ (hL.below hb) (hL2.below hb)
        have C2 := fun w' (g : Below _ _ w') => sameQ _ _ _ _ _ _ w' ((hR.below hb).below g) ((hR2.below hb).below g)
        have e : fsame k n L R s k2 n2 L2 R2 s2 = (sameB L L2 && sameB R R2) := by simp only [fsame, h1, h2, h3]; simp
        rw [e]
        clear e
        generalize sameB L L2 = x at *
        generalize sameB R R2 = y at *
        cases x with
        | false =>
          clear C2 f1 f2
          go_enter Tryd.func15, Tryd.ntmps15
          go_wp2_with (go_at_call 24; (with_reducible refine C1.mono ?_); rintro e w1 ⟨rfl, b1⟩)
          go_ret
          exact ⟨rfl, Below.then hb b1⟩
        | true =>
          go_enter Tryd.func15, Tryd.ntmps15
          go_wp2_with fail
          go_at_call 24
          with_reducible refine C1.mono ?_
          rintro e w1 ⟨rfl, b1⟩
          have g3 := (f1.below b1).p3
          have g4 := (f2.below b1).p3
          have D := C2 w1 b1
          have B := Below.then hb b1
          clear C1 C2 f1 f2 b1 hb
          go_wp2_with (go_at_call 24; (with_reducible refine D.mono ?_); rintro e w2 ⟨rfl, b2⟩)
          go_ret
          exact ⟨rfl, Below.then B b2⟩
      · have e : fsame k n L R s k2 n2 L2 R2 s2 = false := by simp [fsame, h3]
        rw [e]
        clear e hL hR hL2 hR2
        go_enter Tryd.func15, Tryd.ntmps15
        go_wp2_with fail
        go_ret
        exact ⟨rfl, below_two _ _ _⟩
    · have h2' : (n == n2) = false := by simpa using h2
      have e : fsame k n L R s k2 n2 L2 R2 s2 = false := by simp [fsame, h2']
      rw [e]
      clear e hL hR hL2 hR2 h2
      go_enter Tryd.func15, Tryd.ntmps15
      go_wp2_with fail
      go_ret
      exact ⟨rfl, below_two _ _ _⟩
  · have h1' : (k == k2) = false := by simpa using h1
    have e : fsame k n L R s k2 n2 L2 R2 s2 = false := by simp [fsame, h1']
    rw [e]
    clear e hL hR hL2 hR2 h1
    go_enter Tryd.func15, Tryd.ntmps15
    go_wp2_with fail
    go_ret
    exact ⟨rfl, below_two _ _ _⟩

set_option maxHeartbeats 1000000 in
theorem sameRf (k n k2 n2 : Int) (L R L2 R2 : List Int) (s s2 : ByteArray) (la ra la2 ra2 : Option Addr) (lc rc lc2 rc2 : Nat) (w : World) (hL : IntsAt w la lc L) (hR : IntsAt w ra rc R) (hL2 : IntsAt w la2 lc2 L2) (hR2 : IntsAt w ra2 rc2 R2) :
    Calls Tryd.prog 16 #[fltV k n la L.length lc ra R.length rc s, fltV k2 n2 la2 L2.length lc2 ra2 R2.length rc2 s2] w fun e w' => e = .returned (.bool (fsame k n L R s k2 n2 L2 R2 s2)) ∧ Below w.heap.size w w' := by
  by_cases h1 : (k == k2) = true
  · by_cases h2 : (n == n2) = true
    · by_cases h3 : s.toList = s2.toList
      · have hb := below_two w (.cells #[.int .i64 k, .int .i64 n, .slice la L.length lc, .slice ra R.length rc, .string s] 31) (.cells #[.int .i64 k2, .int .i64 n2, .slice la2 L2.length lc2, .slice ra2 R2.length rc2, .string s2] 31)
        have f1 := (Five.new w (.int .i64 k) (.int .i64 n) (.slice la L.length lc) (.slice ra R.length rc) (.string s) 31).below (below_new _ (.cells #[.int .i64 k2, .int .i64 n2, .slice la2 L2.length lc2, .slice ra2 R2.length rc2, .string s2] 31))
        have f2 := Five.new2 w (.cells #[.int .i64 k, .int .i64 n, .slice la L.length lc, .slice ra R.length rc, .string s] 31) (.int .i64 k2) (.int .i64 n2) (.slice la2 L2.length lc2) (.slice ra2 R2.length rc2) (.string s2) 31
        have C1 := sameRB _ _ _ _ _ _ _ (hL.below hb) (hL2.below hb)
        have C2 := fun w' (g : Below _ _ w') => sameRB _ _ _ _ _ _ w' ((hR.below hb).below g) ((hR2.below hb).below g)
        have e : fsame k n L R s k2 n2 L2 R2 s2 = (sameB L L2 && sameB R R2) := by simp only [fsame, h1, h2, h3]; simp
        rw [e]
        clear e
        generalize sameB L L2 = x at *
        generalize sameB R R2 = y at *
        cases x with
        | false =>
          clear C2 f1 f2
          go_enter Tryd.func16, Tryd.ntmps16
          go_wp2_with (go_at_call 25; (with_reducible refine C1.mono ?_); rintro e w1 ⟨rfl, b1⟩)
          go_ret
          exact ⟨rfl, Below.then hb b1⟩
        | true =>
          go_enter Tryd.func16, Tryd.ntmps16
          go_wp2_with fail
          go_at_call 25
          with_reducible refine C1.mono ?_
          rintro e w1 ⟨rfl, b1⟩
          have g3 := (f1.below b1).p3
          have g4 := (f2.below b1).p3
          have D := C2 w1 b1
          have B := Below.then hb b1
          clear C1 C2 f1 f2 b1 hb
          go_wp2_with (go_at_call 25; (with_reducible refine D.mono ?_); rintro e w2 ⟨rfl, b2⟩)
          go_ret
          exact ⟨rfl, Below.then B b2⟩
      · have e : fsame k n L R s k2 n2 L2 R2 s2 = false := by simp [fsame, h3]
        rw [e]
        clear e hL hR hL2 hR2
        go_enter Tryd.func16, Tryd.ntmps16
        go_wp2_with fail
        go_ret
        exact ⟨rfl, below_two _ _ _⟩
    · have h2' : (n == n2) = false := by simpa using h2
      have e : fsame k n L R s k2 n2 L2 R2 s2 = false := by simp [fsame, h2']
      rw [e]
      clear e hL hR hL2 hR2 h2
      go_enter Tryd.func16, Tryd.ntmps16
      go_wp2_with fail
      go_ret
      exact ⟨rfl, below_two _ _ _⟩
  · have h1' : (k == k2) = false := by simpa using h1
    have e : fsame k n L R s k2 n2 L2 R2 s2 = false := by simp [fsame, h1']
    rw [e]
    clear e hL hR hL2 hR2 h1
    go_enter Tryd.func16, Tryd.ntmps16
    go_wp2_with fail
    go_ret
    exact ⟨rfl, below_two _ _ _⟩
end Go.Proofs.YtppdibblkaepjaaDoor.Flt
