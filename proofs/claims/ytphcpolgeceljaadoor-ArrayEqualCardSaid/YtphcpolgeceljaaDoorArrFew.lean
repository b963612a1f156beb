/-
  Layer 3: the reference's Few, Small and SmallList: they return (what they return, the laws do not need: the other contracts hold for arrays of every size).
-/
import Derived.Test.YtphcpolgeceljaaDoorArrSame
namespace Go.Proofs.YtphcpolgeceljaaDoor.Shape
open Go.RowKit

def GiveInt (w : World) (e : Ending) (w' : World) : Prop := ∃ n : Int, e = .returned (.int .i64 n) ∧ Below w.heap.size w w'
def GiveBool (w : World) (e : Ending) (w' : World) : Prop := ∃ b : Bool, e = .returned (.bool b) ∧ Below w.heap.size w w'
theorem GiveInt.mk {w w' : World} (n : Int) (h : Below w.heap.size w w') : GiveInt w (.returned (.int .i64 n)) w' := ⟨n, rfl, h⟩
theorem GiveBool.mk {w w' : World} (b : Bool) (h : Below w.heap.size w w') : GiveBool w (.returned (.bool b)) w' := ⟨b, rfl, h⟩

set_option maxHeartbeats 1000000 in
theorem fewR_any (n : Nat) : ∀ (v : Value) (A : Arr) (most : Int) (w : World), rk A ≤ n → ArrAt w v A → Calls Tryd.prog 43 #[v, .int .i64 most] w (GiveInt w) := by
  induction n with
  | zero =>
    intro v A most w hn _
    obtain ⟨k, sh, nu, it⟩ := A
    rw [rk] at hn; omega
  | succ n ih =>
    intro v A most w hn h
    obtain ⟨k, sh, nu, it⟩ := A
    rw [ArrAt] at h
    obtain ⟨sa, sc, na, nc, ia, ic, rfl, hk, hs, hnn, h1, h2, b, off, ha, hc⟩ := h
    have hP1 := Par.new w (.int .i64 k) (.slice sa sh.length sc) (.slice na nu.length nc) (.slice ia it.length ic) 26
    clear hs hnn hk
    go_enter Tryd.func43, Tryd.ntmps43
    go_wp2_with fail
    go_loopw [1, 5] (fun m i wr => ∃ (j : Nat) (M : Int), j ≤ it.length ∧ i = .int .i64 j ∧ m = .int .i64 M ∧ Par wr w.heap.size (.int .i64 k) (.slice sa sh.length sc) (.slice na nu.length nc) (.slice ia it.length ic) ∧ Below w.heap.size w wr) (fun _ i _ => it.length - (intOf i).toNat)
    case atStart => exact ⟨0, _, Nat.zero_le _, rfl, rfl, hP1, below_new _ _⟩
    case round =>
      obtain ⟨j, M, hj, rfl, rfl, hp, hb⟩ := hrel
      obtain ⟨p0, p1, p2, p3, p4⟩ := id hp
      by_cases hlt : j < it.length
      · by_cases hM : 0 ≤ M
        · have hi := items_at (ic := ic) rfl ha hlt
          obtain ⟨c0, c1, c2, c3, ⟨g0, g1, g2, g3⟩, hB⟩ := (ArrsAt.below hb hc).at hlt
          have hrk : rk it[j] ≤ n := Nat.le_of_lt_succ (Nat.lt_of_lt_of_le (rk_item hlt) hn)
          have ic1 := fun m => ih _ _ m wr hrk hB
          clear ih
          go_wp2_with (go_at_call 43; refine (ic1 _).mono ?_; rintro e w2 ⟨m2, rfl, hb2⟩)
          go_roundw
          case rel => exact ⟨j + 1, m2, by omega, by go_num, rfl, hp.below hb2, hb.trans (hb2.mono hb.size)⟩
          case measure => simp [intOf]; omega
        · clear ih
          go_wp2_with fail
          go_ret
          exact GiveInt.mk _ hb
      · clear ih
        go_wp2_with fail
        go_ret
        exact GiveInt.mk _ hb

theorem smallR (v : Value) (A : Arr) (w : World) (h : ArrAt w v A) : Calls Tryd.prog 11 #[v] w (GiveBool w) := by
  have hA := h
  obtain ⟨k, sh, nu, it⟩ := A
  rw [ArrAt] at h
  obtain ⟨sa, sc, na, nc, ia, ic, rfl, -⟩ := h
  have hA1 := hA.below (below_new w (.cells #[.int .i64 k, .slice sa sh.length sc, .slice na nu.length nc, .slice ia it.length ic] 26))
  go_enter Tryd.func11, Tryd.ntmps11
  go_wp2_with (go_at_call 43; refine (fewR_any _ _ _ _ _ (Nat.le_refl _) hA1).mono ?_; rintro e w2 ⟨m2, rfl, hb2⟩)
  go_ret
  exact GiveBool.mk _ (Below.then (below_new _ _) hb2)

set_option maxHeartbeats 1000000 in
theorem smallListR (a : Option Addr) (c : Nat) (l : List Arr) (w : World) (b off : Nat) (hlc : l.length ≤ c) (hc : c ≤ 9223372036854775807) (ha : l ≠ [] → a = some ⟨b, off, none⟩) (h : ArrsAt w b off l) :
    Calls Tryd.prog 24 #[.slice a l.length c] w (GiveBool w) := by
  go_enter Tryd.func24, Tryd.ntmps24
  go_wp2_with fail
  go_loopw [3, 4] (fun m i wr => ∃ (j : Nat) (M : Int), j ≤ l.length ∧ i = .int .i64 j ∧ m = .int .i64 M ∧ Below w.heap.size w wr) (fun _ i _ => l.length - (intOf i).toNat)
  case atStart => exact ⟨0, _, Nat.zero_le _, rfl, rfl, Below.refl _ _⟩
  case round =>
    obtain ⟨j, M, hj, rfl, rfl, hb⟩ := hrel
    by_cases hlt : j < l.length
    · by_cases hM : 0 ≤ M
      · have hi := items_at (ic := c) rfl ha hlt
        obtain ⟨c0, c1, c2, c3, ⟨g0, g1, g2, g3⟩, hB⟩ := (ArrsAt.below hb h).at hlt
        go_wp2_with (go_at_call 43; refine (fewR_any _ _ _ _ _ (Nat.le_refl _) hB).mono ?_; rintro e w2 ⟨m2, rfl, hb2⟩)
        go_roundw
        case rel => exact ⟨j + 1, m2, by omega, by go_num, rfl, hb.trans (hb2.mono hb.size)⟩
        case measure => simp [intOf]; omega
      · go_wp2_with fail
        go_ret
        exact GiveBool.mk _ hb
    · go_wp2_with fail
      go_ret
      exact GiveBool.mk _ hb
end Go.Proofs.YtphcpolgeceljaaDoor.Shape
