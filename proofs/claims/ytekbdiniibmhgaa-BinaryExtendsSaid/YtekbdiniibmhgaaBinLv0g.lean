/-
  Layer 16: the laws' ints; what Apply gives.
-/
import Derived.Test.YtekbdiniibmhgaaBinR5g
namespace Go.Proofs.Ytekbdiniibmhgaa.Shape
open Go.RowKit
open Go.Proofs.Ytekbdiniibmhgaa.Shp (agB agL)
set_option linter.unusedVariables false

mutual
theorem at_onT {w : World} : ∀ {v : Value} {A : Arr}, ArrAt w v A → ArrOn (fun _ => True) w v A
  | _, .mk k sh nu it, h => by
    rw [ArrAt] at h
    rw [ArrOn]
    obtain ⟨sa, sc, na, nc, ia, ic, hv, hk, hs, hn, h1, h2, b, off, ha, hc⟩ := h
    exact ⟨sa, sc, na, nc, ia, ic, hv, hk, ⟨hs, fun _ _ _ => trivial⟩, ⟨hn, fun _ _ _ => trivial⟩, h1, h2, b, off, fun g => ⟨ha g, trivial⟩, ats_onT hc⟩
theorem ats_onT {w : World} : ∀ {b off : Nat} {l : List Arr}, ArrsAt w b off l → ArrsOn (fun _ => True) w b off l
  | _, _, [], _ => by rw [ArrsOn]; trivial
  | b, off, A :: r, h => by
    rw [ArrsAt] at h
    rw [ArrsOn]
    obtain ⟨⟨c0, c1, c2, c3, hc, hA⟩, hr⟩ := h
    exact ⟨⟨c0, c1, c2, c3, hc, at_onT hA⟩, ats_onT hr⟩
end
/-- An array and an error as a call's result; the array lies in blocks of which P holds. -/
def Gives (P : Nat → Prop) (A : Arr) (er : Int) (w : World) (e : Ending) (w' : World) : Prop := ∃ (k : Int) (sa : Option Addr) (ls sc : Nat) (na : Option Addr) (ln nc : Nat) (ia : Option Addr) (li ic : Nat), e = .returned (.tuple #[.agg #[.int .i64 k, .slice sa ls sc, .slice na ln nc, .slice ia li ic], .int .i64 er]) ∧ ArrOn P w' (.agg #[.int .i64 k, .slice sa ls sc, .slice na ln nc, .slice ia li ic]) A ∧ Below w.heap.size w w'
theorem GiveNewE.gives {P : Nat → Prop} {A : Arr} {er : Int} {w w' : World} {e : Ending} (hP : ∀ g, w.heap.size ≤ g → P g) (h : GiveNewE A er w e w') : Gives P A er w e w' := by
  obtain ⟨c0, c1, c2, c3, rfl, hg⟩ := h
  obtain ⟨d0, d1, d2, d3, he, -, hO, hb⟩ := hg
  simp only [Ending.returned.injEq] at he
  have hO' := hO
  obtain ⟨k, sh, nu, it⟩ := A
  rw [ArrOn] at hO
  obtain ⟨sa, sc, na, nc, ia, ic, hv, -⟩ := hO
  rw [← he] at hv hO'
  rw [hv] at hO'
  simp only [Value.agg.injEq, Array.mk.injEq, List.cons.injEq] at hv
  obtain ⟨rfl, rfl, rfl, rfl, -⟩ := hv
  exact ⟨_, _, _, _, _, _, _, _, _, _, rfl, hO'.mono hP, hb⟩
/-- What an Apply is asked for: its result lies in new blocks and in those of its arguments. -/
def ApplyAt (f : Nat) : Prop := ∀ (P : Nat → Prop) (p : Int) (v v2 : Value) (A B : Arr) (w : World), (∀ g, w.heap.size ≤ g → P g) → ArrOn P w v A → ArrOn P w v2 B → Reach A → Reach B → Calls Try.prog f #[.int .i64 p, v, v2] w (Gives P (applyA p A B).1 (applyA p A B).2 w)
theorem apply16_at : ApplyAt 15 := fun P p v v2 A B w hP h g _ _ => (apply16R p v v2 A B w h.at g.at).mono fun _ _ hh => hh.gives hP
/-- .. the program's. -/
def ApplyOK : Prop := ApplyAt 14
/-- What the program's Scalar is asked for. -/
def ScalarOK : Prop := ∀ (p x y : Int) (w : World), Calls Try.prog 8 #[.int .i64 p, .int .i64 x, .int .i64 y] w fun e w' => e = .returned (.tuple #[.int .i64 (binS p x y).1, .int .i64 (binS p x y).2]) ∧ Below w.heap.size w w'
theorem lit16 (w : World) (L : List Int) (t : TypeId) (C : Array Value) (n m : Nat) (hC : C = (L.map (Value.int .i64)).toArray) (hn : n = w.heap.size) (hm : m = L.length) (hb : L.all (fun x => decide (-100 ≤ x ∧ x ≤ 100)) = true) (hl : L.length ≤ 1000000) :
    IntsAt (w.alloc (.cells C t)) (some ⟨n, 0, none⟩) m L := by
  subst hC; subst hn; subst hm
  refine ⟨Nat.le_refl _, by omega, fun x hx => ?_, w.heap.size, 0, fun _ => rfl, fun i hi => ?_⟩
  · have := List.all_eq_true.1 hb x hx
    simp at this
    omega
  · rw [World.cell?_alloc_new]
    simp [hi]
abbrev vec16 (xs : List Int) : Arr := .mk 1 [xs.length] xs []
theorem arr_plainOn {P : Nat → Prop} {w : World} {k : Int} {sa na : Option Addr} {sc nc sl nl : Nat} {sh nu : List Int} (hk : -9223372036854775808 ≤ k ∧ k ≤ 9223372036854775807) (hsl : sl = sh.length) (hnl : nl = nu.length) (hs : IntsOn P w sa sc sh) (hn : IntsOn P w na nc nu) :
    ArrOn P w (.agg #[.int .i64 k, .slice sa sl sc, .slice na nl nc, .slice none 0 0]) (.mk k sh nu []) := by
  subst hsl; subst hnl
  rw [ArrOn]
  exact ⟨sa, sc, na, nc, none, 0, rfl, hk, hs, hn, Nat.le_refl _, by decide, 0, 0, fun g => absurd rfl g, by rw [ArrsOn]; trivial⟩
theorem ints16L (P : Nat → Prop) (a : Option Addr) (c : Nat) (xs : List Int) (n : Nat) (hn : n = xs.length) (w : World) (hP : ∀ g, w.heap.size ≤ g → P g) (h : IntsOn P w a c xs) : Calls Try.prog 28 #[.slice a n c] w
    fun e w' => ∃ b : Nat, e = .returned (.agg #[.int .i64 1, .slice (some ⟨b, 0, none⟩) 1 1, .slice a n c, .slice none 0 0]) ∧ ArrOn P w' (.agg #[.int .i64 1, .slice (some ⟨b, 0, none⟩) 1 1, .slice a n c, .slice none 0 0]) (vec16 xs) ∧ Below w.heap.size w w' := by
  subst hn
  obtain ⟨h, hp⟩ := h
  have hl := h.len
  have hPn := hP (w.heap.size + 1) (Nat.le_succ _)
  clear hP
  go_enter Try.func28, Try.ntmps28
  go_wp2
  refine bodyPost_ret (v := .agg #[.int .i64 1, .slice (some ⟨w.heap.size + 1, 0, none⟩) 1 1, .slice a xs.length c, .slice none 0 0]) (by simp [results, Try.results28, go_sem]) rfl ⟨_, rfl, arr_plainOn (by decide) rfl rfl ⟨ints_one _ _ _ _ (by omega) ?_ (by decide) (by decide), fun _ ad e => by cases e; exact hPn⟩ ⟨h.below ?_, hp⟩, ?_⟩
  · rw [World.cell?_alloc_at _ _ _ _ (by simp)]; rfl
  · exact Below.then (below_new _ _) (below_new _ _)
  · exact Below.then (below_new _ _) (below_new _ _)
abbrev exM16 : Arr := .mk 1 [2, 3] [1, 2, 3, 4, 5, 6] []
abbrev exC16 : Arr := .mk 2 [2] [97, 98] []
theorem e16a : applyA 1 (vec16 [10, 20]) exM16 = (.mk 1 [2, 3] [11, 12, 13, 24, 25, 26] [], 0) := by kernel_rfl
theorem e16b : applyA 1 (vec16 [1, 2, 3]) exM16 = (.mk 0 [] [] [], 16) := by kernel_rfl
theorem e16c : applyA 11 exC16 (vec16 [97, 98]) = (vec16 [0, 0], 0) := by kernel_rfl
theorem e16d : applyA 4 (vec16 [1, 2, 3]) (vec16 [1, 0, 0]) = (.mk 0 [] [] [], 20) := by kernel_rfl
theorem e16s : binS 5 (-7) 2 = (1, 0) := by kernel_rfl
end Go.Proofs.Ytekbdiniibmhgaa.Shape
