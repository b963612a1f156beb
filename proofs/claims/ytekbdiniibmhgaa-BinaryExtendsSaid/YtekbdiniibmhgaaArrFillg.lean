/-
  Layer 3: the reference's Fill: arrays that the call itself makes.
-/
import Derived.Test.YtekbdiniibmhgaaArrSameg
namespace Go.Proofs.Ytekbdiniibmhgaa.Shape
open Go.RowKit

/-- A result that is an array holding A. -/
def GiveArr (A : Arr) (w : World) (e : Ending) (w' : World) : Prop := ∃ v, e = .returned v ∧ ArrAt w' v A ∧ Below w.heap.size w w'
def zeroA : Arr := .mk 0 [] [] []
def fillA (k : Int) : Arr := if k = 1 then .mk 1 [] [0] [] else if k = 2 then .mk 2 [] [32] [] else if k = 3 then .mk 3 [] [] [.mk 1 [0] [] []] else zeroA

theorem ints_nil (w : World) : IntsAt w none 0 [] := ⟨Nat.zero_le _, by decide, fun x hx => absurd hx (by simp), 0, 0, fun hn => absurd rfl hn, fun i hi => absurd hi (by simp)⟩
theorem ints_one (w : World) (b cap : Nat) (x : Int) (hb : -9223372036854775808 ≤ x ∧ x ≤ 9223372036854775807) (h : w.cell? ⟨b, 0, none⟩ = some (.int .i64 x)) (hc : 1 ≤ cap) (hc2 : cap ≤ 1000000) : IntsAt w (some ⟨b, 0, none⟩) cap [x] := by
  refine ⟨by simpa using hc, by omega, fun y hy => by rw [List.mem_singleton.1 hy]; exact hb, b, 0, fun _ => rfl, fun i hi => ?_⟩
  obtain rfl : i = 0 := by simp at hi; omega
  exact h
theorem arr_plain {w : World} {k : Int} {sa na : Option Addr} {sc nc sl nl : Nat} {sh nu : List Int} (hk : -9223372036854775808 ≤ k ∧ k ≤ 9223372036854775807) (hsl : sl = sh.length) (hnl : nl = nu.length) (hs : IntsAt w sa sc sh) (hn : IntsAt w na nc nu) :
    ArrAt w (.agg #[.int .i64 k, .slice sa sl sc, .slice na nl nc, .slice none 0 0]) (.mk k sh nu []) := by
  subst hsl; subst hnl
  rw [ArrAt]
  exact ⟨sa, sc, na, nc, none, 0, rfl, hk, hs, hn, Nat.le_refl _, by decide, 0, 0, fun g => absurd rfl g, by rw [ArrsAt]; trivial⟩

theorem GiveArr.mk {A : Arr} {w w' : World} {v : Value} (h : ArrAt w' v A) (hb : Below w.heap.size w w') : GiveArr A w (.returned v) w' := ⟨v, rfl, h, hb⟩
/-- One array as the only item. -/
theorem arr_boxed {w : World} {b ic : Nat} {c0 c1 c2 c3 : Value} {A : Arr} (h : w.cell? ⟨b, 0, none⟩ = some c0 ∧ w.cell? ⟨b, 1, none⟩ = some c1 ∧ w.cell? ⟨b, 2, none⟩ = some c2 ∧ w.cell? ⟨b, 3, none⟩ = some c3) (hA : ArrAt w (.agg #[c0, c1, c2, c3]) A) (hc : 1 ≤ ic) (hc2 : ic ≤ 1000000) :
    ArrAt w (.agg #[.int .i64 3, .slice none 0 0, .slice none 0 0, .slice (some ⟨b, 0, none⟩) 1 ic]) (.mk 3 [] [] [A]) := by
  rw [ArrAt]
  refine ⟨none, 0, none, 0, some ⟨b, 0, none⟩, ic, rfl, by decide, ints_nil w, ints_nil w, by simpa using hc, by omega, b, 0, fun _ => rfl, ?_⟩
  rw [ArrsAt, ArrsAt]
  exact ⟨⟨c0, c1, c2, c3, by simpa using h, hA⟩, trivial⟩

end Go.Proofs.Ytekbdiniibmhgaa.Shape
