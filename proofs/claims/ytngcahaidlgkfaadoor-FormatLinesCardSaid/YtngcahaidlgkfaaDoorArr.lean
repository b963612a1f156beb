/-
  Arrays as plain data, and what it means that a value in memory holds one.
-/
import Derived.Test.YtngcahaidlgkfaaDoorInts
namespace Go.Proofs.YtngcahaidlgkfaaDoor.Shape
open Go.RowKit

inductive Arr where
  | mk (kind : Int) (shape nums : List Int) (items : List Arr)
namespace Arr
def kind : Arr → Int | mk k _ _ _ => k
def shape : Arr → List Int | mk _ s _ _ => s
def nums : Arr → List Int | mk _ _ n _ => n
def items : Arr → List Arr | mk _ _ _ i => i
end Arr

theorem cell_lt {w : World} {b o : Nat} {v : Value} (h : w.cell? ⟨b, o, none⟩ = some v) : b < w.heap.size := by
  rcases Nat.lt_or_ge b w.heap.size with h1 | h1
  · exact h1
  · have e : w.heap[b]? = none := by simp [h1]
    simp [World.cell?, e] at h
theorem IntsAt.below {w w' : World} {a : Option Addr} {cap : Nat} {xs : List Int} (h : IntsAt w a cap xs) (hb : Below w.heap.size w w') : IntsAt w' a cap xs := by
  obtain ⟨h1, h2, h3, b, off, ha, hc⟩ := h
  exact ⟨h1, h2, h3, b, off, ha, fun i hi => (hb.cell (cell_lt (hc i hi))).trans (hc i hi)⟩

mutual
/-- v is an array (four cells: kind, shape, numbers, items) that holds A in the world w. -/
def ArrAt (w : World) (v : Value) : Arr → Prop
  | .mk k sh nu it => ∃ sa sc na nc ia ic, v = .agg #[.int .i64 k, .slice sa (List.length sh) sc, .slice na (List.length nu) nc, .slice ia (List.length it) ic] ∧ (-9223372036854775808 ≤ k ∧ k ≤ 9223372036854775807) ∧
      IntsAt w sa sc sh ∧ IntsAt w na nc nu ∧ it.length ≤ ic ∧ ic ≤ 9223372036854775807 ∧ ∃ b off : Nat, (it ≠ [] → ia = some ⟨b, off, none⟩) ∧ ArrsAt w b off it
/-- The arrays of a list lie one behind the other. -/
def ArrsAt (w : World) (b off : Nat) : List Arr → Prop
  | [] => True
  | A :: r => (∃ c0 c1 c2 c3 : Value, (w.cell? ⟨b, off, none⟩ = some c0 ∧ w.cell? ⟨b, off + 1, none⟩ = some c1 ∧ w.cell? ⟨b, off + 2, none⟩ = some c2 ∧ w.cell? ⟨b, off + 3, none⟩ = some c3) ∧ ArrAt w (.agg #[c0, c1, c2, c3]) A) ∧ ArrsAt w b (off + 4) r
end

mutual
theorem ArrAt.below {w w' : World} (hb : Below w.heap.size w w') : ∀ {v : Value} {A : Arr}, ArrAt w v A → ArrAt w' v A
  | _, .mk k sh nu it, h => by
    rw [ArrAt] at h ⊢
    obtain ⟨sa, sc, na, nc, ia, ic, hv, hk, hs, hn, h1, h2, b, off, ha, hc⟩ := h
    exact ⟨sa, sc, na, nc, ia, ic, hv, hk, hs.below hb, hn.below hb, h1, h2, b, off, ha, ArrsAt.below hb hc⟩
theorem ArrsAt.below {w w' : World} (hb : Below w.heap.size w w') : ∀ {b off : Nat} {l : List Arr}, ArrsAt w b off l → ArrsAt w' b off l
  | _, _, [], _ => by rw [ArrsAt]; trivial
  | b, off, A :: r, h => by
    rw [ArrsAt] at h ⊢
    obtain ⟨⟨c0, c1, c2, c3, ⟨h0, h1, h2, h3⟩, hA⟩, hr⟩ := h
    exact ⟨⟨c0, c1, c2, c3, ⟨(hb.cell (cell_lt h0)).trans h0, (hb.cell (cell_lt h1)).trans h1, (hb.cell (cell_lt h2)).trans h2, (hb.cell (cell_lt h3)).trans h3⟩, ArrAt.below hb hA⟩, ArrsAt.below hb hr⟩
end

theorem ArrsAt.at {w : World} : ∀ {l : List Arr} {b off : Nat}, ArrsAt w b off l → ∀ {k : Nat} (hk : k < l.length), ∃ c0 c1 c2 c3 : Value,
    (w.cell? ⟨b, off + k * 4, none⟩ = some c0 ∧ w.cell? ⟨b, off + k * 4 + 1, none⟩ = some c1 ∧ w.cell? ⟨b, off + k * 4 + 2, none⟩ = some c2 ∧ w.cell? ⟨b, off + k * 4 + 3, none⟩ = some c3) ∧ ArrAt w (.agg #[c0, c1, c2, c3]) l[k]
  | [], _, _, _, k, hk => absurd hk (by simp)
  | A :: r, b, off, h, k, hk => by
    rw [ArrsAt] at h
    cases k with
    | zero => simpa using h.1
    | succ k =>
      have := ArrsAt.at h.2 (k := k) (by simpa using hk)
      have e : off + 4 + k * 4 = off + (k + 1) * 4 := by omega
      rw [e] at this
      simpa using this

mutual
/-- How many arrays there are in an array: for inductions. -/
def rk : Arr → Nat
  | .mk _ _ _ it => rkL it + 1
def rkL : List Arr → Nat
  | [] => 0
  | A :: r => rk A + rkL r
end
theorem rkL_at : ∀ {l : List Arr} {k : Nat} (h : k < l.length), rk l[k] ≤ rkL l
  | [], _, h => absurd h (by simp)
  | A :: r, 0, _ => by simp only [List.getElem_cons_zero, rkL]; omega
  | A :: r, k + 1, h => by
    have := rkL_at (l := r) (k := k) (by simpa using h)
    simp only [List.getElem_cons_succ, rkL]; omega
theorem rk_item {k : Int} {sh nu : List Int} {it : List Arr} {j : Nat} (h : j < it.length) : rk it[j] < rk (.mk k sh nu it) := by
  have := rkL_at h
  rw [rk]; omega
end Go.Proofs.YtngcahaidlgkfaaDoor.Shape
