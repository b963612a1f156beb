/-
  Layer 10: an argument that is a node or a program, as the row's reading gives it, holds one; and how much there is in it.
  Layer 10: an argument that is a node, a list of statements or a program, as the row's reading gives it. (Written by wip/gen/syn-open2.py.)
  Layer 10: a datum's bulk is at most that of all.
-/
import Derived.Test.YtghmbmjikkdbnaaGreatDoorDd4
import Derived.Test.YtghmbmjikkdbnaaGreatDoorDd5
import Derived.Test.YtghmbmjikkdbnaaGreatDoorDd15
namespace Go.Proofs.YtghmbmjikkdbnaaGreatDoor.Syn
open Go.ChangeShapes Go.WideShapes Go.ChangeAt Go.RowKit Go.Joins Go.Proofs.YtghmbmjikkdbnaaGreatDoor.Shape
set_option maxRecDepth 100000
mutual
/-- How much there is in an array: numbers, and arrays within it. -/
def bkA : Arr → Nat
  | .mk _ sh nu it => sh.length + nu.length + bkI it + 1
def bkI : List Arr → Nat
  | [] => 0
  | A :: r => bkA A + bkI r
end
mutual
/-- How much there is in a node: letters, numbers, nodes. -/
def bkN : Nd → Nat
  | .mk _ _ _ t _ _ v ks bd _ _ _ => t.size + bkA v + bkK ks + bkB bd + 1
def bkK : List Nd → Nat
  | [] => 0
  | N :: r => bkN N + bkK r
def bkS : St → Nat
  | .mk _ _ n _ te nd => n.size + bkN te + bkN nd + 1
def bkB : List St → Nat
  | [] => 0
  | S :: r => bkS S + bkB r
end
theorem bulk_lits {H : Type} (k : IntKind) (zs : List Int) : Rows.uptoBulkAll (H := H) (lits k zs) = zs.length := by
  induction zs with
  | nil => rfl
  | cons z r ih =>
    have e : lits (H := H) k (z :: r) = .lit (.int k z) :: lits k r := rfl
    rw [e, Rows.uptoBulkAll, ih, List.length_cons, Rows.uptoBulk]
    · omega
    · intro b h; cases h
theorem ints_bulk {H : Type} {enc : TypeId × Value → H} {W : World} {fuel : Nat} {cs : List Value} {x : DataW H × List MemPlace}
    (hf : DataW.trod enc Tryz.prog W 0 (fun _ => true) true fuel 27 cs = some x) : ∃ a l c, cs = [.slice a l c] ∧ l ≤ Rows.uptoBulk x.1 := by
  rcases open_ints Tryz.underlying27 Tryz.underlying3 (by kernel_rfl) hf with ⟨hcs, hx⟩ | ⟨a, l, c, zs, hcs, _, hl, hm, hz, hx, hcell, hwz⟩
  · exact ⟨none, 0, 0, hcs, Nat.zero_le _⟩
  · refine ⟨some a, l, c, hcs, ?_⟩
    have hz' : zs.length = c := by simpa using hz
    rw [hx]
    show l ≤ Rows.uptoBulk (.slice (lits .i64 (zs.take l)) (lits .i64 (zs.drop l)))
    rw [Rows.uptoBulk, bulk_lits, List.length_take]
    omega
theorem arr_bulk {H : Type} {enc : TypeId × Value → H} {W : World} (fuel : Nat) : ∀ {cs : List Value} {x : DataW H × List MemPlace},
    DataW.trod enc Tryz.prog W 0 (fun _ => true) true fuel 30 cs = some x → ∃ A c0 c1 c2 c3, cs = [c0, c1, c2, c3] ∧ ArrAt W (.agg #[c0, c1, c2, c3]) A ∧ bkA A ≤ Rows.uptoBulk x.1 := by
  induction fuel using Nat.strongRecOn with
  | ind fuel ih =>
    intro cs x h
    obtain ⟨xs, n, hfu, hx, hl, hlen, hf⟩ := DataW.trod_struct Tryz.underlying30 h
    have hlen4 : xs.length = 4 := hlen
    obtain ⟨y0, y1, y2, y3, rfl⟩ : ∃ y0 y1 y2 y3, xs = [y0, y1, y2, y3] := by
      match xs, hlen4 with
      | [y0, y1, y2, y3], _ => exact ⟨y0, y1, y2, y3, rfl⟩
    rw [cellsArr] at hl
    obtain ⟨c0, c1, c2, c3, rfl⟩ : ∃ c0 c1 c2 c3, cs = [c0, c1, c2, c3] := by
      match cs, hl with
      | [c0, c1, c2, c3], _ => exact ⟨c0, c1, c2, c3, rfl⟩
    have f0' : DataW.trod enc Tryz.prog W 0 (fun _ => true) true n 26 (([c0, c1, c2, c3].drop 0).take (Tryz.prog.cellsOf 26)) = some y0 := hf 0 _ rfl
    have f1' : DataW.trod enc Tryz.prog W 0 (fun _ => true) true n 27 (([c0, c1, c2, c3].drop 1).take (Tryz.prog.cellsOf 27)) = some y1 := hf 1 _ rfl
    have f2' : DataW.trod enc Tryz.prog W 0 (fun _ => true) true n 27 (([c0, c1, c2, c3].drop 2).take (Tryz.prog.cellsOf 27)) = some y2 := hf 2 _ rfl
    have f3' : DataW.trod enc Tryz.prog W 0 (fun _ => true) true n 28 (([c0, c1, c2, c3].drop 3).take (Tryz.prog.cellsOf 28)) = some y3 := hf 3 _ rfl
    rw [cellsKind] at f0'
    rw [cellsInts] at f1' f2'
    rw [cellsArrs] at f3'
    have g0 : DataW.trod enc Tryz.prog W 0 (fun _ => true) true n 26 [c0] = some y0 := f0'
    have g1 : DataW.trod enc Tryz.prog W 0 (fun _ => true) true n 27 [c1] = some y1 := f1'
    have g2 : DataW.trod enc Tryz.prog W 0 (fun _ => true) true n 27 [c2] = some y2 := f2'
    have g3 : DataW.trod enc Tryz.prog W 0 (fun _ => true) true n 28 [c3] = some y3 := f3'
    obtain ⟨k, e0, _, wk⟩ := DataW.trod_int Tryz.underlying26 g0
    obtain ⟨sa, sc, sh, e1, hs, zs⟩ := ints_cell g1
    obtain ⟨na, nc, nu, e2, hn, zn⟩ := ints_cell g2
    obtain ⟨a1, l1, d1, q1, w1⟩ := ints_bulk g1
    obtain ⟨a2, l2, d2, q2, w2⟩ := ints_bulk g2
    simp only [List.cons.injEq, and_true] at e0 e1 e2 q1 q2
    subst e0; subst e1; subst e2
    simp only [Value.slice.injEq] at q1 q2
    obtain ⟨-, rfl, -⟩ := q1
    obtain ⟨-, rfl, -⟩ := q2
    have hxb : Rows.uptoBulk x.1 = Rows.uptoBulk y0.1 + Rows.uptoBulk y1.1 + Rows.uptoBulk y2.1 + Rows.uptoBulk y3.1 + 1 := by
      rw [hx]
      show Rows.uptoBulk (.agg [y0.1, y1.1, y2.1, y3.1]) = _
      rw [Rows.uptoBulk]; simp only [Rows.uptoBulkAll]; omega
    have done : ∀ (ia : Option Addr) (ic : Nat) (l : List Arr), c3 = .slice ia l.length ic → l.length ≤ ic → ic ≤ 9223372036854775807 → (∃ b off : Nat, (l ≠ [] → ia = some ⟨b, off, none⟩) ∧ ArrsAt W b off l) → bkI l ≤ Rows.uptoBulk y3.1 →
        ∃ A d0 d1 d2 d3, [Value.int .i64 k, .slice sa sh.length sc, .slice na nu.length nc, c3] = [d0, d1, d2, d3] ∧ ArrAt W (.agg #[d0, d1, d2, d3]) A ∧ bkA A ≤ Rows.uptoBulk x.1 := by
      intro ia ic l e h1 h2 h3 zl
      refine ⟨.mk k sh nu l, _, _, _, _, rfl, ?_, by rw [bkA, hxb]; omega⟩
      rw [ArrAt]
      obtain ⟨b, off, h3, h4⟩ := h3
      exact ⟨sa, sc, na, nc, ia, ic, by rw [e], i64_bd wk, hs, hn, h1, h2, b, off, h3, h4⟩
    rcases DataW.trod_slice Tryz.underlying28 g3 with ⟨hcs, _⟩ | ⟨a, len, cap, elems, rest, m, hfm, hcs, hy3, _, hlc, hcm, hel, hE, -⟩
    · simp only [List.cons.injEq, and_true] at hcs
      exact done none 0 [] hcs (Nat.le_refl _) (by decide) ⟨0, 0, fun g => absurd rfl g, by rw [ArrsAt]; trivial⟩ (by rw [bkI]; omega)
    · simp only [List.cons.injEq, and_true] at hcs
      have hyb : Rows.uptoBulkAll (elems.map (·.1)) ≤ Rows.uptoBulk y3.1 := by
        rw [hy3]
        show _ ≤ Rows.uptoBulk (.slice (elems.map (·.1)) (rest.map (·.1)))
        rw [Rows.uptoBulk]; omega
      obtain ⟨b, off, spot⟩ := a
      have each : ∀ i, i < len → ∃ A d0 d1 d2 d3, (W.cell? ((⟨b, off, spot⟩ : Addr).add (i * 4) |>.add 0) = some d0 ∧ W.cell? ((⟨b, off, spot⟩ : Addr).add (i * 4) |>.add 1) = some d1 ∧ W.cell? ((⟨b, off, spot⟩ : Addr).add (i * 4) |>.add 2) = some d2 ∧ W.cell? ((⟨b, off, spot⟩ : Addr).add (i * 4) |>.add 3) = some d3) ∧ ArrAt W (.agg #[d0, d1, d2, d3]) A ∧ ∀ h : i < elems.length, bkA A ≤ Rows.uptoBulk elems[i].1 := by
        intro i hi
        have e := hE i hi
        rw [List.getElem?_eq_getElem (by omega), cellsArr] at e
        obtain ⟨cs', hc', ht'⟩ := Option.bind_eq_some_iff.1 e
        obtain ⟨A, d0, d1, d2, d3, hd, hA, hR⟩ := ih m (by omega) ht'
        subst hd
        obtain ⟨_, _, hcell⟩ := World.cells?_some hc'
        exact ⟨A, d0, d1, d2, d3, ⟨hcell 0 (by omega), hcell 1 (by omega), hcell 2 (by omega), hcell 3 (by omega)⟩, hA, fun _ => hR⟩
      by_cases h0 : len = 0
      · subst h0
        exact done (some ⟨b, off, spot⟩) cap [] hcs (Nat.zero_le _) (by unfold maxLen at hcm; omega) ⟨0, 0, fun g => absurd rfl g, by rw [ArrsAt]; trivial⟩ (by rw [bkI]; omega)
      · obtain ⟨_, d0, _, _, _, ⟨hc0, -⟩, -⟩ := each 0 (by omega)
        have hspot : spot = none := by simpa [Addr.add] using World.cell?_spot hc0
        subst hspot
        have build : ∀ (es : List (DataW H × List MemPlace)) (off : Nat), (∀ i (h : i < es.length), ∃ A d0 d1 d2 d3, (W.cell? ⟨b, off + i * 4, none⟩ = some d0 ∧ W.cell? ⟨b, off + i * 4 + 1, none⟩ = some d1 ∧ W.cell? ⟨b, off + i * 4 + 2, none⟩ = some d2 ∧ W.cell? ⟨b, off + i * 4 + 3, none⟩ = some d3) ∧ ArrAt W (.agg #[d0, d1, d2, d3]) A ∧ bkA A ≤ Rows.uptoBulk es[i].1) →
            ∃ l : List Arr, l.length = es.length ∧ ArrsAt W b off l ∧ bkI l ≤ Rows.uptoBulkAll (es.map (·.1)) := by
          intro es
          induction es with
          | nil => intro off _; exact ⟨[], rfl, by rw [ArrsAt]; trivial, by rw [bkI]; omega⟩
          | cons y es ihe =>
            intro off g
            obtain ⟨A, d0, d1, d2, d3, hc, hA, hb⟩ := g 0 (by simp)
            obtain ⟨l, hl, hr, hR⟩ := ihe (off + 4) (fun i hi => by
              have := g (i + 1) (by simp; omega)
              rwa [show off + (i + 1) * 4 = off + 4 + i * 4 by omega] at this)
            refine ⟨A :: l, by simp [hl], ?_, ?_⟩
            · rw [ArrsAt]; exact ⟨⟨d0, d1, d2, d3, by simpa using hc, hA⟩, hr⟩
            · rw [bkI, List.map_cons, Rows.uptoBulkAll]
              simp only [List.getElem_cons_zero] at hb
              omega
        obtain ⟨l, hl2, hat, hRL⟩ := build elems off (fun i hi => by
          obtain ⟨A, d0, d1, d2, d3, ⟨m0, m1, m2, m3⟩, hA, hR⟩ := each i (by omega)
          rw [Shape.add_plain, Shape.add_plain] at m0 m1 m2 m3
          exact ⟨A, d0, d1, d2, d3, ⟨m0, m1, m2, m3⟩, hA, hR hi⟩)
        rw [hel] at hl2
        subst hl2
        exact done (some ⟨b, off, none⟩) cap l hcs hlc (by unfold maxLen at hcm; omega) ⟨b, off, fun _ => rfl, hat⟩ (Nat.le_trans hRL hyb)
theorem cellsNd : Tryz.prog.cellsOf 34 = 15 := by kernel_rfl
theorem cellsSt : Tryz.prog.cellsOf 59 = 34 := by kernel_rfl
theorem cells_of_get {W : World} {b off : Nat} {cs : List Value} (h : ∀ i (hi : i < cs.length), W.cell? (((⟨b, off, none⟩ : Addr)).add i) = some cs[i]) : Cells W b off cs := fun i hi => by
  have := h i hi
  rwa [Shape.add_plain] at this
theorem nds_build {H : Type} {W : World} {b : Nat} : ∀ (es : List (DataW H × List MemPlace)) (off : Nat), (∀ i (h : i < es.length), ∃ N, NdM W b (off + i * 15) N ∧ W.frozen? ⟨b, off + i * 15, none⟩ = false ∧ bkN N ≤ Rows.uptoBulk es[i].1) →
    ∃ l : List Nd, l.length = es.length ∧ NdsAt W b off l ∧ bkK l ≤ Rows.uptoBulkAll (es.map (·.1))
  | [], off, _ => ⟨[], rfl, by rw [NdsAt]; trivial, by rw [bkK]; omega⟩
  | y :: es, off, g => by
    obtain ⟨N, hc, hz, hb⟩ := g 0 (by simp)
    obtain ⟨l, hl, hr, hR⟩ := nds_build es (off + 15) (fun i hi => by
      have := g (i + 1) (by simp; omega)
      rwa [show off + (i + 1) * 15 = off + 15 + i * 15 by omega] at this)
    refine ⟨N :: l, by simp [hl], ?_, ?_⟩
    · have hc0 : NdM W b off N := by simpa using hc
      rw [NdsAt]; exact ⟨hc0, by simpa using hz, hr⟩
    · rw [bkK, List.map_cons, Rows.uptoBulkAll]
      simp only [List.getElem_cons_zero] at hb
      omega
theorem sts_build {H : Type} {W : World} {b : Nat} : ∀ (es : List (DataW H × List MemPlace)) (off : Nat), (∀ i (h : i < es.length), ∃ S, StM W b (off + i * 34) S ∧ (W.frozen? ⟨b, off + i * 34 + 4, none⟩ = false ∧ W.frozen? ⟨b, off + i * 34 + 19, none⟩ = false) ∧ bkS S ≤ Rows.uptoBulk es[i].1) →
    ∃ l : List St, l.length = es.length ∧ StsAt W b off l ∧ bkB l ≤ Rows.uptoBulkAll (es.map (·.1))
  | [], off, _ => ⟨[], rfl, by rw [StsAt]; trivial, by rw [bkB]; omega⟩
  | y :: es, off, g => by
    obtain ⟨N, hc, hz, hb⟩ := g 0 (by simp)
    obtain ⟨l, hl, hr, hR⟩ := sts_build es (off + 34) (fun i hi => by
      have := g (i + 1) (by simp; omega)
      rwa [show off + (i + 1) * 34 = off + 34 + i * 34 by omega] at this)
    refine ⟨N :: l, by simp [hl], ?_, ?_⟩
    · have hc0 : StM W b off N := by simpa using hc
      rw [StsAt]; exact ⟨hc0, by simpa using hz, hr⟩
    · rw [bkB, List.map_cons, Rows.uptoBulkAll]
      simp only [List.getElem_cons_zero] at hb
      omega
end Go.Proofs.YtghmbmjikkdbnaaGreatDoor.Syn

namespace Go.Proofs.YtghmbmjikkdbnaaGreatDoor.Syn
open Go.ChangeShapes Go.WideShapes Go.ChangeAt Go.RowKit Go.Joins Go.Proofs.YtghmbmjikkdbnaaGreatDoor.Shape
set_option maxRecDepth 100000
theorem kids_open {H : Type} {enc : TypeId × Value → H} {W : World} {fuel : Nat} {c : Value} {y : DataW H × List MemPlace}
    (ih : ∀ m, m < fuel → ∀ {cs : List Value} {x : DataW H × List MemPlace}, DataW.trod enc Tryz.prog W 0 (fun _ => true) true m 34 cs = some x → W.noneFrozen x.2 → ∃ N, NdV W cs N ∧ bkN N ≤ Rows.uptoBulk x.1)
    (g : DataW.trod enc Tryz.prog W 0 (fun _ => true) true fuel 31 [c] = some y) (hz : W.noneFrozen y.2) :
    ∃ (ka : Option Addr) (kc : Nat) (l : List Nd) (b off : Nat), c = .slice ka l.length kc ∧ l.length ≤ kc ∧ kc ≤ 9223372036854775807 ∧ (l ≠ [] → ka = some ⟨b, off, none⟩) ∧ NdsAt W b off l ∧ bkK l ≤ Rows.uptoBulk y.1 := by
  rcases DataW.trod_slice Tryz.underlying31 g with ⟨hcs, _⟩ | ⟨a, len, cap, elems, rest, m, hfm, hcs, hy3, _, hlc, hcm, hel, hE, -⟩
  · simp only [List.cons.injEq, and_true] at hcs
    exact ⟨none, 0, [], 0, 0, hcs, Nat.le_refl _, by decide, fun g => absurd rfl g, by rw [NdsAt]; trivial, by rw [bkK]; omega⟩
  · simp only [List.cons.injEq, and_true] at hcs
    have hyb : Rows.uptoBulkAll (elems.map (·.1)) ≤ Rows.uptoBulk y.1 := by
      rw [hy3]
      show _ ≤ Rows.uptoBulk (.slice (elems.map (·.1)) (rest.map (·.1)))
      rw [Rows.uptoBulk]; omega
    obtain ⟨b, off, spot⟩ := a
    rw [hy3] at hz
    have hzr : ∀ i j, i < len → j < 15 → W.frozen? ⟨b, off + i * 15 + j, none⟩ = false := fun i j hi hj => hz b _ (List.mem_append_left _ (by
      unfold MemPlace.row
      rw [List.mem_map]
      refine ⟨i * 15 + j, List.mem_range.2 ?_, by rw [Nat.add_assoc]⟩
      rw [cellsNd, hel]
      have : i * 15 + 15 ≤ len * 15 := by have := Nat.mul_le_mul_right 15 (show i + 1 ≤ len by omega); omega
      have h3 : (len + rest.length) * 15 = len * 15 + rest.length * 15 := Nat.add_mul _ _ _
      omega))
    have hze : ∀ i (h : i < elems.length), W.noneFrozen elems[i].2 := fun i h b' o' hm => hz b' o' (List.mem_append_right _ (List.mem_flatMap.2 ⟨elems[i], List.mem_append_left _ (List.getElem_mem h), hm⟩))
    have each : ∀ i, i < len → ∃ N cs, (∀ j (hj : j < cs.length), W.cell? (((⟨b, off, spot⟩ : Addr).add (i * 15)).add j) = some cs[j]) ∧ NdV W cs N ∧ ∀ h : i < elems.length, bkN N ≤ Rows.uptoBulk elems[i].1 := by
      intro i hi
      have e := hE i hi
      rw [List.getElem?_eq_getElem (by omega), cellsNd] at e
      obtain ⟨cs', hc', ht'⟩ := Option.bind_eq_some_iff.1 e
      obtain ⟨N, hN, hB⟩ := ih m (by omega) ht' (hze i (by omega))
      obtain ⟨hlen, _, hcell⟩ := World.cells?_some hc'
      refine ⟨N, cs', fun j hj => ?_, hN, fun _ => hB⟩
      rw [hcell j (by omega)]
      simp [hj]
    by_cases h0 : len = 0
    · subst h0
      exact ⟨some ⟨b, off, spot⟩, cap, [], 0, 0, hcs, Nat.zero_le _, by unfold maxLen at hcm; omega, fun g => absurd rfl g, by rw [NdsAt]; trivial, by rw [bkK]; omega⟩
    · obtain ⟨N0, cs0, hc0, hN0, -⟩ := each 0 (by omega)
      have hspot : spot = none := by
        have := hc0 0 (by rw [hN0.len]; decide)
        simpa [Addr.add] using World.cell?_spot this
      subst hspot
      obtain ⟨l, hl2, hat, hRL⟩ := nds_build elems off (fun i hi => by
        obtain ⟨N, cs, hc, hN, hR⟩ := each i (by omega)
        rw [Shape.add_plain] at hc
        exact ⟨N, ⟨cs, cells_of_get hc, hN⟩, by simpa using hzr i 0 (by omega) (by decide), hR hi⟩)
      rw [hel] at hl2
      subst hl2
      exact ⟨some ⟨b, off, none⟩, cap, l, b, off, hcs, hlc, by unfold maxLen at hcm; omega, fun _ => rfl, hat, Nat.le_trans hRL hyb⟩
theorem body_open {H : Type} {enc : TypeId × Value → H} {W : World} {fuel : Nat} {c : Value} {y : DataW H × List MemPlace}
    (ih : ∀ m, m < fuel → ∀ {cs : List Value} {x : DataW H × List MemPlace}, DataW.trod enc Tryz.prog W 0 (fun _ => true) true m 59 cs = some x → W.noneFrozen x.2 → ∃ N, StV W cs N ∧ bkS N ≤ Rows.uptoBulk x.1)
    (g : DataW.trod enc Tryz.prog W 0 (fun _ => true) true fuel 32 [c] = some y) (hz : W.noneFrozen y.2) :
    ∃ (ka : Option Addr) (kc : Nat) (l : List St) (b off : Nat), c = .slice ka l.length kc ∧ l.length ≤ kc ∧ kc ≤ 9223372036854775807 ∧ (l ≠ [] → ka = some ⟨b, off, none⟩) ∧ StsAt W b off l ∧ bkB l ≤ Rows.uptoBulk y.1 := by
  rcases DataW.trod_slice Tryz.underlying32 g with ⟨hcs, _⟩ | ⟨a, len, cap, elems, rest, m, hfm, hcs, hy3, _, hlc, hcm, hel, hE, -⟩
  · simp only [List.cons.injEq, and_true] at hcs
    exact ⟨none, 0, [], 0, 0, hcs, Nat.le_refl _, by decide, fun g => absurd rfl g, by rw [StsAt]; trivial, by rw [bkB]; omega⟩
  · simp only [List.cons.injEq, and_true] at hcs
    have hyb : Rows.uptoBulkAll (elems.map (·.1)) ≤ Rows.uptoBulk y.1 := by
      rw [hy3]
      show _ ≤ Rows.uptoBulk (.slice (elems.map (·.1)) (rest.map (·.1)))
      rw [Rows.uptoBulk]; omega
    obtain ⟨b, off, spot⟩ := a
    rw [hy3] at hz
    have hzr : ∀ i j, i < len → j < 34 → W.frozen? ⟨b, off + i * 34 + j, none⟩ = false := fun i j hi hj => hz b _ (List.mem_append_left _ (by
      unfold MemPlace.row
      rw [List.mem_map]
      refine ⟨i * 34 + j, List.mem_range.2 ?_, by rw [Nat.add_assoc]⟩
      rw [cellsSt, hel]
      have : i * 34 + 34 ≤ len * 34 := by have := Nat.mul_le_mul_right 34 (show i + 1 ≤ len by omega); omega
      have h3 : (len + rest.length) * 34 = len * 34 + rest.length * 34 := Nat.add_mul _ _ _
      omega))
    have hze : ∀ i (h : i < elems.length), W.noneFrozen elems[i].2 := fun i h b' o' hm => hz b' o' (List.mem_append_right _ (List.mem_flatMap.2 ⟨elems[i], List.mem_append_left _ (List.getElem_mem h), hm⟩))
    have each : ∀ i, i < len → ∃ N cs, (∀ j (hj : j < cs.length), W.cell? (((⟨b, off, spot⟩ : Addr).add (i * 34)).add j) = some cs[j]) ∧ StV W cs N ∧ ∀ h : i < elems.length, bkS N ≤ Rows.uptoBulk elems[i].1 := by
      intro i hi
      have e := hE i hi
      rw [List.getElem?_eq_getElem (by omega), cellsSt] at e
      obtain ⟨cs', hc', ht'⟩ := Option.bind_eq_some_iff.1 e
      obtain ⟨N, hN, hB⟩ := ih m (by omega) ht' (hze i (by omega))
      obtain ⟨hlen, _, hcell⟩ := World.cells?_some hc'
      refine ⟨N, cs', fun j hj => ?_, hN, fun _ => hB⟩
      rw [hcell j (by omega)]
      simp [hj]
    by_cases h0 : len = 0
    · subst h0
      exact ⟨some ⟨b, off, spot⟩, cap, [], 0, 0, hcs, Nat.zero_le _, by unfold maxLen at hcm; omega, fun g => absurd rfl g, by rw [StsAt]; trivial, by rw [bkB]; omega⟩
    · obtain ⟨N0, cs0, hc0, hN0, -⟩ := each 0 (by omega)
      have hspot : spot = none := by
        have := hc0 0 (by rw [hN0.len]; decide)
        simpa [Addr.add] using World.cell?_spot this
      subst hspot
      obtain ⟨l, hl2, hat, hRL⟩ := sts_build elems off (fun i hi => by
        obtain ⟨N, cs, hc, hN, hR⟩ := each i (by omega)
        rw [Shape.add_plain] at hc
        exact ⟨N, ⟨cs, cells_of_get hc, hN⟩, ⟨hzr i 4 (by omega) (by decide), hzr i 19 (by omega) (by decide)⟩, hR hi⟩)
      rw [hel] at hl2
      subst hl2
      exact ⟨some ⟨b, off, none⟩, cap, l, b, off, hcs, hlc, by unfold maxLen at hcm; omega, fun _ => rfl, hat, Nat.le_trans hRL hyb⟩
theorem list12 {α : Type} {xs : List α} (h : xs.length = 12) : ∃ y0 y1 y2 y3 y4 y5 y6 y7 y8 y9 y10 y11, xs = [y0, y1, y2, y3, y4, y5, y6, y7, y8, y9, y10, y11] := by
  match xs, h with
  | [y0, y1, y2, y3, y4, y5, y6, y7, y8, y9, y10, y11], _ => exact ⟨y0, y1, y2, y3, y4, y5, y6, y7, y8, y9, y10, y11, rfl⟩
theorem nd_of {H : Type} {enc : TypeId × Value → H} {W : World} {fuel : Nat} {cs : List Value} {x : DataW H × List MemPlace}
    (ihN : ∀ m, m < fuel → ∀ {cs : List Value} {x : DataW H × List MemPlace}, DataW.trod enc Tryz.prog W 0 (fun _ => true) true m 34 cs = some x → W.noneFrozen x.2 → ∃ N, NdV W cs N ∧ bkN N ≤ Rows.uptoBulk x.1)
    (ihS : ∀ m, m < fuel → ∀ {cs : List Value} {x : DataW H × List MemPlace}, DataW.trod enc Tryz.prog W 0 (fun _ => true) true m 59 cs = some x → W.noneFrozen x.2 → ∃ S, StV W cs S ∧ bkS S ≤ Rows.uptoBulk x.1)
    (h : DataW.trod enc Tryz.prog W 0 (fun _ => true) true fuel 34 cs = some x) (hz : W.noneFrozen x.2) : ∃ N, NdV W cs N ∧ bkN N ≤ Rows.uptoBulk x.1 := by
  obtain ⟨xs, n, hfu, hx, hl, hlen, hf⟩ := DataW.trod_struct Tryz.underlying34 h
  have hlen' : xs.length = 12 := hlen
  obtain ⟨y0, y1, y2, y3, y4, y5, y6, y7, y8, y9, y10, y11, rfl⟩ := list12 hlen'
  rw [cellsNd] at hl
  obtain ⟨c0, c1, c2, c3, c4, c5, c6, c7, c8, c9, c10, c11, c12, c13, c14, rfl⟩ := list15 hl
  have f0' : DataW.trod enc Tryz.prog W 0 (fun _ => true) true n 22 (([c0, c1, c2, c3, c4, c5, c6, c7, c8, c9, c10, c11, c12, c13, c14].drop 0).take (Tryz.prog.cellsOf 22)) = some y0 := hf 0 _ rfl
  have g0 : DataW.trod enc Tryz.prog W 0 (fun _ => true) true n 22 [c0] = some y0 := by
    rw [show Tryz.prog.cellsOf 22 = 1 by kernel_rfl] at f0'
    exact f0'
  have f1' : DataW.trod enc Tryz.prog W 0 (fun _ => true) true n 3 (([c0, c1, c2, c3, c4, c5, c6, c7, c8, c9, c10, c11, c12, c13, c14].drop 1).take (Tryz.prog.cellsOf 3)) = some y1 := hf 1 _ rfl
  have g1 : DataW.trod enc Tryz.prog W 0 (fun _ => true) true n 3 [c1] = some y1 := by
    rw [show Tryz.prog.cellsOf 3 = 1 by kernel_rfl] at f1'
    exact f1'
  have f2' : DataW.trod enc Tryz.prog W 0 (fun _ => true) true n 23 (([c0, c1, c2, c3, c4, c5, c6, c7, c8, c9, c10, c11, c12, c13, c14].drop 2).take (Tryz.prog.cellsOf 23)) = some y2 := hf 2 _ rfl
  have g2 : DataW.trod enc Tryz.prog W 0 (fun _ => true) true n 23 [c2] = some y2 := by
    rw [show Tryz.prog.cellsOf 23 = 1 by kernel_rfl] at f2'
    exact f2'
  have f3' : DataW.trod enc Tryz.prog W 0 (fun _ => true) true n 9 (([c0, c1, c2, c3, c4, c5, c6, c7, c8, c9, c10, c11, c12, c13, c14].drop 3).take (Tryz.prog.cellsOf 9)) = some y3 := hf 3 _ rfl
  have g3 : DataW.trod enc Tryz.prog W 0 (fun _ => true) true n 9 [c3] = some y3 := by
    rw [show Tryz.prog.cellsOf 9 = 1 by kernel_rfl] at f3'
    exact f3'
  have f4' : DataW.trod enc Tryz.prog W 0 (fun _ => true) true n 24 (([c0, c1, c2, c3, c4, c5, c6, c7, c8, c9, c10, c11, c12, c13, c14].drop 4).take (Tryz.prog.cellsOf 24)) = some y4 := hf 4 _ rfl
  have g4 : DataW.trod enc Tryz.prog W 0 (fun _ => true) true n 24 [c4] = some y4 := by
    rw [show Tryz.prog.cellsOf 24 = 1 by kernel_rfl] at f4'
    exact f4'
  have f5' : DataW.trod enc Tryz.prog W 0 (fun _ => true) true n 25 (([c0, c1, c2, c3, c4, c5, c6, c7, c8, c9, c10, c11, c12, c13, c14].drop 5).take (Tryz.prog.cellsOf 25)) = some y5 := hf 5 _ rfl
  have g5 : DataW.trod enc Tryz.prog W 0 (fun _ => true) true n 25 [c5] = some y5 := by
    rw [show Tryz.prog.cellsOf 25 = 1 by kernel_rfl] at f5'
    exact f5'
  have f6' : DataW.trod enc Tryz.prog W 0 (fun _ => true) true n 30 (([c0, c1, c2, c3, c4, c5, c6, c7, c8, c9, c10, c11, c12, c13, c14].drop 6).take (Tryz.prog.cellsOf 30)) = some y6 := hf 6 _ rfl
  have g6 : DataW.trod enc Tryz.prog W 0 (fun _ => true) true n 30 [c6, c7, c8, c9] = some y6 := by
    rw [show Tryz.prog.cellsOf 30 = 4 by kernel_rfl] at f6'
    exact f6'
  have f7' : DataW.trod enc Tryz.prog W 0 (fun _ => true) true n 31 (([c0, c1, c2, c3, c4, c5, c6, c7, c8, c9, c10, c11, c12, c13, c14].drop 10).take (Tryz.prog.cellsOf 31)) = some y7 := hf 7 _ rfl
  have g7 : DataW.trod enc Tryz.prog W 0 (fun _ => true) true n 31 [c10] = some y7 := by
    rw [show Tryz.prog.cellsOf 31 = 1 by kernel_rfl] at f7'
    exact f7'
  have f8' : DataW.trod enc Tryz.prog W 0 (fun _ => true) true n 32 (([c0, c1, c2, c3, c4, c5, c6, c7, c8, c9, c10, c11, c12, c13, c14].drop 11).take (Tryz.prog.cellsOf 32)) = some y8 := hf 8 _ rfl
  have g8 : DataW.trod enc Tryz.prog W 0 (fun _ => true) true n 32 [c11] = some y8 := by
    rw [show Tryz.prog.cellsOf 32 = 1 by kernel_rfl] at f8'
    exact f8'
  have f9' : DataW.trod enc Tryz.prog W 0 (fun _ => true) true n 3 (([c0, c1, c2, c3, c4, c5, c6, c7, c8, c9, c10, c11, c12, c13, c14].drop 12).take (Tryz.prog.cellsOf 3)) = some y9 := hf 9 _ rfl
  have g9 : DataW.trod enc Tryz.prog W 0 (fun _ => true) true n 3 [c12] = some y9 := by
    rw [show Tryz.prog.cellsOf 3 = 1 by kernel_rfl] at f9'
    exact f9'
  have f10' : DataW.trod enc Tryz.prog W 0 (fun _ => true) true n 3 (([c0, c1, c2, c3, c4, c5, c6, c7, c8, c9, c10, c11, c12, c13, c14].drop 13).take (Tryz.prog.cellsOf 3)) = some y10 := hf 10 _ rfl
  have g10 : DataW.trod enc Tryz.prog W 0 (fun _ => true) true n 3 [c13] = some y10 := by
    rw [show Tryz.prog.cellsOf 3 = 1 by kernel_rfl] at f10'
    exact f10'
  have f11' : DataW.trod enc Tryz.prog W 0 (fun _ => true) true n 3 (([c0, c1, c2, c3, c4, c5, c6, c7, c8, c9, c10, c11, c12, c13, c14].drop 14).take (Tryz.prog.cellsOf 3)) = some y11 := hf 11 _ rfl
  have g11 : DataW.trod enc Tryz.prog W 0 (fun _ => true) true n 3 [c14] = some y11 := by
    rw [show Tryz.prog.cellsOf 3 = 1 by kernel_rfl] at f11'
    exact f11'
  obtain ⟨k, e0, -, w0⟩ := DataW.trod_int Tryz.underlying22 g0
  obtain ⟨a, e1, -, w1⟩ := DataW.trod_int Tryz.underlying3 g1
  obtain ⟨cl, e2, -, w2⟩ := DataW.trod_int Tryz.underlying23 g2
  obtain ⟨p, e4, -, w4⟩ := DataW.trod_int Tryz.underlying24 g4
  obtain ⟨o, e5, -, w5⟩ := DataW.trod_int Tryz.underlying25 g5
  obtain ⟨d, e9, -, w9⟩ := DataW.trod_int Tryz.underlying3 g9
  obtain ⟨s, e10, -, w10⟩ := DataW.trod_int Tryz.underlying3 g10
  obtain ⟨z, e11, -, w11⟩ := DataW.trod_int Tryz.underlying3 g11
  obtain ⟨t, e3, x3, w3⟩ := DataW.trod_string Tryz.underlying9 g3
  obtain ⟨A, d0, d1, d2, d3, e6, hA, w6⟩ := arr_bulk _ g6
  have hzy : ∀ y, y ∈ [y0, y1, y2, y3, y4, y5, y6, y7, y8, y9, y10, y11] → W.noneFrozen y.2 := fun y hy b o hm => hz b o (by rw [hx]; exact List.mem_flatMap.2 ⟨y, hy, hm⟩)
  obtain ⟨ka, kc, ks, kb, ko, e7, k1, k2, k3, k4, w7⟩ := kids_open (fun m hm => ihN m (by omega)) g7 (hzy y7 (by simp))
  obtain ⟨ba, bc, bd, bb, bo, e8, b1, b2, b3, b4, w8⟩ := body_open (fun m hm => ihS m (by omega)) g8 (hzy y8 (by simp))
  simp only [List.cons.injEq, and_true] at e0 e1 e2 e3 e4 e5 e6 e9 e10 e11
  obtain ⟨rfl, rfl, rfl, rfl⟩ := e6
  subst e0 e1 e2 e3 e4 e5 e7 e8 e9 e10 e11
  have hb3 : t.size < Rows.uptoBulk y3.1 := by
    rw [x3]
    show _ < Rows.uptoBulk (.lit (.string t.data.toList))
    rw [Rows.uptoBulk]
    simp
  have hxb : Rows.uptoBulk y3.1 + Rows.uptoBulk y6.1 + Rows.uptoBulk y7.1 + Rows.uptoBulk y8.1 + 1 ≤ Rows.uptoBulk x.1 := by
    rw [hx]
    show _ ≤ Rows.uptoBulk (.agg [y0.1, y1.1, y2.1, y3.1, y4.1, y5.1, y6.1, y7.1, y8.1, y9.1, y10.1, y11.1])
    rw [Rows.uptoBulk]; simp only [Rows.uptoBulkAll]; omega
  refine ⟨.mk k a cl t p o A ks bd d s z, ?_, by rw [bkN]; omega⟩
  rw [NdV]
  exact ⟨_, _, _, _, ka, kc, ba, bc, rfl, ⟨i64_bd w0, i64_bd w1, i64_bd w2, i64_bd w4, i64_bd w5, i64_bd w9, i64_bd w10, i64_bd w11⟩, by unfold maxLen at w3; omega, hA, ⟨k1, k2⟩, ⟨b1, b2⟩, ⟨kb, ko, k3, k4⟩, ⟨bb, bo, b3, b4⟩⟩
theorem list6 {α : Type} {xs : List α} (h : xs.length = 6) : ∃ y0 y1 y2 y3 y4 y5, xs = [y0, y1, y2, y3, y4, y5] := by
  match xs, h with
  | [y0, y1, y2, y3, y4, y5], _ => exact ⟨y0, y1, y2, y3, y4, y5, rfl⟩
theorem list34 {α : Type} {cs : List α} (h : cs.length = 34) : ∃ c0 c1 c2 c3 t n, cs = c0 :: c1 :: c2 :: c3 :: (t ++ n) ∧ t.length = 15 ∧ n.length = 15 := by
  match cs, h with
  | c0 :: c1 :: c2 :: c3 :: r, h =>
    refine ⟨c0, c1, c2, c3, r.take 15, r.drop 15, by rw [List.take_append_drop], ?_, ?_⟩ <;> simp at h ⊢ <;> omega
theorem st_of {H : Type} {enc : TypeId × Value → H} {W : World} {fuel : Nat} {cs : List Value} {x : DataW H × List MemPlace}
    (ihN : ∀ m, m < fuel → ∀ {cs : List Value} {x : DataW H × List MemPlace}, DataW.trod enc Tryz.prog W 0 (fun _ => true) true m 34 cs = some x → W.noneFrozen x.2 → ∃ N, NdV W cs N ∧ bkN N ≤ Rows.uptoBulk x.1)
    (h : DataW.trod enc Tryz.prog W 0 (fun _ => true) true fuel 59 cs = some x) (hz : W.noneFrozen x.2) : ∃ S, StV W cs S ∧ bkS S ≤ Rows.uptoBulk x.1 := by
  obtain ⟨xs, n, hfu, hx, hl, hlen, hf⟩ := DataW.trod_struct Tryz.underlying59 h
  have hlen' : xs.length = 6 := hlen
  obtain ⟨y0, y1, y2, y3, y4, y5, rfl⟩ := list6 hlen'
  rw [cellsSt] at hl
  obtain ⟨c0, c1, c2, c3, ct, cn, rfl, l1, l2⟩ := list34 hl
  have f0' : DataW.trod enc Tryz.prog W 0 (fun _ => true) true n 57 (((c0 :: c1 :: c2 :: c3 :: (ct ++ cn)).drop 0).take (Tryz.prog.cellsOf 57)) = some y0 := hf 0 _ rfl
  have g0 : DataW.trod enc Tryz.prog W 0 (fun _ => true) true n 57 [c0] = some y0 := by
    rw [show Tryz.prog.cellsOf 57 = 1 by kernel_rfl] at f0'
    exact f0'
  have f1' : DataW.trod enc Tryz.prog W 0 (fun _ => true) true n 3 (((c0 :: c1 :: c2 :: c3 :: (ct ++ cn)).drop 1).take (Tryz.prog.cellsOf 3)) = some y1 := hf 1 _ rfl
  have g1 : DataW.trod enc Tryz.prog W 0 (fun _ => true) true n 3 [c1] = some y1 := by
    rw [show Tryz.prog.cellsOf 3 = 1 by kernel_rfl] at f1'
    exact f1'
  have f2' : DataW.trod enc Tryz.prog W 0 (fun _ => true) true n 9 (((c0 :: c1 :: c2 :: c3 :: (ct ++ cn)).drop 2).take (Tryz.prog.cellsOf 9)) = some y2 := hf 2 _ rfl
  have g2 : DataW.trod enc Tryz.prog W 0 (fun _ => true) true n 9 [c2] = some y2 := by
    rw [show Tryz.prog.cellsOf 9 = 1 by kernel_rfl] at f2'
    exact f2'
  have f3' : DataW.trod enc Tryz.prog W 0 (fun _ => true) true n 3 (((c0 :: c1 :: c2 :: c3 :: (ct ++ cn)).drop 3).take (Tryz.prog.cellsOf 3)) = some y3 := hf 3 _ rfl
  have g3 : DataW.trod enc Tryz.prog W 0 (fun _ => true) true n 3 [c3] = some y3 := by
    rw [show Tryz.prog.cellsOf 3 = 1 by kernel_rfl] at f3'
    exact f3'
  have f4' : DataW.trod enc Tryz.prog W 0 (fun _ => true) true n 34 (((c0 :: c1 :: c2 :: c3 :: (ct ++ cn)).drop 4).take (Tryz.prog.cellsOf 34)) = some y4 := hf 4 _ rfl
  have g4 : DataW.trod enc Tryz.prog W 0 (fun _ => true) true n 34 ct = some y4 := by
    rw [show Tryz.prog.cellsOf 34 = 15 by kernel_rfl] at f4'
    simpa [List.take_append, l1] using f4'
  have f5' : DataW.trod enc Tryz.prog W 0 (fun _ => true) true n 34 (((c0 :: c1 :: c2 :: c3 :: (ct ++ cn)).drop 19).take (Tryz.prog.cellsOf 34)) = some y5 := hf 5 _ rfl
  have g5 : DataW.trod enc Tryz.prog W 0 (fun _ => true) true n 34 cn = some y5 := by
    rw [show Tryz.prog.cellsOf 34 = 15 by kernel_rfl] at f5'
    simpa [List.drop_append, List.drop_eq_nil_of_le, l1, l2, List.take_of_length_le] using f5'
  obtain ⟨k, e0, -, w0⟩ := DataW.trod_int Tryz.underlying57 g0
  obtain ⟨a, e1, -, w1⟩ := DataW.trod_int Tryz.underlying3 g1
  obtain ⟨s, e3, -, w3⟩ := DataW.trod_int Tryz.underlying3 g3
  obtain ⟨t, e2, x2, w2⟩ := DataW.trod_string Tryz.underlying9 g2
  have hzy : ∀ y, y ∈ [y0, y1, y2, y3, y4, y5] → W.noneFrozen y.2 := fun y hy b o hm => hz b o (by rw [hx]; exact List.mem_flatMap.2 ⟨y, hy, hm⟩)
  obtain ⟨T, hT, w4⟩ := ihN n (by omega) g4 (hzy y4 (by simp))
  obtain ⟨N, hN, w5⟩ := ihN n (by omega) g5 (hzy y5 (by simp))
  simp only [List.cons.injEq, and_true] at e0 e1 e2 e3
  subst e0 e1 e2 e3
  have hb3 : t.size < Rows.uptoBulk y2.1 := by
    rw [x2]
    show _ < Rows.uptoBulk (.lit (.string t.data.toList))
    rw [Rows.uptoBulk]
    simp
  have hxb : Rows.uptoBulk y2.1 + Rows.uptoBulk y4.1 + Rows.uptoBulk y5.1 + 1 ≤ Rows.uptoBulk x.1 := by
    rw [hx]
    show _ ≤ Rows.uptoBulk (.agg [y0.1, y1.1, y2.1, y3.1, y4.1, y5.1])
    rw [Rows.uptoBulk]; simp only [Rows.uptoBulkAll]; omega
  refine ⟨.mk k a t s T N, ?_, by rw [bkS]; omega⟩
  rw [StV]
  exact ⟨ct, cn, rfl, ⟨i64_bd w0, i64_bd w1, i64_bd w3⟩, by unfold maxLen at w2; omega, hT, hN⟩
theorem nd_st_cells {H : Type} {enc : TypeId × Value → H} {W : World} (fuel : Nat) :
    (∀ {cs : List Value} {x : DataW H × List MemPlace}, DataW.trod enc Tryz.prog W 0 (fun _ => true) true fuel 34 cs = some x → W.noneFrozen x.2 → ∃ N, NdV W cs N ∧ bkN N ≤ Rows.uptoBulk x.1) ∧
    (∀ {cs : List Value} {x : DataW H × List MemPlace}, DataW.trod enc Tryz.prog W 0 (fun _ => true) true fuel 59 cs = some x → W.noneFrozen x.2 → ∃ S, StV W cs S ∧ bkS S ≤ Rows.uptoBulk x.1) := by
  induction fuel using Nat.strongRecOn with
  | ind fuel ih =>
    exact ⟨fun h hz => nd_of (fun m hm => (ih m hm).1) (fun m hm => (ih m hm).2) h hz, fun h hz => st_of (fun m hm => (ih m hm).1) h hz⟩
theorem nd_arg {H : Type} {enc : TypeId × Value → H} {W : World} {base : Nat} {v : Value} {d : DataW H} {ps : List MemPlace}
    (hok : Value.okWide Tryz.prog W .any base 34 v) (hj : DataW.Trod enc Tryz.prog W 0 (fun _ => true) true 34 v d ps) (hz : W.noneFrozen ps) : ∃ cs N, v = .agg cs.toArray ∧ NdV W cs N ∧ bkN N ≤ Rows.uptoBulk d := by
  obtain ⟨cs, rfl, hsz⟩ := okWide_struct Tryz.underlying34 hok
  obtain ⟨fuel, hf⟩ := hj
  obtain ⟨N, hN, hb⟩ := (nd_st_cells fuel).1 hf hz
  exact ⟨cs.toList, N, by simp, hN, hb⟩
end Go.Proofs.YtghmbmjikkdbnaaGreatDoor.Syn

namespace Go.Proofs.YtghmbmjikkdbnaaGreatDoor.Syn
open Go.ChangeShapes Go.WideShapes Go.ChangeAt Go.RowKit
theorem bulk_part {H : Type} {d : DataW H} : ∀ {l : List (DataW H)}, d ∈ l → Rows.uptoBulk d ≤ Rows.uptoBulkAll l
  | [], h => by cases h
  | x :: r, h => by
    simp only [Rows.uptoBulkAll]
    rcases List.mem_cons.1 h with rfl | h
    · omega
    · have := bulk_part h; omega
end Go.Proofs.YtghmbmjikkdbnaaGreatDoor.Syn
