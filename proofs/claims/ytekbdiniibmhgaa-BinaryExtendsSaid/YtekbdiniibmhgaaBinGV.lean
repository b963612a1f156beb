/-
  An argument that is a slice of ints, as the row's reading gives it, holds numbers.
  An argument that is an array, as the row's reading gives it, holds an array.
-/
import Derived.Test.YtekbdiniibmhgaaBinGI
import Derived.ProofKit
import Derived.OpenShut
import Derived.ShutString
import Derived.ChangeOld
import Derived.Below
import Derived.Lib.SmallJoins
import Derived.SizedLaws
namespace Go.Proofs.Ytekbdiniibmhgaa.Shape
open Go.ChangeShapes Go.WideShapes Go.ChangeAt Go.RowKit
set_option maxRecDepth 100000

theorem i64_bd {n : Int} (h : (Lit.int .i64 n).wf = true) : -9223372036854775808 ≤ n ∧ n ≤ 9223372036854775807 := by
  simpa [Lit.wf, IntKind.min, IntKind.max, IntKind.signed, IntKind.bits] using h
theorem ints_open {H : Type} {enc : TypeId × Value → H} {W : World} {base : Nat} {v : Value} {d : DataW H} {ps : List MemPlace}
    (hok : Value.okWide Try.prog W .any base 30 v) (hj : DataW.Trod enc Try.prog W 0 (fun _ => true) true 30 v d ps) :
    ∃ a cap xs, v = .slice a (List.length xs) cap ∧ IntsAt W a cap xs := by
  obtain ⟨a0, len0, cap0, rfl⟩ := okWide_slice Try.underlying30 hok
  obtain ⟨fuel, hf⟩ := hj
  rcases open_ints Try.underlying30 Try.underlying3 (by kernel_rfl) hf with ⟨hcs, _⟩ | ⟨x, l, c, zs, hcs, _, hl, hm, hz, _, hcell, hwz⟩
  · simp [Value.cells] at hcs
    obtain ⟨rfl, rfl, rfl⟩ := hcs
    exact ⟨none, 0, [], rfl, Nat.zero_le _, by decide, fun x hx => absurd hx (by simp), 0, 0, fun hn => absurd rfl hn, fun i hi => absurd hi (by simp)⟩
  · simp [Value.cells] at hcs
    obtain ⟨rfl, rfl, rfl⟩ := hcs
    have hz' : zs.length = cap0 := by simpa using hz
    have hlen : (zs.take len0).length = len0 := by rw [List.length_take, Nat.min_eq_left (by omega)]
    have hb : ∀ y ∈ zs.take len0, -9223372036854775808 ≤ y ∧ y ≤ 9223372036854775807 := fun y hy => i64_bd (hwz y (List.mem_of_mem_take hy))
    obtain ⟨b, off, spot⟩ := x
    refine ⟨some ⟨b, off, spot⟩, cap0, zs.take len0, by rw [hlen], by omega, by unfold maxLen at hm; omega, hb, ?_⟩
    by_cases h0 : len0 = 0
    · subst h0
      exact ⟨0, 0, fun hn => absurd (by simp) hn, fun i hi => by simp at hi⟩
    · have hc := hcell 0 (by omega)
      have hspot : spot = none := by simpa [Addr.add] using World.cell?_spot hc
      subst hspot
      refine ⟨b, off, fun _ => rfl, fun i hi => ?_⟩
      have hi' : i < zs.length := by omega
      have := hcell i hi'
      rw [add_plain] at this
      rw [this]
      simp [hi']
end Go.Proofs.Ytekbdiniibmhgaa.Shape

namespace Go.Proofs.Ytekbdiniibmhgaa.Shape
open Go.ChangeShapes Go.WideShapes Go.ChangeAt Go.RowKit Go.Joins
set_option maxRecDepth 100000

mutual
/-- No list of an array is longer than what a slice that is read may be. -/
def Reach : Arr → Prop
  | .mk _ sh nu it => sh.length * 8 ≤ 140737488351232 ∧ nu.length * 8 ≤ 140737488351232 ∧ it.length * 80 ≤ 140737488351232 ∧ ReachL it
def ReachL : List Arr → Prop
  | [] => True
  | A :: r => Reach A ∧ ReachL r
end
theorem ReachL.at : ∀ {l : List Arr}, ReachL l → ∀ {k : Nat} (hk : k < l.length), Reach l[k]
  | [], _, k, hk => absurd hk (by simp)
  | A :: r, h, 0, _ => by rw [ReachL] at h; exact h.1
  | A :: r, h, k + 1, hk => by
    rw [ReachL] at h
    simpa using ReachL.at h.2 (k := k) (by simpa using hk)
/-- What is read is within the form's reach. -/
def Sized {H : Type} (t : TypeId) (d : DataW H) : Prop := ∀ n ∈ d.weights Try.prog t, n ≤ reachBytes
theorem bytesInt : Try.prog.bytesOf 3 = 8 := by kernel_rfl
theorem bytesArr : Try.prog.bytesOf 33 = 80 := by kernel_rfl
theorem Sized.slice {H : Type} {t e : TypeId} {l r : List (DataW H)} (hu : Try.prog.underlying t = some (.slice e)) (h : Sized t (.slice l r)) :
    (l.length + r.length) * Try.prog.bytesOf e ≤ 140737488351232 ∧ ∀ d ∈ l, Sized e d := by
  have hw : (DataW.slice l r).weights Try.prog t = (l.length + r.length) * Try.prog.bytesOf e :: (DataW.weightsAll Try.prog e l ++ DataW.weightsAll Try.prog e r) := by rw [DataW.weights, hu]
  unfold Sized at h
  rw [hw] at h
  refine ⟨h _ (by simp), fun d hd n hn => h n (List.mem_cons_of_mem _ (List.mem_append.2 (.inl ?_)))⟩
  clear hw h
  induction l with
  | nil => cases hd
  | cons y l ih =>
    rw [DataW.weightsAll, List.mem_append]
    cases hd with
    | head => exact .inl hn
    | tail _ hd => exact .inr (ih hd)
theorem Sized.parts {H : Type} {t : TypeId} {fs : Array Field} {ds : List (DataW H)} (hu : Try.prog.underlying t = some (.struct fs)) (h : Sized t (.agg ds)) {j : Nat} {f : TypeId} {d : DataW H}
    (hf : (fs.toList.map (·.type))[j]? = some f) (hd : ds[j]? = some d) : Sized f d := by
  intro n hn
  refine h n ?_
  rw [DataW.weights, hu]
  exact DataW.weights_mem_each hf hd n hn
theorem Sized.each {H : Type} {ts : List TypeId} {ds : List (DataW H)} (h : (DataW.weightsEach Try.prog ts ds).all (· ≤ reachBytes) = true) {j : Nat} {t : TypeId} {d : DataW H} (ht : ts[j]? = some t) (hd : ds[j]? = some d) : Sized t d :=
  fun n hn => by simpa using List.all_eq_true.1 h _ (DataW.weights_mem_each ht hd n hn)

/-- A slice of ints, as a cell. -/
theorem ints_cell {H : Type} {enc : TypeId × Value → H} {W : World} {fuel : Nat} {cs : List Value} {x : DataW H × List MemPlace}
    (hf : DataW.trod enc Try.prog W 0 (fun _ => true) true fuel 30 cs = some x) :
    ∃ a cap xs, cs = [.slice a (List.length xs) cap] ∧ IntsAt W a cap xs ∧ (Sized 30 x.1 → xs.length * 8 ≤ 140737488351232) := by
  rcases open_ints Try.underlying30 Try.underlying3 (by kernel_rfl) hf with ⟨hcs, _⟩ | ⟨x, l, c, zs, hcs, _, hl, hm, hz, hx, hcell, hwz⟩
  · exact ⟨none, 0, [], hcs, ⟨Nat.zero_le _, by decide, fun x hx => absurd hx (by simp), 0, 0, fun hn => absurd rfl hn, fun i hi => absurd hi (by simp)⟩, fun _ => by simp⟩
  · have hz' : zs.length = c := by simpa using hz
    have hlen : (zs.take l).length = l := by rw [List.length_take, Nat.min_eq_left (by omega)]
    have hb : ∀ y ∈ zs.take l, -9223372036854775808 ≤ y ∧ y ≤ 9223372036854775807 := fun y hy => i64_bd (hwz y (List.mem_of_mem_take hy))
    obtain ⟨b, off, spot⟩ := x
    refine ⟨some ⟨b, off, spot⟩, c, zs.take l, by rw [hlen]; exact hcs, ⟨by omega, by unfold maxLen at hm; omega, hb, ?_⟩, fun hz => ?_⟩
    rotate_left
    · rw [hx] at hz
      have := (hz.slice Try.underlying30).1
      rw [bytesInt] at this
      simp only [lits, List.length_map, List.length_take, List.length_drop] at this ⊢
      omega
    by_cases h0 : l = 0
    · subst h0
      exact ⟨0, 0, fun hn => absurd (by simp) hn, fun i hi => by simp at hi⟩
    · have hc := hcell 0 (by omega)
      have hspot : spot = none := by simpa [Addr.add] using World.cell?_spot hc
      subst hspot
      refine ⟨b, off, fun _ => rfl, fun i hi => ?_⟩
      have hi' : i < zs.length := by omega
      have := hcell i hi'
      rw [add_plain] at this
      rw [this]
      simp [hi']

theorem cellsArr : Try.prog.cellsOf 33 = 4 := by kernel_rfl
theorem cellsKind : Try.prog.cellsOf 29 = 1 := by kernel_rfl
theorem cellsInts : Try.prog.cellsOf 30 = 1 := by kernel_rfl
theorem cellsArrs : Try.prog.cellsOf 31 = 1 := by kernel_rfl

/-- Arrays one behind the other, from the readings of each. -/
theorem arrs_of {W : World} {Q : Prop} : ∀ (n b off : Nat), (∀ i, i < n → ∃ A c0 c1 c2 c3, (W.cell? ⟨b, off + i * 4, none⟩ = some c0 ∧ W.cell? ⟨b, off + i * 4 + 1, none⟩ = some c1 ∧ W.cell? ⟨b, off + i * 4 + 2, none⟩ = some c2 ∧ W.cell? ⟨b, off + i * 4 + 3, none⟩ = some c3) ∧ ArrAt W (.agg #[c0, c1, c2, c3]) A ∧ (Q → Reach A)) →
    ∃ l : List Arr, l.length = n ∧ ArrsAt W b off l ∧ (Q → ReachL l)
  | 0, b, off, _ => ⟨[], rfl, by rw [ArrsAt]; trivial, fun _ => by rw [ReachL]; trivial⟩
  | n + 1, b, off, h => by
    obtain ⟨A, c0, c1, c2, c3, hc, hA, hQ⟩ := h 0 (by omega)
    obtain ⟨l, hl, hr, hR⟩ := arrs_of n b (off + 4) (fun i hi => by
      have := h (i + 1) (by omega)
      rwa [show off + (i + 1) * 4 = off + 4 + i * 4 by omega] at this)
    refine ⟨A :: l, by simp [hl], ?_, fun q => ?_⟩
    · rw [ArrsAt]
      exact ⟨⟨c0, c1, c2, c3, by simpa using hc, hA⟩, hr⟩
    · rw [ReachL]
      exact ⟨hQ q, hR q⟩

theorem arr_cells {H : Type} {enc : TypeId × Value → H} {W : World} (fuel : Nat) : ∀ {cs : List Value} {x : DataW H × List MemPlace},
    DataW.trod enc Try.prog W 0 (fun _ => true) true fuel 33 cs = some x → ∃ A c0 c1 c2 c3, cs = [c0, c1, c2, c3] ∧ ArrAt W (.agg #[c0, c1, c2, c3]) A ∧ (Sized 33 x.1 → Reach A) := by
  induction fuel using Nat.strongRecOn with
  | ind fuel ih =>
    intro cs x h
    obtain ⟨xs, n, hfu, hx, hl, hlen, hf⟩ := DataW.trod_struct Try.underlying33 h
    have hlen4 : xs.length = 4 := hlen
    obtain ⟨y0, y1, y2, y3, rfl⟩ : ∃ y0 y1 y2 y3, xs = [y0, y1, y2, y3] := by
      match xs, hlen4 with
      | [y0, y1, y2, y3], _ => exact ⟨y0, y1, y2, y3, rfl⟩
    rw [cellsArr] at hl
    obtain ⟨c0, c1, c2, c3, rfl⟩ : ∃ c0 c1 c2 c3, cs = [c0, c1, c2, c3] := by
      match cs, hl with
      | [c0, c1, c2, c3], _ => exact ⟨c0, c1, c2, c3, rfl⟩
    have f0' : DataW.trod enc Try.prog W 0 (fun _ => true) true n 29 (([c0, c1, c2, c3].drop 0).take (Try.prog.cellsOf 29)) = some y0 := hf 0 _ rfl
    have f1' : DataW.trod enc Try.prog W 0 (fun _ => true) true n 30 (([c0, c1, c2, c3].drop 1).take (Try.prog.cellsOf 30)) = some y1 := hf 1 _ rfl
    have f2' : DataW.trod enc Try.prog W 0 (fun _ => true) true n 30 (([c0, c1, c2, c3].drop 2).take (Try.prog.cellsOf 30)) = some y2 := hf 2 _ rfl
    have f3' : DataW.trod enc Try.prog W 0 (fun _ => true) true n 31 (([c0, c1, c2, c3].drop 3).take (Try.prog.cellsOf 31)) = some y3 := hf 3 _ rfl
    rw [cellsKind] at f0'
    rw [cellsInts] at f1' f2'
    rw [cellsArrs] at f3'
    have g0 : DataW.trod enc Try.prog W 0 (fun _ => true) true n 29 [c0] = some y0 := f0'
    have g1 : DataW.trod enc Try.prog W 0 (fun _ => true) true n 30 [c1] = some y1 := f1'
    have g2 : DataW.trod enc Try.prog W 0 (fun _ => true) true n 30 [c2] = some y2 := f2'
    have g3 : DataW.trod enc Try.prog W 0 (fun _ => true) true n 31 [c3] = some y3 := f3'
    obtain ⟨k, e0, _, wk⟩ := DataW.trod_int Try.underlying29 g0
    obtain ⟨sa, sc, sh, e1, hs, zs⟩ := ints_cell g1
    obtain ⟨na, nc, nu, e2, hn, zn⟩ := ints_cell g2
    have z1 : Sized 33 x.1 → Sized 30 y1.1 := fun z => by rw [hx] at z; exact z.parts Try.underlying33 (j := 1) rfl rfl
    have z2 : Sized 33 x.1 → Sized 30 y2.1 := fun z => by rw [hx] at z; exact z.parts Try.underlying33 (j := 2) rfl rfl
    have z3 : Sized 33 x.1 → Sized 31 y3.1 := fun z => by rw [hx] at z; exact z.parts Try.underlying33 (j := 3) rfl rfl
    simp only [List.cons.injEq, and_true] at e0 e1 e2
    subst e0; subst e1; subst e2
    have done : ∀ (ia : Option Addr) (ic : Nat) (l : List Arr), c3 = .slice ia l.length ic → l.length ≤ ic → ic ≤ 9223372036854775807 → (∃ b off : Nat, (l ≠ [] → ia = some ⟨b, off, none⟩) ∧ ArrsAt W b off l) → (Sized 31 y3.1 → l.length * 80 ≤ 140737488351232 ∧ ReachL l) →
        ∃ A d0 d1 d2 d3, [Value.int .i64 k, .slice sa sh.length sc, .slice na nu.length nc, c3] = [d0, d1, d2, d3] ∧ ArrAt W (.agg #[d0, d1, d2, d3]) A ∧ (Sized 33 x.1 → Reach A) := by
      intro ia ic l e h1 h2 h3 zl
      refine ⟨.mk k sh nu l, _, _, _, _, rfl, ?_, fun z => by rw [Reach]; exact ⟨zs (z1 z), zn (z2 z), (zl (z3 z)).1, (zl (z3 z)).2⟩⟩
      rw [ArrAt]
      obtain ⟨b, off, h3, h4⟩ := h3
      exact ⟨sa, sc, na, nc, ia, ic, by rw [e], i64_bd wk, hs, hn, h1, h2, b, off, h3, h4⟩
    rcases DataW.trod_slice Try.underlying31 g3 with ⟨hcs, _⟩ | ⟨a, len, cap, elems, rest, m, hfm, hcs, hy3, _, hlc, hcm, hel, hE, -⟩
    · simp only [List.cons.injEq, and_true] at hcs
      exact done none 0 [] hcs (Nat.le_refl _) (by decide) ⟨0, 0, fun g => absurd rfl g, by rw [ArrsAt]; trivial⟩ (fun _ => ⟨by simp, by rw [ReachL]; trivial⟩)
    · simp only [List.cons.injEq, and_true] at hcs
      have z4 : Sized 31 y3.1 → len * 80 ≤ 140737488351232 ∧ ∀ (i : Nat) (hi : i < elems.length), Sized 33 elems[i].1 := by
        intro z
        rw [hy3] at z
        obtain ⟨q1, q2⟩ := z.slice Try.underlying31
        rw [bytesArr] at q1
        simp only [List.length_map] at q1
        exact ⟨by omega, fun i hi => q2 _ (List.mem_map.2 ⟨_, List.getElem_mem hi, rfl⟩)⟩
      obtain ⟨b, off, spot⟩ := a
      have each : ∀ i, i < len → ∃ A d0 d1 d2 d3, (W.cell? ((⟨b, off, spot⟩ : Addr).add (i * 4) |>.add 0) = some d0 ∧ W.cell? ((⟨b, off, spot⟩ : Addr).add (i * 4) |>.add 1) = some d1 ∧ W.cell? ((⟨b, off, spot⟩ : Addr).add (i * 4) |>.add 2) = some d2 ∧ W.cell? ((⟨b, off, spot⟩ : Addr).add (i * 4) |>.add 3) = some d3) ∧ ArrAt W (.agg #[d0, d1, d2, d3]) A ∧ (Sized 31 y3.1 → Reach A) := by
        intro i hi
        have e := hE i hi
        rw [List.getElem?_eq_getElem (by omega), cellsArr] at e
        obtain ⟨cs', hc', ht'⟩ := Option.bind_eq_some_iff.1 e
        obtain ⟨A, d0, d1, d2, d3, hd, hA, hR⟩ := ih m (by omega) ht'
        subst hd
        obtain ⟨_, _, hcell⟩ := World.cells?_some hc'
        exact ⟨A, d0, d1, d2, d3, ⟨hcell 0 (by omega), hcell 1 (by omega), hcell 2 (by omega), hcell 3 (by omega)⟩, hA, fun z => hR ((z4 z).2 i (by omega))⟩
      by_cases h0 : len = 0
      · subst h0
        exact done (some ⟨b, off, spot⟩) cap [] hcs (Nat.zero_le _) (by unfold maxLen at hcm; omega) ⟨0, 0, fun g => absurd rfl g, by rw [ArrsAt]; trivial⟩ (fun _ => ⟨by simp, by rw [ReachL]; trivial⟩)
      · obtain ⟨_, d0, _, _, _, ⟨hc0, -⟩, -⟩ := each 0 (by omega)
        have hspot : spot = none := by simpa [Addr.add] using World.cell?_spot hc0
        subst hspot
        obtain ⟨l, hl2, hat, hRL⟩ := arrs_of (W := W) (Q := Sized 31 y3.1) len b off (fun i hi => by
          obtain ⟨A, d0, d1, d2, d3, ⟨m0, m1, m2, m3⟩, hA, hR⟩ := each i hi
          rw [add_plain, add_plain] at m0 m1 m2 m3
          exact ⟨A, d0, d1, d2, d3, ⟨m0, m1, m2, m3⟩, hA, hR⟩)
        subst hl2
        exact done (some ⟨b, off, none⟩) cap l hcs hlc (by unfold maxLen at hcm; omega) ⟨b, off, fun _ => rfl, hat⟩ (fun z => ⟨(z4 z).1, hRL z⟩)

/-- An argument that is an array. -/
theorem arr_open {H : Type} {enc : TypeId × Value → H} {W : World} {base : Nat} {v : Value} {d : DataW H} {ps : List MemPlace}
    (hok : Value.okWide Try.prog W .any base 33 v) (hj : DataW.Trod enc Try.prog W 0 (fun _ => true) true 33 v d ps) : ∃ A, ArrAt W v A ∧ (Sized 33 d → Reach A) := by
  obtain ⟨cs, rfl, hsz⟩ := okWide_struct Try.underlying33 hok
  obtain ⟨c0, c1, c2, c3, rfl⟩ := array4 (hsz.trans cellsArr)
  obtain ⟨fuel, hf⟩ := hj
  obtain ⟨A, d0, d1, d2, d3, hd, hA, hR⟩ := arr_cells fuel hf
  have hd' : [c0, c1, c2, c3] = [d0, d1, d2, d3] := hd
  simp only [List.cons.injEq, and_true] at hd'
  obtain ⟨rfl, rfl, rfl, rfl⟩ := hd'
  exact ⟨A, hA, hR⟩

/-- An argument that is a slice of ints: its length is within the form's reach. -/
theorem ints_open_sized {H : Type} {enc : TypeId × Value → H} {W : World} {base : Nat} {v : Value} {d : DataW H} {ps : List MemPlace}
    (hok : Value.okWide Try.prog W .any base 30 v) (hj : DataW.Trod enc Try.prog W 0 (fun _ => true) true 30 v d ps) :
    ∃ a cap xs, v = .slice a (List.length xs) cap ∧ IntsAt W a cap xs ∧ (Sized 30 d → xs.length * 8 ≤ 140737488351232) := by
  obtain ⟨a0, len0, cap0, rfl⟩ := okWide_slice Try.underlying30 hok
  obtain ⟨fuel, hf⟩ := hj
  obtain ⟨a, c, xs, hcs, h1, h2⟩ := ints_cell hf
  have e : [Value.slice a0 len0 cap0] = [.slice a xs.length c] := hcs
  simp only [List.cons.injEq, and_true] at e
  exact ⟨a, c, xs, e, h1, h2⟩

/-- An argument that is a slice of arrays. -/
theorem arrs_open {H : Type} {enc : TypeId × Value → H} {W : World} {base : Nat} {v : Value} {d : DataW H} {ps : List MemPlace}
    (hok : Value.okWide Try.prog W .any base 31 v) (hj : DataW.Trod enc Try.prog W 0 (fun _ => true) true 31 v d ps) :
    ∃ (ia : Option Addr) (ic : Nat) (l : List Arr) (b off : Nat), v = .slice ia l.length ic ∧ l.length ≤ ic ∧ ic ≤ 9223372036854775807 ∧ (l ≠ [] → ia = some ⟨b, off, none⟩) ∧ ArrsAt W b off l ∧ (Sized 31 d → l.length * 80 ≤ 140737488351232 ∧ ReachL l) := by
  obtain ⟨a0, len0, cap0, rfl⟩ := okWide_slice Try.underlying31 hok
  obtain ⟨fuel, hf⟩ := hj
  rcases DataW.trod_slice Try.underlying31 hf with ⟨hcs, _⟩ | ⟨a, len, cap, elems, rest, m, hfm, hcs, hy3, _, hlc, hcm, hel, hE, -⟩
  · have e : [Value.slice a0 len0 cap0] = [.slice none 0 0] := hcs
    simp only [List.cons.injEq, and_true] at e
    exact ⟨none, 0, [], 0, 0, e, Nat.le_refl _, by decide, fun g => absurd rfl g, by rw [ArrsAt]; trivial, fun _ => ⟨by simp, by rw [ReachL]; trivial⟩⟩
  · have e : [Value.slice a0 len0 cap0] = [.slice (some a) len cap] := hcs
    simp only [List.cons.injEq, and_true] at e
    rw [e]
    have hd : d = .slice (elems.map (·.1)) (rest.map (·.1)) := (Prod.mk.inj hy3).1
    have z4 : Sized 31 d → len * 80 ≤ 140737488351232 ∧ ∀ (i : Nat) (hi : i < elems.length), Sized 33 elems[i].1 := by
      intro z
      rw [hd] at z
      obtain ⟨q1, q2⟩ := z.slice Try.underlying31
      rw [bytesArr] at q1
      simp only [List.length_map] at q1
      exact ⟨by omega, fun i hi => q2 _ (List.mem_map.2 ⟨_, List.getElem_mem hi, rfl⟩)⟩
    obtain ⟨b, off, spot⟩ := a
    have each : ∀ i, i < len → ∃ A d0 d1 d2 d3, (W.cell? ((⟨b, off, spot⟩ : Addr).add (i * 4) |>.add 0) = some d0 ∧ W.cell? ((⟨b, off, spot⟩ : Addr).add (i * 4) |>.add 1) = some d1 ∧ W.cell? ((⟨b, off, spot⟩ : Addr).add (i * 4) |>.add 2) = some d2 ∧ W.cell? ((⟨b, off, spot⟩ : Addr).add (i * 4) |>.add 3) = some d3) ∧ ArrAt W (.agg #[d0, d1, d2, d3]) A ∧ (Sized 31 d → Reach A) := by
      intro i hi
      have e := hE i hi
      rw [List.getElem?_eq_getElem (by omega), cellsArr] at e
      obtain ⟨cs', hc', ht'⟩ := Option.bind_eq_some_iff.1 e
      obtain ⟨A, d0, d1, d2, d3, hd', hA, hR⟩ := arr_cells m ht'
      subst hd'
      obtain ⟨_, _, hcell⟩ := World.cells?_some hc'
      exact ⟨A, d0, d1, d2, d3, ⟨hcell 0 (by omega), hcell 1 (by omega), hcell 2 (by omega), hcell 3 (by omega)⟩, hA, fun z => hR ((z4 z).2 i (by omega))⟩
    by_cases h0 : len = 0
    · subst h0
      exact ⟨some ⟨b, off, spot⟩, cap, [], 0, 0, rfl, Nat.zero_le _, by unfold maxLen at hcm; omega, fun g => absurd rfl g, by rw [ArrsAt]; trivial, fun _ => ⟨by simp, by rw [ReachL]; trivial⟩⟩
    · obtain ⟨_, d0, _, _, _, ⟨hc0, -⟩, -⟩ := each 0 (by omega)
      have hspot : spot = none := by simpa [Addr.add] using World.cell?_spot hc0
      subst hspot
      obtain ⟨l, hl2, hat, hRL⟩ := arrs_of (W := W) (Q := Sized 31 d) len b off (fun i hi => by
        obtain ⟨A, d0, d1, d2, d3, ⟨m0, m1, m2, m3⟩, hA, hR⟩ := each i hi
        rw [add_plain, add_plain] at m0 m1 m2 m3
        exact ⟨A, d0, d1, d2, d3, ⟨m0, m1, m2, m3⟩, hA, hR⟩)
      subst hl2
      exact ⟨some ⟨b, off, none⟩, cap, l, b, off, rfl, hlc, by unfold maxLen at hcm; omega, fun _ => rfl, hat, fun z => ⟨(z4 z).1, hRL z⟩⟩
end Go.Proofs.Ytekbdiniibmhgaa.Shape
