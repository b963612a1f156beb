/-
  Layer 8: an argument that is a list of tokens, as the row's reading gives it, holds tokens; which lists the law takes.
-/
import Derived.Test.YthjappkcbdaifaaDoorTokSame
import Derived.Test.YthjappkcbdaifaaDoorTokShR6
import Derived.ProofKit
import Derived.OpenShut
import Derived.ShutString
import Derived.ChangeOld
import Derived.Lib.SmallJoins
namespace Go.Proofs.YthjappkcbdaifaaDoor.Tok
open Go.ChangeShapes Go.WideShapes Go.ChangeAt Go.RowKit Go.Joins
set_option maxRecDepth 100000
set_option linter.unusedVariables false

def Bd (x : T5) : Prop := (-9223372036854775808 ≤ x.n ∧ x.n ≤ 9223372036854775807) ∧ x.t.size ≤ 9223372036854775807
theorem i64_bd {n : Int} (h : (Lit.int .i64 n).wf = true) : -9223372036854775808 ≤ n ∧ n ≤ 9223372036854775807 := by
  simpa [Lit.wf, IntKind.min, IntKind.max, IntKind.signed, IntKind.bits] using h
theorem cellsTok : Tryd.prog.cellsOf 36 = 5 := by kernel_rfl
theorem cellsKindT : Tryd.prog.cellsOf 34 = 1 := by kernel_rfl
theorem cellsIntT : Tryd.prog.cellsOf 3 = 1 := by kernel_rfl
theorem cellsStrT : Tryd.prog.cellsOf 9 = 1 := by kernel_rfl
theorem tok_cells {H : Type} {enc : TypeId × Value → H} {W : World} {fuel : Nat} {cs : List Value} {x : DataW H × List MemPlace}
    (h : DataW.trod enc Tryd.prog W 0 (fun _ => true) true fuel 36 cs = some x) : ∃ y : T5, cs = cells5 y ∧ Bd y := by
  obtain ⟨xs, n, hfu, hx, hl, hlen, hf⟩ := DataW.trod_struct Tryd.underlying36 h
  have hlen4 : xs.length = 5 := hlen
  obtain ⟨y0, y1, y2, y3, y4, rfl⟩ : ∃ y0 y1 y2 y3 y4, xs = [y0, y1, y2, y3, y4] := by
    match xs, hlen4 with
    | [y0, y1, y2, y3, y4], _ => exact ⟨y0, y1, y2, y3, y4, rfl⟩
  rw [cellsTok] at hl
  obtain ⟨c0, c1, c2, c3, c4, rfl⟩ : ∃ c0 c1 c2 c3 c4, cs = [c0, c1, c2, c3, c4] := by
    match cs, hl with
    | [c0, c1, c2, c3, c4], _ => exact ⟨c0, c1, c2, c3, c4, rfl⟩
  have f0' : DataW.trod enc Tryd.prog W 0 (fun _ => true) true n 34 (([c0, c1, c2, c3, c4].drop 0).take (Tryd.prog.cellsOf 34)) = some y0 := hf 0 _ rfl
  have f1' : DataW.trod enc Tryd.prog W 0 (fun _ => true) true n 3 (([c0, c1, c2, c3, c4].drop 1).take (Tryd.prog.cellsOf 3)) = some y1 := hf 1 _ rfl
  have f2' : DataW.trod enc Tryd.prog W 0 (fun _ => true) true n 3 (([c0, c1, c2, c3, c4].drop 2).take (Tryd.prog.cellsOf 3)) = some y2 := hf 2 _ rfl
  have f3' : DataW.trod enc Tryd.prog W 0 (fun _ => true) true n 3 (([c0, c1, c2, c3, c4].drop 3).take (Tryd.prog.cellsOf 3)) = some y3 := hf 3 _ rfl
  have f4' : DataW.trod enc Tryd.prog W 0 (fun _ => true) true n 9 (([c0, c1, c2, c3, c4].drop 4).take (Tryd.prog.cellsOf 9)) = some y4 := hf 4 _ rfl
  rw [cellsKindT] at f0'
  rw [cellsIntT] at f1' f2' f3'
  rw [cellsStrT] at f4'
  obtain ⟨k, e0, _, wk⟩ := DataW.trod_int Tryd.underlying34 (show DataW.trod enc Tryd.prog W 0 (fun _ => true) true n 34 [c0] = some y0 from f0')
  obtain ⟨a, e1, _, w1⟩ := DataW.trod_int Tryd.underlying3 (show DataW.trod enc Tryd.prog W 0 (fun _ => true) true n 3 [c1] = some y1 from f1')
  obtain ⟨z, e2, _, w2⟩ := DataW.trod_int Tryd.underlying3 (show DataW.trod enc Tryd.prog W 0 (fun _ => true) true n 3 [c2] = some y2 from f2')
  obtain ⟨nn, e3, _, w3⟩ := DataW.trod_int Tryd.underlying3 (show DataW.trod enc Tryd.prog W 0 (fun _ => true) true n 3 [c3] = some y3 from f3')
  obtain ⟨t, e4, _, w4⟩ := DataW.trod_string Tryd.underlying9 (show DataW.trod enc Tryd.prog W 0 (fun _ => true) true n 9 [c4] = some y4 from f4')
  simp only [List.cons.injEq, and_true] at e0 e1 e2 e3 e4
  subst e0; subst e1; subst e2; subst e3; subst e4
  exact ⟨⟨k, a, z, nn, t⟩, rfl, i64_bd w3, by unfold maxLen at w4; omega⟩
theorem toks_of {W : World} : ∀ (n b off : Nat), (∀ i, i < n → ∃ y : T5, (W.cell? ⟨b, off + i * 5, none⟩ = some (.int .i64 y.k) ∧ W.cell? ⟨b, off + i * 5 + 1, none⟩ = some (.int .i64 y.at') ∧ W.cell? ⟨b, off + i * 5 + 2, none⟩ = some (.int .i64 y.len) ∧ W.cell? ⟨b, off + i * 5 + 3, none⟩ = some (.int .i64 y.n) ∧ W.cell? ⟨b, off + i * 5 + 4, none⟩ = some (.string y.t)) ∧ Bd y) →
    ∃ l : List T5, l.length = n ∧ TokCells W b off l ∧ ∀ x ∈ l, Bd x
  | 0, b, off, _ => ⟨[], rfl, fun j hj => absurd hj (by simp), fun x hx => absurd hx (by simp)⟩
  | n + 1, b, off, h => by
    obtain ⟨y, hc, hy⟩ := h 0 (by omega)
    obtain ⟨l, hl, hr, hR⟩ := toks_of n b (off + 5) (fun i hi => by
      have := h (i + 1) (by omega)
      rwa [show off + (i + 1) * 5 = off + 5 + i * 5 by omega] at this)
    refine ⟨y :: l, by simp [hl], ?_, fun x hx => ?_⟩
    · intro j hj
      cases j with
      | zero => simpa using hc
      | succ j =>
        have hj' : j < l.length := by simpa using hj
        have := hr j hj'
        rw [show off + (j + 1) * 5 = off + 5 + j * 5 by omega]
        exact this
    · rcases List.mem_cons.1 hx with rfl | hx
      · exact hy
      · exact hR x hx
theorem toks_open {H : Type} {enc : TypeId × Value → H} {W : World} {base : Nat} {v : Value} {d : DataW H} {ps : List MemPlace}
    (hok : Value.okWide Tryd.prog W .any base 22 v) (hj : DataW.Trod enc Tryd.prog W 0 (fun _ => true) true 22 v d ps) :
    ∃ (a : Option Addr) (c : Nat) (l : List T5), v = .slice a l.length c ∧ (ToksAt W a c l ∧ c ≤ 9223372036854775807 ∧ ∀ x ∈ l, Bd x) := by
  obtain ⟨a0, len0, cap0, rfl⟩ := okWide_slice Tryd.underlying22 hok
  obtain ⟨fuel, hf⟩ := hj
  rcases DataW.trod_slice Tryd.underlying22 hf with ⟨hcs, _⟩ | ⟨a, len, cap, elems, rest, m, hfm, hcs, hy3, _, hlc, hcm, hel, hE, -⟩
  · have e : [Value.slice a0 len0 cap0] = [.slice none 0 0] := hcs
    simp only [List.cons.injEq, and_true] at e
    exact ⟨none, 0, [], e, ⟨Nat.le_refl _, 0, 0, fun g => absurd rfl g, fun j hj => absurd hj (by simp)⟩, by decide, fun x hx => absurd hx (by simp)⟩
  · have e : [Value.slice a0 len0 cap0] = [.slice (some a) len cap] := hcs
    simp only [List.cons.injEq, and_true] at e
    rw [e]
    obtain ⟨b, off, spot⟩ := a
    have each : ∀ i, i < len → ∃ y : T5, (W.cell? ((⟨b, off, spot⟩ : Addr).add (i * 5) |>.add 0) = some (.int .i64 y.k) ∧ W.cell? ((⟨b, off, spot⟩ : Addr).add (i * 5) |>.add 1) = some (.int .i64 y.at') ∧ W.cell? ((⟨b, off, spot⟩ : Addr).add (i * 5) |>.add 2) = some (.int .i64 y.len) ∧ W.cell? ((⟨b, off, spot⟩ : Addr).add (i * 5) |>.add 3) = some (.int .i64 y.n) ∧ W.cell? ((⟨b, off, spot⟩ : Addr).add (i * 5) |>.add 4) = some (.string y.t)) ∧ Bd y := by
      intro i hi
      have e := hE i hi
      rw [List.getElem?_eq_getElem (by omega), cellsTok] at e
      obtain ⟨cs', hc', ht'⟩ := Option.bind_eq_some_iff.1 e
      obtain ⟨y, hd', hy⟩ := tok_cells ht'
      subst hd'
      obtain ⟨_, _, hcell⟩ := World.cells?_some hc'
      exact ⟨y, ⟨hcell 0 (by omega), hcell 1 (by omega), hcell 2 (by omega), hcell 3 (by omega), hcell 4 (by omega)⟩, hy⟩
    by_cases h0 : len = 0
    · subst h0
      exact ⟨some ⟨b, off, spot⟩, cap, [], rfl, ⟨Nat.zero_le _, 0, 0, fun g => absurd rfl g, fun j hj => absurd hj (by simp)⟩, by unfold maxLen at hcm; omega, fun x hx => absurd hx (by simp)⟩
    · obtain ⟨_, ⟨hc0, -⟩, -⟩ := each 0 (by omega)
      have hspot : spot = none := by simpa [Addr.add] using World.cell?_spot hc0
      subst hspot
      obtain ⟨l, hl2, hat, hR⟩ := toks_of (W := W) len b off (fun i hi => by
        obtain ⟨y, ⟨m0, m1, m2, m3, m4⟩, hy⟩ := each i hi
        rw [add_plain, add_plain] at m0 m1 m2 m3 m4
        exact ⟨y, ⟨m0, m1, m2, m3, m4⟩, hy⟩)
      subst hl2
      exact ⟨some ⟨b, off, none⟩, cap, l, rfl, ⟨hlc, b, off, fun _ => rfl, hat⟩, by unfold maxLen at hcm; omega, hR⟩

/-! ### Which lists the law takes -/
def sumT (l : List T5) : Nat := (l.map fun x => min x.t.size 4001).sum
theorem sumT_step {l : List T5} {j : Nat} (h : j < l.length) : sumT (l.take (j + 1)) = sumT (l.take j) + min l[j].t.size 4001 := by
  rw [List.take_succ_eq_append_getElem h, sumT, sumT, List.map_append, List.sum_append]
  simp
theorem sumT_le : ∀ (l : List T5), ∀ x ∈ l, min x.t.size 4001 ≤ sumT l
  | [], x, hx => absurd hx (by simp)
  | a :: r, x, hx => by
    rw [sumT, List.map_cons, List.sum_cons]
    rcases List.mem_cons.1 hx with rfl | hx
    · omega
    · have := sumT_le r x hx
      rw [sumT] at this
      omega
theorem sumT_top (l : List T5) : sumT l ≤ 4001 * l.length := by
  induction l with
  | nil => simp [sumT]
  | cons a r ih =>
    rw [sumT, List.map_cons, List.sum_cons, List.length_cons]
    rw [sumT] at ih
    omega
def shortB (l : List T5) : Bool := decide (l.length ≤ 200) && decide (sumT (l.take 201) ≤ 4000)
theorem short_ok {l : List T5} (h : shortB l = true) : l.length ≤ 200 ∧ ∀ x ∈ l, x.t.size ≤ 4000 := by
  simp only [shortB, Bool.and_eq_true, decide_eq_true_eq] at h
  obtain ⟨h1, h2⟩ := h
  rw [List.take_of_length_le (by omega)] at h2
  exact ⟨h1, fun x hx => by have := sumT_le l x hx; omega⟩
set_option maxHeartbeats 8000000 in
theorem shortR (l : List T5) (a : Option Addr) (c : Nat) (w : World) (h : ToksAt w a c l) (hcm : c ≤ 9223372036854775807) (hB : ∀ x ∈ l, Bd x) :
    Calls Tryd.prog 8 #[.slice a l.length c] w fun e w' => e = .returned (.bool (shortB l)) ∧ w = w' := by
  obtain ⟨hlc, m, o, ha, hc⟩ := h
  obtain ⟨n, hNl⟩ : ∃ n, Hid (l.length = n) := ⟨_, rfl⟩
  obtain ⟨R, hR⟩ : ∃ R, Hid (shortB l = R) := ⟨_, rfl⟩
  rw [hNl.out, hR.out]
  have hn1 : n ≤ 9223372036854775807 := by rw [← hNl.out]; omega
  have hi64 : (n : Int) ≤ 9223372036854775807 := by omega
  clear hlc
  go_enter Tryd.func8, Tryd.ntmps8
  go_wp2
  go_loopw [3, 4] (fun s i wr => ∃ j q : Nat, j ≤ n ∧ j ≤ 201 ∧ s = .int .i64 (q : Int) ∧ i = .int .i64 (j : Int) ∧ Hid (q = sumT (l.take j)) ∧ q ≤ 4001 * j ∧ w = wr) (fun _ i _ => n - (RowKit.intOf i).toNat)
  case atStart => exact ⟨0, 0, Nat.zero_le _, by omega, rfl, rfl, by rw [List.take_zero]; rfl, Nat.le_refl _, by first | rfl | trivial⟩
  case round =>
    obtain ⟨j, q, hj, hj2, rfl, rfl, hq, hq2, rfl⟩ := hrel
    have hji : (j : Int) ≤ 201 := by omega
    by_cases hlt : j < n
    · have hlt' : (j : Int) < (n : Int) := by omega
      by_cases h201 : j < 201
      · have h201' : (j : Int) < 201 := by omega
        have hjl : j < l.length := by rw [hNl.out]; exact hlt
        have hane := ha (fun e => by rw [e] at hjl; exact absurd hjl (by simp))
        obtain ⟨c0, c1, c2, c3, c4⟩ := hc j hjl
        have ts := (hB _ (List.getElem_mem hjl)).2
        have hx1 := fun w' => elem_tok w' m o n c j hlt
        subst hane
        have hst := sumT_step hjl
        generalize l[j] = x at *
        obtain ⟨k, p, z, nn, t⟩ := x
        simp only [] at c0 c1 c2 c3 c4 ts hst
        have hst2 : Hid (q + min t.size 4001 = sumT (l.take (j + 1))) := by unfold Hid; rw [hst, hq.out]
        clear hst hR
        by_cases hm : t.size ≤ 4001
        · have hm' : (t.size : Int) ≤ 4001 := by omega
          have hmn : min t.size 4001 = t.size := Nat.min_eq_left hm
          rw [hmn] at hst2
          go_wp2
          go_roundw
          case rel => exact ⟨j + 1, q + t.size, by omega, by omega, by go_num, by go_num, hst2, by omega, by first | rfl | trivial⟩
          case measure => simp [RowKit.intOf]; omega
        · have hm' : ¬ (t.size : Int) ≤ 4001 := by omega
          have hm2 : (4001 : Int) < (t.size : Int) := by omega
          have hmn : min t.size 4001 = 4001 := Nat.min_eq_right (by omega)
          rw [hmn] at hst2
          go_wp2
          go_roundw
          case rel => exact ⟨j + 1, q + 4001, by omega, by omega, by go_num, by go_num, hst2, by omega, by first | rfl | trivial⟩
          case measure => simp [RowKit.intOf]; omega
      · obtain rfl : j = 201 := by omega
        have hR2 : R = false := by rw [← hR.out, shortB, decide_eq_false (by rw [hNl.out]; omega), Bool.false_and]
        subst hR2
        have h200 : ¬ (n : Int) ≤ 200 := by omega
        clear hR hq
        go_wp2
        go_ret
        exact ⟨rfl, rfl⟩
    · obtain rfl : j = n := by omega
      have hn0 : ¬ (j : Int) < (j : Int) := by omega
      have hlen : l.length = j := hNl.out
      by_cases h200 : j ≤ 200
      · have h200' : (j : Int) ≤ 200 := by omega
        have e1 : l.take j = l := List.take_of_length_le (by omega)
        have e2 : l.take 201 = l := List.take_of_length_le (by omega)
        have hR2 : R = decide ((q : Int) ≤ 4000) := by
          rw [← hR.out, shortB, decide_eq_true (by omega : l.length ≤ 200), Bool.true_and, e2]
          have := hq.out
          rw [e1] at this
          rw [← this]
          exact decide_eq_decide.2 (by omega)
        subst hR2
        clear hR hq
        go_wp2
        go_ret
        exact ⟨rfl, rfl⟩
      · have h200' : ¬ (j : Int) ≤ 200 := by omega
        have hR2 : R = false := by rw [← hR.out, shortB, decide_eq_false (by omega), Bool.false_and]
        subst hR2
        clear hR hq
        go_wp2
        go_ret
        exact ⟨rfl, rfl⟩
end Go.Proofs.YthjappkcbdaifaaDoor.Tok
