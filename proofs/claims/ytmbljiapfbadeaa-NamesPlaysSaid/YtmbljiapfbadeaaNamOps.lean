/-
  Layer 11: an argument that is a list of calls, as the row's reading gives it.
-/
import Derived.Test.YtmbljiapfbadeaaNamStr
import Derived.ProofKit
import Derived.OpenShut
import Derived.ShutString
import Derived.ChangeOld
namespace Go.Proofs.Ytmbljiapfbadeaa.Nam
open Go.ChangeShapes Go.WideShapes Go.ChangeAt Go.RowKit
set_option maxRecDepth 100000
set_option linter.unusedVariables false

/-- A call: its kind, its scope, its name, its class. -/
structure OpD where
  k : Int
  s : Int
  t : ByteArray
  c : Int
def Bd (x : OpD) : Prop := (-9223372036854775808 ≤ x.s ∧ x.s ≤ 9223372036854775807) ∧ x.t.size ≤ maxLen
/-- The cells of the calls of a list. -/
def OpCells (w : World) (b o : Nat) (l : List OpD) : Prop := ∀ (j : Nat) (h : j < l.length), w.cell? ⟨b, o + j * 4, none⟩ = some (.int .i64 l[j].k) ∧ w.cell? ⟨b, o + j * 4 + 1, none⟩ = some (.int .i64 l[j].s) ∧ w.cell? ⟨b, o + j * 4 + 2, none⟩ = some (.string l[j].t) ∧ w.cell? ⟨b, o + j * 4 + 3, none⟩ = some (.int .i64 l[j].c)
def OpsAt (w : World) (a : Option Addr) (l : List OpD) : Prop := ∃ m o, (l ≠ [] → a = some ⟨m, o, none⟩) ∧ OpCells w m o l ∧ (l ≠ [] → m < w.heap.size)
theorem elemOp : Try.prog.underlying 22 = some (.slice (Try.prog.elem 22)) := by kernel_rfl
theorem sizeOp (w : World) : (sizeOf (Try.prog.elem 22)).run Try.prog w = .ok 4 w := by kernel_rfl
theorem ops_at (w' : World) (g o n c k : Nat) (hk : k < n) : (Instr.indexAt 22 (.slice (some ⟨g, o, none⟩) n c) (.int .i64 (k : Int))).run Try.prog w' = .ok (.pointer (some ⟨g, o + k * 4, none⟩)) w' := by
  rw [run_indexAt_slice w' _ _ _ _ .i64 k elemOp, if_pos (by omega), sizeOp]
  show Result.ok _ w' = _
  rw [show ((k : Int).toNat * 4) = k * 4 by omega, add_plain]
theorem i64_bd {n : Int} (h : (Lit.int .i64 n).wf = true) : -9223372036854775808 ≤ n ∧ n ≤ 9223372036854775807 := by
  simpa [Lit.wf, IntKind.min, IntKind.max, IntKind.signed, IntKind.bits] using h
theorem cellsOp : Try.prog.cellsOf 32 = 4 := by kernel_rfl
theorem cellsInt : Try.prog.cellsOf 3 = 1 := by kernel_rfl
theorem cellsStr1 : Try.prog.cellsOf 9 = 1 := by kernel_rfl
theorem cellsCls : Try.prog.cellsOf 30 = 1 := by kernel_rfl
theorem op_cells {H : Type} {enc : TypeId × Value → H} {W : World} {fuel : Nat} {cs : List Value} {x : DataW H × List MemPlace}
    (h : DataW.trod enc Try.prog W 0 (fun _ => true) true fuel 32 cs = some x) : ∃ y : OpD, cs = [.int .i64 y.k, .int .i64 y.s, .string y.t, .int .i64 y.c] ∧ Bd y := by
  obtain ⟨xs, n, hfu, hx, hl, hlen, hf⟩ := DataW.trod_struct Try.underlying32 h
  have hlen4 : xs.length = 4 := hlen
  obtain ⟨y0, y1, y2, y3, rfl⟩ : ∃ y0 y1 y2 y3, xs = [y0, y1, y2, y3] := by
    match xs, hlen4 with
    | [y0, y1, y2, y3], _ => exact ⟨y0, y1, y2, y3, rfl⟩
  rw [cellsOp] at hl
  obtain ⟨c0, c1, c2, c3, rfl⟩ : ∃ c0 c1 c2 c3, cs = [c0, c1, c2, c3] := by
    match cs, hl with
    | [c0, c1, c2, c3], _ => exact ⟨c0, c1, c2, c3, rfl⟩
  have f0' : DataW.trod enc Try.prog W 0 (fun _ => true) true n 3 (([c0, c1, c2, c3].drop 0).take (Try.prog.cellsOf 3)) = some y0 := hf 0 _ rfl
  have f1' : DataW.trod enc Try.prog W 0 (fun _ => true) true n 3 (([c0, c1, c2, c3].drop 1).take (Try.prog.cellsOf 3)) = some y1 := hf 1 _ rfl
  have f2' : DataW.trod enc Try.prog W 0 (fun _ => true) true n 9 (([c0, c1, c2, c3].drop 2).take (Try.prog.cellsOf 9)) = some y2 := hf 2 _ rfl
  have f3' : DataW.trod enc Try.prog W 0 (fun _ => true) true n 30 (([c0, c1, c2, c3].drop 3).take (Try.prog.cellsOf 30)) = some y3 := hf 3 _ rfl
  rw [cellsInt] at f0' f1'
  rw [cellsStr1] at f2'
  rw [cellsCls] at f3'
  obtain ⟨k, e0, _, w0⟩ := DataW.trod_int Try.underlying3 (show DataW.trod enc Try.prog W 0 (fun _ => true) true n 3 [c0] = some y0 from f0')
  obtain ⟨s, e1, _, w1⟩ := DataW.trod_int Try.underlying3 (show DataW.trod enc Try.prog W 0 (fun _ => true) true n 3 [c1] = some y1 from f1')
  obtain ⟨t, e2, _, w2⟩ := DataW.trod_string Try.underlying9 (show DataW.trod enc Try.prog W 0 (fun _ => true) true n 9 [c2] = some y2 from f2')
  obtain ⟨c, e3, _, w3⟩ := DataW.trod_int Try.underlying30 (show DataW.trod enc Try.prog W 0 (fun _ => true) true n 30 [c3] = some y3 from f3')
  simp only [List.cons.injEq, and_true] at e0 e1 e2 e3
  subst e0; subst e1; subst e2; subst e3
  exact ⟨⟨k, s, t, c⟩, rfl, i64_bd w1, w2⟩
theorem ops_of {W : World} : ∀ (n b off : Nat), (∀ i, i < n → ∃ y : OpD, (W.cell? ⟨b, off + i * 4, none⟩ = some (.int .i64 y.k) ∧ W.cell? ⟨b, off + i * 4 + 1, none⟩ = some (.int .i64 y.s) ∧ W.cell? ⟨b, off + i * 4 + 2, none⟩ = some (.string y.t) ∧ W.cell? ⟨b, off + i * 4 + 3, none⟩ = some (.int .i64 y.c)) ∧ Bd y) →
    ∃ l : List OpD, l.length = n ∧ OpCells W b off l ∧ ∀ x ∈ l, Bd x
  | 0, b, off, _ => ⟨[], rfl, fun j hj => absurd hj (by simp), fun x hx => absurd hx (by simp)⟩
  | n + 1, b, off, h => by
    obtain ⟨y, hc, hy⟩ := h 0 (by omega)
    obtain ⟨l, hl, hr, hR⟩ := ops_of n b (off + 4) (fun i hi => by
      have := h (i + 1) (by omega)
      rwa [show off + (i + 1) * 4 = off + 4 + i * 4 by omega] at this)
    refine ⟨y :: l, by simp [hl], ?_, fun x hx => ?_⟩
    · intro j hj
      cases j with
      | zero => simpa using hc
      | succ j =>
        have hj' : j < l.length := by simpa using hj
        have := hr j hj'
        rw [show off + (j + 1) * 4 = off + 4 + j * 4 by omega]
        exact this
    · rcases List.mem_cons.1 hx with rfl | hx
      · exact hy
      · exact hR x hx
/-- A slice of calls, wherever it lies. -/
def OAt (w : World) (v : Value) (l : List OpD) : Prop := ∃ a c, v = .slice a l.length c ∧ l.length ≤ 9223372036854775807 ∧ OpsAt w a l ∧ ∀ x ∈ l, Bd x
theorem ops_open {H : Type} {enc : TypeId × Value → H} {W : World} {base : Nat} {v : Value} {d : DataW H} {ps : List MemPlace}
    (hok : Value.okWide Try.prog W .any base 22 v) (hj : DataW.Trod enc Try.prog W 0 (fun _ => true) true 22 v d ps) :
    ∃ l : List OpD, OAt W v l := by
  obtain ⟨a0, len0, cap0, rfl⟩ := okWide_slice Try.underlying22 hok
  obtain ⟨fuel, hf⟩ := hj
  rcases DataW.trod_slice Try.underlying22 hf with ⟨hcs, _⟩ | ⟨a, len, cap, elems, rest, m, hfm, hcs, hy3, _, hlc, hcm, hel, hE, -⟩
  · have e : [Value.slice a0 len0 cap0] = [.slice none 0 0] := hcs
    simp only [List.cons.injEq, and_true] at e
    exact ⟨[], none, 0, e, by decide, ⟨0, 0, fun g => absurd rfl g, fun j hj => absurd hj (by simp), fun g => absurd rfl g⟩, fun x hx => absurd hx (by simp)⟩
  · have e : [Value.slice a0 len0 cap0] = [.slice (some a) len cap] := hcs
    simp only [List.cons.injEq, and_true] at e
    rw [e]
    obtain ⟨b, off, spot⟩ := a
    have each : ∀ i, i < len → ∃ y : OpD, (W.cell? ((⟨b, off, spot⟩ : Addr).add (i * 4) |>.add 0) = some (.int .i64 y.k) ∧ W.cell? ((⟨b, off, spot⟩ : Addr).add (i * 4) |>.add 1) = some (.int .i64 y.s) ∧ W.cell? ((⟨b, off, spot⟩ : Addr).add (i * 4) |>.add 2) = some (.string y.t) ∧ W.cell? ((⟨b, off, spot⟩ : Addr).add (i * 4) |>.add 3) = some (.int .i64 y.c)) ∧ Bd y := by
      intro i hi
      have e := hE i hi
      rw [List.getElem?_eq_getElem (by omega), cellsOp] at e
      obtain ⟨cs', hc', ht'⟩ := Option.bind_eq_some_iff.1 e
      obtain ⟨y, hd', hy⟩ := op_cells ht'
      subst hd'
      obtain ⟨_, _, hcell⟩ := World.cells?_some hc'
      exact ⟨y, ⟨hcell 0 (by omega), hcell 1 (by omega), hcell 2 (by omega), hcell 3 (by omega)⟩, hy⟩
    by_cases h0 : len = 0
    · subst h0
      exact ⟨[], some ⟨b, off, spot⟩, cap, rfl, by decide, ⟨0, 0, fun g => absurd rfl g, fun j hj => absurd hj (by simp), fun g => absurd rfl g⟩, fun x hx => absurd hx (by simp)⟩
    · obtain ⟨_, ⟨hc0, -⟩, -⟩ := each 0 (by omega)
      have hspot : spot = none := by simpa [Addr.add] using World.cell?_spot hc0
      subst hspot
      obtain ⟨l, hl2, hat, hR⟩ := ops_of (W := W) len b off (fun i hi => by
        obtain ⟨y, ⟨m0, m1, m2, m3⟩, hy⟩ := each i hi
        rw [add_plain, add_plain] at m0 m1 m2 m3
        exact ⟨y, ⟨m0, m1, m2, m3⟩, hy⟩)
      subst hl2
      refine ⟨l, some ⟨b, off, none⟩, cap, rfl, by unfold maxLen at hcm; omega, ⟨b, off, fun _ => rfl, hat, fun _ => ?_⟩, hR⟩
      have h1 := (hat 0 (by omega)).1
      rcases Nat.lt_or_ge b W.heap.size with q | q
      · exact q
      · simp [World.cell?, Array.getElem?_eq_none q] at h1
end Go.Proofs.Ytmbljiapfbadeaa.Nam
