/-
  Layer 16: append of ints onto a row of the call's own (layer 4's texts); the reference's gathered row.
-/
import Derived.Test.YtekbdiniibmhgaaBinGW
import Derived.Laws.AppendOwn
import Derived.Lib.AppendZeros
import Derived.Handy
namespace Go.Proofs.Ytekbdiniibmhgaa.Shape
open Go.RowKit
set_option linter.unusedVariables false

/-- append(row, xs...), where the row is the call's own. -/
theorem run_ints_own {w : World} {base n : Nat} {v : Value} {zs : List Value} {a : Option Addr} {cap : Nat} {xs : List Int} (ty : TypeId) (ho : w.ownsRow base 3 1 v n zs) (h : IntsAt w a cap xs) (hr : (n + xs.length) * 8 ≤ 140737488351232) (hb : base ≤ w.heap.size) :
    ∃ v' w', (Builtin.append_ #[30, 30] ty #[v, .slice a xs.length cap]).run Try.prog w = .ok v' w' ∧ w'.ownsRow base 3 1 v' (n + xs.length) (zs ++ xs.map (Value.int .i64)) ∧ w.grownBy w' v.ownBlock := by
  obtain ⟨i0, hi, hz0, hz1, hz2⟩ := info_parts infoInt
  obtain ⟨h1, h2, h3, b, off, ha, hc⟩ := h
  have go : ∀ ad : Addr, a = some ad → (∀ j u, (xs.map (Value.int .i64))[j]? = some u → w.cell? (ad.add j) = some u) →
      ∃ v' w', (Builtin.append_ #[30, 30] ty #[v, .slice a xs.length cap]).run Try.prog w = .ok v' w' ∧ w'.ownsRow base 3 1 v' (n + xs.length) (zs ++ xs.map (Value.int .i64)) ∧ w.grownBy w' v.ownBlock := by
    intro ad hA hcell
    subst hA
    obtain ⟨v', w', hrun, hown, hgrow, _⟩ := run_append_own (P := Try.prog) w base 30 ty 3 i0 (.int .i64 0) 1 8 Try.underlying30 hi hz0 hz1 hz2 rfl (by decide) v n zs ho
      ad xs.length cap (xs.map (Value.int .i64)) (by simp) hcell (by intro u hu; obtain ⟨x, _, rfl⟩ := List.mem_map.1 hu; rfl) (by unfold maxLen; omega) (by omega) hb
    exact ⟨v', w', hrun, hown, hgrow⟩
  cases xs with
  | nil =>
    cases a with
    | none =>
      refine ⟨v, w, ?_, by simpa using ho, ⟨rfl, rfl, rfl, Nat.le_refl _, fun _ _ _ => rfl⟩⟩
      rcases ho.2 with ⟨rfl, rfl⟩ | ⟨g, c, cur, rfl, -, -, hnc, -⟩
      · simp [Builtin.append_, run_underlying Try.underlying30, sizeOf, typeInfo, hi, Builtin.lenOf, Builtin.firstCells]
      · simp [Builtin.append_, run_underlying Try.underlying30, sizeOf, typeInfo, hi, Builtin.lenOf, Builtin.firstCells, hnc, storeCells]
    | some ad => exact go ad rfl (by simp)
  | cons x r =>
    have e := ha (by simp)
    refine go _ e fun j u hj => ?_
    rw [add_plain]
    have hjl : j < (x :: r).length := by
      have := (List.getElem?_eq_some_iff.1 hj).1
      simpa using this
    rw [hc j hjl]
    rw [← hj, List.getElem?_map, List.getElem?_eq_getElem hjl]
    rfl
/-- The same as a step of the walk. -/
theorem wpList_ints_own {w : World} {ops : Array Oper} {rest : List Oper} {o : Oper} {a : Act} {Q : Exit → Act → World → Prop} (hgd : o.guard = none) (s x : Operand)
    (ho : o.op = .call { callee := .builtin .append, args := #[s, x], argTypes := #[30, 30] }) (base n : Nat) (v : Value) (zs : List Value) (hs : a.eval s = v) (hown : w.ownsRow base 3 1 v n zs) (hb : base ≤ w.heap.size)
    (ad : Option Addr) (c m : Nat) (xs : List Int) (hx : a.eval x = .slice ad m c) (hm : m = xs.length) (hi : IntsAt w ad c xs) (hr : (n + xs.length) * 8 ≤ 140737488351232)
    (h : ∀ v' w', w'.ownsRow base 3 1 v' (n + xs.length) (zs ++ xs.map (Value.int .i64)) → w.grownBy w' v.ownBlock → wpList Try.prog ops Q rest (a.put o.dst v') w') : wpList Try.prog ops Q (o :: rest) a w := by
  subst hm
  obtain ⟨v', w', hrun, hown', hg⟩ := run_ints_own o.type hown hi hr hb
  exact Lib.wpList_append_run w hgd s x _ _ ho _ _ hs hx _ _ hrun (h v' w' hown' hg)
theorem ownsRow_empty (w : World) (cur : Array Value) (t : TypeId) (base g cap : Nat) (hg : w.heap[g]? = some (.cells cur t (0, 0))) (hb : base ≤ g) (hc : cap ≤ maxLen) (hs : cur.size = cap) : w.ownsRow base t 1 (.slice (some ⟨g, 0, none⟩) 0 cap) 0 [] :=
  ⟨rfl, Or.inr ⟨g, cap, cur, rfl, hb, hg, Nat.zero_le _, hc, by omega, by simp⟩⟩
theorem row_lit (w : World) : (w.alloc (.cells #[] 3)).ownsRow w.heap.size 3 1 (.slice (some ⟨w.heap.size, 0, none⟩) 0 0) 0 [] :=
  ownsRow_empty _ #[] _ _ _ 0 (heap_alloc_new w _) (Nat.le_refl _) (by unfold maxLen; omega) rfl
/-- The row that is gathered, one number on: only the field of the numbers is stored. -/
theorem of_one {W0 wr w1 w2 : World} {bx n g cap : Nat} {k : Int} {sh : List Int} {c3 v : Value} {e : TypeId} {size : Nat} {qs news : List Value} (h : OInv W0 wr bx k sh v c3 v e size n qs) (b1 : Below wr.heap.size wr w1) (P : Put1 w1 w2 (bx + 1) e size n v qs news g cap) :
    OInv W0 (w2.setCell ⟨bx, 2, none⟩ (.slice (some ⟨g, 0, none⟩) (n + 1) cap)) bx k sh (.slice (some ⟨g, 0, none⟩) (n + 1) cap) c3 (.slice (some ⟨g, 0, none⟩) (n + 1) cap) e size (n + 1) (qs ++ news) := by
  obtain ⟨bel, bxl, own, a1, c1, blk, i1⟩ := h
  have hv := own.lt
  have s0 := bel.size
  have s1 := b1.size
  have hbx := blk.lt
  have hg := P.own.lt g rfl
  have hb2 : Quad w2 bx (.int .i64 k) (.slice a1 sh.length c1) v c3 := blk.keep ((P.far bx (by omega) (fun e => by have := (hv bx e).1; omega)).trans (b1.block bx hbx))
  have hgb : ∀ b, v.ownBlock ≠ some b → b < w1.heap.size → (Value.slice (some ⟨g, 0, none⟩) (n + 1) cap).ownBlock ≠ some b := by
    intro b hn hb e
    have e' : g = b := by simpa [Value.ownBlock] using e
    subst e'
    rcases P.at' with h1 | h1
    · exact hn h1
    · omega
  refine ⟨((bel.trans (b1.mono bel.size)).trans (P.bel.mono (by omega))).setCell (by show _ ≤ bx; exact bxl) _, bxl, ownsRow_setCell_other P.own (by simp only [Value.ownBlock, ne_eq, Option.some.injEq]; omega) _, a1, c1, (hb2.set _).2.2.1, i1.keep fun b hF hb => ?_⟩
  exact ⟨⟨hF.1, hF.2.1, hgb b hF.2.2 (by omega)⟩, fun o => World.cell?_of_block ((set_other _ _ _ _ _ hF.2.1).trans ((P.far b (by omega) hF.2.2).trans (b1.block b hb)))⟩
end Go.Proofs.Ytekbdiniibmhgaa.Shape
