/-
  Layer 9: the block of the reader, and its method add.
-/
import Derived.Test.YtmnomkcgkjccgaaLitP3
namespace Go.Proofs.Ytmnomkcgkjccgaa.Lit
open Go.RowKit
set_option linter.unusedVariables false
set_option linter.unusedSimpArgs false

theorem OB.form3 {w : World} {B : Nat} {v : Value} {L : List UInt8} (h : OB w B v L) : ∃ p n c, v = .slice p n c := by
  obtain ⟨p, c, e⟩ := h.form
  exact ⟨p, _, c, e⟩
/-- The cells of the reader. -/
def rdC (q : Nat) (v : Value) (x : St) : Array Value := #[.int .i32 (q : Int), .int .i64 (x.pl : Int), v, .int .i32 (x.co : Int), .int .i64 (x.ct : Int)]
/-- The reader in block b, its characters in a block of its own at or above B. -/
def RB (w : World) (b B q : Nat) (v : Value) (x : St) : Prop := b < B ∧ B ≤ w.heap.size ∧ w.heap[b]? = some (.cells (rdC q v x) 45 (0, 0)) ∧ OB w B v x.te
theorem RB.lt {w : World} {b B q : Nat} {v : Value} {x : St} (h : RB w b B q v x) : b < w.heap.size := (Array.getElem?_eq_some_iff.1 h.2.2.1).1
theorem rd_cells {w : World} {b q : Nat} {v : Value} {x : St} (h1 : w.heap[b]? = some (.cells (rdC q v x) 45 (0, 0))) :
    w.cell? ⟨b, 0, none⟩ = some (.int .i32 (q : Int)) ∧ w.cell? ⟨b, 1, none⟩ = some (.int .i64 (x.pl : Int)) ∧ w.cell? ⟨b, 2, none⟩ = some v ∧ w.cell? ⟨b, 3, none⟩ = some (.int .i32 (x.co : Int)) ∧ w.cell? ⟨b, 4, none⟩ = some (.int .i64 (x.ct : Int)) ∧
    w.frozen? ⟨b, 0, none⟩ = false ∧ w.frozen? ⟨b, 1, none⟩ = false ∧ w.frozen? ⟨b, 2, none⟩ = false ∧ w.frozen? ⟨b, 3, none⟩ = false ∧ w.frozen? ⟨b, 4, none⟩ = false := by
  unfold rdC at h1
  refine ⟨?_, ?_, ?_, ?_, ?_, ?_, ?_, ?_, ?_, ?_⟩ <;> simp [World.cell?, World.frozen?, h1]
/-- All blocks below B stand, save b. -/
structure Fr (b B : Nat) (w w' : World) : Prop where
  os : w'.os = w.os
  tape : w'.tape = w.tape
  output : w'.output = w.output
  size : w.heap.size ≤ w'.heap.size
  block : ∀ k, k < B → k ≠ b → w'.heap[k]? = w.heap[k]?
theorem Fr.refl (b B : Nat) (w : World) : Fr b B w w := ⟨rfl, rfl, rfl, Nat.le_refl _, fun _ _ _ => rfl⟩
theorem Fr.trans {b B : Nat} {u v w : World} (h : Fr b B u v) (k : Fr b B v w) : Fr b B u w :=
  ⟨k.os.trans h.os, k.tape.trans h.tape, k.output.trans h.output, Nat.le_trans h.size k.size, fun n hn hb => (k.block n hn hb).trans (h.block n hn hb)⟩
theorem Fr.of {b B : Nat} {w w' : World} (h : Below B w w') : Fr b B w w' := ⟨h.os, h.tape, h.output, h.size, fun k hk _ => h.block k hk⟩
theorem Fr.set (b B j : Nat) (w : World) (v : Value) : Fr b B w (w.setCell ⟨b, j, none⟩ v) :=
  ⟨rfl, rfl, rfl, by simp [World.setCell], fun k _ hb => Below.heap_setCell _ _ _ _ hb⟩
theorem RB.setAny {w : World} {b B q : Nat} {v : Value} {x y : St} (h : RB w b B q v x) (j : Nat) (u : Value) (hy : y.te = x.te) (e : (rdC q v x).setIfInBounds j u = rdC q v y) : RB (w.setCell ⟨b, j, none⟩ u) b B q v y := by
  obtain ⟨h0, h1, h2, h3⟩ := h
  refine ⟨h0, by simp [World.setCell]; exact h1, ?_, ?_⟩
  · simp only [World.setCell]
    rw [Array.getElem?_modify, if_pos rfl, h2]
    simp [e]
  · rw [hy]
    exact h3.keep fun k hk _ => Below.heap_setCell _ _ _ _ (by show k ≠ b; omega)
theorem RB.setPl {w : World} {b B q : Nat} {v : Value} {x : St} (h : RB w b B q v x) (p : Nat) : RB (w.setCell ⟨b, 1, none⟩ (.int .i64 (p : Int))) b B q v { x with pl := p } := h.setAny 1 _ rfl rfl
theorem RB.setCo {w : World} {b B q : Nat} {v : Value} {x : St} (h : RB w b B q v x) (p : Nat) : RB (w.setCell ⟨b, 3, none⟩ (.int .i32 (p : Int))) b B q v { x with co := p } := h.setAny 3 _ rfl rfl
theorem RB.setCt {w : World} {b B q : Nat} {v : Value} {x : St} (h : RB w b B q v x) (p : Nat) : RB (w.setCell ⟨b, 4, none⟩ (.int .i64 (p : Int))) b B q v { x with ct := p } := h.setAny 4 _ rfl rfl
/-- A longer text stored. -/
theorem RB.setTe {w : World} {b B q : Nat} {v v' : Value} {x : St} {L : List UInt8} (h0 : b < B) (h1 : B ≤ w.heap.size) (h2 : w.heap[b]? = some (.cells (rdC q v x) 45 (0, 0))) (h3 : OB w B v' L) : RB (w.setCell ⟨b, 2, none⟩ v') b B q v' { x with te := L } := by
  refine ⟨h0, by simp [World.setCell]; exact h1, ?_, ?_⟩
  · simp only [World.setCell]
    rw [Array.getElem?_modify, if_pos rfl, h2]
    simp [rdC]
  · exact h3.keep fun k hk _ => Below.heap_setCell _ _ _ _ (by show k ≠ b; omega)

set_option maxRecDepth 100000 in
set_option maxHeartbeats 4000000 in
theorem addQ (q c : Nat) (hc : c ≤ 1114111) (x : St) (b B : Nat) (v : Value) (w : World) (hl : x.te.length ≤ 1000000) (h : RB w b B q v x) :
    Calls Try.prog 28 #[.pointer (some ⟨b, 0, none⟩), .int .i32 (c : Int)] w fun e w' => e = .returned (.tuple #[]) ∧ (∃ v', RB w' b B q v' (x.add q c)) ∧ Fr b B w w' := by
  have hsz := enc_len c
  obtain ⟨h0, h1, h2, h3⟩ := h
  obtain ⟨c0, c1, c2, c3, c4, f0, f1, f2, f3, f4⟩ := rd_cells h2
  by_cases hq : q = 39
  · have hq1 : ((q : Int) == 39) = true := by simp; omega
    have hx : x.add q c = { { x with te := x.te ++ Lib.encodeRune (c : Int) } with pl := 5 } := by unfold St.add; rw [if_pos hq]
    rw [hx]
    clear hx hq
    go_enter Try.func28, Try.ntmps28
    go_wp2_with (at_builtin; refine wpList_ob_text rfl _ _ rfl B v rfl x.te h3 h1 (Lib.encodeRune (c : Int)) _ (encB c) rfl (by omega) ?_)
    intro v' w1 o1 b1
    obtain ⟨p', n', c', rfl⟩ := o1.form3
    have e2 : w1.heap[b]? = some (.cells (rdC q v x) 45 (0, 0)) := (b1.block b h0).trans h2
    have hB1 := Nat.le_trans h1 b1.size
    clear c0 c1 c2 c3 c4 f0 f1 f2 f3 f4 h2 h3
    obtain ⟨k0, k1, k2, k3, k4, g0, g1, g2, g3, g4⟩ := rd_cells e2
    have R1 := (((RB.setTe h0 hB1 e2 o1).setPl 1).setPl 5)
    have F1 := (((Fr.of (b := b) b1).trans (Fr.set b B 2 w1 (.slice p' n' c'))).trans (Fr.set b B 1 _ (.int .i64 1))).trans (Fr.set b B 1 _ (.int .i64 5))
    clear e2 o1 b1
    go_wp2
    refine bodyPost_end (results_none rfl _ _ _) rfl ?_
    exact ⟨rfl, ⟨_, R1⟩, F1⟩
  · have hq1 : ((q : Int) == 39) = false := by simp; omega
    have hx : x.add q c = { { x with te := x.te ++ Lib.encodeRune (c : Int) } with pl := 1 } := by unfold St.add; rw [if_neg hq]
    rw [hx]
    clear hx hq
    go_enter Try.func28, Try.ntmps28
    go_wp2_with (at_builtin; refine wpList_ob_text rfl _ _ rfl B v rfl x.te h3 h1 (Lib.encodeRune (c : Int)) _ (encB c) rfl (by omega) ?_)
    intro v' w1 o1 b1
    obtain ⟨p', n', c', rfl⟩ := o1.form3
    have e2 : w1.heap[b]? = some (.cells (rdC q v x) 45 (0, 0)) := (b1.block b h0).trans h2
    have hB1 := Nat.le_trans h1 b1.size
    clear c0 c1 c2 c3 c4 f0 f1 f2 f3 f4 h2 h3
    obtain ⟨k0, k1, k2, k3, k4, g0, g1, g2, g3, g4⟩ := rd_cells e2
    have R1 := ((RB.setTe h0 hB1 e2 o1).setPl 1)
    have F1 := (((Fr.of (b := b) b1).trans (Fr.set b B 2 w1 (.slice p' n' c'))).trans (Fr.set b B 1 _ (.int .i64 1)))
    clear e2 o1 b1
    go_wp2
    refine bodyPost_end (results_none rfl _ _ _) rfl ?_
    exact ⟨rfl, ⟨_, R1⟩, F1⟩
end Go.Proofs.Ytmnomkcgkjccgaa.Lit
