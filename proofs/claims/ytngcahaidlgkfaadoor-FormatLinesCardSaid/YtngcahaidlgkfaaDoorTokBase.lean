/-
  Layer 8: the block of the scanner (a text and a place in it), and what each reading method says of the text, as plain data.
-/
import Derived.Test.YtngcahaidlgkfaaDoorProg
import Derived.OwnWalk
import Derived.Deep.RegionHeld3
import Derived.Deep.RegionLaw
import Derived.Deep.RegionHeldLaw
import Derived.RegionTactic
import Derived.Handy
import Derived.Below
namespace Go.Proofs.YtngcahaidlgkfaaDoor.Tok
open Go.RowKit
set_option linter.unusedVariables false

theorem Below.then {a b c : World} (h : Below a.heap.size a b) (k : Below b.heap.size b c) : Below a.heap.size a c := h.trans (k.mono h.size)
theorem below_new (w : World) (o : Obj) : Below w.heap.size w (w.alloc o) := (Below.refl _ _).alloc (Nat.le_refl _) _
theorem heap_alloc_new (w : World) (o : Obj) : (w.alloc o).heap[w.heap.size]? = some o := by
  show (w.heap.push o)[w.heap.size]? = _
  simp
/-- The scanner's place, read off the world. -/
def posOf (w : World) (b : Nat) : Nat := match w.cell? ⟨b, 1, none⟩ with
  | some (.int _ n) => n.toNat
  | _ => 0
/-- All blocks stand, save one. -/
structure But (b : Nat) (w w' : World) : Prop where
  os : w'.os = w.os
  tape : w'.tape = w.tape
  output : w'.output = w.output
  size : w.heap.size ≤ w'.heap.size
  block : ∀ k, k < w.heap.size → k ≠ b → w'.heap[k]? = w.heap[k]?
theorem But.refl (b : Nat) (w : World) : But b w w := ⟨rfl, rfl, rfl, Nat.le_refl _, fun _ _ _ => rfl⟩
theorem But.trans {b : Nat} {u v w : World} (h : But b u v) (k : But b v w) : But b u w :=
  ⟨k.os.trans h.os, k.tape.trans h.tape, k.output.trans h.output, Nat.le_trans h.size k.size, fun n hn hb => (k.block n (Nat.lt_of_lt_of_le hn h.size) hb).trans (h.block n hn hb)⟩
theorem But.of {b : Nat} {w w' : World} (h : Below w.heap.size w w') : But b w w' := ⟨h.os, h.tape, h.output, h.size, fun k hk _ => h.block k hk⟩
theorem But.set (b : Nat) (w : World) (v : Value) : But b w (w.setCell ⟨b, 1, none⟩ v) :=
  ⟨rfl, rfl, rfl, by simp [World.setCell], fun k _ hb => Below.heap_setCell _ _ _ _ hb⟩
theorem But.drew {b : Nat} {a w : World} (h : But b a w) : But b a w.drew := ⟨h.os, h.tape, h.output, h.size, h.block⟩
theorem But.below {b B : Nat} {W w w' : World} (h : But b w w') (hb : B ≤ b) (hW : B ≤ W.heap.size) (hB : Below B W w) : Below B W w' :=
  ⟨h.os.trans hB.os, h.tape.trans hB.tape, h.output.trans hB.output, Nat.le_trans hB.size h.size, fun k hk => (h.block k (Nat.lt_of_lt_of_le hk (by have := hB.size; omega)) (by omega)).trans (hB.block k hk)⟩

/-! ### Bytes -/
def inB (s : ByteArray) (i : Nat) (lo hi : Int) : Bool := if h : i < s.size then decide (lo ≤ (s[i].toNat : Int) ∧ (s[i].toNat : Int) ≤ hi) else false
def isLet (s : ByteArray) (i : Nat) : Bool := inB s i 97 122 || inB s i 65 90
def isDig (s : ByteArray) (i : Nat) : Bool := inB s i 48 57
def isHex (s : ByteArray) (i : Nat) : Bool := isDig s i || inB s i 97 102
def isLD (s : ByteArray) (i : Nat) : Bool := isLet s i || isDig s i
def endL (s : ByteArray) (i : Nat) : Bool := if h : i < s.size then s[i].toNat == 10 else true
def isLine (s : ByteArray) (i : Nat) : Bool := !endL s i
/-- One byte, if it fits. -/
def adv (t : Bool) (i : Nat) : Nat := if t then i + 1 else i
theorem adv_f (i : Nat) : adv false i = i := rfl
theorem adv_t (i : Nat) : adv true i = i + 1 := rfl
theorem inB_lt {s : ByteArray} {i : Nat} {lo hi : Int} (h : inB s i lo hi = true) : i < s.size := by
  unfold inB at h
  split at h
  · assumption
  · cases h
theorem inB_yes {s : ByteArray} {i : Nat} {lo hi : Int} (h : i < s.size) (h1 : lo ≤ (s[i].toNat : Int)) (h2 : (s[i].toNat : Int) ≤ hi) : inB s i lo hi = true := by
  simp [inB, h, h1, h2]
theorem inB_low {s : ByteArray} {i : Nat} {lo hi : Int} (h : i < s.size) (h1 : (s[i].toNat : Int) < lo) : inB s i lo hi = false := by
  simp [inB, h]; omega
theorem inB_high {s : ByteArray} {i : Nat} {lo hi : Int} (h : i < s.size) (h1 : hi < (s[i].toNat : Int)) : inB s i lo hi = false := by
  simp [inB, h]; omega
theorem inB_end {s : ByteArray} {i : Nat} {lo hi : Int} (h : ¬ i < s.size) : inB s i lo hi = false := by
  simp [inB, h]
theorem isLet_lt {s : ByteArray} {i : Nat} (h : isLet s i = true) : i < s.size := by
  simp only [isLet, Bool.or_eq_true] at h
  exact h.elim inB_lt inB_lt
theorem isDig_lt {s : ByteArray} {i : Nat} (h : isDig s i = true) : i < s.size := inB_lt h
theorem isHex_lt {s : ByteArray} {i : Nat} (h : isHex s i = true) : i < s.size := by
  simp only [isHex, Bool.or_eq_true] at h
  exact h.elim inB_lt inB_lt
theorem isLD_lt {s : ByteArray} {i : Nat} (h : isLD s i = true) : i < s.size := by
  simp only [isLD, Bool.or_eq_true] at h
  exact h.elim isLet_lt inB_lt
theorem isLine_lt {s : ByteArray} {i : Nat} (h : isLine s i = true) : i < s.size := by
  simp only [isLine, endL] at h
  split at h
  · assumption
  · cases h

/-! ### Many -/
/-- What a reading method does: whether it read, and where it stands behind. -/
def manyTo (st : Nat → Bool × Nat) : Nat → Nat → Nat
  | 0, i => i
  | f + 1, i => if (st i).1 then manyTo st f (st i).2 else i
/-- A reading method goes on, and not over the end. -/
def Goes (n : Nat) (st : Nat → Bool × Nat) : Prop := ∀ i, i ≤ n → ((st i).1 = true → i < (st i).2 ∧ (st i).2 ≤ n) ∧ ((st i).1 = false → (st i).2 = i)
theorem manyTo_fuel {n : Nat} {st : Nat → Bool × Nat} (h : Goes n st) : ∀ (f i : Nat), i ≤ n → n - i ≤ f → manyTo st f i = manyTo st (n - i) i
  | 0, i, hi, hf => by
    have : n - i = 0 := by omega
    rw [this]
  | f + 1, i, hi, hf => by
    rw [manyTo]
    by_cases ht : (st i).1 = true
    · have h1 := (h i hi).1 ht
      rw [if_pos ht, manyTo_fuel h f _ h1.2 (by omega)]
      obtain ⟨m, hm⟩ : ∃ m, n - i = m + 1 := ⟨n - i - 1, by omega⟩
      rw [hm, manyTo, if_pos ht, manyTo_fuel h m _ h1.2 (by omega)]
    · rw [if_neg ht]
      cases hm : n - i with
      | zero => rfl
      | succ m => rw [manyTo, if_neg ht]
theorem manyTo_step {n : Nat} {st : Nat → Bool × Nat} (h : Goes n st) {i : Nat} (hi : i ≤ n) (ht : (st i).1 = true) : manyTo st (n - i) i = manyTo st (n - (st i).2) (st i).2 := by
  have h1 := (h i hi).1 ht
  obtain ⟨m, hm⟩ : ∃ m, n - i = m + 1 := ⟨n - i - 1, by omega⟩
  rw [hm, manyTo, if_pos ht, manyTo_fuel h m _ h1.2 (by omega)]
theorem manyTo_stop {n : Nat} {st : Nat → Bool × Nat} {i : Nat} (ht : (st i).1 = false) : manyTo st (n - i) i = i := by
  cases hm : n - i with
  | zero => rfl
  | succ m => rw [manyTo, if_neg (by rw [ht]; decide)]
theorem manyTo_ge {n : Nat} {st : Nat → Bool × Nat} (h : Goes n st) : ∀ (f i : Nat), i ≤ n → i ≤ manyTo st f i ∧ manyTo st f i ≤ n
  | 0, i, hi => ⟨Nat.le_refl _, hi⟩
  | f + 1, i, hi => by
    rw [manyTo]
    split
    · rename_i ht
      have h1 := (h i hi).1 ht
      have := manyTo_ge h f _ h1.2
      omega
    · exact ⟨Nat.le_refl _, hi⟩
theorem manyTo_end {n : Nat} {st : Nat → Bool × Nat} (h : Goes n st) (hn : (st n).1 = false) : ∀ (f i : Nat), i ≤ n → n - i ≤ f → (st (manyTo st f i)).1 = false
  | 0, i, hi, hf => by
    have : i = n := by omega
    rw [manyTo, this, hn]
  | f + 1, i, hi, hf => by
    rw [manyTo]
    split
    · rename_i ht
      have h1 := (h i hi).1 ht
      exact manyTo_end h hn f _ h1.2 (by omega)
    · rename_i ht; simpa using ht
def one (p : Nat → Bool) (i : Nat) : Bool × Nat := (p i, adv (p i) i)
theorem goes_one {n : Nat} {p : Nat → Bool} (h : ∀ i, p i = true → i < n) : Goes n (one p) := by
  intro i hi
  refine ⟨fun ht => ?_, fun ht => ?_⟩
  · simp only [one] at ht ⊢
    have := h i ht
    simp only [ht, adv, if_true]
    omega
  · simp only [one] at ht ⊢
    simp [ht, adv]
/-- Behind the blanks and one comment. -/
def sepS (s : ByteArray) (i : Nat) : Bool × Nat :=
  if inB s i 35 35 then (true, manyTo (one (isLine s)) (s.size - (i + 1)) (i + 1))
  else if inB s i 32 32 || inB s i 9 9 || inB s i 13 13 then (true, i + 1) else (false, i)
theorem sepS_eq (s : ByteArray) (i : Nat) : sepS s i = if inB s i 35 35 = true then (true, manyTo (one (isLine s)) (s.size - (i + 1)) (i + 1)) else if (inB s i 32 32 || inB s i 9 9 || inB s i 13 13) = true then (true, i + 1) else (false, i) := rfl
theorem goes_sep (s : ByteArray) : Goes s.size (sepS s) := by
  intro i hi
  unfold sepS
  by_cases h1 : inB s i 35 35 = true
  · have := inB_lt h1
    have g := manyTo_ge (goes_one (n := s.size) (p := isLine s) fun i h => isLine_lt h) (s.size - (i + 1)) (i + 1) (by omega)
    rw [if_pos h1]
    exact ⟨fun _ => ⟨by omega, g.2⟩, fun h => by cases h⟩
  · rw [if_neg h1]
    by_cases h2 : (inB s i 32 32 || inB s i 9 9 || inB s i 13 13) = true
    · have : i < s.size := by
        simp only [Bool.or_eq_true] at h2
        exact h2.elim (fun h => h.elim inB_lt inB_lt) inB_lt
      rw [if_pos h2]
      exact ⟨fun _ => ⟨by omega, by omega⟩, fun h => by cases h⟩
    · rw [if_neg h2]
      exact ⟨fun h => (by cases h), fun _ => rfl⟩
end Go.Proofs.YtngcahaidlgkfaaDoor.Tok
