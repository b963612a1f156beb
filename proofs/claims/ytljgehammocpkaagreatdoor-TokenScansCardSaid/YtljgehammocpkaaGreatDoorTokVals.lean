/-
  Layer 8: what the methods that read a token answer, as plain data: numbers, words, symbols.
-/
import Derived.Test.YtljgehammocpkaaGreatDoorTokP2
import Derived.Test.YtljgehammocpkaaGreatDoorTokRes
import Derived.Test.YtljgehammocpkaaGreatDoorNumReadP
namespace Go.Proofs.YtljgehammocpkaaGreatDoor.Tok
open Go.RowKit
set_option linter.unusedVariables false

def tokV (k at' len n : Int) (t : ByteArray) : Value := .agg #[.int .i64 k, .int .i64 at', .int .i64 len, .int .i64 n, .string t]
def fltV (k at' : Int) : Value := .agg #[.int .i64 k, .int .i64 at', .slice none 0 0, .slice none 0 0, .string ⟨#[]⟩]
/-- A token and where the scanner stands behind it; or an error and its offset. -/
inductive Tk where
  | tok (k n : Int) (t : ByteArray) (j : Nat)
  | bad (e : Int) (at' : Nat)
def Tk.val : Tk → Value
  | .tok k n t _ => .tuple #[tokV k 0 0 n t, fltV 0 0]
  | .bad e a => .tuple #[tokV 0 0 0 0 ⟨#[]⟩, fltV e a]
/-- Where the scanner stands behind a token; behind an error that is left open. -/
def Tk.at' (r : Tk) (j : Nat) : Prop := match r with
  | .tok _ _ _ j' => j = j'
  | .bad _ _ => True
/-- A method that reads a token answers r, and leaves the scanner behind it. -/
def Toks (s : ByteArray) (b : Nat) (w : World) (r : Tk) (e : Ending) (w' : World) : Prop := e = .returned r.val ∧ (∃ j, j ≤ s.size ∧ Sc w' b s j ∧ r.at' j) ∧ But b w w'

/-- The two blocks that a method's results are laid in, as they are laid. -/
def Res (w : World) (X : Nat) : Prop := w.heap[X]? = some (.cells #[.int .i64 0, .int .i64 0, .int .i64 0, .int .i64 0, .string ⟨#[]⟩] 62 (0, 0)) ∧ w.heap[X + 1]? = some (.cells #[.int .i64 0, .int .i64 0, .slice none 0 0, .slice none 0 0, .string ⟨#[]⟩] 27 (0, 0))
theorem Res.tok {w : World} {X : Nat} (h : Res w X) : w.cell? ⟨X, 0, none⟩ = some (.int .i64 0) ∧ w.cell? ⟨X, 1, none⟩ = some (.int .i64 0) ∧ w.cell? ⟨X, 2, none⟩ = some (.int .i64 0) ∧ w.cell? ⟨X, 3, none⟩ = some (.int .i64 0) ∧ w.cell? ⟨X, 4, none⟩ = some (.string ⟨#[]⟩) ∧
    w.frozen? ⟨X, 0, none⟩ = false ∧ w.frozen? ⟨X, 1, none⟩ = false ∧ w.frozen? ⟨X, 2, none⟩ = false ∧ w.frozen? ⟨X, 3, none⟩ = false ∧ w.frozen? ⟨X, 4, none⟩ = false := by
  obtain ⟨h, -⟩ := h
  refine ⟨?_, ?_, ?_, ?_, ?_, ?_, ?_, ?_, ?_, ?_⟩ <;> simp [World.cell?, World.frozen?, h]
theorem Res.flt {w : World} {X : Nat} (h : Res w X) : w.cell? ⟨X + 1, 0, none⟩ = some (.int .i64 0) ∧ w.cell? ⟨X + 1, 1, none⟩ = some (.int .i64 0) ∧ w.cell? ⟨X + 1, 2, none⟩ = some (.slice none 0 0) ∧ w.cell? ⟨X + 1, 3, none⟩ = some (.slice none 0 0) ∧ w.cell? ⟨X + 1, 4, none⟩ = some (.string ⟨#[]⟩) ∧
    w.frozen? ⟨X + 1, 0, none⟩ = false ∧ w.frozen? ⟨X + 1, 1, none⟩ = false ∧ w.frozen? ⟨X + 1, 2, none⟩ = false ∧ w.frozen? ⟨X + 1, 3, none⟩ = false ∧ w.frozen? ⟨X + 1, 4, none⟩ = false := by
  obtain ⟨-, h⟩ := h
  refine ⟨?_, ?_, ?_, ?_, ?_, ?_, ?_, ?_, ?_, ?_⟩ <;> simp [World.cell?, World.frozen?, h]
theorem Res.new (w : World) : Res ((w.alloc (.cells #[.int .i64 0, .int .i64 0, .int .i64 0, .int .i64 0, .string ⟨#[]⟩] 62)).alloc (.cells #[.int .i64 0, .int .i64 0, .slice none 0 0, .slice none 0 0, .string ⟨#[]⟩] 27)) w.heap.size := by
  have hs : (w.alloc (.cells #[.int .i64 0, .int .i64 0, .int .i64 0, .int .i64 0, .string ⟨#[]⟩] 62)).heap.size = w.heap.size + 1 := by simp
  refine ⟨((below_new _ _).block _ (by omega)).trans (heap_alloc_new w _), ?_⟩
  have := heap_alloc_new (w.alloc (.cells #[.int .i64 0, .int .i64 0, .int .i64 0, .int .i64 0, .string ⟨#[]⟩] 62)) (.cells #[.int .i64 0, .int .i64 0, .slice none 0 0, .slice none 0 0, .string ⟨#[]⟩] 27)
  rw [hs] at this
  exact this
theorem Res.drew {w : World} {X : Nat} (h : Res w X) : Res w.drew X := h
theorem Res.lt {w : World} {X : Nat} (h : Res w X) : X + 1 < w.heap.size := (Array.getElem?_eq_some_iff.1 h.2).1
theorem Res.but {w w' : World} {X b : Nat} (h : Res w X) (hb : But b w w') (hn : b < X) : Res w' X :=
  ⟨(hb.block X (by have := h.lt; omega) (by omega)).trans h.1, (hb.block (X + 1) h.lt (by omega)).trans h.2⟩
theorem Sc.put {w : World} {b : Nat} {s : ByteArray} {i : Nat} (h : Sc w b s i) {p : Addr} (hp : b < p.block) (v : Value) : Sc (w.setCell p v) b s i := h.keep (Below.heap_setCell _ _ _ _ (by omega))
theorem But.put {b : Nat} {w w' : World} (h : But b w w') {p : Addr} (hp : w.heap.size ≤ p.block) (v : Value) : But b w (w'.setCell p v) :=
  ⟨h.os, h.tape, h.output, by simpa [World.setCell] using h.size, fun k hk hb => (Below.heap_setCell _ _ _ _ (by omega)).trans (h.block k hk hb)⟩
theorem But.start (b : Nat) (w : World) (o1 o2 : Obj) : But b w ((w.alloc o1).alloc o2) := But.of (Below.then (below_new _ _) (below_new _ _))
theorem Sc.start {w : World} {b : Nat} {s : ByteArray} {i : Nat} (h : Sc w b s i) (o1 o2 : Obj) : Sc ((w.alloc o1).alloc o2) b s i := h.below (Below.then (below_new _ _) (below_new _ _))

/-- The results are stored: the scanner stands, and so does all else. -/
theorem stored {w w3 : World} {b j : Nat} {s : ByteArray} (hlt : b < w.heap.size) (h : Sc w3 b s j) (B : But b w w3) (a0 a1 a2 a3 a4 c0 c1 c2 c3 c4 : Value) :
    Sc ((((((((((w3.setCell ⟨w.heap.size, 0, none⟩ a0).setCell ⟨w.heap.size, 1, none⟩ a1).setCell ⟨w.heap.size, 2, none⟩ a2).setCell ⟨w.heap.size, 3, none⟩ a3).setCell ⟨w.heap.size, 4, none⟩ a4).setCell ⟨w.heap.size + 1, 0, none⟩ c0).setCell ⟨w.heap.size + 1, 1, none⟩ c1).setCell ⟨w.heap.size + 1, 2, none⟩ c2).setCell ⟨w.heap.size + 1, 3, none⟩ c3).setCell ⟨w.heap.size + 1, 4, none⟩ c4) b s j ∧ But b w ((((((((((w3.setCell ⟨w.heap.size, 0, none⟩ a0).setCell ⟨w.heap.size, 1, none⟩ a1).setCell ⟨w.heap.size, 2, none⟩ a2).setCell ⟨w.heap.size, 3, none⟩ a3).setCell ⟨w.heap.size, 4, none⟩ a4).setCell ⟨w.heap.size + 1, 0, none⟩ c0).setCell ⟨w.heap.size + 1, 1, none⟩ c1).setCell ⟨w.heap.size + 1, 2, none⟩ c2).setCell ⟨w.heap.size + 1, 3, none⟩ c3).setCell ⟨w.heap.size + 1, 4, none⟩ c4) := by
  constructor
  · iterate 10 refine Sc.put ?_ (by first | exact hlt | exact Nat.lt_succ_of_lt hlt) _
    exact h
  · iterate 10 refine But.put ?_ (by first | exact Nat.le_refl _ | exact Nat.le_succ _) _
    exact B

def numAt (s : ByteArray) (start j : Nat) : Tk :=
  if (Num.rdS (s.extract start j).data.toList).2 ≠ 0 ∨ isLet s j = true ∨ inB s j 95 95 = true then .bad 4 start else .tok 1 (Num.rdS (s.extract start j).data.toList).1 ⟨#[]⟩ j
def numS (s : ByteArray) (start i : Nat) : Tk := numAt s start (manyTo (one (isDig s)) (s.size - i) i)
def upB (l : List UInt8) : Bool := l.any fun c => decide (65 ≤ c.toNat ∧ c.toNat ≤ 90)
def wordAt (t : ByteArray) (start j : Nat) : Tk :=
  if resB t.toList = true then .tok 5 0 t j else if upB t.toList = true then .bad 6 start else if 32 < t.size then .bad 9 start else .tok 4 0 t j
def wordS (s : ByteArray) (start i : Nat) : Tk := wordAt (s.extract start (manyTo (one (isLD s)) (s.size - i) i)) start (manyTo (one (isLD s)) (s.size - i) i)
def symS (s : ByteArray) (i : Nat) : Tk :=
  if i + 2 ≤ s.size ∧ (signB (s.extract i (i + 2)).toList || resB (s.extract i (i + 2)).toList) = true then .tok 5 0 (s.extract i (i + 2)) (i + 2)
  else if signB (s.extract i (i + 1)).toList || resB (s.extract i (i + 1)).toList then .tok 5 0 (s.extract i (i + 1)) (i + 1)
  else .bad 6 i

set_option maxRecDepth 100000 in
set_option maxHeartbeats 4000000 in
theorem failedQ (e a : Int) (w : World) : Calls Tryz.prog 113 #[.int .i64 e, .int .i64 a] w fun r w' => r = .returned (.tuple #[.agg #[.int .i64 0, .int .i64 0, .int .i64 0, .int .i64 0, .string ⟨#[]⟩], .agg #[.int .i64 e, .int .i64 a, .slice none 0 0, .slice none 0 0, .string ⟨#[]⟩]]) ∧ Below w.heap.size w w' := by
  go_enter Tryz.func113, Tryz.ntmps113
  go_wp2
  go_returns
  exact ⟨rfl, Below.then (below_new _ _) (below_new _ _)⟩

end Go.Proofs.YtljgehammocpkaaGreatDoor.Tok
