/-
  Layer 8: characters of literals, as plain data; a result's block of a fault.
-/
import Derived.Test.YtljgehammocpkaaGreatDoorTokPlain
namespace Go.Proofs.YtljgehammocpkaaGreatDoor.Tok
open Go.RowKit
set_option linter.unusedVariables false

/-! ### A fault's block -/
def FRes (w : World) (X : Nat) : Prop := w.heap[X]? = some (.cells #[.int .i64 0, .int .i64 0, .slice none 0 0, .slice none 0 0, .string ⟨#[]⟩] 27 (0, 0))
theorem FRes.flt {w : World} {X : Nat} (h : FRes w X) : w.cell? ⟨X, 0, none⟩ = some (.int .i64 0) ∧ w.cell? ⟨X, 1, none⟩ = some (.int .i64 0) ∧ w.cell? ⟨X, 2, none⟩ = some (.slice none 0 0) ∧ w.cell? ⟨X, 3, none⟩ = some (.slice none 0 0) ∧ w.cell? ⟨X, 4, none⟩ = some (.string ⟨#[]⟩) ∧
    w.frozen? ⟨X, 0, none⟩ = false ∧ w.frozen? ⟨X, 1, none⟩ = false ∧ w.frozen? ⟨X, 2, none⟩ = false ∧ w.frozen? ⟨X, 3, none⟩ = false ∧ w.frozen? ⟨X, 4, none⟩ = false := by
  unfold FRes at h
  refine ⟨?_, ?_, ?_, ?_, ?_, ?_, ?_, ?_, ?_, ?_⟩ <;> simp [World.cell?, World.frozen?, h]
theorem FRes.new (w : World) : FRes (w.alloc (.cells #[.int .i64 0, .int .i64 0, .slice none 0 0, .slice none 0 0, .string ⟨#[]⟩] 27)) w.heap.size := heap_alloc_new w _
theorem FRes.lt {w : World} {X : Nat} (h : FRes w X) : X < w.heap.size := (Array.getElem?_eq_some_iff.1 h).1
theorem FRes.drew {w : World} {X : Nat} (h : FRes w X) : FRes w.drew X := h
theorem FRes.but {w w' : World} {X b : Nat} (h : FRes w X) (hb : But b w w') (hn : b < X) : FRes w' X := (hb.block X h.lt (by omega)).trans h
theorem storedF {w w3 : World} {b j : Nat} {s : ByteArray} (hlt : b < w.heap.size) (h : Sc w3 b s j) (B : But b w w3) (c0 c1 c2 c3 c4 : Value) :
    Sc (((((w3.setCell ⟨w.heap.size, 0, none⟩ c0).setCell ⟨w.heap.size, 1, none⟩ c1).setCell ⟨w.heap.size, 2, none⟩ c2).setCell ⟨w.heap.size, 3, none⟩ c3).setCell ⟨w.heap.size, 4, none⟩ c4) b s j ∧ But b w (((((w3.setCell ⟨w.heap.size, 0, none⟩ c0).setCell ⟨w.heap.size, 1, none⟩ c1).setCell ⟨w.heap.size, 2, none⟩ c2).setCell ⟨w.heap.size, 3, none⟩ c3).setCell ⟨w.heap.size, 4, none⟩ c4) := by
  constructor
  · iterate 5 refine Sc.put ?_ (by exact hlt) _
    exact h
  · iterate 5 refine But.put ?_ (by exact Nat.le_refl _) _
    exact B
theorem But.start1 (b : Nat) (w : World) (o1 : Obj) : But b w (w.alloc o1) := But.of (below_new _ _)
theorem Sc.start1 {w : World} {b : Nat} {s : ByteArray} {i : Nat} (h : Sc w b s i) (o1 : Obj) : Sc (w.alloc o1) b s i := h.below (below_new _ _)

/-! ### Characters -/
def hexV (l : List UInt8) : Nat := l.foldl (fun n c => 16 * n + (if c.toNat ≤ 57 then c.toNat - 48 else c.toNat - 87)) 0
/-- A code point in braces, from the brace on. -/
def cpS (s : ByteArray) (i : Nat) : Option (Nat × Nat) :=
  if inB s i 123 123 = true then
    if inB s (manyTo (one (isHex s)) (s.size - (i + 1)) (i + 1)) 125 125 = true ∧ manyTo (one (isHex s)) (s.size - (i + 1)) (i + 1) - (i + 1) ≤ 6 ∧ i + 1 < manyTo (one (isHex s)) (s.size - (i + 1)) (i + 1) ∧
        Lib.validRune (hexV (s.extract (i + 1) (manyTo (one (isHex s)) (s.size - (i + 1)) (i + 1))).data.toList : Int) = true then
      some (hexV (s.extract (i + 1) (manyTo (one (isHex s)) (s.size - (i + 1)) (i + 1))).data.toList, manyTo (one (isHex s)) (s.size - (i + 1)) (i + 1) + 1)
    else none
  else none
/-- An escape, from behind its backslash. -/
def escS (s : ByteArray) (i : Nat) : Option (Nat × Nat) :=
  if inB s i 110 110 = true then some (10, i + 1) else if inB s i 116 116 = true then some (9, i + 1) else if inB s i 114 114 = true then some (13, i + 1)
  else if inB s i 92 92 = true then some (92, i + 1) else if inB s i 39 39 = true then some (39, i + 1) else if inB s i 34 34 = true then some (34, i + 1)
  else if inB s i 117 117 = true then cpS s (i + 1) else none
inductive Ch where
  | ok (c : Nat) (j : Nat)
  | bad (e : Int) (at' : Nat)
def chOf (i : Nat) : Option (Nat × Nat) → Ch
  | some (c, j) => .ok c j
  | none => .bad 3 i
def charS (s : ByteArray) (start i : Nat) : Ch :=
  if endL s i = true then .bad 5 start
  else if inB s i 92 92 = true then chOf i (escS s (i + 1))
  else if plainB (Utf8.decode s i).1 (Utf8.decode s i).2 = true then .ok (Utf8.decode s i).1 (i + (Utf8.decode s i).2) else .bad 3 i
def Ch.val : Ch → Value
  | .ok c _ => .tuple #[.int .i32 (c : Int), fltV 0 0]
  | .bad e a => .tuple #[.int .i32 0, fltV e a]
def Ch.at' (r : Ch) (j : Nat) : Prop := match r with
  | .ok _ j' => j = j'
  | .bad _ _ => True
def Chars (s : ByteArray) (b : Nat) (w : World) (r : Ch) (e : Ending) (w' : World) : Prop := e = .returned r.val ∧ (∃ j, j ≤ s.size ∧ Sc w' b s j ∧ r.at' j) ∧ But b w w'
/-- What is asked of the escapes of a text. -/
def EscOK (s : ByteArray) : Prop := ∀ (w : World) (b i : Nat), i ≤ s.size → 0 < i → inB s (i - 1) 92 92 = true → 7 < b → Tabs w → Sc w b s i →
  Calls Tryz.prog 156 #[.pointer (some ⟨b, 0, none⟩)] w fun e w' => ∃ (c0 : Int) (j : Nat), e = .returned (.tuple #[.int .i32 c0, .bool (escS s i).isSome]) ∧ j ≤ s.size ∧ Sc w' b s j ∧ But b w w' ∧ (∀ c k, escS s i = some (c, k) → c0 = (c : Int) ∧ j = k)
theorem many_le (s : ByteArray) (i : Nat) (h : i ≤ s.size) : i ≤ manyTo (one (isHex s)) (s.size - i) i ∧ manyTo (one (isHex s)) (s.size - i) i ≤ s.size :=
  manyTo_ge (goes_one (n := s.size) fun i h => isHex_lt h) _ _ h
theorem cpS_le {s : ByteArray} {i c j : Nat} (h : cpS s i = some (c, j)) : i < j ∧ j ≤ s.size ∧ c ≤ 1114111 := by
  unfold cpS at h
  split at h
  · rename_i h1
    split at h
    · rename_i h2
      have := inB_lt h1
      have g := many_le s (i + 1) (by omega)
      have g2 := inB_lt h2.1
      simp only [Option.some.injEq, Prod.mk.injEq] at h
      have hv := h2.2.2.2
      rw [h.1] at hv
      simp only [Lib.validRune, decide_eq_true_eq] at hv
      omega
    · cases h
  · cases h
theorem escS_le {s : ByteArray} {i c j : Nat} (h : escS s i = some (c, j)) : i < j ∧ j ≤ s.size ∧ c ≤ 1114111 := by
  unfold escS at h
  have go : ∀ {x : Int} {k : Nat}, inB s i x x = true → (some (k, i + 1) : Option (Nat × Nat)) = some (c, j) → k ≤ 1114111 → i < j ∧ j ≤ s.size ∧ c ≤ 1114111 := fun hb he hk => by
    have := inB_lt hb
    simp only [Option.some.injEq, Prod.mk.injEq] at he
    omega
  split at h
  · rename_i hb; exact go hb h (by decide)
  split at h
  · rename_i hb; exact go hb h (by decide)
  split at h
  · rename_i hb; exact go hb h (by decide)
  split at h
  · rename_i hb; exact go hb h (by decide)
  split at h
  · rename_i hb; exact go hb h (by decide)
  split at h
  · rename_i hb; exact go hb h (by decide)
  split at h
  · have := cpS_le h
    omega
  · cases h
theorem endL_lt {s : ByteArray} {i : Nat} (h : ¬ endL s i = true) : i < s.size := by
  unfold endL at h
  split at h
  · assumption
  · exact absurd rfl h
theorem charS_le {s : ByteArray} {start i c j : Nat} (h : charS s start i = .ok c j) : i < j ∧ j ≤ s.size ∧ c ≤ 1114111 := by
  unfold charS at h
  split at h
  · cases h
  · rename_i he
    have hlt := endL_lt he
    split at h
    · cases hx : escS s (i + 1) with
      | none => rw [hx] at h; cases h
      | some q =>
        obtain ⟨c', j'⟩ := q
        rw [hx] at h
        injection h with h1 h2
        have := escS_le hx
        omega
    · split at h
      · injection h with h1 h2
        have := dec_pos s i hlt
        omega
      · cases h
end Go.Proofs.YtljgehammocpkaaGreatDoor.Tok
