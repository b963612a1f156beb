/-
  Layer 8: the scanner's method that reads a string literal. (Written by wip/gen/token-slit.py.)
-/
import Derived.Test.YtljgehammocpkaaGreatDoorTokClit
namespace Go.Proofs.YtljgehammocpkaaGreatDoor.Tok
open Go.RowKit
set_option linter.unusedVariables false
set_option linter.unusedSimpArgs false

def strGo (s : ByteArray) (start : Nat) : Nat → Nat → List UInt8 → Tk
  | 0, _, _ => .bad 5 start
  | f + 1, i, acc => if inB s i 34 34 = true then .tok 3 0 ⟨acc.toArray⟩ (i + 1) else match charS s start i with
    | .bad e a => .bad e a
    | .ok c j => strGo s start f j (acc ++ Lib.encodeRune (c : Int))
def strS (s : ByteArray) (start i : Nat) : Tk := strGo s start (s.size + 1 - i) i []
/-- The builder of a text. -/
def Bld (w : World) (X : Nat) (l : List UInt8) : Prop := Lib.IsBuilderF 116 5 X X (Lib.byteCells l) w
theorem Bld.lt {w : World} {X : Nat} {l : List UInt8} (h : Bld w X l) : X < w.heap.size := h.elim (fun x => x.lt) (fun x => x.lt)
theorem Bld.but {w w' : World} {X b : Nat} {l : List UInt8} (h : Bld w X l) (hb : But b w w') (hn : b < X) : Bld w' X l := by
  have go : ∀ p, Lib.BuilderAtF 116 5 X X p (Lib.byteCells l) w → Lib.BuilderAtF 116 5 X X p (Lib.byteCells l) w' := fun p h => by
    have hlt := h.lt
    obtain ⟨hB, v, hv, hown, hne⟩ := h
    refine ⟨hB, v, (hb.block X hlt (by omega)).trans hv, hown.kept (row := some b) ⟨hb.os, hb.tape, hb.output, hb.size, fun k hk q => hb.block k hk (fun e => q (by rw [e]))⟩ ?_, hne⟩
    rcases hv : v.ownBlock with _ | g
    · exact Or.inl rfl
    · right
      have := (hown.lt g hv).1
      intro e
      injection e with e
      omega
  exact h.elim (fun x => .inl (go _ x)) (fun x => .inr (go _ x))
theorem Bld.drew {w : World} {X : Nat} {l : List UInt8} (h : Bld w X l) : Bld w.drew X l := h.elim (fun x => .inl x.drew) (fun x => .inr x.drew)
theorem Bld.new (w : World) : Bld (w.alloc (.cells #[.pointer none, .slice none 0 0] 116)) w.heap.size [] :=
  .inl ⟨Nat.le_refl _, _, heap_alloc_new w _, World.ownsRowF_nil _ _ _ _, by simp [Value.ownBlock]⟩
theorem Sc.belowB {w w' : World} {B b : Nat} {s : ByteArray} {i : Nat} (h : Sc w b s i) (hb : Below B w w') (hlt : b < B) : Sc w' b s i := h.keep (hb.block b hlt)
theorem Res.belowB {w w' : World} {B X : Nat} (h : Res w X) (hb : Below B w w') (hlt : X + 1 < B) : Res w' X := ⟨(hb.block X (by omega)).trans h.1, (hb.block (X + 1) hlt).trans h.2⟩
theorem But.belowB {w w1 w2 : World} {B b : Nat} (h : But b w w1) (hb : Below B w1 w2) (hB : w.heap.size ≤ B) : But b w w2 :=
  ⟨hb.os.trans h.os, hb.tape.trans h.tape, hb.output.trans h.output, Nat.le_trans h.size hb.size, fun k hk hn => (hb.block k (by omega)).trans (h.block k hk hn)⟩
/-- One rune more. -/
theorem writeRuneQ (w : World) (X c : Nat) (l : List UInt8) (hc : c ≤ 1114111) (hl : l.length ≤ 1000000) (h : Bld w X l) :
    Calls Tryz.prog 117 #[.pointer (some ⟨X, 0, none⟩), .int .i32 (c : Int)] w fun e w' => (∃ n, e = .returned (.tuple #[.int .i64 n, .nilIface])) ∧ Bld w' X (l ++ Lib.encodeRune (c : Int)) ∧ Below X w w' := by
  refine (Tryz.Builder_WriteRune_k X X (Lib.byteCells l) (c : Int) (by omega) (by omega) w h (by rw [Lib.byteCells_length]; omega) (Nat.le_of_lt h.lt)).mono ?_
  rintro e w' ⟨rfl, h1, h2, -⟩
  refine ⟨⟨_, rfl⟩, ?_, h2⟩
  rw [Bld, Lib.byteCells_append, Lib.byteCells_encodeRune]
  exact .inr h1
theorem stringQ (w : World) (X : Nat) (l : List UInt8) (h : Bld w X l) :
    Calls Tryz.prog 99 #[.pointer (some ⟨X, 0, none⟩)] w fun e w' => e = .returned (.string ⟨l.toArray⟩) ∧ Below X w w' := by
  refine (Tryz.Builder_String_any_k X X l w h (Nat.le_of_lt h.lt)).mono ?_
  rintro e w' ⟨rfl, -, h2, -⟩
  exact ⟨rfl, h2⟩
end Go.Proofs.YtljgehammocpkaaGreatDoor.Tok
