/-
  Layer 9: bytes gathered in a list of one's own (as layer 5's), behind an iterator.
-/
import Derived.Test.YtmnomkcgkjccgaaLitMath
import Derived.Lib.AppendStr
import Derived.Laws.IdiomStrings
import Derived.Laws.RangeAny
import Derived.Lib.OthersKept
namespace Go.Proofs.Ytmnomkcgkjccgaa.Lit
open Go.RowKit
set_option linter.unusedVariables false
set_option linter.unusedSimpArgs false
set_option maxRecDepth 100000

def bc (L : List UInt8) : List Value := L.map (fun b => Value.int .u8 (b.toNat : Int))
theorem bc_len (L : List UInt8) : (bc L).length = L.length := by simp [bc]
theorem bc_app (a b : List UInt8) : bc (a ++ b) = bc a ++ bc b := by simp [bc]
theorem byteInfo : (Try.prog.info? 5).map (fun i => (i.zero, i.size, i.bytes)) = some (some (.int .u8 0), 1, 1) := by kernel_rfl
/-- v holds the bytes L in a block of its own, at or above B. -/
def OB (w : World) (B : Nat) (v : Value) (L : List UInt8) : Prop := w.ownsRow B 5 1 v L.length (bc L)
theorem OB.nil (w : World) (B : Nat) : OB w B (.slice none 0 0) [] := World.ownsRow_nil _ _ _ _
theorem OB.keep {w w' : World} {B : Nat} {v : Value} {L : List UInt8} (h : OB w B v L) (hb : ∀ k, B ≤ k → k < w.heap.size → w'.heap[k]? = w.heap[k]?) : OB w' B v L := by
  refine ⟨h.1, ?_⟩
  rcases h.2 with h | ⟨g, cap, cur, hv, hg, hh, r⟩
  · exact Or.inl h
  · exact Or.inr ⟨g, cap, cur, hv, hg, (hb g hg (Array.getElem?_eq_some_iff.1 hh).1).trans hh, r⟩
theorem OB.below {w w' : World} {B : Nat} {v : Value} {L : List UInt8} (h : OB w B v L) (hb : Below w.heap.size w w') : OB w' B v L := h.keep fun k _ hk => hb.block k hk
theorem OB.form {w : World} {B : Nat} {v : Value} {L : List UInt8} (h : OB w B v L) : ∃ p c, v = .slice p L.length c := by
  rcases h.2 with ⟨rfl, e⟩ | ⟨g, cap, cur, hv, hg, hh, r⟩
  · exact ⟨none, 0, by rw [e]⟩
  · exact ⟨_, cap, hv⟩
theorem OB.iterAt {w : World} {B : Nat} {v : Value} {L : List UInt8} (h : OB w B v L) {k : Nat} (hk : k < B) (s : ByteArray) (p : Nat) : OB (w.iterAt k s p) B v L :=
  h.keep fun j hj _ => Lib.iterAt_other _ _ _ _ _ (by omega)
theorem cells_bc (S : List UInt8) : Go.Lib.strCells ⟨S.toArray⟩ = bc S := by simp [Go.Lib.strCells, bc]
/-- out = append(out, s...) -/
theorem wpList_ob_text {ops : Array Oper} {rest : List Oper} {o : Oper} {a : Act} {w : World} {Q : Exit → Act → World → Prop} (hgd : o.guard = none) (s x : Operand)
    (ho : o.op = .call { callee := .builtin .append, args := #[s, x], argTypes := #[36, 9] }) (B : Nat)
    (v : Value) (hs : a.eval s = v) (L : List UInt8) (hown : OB w B v L) (hB : B ≤ w.heap.size)
    (S : List UInt8) (s' : ByteArray) (hS : s' = ⟨S.toArray⟩) (hx : a.eval x = .string s') (hl : L.length + S.length ≤ 100000000)
    (h : ∀ v' w', OB w' B v' (L ++ S) → Below B w w' → wpList Try.prog ops Q rest (a.put o.dst v') w') :
    wpList Try.prog ops Q (o :: rest) a w := by
  subst hS
  obtain ⟨i0, hi, hz0, hz1, hz2⟩ := info_parts byteInfo
  have e : (ByteArray.mk S.toArray).size = S.length := by simp [ByteArray.size]
  refine Go.Lib.wpList_append_own_string (P := Try.prog) w hgd _ _ 36 9 ho B 5 i0 Try.underlying36 Try.underlying9 hi hz0 hz1 hz2 v L.length (bc L) hs hown ⟨S.toArray⟩ hx (by rw [e]; unfold maxLen; omega) (by rw [e]; omega) hB ?_
  intro v' w' hown' hgrow _
  refine h v' w' ?_ ((Below.refl B w).grown hgrow hB (fun j hj => (hown.lt j hj).1))
  rw [e, cells_bc] at hown'
  unfold OB
  rw [List.length_append, bc_app]
  exact hown'
/-- text = append(text, c) -/
theorem wpList_ob_byte {ops : Array Oper} {rest : List Oper} {o : Oper} {a : Act} {w : World} {Q : Exit → Act → World → Prop} (hgd : o.guard = none) (s x : Operand)
    (ho : o.op = .call { callee := .builtin .append, args := #[s, x], argTypes := #[36, 36] }) (B : Nat) (W : World) (c : Int) (hw : w = W.alloc (.cells #[.int .u8 c] 5))
    (v : Value) (hs : a.eval s = v) (L : List UInt8) (hown : OB W B v L) (hB : B ≤ W.heap.size)
    (b : UInt8) (hc : c = b.toNat) (hx : a.eval x = .slice (some ⟨W.heap.size, 0, none⟩) 1 1) (hl : L.length ≤ 100000000)
    (h : ∀ v' w', OB w' B v' (L ++ [b]) → Below B W w' → wpList Try.prog ops Q rest (a.put o.dst v') w') :
    wpList Try.prog ops Q (o :: rest) a w := by
  subst hw; subst hc
  obtain ⟨i0, hi, hz0, hz1, hz2⟩ := info_parts byteInfo
  refine wpList_append_own _ hgd _ _ 36 ho B 5 i0 (.int .u8 0) 1 1 Try.underlying36 hi hz0 hz1 hz2 rfl (by decide) v L.length (bc L) hs (World.ownsRow.alloc hown _) ⟨W.heap.size, 0, none⟩ 1 1 [.int .u8 (b.toNat : Int)] hx rfl ?_ ?_ (by unfold maxLen; omega) (by omega) (by simp; omega) ?_
  · intro j u hj
    match j, hj with
    | 0, hj => simp at hj; subst hj; simp [Addr.add]
  · intro u hu; simp at hu; subst hu; rfl
  · intro v' w' hown' hgrow _
    refine h v' w' ?_ (((Below.refl B W).alloc hB _).grown hgrow (by simp; omega) (fun j hj => (World.ownsRow.lt hown j hj).1))
    unfold OB
    rw [List.length_append, bc_app]
    exact hown'
/-- string(text) -/
theorem OB.text {w : World} {B : Nat} {v : Value} {L : List UInt8} (h : OB w B v L) :
    (convert 36 9 v).run Try.prog w = .ok (.string ⟨L.toArray⟩) w := by
  have h' := h
  rcases h'.2 with ⟨rfl, h0⟩ | ⟨g, cap, cur, rfl, hg, hh, hnc, hcm, hcs, htake⟩
  · have hx : L = [] := List.eq_nil_of_length_eq_zero h0
    subst hx
    exact (by kernel_rfl : (convert 36 9 (.slice none 0 0)).run Try.prog w = .ok (.string ⟨#[]⟩) w)
  · refine run_convert_bytes_back w 36 9 5 ⟨g, 0, none⟩ cap L Try.underlying36 Try.underlying5 Try.underlying9 (fun j hj => ?_)
    rw [show (⟨g, 0, none⟩ : Addr).add j = ⟨g, j, none⟩ by unfold Addr.add; split <;> simp_all, World.ownsRow.cellAt h j (by omega)]
    simp [bc, hj]
theorem iterPos_of {w : World} {k : Nat} {s : ByteArray} {p : Nat} (h : w.heap[k]? = some (.stringIter s p)) : w.iterPos k = p := by simp [World.iterPos, h]
theorem heap_alloc_new (w : World) (o : Obj) : (w.alloc o).heap[w.heap.size]? = some o := by
  show (w.heap.push o)[w.heap.size]? = _
  simp
end Go.Proofs.Ytmnomkcgkjccgaa.Lit
