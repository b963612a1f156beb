/-
  Layer 9: the program's Quote.
-/
import Derived.Test.YtmnomkcgkjccgaaLitP3
namespace Go.Proofs.Ytmnomkcgkjccgaa.Lit
open Go.RowKit
set_option linter.unusedVariables false
set_option linter.unusedSimpArgs false

theorem OB.iterAt' {w : World} {B : Nat} {v : Value} {L : List UInt8} (h : OB w B v L) {k : Nat} {s : ByteArray} {p : Nat} (hk : w.heap[k]? = some (.stringIter s p)) (p' : Nat) : OB (w.iterAt k s p') B v L := by
  refine ⟨h.1, ?_⟩
  rcases h.2 with h0 | ⟨g, cap, cur, hv, hb, hg, rest⟩
  · exact .inl h0
  · refine .inr ⟨g, cap, cur, hv, hb, ?_, rest⟩
    rw [Lib.iterAt_other _ _ _ _ _ (fun e => by subst e; rw [hk] at hg; cases hg)]
    exact hg
theorem OB.ne_iter {w : World} {B : Nat} {v : Value} {L : List UInt8} (h : OB w B v L) {k : Nat} {s : ByteArray} {p : Nat} (hk : w.heap[k]? = some (.stringIter s p)) : some k ≠ v.ownBlock := by
  rcases h.2 with ⟨rfl, _⟩ | ⟨g, cap, cur, rfl, hb, hg, rest⟩
  · simp [Value.ownBlock]
  · intro e
    simp only [Value.ownBlock, Option.some.injEq] at e
    subst e
    rw [hk] at hg
    cases hg
/-- out = append(out, s...), an iterator by its side -/
theorem wpList_ob_textI {ops : Array Oper} {rest : List Oper} {o : Oper} {a : Act} {w : World} {Q : Exit → Act → World → Prop} (hgd : o.guard = none) (s x : Operand)
    (ho : o.op = .call { callee := .builtin .append, args := #[s, x], argTypes := #[36, 9] }) (B : Nat)
    (v : Value) (hs : a.eval s = v) (L : List UInt8) (hown : OB w B v L) (hB : B ≤ w.heap.size) (k : Nat) (u : ByteArray) (p : Nat) (hk : w.heap[k]? = some (.stringIter u p))
    (S : List UInt8) (s' : ByteArray) (hS : s' = ⟨S.toArray⟩) (hx : a.eval x = .string s') (hl : L.length + S.length ≤ 100000000)
    (h : ∀ v' w', OB w' B v' (L ++ S) → Below B w w' → w'.heap[k]? = some (.stringIter u p) → wpList Try.prog ops Q rest (a.put o.dst v') w') :
    wpList Try.prog ops Q (o :: rest) a w := by
  subst hS
  obtain ⟨i0, hi, hz0, hz1, hz2⟩ := info_parts byteInfo
  have e : (ByteArray.mk S.toArray).size = S.length := by simp [ByteArray.size]
  have hne := hown.ne_iter hk
  refine Go.Lib.wpList_append_own_string (P := Try.prog) w hgd _ _ 36 9 ho B 5 i0 Try.underlying36 Try.underlying9 hi hz0 hz1 hz2 v L.length (bc L) hs hown ⟨S.toArray⟩ hx (by rw [e]; unfold maxLen; omega) (by rw [e]; omega) hB ?_
  intro v' w' hown' hgrow _
  refine h v' w' ?_ ((Below.refl B w).grown hgrow hB (fun j hj => (World.ownsRow.lt hown j hj).1)) ((hgrow.block k (Array.getElem?_eq_some_iff.1 hk).1 hne).trans hk)
  rw [e, cells_bc] at hown'
  unfold OB
  rw [List.length_append, bc_app]
  exact hown'
theorem OB.one (w : World) (x : UInt8) : OB (w.alloc (.cells #[.int .u8 (x.toNat : Int)] 5)) w.heap.size (.slice (some ⟨w.heap.size, 0, none⟩) 1 1) [x] := by
  have h := World.ownsRow_lit (base := w.heap.size) (e := 5) (size := 1) w (bc [x]).toArray 1 (Nat.le_refl _) (by unfold maxLen; omega) (by simp [bc])
  exact h

set_option maxRecDepth 100000 in
set_option maxHeartbeats 8000000 in
theorem quoteQ (s : ByteArray) (hs : s.size ≤ 200000) (w : World) :
    Calls Try.prog 7 #[.string s] w fun e w' => e = .returned (.string ⟨(quoteS s).toArray⟩) ∧ Below w.heap.size w w' := by
  obtain ⟨r, hr⟩ : ∃ r, Hid ([34] ++ quoGo 34 s s.size 0 = r) := ⟨[34] ++ quoGo 34 s s.size 0, rfl⟩
  have hrq : quoteS s = r ++ [34] := by rw [← hr.out]; rfl
  rw [hrq]
  clear hrq
  have O0 := (OB.one w 34).below (below_new (w.alloc (.cells #[.int .u8 34] 5)) (.stringIter s 0))
  have I0 : ((w.alloc (.cells #[.int .u8 34] 5)).alloc (.stringIter s 0)).heap[w.heap.size + 1]? = some (.stringIter s 0) := by
    have := heap_alloc_new (w.alloc (.cells #[.int .u8 34] 5)) (.stringIter s 0)
    rw [show (w.alloc (.cells #[.int .u8 34] 5)).heap.size = w.heap.size + 1 by simp] at this
    exact this
  have B0 := Below.then (below_new w (.cells #[.int .u8 34] 5)) (below_new _ (.stringIter s 0))
  go_enter Try.func7, Try.ntmps7
  go_wp2
  go_loopw [3, 5] (fun v _ wr => ∃ (pos f : Nat) (L : List UInt8), OB wr w.heap.size v L ∧ wr.heap[w.heap.size + 1]? = some (.stringIter s pos) ∧ Below w.heap.size w wr ∧ Hid (L ++ quoGo 34 s f pos = r) ∧ s.size ≤ pos + f ∧ pos ≤ s.size ∧ L.length ≤ 1 + 6 * pos) (fun _ _ wr => s.size - wr.iterPos (w.heap.size + 1))
  case atStart => exact ⟨0, s.size, [34], O0, I0, B0, hr, by omega, by omega, by simp⟩
  case round =>
    clear O0 I0 B0 hr
    obtain ⟨pos, f, L, O0, I0, B0, hr, hf, hps, hL⟩ := hrel
    have hp0 := iterPos_of I0
    have hlt1 := (Array.getElem?_eq_some_iff.1 I0).1
    by_cases hp : pos < s.size
    · obtain ⟨f', rfl⟩ : ∃ f', f = f' + 1 := ⟨f - 1, by omega⟩
      obtain ⟨d0, d1, d2, d3⟩ := dec_pos s pos hp
      have hnx : ∀ ty, (Instr.next (.pointer (some ⟨w.heap.size + 1, 0, none⟩)) true ty).run Try.prog wr = _ := fun ty => Lib.run_next_any_at wr (w.heap.size + 1) s pos ty I0 hp
      have I1 := Lib.iterAt_heap wr (w.heap.size + 1) s pos (pos + (Utf8.decode s pos).2) I0
      have O1 := O0.iterAt' I0 (pos + (Utf8.decode s pos).2)
      have B1 := Lib.below_iterAt B0 (k := w.heap.size + 1) (by omega) s (pos + (Utf8.decode s pos).2)
      have hr2 := hr.out
      rw [quoGo, if_pos hp, ← List.append_assoc] at hr2
      generalize wr.iterAt (w.heap.size + 1) s (pos + (Utf8.decode s pos).2) = W1 at *
      generalize Utf8.decode s pos = cz at *
      obtain ⟨c, z⟩ := cz
      simp only [] at *
      have cS := shortQ 34 c
      have hcl := chW_len 34 c
      have hlt2 := (Array.getElem?_eq_some_iff.1 I1).1
      clear hr O0 I0 B0
      go_wp2_with (first
        | (go_at_call 15; refine (cS _).mono ?_; rintro e1 w1 ⟨rfl, b1⟩; have O2 := O1.below b1; have I2 := (b1.block _ hlt2).trans I1; have B2 := Below.then B1 b1; have hs2 := B2.size)
        | (at_builtin; refine wpList_ob_textI rfl _ _ rfl w.heap.size _ rfl L O2 hs2 (w.heap.size + 1) s (pos + z) I2 (chW 34 c) _ rfl rfl (by omega) ?_; intro v3 w3 O3 b3 I3; have B3 := B2.trans b3))
      go_roundw
      case rel => exact ⟨pos + z, f', _, O3, I3, B3, hr2, by omega, by omega, by rw [List.length_append]; omega⟩
      case measure => rw [iterPos_of I3, hp0]; omega
    · have hnx : ∀ ty, (Instr.next (.pointer (some ⟨w.heap.size + 1, 0, none⟩)) true ty).run Try.prog wr = _ := fun ty => Lib.run_next_end_at wr (w.heap.size + 1) s pos ty I0 hp
      have hr2 : r = L := by rw [← hr.out, quoGo_end hp, List.append_nil]
      subst hr2
      have hs2 := B0.size
      go_wp2_with (at_builtin; refine wpList_ob_byte rfl _ _ rfl w.heap.size wr 34 rfl _ rfl _ O0 hs2 34 rfl rfl (by omega) ?_; intro v3 w3 O3 b3; have B3 := B0.trans b3; have hcv := O3.text)
      go_ret
      exact ⟨rfl, B3⟩
end Go.Proofs.Ytmnomkcgkjccgaa.Lit
