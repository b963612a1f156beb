/-
  Layer 9: the program's read.
-/
import Derived.Test.YtmnomkcgkjccgaaLitP7
namespace Go.Proofs.Ytmnomkcgkjccgaa.Lit
open Go.RowKit
set_option linter.unusedVariables false
set_option linter.unusedSimpArgs false

theorem St.add_inv (q c : Nat) (x : St) : (x.add q c).te.length ≤ x.te.length + 4 ∧ (x.add q c).co = x.co ∧ (x.add q c).ct = x.ct := by
  have := (enc_len c).2
  refine ⟨?_, rfl, rfl⟩
  show (x.te ++ Lib.encodeRune (c : Int)).length ≤ _
  rw [List.length_append]; omega
def Inv (x : St) : Prop := x.co < 16 ^ x.ct ∧ x.ct ≤ 6
theorem add_ok {q c : Nat} {x y : St} (h : (Ot.st (x.add q c)) = .st y) (hi : Inv x) : Inv y ∧ y.te.length ≤ x.te.length + 4 := by
  injection h with h
  subst h
  exact ⟨hi, (St.add_inv q c x).1⟩
theorem inS_inv {q c : Nat} {x y : St} (h : inS q c x = .st y) (hi : Inv x) : Inv y ∧ y.te.length ≤ x.te.length + 4 := by
  unfold inS at h
  split at h
  · injection h with h; subst h; exact ⟨hi, by simp⟩
  split at h
  · exact add_ok h hi
  split at h
  · injection h with h; subst h; exact ⟨hi, by simp⟩
  · cases h
theorem escS_inv {q c : Nat} {x y : St} (h : escS q c x = .st y) (hi : Inv x) : Inv y ∧ y.te.length ≤ x.te.length + 4 := by
  unfold escS at h
  split at h
  · exact add_ok h hi
  split at h
  · exact add_ok h hi
  split at h
  · exact add_ok h hi
  split at h
  · exact add_ok h hi
  split at h
  · injection h with h; subst h; exact ⟨hi, by simp⟩
  · cases h
theorem braS_inv {c : Nat} {x y : St} (h : braS c x = .st y) (hi : Inv x) : Inv y ∧ y.te.length ≤ x.te.length + 4 := by
  unfold braS at h
  split at h
  · cases h
  · injection h with h; subst h; exact ⟨⟨Nat.one_pos, Nat.zero_le _⟩, by simp⟩
theorem digS_inv {q c : Nat} {x y : St} (h : digS q c x = .st y) (hi : Inv x) : Inv y ∧ y.te.length ≤ x.te.length + 4 := by
  unfold digS at h
  cases hv : hexV c with
  | some v =>
    rw [hv] at h
    simp only at h
    have := hexV_bd hv
    split at h
    · rename_i h6
      injection h with h; subst h
      refine ⟨⟨?_, h6⟩, by simp⟩
      have h1 := hi.1
      show x.co * 16 + v < 16 ^ (x.ct + 1)
      rw [Nat.pow_succ]
      omega
    · cases h
  | none =>
    rw [hv] at h
    simp only at h
    split at h
    · exact add_ok h hi
    · cases h
theorem nextS_inv {q c : Nat} {en : Bool} {x y : St} (h : nextS q c en x = .st y) (hi : Inv x) : Inv y ∧ y.te.length ≤ x.te.length + 4 := by
  unfold nextS at h
  split at h
  · cases h
  split at h
  · cases h
  split at h
  · injection h with h; subst h; exact ⟨hi, by simp⟩
  split at h
  · exact inS_inv h hi
  split at h
  · exact escS_inv h hi
  split at h
  · exact braS_inv h hi
  split at h
  · exact digS_inv h hi
  split at h
  · injection h with h; subst h; exact ⟨hi, by simp⟩
  · injection h with h; subst h; exact ⟨hi, by simp⟩
theorem nextS_bad {q c : Nat} {en : Bool} {x : St} {e : Int} (h : nextS q c en x = .bad e) : e = 3 ∨ e = 5 := by
  unfold nextS inS escS braS digS at h
  repeat' split at h
  all_goals first
    | (injection h with h; omega)
    | cases h
theorem begB_drop (s : ByteArray) (i c : Nat) : begB (s.extract i s.size).data.toList c = begB (s.data.toList.drop i) c := by
  rw [extract_list, List.take_of_length_le]
  rw [List.length_drop, ← Lib.size_eq]
  exact Nat.le_refl _
def Rd.val : Rd → Value
  | .bad e => .tuple #[.string ⟨#[]⟩, .int .i64 0, .int .i64 e]
  | .ok t n => .tuple #[.string ⟨t.toArray⟩, .int .i64 (n : Int), .int .i64 0]
theorem RB.iterAt {w : World} {b B q : Nat} {v : Value} {x : St} (h : RB w b B q v x) (k : Nat) (hk : k < B) (hb : k ≠ b) (s : ByteArray) (p : Nat) : RB (w.iterAt k s p) b B q v x :=
  ⟨h.1, by rw [Lib.iterAt_size]; exact h.2.1, (Lib.iterAt_other _ _ _ _ _ (Ne.symm hb)).trans h.2.2.1, h.2.2.2.iterAt hk s p⟩
theorem Fr.below {b B : Nat} {w0 w w' : World} (hw : Below w0.heap.size w0 w) (h : Fr b B w w') (hb : w0.heap.size ≤ b) (hB : w0.heap.size ≤ B) : Below w0.heap.size w0 w' :=
  hw.trans ⟨h.os, h.tape, h.output, h.size, fun k hk => h.block k (by omega) (by omega)⟩
theorem RB.new (w : World) (q : Nat) (o : Obj) : RB ((w.alloc (.cells #[.int .i32 (q : Int), .int .i64 0, .slice none 0 0, .int .i32 0, .int .i64 0] 45)).alloc o) w.heap.size (w.heap.size + 2) q (.slice none 0 0) ⟨0, [], 0, 0⟩ := by
  refine ⟨by omega, by simp, ?_, OB.nil _ _⟩
  rw [Below.heap_alloc _ _ _ (by simp), heap_alloc_new]
  rfl

set_option maxRecDepth 100000 in
set_option maxHeartbeats 8000000 in
theorem readQ (q : Nat) (hq : q = 34 ∨ q = 39) (s : ByteArray) (hs : s.size ≤ 200000) (w : World) :
    Calls Try.prog 19 #[.string s, .int .i32 (q : Int)] w fun e w' => e = .returned (readS q s).val ∧ Below w.heap.size w w' := by
  obtain ⟨r, hr⟩ : ∃ r, Hid (readS q s = r) := ⟨_, rfl⟩
  rw [hr.out]
  unfold readS at hr
  have R0 := RB.new w q (.stringIter s 0)
  have I0 : ((w.alloc (.cells #[.int .i32 (q : Int), .int .i64 0, .slice none 0 0, .int .i32 0, .int .i64 0] 45)).alloc (.stringIter s 0)).heap[w.heap.size + 1]? = some (.stringIter s 0) := by
    have := heap_alloc_new (w.alloc (.cells #[.int .i32 (q : Int), .int .i64 0, .slice none 0 0, .int .i32 0, .int .i64 0] 45)) (.stringIter s 0)
    rw [show (w.alloc (.cells #[.int .i32 (q : Int), .int .i64 0, .slice none 0 0, .int .i32 0, .int .i64 0] 45)).heap.size = w.heap.size + 1 by simp] at this
    exact this
  have B0 := Below.then (below_new w (.cells #[.int .i32 (q : Int), .int .i64 0, .slice none 0 0, .int .i32 0, .int .i64 0] 45)) (below_new _ (.stringIter s 0))
  go_enter Try.func19, Try.ntmps19
  go_wp2
  go_loopw [4, 5, 6, 8, 9, 10] (fun _ _ _ _ _ _ wr => ∃ (pos f : Nat) (x : St) (v : Value), RB wr w.heap.size (w.heap.size + 2) q v x ∧ wr.heap[w.heap.size + 1]? = some (.stringIter s pos) ∧ Below w.heap.size w wr ∧ Hid (readGo q s f pos x = r) ∧ s.size < pos + f ∧ pos ≤ s.size ∧ x.te.length ≤ 4 * pos ∧ Inv x) (fun _ _ _ _ _ _ wr => s.size - wr.iterPos (w.heap.size + 1))
  case atStart => exact ⟨0, s.size + 1, ⟨0, [], 0, 0⟩, _, R0, I0, B0, hr, by omega, by omega, by simp, ⟨Nat.one_pos, Nat.zero_le _⟩⟩
  case round =>
    clear R0 I0 B0 hr
    obtain ⟨pos, f, x, v, R0, I0, B0, hr, hf, hps, hte, hinv⟩ := hrel
    have hp0 := iterPos_of I0
    by_cases hp : pos < s.size
    · obtain ⟨f', rfl⟩ : ∃ f', f = f' + 1 := ⟨f - 1, by omega⟩
      obtain ⟨d0, d1, d2, d3⟩ := dec_pos s pos hp
      have hnx : ∀ ty, (Instr.next (.pointer (some ⟨w.heap.size + 1, 0, none⟩)) true ty).run Try.prog wr = _ := fun ty => Lib.run_next_any_at wr (w.heap.size + 1) s pos ty I0 hp
      have I1 := Lib.iterAt_heap wr (w.heap.size + 1) s pos (pos + (Utf8.decode s pos).2) I0
      have R1 := R0.iterAt (w.heap.size + 1) (by omega) (by omega) s (pos + (Utf8.decode s pos).2)
      have B1 := Lib.below_iterAt B0 (k := w.heap.size + 1) (by omega) s (pos + (Utf8.decode s pos).2)
      have hr2 := hr.out
      rw [readGo, if_pos hp] at hr2
      have cB := beginsQ (s.extract pos s.size) (Utf8.decode s pos).1 d2
      rw [begB_drop] at cB
      generalize wr.iterAt (w.heap.size + 1) s (pos + (Utf8.decode s pos).2) = W1 at *
      generalize begB (s.data.toList.drop pos) (Utf8.decode s pos).1 = en at *
      generalize Utf8.decode s pos = cz at *
      obtain ⟨c, z⟩ := cz
      simp only [] at *
      have cN := nextQ q c hq d2 en x w.heap.size (w.heap.size + 2) v W1 (by omega) hinv.1 hinv.2 R1
      clear hr R0 I0 B0 R1
      cases hN : nextS q c en x with
      | bad e =>
        rw [hN] at cN hr2
        simp only at hr2
        subst hr2
        have he : (e == 0) = false := by
          have := nextS_bad hN
          simp; omega
        go_wp2_with (first
          | (go_at_call 23; with_reducible refine (cB _).mono ?_; rintro e1 w1 ⟨rfl, rfl⟩)
          | (go_at_call 22; refine cN.mono ?_; rintro e2 w2 ⟨rfl, F2⟩; have B2 := Fr.below B1 F2 (Nat.le_refl _) (by omega)))
        go_returns
        exact ⟨rfl, B2⟩
      | st y =>
        rw [hN] at cN hr2
        simp only at hr2
        obtain ⟨hinv2, hte2⟩ := nextS_inv hN hinv
        by_cases h6 : y.pl = 6
        · rw [if_pos h6] at hr2
          subst hr2
          have h6' : ((y.pl : Int) == 6) = true := by simp; omega
          have hpI : (pos : Int) ≤ 200000 := by omega
          go_wp2_with (first
            | (go_at_call 23; with_reducible refine (cB _).mono ?_; rintro e1 w1 ⟨rfl, rfl⟩)
            | (go_at_call 22; refine cN.mono ?_; rintro e2 w2 ⟨rfl, ⟨v2, R2⟩, F2⟩; have B2 := Fr.below B1 F2 (Nat.le_refl _) (by omega); obtain ⟨c0, c1, c2, c3, c4, f0, f1, f2, f3, f4⟩ := rd_cells R2.2.2.1; have hcv := R2.2.2.2.text))
          go_returns
          exact ⟨rfl, B2⟩
        · rw [if_neg h6] at hr2
          have h6' : ((y.pl : Int) == 6) = false := by simp; omega
          go_wp2_with (first
            | (go_at_call 23; with_reducible refine (cB _).mono ?_; rintro e1 w1 ⟨rfl, rfl⟩)
            | (go_at_call 22; refine cN.mono ?_; rintro e2 w2 ⟨rfl, ⟨v2, R2⟩, F2⟩; have B2 := Fr.below B1 F2 (Nat.le_refl _) (by omega); have I2 := (F2.block (w.heap.size + 1) (by omega) (by omega)).trans I1; obtain ⟨c0, c1, c2, c3, c4, f0, f1, f2, f3, f4⟩ := rd_cells R2.2.2.1))
          go_roundw
          case rel => exact ⟨pos + z, f', y, v2, R2, I2, B2, hr2, by omega, by omega, by omega, hinv2⟩
          case measure => rw [iterPos_of I2, hp0]; omega
    · have hnx : ∀ ty, (Instr.next (.pointer (some ⟨w.heap.size + 1, 0, none⟩)) true ty).run Try.prog wr = _ := fun ty => Lib.run_next_end_at wr (w.heap.size + 1) s pos ty I0 hp
      have hr2 : r = .bad 5 := by
        rw [← hr.out]
        cases f with
        | zero => rfl
        | succ f => rw [readGo, if_neg hp]
      subst hr2
      go_wp2
      go_returns
      exact ⟨rfl, B0⟩
end Go.Proofs.Ytmnomkcgkjccgaa.Lit
