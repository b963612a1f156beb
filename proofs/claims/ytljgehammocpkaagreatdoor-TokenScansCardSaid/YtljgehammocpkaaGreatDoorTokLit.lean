/-
  Layer 8: the literal of a text. (Written by wip/gen/token-lit.py.)
-/
import Derived.Test.YtljgehammocpkaaGreatDoorTokWr
import Derived.Lib.OthersKept
namespace Go.Proofs.YtljgehammocpkaaGreatDoor.Tok
open Go.RowKit
set_option linter.unusedVariables false
set_option linter.unusedSimpArgs false

def litGo (q : Nat) (s : ByteArray) : Nat → Nat → List UInt8
  | 0, _ => []
  | f + 1, pos => if pos < s.size then chW q (Utf8.decode s pos).1 ++ litGo q s f (pos + (Utf8.decode s pos).2) else []
def litW (q : Nat) (s : ByteArray) : List UInt8 := Lib.encodeRune (q : Int) ++ litGo q s (s.size + 1) 0 ++ Lib.encodeRune (q : Int)
theorem enc_le' (c : Int) : (Lib.encodeRune c).length ≤ 4 := by
  unfold Lib.encodeRune
  rw [List.length_map]
  exact Lib.encodeRuneZ_length_le c
theorem below_iter1 (w : World) (s : ByteArray) (k : Nat) : Below w.heap.size w (w.iter s k) := (Below.refl _ _).alloc (Nat.le_refl _) _
theorem chW_len (q c : Nat) : (chW q c).length ≤ 6 := by
  have h1 := enc_le' (c : Int)
  have h2 := hexL_len c
  unfold chW
  split
  · simp
  split
  · simp
  split
  · simp
  split
  · simp only [List.length_append]; simp; omega
  split
  · simp only [List.length_append]; simp; omega
  · omega

set_option maxRecDepth 100000 in
set_option maxHeartbeats 8000000 in
theorem literalQ (s : ByteArray) (hs : s.size ≤ 100000) (q : Nat) (hq : q ≤ 127) (w : World) (hT : TZ w) :
    Calls Tryz.prog 108 #[.string s, .int .i32 (q : Int)] w fun e w' => e = .returned (.string ⟨(litW q s).toArray⟩) ∧ Below w.heap.size w w' := by
  obtain ⟨R, hR⟩ : ∃ R, Hid (litW q s = R) := ⟨_, rfl⟩
  rw [hR.out]
  have D0 := Bld.new w
  have hq2 : q ≤ 1114111 := by omega
  go_enter Tryz.func108, Tryz.ntmps108
  go_wp2_with (go_at_call 117; with_reducible refine (wrR _ w.heap.size q [] hq2 (by decide) D0).mono ?_; rintro e1 w1 ⟨⟨n1, rfl⟩, D1, b1, k1⟩; have E1 := (below_new w (.cells #[.pointer none, .slice none 0 0] 116)).trans b1)
  have hX1 := D1.lt
  have hit1 : (w1.iter s 0).heap[w1.heap.size]? = some (.stringIter s 0) := World.iter_heap w1 s 0
  have D1' : Bld (w1.iter s 0) w.heap.size (Lib.encodeRune (q : Int)) := Bld.below (by simpa using D1) (below_iter1 w1 s 0)
  have E1' : Below w.heap.size w (w1.iter s 0) := Below.then E1 (below_iter1 w1 s 0)
  generalize w1.heap.size = K at hit1 hX1 ⊢
  have hR1 : Hid (Lib.encodeRune (q : Int) ++ litGo q s (s.size + 1) 0 ++ Lib.encodeRune (q : Int) = R) := hR
  generalize Hid (litW q s = R) = gar at hR
  clear hR D1 E1 b1 k1 D0
  go_loopw [] (fun wr => ∃ (pos fuel : Nat) (acc : List UInt8), Bld wr w.heap.size acc ∧ wr.heap[K]? = some (.stringIter s pos) ∧ Below w.heap.size w wr ∧ Hid (acc ++ litGo q s fuel pos ++ Lib.encodeRune (q : Int) = R) ∧ s.size < pos + fuel ∧ acc.length ≤ 4 + 6 * pos ∧ pos ≤ s.size) (fun wr => s.size - wr.iterPos K)
  case atStart => exact ⟨0, s.size + 1, Lib.encodeRune (q : Int), D1', hit1, E1', hR1, by omega, enc_le' _, Nat.zero_le _⟩
  case round =>
    clear hR1 D1' E1' hit1
    obtain ⟨pos, fuel, acc, hI, hit, hbw, hacc, hfu, hal, hpl⟩ := hrel
    have hsz : K < wr.heap.size := (Array.getElem?_eq_some_iff.1 hit).1
    obtain ⟨f, rfl⟩ : ∃ f, fuel = f + 1 := ⟨fuel - 1, by omega⟩
    by_cases hp : pos < s.size
    · have hnx : ∀ ty, (Instr.next (.pointer (some ⟨K, 0, none⟩)) true ty).run Tryz.prog wr = _ := fun ty => Lib.run_next_any_at wr K s pos ty hit hp
      obtain ⟨z0, z1, c1⟩ := dec_pos s pos hp
      have hacc2 : Hid ((acc ++ chW q (Utf8.decode s pos).1) ++ litGo q s f (pos + (Utf8.decode s pos).2) ++ Lib.encodeRune (q : Int) = R) := by
        have e := hacc.out
        rw [litGo, if_pos hp, ← List.append_assoc] at e
        exact e
      have hcl := chW_len q (Utf8.decode s pos).1
      have hI2 : Bld (wr.iterAt K s (pos + (Utf8.decode s pos).2)) w.heap.size acc := Lib.IsBuilderF.iterAt hI hit _
      have hit2 := Lib.iterAt_heap wr K s pos (pos + (Utf8.decode s pos).2) hit
      have hbw2 := Lib.below_iterAt hbw (k := K) (by omega) s (pos + (Utf8.decode s pos).2)
      have hT2 : TZ (wr.iterAt K s (pos + (Utf8.decode s pos).2)) := hT.below hbw2
      clear hacc
      generalize Utf8.decode s pos = cz at *
      obtain ⟨c, z⟩ := cz
      simp only [] at *
      go_wp2_with (go_at_call 150; with_reducible refine (writeCharacterQ q c c1 _ w.heap.size acc (by omega) hT2 hI2).mono ?_; rintro e2 w2 ⟨rfl, h2, b2, k2⟩)
      have hit3 := Lib.OthersKept.iter k2 hit2 (by omega)
      go_roundw
      case rel => exact ⟨pos + z, f, _, h2, hit3, hbw2.trans b2, hacc2, by omega, by rw [List.length_append]; omega, z1⟩
      case measure =>
        simp only [World.iterPos, hit3, hit]
        omega
    · have hnx : ∀ ty, (Instr.next (.pointer (some ⟨K, 0, none⟩)) true ty).run Tryz.prog wr = _ := fun ty => Lib.run_next_end_at wr K s pos ty hit hp
      have e := hacc.out
      rw [litGo, if_neg hp, List.append_nil] at e
      subst e
      clear hacc
      go_wp2_with (first
        | (go_at_call 117; with_reducible refine (wrR _ w.heap.size q acc hq2 (by omega) hI).mono ?_; rintro e2 w2 ⟨⟨n2, rfl⟩, h2, b2, k2⟩)
        | (go_at_call 99; with_reducible refine (stringQ _ w.heap.size (acc ++ Lib.encodeRune (q : Int)) h2).mono ?_; rintro e3 w3 ⟨rfl, b3⟩))
      go_ret
      exact ⟨rfl, (hbw.trans b2).trans b3⟩
end Go.Proofs.YtljgehammocpkaaGreatDoor.Tok
