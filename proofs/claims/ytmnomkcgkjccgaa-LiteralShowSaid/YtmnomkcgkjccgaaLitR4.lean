/-
  Layer 9: the reference's Quote.
-/
import Derived.Test.YtmnomkcgkjccgaaLitR2
import Derived.Test.YtmnomkcgkjccgaaLitR3
namespace Go.Proofs.Ytmnomkcgkjccgaa.Lit
open Go.RowKit
set_option linter.unusedVariables false
set_option linter.unusedSimpArgs false

set_option maxRecDepth 100000 in
set_option maxHeartbeats 4000000 in
theorem rquoteQ (s : ByteArray) (hs : s.size ≤ 200000) (w : World) :
    Calls Try.prog 8 #[.string s] w fun e w' => e = .returned (.string ⟨(quoteS s).toArray⟩) ∧ Below w.heap.size w w' := by
  obtain ⟨r, hr⟩ : ∃ r, Hid ([34] ++ quoGo 34 s s.size 0 = r) := ⟨[34] ++ quoGo 34 s s.size 0, rfl⟩
  have hrq : quoteS s = r ++ [34] := by rw [← hr.out]; rfl
  rw [hrq]
  clear hrq
  go_enter Try.func8, Try.ntmps8
  go_wp2
  go_loopw [3, 4, 5, 6] (fun v a _ _ wr => ∃ (pos f : Nat) (L : List UInt8), v = .string ⟨L.toArray⟩ ∧ a = .int .i64 (pos : Int) ∧ Below w.heap.size w wr ∧ Hid (L ++ quoGo 34 s f pos = r) ∧ s.size ≤ pos + f ∧ pos ≤ s.size ∧ L.length ≤ 1 + 6 * pos) (fun _ a _ _ _ => s.size - (intOf a).toNat)
  case atStart => exact ⟨0, s.size, [34], rfl, rfl, Below.refl _ _, hr, by omega, by omega, by simp⟩
  case round =>
    clear hr
    obtain ⟨pos, f, L, rfl, rfl, B0, hr, hf, hps, hL⟩ := hrel
    have hLz : (⟨L.toArray⟩ : ByteArray).size = L.length := tx_size L
    by_cases hp : pos < s.size
    · obtain ⟨f', rfl⟩ : ∃ f', f = f' + 1 := ⟨f - 1, by omega⟩
      obtain ⟨d0, d1, d2, d3⟩ := dec_pos s pos hp
      have hpI : (pos : Int) < (s.size : Int) := by omega
      have hpI2 : (pos : Int) ≤ 200000 := by omega
      have hr2 := hr.out
      rw [quoGo, if_pos hp, ← List.append_assoc] at hr2
      have cD := decodeR s pos hp (by omega)
      generalize Utf8.decode s pos = cz at *
      obtain ⟨c, z⟩ := cz
      simp only [] at *
      have hv : c < 55296 ∨ (57343 < c ∧ c ≤ 1114111) := by omega
      have cS : ∀ w, Calls Try.prog 17 #[.int .i64 (c : Int), .int .i64 34] w fun e w' => e = .returned (.string ⟨(chW 34 c).toArray⟩) ∧ Below w.heap.size w w' := rshortQ 34 c (.inl rfl) hv
      have hcl := chW_len 34 c
      have hcz : (⟨(chW 34 c).toArray⟩ : ByteArray).size = (chW 34 c).length := tx_size _
      have ha := fun w => run_string_add_sum (P := Try.prog) w ⟨L.toArray⟩ ⟨(chW 34 c).toArray⟩ (by rw [hLz, hcz]; omega)
      have hap := tx_app L (chW 34 c)
      simp only [tx] at hap
      rw [hap] at ha
      clear hr hap
      by_cases hbad : c = 65533 ∧ z = 1
      · obtain ⟨rfl, rfl⟩ := hbad
        have e0 : refD (65533, 1) = (0, 0) := rfl
        rw [e0] at cD
        simp only [pairV] at cD
        have cD2 : ∀ w, Calls Try.prog 16 #[.string s, .int .i64 (pos : Int)] w fun e w' => e = .returned (.tuple #[.int .i64 0, .int .i64 0]) ∧ Below w.heap.size w w' := cD
        have cS2 : ∀ w, Calls Try.prog 17 #[.int .i64 65533, .int .i64 34] w fun e w' => e = .returned (.string ⟨(chW 34 65533).toArray⟩) ∧ Below w.heap.size w w' := cS
        clear cD cS
        go_wp2_with (first
          | (go_at_call 16; with_reducible refine (cD2 _).mono ?_; rintro e1 w1 ⟨rfl, b1⟩; have B1 := Below.then B0 b1)
          | (go_at_call 17; with_reducible refine (cS2 _).mono ?_; rintro e2 w2 ⟨rfl, b2⟩; have B2 := Below.then B1 b2))
        go_roundw
        case rel => exact ⟨pos + 1, f', _, rfl, by go_num, B2, hr2, by omega, by omega, by rw [List.length_append]; omega⟩
        case measure => simp [intOf]; omega
      · have e0 : refD (c, z) = (c, z) := if_neg hbad
        rw [e0] at cD
        simp only [pairV] at cD
        have hz0 : ((z : Int) == 0) = false := by simp; omega
        have hzI : (z : Int) ≤ 200000 := by omega
        go_wp2_with (first
          | (go_at_call 16; with_reducible refine (cD _).mono ?_; rintro e1 w1 ⟨rfl, b1⟩; have B1 := Below.then B0 b1)
          | (go_at_call 17; with_reducible refine (cS _).mono ?_; rintro e2 w2 ⟨rfl, b2⟩; have B2 := Below.then B1 b2))
        go_roundw
        case rel => exact ⟨pos + z, f', _, rfl, by go_num, B2, hr2, by omega, by omega, by rw [List.length_append]; omega⟩
        case measure => simp [intOf]; omega
    · have hpI : ¬ (pos : Int) < (s.size : Int) := by omega
      have hr2 : r = L := by rw [← hr.out, quoGo_end hp, List.append_nil]
      subst hr2
      have ha := fun w => run_string_add_sum (P := Try.prog) w ⟨r.toArray⟩ ⟨#[34]⟩ (by rw [hLz, fb1]; omega)
      have hap := tx_app r [34]
      simp only [tx] at hap
      have hap2 : (⟨r.toArray⟩ : ByteArray) ++ ⟨#[34]⟩ = ⟨(r ++ [34]).toArray⟩ := hap
      rw [hap2] at ha
      clear hap hap2 hr
      go_wp2
      go_ret
      exact ⟨rfl, B0⟩
end Go.Proofs.Ytmnomkcgkjccgaa.Lit
