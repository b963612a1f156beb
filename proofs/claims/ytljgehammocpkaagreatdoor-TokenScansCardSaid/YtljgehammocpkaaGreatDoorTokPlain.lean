/-
  Layer 8: the scanner's method that reads a character that stands for itself. (Written by wip/gen/token-plain.py.)
-/
import Derived.Test.YtljgehammocpkaaGreatDoorTokSym
import Derived.Lib.TrimUEq
import Derived.Lib.QuoteLoop
namespace Go.Proofs.YtljgehammocpkaaGreatDoor.Tok
open Go.RowKit
set_option linter.unusedVariables false
set_option linter.unusedSimpArgs false

/-- The library's error variable that a wrong number's error holds. -/
def ES (w : World) : Prop := ∃ (tp : TypeId) (p : Value), w.cell? ⟨7, 0, none⟩ = some (.iface tp p)
/-- What the walks of the scanner read of the listed variables. -/
def Tabs (w : World) : Prop := Lib.Utf8Tabs 2 3 w ∧ ES w
theorem Tabs.below {w w' : World} (h : Tabs w) (hb : Below w.heap.size w w') : Tabs w' := ⟨Utf8Tabs_below h.1 hb, let ⟨tp, p, e⟩ := h.2; ⟨tp, p, (hb.cell (World.block_lt_of_cell? w _ e)).trans e⟩⟩
theorem Tabs.drew {w : World} (h : Tabs w) : Tabs w.drew := h
theorem Tabs.but {b : Nat} {w w' : World} (h : Tabs w) (hb : But b w w') (h2 : 7 < b) : Tabs w' := by
  have lt : ∀ {a : Addr} {v : Value}, w.cell? a = some v → a.block < w.heap.size := fun {a v} hc => by
    rcases Nat.lt_or_ge a.block w.heap.size with h' | h'
    · exact h'
    · simp [World.cell?, Array.getElem?_eq_none h'] at hc
  have go : ∀ {a : Addr} {v : Value}, w.cell? a = some v → a.block ≠ b → w'.cell? a = some v := fun {a v} hc hn => (World.cell?_of_block (hb.block _ (lt hc) hn)).trans hc
  obtain ⟨⟨k1, k2⟩, tp, p, e⟩ := h
  exact ⟨⟨fun c hc => go (k1 c hc) (by show 2 ≠ b; omega), fun i hi => ⟨go (k2 i hi).1 (by show 3 ≠ b; omega), go (k2 i hi).2 (by show 3 ≠ b; omega)⟩⟩, tp, p, go e (by show 7 ≠ b; omega)⟩

/-- A character that stands for itself: whether it may. -/
def plainB (c z : Nat) : Bool := decide (32 ≤ c) && (decide (c ≠ 65533) || decide (1 < z))
theorem dec_pos (s : ByteArray) (i : Nat) (hi : i < s.size) : 0 < (Utf8.decode s i).2 ∧ i + (Utf8.decode s i).2 ≤ s.size ∧ (Utf8.decode s i).1 ≤ 1114111 := by
  have hl : s.data.toList.length = s.size := by simp
  rw [Lib.decode_N, hl]
  have a := Lib.decodeN_ge1 (s.size - i) (s.data.toList.getD i 0).toNat (s.data.toList.getD (i + 1) 0).toNat (s.data.toList.getD (i + 2) 0).toNat (s.data.toList.getD (i + 3) 0).toNat
  have b := Lib.decodeN_width_le (s.size - i) (s.data.toList.getD i 0).toNat (s.data.toList.getD (i + 1) 0).toNat (s.data.toList.getD (i + 2) 0).toNat (s.data.toList.getD (i + 3) 0).toNat (by omega)
  have c := Lib.decodeN_valid (s.size - i) (s.data.toList.getD i 0).toNat (s.data.toList.getD (i + 1) 0).toNat (s.data.toList.getD (i + 2) 0).toNat (s.data.toList.getD (i + 3) 0).toNat (UInt8.toNat_lt _)
  omega
theorem extract_list (s : ByteArray) (a c : Nat) : (s.extract a c).data.toList = (s.data.toList.drop a).take (c - a) := by
  have e : (s.extract a c).data = s.data.extract a c := ByteArray.data_extract
  rw [e, Array.toList_extract, List.extract_eq_take_drop]
theorem dec_extract (s : ByteArray) (i : Nat) (hi : i < s.size) : Lib.decodeGo (s.extract i s.size) = Utf8.decode s i := by
  have hz : (s.extract i s.size).size ≠ 0 := by rw [ByteArray.size_extract]; omega
  have hl : s.data.toList.length = s.size := by simp
  rw [Lib.decodeGo, if_neg hz, ← Lib.decodeL_drop, ← Lib.decodeL_drop, List.drop_zero, extract_list, List.take_of_length_le (by rw [List.length_drop]; omega)]

set_option maxRecDepth 100000 in
set_option maxHeartbeats 4000000 in
theorem plainQ (s : ByteArray) (hs : s.size ≤ 65536) (w : World) (b i : Nat) (hi' : i < s.size) (hb2 : 7 < b) (hT : Tabs w) (h : Sc w b s i) :
    Calls Tryz.prog 155 #[.pointer (some ⟨b, 0, none⟩)] w fun e w' => e = .returned (.tuple #[.int .i32 ((Utf8.decode s i).1 : Int), .bool (plainB (Utf8.decode s i).1 (Utf8.decode s i).2)]) ∧ Sc w' b s (i + (Utf8.decode s i).2) ∧ But b w w' := by
  obtain ⟨d0, d1, f0, f1⟩ := h.cells
  obtain ⟨z0, z1, c1⟩ := dec_pos s i hi'
  obtain ⟨rs, hrs⟩ : ∃ rs, s.extract i s.size = rs := ⟨_, rfl⟩
  have g1 : i ≤ s.size := by omega
  have cD : ∀ w, Tabs w → Calls Tryz.prog 172 #[.string rs] w fun e w' => e = .returned (.tuple #[.int .i32 ((Utf8.decode s i).1 : Int), .int .i64 ((Utf8.decode s i).2 : Int)]) ∧ Below w.heap.size w w' := fun w hT => by
    have := Tryz.utf8_DecodeRuneInString rs w hT.1
    rw [← hrs, dec_extract s i hi'] at this
    rw [← hrs]
    exact this
  generalize Utf8.decode s i = cz at *
  obtain ⟨c, z⟩ := cz
  simp only [] at *
  by_cases h32 : 32 ≤ c
  · have k1 : ¬ (c : Int) < 32 := by omega
    have k1' : (32 : Int) ≤ (c : Int) := by omega
    by_cases hR : c = 65533
    · have k2 : ((c : Int) != 65533) = false := by rw [hR]; rfl
      by_cases hz : 1 < z
      · have k3 : (1 : Int) < (z : Int) := by omega
        have e : plainB c z = true := by simp [plainB, h32, hz]
        rw [e]
        clear hR e
        go_enter Tryz.func155, Tryz.ntmps155
        go_wp2
        go_region_law ((go_simp; (with_reducible refine (cD _ hT.drew).mono ?_); rintro e2 w2 ⟨rfl, b2⟩; have h2 := h.drew.below b2; have B2 := (But.refl b w).drew.trans (But.of b2); obtain ⟨d0, d1, f0, f1⟩ := h2.cells))
        all_goals go_wp2
        all_goals go_ret2
        all_goals first | exact ⟨rfl, h2.set (i + z), B2.trans (But.set b _ _)⟩ | exact ⟨by simp; omega, h2.set (i + z), B2.trans (But.set b _ _)⟩

      · have k3 : ¬ (1 : Int) < (z : Int) := by omega
        have e : plainB c z = false := by simp [plainB, hR, hz]
        rw [e]
        clear hR e
        go_enter Tryz.func155, Tryz.ntmps155
        go_wp2
        go_region_law ((go_simp; (with_reducible refine (cD _ hT.drew).mono ?_); rintro e2 w2 ⟨rfl, b2⟩; have h2 := h.drew.below b2; have B2 := (But.refl b w).drew.trans (But.of b2); obtain ⟨d0, d1, f0, f1⟩ := h2.cells))
        all_goals go_wp2
        all_goals go_ret2
        all_goals first | exact ⟨rfl, h2.set (i + z), B2.trans (But.set b _ _)⟩ | exact ⟨by simp; omega, h2.set (i + z), B2.trans (But.set b _ _)⟩

    · have k2 : ((c : Int) != 65533) = true := by simp; omega
      have e : plainB c z = true := by simp [plainB, h32, hR]
      rw [e]
      clear e
      go_enter Tryz.func155, Tryz.ntmps155
      go_wp2
      go_region_law ((go_simp; (with_reducible refine (cD _ hT.drew).mono ?_); rintro e2 w2 ⟨rfl, b2⟩; have h2 := h.drew.below b2; have B2 := (But.refl b w).drew.trans (But.of b2); obtain ⟨d0, d1, f0, f1⟩ := h2.cells))
      all_goals go_wp2
      all_goals go_ret2
      all_goals first | exact ⟨rfl, h2.set (i + z), B2.trans (But.set b _ _)⟩ | exact ⟨by simp; omega, h2.set (i + z), B2.trans (But.set b _ _)⟩

  · have k1 : (c : Int) < 32 := by omega
    have k1' : ¬ (32 : Int) ≤ (c : Int) := by omega
    have e : plainB c z = false := by simp [plainB, h32]
    rw [e]
    clear e
    go_enter Tryz.func155, Tryz.ntmps155
    go_wp2
    go_region_law ((go_simp; (with_reducible refine (cD _ hT.drew).mono ?_); rintro e2 w2 ⟨rfl, b2⟩; have h2 := h.drew.below b2; have B2 := (But.refl b w).drew.trans (But.of b2); obtain ⟨d0, d1, f0, f1⟩ := h2.cells))
    all_goals go_wp2
    all_goals go_ret2
    all_goals first | exact ⟨rfl, h2.set (i + z), B2.trans (But.set b _ _)⟩ | exact ⟨by simp; omega, h2.set (i + z), B2.trans (But.set b _ _)⟩

end Go.Proofs.YtljgehammocpkaaGreatDoor.Tok
