/-
  Layer 8: strconv.ParseInt to base 16, for at most six hexadecimal digits, and for none.
-/
import Derived.Test.YtafjdncajpjmlaaDoorTokChar
import Derived.Lib.Strings
import Derived.Lib.Walk
import Derived.Lib.ConvBytes
import Derived.Lib.AtoiAllMem
import Derived.Lib.AtoiErrMem
import Derived.Lib.IfaceNeq
import Derived.Lib.IfaceEq
import Derived.Lib.Hide
import Derived.Laws.Strings3
import Derived.Laws.Closers25
import Derived.Laws.Closers25b
import Derived.WalkKit
import Derived.BigCall
import Derived.BigGuard
namespace Go.Proofs.YtafjdncajpjmlaaDoor.Tok
open Go.RowKit
set_option linter.unusedVariables false

def hx (c : UInt8) : Nat := if c.toNat ≤ 57 then c.toNat - 48 else c.toNat - 87
theorem hexV_snoc (l : List UInt8) (c : UInt8) : hexV (l ++ [c]) = 16 * hexV l + hx c := by simp [hexV, hx, List.foldl_append]
abbrev HexC (c : UInt8) : Prop := (48 ≤ c.toNat ∧ c.toNat ≤ 57) ∨ (97 ≤ c.toNat ∧ c.toNat ≤ 102)
theorem hx_lt {c : UInt8} (h : HexC c) : hx c < 16 := by
  unfold hx HexC at *
  split <;> omega
theorem hexV_take {bs : List UInt8} {k : Nat} (hk : k < bs.length) : hexV (bs.take (k + 1)) = 16 * hexV (bs.take k) + hx bs[k] := by
  rw [List.take_succ_eq_append_getElem hk, hexV_snoc]
theorem hexV_lt {bs : List UInt8} (h : ∀ c ∈ bs, HexC c) : ∀ k, k ≤ bs.length → hexV (bs.take k) < 16 ^ k
  | 0, _ => by simp [hexV]
  | k + 1, hk => by
    rw [hexV_take (by omega), Nat.pow_succ]
    have := hexV_lt h k (by omega)
    have := hx_lt (h _ (List.getElem_mem (show k < bs.length by omega)))
    omega
theorem pow16 {k n : Nat} (h : k ≤ n) : 16 ^ k ≤ 16 ^ n := Nat.pow_le_pow_right (by decide) h

theorem low_same (c : Nat) (h : 97 ≤ c ∧ c ≤ 102) : bits .or .u8 (c : Int) 32 = (c : Int) := by
  obtain ⟨h1, h2⟩ := h
  have : c = 97 ∨ c = 98 ∨ c = 99 ∨ c = 100 ∨ c = 101 ∨ c = 102 := by omega
  rcases this with rfl | rfl | rfl | rfl | rfl | rfl <;> first | rfl | decide | kernel_rfl
theorem lowerA (c : Nat) (h : 97 ≤ c ∧ c ≤ 102) (w : World) : Calls Tryd.prog 90 #[.int .u8 (c : Int)] w fun e w' => e = .returned (.int .u8 (c : Int)) ∧ w' = w := by
  have hb := low_same c h
  have hlt : c < 256 := by omega
  go_enter Tryd.func90, Tryd.ntmps90
  go_wp2
  go_ret
  exact ⟨rfl, rfl⟩

set_option maxHeartbeats 32000000 in
set_option maxRecDepth 100000 in
theorem puint16 (t : ByteArray) (hne : t.size ≠ 0) (h6 : t.size ≤ 6) (hx6 : ∀ c ∈ t.data.toList, HexC c) (w : World) :
    Calls Tryd.prog 83 #[.string t, .int .i64 16, .int .i64 32] w fun e w' => e = .returned (.tuple #[.int .u64 (hexV t.data.toList : Int), .nilIface]) ∧ w' = Lib.bytesWorld w 5 t := by
  have hemp : t.toList.isEmpty = false := by
    rw [← decide_eq_emptyBytes]
    exact decide_eq_false (fun h => hne (by rw [h]; rfl))
  have hcv := Lib.run_convert_string_bytes (P := Tryd.prog) w 9 55 5 t (u := .string) Tryd.underlying9 Tryd.underlying55 Tryd.underlying5
  have hB : ∀ j, j < t.size → (Lib.bytesWorld w 5 t).cell? ⟨w.heap.size, j, none⟩ = some (.int .u8 (t.data.toList.getD j 0).toNat) := fun j hj => Lib.bytesWorld_cell w 5 t j hj
  obtain ⟨W1, hW1⟩ : ∃ W1, W1 = Lib.bytesWorld w 5 t := ⟨_, rfl⟩
  rw [← hW1] at hcv hB ⊢
  clear hW1
  obtain ⟨bs, hL⟩ : ∃ bs, bs = t.data.toList := ⟨_, rfl⟩
  have hLn : bs.length = t.size := by rw [hL, Lib.size_eq]
  rw [← hL] at hB hx6 ⊢
  clear hL
  go_enter Tryd.func83, Tryd.ntmps83
  go_wp2
  go_loop [12, 13, 101] (fun vu vn vi => ∃ (k : Nat) (a : Int), vu = .bool false ∧ vn = .int .u64 a ∧ vi = .int .i64 k ∧ k ≤ t.size ∧ Hid (a = (hexV (bs.take k) : Int)))
    (fun _ _ vi => t.size - (intOf vi).toNat)
  case atStart => exact ⟨0, 0, rfl, rfl, rfl, by omega, by simp [Hid, hexV]⟩
  case round =>
    obtain ⟨k, a, rfl, rfl, rfl, hk, hh⟩ := hrel
    have ha := hh.out
    clear hh
    by_cases hkn : k < t.size
    · have hc := hB k hkn
      have hget : bs.getD k 0 = bs[k]'(by omega) := by simp [List.getD, List.getElem?_eq_getElem (show k < bs.length by omega)]
      rw [hget] at hc
      have hlt := hexV_lt hx6 k (by omega)
      have hp := pow16 (show k ≤ 5 by omega)
      have hn := hexV_take (bs := bs) (k := k) (by omega)
      have hC := hx6 _ (List.getElem_mem (show k < bs.length by omega))
      generalize bs[k]'(by omega) = c at hc hn hC
      have a0 : 0 ≤ a := by omega
      have a1 : a < 1048576 := by
        have : (16 : Nat) ^ 5 = 1048576 := by decide
        omega
      have hc256 : c.toNat < 256 := c.toNat_lt
      clear hB hget hlt hp
      by_cases hdig : 48 ≤ c.toNat ∧ c.toNat ≤ 57
      · obtain ⟨hd0, hd1⟩ := hdig
        have HN : Hid (a * 16 + ((c.toNat : Int) - 48) = (hexV (bs.take (k + 1)) : Int)) := Lib.hid (by rw [hn, ha]; simp only [hx, if_pos hd1]; omega)
        clear hn ha hC
        go_wp2
        refine ⟨⟨k + 1, a * 16 + ((c.toNat : Int) - 48), rfl, (by first | rfl | (congr 1; omega)), (by first | rfl | (congr 1; omega)), by omega, HN⟩, by simp [intOf]; omega⟩
      · have hL : 97 ≤ c.toNat ∧ c.toNat ≤ 102 := by
          rcases hC with h | h
          · exact absurd h hdig
          · exact h
        have HN : Hid (a * 16 + ((c.toNat : Int) - 97 + 10) = (hexV (bs.take (k + 1)) : Int)) := Lib.hid (by rw [hn, ha]; simp only [hx, if_neg (show ¬ c.toNat ≤ 57 by omega)]; omega)
        obtain ⟨hl0, hl1⟩ := hL
        clear hn ha hC hdig
        go_wp2_with (go_at_call 90; with_reducible refine (lowerA c.toNat ⟨hl0, hl1⟩ _).mono ?_; rintro e w' ⟨rfl, rfl⟩)
        refine ⟨⟨k + 1, a * 16 + ((c.toNat : Int) - 97 + 10), rfl, (by first | rfl | (congr 1; omega)), (by first | rfl | (congr 1; omega)), by omega, HN⟩, by simp [intOf]; omega⟩
    · have hkk : k = t.size := by omega
      subst hkk
      rw [List.take_of_length_le (by omega)] at ha
      subst ha
      go_wp2
      go_ret2
      exact ⟨rfl, rfl⟩

set_option maxHeartbeats 32000000 in
set_option maxRecDepth 100000 in
theorem pint16 (s : ByteArray) (hne : s.size ≠ 0) (h6 : s.size ≤ 6) (hx6 : ∀ c ∈ s.data.toList, HexC c) (w : World) :
    Calls Tryd.prog 76 #[.string s, .int .i64 16, .int .i64 32] w fun e w' => e = .returned (.tuple #[.int .i64 (hexV s.data.toList : Int), .nilIface]) ∧ w' = Lib.bytesWorld w 5 s := by
  have hemp : s.toList.isEmpty = false := by
    rw [← decide_eq_emptyBytes]
    exact decide_eq_false (fun h => hne (by rw [h]; rfl))
  have hpos : 0 < s.size := by omega
  have hb := hexV_lt hx6 s.size (Nat.le_of_eq (Lib.size_eq s))
  rw [List.take_of_length_le (Nat.le_of_eq (Lib.size_eq s).symm)] at hb
  have hp := pow16 h6
  have hU := puint16 s hne h6 hx6 w
  obtain ⟨a, ha⟩ : ∃ a : Int, a = (hexV s.data.toList : Int) := ⟨_, rfl⟩
  rw [← ha] at hU ⊢
  have a0 : 0 ≤ a := by omega
  have a1 : a ≤ 16777216 := by
    have : (16 : Nat) ^ 6 = 16777216 := by decide
    omega
  obtain ⟨c0, hs0⟩ : ∃ c0, s[0]'hpos = c0 := ⟨_, rfl⟩
  have hC : HexC c0 := hx6 _ (by rw [← hs0]; exact List.getElem_mem (l := s.data.toList) (n := 0) (by rw [← Lib.size_eq]; exact hpos))
  have g0 : ¬ c0 = 43 := fun h => by subst h; exact absurd hC (by decide)
  have g1 : ¬ c0 = 45 := fun h => by subst h; exact absurd hC (by decide)
  have k0 : c0.toNat ≠ 43 := by unfold HexC at hC; omega
  have k1 : c0.toNat ≠ 45 := by unfold HexC at hC; omega
  clear ha hb hp hC hx6
  go_enter Tryd.func76, Tryd.ntmps76
  go_wp2_with (go_at_call 83; with_reducible refine hU.mono ?_; rintro e w1 ⟨rfl, rfl⟩)
  go_wp2
  go_ret2
  exact ⟨rfl, rfl⟩

set_option maxHeartbeats 4000000 in
set_option maxRecDepth 100000 in
theorem pintE (w : World) : Calls Tryd.prog 76 #[.string ⟨#[]⟩, .int .i64 16, .int .i64 32] w fun e w' => e = .returned (.tuple #[.int .i64 0, (.iface 121 (.int .i64 2))]) ∧ w' = w := by
  go_enter Tryd.func76, Tryd.ntmps76
  go_wp2
  go_ret2
  exact ⟨rfl, rfl⟩
set_option maxHeartbeats 4000000 in
set_option maxRecDepth 100000 in
theorem cloneE (w : World) : Calls Tryd.prog 92 #[.string ⟨#[]⟩] w fun e w' => e = .returned (.string ⟨#[]⟩) ∧ w' = w := by
  go_enter Tryd.func92, Tryd.ntmps92
  go_wp2
  go_ret
  exact ⟨rfl, rfl⟩
set_option maxHeartbeats 6400000 in
set_option maxRecDepth 100000 in
theorem synE (fn : ByteArray) (w : World) (hE : ES w) : Calls Tryd.prog 84 #[.string fn, .string ⟨#[]⟩] w fun e w' => (∃ N, e = .returned (.pointer (some ⟨N, 0, none⟩))) ∧ Below w.heap.size w w' := by
  obtain ⟨te, pe, hv⟩ := hE
  have hG : 5 < w.heap.size := World.block_lt_of_cell? w _ hv
  have hvd : w.drew.cell? ⟨5, 0, none⟩ = some (.iface te pe) := hv
  go_enter Tryd.func84, Tryd.ntmps84
  go_wp2
  go_region_law ((go_simp; (with_reducible refine (cloneE _).mono ?_); rintro e w2 ⟨rfl, rfl⟩))
  all_goals go_wp2_with fail
  all_goals go_ret
  all_goals exact ⟨⟨_, rfl⟩, by go_grown⟩
set_option maxHeartbeats 4000000 in
set_option maxRecDepth 100000 in
theorem toErrE (fn : ByteArray) (w : World) (hE : ES w) : Calls Tryd.prog 77 #[.string fn, .string ⟨#[]⟩, .int .i64 16, .int .i64 32, .iface 121 (.int .i64 2)] w fun e w' => (∃ N, e = .returned (.iface 124 (.pointer (some ⟨N, 0, none⟩)))) ∧ Below w.heap.size w w' := by
  have heq : ∀ W, (binOp .eql 60 (.iface 121 (.int .i64 2)) (.iface 121 (.int .i64 2))).run Tryd.prog W = .ok (.bool true) W := fun W => Lib.run_eql_iface_int W 2 2 Tryd.underlying60 (by kernel_rfl) Tryd.underlying121
  go_enter Tryd.func77, Tryd.ntmps77
  go_wp2_with (go_at_call 84; with_reducible refine (synE fn _ hE).mono ?_; rintro e w1 ⟨⟨N, rfl⟩, b1⟩)
  go_wp2
  go_ret
  exact ⟨⟨N, rfl⟩, b1⟩
set_option maxHeartbeats 4000000 in
set_option maxRecDepth 100000 in
theorem parse16 (s : ByteArray) (hne : s.size ≠ 0) (h6 : s.size ≤ 6) (hx6 : ∀ c ∈ s.data.toList, HexC c) (w : World) :
    Calls Tryd.prog 69 #[.string s, .int .i64 16, .int .i64 32] w fun e w' => e = .returned (.tuple #[.int .i64 (hexV s.data.toList : Int), .nilIface]) ∧ Below w.heap.size w w' := by
  have hU := pint16 s hne h6 hx6 w
  have hB := Lib.bytesWorld_below w 5 s
  generalize Lib.bytesWorld w 5 s = W at hU hB
  generalize (hexV s.data.toList : Int) = a at hU ⊢
  go_enter Tryd.func69, Tryd.ntmps69
  go_wp2_with (go_at_call 76; with_reducible refine hU.mono ?_; rintro e w1 ⟨rfl, rfl⟩)
  go_wp2
  go_ret2
  exact ⟨rfl, hB⟩
set_option maxHeartbeats 4000000 in
set_option maxRecDepth 100000 in
theorem parseE (w : World) (hE : ES w) :
    Calls Tryd.prog 69 #[.string ⟨#[]⟩, .int .i64 16, .int .i64 32] w fun e w' => (∃ N, e = .returned (.tuple #[.int .i64 0, .iface 124 (.pointer (some ⟨N, 0, none⟩))])) ∧ Below w.heap.size w w' := by
  go_enter Tryd.func69, Tryd.ntmps69
  go_wp2_with (first
    | (go_at_call 76; with_reducible refine (pintE w).mono ?_; rintro e w1 ⟨rfl, rfl⟩)
    | (go_at_call 77; with_reducible refine (toErrE _ _ hE).mono ?_; rintro e w2 ⟨⟨N, rfl⟩, b2⟩))
  go_wp2
  go_ret2
  exact ⟨⟨N, rfl⟩, b2⟩
end Go.Proofs.YtafjdncajpjmlaaDoor.Tok
