/-
  Layer 8: the reference's literal of a list of characters. (Written by wip/gen/token-shr3.py.)
-/
import Derived.Test.YthjappkcbdaifaaDoorTokShR2
import Derived.Test.YthjappkcbdaifaaDoorTokShow2
namespace Go.Proofs.YthjappkcbdaifaaDoor.Tok
open Go.RowKit
set_option linter.unusedVariables false
set_option linter.unusedSimpArgs false

def RunesAt (w : World) (m : Nat) (l : List Nat) : Prop := ∀ (j : Nat) (hj : j < l.length), w.cell? ⟨m, j, none⟩ = some (.int .i32 (l[j] : Int))
theorem RunesAt.below {w w' : World} {m : Nat} {l : List Nat} (h : RunesAt w m l) (hb : Below w.heap.size w w') : RunesAt w' m l := fun j hj => cell_below (h j hj) hb
theorem elemRunes : Tryd.prog.underlying 65 = some (.slice (Tryd.prog.elem 65)) := by kernel_rfl
theorem sizeRunes (w : World) : (sizeOf (Tryd.prog.elem 65)).run Tryd.prog w = .ok 1 w := by kernel_rfl
theorem elem_rune (w' : World) (m n cap j : Nat) (hj : j < n) : (Instr.indexAt 65 (.slice (some ⟨m, 0, none⟩) n cap) (.int .i64 (j : Int))).run Tryd.prog w' = .ok (.pointer (some ⟨m, j, none⟩)) w' := by
  rw [run_indexAt_slice w' _ _ _ _ .i64 j elemRunes, if_pos (by omega), sizeRunes]
  show Result.ok _ w' = _
  rw [show ((j : Int).toNat * 1) = j by omega, add_plain, Nat.zero_add]
def quoW (q : Nat) (l : List Nat) : List UInt8 := l.flatMap (chW q)
theorem quoW_len (q : Nat) (l : List Nat) : (quoW q l).length ≤ 6 * l.length := by
  induction l with
  | nil => simp [quoW]
  | cons a r ih =>
    have := chW_len q a
    simp only [quoW, List.flatMap_cons, List.length_append, List.length_cons] at ih ⊢
    omega
theorem quoW_step {q : Nat} {l : List Nat} {j : Nat} (h : j < l.length) : quoW q (l.take (j + 1)) = quoW q (l.take j) ++ chW q l[j] := by
  unfold quoW
  rw [List.take_succ_eq_append_getElem h, List.flatMap_append, List.flatMap_cons, List.flatMap_nil, List.append_nil]
theorem size_list (L : List UInt8) : (⟨L.toArray⟩ : ByteArray).size = L.length := by
  show L.toArray.size = L.length
  simp
theorem add_list (X Y : List UInt8) : (⟨X.toArray⟩ : ByteArray) ++ ⟨Y.toArray⟩ = ⟨(X ++ Y).toArray⟩ := by apply ByteArray.ext; simp [ByteArray.data_append]
set_option maxRecDepth 100000 in
set_option maxHeartbeats 8000000 in
theorem quotedR39 (l : List Nat) (hc : ∀ c ∈ l, c ≤ 1114111) (hl : l.length ≤ 100000) (m cap : Nat) (w : World) (h : RunesAt w m l) :
    Calls Tryd.prog 40 #[.slice (some ⟨m, 0, none⟩) l.length cap, .string ⟨#[39]⟩] w fun e w' => e = .returned (.string ⟨(39 :: quoW 39 l ++ [39]).toArray⟩) ∧ Below w.heap.size w w' := by
  obtain ⟨n, hN⟩ : ∃ n, Hid (l.length = n) := ⟨_, rfl⟩
  rw [hN.out]
  have hl' : n ≤ 100000 := by rw [← hN.out]; exact hl
  have hi64 : (n : Int) ≤ 100000 := by omega
  clear hl
  go_enter Tryd.func40, Tryd.ntmps40
  go_wp2
  go_loopw [5, 6] (fun t i wr => ∃ (j : Nat) (L : List UInt8), j ≤ n ∧ t = .string ⟨L.toArray⟩ ∧ i = .int .i64 (j : Int) ∧ Hid (L = 39 :: quoW 39 (l.take j)) ∧ Below w.heap.size w wr) (fun _ i _ => n - (RowKit.intOf i).toNat)
  case atStart => exact ⟨0, [39], Nat.zero_le _, rfl, rfl, rfl, Below.refl _ _⟩
  case round =>
    obtain ⟨j, L, hj, rfl, rfl, hL, hb⟩ := hrel
    have hLl : L.length ≤ 600001 := by
      have h1 := quoW_len 39 (l.take j)
      have h2 : (l.take j).length ≤ n := by rw [List.length_take]; omega
      rw [hL.out, List.length_cons]; omega
    have hLs := size_list L
    by_cases hlt : j < n
    · have hlt' : (j : Int) < (n : Int) := by omega
      have hjl : j < l.length := by rw [hN.out]; exact hlt
      have hcell := h.below hb j hjl
      have hx1 := fun w' => elem_rune w' m n cap j hlt
      have hcj := hc _ (List.getElem_mem hjl)
      have hst : Hid (L ++ chW 39 l[j] = 39 :: quoW 39 (l.take (j + 1))) := by rw [quoW_step hjl, hL.out]; rfl
      generalize l[j] = c at *
      have cW := fun w => written39 c hcj w
      have hz := chW_len 39 c
      have hzs := size_list (chW 39 c)
      have ha := fun w => run_string_add_sum (P := Tryd.prog) w ⟨L.toArray⟩ ⟨(chW 39 c).toArray⟩ (by rw [hLs, hzs]; omega)
      have hadd := add_list L (chW 39 c)
      generalize hD : chW 39 c = D at *
      have hci : (c : Int) ≤ 1114111 := by omega
      go_wp2_with (go_at_call 58; with_reducible refine (cW _).mono ?_; rintro e1 w1 ⟨rfl, b1⟩)
      go_roundw
      case rel => exact ⟨j + 1, L ++ D, by omega, by first | rfl | rw [hadd], by go_num, hst, Below.then hb b1⟩
      case measure => simp [RowKit.intOf]; omega
    · obtain rfl : j = n := by omega
      have hn0 : ¬ (j : Int) < (j : Int) := by omega
      have hE : (⟨L.toArray⟩ : ByteArray) ++ ⟨#[39]⟩ = ⟨(39 :: quoW 39 l ++ [39]).toArray⟩ := by
        have e : L = 39 :: quoW 39 l := by rw [hL.out, List.take_of_length_le (by rw [hN.out]; exact Nat.le_refl _)]
        rw [e, ← add_list]
      have ha := fun w => run_string_add_sum (P := Tryd.prog) w ⟨L.toArray⟩ ⟨#[39]⟩ (by rw [hLs, fb1]; omega)
      clear hL
      go_wp2
      go_ret
      exact ⟨by first | rfl | exact congrArg (fun x => Ending.returned (Value.string x)) hE, hb⟩
set_option maxRecDepth 100000 in
set_option maxHeartbeats 8000000 in
theorem quotedR34 (l : List Nat) (hc : ∀ c ∈ l, c ≤ 1114111) (hl : l.length ≤ 100000) (m cap : Nat) (w : World) (h : RunesAt w m l) :
    Calls Tryd.prog 40 #[.slice (some ⟨m, 0, none⟩) l.length cap, .string ⟨#[34]⟩] w fun e w' => e = .returned (.string ⟨(34 :: quoW 34 l ++ [34]).toArray⟩) ∧ Below w.heap.size w w' := by
  obtain ⟨n, hN⟩ : ∃ n, Hid (l.length = n) := ⟨_, rfl⟩
  rw [hN.out]
  have hl' : n ≤ 100000 := by rw [← hN.out]; exact hl
  have hi64 : (n : Int) ≤ 100000 := by omega
  clear hl
  go_enter Tryd.func40, Tryd.ntmps40
  go_wp2
  go_loopw [5, 6] (fun t i wr => ∃ (j : Nat) (L : List UInt8), j ≤ n ∧ t = .string ⟨L.toArray⟩ ∧ i = .int .i64 (j : Int) ∧ Hid (L = 34 :: quoW 34 (l.take j)) ∧ Below w.heap.size w wr) (fun _ i _ => n - (RowKit.intOf i).toNat)
  case atStart => exact ⟨0, [34], Nat.zero_le _, rfl, rfl, rfl, Below.refl _ _⟩
  case round =>
    obtain ⟨j, L, hj, rfl, rfl, hL, hb⟩ := hrel
    have hLl : L.length ≤ 600001 := by
      have h1 := quoW_len 34 (l.take j)
      have h2 : (l.take j).length ≤ n := by rw [List.length_take]; omega
      rw [hL.out, List.length_cons]; omega
    have hLs := size_list L
    by_cases hlt : j < n
    · have hlt' : (j : Int) < (n : Int) := by omega
      have hjl : j < l.length := by rw [hN.out]; exact hlt
      have hcell := h.below hb j hjl
      have hx1 := fun w' => elem_rune w' m n cap j hlt
      have hcj := hc _ (List.getElem_mem hjl)
      have hst : Hid (L ++ chW 34 l[j] = 34 :: quoW 34 (l.take (j + 1))) := by rw [quoW_step hjl, hL.out]; rfl
      generalize l[j] = c at *
      have cW := fun w => written34 c hcj w
      have hz := chW_len 34 c
      have hzs := size_list (chW 34 c)
      have ha := fun w => run_string_add_sum (P := Tryd.prog) w ⟨L.toArray⟩ ⟨(chW 34 c).toArray⟩ (by rw [hLs, hzs]; omega)
      have hadd := add_list L (chW 34 c)
      generalize hD : chW 34 c = D at *
      have hci : (c : Int) ≤ 1114111 := by omega
      go_wp2_with (go_at_call 58; with_reducible refine (cW _).mono ?_; rintro e1 w1 ⟨rfl, b1⟩)
      go_roundw
      case rel => exact ⟨j + 1, L ++ D, by omega, by first | rfl | rw [hadd], by go_num, hst, Below.then hb b1⟩
      case measure => simp [RowKit.intOf]; omega
    · obtain rfl : j = n := by omega
      have hn0 : ¬ (j : Int) < (j : Int) := by omega
      have hE : (⟨L.toArray⟩ : ByteArray) ++ ⟨#[34]⟩ = ⟨(34 :: quoW 34 l ++ [34]).toArray⟩ := by
        have e : L = 34 :: quoW 34 l := by rw [hL.out, List.take_of_length_le (by rw [hN.out]; exact Nat.le_refl _)]
        rw [e, ← add_list]
      have ha := fun w => run_string_add_sum (P := Tryd.prog) w ⟨L.toArray⟩ ⟨#[34]⟩ (by rw [hLs, fb1]; omega)
      clear hL
      go_wp2
      go_ret
      exact ⟨by first | rfl | exact congrArg (fun x => Ending.returned (Value.string x)) hE, hb⟩
end Go.Proofs.YthjappkcbdaifaaDoor.Tok
