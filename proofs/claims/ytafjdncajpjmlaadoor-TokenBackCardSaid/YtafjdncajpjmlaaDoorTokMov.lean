/-
  Layer 8: the reference's Moved.
-/
import Derived.Test.YtafjdncajpjmlaaDoorTokJn2
import Derived.Test.YtafjdncajpjmlaaDoorTokScan
import Derived.Test.YtafjdncajpjmlaaDoorTokSame
namespace Go.Proofs.YtafjdncajpjmlaaDoor.Tok
open Go.RowKit
set_option linter.unusedVariables false
set_option linter.unusedSimpArgs false

set_option maxRecDepth 100000 in
set_option maxHeartbeats 16000000 in
theorem movedR (l : List T5) (a : Option Addr) (c d : Nat) (w : World) (hd : d ≤ 10000) (hl : l.length ≤ 16384) (h : ToksAt w a c l) (hB : ∀ x ∈ l, 0 ≤ x.at' ∧ x.at' ≤ 100000) :
    Calls Tryd.prog 10 #[.slice a l.length c, .int .i64 (d : Int)] w fun e w' => ∃ v, e = .returned v ∧ Own w.heap.size w' v (l.map (T5.sft d)) ∧ Below w.heap.size w w' := by
  obtain ⟨hlc, m, o, ha, hc⟩ := h
  obtain ⟨n, hNl⟩ : ∃ n, Hid (l.length = n) := ⟨_, rfl⟩
  rw [hNl.out]
  have hn1 : n ≤ 16384 := by rw [← hNl.out]; exact hl
  have hi64 : (n : Int) ≤ 16384 := by omega
  have hd64 : (d : Int) ≤ 10000 := by omega
  clear hlc hl
  obtain ⟨i0, hi0, hz0, hz1, hz2⟩ := info_parts infoTok
  go_enter Tryd.func10, Tryd.ntmps10
  go_wp2
  go_loopw [5, 6] (fun v i wr => ∃ j : Nat, j ≤ n ∧ i = .int .i64 (j : Int) ∧ Own w.heap.size wr v ((l.take j).map (T5.sft d)) ∧ Below w.heap.size w wr) (fun _ i _ => n - (RowKit.intOf i).toNat)
  case atStart => exact ⟨0, Nat.zero_le _, rfl, by rw [List.take_zero]; exact World.ownsRow_nil _ _ _ _, Below.refl _ _⟩
  case round =>
    obtain ⟨j, hj, rfl, hO, hb⟩ := hrel
    by_cases hlt : j < n
    · have hlt' : (j : Int) < (n : Int) := by omega
      have hjl : j < l.length := by rw [hNl.out]; exact hlt
      have hane := ha (fun e => by rw [e] at hjl; exact absurd hjl (by simp))
      obtain ⟨c0, c1, c2, c3, c4⟩ := hc.below hb j hjl
      obtain ⟨b0, b1⟩ := hB _ (List.getElem_mem hjl)
      have hx1 := fun w' => elem_tok w' m o n c j hlt
      have hst : (l.take (j + 1)).map (T5.sft d) = (l.take j).map (T5.sft d) ++ [T5.sft d l[j]] := by rw [List.take_succ_eq_append_getElem hjl, List.map_append]; rfl
      have hlen : ((l.take j).map (T5.sft d)).length ≤ 16384 := by rw [List.length_map, List.length_take]; omega
      subst hane
      obtain ⟨va, vc, rfl⟩ := hO.form
      generalize (l.take j).map (T5.sft d) = L at *
      generalize l[j] = x at *
      obtain ⟨k, p, z, nn, t⟩ := x
      simp only [T5.sft] at c0 c1 c2 c3 c4 b0 b1 hst
      have hp : (p : Int) + (d : Int) = (d : Int) + p := Int.add_comm _ _
      have hlt0 : w.heap.size ≤ wr.heap.size := hb.size
      go_wp2_with (at_builtin; refine wpList_append_own _ rfl _ _ 23 rfl w.heap.size 36 i0 _ 5 48 Tryd.underlying23 hi0 hz0 hz1 hz2 rfl (by decide) _ L.length (cellsT L) rfl (hO.below (by go_grown)) ⟨wr.heap.size + 1, 0, none⟩ 1 1 [.int .i64 k, .int .i64 ((d : Int) + p), .int .i64 z, .int .i64 nn, .string t] rfl rfl ?c1 ?c2 ?c3 ?c4 ?c5 ?_)
      case c2 => exact ⟨rfl, rfl, rfl, rfl, rfl⟩
      case c3 => unfold maxLen; omega
      case c4 => omega
      case c5 => omega
      intro v' w2 hown' hgrow _
      have gW : Below wr.heap.size wr ((wr.alloc (.cells #[.int .i64 k, .int .i64 ((d : Int) + p), .int .i64 z, .int .i64 nn, .string t] 36)).alloc (.cells #[.int .i64 k, .int .i64 ((d : Int) + p), .int .i64 z, .int .i64 nn, .string t] 36)) := by go_grown
      have g2 := (hO.below gW).grown hgrow (by have := gW.size; omega)
      have E2 : Below w.heap.size w w2 := (Below.then hb gW).trans g2
      have o2 : Own w.heap.size w2 v' (L ++ [⟨k, (d : Int) + p, z, nn, t⟩]) := by
        rw [Own, List.length_append, cellsT_snoc]; exact hown'
      clear hgrow hown' gW g2
      go_wp2
      go_roundw
      case rel => exact ⟨j + 1, by omega, by go_num, by rw [hst]; exact o2, E2⟩
      case measure => simp [RowKit.intOf]; omega
    · obtain rfl : j = n := by omega
      have hn0 : ¬ (j : Int) < (j : Int) := by omega
      have e : l.take j = l := List.take_of_length_le (by rw [hNl.out]; exact Nat.le_refl _)
      rw [e] at hO
      go_wp2
      go_ret
      exact ⟨_, rfl, hO, hb⟩
end Go.Proofs.YtafjdncajpjmlaaDoor.Tok
