/-
  Layer 8: the reference's Scan. (Written by wip/gen/token-rs10.py.)
-/
import Derived.Test.YtljgehammocpkaaGreatDoorTokRS9g
import Derived.Test.YtljgehammocpkaaGreatDoorTokScan
namespace Go.Proofs.YtljgehammocpkaaGreatDoor.Tok
open Go.RowKit
set_option linter.unusedVariables false
set_option linter.unusedSimpArgs false

theorem FRes.below' {w w' : World} {X : Nat} (h : FRes w X) (hb : Below w.heap.size w w') : FRes w' X := (hb.block X h.lt).trans h
theorem second (w1 : World) (o1 o2 : Obj) : ((w1.alloc o1).alloc o2).heap[w1.heap.size + 1]? = some o2 := by
  have := heap_alloc_new (w1.alloc o1) o2
  have e : (w1.alloc o1).heap.size = w1.heap.size + 1 := by simp
  rw [e] at this
  exact this
theorem sepTo_step {s : ByteArray} {k : Nat} (hk : k ≤ s.size) (h : (sepS s k).1 = true) : sepTo s k = sepTo s (sepS s k).2 := manyTo_step (goes_sep s) hk h
theorem sepTo_stop {s : ByteArray} {k : Nat} (h : (sepS s k).1 = false) : sepTo s k = k := manyTo_stop h
theorem inB1 {s : ByteArray} {k : Nat} (h : k < s.size) (n : Nat) : inB s k (n : Int) (n : Int) = ((s[k].toNat : Int) == (n : Int)) := inB_eq h n
theorem sep_blank' {s : ByteArray} {k : Nat} (h : k < s.size) (hb : (((s[k].toNat : Int) == 32) || ((s[k].toNat : Int) == 9) || ((s[k].toNat : Int) == 13)) = true) : sepTo s k = sepTo s (k + 1) := by
  have e32 : inB s k 32 32 = ((s[k].toNat : Int) == 32) := inB_eq h 32
  have e9 : inB s k 9 9 = ((s[k].toNat : Int) == 9) := inB_eq h 9
  have e13 : inB s k 13 13 = ((s[k].toNat : Int) == 13) := inB_eq h 13
  have e35 : inB s k 35 35 = ((s[k].toNat : Int) == 35) := inB_eq h 35
  have hn : inB s k 35 35 = false := by
    rw [e35]
    cases q : ((s[k].toNat : Int) == 35)
    · rfl
    · simp at q hb; omega
  have e : sepS s k = (true, k + 1) := by
    rw [sepS_eq, e32, e9, e13, hn, hb, if_neg (by decide), if_pos rfl]
  have := sepTo_step (Nat.le_of_lt h) (by rw [e])
  rw [e] at this
  exact this
theorem sep_hash {s : ByteArray} {k : Nat} (h : k < s.size) (hb : ((s[k].toNat : Int) == 35) = true) : ∃ E, k < E ∧ E ≤ s.size ∧ endL s E = true ∧ (∀ m, k ≤ m → m < E → endL s m = false) ∧ sepTo s k = sepTo s E := by
  have e35 : inB s k 35 35 = ((s[k].toNat : Int) == 35) := inB_eq h 35
  have gl := goes_one (n := s.size) (p := isLine s) fun i h => isLine_lt h
  have g := manyTo_ge gl (s.size - (k + 1)) (k + 1) h
  have hend := manyTo_end gl (by
    show isLine s s.size = false
    simp [isLine, endL]) (s.size - (k + 1)) (k + 1) h (Nat.le_refl _)
  have hrun : ∀ m, k + 1 ≤ m → m < manyTo (one (isLine s)) (s.size - (k + 1)) (k + 1) → isLine s m = true := fun m h1 h2 => many_run _ _ m h1 h2
  have e : sepS s k = (true, manyTo (one (isLine s)) (s.size - (k + 1)) (k + 1)) := by
    rw [sepS_eq, e35, hb, if_pos rfl]
  have hs := sepTo_step (Nat.le_of_lt h) (by rw [e])
  rw [e] at hs
  refine ⟨_, by omega, g.2, ?_, fun m h1 h2 => ?_, hs⟩
  · have : isLine s (manyTo (one (isLine s)) (s.size - (k + 1)) (k + 1)) = false := hend
    simpa [isLine] using this
  · by_cases hm : m = k
    · subst hm
      unfold endL
      rw [dif_pos h]
      simp at hb ⊢; omega
    · have := hrun m (by omega) h2
      simpa [isLine] using this
theorem sep_none {s : ByteArray} {k : Nat} (h : k < s.size) (h1 : ((s[k].toNat : Int) == 32) = false) (h2 : ((s[k].toNat : Int) == 9) = false) (h3 : ((s[k].toNat : Int) == 13) = false) (h4 : ((s[k].toNat : Int) == 35) = false) : sepTo s k = k := by
  have e32 : inB s k 32 32 = ((s[k].toNat : Int) == 32) := inB_eq h 32
  have e9 : inB s k 9 9 = ((s[k].toNat : Int) == 9) := inB_eq h 9
  have e13 : inB s k 13 13 = ((s[k].toNat : Int) == 13) := inB_eq h 13
  have e35 : inB s k 35 35 = ((s[k].toNat : Int) == 35) := inB_eq h 35
  refine sepTo_stop ?_
  rw [sepS_eq, e32, e9, e13, e35, h1, h2, h3, h4]
  rfl
theorem sep_over {s : ByteArray} : sepTo s s.size = s.size := by
  have := sepTo_ge (s := s) (i := s.size) (Nat.le_refl _)
  omega

set_option maxRecDepth 100000 in
set_option maxHeartbeats 16000000 in
theorem scanR (s : ByteArray) (hs : s.size ≤ 65536) (w : World) :
    Calls Tryz.prog 12 #[.string s] w (ScanOut w (scanS s)) := by
  obtain ⟨r, hr⟩ : ∃ r, Hid (scanS s = r) := ⟨_, rfl⟩
  rw [hr.out]
  obtain ⟨i0, hi0, hz0, hz1, hz2⟩ := info_parts infoTok
  have hsl : ¬ (65536 : Int) < (s.size : Int) := by omega
  have hsz64 : (s.size : Int) ≤ 65536 := by omega
  have hX : w.heap.size < w.heap.size + 1 := by omega
  unfold scanS at hr
  have r00 := FRes.new w
  have hs1 : (w.alloc (.cells #[.int .i64 0, .int .i64 0, .slice none 0 0, .slice none 0 0, .string ⟨#[]⟩] 27)).heap.size = w.heap.size + 1 := by simp
  have E00 := below_new w (.cells #[.int .i64 0, .int .i64 0, .slice none 0 0, .slice none 0 0, .string ⟨#[]⟩] 27)
  have o00 : Own (w.heap.size + 1) (w.alloc (.cells #[.int .i64 0, .int .i64 0, .slice none 0 0, .slice none 0 0, .string ⟨#[]⟩] 27)) (.slice none 0 0) [] := World.ownsRow_nil _ _ _ _
  go_enter Tryz.func12, Tryz.ntmps12
  go_wp2
  go_loopw [4, 5] (fun tk iv wr => ∃ f k l, k ≤ s.size ∧ iv = .int .i64 ((k : Nat) : Int) ∧ s.size < k + f ∧ Below w.heap.size w wr ∧ FRes wr w.heap.size ∧ Own (w.heap.size + 1) wr tk l ∧ l.length ≤ 16384 ∧ Hid (scanGo s f (sepTo s k) l = r)) (fun _ iv _ => s.size - (intOf iv).toNat)
  case atStart => exact ⟨_, 0, [], Nat.zero_le _, rfl, by omega, E00, r00, o00, by simp, hr⟩
  case round =>
    clear E00 r00 o00 hr hs1
    obtain ⟨f, k, l, hk, rfl, hf, E0, r0, o0, hl, hr⟩ := hrel
    obtain ⟨f', rfl⟩ : ∃ f', f = f' + 1 := ⟨f - 1, by omega⟩
    have hk64 : (k : Int) ≤ 65536 := by omega
    obtain ⟨va, vc, rfl⟩ := o0.form
    by_cases hlt : k < s.size
    · have hlt' : (k : Int) < (s.size : Int) := by omega
      have hcb : (s[k].toNat : Int) ≤ 255 := by have := s[k].toNat_lt; omega
      have step : sepTo s k = sepTo s (k + 1) → Hid (scanGo s (f' + 1) (sepTo s (k + 1)) l = r) := fun h => by rw [← h]; exact hr.out
      cases q32 : ((s[k].toNat : Int) == 32)
      case true =>
        have hr2 := step (sep_blank' hlt (by rw [q32]; rfl))
        clear step hr
        go_wp2
        go_roundw
        case rel => exact ⟨f' + 1, k + 1, l, hlt, by go_num, by omega, E0, r0, o0, hl, hr2⟩
        case measure => simp [intOf]; omega
      cases q9 : ((s[k].toNat : Int) == 9)
      case true =>
        have hr2 := step (sep_blank' hlt (by rw [q9, q32]; rfl))
        clear step hr
        go_wp2
        go_roundw
        case rel => exact ⟨f' + 1, k + 1, l, hlt, by go_num, by omega, E0, r0, o0, hl, hr2⟩
        case measure => simp [intOf]; omega
      cases q13 : ((s[k].toNat : Int) == 13)
      case true =>
        have hr2 := step (sep_blank' hlt (by rw [q13, q9, q32]; rfl))
        clear step hr
        go_wp2
        go_roundw
        case rel => exact ⟨f' + 1, k + 1, l, hlt, by go_num, by omega, E0, r0, o0, hl, hr2⟩
        case measure => simp [intOf]; omega
      clear step
      cases q35 : ((s[k].toNat : Int) == 35)
      case true =>
        obtain ⟨E, hE1, hE2, hE3, hE4, hE5⟩ := sep_hash hlt q35
        have hr2 : Hid (scanGo s (f' + 1) (sepTo s E) l = r) := by rw [← hE5]; exact hr.out
        clear hr hE5
        have hEe := Lib.hid hE3
        have hEf := Lib.hid hE4
        clear hE3 hE4
        go_wp2
        go_loopw [5] (fun iv wq => ∃ m : Nat, k ≤ m ∧ m ≤ E ∧ iv = .int .i64 (m : Int) ∧ wr = wq) (fun iv _ => E - (intOf iv).toNat)
        case atStart => exact ⟨k, Nat.le_refl _, Nat.le_of_lt hE1, rfl, rfl⟩
        case round =>
          obtain ⟨m, hm0, hm1, rfl, hwq⟩ := hrel
          subst hwq
          have cO := fun w => overR s m hs (by omega) w
          by_cases hm : m < E
          · rw [hEf.out m hm0 hm] at cO
            have hm64 : (m : Int) ≤ 65536 := by omega
            go_wp2_with (go_at_call 35; with_reducible refine (cO _).mono ?_; rintro e1 w1 ⟨rfl, rfl⟩)
            go_roundw
            case rel => exact ⟨m + 1, by omega, by omega, by go_num, by first | rfl | trivial⟩
            case measure => simp [intOf]; omega
          · obtain rfl : m = E := by omega
            rw [hEe.out] at cO
            go_wp2_with (go_at_call 35; with_reducible refine (cO _).mono ?_; rintro e1 w1 ⟨rfl, rfl⟩)
            go_roundw
            case rel => exact ⟨f' + 1, m, l, hE2, by go_num, by omega, E0, r0, o0, hl, hr2⟩
            case measure => simp [intOf]; omega
      have hsk := sep_none hlt q32 q9 q13 q35
      have hrs := hr.out
      rw [hsk, scanGo, if_pos hlt] at hrs
      clear hr hsk
      have cT0 := fun w => nextR s hs w k hlt
      cases hC : tokenS s k with
      | bad e a =>
        have hr2 : r = .bad e a := by rw [← hrs, hC]
        subst hr2
        clear hrs
        have he := tokenS_bad hC
        have hne : (e != 0) = true := by simpa using he
        have hne2 : (e == 0) = false := by simpa using he
        have cT : ∀ w, Calls Tryz.prog 36 #[.string s, .int .i64 (k : Int)] w fun e' w' => e' = .returned (.tuple #[.agg #[.int .i64 0, .int .i64 0, .int .i64 0, .int .i64 0, .string ⟨#[]⟩], .int .i64 e, .int .i64 (a : Int)]) ∧ Below w.heap.size w w' := fun w =>
          (cT0 w).mono fun e' w' ⟨⟨x, hx⟩, hb⟩ => by
            rw [hC] at hx
            exact ⟨hx, hb⟩
        clear cT0 hC he
        go_wp2_with (go_at_call 36; with_reducible refine (cT _).mono ?_; rintro e1 w1 ⟨rfl, b1⟩; have E1 := Below.then E0 b1; have r1 := r0.below' b1; have E2 := Below.then E1 (below_new w1 (.cells #[.int .i64 0, .int .i64 0, .int .i64 0, .int .i64 0, .string ⟨#[]⟩] 62)); have r2 := r1.below' (below_new w1 (.cells #[.int .i64 0, .int .i64 0, .int .i64 0, .int .i64 0, .string ⟨#[]⟩] 62)); obtain ⟨q0, q1, q2, q3, q4, q5, q6, q7, q8, q9⟩ := r2.flt)
        refine bodyPost_ret (by simp [results, Tryz.results12, go_sem, q0, q1, q2, q3, q4]; try rfl) rfl ?_
        exact ⟨putF E2 _ _ _ _ _, rfl⟩
      | tok vk n t j =>
        obtain ⟨hj1, hj2⟩ := tokenS_le hlt hC
        rw [hC] at hrs
        simp only at hrs
        have hjk0 : (0 : Int) ≤ (j : Int) - (k : Int) := by omega
        have hjk1 : (j : Int) - (k : Int) ≤ 65536 := by omega
        have cT : ∀ w, Calls Tryz.prog 36 #[.string s, .int .i64 (k : Int)] w fun e' w' => ∃ x, e' = .returned (.tuple #[.agg #[.int .i64 vk, .int .i64 (k : Int), .int .i64 ((j : Int) - (k : Int)), .int .i64 n, .string t], .int .i64 0, .int .i64 x]) ∧ Below w.heap.size w w' := fun w =>
          (cT0 w).mono fun e' w' ⟨⟨x, hx⟩, hb⟩ => by
            rw [hC] at hx
            exact ⟨x, hx, hb⟩
        clear cT0 hC
        obtain ⟨D, hD⟩ : ∃ D : Int, (j : Int) - (k : Int) = D := ⟨_, rfl⟩
        have hDj : (k : Int) + D = (j : Int) := by omega
        rw [hD] at cT hjk0 hjk1
        by_cases hL : l.length = 16384
        · have hr2 : r = .bad 21 k := by rw [← hrs, if_pos hL]
          subst hr2
          clear hrs hD hDj
          have hL' : ((l.length : Int) == 16384) = true := by simp; omega
          clear hL
          go_wp2_with (go_at_call 36; with_reducible refine (cT _).mono ?_; rintro e1 w1 ⟨x, rfl, b1⟩; have E1 := Below.then E0 b1; have r1 := r0.below' b1; have E2 := Below.then E1 (below_new w1 (.cells #[.int .i64 vk, .int .i64 (k : Int), .int .i64 D, .int .i64 n, .string t] 62)); have r2 := r1.below' (below_new w1 (.cells #[.int .i64 vk, .int .i64 (k : Int), .int .i64 D, .int .i64 n, .string t] 62)); obtain ⟨q0, q1, q2, q3, q4, q5, q6, q7, q8, q9⟩ := r2.flt)
          refine bodyPost_ret (by simp [results, Tryz.results12, go_sem, q0, q1, q2, q3, q4]; try rfl) rfl ?_
          exact ⟨putF E2 _ _ _ _ _, rfl⟩
        · have hr2 : Hid (scanGo s f' (sepTo s j) (l ++ [⟨vk, k, D, n, t⟩]) = r) := by
            rw [if_neg hL, hD] at hrs
            exact hrs
          have hL' : ((l.length : Int) == 16384) = false := by simp; omega
          have hll : l.length < 16384 := by omega
          clear hrs hD hL
          go_wp2_with (first
            | (go_at_call 36; with_reducible refine (cT _).mono ?_; rintro e1 w1 ⟨x, rfl, b1⟩; have E1 := Below.then E0 b1; have r1 := r0.below' b1; have o1 := o0.below b1)
            | (at_builtin; refine wpList_append_own _ rfl _ _ 23 rfl (w.heap.size + 1) 62 i0 _ 5 48 Tryz.underlying23 hi0 hz0 hz1 hz2 rfl (by decide) _ l.length (cellsT l) rfl (o1.below (by go_grown)) ⟨w1.heap.size + 1, 0, none⟩ 1 1 [.int .i64 vk, .int .i64 (k : Int), .int .i64 D, .int .i64 n, .string t] rfl rfl ?c1 ?c2 ?c3 ?c4 ?c5 ?_))
          case c1 => exact World.news_of_block (cs := #[.int .i64 vk, .int .i64 (k : Int), .int .i64 D, .int .i64 n, .string t]) (t := 62) (fr := (0, 0)) (second w1 _ _)
          case c2 => intro u hu; simp at hu; rcases hu with rfl | rfl | rfl | rfl | rfl <;> rfl
          case c3 => unfold maxLen; omega
          case c4 => omega
          case c5 => have := E0.size; have := b1.size; have := r0.lt; simp; omega
          intro v' w2 hown' hgrow _
          have gW : Below w1.heap.size w1 ((w1.alloc (.cells #[.int .i64 vk, .int .i64 (k : Int), .int .i64 D, .int .i64 n, .string t] 62)).alloc (.cells #[.int .i64 vk, .int .i64 (k : Int), .int .i64 D, .int .i64 n, .string t] 62)) := by go_grown
          have hsz2 : ((w1.alloc (.cells #[.int .i64 vk, .int .i64 (k : Int), .int .i64 D, .int .i64 n, .string t] 62)).alloc (.cells #[.int .i64 vk, .int .i64 (k : Int), .int .i64 D, .int .i64 n, .string t] 62)).heap.size = w1.heap.size + 2 := by simp
          have hblk : TBlk w2 w1.heap.size (.int .i64 vk) (.int .i64 (k : Int)) (.int .i64 D) (.int .i64 n) (.string t) :=
            (hgrow.block w1.heap.size (by rw [hsz2]; omega) (fun e => by have := (World.ownsRow.lt o1 _ e.symm).2; omega)).trans (TBlk.below (TBlk.new w1 _ _ _ _ _) (below_new _ _))
          have g2 : Below (w.heap.size + 1) ((w1.alloc (.cells #[.int .i64 vk, .int .i64 (k : Int), .int .i64 D, .int .i64 n, .string t] 62)).alloc (.cells #[.int .i64 vk, .int .i64 (k : Int), .int .i64 D, .int .i64 n, .string t] 62)) w2 := (o1.below gW).grown hgrow (by have := E1.size; have := r1.lt; rw [hsz2]; omega)
          have E2 : Below w.heap.size w w2 := (Below.then E1 gW).trans (g2.mono (by omega))
          have r2 : FRes w2 w.heap.size := (r1.below' gW).belowB g2 (by omega)
          have o2 : Own (w.heap.size + 1) w2 v' (l ++ [⟨vk, k, D, n, t⟩]) := by
            rw [Own, List.length_append, cellsT_snoc]; exact hown'
          have hl2 : (l ++ [(⟨vk, k, D, n, t⟩ : T5)]).length ≤ 16384 := by rw [List.length_append]; simp; omega
          obtain ⟨z0, z1, z2, z3, z4, -⟩ := hblk.tok
          clear hgrow hown' gW g2 hblk hsz2
          go_wp2
          go_roundw
          case rel => exact ⟨f', j, _, hj2, by go_num, by omega, E2, r2, o2, hl2, hr2⟩
          case measure => simp [intOf]; omega
    · obtain rfl : k = s.size := by omega
      have hr2 : r = .ok l := by rw [← hr.out, sep_over, scanGo, if_neg (Nat.lt_irrefl _)]
      subst hr2
      clear hr
      have hlt' : ¬ (s.size : Int) < (s.size : Int) := by omega
      obtain ⟨q0, q1, q2, q3, q4, q5, q6, q7, q8, q9⟩ := r0.flt
      go_wp2
      refine bodyPost_ret (by simp [results, Tryz.results12, go_sem, q0, q1, q2, q3, q4]; try rfl) rfl ?_
      exact ⟨putF E0 _ _ _ _ _, _, rfl, o0.put (by omega) (by omega) _ _ _ _ _⟩
end Go.Proofs.YtljgehammocpkaaGreatDoor.Tok
