/-
  Layer 11: the law of the order of definitions, walked.
-/
import Derived.Test.YtmbljiapfbadeaaNamOrder
namespace Go.Proofs.Ytmbljiapfbadeaa.Nam
open Go.RowKit Go.Maps
set_option linter.unusedVariables false

theorem sameN {w : World} {g base n : Nat} {v : Value} {N : List ByteArray} (h : Strs w g N) (hV : Want w base v N) (hn : N.length = n) :
    Calls Try.prog 17 #[.slice (some ⟨g, 0, none⟩) n n, v] w fun e w' => e = .returned (.bool true) ∧ Below w.heap.size w w' := by
  subst hn
  obtain ⟨_, _, _, hb, _⟩ := id hV.sat
  have := sameQ (Strs.sat h N.length hb) hV.sat
  rw [decide_eq_true (rfl : N = N)] at this
  exact this
set_option maxRecDepth 100000 in
set_option maxHeartbeats 16000000 in
theorem order0 (w : World) (a : Option Addr) (c n : Nat) (L : List ByteArray) (hn : Hid (L.length = n)) (hb : n ≤ 9223372036854775807) (hL : Hid (∀ s ∈ L, s.size ≤ maxLen))
    (i1 : ∀ (w' : World) (j : Nat), j < n → (Instr.indexAt 39 (.slice a n c) (.int .i64 (j : Int))).run Try.prog w' = .ok (.pointer (a.map fun p => ⟨p.block, p.off + j, none⟩)) w')
    (r1 : ∀ (j : Nat) (h : j < L.length), ∃ p, a = some p ∧ w.cell? ⟨p.block, p.off + j, none⟩ = some (.string L[j])) :
    Calls Try.prog 5 #[.slice a n c] w fun e w' => e = .returned (.bool true) ∧ Below w.heap.size w w' := by
  by_cases hb1 : n ≤ 60
  case neg =>
    have hx : (60 : Int) < (n : Int) := by omega
    go_enter Try.func5, Try.ntmps5
    go_wp2_with (go_at_call 6; (with_reducible refine (awakeL w).mono ?_); rintro e1 w1 ⟨rfl, b1⟩)
    go_ret
    exact ⟨rfl, b1⟩
  have hx : ¬ (60 : Int) < (n : Int) := by omega
  go_enter Try.func5, Try.ntmps5
  go_wp2_with (go_at_call 7; (with_reducible refine (newP w).mono ?_); rintro e1 w1 ⟨rfl, -, h1, b1⟩)
  have P0 : PSc (w1.alloc (.cells #[] 9)) (w.heap.size + 1) w.heap.size none 0 (foldD L 0) := h1.below (below_new _ _)
  have V0 : Want (w1.alloc (.cells #[] 9)) w.heap.size (.slice (some ⟨w1.heap.size, 0, none⟩) 0 0) (namesOf (foldD L 0)) := Want.made w1 w.heap.size b1.size
  have B0 : Below w.heap.size w (w1.alloc (.cells #[] 9)) := Below.then b1 (below_new _ _)
  clear h1 b1
  go_loopw [4, 5] (fun vw i wr => ∃ k : Nat, k ≤ n ∧ i = .int .i64 (k : Int) ∧ PSc wr (w.heap.size + 1) w.heap.size none 0 (foldD L k) ∧ Want wr w.heap.size vw (namesOf (foldD L k)) ∧ Below w.heap.size w wr) (fun _ i _ => n - (intOf i).toNat)
  case atStart => exact ⟨0, Nat.zero_le _, rfl, P0, V0, B0⟩
  case round =>
    clear P0 V0 B0
    obtain ⟨k, hk, rfl, P, V, Bw⟩ := hrel
    by_cases hlt : k < n
    · have hlt' : (k : Int) < (n : Int) := by omega
      have hkl : k < L.length := by rw [hn.out]; exact hlt
      obtain ⟨p, rfl, hc⟩ := r1 k hkl
      have hi := fun w' => i1 w' k hlt
      simp only [Option.map_some] at hi
      have hpl := cell_lt hc
      have hc1 := (Bw.cell hpl).trans hc
      have hstep := Lib.hid (foldD_succ hkl)
      have hdl : (foldD L k).length ≤ 1000 := by have := foldD_len L k (by omega); omega
      have hs := hL.out _ (List.getElem_mem hkl)
      have hNl : (namesOf (foldD L k)).length ≤ 1000 := by rw [names_len]; exact hdl
      generalize L[k] = s at *
      generalize foldD L k = ds at *
      rcases addD_cases ds s 2 with ⟨e0, e1⟩ | ⟨e0, e1⟩
      · rw [e1] at hstep
        clear r1 i1 hc
        go_wp2_with (first
          | (go_at_call 11; (with_reducible refine (define0 _ _ _ _ _ ds _ P s hs 2 0 e0 e1 hdl).mono ?_); rintro e2 w2 ⟨rfl, P2, b2⟩; have V2 := V.but b2 P.map.choose_spec.choose_spec.1; have B2 := But.below b2 (Nat.le_refl _) (Nat.le_refl _) Bw; have hc2 := (B2.cell hpl).trans ((Bw.cell hpl).symm.trans hc1))
          | (at_builtin; refine want_push _ rfl _ _ rfl w.heap.size _ _ rfl V2 s rfl hNl B2.size ?_; intro v3 w3 V3 g3))
        go_roundw
        case rel =>
          have gb : ∀ g, w2.heap.size ≤ g ∨ True := fun g => Or.inr trivial
          refine ⟨k + 1, by omega, by go_num, ?_, ?_, ?_⟩
          · rw [hstep.out]
            have Pa := P2.below (below_new w2 (.cells #[.string s] 9))
            refine ⟨(g3.block _ Pa.lt fun e => (V2.ne e.symm P2).1 rfl).trans Pa.blk, Pa.map.kept g3 fun e => (V2.ne e.symm P2).2 rfl, Pa.uniq⟩
          · rw [hstep.out, names_app]
            exact V3
          · exact (Below.alloc B2 B2.size _).grown g3 (by simp; have := B2.size; omega) fun g hg => (V2.block hg).1
        case measure => simp [intOf]; omega
      · rw [e1] at hstep
        obtain ⟨r, hr⟩ : ∃ r, errD ds s 2 = r := ⟨_, rfl⟩
        have hr0 : (r == 0) = false := by rw [← hr]; simpa using e0
        clear r1 i1 hc e0
        go_wp2_with (go_at_call 11; (with_reducible refine (define0 _ _ _ _ _ ds _ P s hs 2 r hr e1 hdl).mono ?_); rintro e2 w2 ⟨rfl, P2, b2⟩; have V2 := V.but b2 P.map.choose_spec.choose_spec.1; have B2 := But.below b2 (Nat.le_refl _) (Nat.le_refl _) Bw)
        go_roundw
        case rel => exact ⟨k + 1, by omega, by go_num, by rw [hstep.out]; exact P2, by rw [hstep.out]; exact V2, B2⟩
        case measure => simp [intOf]; omega
    · obtain rfl : k = n := by omega
      have hn0 : ¬ (k : Int) < (k : Int) := by omega
      have hG := Lib.hid (foldD_good hL.out k (by rw [hn.out]; exact Nat.le_refl _))
      have hdl : (foldD L k).length ≤ 60 := by have := foldD_len L k (by rw [hn.out]; exact Nat.le_refl _); omega
      generalize foldD L k = ds at *
      obtain ⟨a2, c2, rfl, hi2, hc2⟩ := V.row
      have hm : ds.length ≤ 1000 := by omega
      have hU := Lib.hid P.uniq
      clear r1 i1 hn hL
      go_wp2
      go_loopw [6] (fun i wq => ∃ j : Nat, j ≤ ds.length ∧ i = .int .i64 (j : Int) ∧ PSc wq (w.heap.size + 1) w.heap.size none 0 ds ∧ Want wq w.heap.size (.slice a2 ds.length c2) (namesOf ds) ∧ Below w.heap.size w wq) (fun i _ => ds.length - (intOf i).toNat)
      case atStart => exact ⟨0, Nat.zero_le _, rfl, P, V, Bw⟩
      case round =>
        clear P V Bw
        obtain ⟨j, hj, rfl, P, V, Bw⟩ := hrel
        by_cases hlt : j < ds.length
        · have hlt' : (j : Int) < (ds.length : Int) := by omega
          obtain ⟨p, rfl, hc⟩ := hc2 wr V j hlt
          have hi := fun w' => hi2 w' j hlt
          simp only [Option.map_some] at hi hi2
          have hdup := again_dup hG.out hlt
          have hadd : addD ds ds[j].1 1 = ds := addD_bad (by rw [hdup]; decide)
          have hs := (hG.out _ (List.getElem_mem hlt)).2
          have hr3 : Hid (∀ (wx : World), Want wx w.heap.size (.slice (some p) ds.length c2) (namesOf ds) → ∀ (k : Nat) (h : k < ds.length), wx.cell? ⟨p.block, p.off + k, none⟩ = some (.string ds[k].1)) := fun wx hx k hk => by
            obtain ⟨p', e, h4⟩ := hc2 wx hx k hk
            cases e
            exact h4
          obtain ⟨s, hsj⟩ : ∃ s, Hid (ds[j].1 = s) := ⟨_, Lib.hid rfl⟩
          rw [hsj.out] at hc hdup hadd hs
          clear hc2
          go_wp2_with (go_at_call 11; (with_reducible refine (define0 _ _ _ _ _ ds ds P s hs 1 10 hdup hadd hm).mono ?_); rintro e2 w2 ⟨rfl, P2, b2⟩; have V2 := V.but b2 P.map.choose_spec.choose_spec.1; have B2 := But.below b2 (Nat.le_refl _) (Nat.le_refl _) Bw)
          go_loopw [7] (fun i wq => ∃ q : Nat, q ≤ j ∧ i = .int .i64 (q : Int) ∧ PSc wq (w.heap.size + 1) w.heap.size none 0 ds ∧ Want wq w.heap.size (.slice (some p) ds.length c2) (namesOf ds) ∧ Below w.heap.size w wq) (fun i _ => j - (intOf i).toNat)
          case atStart => exact ⟨0, Nat.zero_le _, rfl, P2, V2, B2⟩
          case round =>
            clear P V Bw P2 V2 B2 b2 hdup hadd hs hc
            obtain ⟨q, hq, rfl, P, V, Bw⟩ := hrel
            by_cases hqj : q < j
            · have hqj' : (q : Int) < (j : Int) := by omega
              have hcq := hr3.out wr V q (by omega)
              have hcj := hr3.out wr V j hlt
              have hiq := fun w' => hi2 w' q (by omega)
              have hne : ¬ ds[q].1 = ds[j].1 := fun e => by
                have := hU.out q j (by omega) hlt e
                omega
              have hns := str_ne hne
              clear hne hr3
              generalize ds[q].1 = y1 at *
              generalize ds[j].1 = y2 at *
              go_wp2
              go_region
              all_goals go_wp2
              all_goals go_roundw
              case rel => exact ⟨q + 1, by omega, by go_num, P.drew, V.below ((Below.refl _ _).drew), Bw.drew⟩
              case measure => simp [intOf]; omega
            · obtain rfl : q = j := by omega
              have hn1 : ¬ (q : Int) < (q : Int) := by omega
              go_wp2
              go_roundw
              case rel => exact ⟨q + 1, by omega, by go_num, P, V, Bw⟩
              case measure => simp [intOf]; omega
        · have ej : j = ds.length := by omega
          subst ej
          have hn0 : ¬ (ds.length : Int) < (ds.length : Int) := by omega
          have hnl := names_len ds
          clear hi2 hc2 hj hlt
          go_wp2_with (first
            | (go_at_call 18; (with_reducible refine (namesP _ _ _ _ _ ds P hm).mono ?_); rintro e3 w3 ⟨rfl, S3, b3⟩; have B3 := Bw.trans (b3.mono Bw.size); have V3 := V.below b3)
            | (go_at_call 17; (with_reducible refine (sameN S3 V3 hnl).mono ?_); rintro e4 w4 ⟨rfl, b4⟩; have B4 := B3.trans (b4.mono B3.size))
            | (go_at_call 6; (with_reducible refine (awakeL _).mono ?_); rintro e5 w5 ⟨rfl, b5⟩))
          go_ret
          exact ⟨rfl, B4.trans (b5.mono B4.size)⟩
theorem orderW {w : World} {v : Value} {L : List ByteArray} (h : SAt w v L) (hL : ∀ s ∈ L, s.size ≤ maxLen) :
    Calls Try.prog 5 #[v] w fun e w' => e = .returned (.bool true) ∧ Below w.heap.size w w' := by
  obtain ⟨a, c, rfl, hb, h2, h3⟩ := h
  exact order0 w a c _ L rfl hb hL h2 h3
end Go.Proofs.Ytmbljiapfbadeaa.Nam
