/-
  Layer 3: the reference's Text.
-/
import Derived.Test.YtphcpolgeceljaaDoorArrMakers
import Derived.Test.YtphcpolgeceljaaDoorArrTextMath
namespace Go.Proofs.YtphcpolgeceljaaDoor.Shape
open Go.RowKit

/-- What Text keeps while it gathers the code points: the result's variable, the runes, the shape, the literal and the row. -/
structure TInv (w wr : World) (bs : Nat) (n : Nat) (R : List Int) (v : Value) (l : List Int) : Prop where
  bsl : w.heap.size + 2 ≤ bs
  res : Quad wr w.heap.size (.int .i64 0) (.slice none 0 0) (.slice none 0 0) (.slice none 0 0)
  run : ∀ j (h : j < R.length), wr.cell? ⟨w.heap.size + 1, j, none⟩ = some (.int .i32 R[j])
  len : wr.cell? ⟨bs, 0, none⟩ = some (.int .i64 n)
  blk : Quad wr (bs + 1) (.int .i64 2) (.slice (some ⟨bs, 0, none⟩) 1 1) v (.slice none 0 0)
  own : wr.ownsRow (bs + 2) 3 1 v l.length (l.map (Value.int .i64))
  bel : Below w.heap.size w wr
theorem text_step {w wr w1 w2 : World} {bs n m g cap : Nat} {R l : List Int} {v : Value} {x : Int} {o : Obj} (h : TInv w wr bs n R v l) (b1 : Below wr.heap.size wr w1) (hm : m = l.length + 1)
    (hown : w2.ownsRow (bs + 2) 3 1 (.slice (some ⟨g, 0, none⟩) m cap) m (l.map (Value.int .i64) ++ [.int .i64 x])) (hgrow : (w1.alloc o).grownBy w2 v.ownBlock) :
    TInv w (w2.setCell ⟨bs + 1, 2, none⟩ (.slice (some ⟨g, 0, none⟩) m cap)) bs n R (.slice (some ⟨g, 0, none⟩) m cap) (l ++ [x]) := by
  subst hm
  obtain ⟨bsl, res, run, len, blk, own, bel⟩ := h
  have hv := own.lt
  have hg := hown.lt g rfl
  have hbx := blk.lt
  have s1 := b1.size
  have s3 : (w1.alloc o).heap.size = w1.heap.size + 1 := by simp
  have kept0 : ∀ b, b ≤ bs + 1 → w2.heap[b]? = wr.heap[b]? := fun b hb =>
    ((hgrow.block b (by omega) (fun e => by have := hv b e.symm; omega)).trans (Below.heap_alloc _ _ _ (by omega))).trans (b1.block b (by omega))
  have keptS : ∀ b, b ≤ bs → (w2.setCell ⟨bs + 1, 2, none⟩ (.slice (some ⟨g, 0, none⟩) (l.length + 1) cap)).heap[b]? = wr.heap[b]? := fun b hb =>
    (set_other _ _ _ _ _ (by omega)).trans (kept0 b (by omega))
  refine ⟨bsl, res.keep (keptS _ (by omega)), fun j hj => (World.cell?_of_block (keptS (w.heap.size + 1) (by omega))).trans (run j hj), (World.cell?_of_block (keptS bs (Nat.le_refl _))).trans len,
    ((blk.keep (kept0 _ (Nat.le_refl _))).set _).2.2.1, ?_, ?_⟩
  · have e1 : (l ++ [x]).length = l.length + 1 := by simp
    have e2 : (l ++ [x]).map (Value.int .i64) = l.map (Value.int .i64) ++ [.int .i64 x] := by simp
    rw [e1, e2]
    exact ownsRow_setCell_other hown (by simp only [Value.ownBlock, ne_eq, Option.some.injEq]; omega) _
  · have hal : Below w.heap.size w (w1.alloc o) := (bel.trans (b1.mono bel.size)).alloc (by have := bel.size; omega) _
    refine Below.setCell (hal.grown hgrow (by have := bel.size; omega) fun b e => ?_) (p := ⟨bs + 1, 2, none⟩) (by show _ ≤ bs + 1; omega) _
    have := hv b e
    omega

theorem text_mid {wr w1 w2 : World} {bs b n m : Nat} {x0 x1 x2 x3 v : Value} {qs : List Value} {o : Obj} (h : Quad wr b x0 x1 x2 x3) (hb : b ≤ bs + 1) (ho : wr.ownsRow (bs + 2) 3 m v n qs) (b1 : Below wr.heap.size wr w1) (hgrow : (w1.alloc o).grownBy w2 v.ownBlock) : Quad w2 b x0 x1 x2 x3 := by
  have s1 := b1.size
  have s3 : (w1.alloc o).heap.size = w1.heap.size + 1 := by simp
  have hl := h.lt
  exact h.keep (((hgrow.block b (by omega) (fun e => by have := ho.lt b e.symm; omega)).trans (Below.heap_alloc _ _ _ (by omega))).trans (b1.block b hl))

def textA (s : ByteArray) : Arr := if ((runesBytes (rn s)).toList == s.toList) = true then validA (.mk 2 [((rn s).length : Int)] (rn s) []) else zeroA

set_option maxRecDepth 100000 in
set_option maxHeartbeats 4000000 in
theorem textR (s : ByteArray) (w : World) (hs : s.size ≤ 1000000) : Calls Tryd.prog 32 #[.string s] w (GiveNew (textA s) w) := by
  have bw := below_new w (.cells #[.int .i64 0, .slice none 0 0, .slice none 0 0, .slice none 0 0] 26)
  have q2 := Quad.new w (.int .i64 0) (.slice none 0 0) (.slice none 0 0) (.slice none 0 0)
  obtain ⟨cap, W2, hcv, hb2, hsz, hrc⟩ := to_runes s hs (w.alloc (.cells #[.int .i64 0, .slice none 0 0, .slice none 0 0, .slice none 0 0] 26))
  have hB : (w.alloc (.cells #[.int .i64 0, .slice none 0 0, .slice none 0 0, .slice none 0 0] 26)).heap.size = w.heap.size + 1 := by simp
  have q3 := q2.below hb2
  rw [hB] at hcv hsz hrc
  have hback := of_runes (cap := cap) hrc
  have hLb := rn_bd (s := s)
  have hLl := Nat.le_trans (rn_len s) hs
  have hT : Hid (textA s = if ((runesBytes (rn s)).toList == s.toList) = true then validA (.mk 2 [((rn s).length : Int)] (rn s) []) else zeroA) := rfl
  generalize rn s = L at hcv hrc hback hLb hLl hT
  have hW : Hid (W2.heap.size = w.heap.size + 2) := hsz
  have HB : Hid (Below w.heap.size w W2) := Below.then bw hb2
  clear hB hb2 hsz bw q2
  by_cases hq : ((runesBytes L).toList == s.toList) = true
  · have ht := hq
    have HT : Hid (textA s = validA (.mk 2 [(L.length : Int)] L [])) := by unfold Hid; rw [hT.out, if_pos hq]
    clear hT hq
    generalize runesBytes L = X at hback ht
    go_enter Tryd.func32, Tryd.ntmps32
    go_wp2_with fail
    have I0 : TInv w ((W2.alloc (.cells #[.int .i64 (L.length : Int)] 3)).alloc (.cells #[.int .i64 2, .slice (some ⟨W2.heap.size, 0, none⟩) 1 1, .slice none 0 0, .slice none 0 0] 26)) W2.heap.size L.length L (.slice none 0 0) [] := by
      have hw := hW.out
      have b2 := below_two W2 (.cells #[.int .i64 (L.length : Int)] 3) (.cells #[.int .i64 2, .slice (some ⟨W2.heap.size, 0, none⟩) 1 1, .slice none 0 0, .slice none 0 0] 26)
      refine ⟨by omega, q3.below b2, fun j hj => (b2.cell (cell_lt (hrc j hj))).trans (hrc j hj), ?_, ?_, World.ownsRow_nil _ _ _ _, Below.then HB.out b2⟩
      · rw [World.cell?_alloc_past _ _ _ (by simp), World.cell?_alloc_at _ _ _ _ rfl]; rfl
      · simpa using Quad.new (W2.alloc (.cells #[.int .i64 (L.length : Int)] 3)) (.int .i64 2) (.slice (some ⟨W2.heap.size, 0, none⟩) 1 1) (.slice none 0 0) (.slice none 0 0)
    generalize ((W2.alloc (.cells #[.int .i64 (L.length : Int)] 3)).alloc (.cells #[.int .i64 2, .slice (some ⟨W2.heap.size, 0, none⟩) 1 1, .slice none 0 0, .slice none 0 0] 26)) = W3 at I0 ⊢
    generalize W2.heap.size = bs at I0 ⊢
    clear hcv hrc hback ht q3 hW HB
    obtain ⟨i0, hi0, hz0, hz1, hz2⟩ := info_parts infoInt
    go_loopw [5] (fun i wr => ∃ (k : Nat) (v : Value), k ≤ L.length ∧ i = .int .i64 k ∧ TInv w wr bs L.length L v (L.take k)) (fun i _ => L.length - (intOf i).toNat)
    case atStart => exact ⟨0, _, Nat.zero_le _, rfl, by rw [List.take_zero]; exact I0⟩
    case round =>
      obtain ⟨k, v, hk, rfl, hI⟩ := hrel
      obtain ⟨bsl, res, run, len, blk, own, bel⟩ := id hI
      obtain ⟨f0, f1, f2, f3, -, -, f6, -⟩ := blk.cells
      by_cases hlt : k < L.length
      · have hx := hLb L[k] (List.getElem_mem hlt)
        have hcell := run k hlt
        have hlen : (L.take k).length = k := by rw [List.length_take]; omega
        have TK : Hid (L.take (k + 1) = L.take k ++ [L[k]]) := by unfold Hid; rw [List.take_succ_eq_append_getElem hlt]
        clear run
        generalize L[k] = x at hx hcell TK
        have hwx : IntKind.i64.wrap x = x := IntWalk.i64_in _ (by omega)
        have bd : Below wr.heap.size wr wr.drew := (Below.refl _ _).drew
        have f2' : (wr.alloc (.cells #[.int .i64 x] 3)).cell? ⟨bs + 1, 2, none⟩ = some v := by rw [World.cell?_alloc_past _ _ _ (cell_lt f2)]; exact f2
        rw [hlen] at own
        have hbx := blk.lt
        go_wp2_with fail
        go_region_law ((refine step_append_lies _ (by rfl) _ _ _ (by rfl) (bs + 2) 3 i0 _ 1 8 Tryd.underlying23 hi0 hz0 hz1 hz2 rfl (by omega) v k _ (by rfl) (own_alloc own (Below.refl _ _) _) ⟨wr.heap.size, 0, none⟩ 1 1 [.int .i64 x] (by rfl) (by rfl) (World.news_of_block (cs := #[.int .i64 x]) (t := 3) (fr := (0, 0)) (heap_alloc_new wr _)) (by intro u hu; simp at hu; subst hu; rfl) (by omega) (by unfold maxLen; omega) (by omega) (by simp; omega) (wr.heap.size + 1) (by simp) ?_; intro gg cap2 w2 hown hgrow hat hl2; (obtain ⟨t0, t1, t2, t3, -, -, t6, -⟩ := (text_mid blk (Nat.le_refl _) own bd (hgrow : (wr.drew.alloc _).grownBy w2 _)).cells)))
        all_goals go_wp2_with fail
        all_goals go_roundw
        all_goals first
          | exact ⟨k + 1, _, by omega, by go_num, by rw [TK.out]; exact text_step hI bd (by rw [hlen]) hown (hgrow : (wr.drew.alloc _).grownBy w2 _)⟩
          | (simp [intOf]; omega)
      · obtain rfl : k = L.length := by omega
        rw [List.take_length] at own
        obtain ⟨av, cv, rfl, hon⟩ := ints_of_own (xs := L) rfl own (fun x hx => by have := hLb x hx; omega)
        have hA1 : ArrAt wr (.agg #[.int .i64 2, .slice (some ⟨bs, 0, none⟩) 1 1, .slice av L.length cv, .slice none 0 0]) (.mk 2 [(L.length : Int)] L []) :=
          arr_plain (by decide) rfl rfl (ints_one _ _ _ _ (by omega) len (by decide) (by decide)) hon.1
        have hr : Reach (.mk 2 [(L.length : Int)] L []) := reach_plain (by simp) (by omega)
        clear hon own run len hI
        go_wp2_with (go_at_call 57; refine (validR _ _ _ hA1 hr).mono ?_; intro e w2 hN; (obtain ⟨k', sa', ls', sc', na', ln', nc', ia', li', ic', rfl, hO, hb2⟩ := hN.form); (obtain ⟨s0, s1, s2, s3, s4, s5, s6, s7⟩ := (res.below hb2).cells))
        have q3 := res.below hb2
        have hs1 := res.lt
        have G := give_set4 (w := w) (R := w.heap.size) (Nat.le_refl _) q3 (hO.mono fun g hg => by omega) (Below.then bel hb2)
        obtain ⟨QW, -⟩ := set4 q3 (.int .i64 k') (.slice sa' ls' sc') (.slice na' ln' nc') (.slice ia' li' ic')
        generalize ((((w2.setCell ⟨w.heap.size, 0, none⟩ (.int .i64 k')).setCell ⟨w.heap.size, 1, none⟩ (.slice sa' ls' sc')).setCell ⟨w.heap.size, 2, none⟩ (.slice na' ln' nc')).setCell ⟨w.heap.size, 3, none⟩ (.slice ia' li' ic')) = WW at QW G ⊢
        obtain ⟨z0, z1, z2, z3, -⟩ := QW.cells
        rw [HT.out]
        exact bodyPost_ret (v := .agg #[.int .i64 k', .slice sa' ls' sc', .slice na' ln' nc', .slice ia' li' ic']) (by simp [results, Tryd.results32, go_sem, z0, z1, z2, z3]) rfl G
  · have ht : ((runesBytes L).toList == s.toList) = false := by simpa using hq
    have HT : Hid (textA s = zeroA) := by unfold Hid; rw [hT.out, if_neg hq]
    clear hT hq
    generalize runesBytes L = X at hback ht
    obtain ⟨s0, s1, s2, s3, s4, s5, s6, s7⟩ := q3.cells
    go_enter Tryd.func32, Tryd.ntmps32
    go_wp2_with fail
    have G := give_set4 (w := w) (R := w.heap.size) (Nat.le_refl _) q3 (zero_on _ _) HB.out
    obtain ⟨QW, -⟩ := set4 q3 (.int .i64 0) (.slice none 0 0) (.slice none 0 0) (.slice none 0 0)
    generalize ((((W2.setCell ⟨w.heap.size, 0, none⟩ (.int .i64 0)).setCell ⟨w.heap.size, 1, none⟩ (.slice none 0 0)).setCell ⟨w.heap.size, 2, none⟩ (.slice none 0 0)).setCell ⟨w.heap.size, 3, none⟩ (.slice none 0 0)) = WW at QW G ⊢
    obtain ⟨z0, z1, z2, z3, -⟩ := QW.cells
    rw [HT.out]
    exact bodyPost_ret (v := .agg #[.int .i64 0, .slice none 0 0, .slice none 0 0, .slice none 0 0]) (by simp [results, Tryd.results32, go_sem, z0, z1, z2, z3]) rfl G
end Go.Proofs.YtphcpolgeceljaaDoor.Shape
