/-
  Layer 3: the program's Text.
-/
import Derived.Test.YtphcpolgeceljaaDoorArrTM
import Derived.Test.YtphcpolgeceljaaDoorArrP8
import Derived.Lib.OthersKept
import Derived.Test.YtphcpolgeceljaaDoorShelf
import Derived.Laws.MakeOwn
import Derived.OwnWalk
namespace Go.Proofs.YtphcpolgeceljaaDoor.Shape
open Go.RowKit Go.Shelf
set_option linter.unusedVariables false


/-- The two tables of unicode/utf8 stand in memory as their initialisers lay them. -/
def Tabs (w : World) : Prop := Lib.Utf8Tabs (Tryd.laysValid_ren.g 3) (Tryd.laysValid_ren.g 4) w
theorem Tabs.below {w w' : World} (h : Tabs w) (hb : Below w.heap.size w w') : Tabs w' := Utf8Tabs_below h hb
theorem validStrQ (s : ByteArray) (w : World) (hs : s.size ≤ 1000000) (hT : Tabs w) :
    Calls Tryd.prog 59 #[.string s] w fun e w' => e = .returned (.bool (Lib.validD s.data.toList)) ∧ Below w.heap.size w w' :=
  Any.utf8_ValidString Tryd.laysValid s w (by omega) hT
theorem below_iter (w : World) (s : ByteArray) (pos : Nat) : Below w.heap.size w (w.iter s pos) := (Below.refl _ _).alloc (Nat.le_refl _) _
theorem countStrQ (s : ByteArray) (w : World) (hs : s.size ≤ 1000000) :
    Calls Tryd.prog 58 #[.string s] w fun e w' => e = .returned (.int .i64 ((rn s).length : Nat)) ∧ Below w.heap.size w w' := by
  have h : Calls Tryd.prog 58 #[.string s] w _ := Any.utf8_RuneCountInString Tryd.laysCount s w (by omega)
  refine h.mono ?_
  rintro e w' ⟨rfl, pos, rfl⟩
  exact ⟨by rw [rn_count], below_iter w s pos⟩

/-- What Text keeps while it gathers the code points. -/
structure XInv (w wr : World) (K : Nat) (s : ByteArray) (pos b : Nat) (v : Value) (l : List Int) : Prop where
  res : Quad wr w.heap.size (.int .i64 0) (.slice none 0 0) (.slice none 0 0) (.slice none 0 0)
  iter : wr.heap[K]? = some (.stringIter s pos)
  kn : w.heap.size + 1 ≤ K
  own : wr.ownsRow (w.heap.size + 1) 3 1 v l.length (l.map (Value.int .i64))
  all : rn s = l ++ rnF s b pos
  fuel : s.size ≤ pos + b
  bel : Below w.heap.size w wr
theorem iterAt_below {w0 w : World} {B k : Nat} {s : ByteArray} {p : Nat} (h : Below B w0 w) (hk : B ≤ k) : Below B w0 (w.iterAt k s p) := by
  refine ⟨h.os, h.tape, h.output, by simpa [World.iterAt] using h.size, fun g hg => ?_⟩
  rw [← h.block g hg]
  simp only [World.iterAt]
  rw [Array.getElem?_setIfInBounds_ne (by omega)]
theorem iterAt_other {w : World} {k g : Nat} {s : ByteArray} {p : Nat} (h : g ≠ k) : (w.iterAt k s p).heap[g]? = w.heap[g]? := by
  simp only [World.iterAt]
  rw [Array.getElem?_setIfInBounds_ne (by omega)]
theorem own_iterAt {w : World} {base e size n k : Nat} {v : Value} {qs : List Value} {s : ByteArray} {p : Nat} (h : w.ownsRow base e size v n qs) (hk : v.ownBlock ≠ some k) : (w.iterAt k s p).ownsRow base e size v n qs := by
  refine ⟨h.1, ?_⟩
  rcases h.2 with h2 | ⟨g, cap, cur, rfl, hg, hh, hnc, hcm, hcs, htake⟩
  · exact .inl h2
  · refine .inr ⟨g, cap, cur, rfl, hg, ?_, hnc, hcm, hcs, htake⟩
    rw [iterAt_other (fun e => hk (by rw [← e]; rfl))]
    exact hh

set_option maxRecDepth 100000 in
set_option maxHeartbeats 4000000 in
theorem textN (s : ByteArray) (w : World) (hs : s.size ≤ 1000000) (hT : Tabs w) : Calls Tryd.prog 31 #[.string s] w (GiveNew (textA s) w) := by
  have bw := below_new w (.cells #[.int .i64 0, .slice none 0 0, .slice none 0 0, .slice none 0 0] 26)
  have q2 := Quad.new w (.int .i64 0) (.slice none 0 0) (.slice none 0 0) (.slice none 0 0)
  have hTA : Hid (textA s = if Lib.validD s.data.toList = true then validA (.mk 2 [((rn s).length : Int)] (rn s) []) else zeroA) := by unfold Hid; rw [textA, valid_rn]
  have hln := rn_len s
  have C := fun W => countStrQ s W hs
  have V := fun W (h : Tabs W) => validStrQ s W hs h
  have hT1 := hT.below bw
  have HS : Hid ((w.alloc (.cells #[.int .i64 0, .slice none 0 0, .slice none 0 0, .slice none 0 0] 26)).heap.size = w.heap.size + 1) := by unfold Hid; simp
  obtain ⟨n, hn⟩ : ∃ n, (rn s).length = n := ⟨_, rfl⟩
  rw [hn] at C hln
  by_cases hbig : 65536 < n
  · have HT : Hid (textA s = zeroA) := by
      unfold Hid
      rw [hTA.out]
      split
      · exact text_long s (by omega)
      · rfl
    clear V
    go_enter Tryd.func31, Tryd.ntmps31
    go_wp2_with (go_at_call 58; refine (C _).mono ?_; rintro e w2 ⟨rfl, hb2⟩; (obtain ⟨s0, s1, s2, s3, s4, s5, s6, s7⟩ := (q2.below hb2).cells))
    have q3 := q2.below hb2
    have G := give_set4 (w := w) (R := w.heap.size) (Nat.le_refl _) q3 (zero_on _ _) (Below.then bw hb2)
    obtain ⟨QW, -⟩ := set4 q3 (.int .i64 0) (.slice none 0 0) (.slice none 0 0) (.slice none 0 0)
    generalize ((((w2.setCell ⟨w.heap.size, 0, none⟩ (.int .i64 0)).setCell ⟨w.heap.size, 1, none⟩ (.slice none 0 0)).setCell ⟨w.heap.size, 2, none⟩ (.slice none 0 0)).setCell ⟨w.heap.size, 3, none⟩ (.slice none 0 0)) = WW at QW G ⊢
    obtain ⟨z0, z1, z2, z3, -⟩ := QW.cells
    rw [HT.out]
    exact bodyPost_ret (v := .agg #[.int .i64 0, .slice none 0 0, .slice none 0 0, .slice none 0 0]) (by simp [results, Tryd.results31, go_sem, z0, z1, z2, z3]) rfl G
  · cases hv : Lib.validD s.data.toList with
    | false =>
      have HT : Hid (textA s = zeroA) := by unfold Hid; rw [hTA.out, hv]; rfl
      rw [hv] at V
      clear hv hTA
      go_enter Tryd.func31, Tryd.ntmps31
      go_wp2_with (first
        | (go_at_call 58; refine (C _).mono ?_; rintro e w2 ⟨rfl, hb2⟩; (obtain ⟨s0, s1, s2, s3, s4, s5, s6, s7⟩ := (q2.below hb2).cells))
        | (go_at_call 59; refine (V _ (hT1.below hb2)).mono ?_; rintro e w3 ⟨rfl, hb3⟩; (obtain ⟨r0, r1, r2, r3, r4, r5, r6, r7⟩ := ((q2.below hb2).below hb3).cells)))
      have q3 := (q2.below hb2).below hb3
      have G := give_set4 (w := w) (R := w.heap.size) (Nat.le_refl _) q3 (zero_on _ _) (Below.then (Below.then bw hb2) hb3)
      obtain ⟨QW, -⟩ := set4 q3 (.int .i64 0) (.slice none 0 0) (.slice none 0 0) (.slice none 0 0)
      generalize ((((w3.setCell ⟨w.heap.size, 0, none⟩ (.int .i64 0)).setCell ⟨w.heap.size, 1, none⟩ (.slice none 0 0)).setCell ⟨w.heap.size, 2, none⟩ (.slice none 0 0)).setCell ⟨w.heap.size, 3, none⟩ (.slice none 0 0)) = WW at QW G ⊢
      obtain ⟨z0, z1, z2, z3, -⟩ := QW.cells
      rw [HT.out]
      exact bodyPost_ret (v := .agg #[.int .i64 0, .slice none 0 0, .slice none 0 0, .slice none 0 0]) (by simp [results, Tryd.results31, go_sem, z0, z1, z2, z3]) rfl G
    | true =>
      have HT : Hid (textA s = .mk 2 [((rn s).length : Int)] (rn s) []) := by unfold Hid; rw [hTA.out, hv, if_pos rfl]; exact text_valid s (by omega)
      rw [hv] at V
      clear hv hTA
      obtain ⟨i0, hi0, hz0, hz1, hz2⟩ := info_parts infoInt
      go_enter Tryd.func31, Tryd.ntmps31
      go_wp2_with (first
        | (go_at_call 58; refine (C _).mono ?_; rintro e w2 ⟨rfl, hb2⟩; (obtain ⟨s0, s1, s2, s3, s4, s5, s6, s7⟩ := (q2.below hb2).cells))
        | (go_at_call 59; refine (V _ (hT1.below hb2)).mono ?_; rintro e w3 ⟨rfl, hb3⟩; (obtain ⟨r0, r1, r2, r3, r4, r5, r6, r7⟩ := ((q2.below hb2).below hb3).cells); (obtain ⟨w4, hmk, hown, hgrow⟩ := run_make_own (P := Tryd.prog) w3 (w.heap.size + 1) 23 3 i0 (.int .i64 0) 1 Tryd.underlying23 hi0 hz0 hz1 .i64 .i64 n (by rw [hz2]; omega) (by unfold maxLen; omega) (by have h1 := hb2.size; have h2 := hb3.size; have h3 := HS.out; omega))))
      have b4 : Below w.heap.size w w4 := (Below.then (Below.then bw hb2) hb3).grown hgrow (by have h1 := hb2.size; have h2 := hb3.size; have h3 := HS.out; omega) (fun k e => by cases e)
      have q4 := ((q2.below hb2).below hb3).keep (hgrow.block w.heap.size (by have h1 := hb2.size; have h2 := hb3.size; have h3 := HS.out; omega) (by simp))
      have h4 : w.heap.size + 1 ≤ w4.heap.size := by have h1 := q4.lt; omega
      have I0 : XInv w (w4.iter s 0) w4.heap.size s 0 s.size (.slice (some ⟨w3.heap.size, 0, none⟩) 0 n) [] :=
        ⟨q4.below (below_iter w4 s 0), World.iter_heap w4 s 0, h4, hown.alloc _, rfl, by omega, Below.then b4 (below_iter w4 s 0)⟩
      generalize w4.heap.size = K at I0
      generalize w4.iter s 0 = W0 at I0
      clear hmk hown hgrow b4 q4 h4 hb3 r0 r1 r2 r3 r4 r5 r6 r7 hb2 s0 s1 s2 s3 s4 s5 s6 s7 C V hT hT1 q2 bw HS
      go_loopw [4] (fun v4 wr => ∃ (pos b : Nat) (l : List Int) (v : Value), v = v4 ∧ XInv w wr K s pos b v l) (fun _ wr => s.size - wr.iterPos K)
      case atStart => exact ⟨_, _, _, _, rfl, I0⟩
      case round =>
        obtain ⟨pos, b, l, v, hv4, hI⟩ := hrel
        subst hv4
        clear I0
        have hbd := rn_bd (s := s)
        by_cases hp : pos < s.size
        · have hnx : ∀ ty, (Instr.next (.pointer (some ⟨K, 0, none⟩)) true ty).run Tryd.prog wr = _ := fun ty => Lib.run_next_any_at wr K s pos ty hI.iter hp
          have hwd := Lib.decode_width_pos s pos hp
          have hb0 : b ≠ 0 := fun e => by have := hI.fuel; omega
          obtain ⟨b', rfl⟩ : ∃ b', b = b' + 1 := ⟨b - 1, by omega⟩
          have hall := hI.all
          rw [rnF, if_pos hp] at hall
          have hcb := hbd ((Utf8.decode s pos).1 : Int) (by rw [hall]; simp)
          have hk : K < wr.heap.size := lt_of_heap hI.iter
          have hit := Lib.iterAt_heap wr K s pos (pos + (Utf8.decode s pos).2) hI.iter
          have hne : v.ownBlock ≠ some K := fun e => by
            rcases hI.own.2 with ⟨rfl, -⟩ | ⟨g, cap, cur, rfl, -, hh, -⟩
            · cases e
            · have e' : g = K := by simpa [Value.ownBlock] using e
              subst e'
              rw [hI.iter] at hh
              cases hh
          have hown := own_iterAt (p := pos + (Utf8.decode s pos).2) (s := s) hI.own hne
          have hres := hI.res.keep (iterAt_other (s := s) (p := pos + (Utf8.decode s pos).2) (show w.heap.size ≠ K by have := hI.kn; omega))
          have hbel := iterAt_below (s := s) (p := pos + (Utf8.decode s pos).2) (k := K) hI.bel (by have := hI.kn; omega)
          have hll : l.length ≤ s.size := by have := rn_len s; rw [hall] at this; simp at this; omega
          have hfu := hI.fuel
          have hkn := hI.kn
          have HM : Hid (wr.iterPos K = pos) := by unfold Hid; simp [World.iterPos, hI.iter]
          have hwl := hbel.size
          generalize (Utf8.decode s pos).1 = c at hnx hall hcb
          generalize (Utf8.decode s pos).2 = m at hnx hall hwd hit hown hres hbel hwl
          have hwc : IntKind.i64.wrap (c : Int) = (c : Int) := by rw [IntKind.wrap_i64]; omega
          have HALL : Hid (rn s = (l ++ [(c : Int)]) ++ rnF s b' (pos + m)) := by unfold Hid; rw [hall]; simp
          generalize wr.iterAt K s (pos + m) = WI at hnx hit hown hres hbel hwl
          clear hall hI hbd
          go_wp2_with (first
            | (at_builtin; refine wpList_append_own _ rfl _ _ 23 rfl (w.heap.size + 1) 3 i0 (.int .i64 0) 1 8 Tryd.underlying23 hi0 hz0 hz1 hz2 rfl (by decide) _ _ _ rfl (hown.alloc _) ⟨_, 0, none⟩ 1 1 [.int .i64 (c : Int)] rfl rfl (World.news_of_block (cs := #[.int .i64 (c : Int)]) (t := 3) (fr := (0, 0)) (heap_alloc_new WI _)) (by intro u hu; simp at hu; subst hu; rfl) (by unfold maxLen; omega) (by omega) (by simp; omega) ?_; intro v1 w5 hown5 hgr5 hnil5))
          have hv := hown.lt
          have hKW : K < WI.heap.size := lt_of_heap hit
          have hR : w.heap.size < WI.heap.size := hres.lt
          have kept : ∀ g, g < WI.heap.size → v.ownBlock ≠ some g → w5.heap[g]? = WI.heap[g]? := fun g hg hn =>
            (hgr5.block g (by simp; omega) (Ne.symm hn)).trans (Below.heap_alloc _ _ _ hg)
          have hneR : v.ownBlock ≠ some w.heap.size := fun e => by have := hv _ e; omega
          have hal : Below w.heap.size w (WI.alloc (.cells #[.int .i64 (c : Int)] 3)) := hbel.alloc hwl _
          have I1 : XInv w w5 K s (pos + m) b' v1 (l ++ [(c : Int)]) :=
            ⟨hres.keep (kept _ hR hneR), (kept K hKW hne).trans hit, hkn, by simpa using hown5, HALL.out, by omega, hal.grown hgr5 (by simp; omega) (fun g e => by have := hv g e; omega)⟩
          have HP : Hid (w5.iterPos K = pos + m) := by unfold Hid; simp [World.iterPos, I1.iter]
          go_roundw
          case rel => exact ⟨pos + m, b', l ++ [(c : Int)], v1, rfl, I1⟩
          case measure => rw [HP.out, HM.out]; omega
        · have hnx : ∀ ty, (Instr.next (.pointer (some ⟨K, 0, none⟩)) true ty).run Tryd.prog wr = _ := fun ty => Lib.run_next_end_at wr K s pos ty hI.iter hp
          have hrn : rn s = l := by
            have h := hI.all
            cases b with
            | zero => rw [rnF] at h; simpa using h
            | succ b => rw [rnF, if_neg hp] at h; simpa using h
          obtain rfl : n = l.length := by rw [← hn, hrn]
          obtain ⟨av, cv, rfl, hon⟩ := ints_of_own (xs := l) rfl hI.own (fun x hx => by have := hbd x (by rw [hrn]; exact hx); omega)
          have hres := hI.res
          have hbel := hI.bel
          have HLT : Hid (w.heap.size < wr.heap.size) := hres.lt
          have HT2 : Hid (textA s = .mk 2 [(l.length : Int)] l []) := by unfold Hid; rw [HT.out, hrn]
          clear hI hbd hrn HT hn
          have ba := below_new wr (.cells #[.int .i64 (l.length : Int)] 3)
          obtain ⟨s0, s1, s2, s3, s4, s5, s6, s7⟩ := (hres.below ba).cells
          go_wp2_with fail
          have hlt := HLT.out
          have q3 := hres.below ba
          have hO : ArrOn (fun g => w.heap.size < g) (wr.alloc (.cells #[.int .i64 (l.length : Int)] 3)) (.agg #[.int .i64 2, .slice (some ⟨wr.heap.size, 0, none⟩) 1 1, .slice av l.length cv, .slice none 0 0]) (.mk 2 [(l.length : Int)] l []) := by
            rw [ArrOn]
            refine ⟨some ⟨wr.heap.size, 0, none⟩, 1, av, cv, none, 0, rfl, by decide, ⟨ints_one _ _ _ _ (by omega) (by rw [World.cell?_alloc_new]; rfl) (by decide) (by decide), fun _ ad e => by cases e; exact hlt⟩, hon.keep fun g hg hl => ⟨by omega, fun _ => ba.cell hl⟩, Nat.le_refl _, by decide, 0, 0, fun g => absurd rfl g, by rw [ArrsOn]; trivial⟩
          have G := give_set4 (w := w) (R := w.heap.size) (Nat.le_refl _) q3 hO (hbel.trans (ba.mono hbel.size))
          obtain ⟨QW, -⟩ := set4 q3 (.int .i64 2) (.slice (some ⟨wr.heap.size, 0, none⟩) 1 1) (.slice av l.length cv) (.slice none 0 0)
          generalize (((((wr.alloc (.cells #[.int .i64 (l.length : Int)] 3)).setCell ⟨w.heap.size, 0, none⟩ (.int .i64 2)).setCell ⟨w.heap.size, 1, none⟩ (.slice (some ⟨wr.heap.size, 0, none⟩) 1 1)).setCell ⟨w.heap.size, 2, none⟩ (.slice av l.length cv)).setCell ⟨w.heap.size, 3, none⟩ (.slice none 0 0)) = WW at QW G ⊢
          obtain ⟨z0, z1, z2, z3, -⟩ := QW.cells
          rw [HT2.out]
          exact bodyPost_ret (v := .agg #[.int .i64 2, .slice (some ⟨wr.heap.size, 0, none⟩) 1 1, .slice av l.length cv, .slice none 0 0]) (by simp [results, Tryd.results31, go_sem, z0, z1, z2, z3]) rfl G
end Go.Proofs.YtphcpolgeceljaaDoor.Shape
