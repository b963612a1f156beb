/-
  Layer 4: helpers for the walk of the reference's Join.
  Layer 4: the reference's Join of cells. (Written by wip/gen/cell-joinr.py.)
  Layer 4: the reference's Join, whatever the cells.
-/
import Derived.Test.YtppdibblkaepjaaBd33
import Derived.RegionTactic
import Derived.Deep.RegionHeld3
namespace Go.Proofs.Ytppdibblkaepjaa.Shape
open Go.RowKit
set_option linter.unusedVariables false

theorem Quad.uniq {w : World} {b : Nat} {c0 c1 c2 c3 d0 d1 d2 d3 : Value} (h : Quad w b c0 c1 c2 c3) (g : Quad w b d0 d1 d2 d3) : c0 = d0 ∧ c1 = d1 ∧ c2 = d2 ∧ c3 = d3 := by
  obtain ⟨h0, h1, h2, h3, -⟩ := h.cells
  obtain ⟨g0, g1, g2, g3, -⟩ := g.cells
  exact ⟨Option.some.inj (h0.symm.trans g0), Option.some.inj (h1.symm.trans g1), Option.some.inj (h2.symm.trans g2), Option.some.inj (h3.symm.trans g3)⟩
theorem Gath.step2 {X B : Nat} {W1 wr w2 : World} {k : Int} {sa : Option Addr} {ls sc : Nat} {cm : List Int} {l : List Arr} {j : Nat} (h : Gath X B W1 wr k sa ls sc cm l j) (hX : X < W1.heap.size) (hBX : B ≤ X) (hj : j < l.length)
    (hl : l.length ≤ 65536) (hx : rightE l[j] = 0) (hok : Okay k cm l[j]) (hR : Reach l[j]) (hk13 : 1 ≤ k ∧ k ≤ 3) (hrc : rightB cm = true) (htot : l.length * prN cm ≤ 65536) {na ia : Option Addr} {ln nc li ic : Nat} (q : Quad wr X (.int .i64 k) (.slice sa ls sc) (.slice na ln nc) (.slice ia li ic)) (b2 : Below wr.heap.size wr w2)
    {fa ta : Option Addr} {fc tc fl tl n : Nat} {v2 : Value} (hv2 : ArrOn (fun g => g ≠ X) W1 v2 l[j]) (hn : cm.length = n) (hfl : fl = (leadS l[j].shape n).length) (htl : tl = n) (hf : IntsOn (fun g => wr.heap.size ≤ g) w2 fa fc (leadS l[j].shape n)) (ht : IntsOn (fun g => g ≠ X) W1 ta tc cm) :
    Calls Try.prog 44 #[.agg #[.int .i64 k, .slice sa ls sc, .slice na ln nc, .slice ia li ic], v2, .slice fa fl fc, .slice ta tl tc, .int .i64 0] w2 fun e w3 => ∃ na' ln' nc' ia' li' ic', e = .returned (.agg #[.int .i64 k, .slice sa ls sc, .slice na' ln' nc', .slice ia' li' ic']) ∧ Quad w3 X (.int .i64 k) (.slice sa ls sc) (.slice na ln nc) (.slice ia li ic) ∧ Below B W1 w3 ∧ Gath X B W1 ((((w3.setCell ⟨X, 0, none⟩ (.int .i64 k)).setCell ⟨X, 1, none⟩ (.slice sa ls sc)).setCell ⟨X, 2, none⟩ (.slice na' ln' nc')).setCell ⟨X, 3, none⟩ (.slice ia' li' ic')) k sa ls sc cm l (j + 1) := by
  subst hn
  obtain ⟨na', ln', nc', ia', li', ic', q', hC⟩ := h.step hX hBX hj hl hx hok hR hk13 hrc htot b2 hv2 hfl htl hf ht
  obtain ⟨-, -, e1, e2⟩ := (q.below b2).uniq q'
  simp only [Value.slice.injEq] at e1 e2
  obtain ⟨rfl, rfl, rfl⟩ := e1
  obtain ⟨rfl, rfl, rfl⟩ := e2
  exact hC
theorem elem_int (g n cap j : Nat) (hj : j < n) (W : World) : (Instr.indexAt 22 (.slice (some ⟨g, 0, none⟩) n cap) (.int .i64 (j : Int))).run Try.prog W = .ok (.pointer (some ⟨g, j, none⟩)) W := by
  rw [run_indexAt_slice W _ _ _ _ .i64 (j : Int) elemInts, if_pos (by omega), sizeInts]
  show Result.ok _ W = _
  rw [show ((j : Int).toNat * 1) = j by omega, add_plain, Nat.zero_add]
theorem zeros_end {xs : List Int} {n : Nat} (hl : xs.length = n) (h : ∀ i, i < n → xs.getD i 1 = 0) : xs = List.replicate n 0 :=
  List.ext_getElem (by simp [hl]) fun i h1 h2 => by
    have := h i (by omega)
    rw [List.getD_eq_getElem?_getD, List.getElem?_eq_getElem h1] at this
    simpa using this
theorem zeros_set {xs : List Int} {n j : Nat} (hl : xs.length = n) (hj : j < n) (h : ∀ i, i < j → xs.getD i 1 = 0) : ∀ i, i < j + 1 → (xs.set j 0).getD i 1 = 0 := by
  intro i hi
  rw [List.getD_eq_getElem?_getD, List.getElem?_set]
  by_cases e : j = i
  · subst e; rw [if_pos rfl, if_pos (by omega : j < xs.length)]; rfl
  · rw [if_neg e, ← List.getD_eq_getElem?_getD]
    exact h i (by omega)
theorem lead_nil (n : Nat) : leadS [] n = List.replicate n 1 := by simp [leadS]
/-- Lead of nothing. -/
theorem leadNil (n : Nat) (hn : n ≤ 1000) (w : World) : Calls Try.prog 43 #[.slice none 0 0, .int .i64 (n : Int)] w fun e w' => ∃ va vc, e = .returned (.slice va n vc) ∧ OI w' w.heap.size (.slice va n vc) (List.replicate n 1) ∧ Below w.heap.size w w' := by
  have h := leadO none 0 [] n w (ints_nil w) (by simp) hn
  rw [lead_nil] at h
  refine h.mono ?_
  rintro e w' ⟨va, vc, rfl, ho, hb⟩
  rw [List.length_replicate] at ho ⊢
  exact ⟨va, vc, rfl, ho, hb⟩
/-- The own list one element on. -/
theorem oi_turn {w wx : World} {B g n vc j : Nat} {xs : List Int} (y : Int) (h : OI wx B (.slice (some ⟨g, 0, none⟩) n vc) xs) (hg : B ≤ g) (hb : Below B w wx) {a : Option Addr} {c : Nat} {S : List Int} (hS : IntsOn (fun g' => g' ≠ g) wx a c S) :
    OI (wx.setCell ⟨g, j, none⟩ (.int .i64 y)) B (.slice (some ⟨g, 0, none⟩) n vc) (xs.set j y) ∧ IntsOn (fun g' => g' ≠ g) (wx.setCell ⟨g, j, none⟩ (.int .i64 y)) a c S ∧ Below B w (wx.setCell ⟨g, j, none⟩ (.int .i64 y)) :=
  ⟨h.set j y, hS.keep fun g' hg' _ => ⟨hg', fun o => World.cell?_of_block (set_other _ _ _ _ _ hg')⟩, hb.setCell (p := ⟨g, j, none⟩) hg _⟩
theorem ints_apart {P : Nat → Prop} {w : World} {va : Option Addr} {L vc X : Nat} {xs : List Int} (hi : IntsOn P w va vc xs) (hne : (Value.slice va L vc).ownBlock ≠ some X) : IntsOn (fun g => P g ∧ g ≠ X) w va vc xs :=
  ⟨hi.1, fun hx ad e => ⟨hi.2 hx ad e, fun e' => hne (by subst e; simp only [Value.ownBlock]; rw [e'])⟩⟩
/-- The list at hand while a struct beside it is written. -/
theorem ints_beside {w : World} {B X n : Nat} {va : Option Addr} {L vc : Nat} {xs : List Int} {qs : List Value} {z0 z1 z2 z3 : Value} (ho : w.ownsRow B 3 1 (.slice va L vc) n qs) (q : Quad w X z0 z1 z2 z3) (hi : IntsOn (fun g => B ≤ g) w va vc xs) (c0 c1 c2 c3 : Value) :
    IntsOn (fun g => B ≤ g ∧ g ≠ X) ((((w.setCell ⟨X, 0, none⟩ c0).setCell ⟨X, 1, none⟩ c1).setCell ⟨X, 2, none⟩ c2).setCell ⟨X, 3, none⟩ c3) va vc xs :=
  (ints_apart hi (row_not_quad ho q)).keep fun g hg _ => ⟨hg, fun o => World.cell?_of_block ((set4 q c0 c1 c2 c3).2 g hg.2)⟩
theorem ints_before {w : World} {B : Nat} {va : Option Addr} {vc : Nat} {xs : List Int} (hi : IntsOn (fun g => B ≤ g) w va vc xs) (o : Obj) : IntsOn (fun g => B ≤ g ∧ g ≠ w.heap.size) (w.alloc o) va vc xs :=
  (show IntsOn (fun g => B ≤ g ∧ g < w.heap.size) w va vc xs from ⟨hi.1, fun hne ad e => ⟨hi.2 hne ad e, (ints_onlt hi.1).2 hne ad e⟩⟩).keep fun g hg hl => ⟨⟨hg.1, by omega⟩, fun o' => (below_new w o).cell hl⟩
theorem Gath.drew {X B : Nat} {W1 wr : World} {k : Int} {sa : Option Addr} {ls sc : Nat} {cm : List Int} {l : List Arr} {j : Nat} (h : Gath X B W1 wr k sa ls sc cm l j) : Gath X B W1 wr.drew k sa ls sc cm l j := by
  obtain ⟨na, ln, nc, ia, li, ic, q, ⟨h1, h2, h3, h4, h5, h6⟩ | ⟨h1, h2, h3, h4, qs, h5, h6, h7⟩⟩ := h
  · exact ⟨na, ln, nc, ia, li, ic, q, Or.inl ⟨h1, h2, h3, h4, h5.drew, h6⟩⟩
  · exact ⟨na, ln, nc, ia, li, ic, q, Or.inr ⟨h1, h2, h3, h4, qs, h5.drew, h6, Quads.keep (w := wr) (w' := wr.drew) (fun g hg _ => ⟨hg, fun _ => rfl⟩) h7⟩⟩
end Go.Proofs.Ytppdibblkaepjaa.Shape

namespace Go.Proofs.Ytppdibblkaepjaa.Shape
open Go.RowKit
set_option linter.unusedVariables false

set_option maxRecDepth 100000 in
set_option maxHeartbeats 100000000 in
theorem joinR2 (fa : Option Addr) (fc : Nat) (fr : List Int) (c : Nat) (l : List Arr) (v : Value) (B : Arr) (w : World) (b off : Nat) (hf : IntsAt w fa fc fr) (hlc : l.length ≤ c) (hc : c ≤ 9223372036854775807) (h : ArrsAt w b off l) (hR : ∀ A ∈ l, Reach A) (hB : ArrAt w v B) (hne : l ≠ []) (hs : sizeS fr = (l.length : Int)) :
    Calls Try.prog 12 #[.slice fa fr.length fc, .slice (some ⟨b, off, none⟩) l.length c, v] w (GiveArrE (joinA fr l B).1 (joinA fr l B).2 w) := by
  obtain ⟨kl, sl, ll, cl, nl, ml, dl, il, jl, el, rfl⟩ : ∃ kk sa ls sc na ln nc ia li ic, v = .agg #[.int .i64 kk, .slice sa ls sc, .slice na ln nc, .slice ia li ic] := by
    obtain ⟨kk, sh, nu, it⟩ := B
    rw [ArrAt] at hB
    obtain ⟨sa, sc, na, nc, ia, ic, hv, -⟩ := hB
    exact ⟨_, _, _, _, _, _, _, _, _, _, hv⟩
  have bw := below_two w (.cells #[.int .i64 kl, .slice sl ll cl, .slice nl ml dl, .slice il jl el] 26) (.cells #[.int .i64 0, .slice none 0 0, .slice none 0 0, .slice none 0 0] 26)
  have q6 : Quad ((w.alloc (.cells #[.int .i64 kl, .slice sl ll cl, .slice nl ml dl, .slice il jl el] 26)).alloc (.cells #[.int .i64 0, .slice none 0 0, .slice none 0 0, .slice none 0 0] 26)) (w.heap.size + 1) (.int .i64 0) (.slice none 0 0) (.slice none 0 0) (.slice none 0 0) := by simpa using Quad.new (w.alloc (.cells #[.int .i64 kl, .slice sl ll cl, .slice nl ml dl, .slice il jl el] 26)) (.int .i64 0) (.slice none 0 0) (.slice none 0 0) (.slice none 0 0)
  have hf1 := hf.below bw
  have hfl := hf.len
  have bfr := hf.2.2.1
  obtain ⟨W0, hW0⟩ : ∃ W0, (w.alloc (.cells #[.int .i64 kl, .slice sl ll cl, .slice nl ml dl, .slice il jl el] 26)).alloc (.cells #[.int .i64 0, .slice none 0 0, .slice none 0 0, .slice none 0 0] 26) = W0 := ⟨_, rfl⟩
  rw [hW0] at bw q6 hf1
  have hrf : rightB fr = true := Classical.byContradiction fun g => by
    rw [sizeS, if_neg g] at hs
    omega
  have hpf : prN fr = l.length := by
    rw [sizeS, if_pos hrf] at hs
    unfold prN; omega
  have hl6 : l.length ≤ 65536 := by
    have := (part_bd (a := fr) (b := []) (by rw [List.append_nil]; exact hrf)).2.1
    rw [← hpf]; unfold prN; omega
  have hf8 := (right_def.1 hrf).1
  have hn : ¬ l.length = 0 := fun e => hne (List.eq_nil_of_length_eq_zero e)
  have hl0 : 0 < l.length := by omega
  have hhd : l.headD zeroA = l[0] := by cases l with
    | nil => exact absurd rfl hne
    | cons A r => rfl
  obtain ⟨k0, hk0⟩ : ∃ k, l[0].kind = k := ⟨_, rfl⟩
  have e2 : ((l.length : Int) == 0) = false := by simpa using hn
  have HPR : Hid (∀ j (hj : j < l.length), rightE l[j] ≠ 0 → joinA fr l B = (zeroA, 1)) := fun j hj hx => by
    rw [joinA, if_pos hs, if_neg hn, if_neg]
    intro hall
    exact hx (by simpa using List.all_eq_true.1 hall _ (List.getElem_mem hj))
  have HPK : Hid ((∀ A ∈ l, rightE A = 0) → ∀ j (hj : j < l.length), l[j].kind ≠ k0 → joinA fr l B = (zeroA, 14)) := fun hr j hj hx => by
    rw [joinA, if_pos hs, if_neg hn, if_pos (List.all_eq_true.2 fun A hA => by simpa using hr A hA), if_neg]
    intro hall
    have := List.all_eq_true.1 hall _ (List.getElem_mem hj)
    rw [hhd, hk0] at this
    exact hx (by simpa using this)
  have HPO : Hid ((∀ A ∈ l, rightE A = 0) → (∀ A ∈ l, A.kind = k0) → joinA fr l B = asmS k0 fr (commonS l) l) := fun hr hk => by
    rw [joinA, if_pos hs, if_neg hn, if_pos (List.all_eq_true.2 fun A hA => by simpa using hr A hA), if_pos (List.all_eq_true.2 fun A hA => by rw [hhd, hk0]; simpa using hk A hA), hhd, hk0]
  obtain ⟨kz, saz, scz, naz, lnz, ncz, iaz, liz, icz, ⟨tz, -, -, -⟩, -, -, hkz⟩ := h.shape hl0
  obtain rfl : k0 = kz := by rw [← hk0]; exact hkz
  rw [Nat.zero_mul, Nat.add_zero] at tz
  have hix0 : ∀ W : World, (Instr.indexAt 23 (.slice (some ⟨b, off, none⟩) l.length c) (.int .i64 0)).run Try.prog W = .ok (.pointer (some ⟨b, off, none⟩)) W := by
    intro W
    have := items_at (ia := some ⟨b, off, none⟩) (b := b) (off := off) (l := l) (ic := c) rfl (fun _ => rfl) hl0 W
    rw [Nat.zero_mul, Nat.add_zero] at this
    exact this
  have T := fun W (g : IntsAt W fa fc fr) => refRightR fa fc fr W g
  have S := fun W (g : IntsAt W fa fc fr) => refSizeR fa fc fr W g
  rw [hrf] at T
  rw [hs] at S
  clear hs hhd hk0 hkz hB
  go_enter Try.func12, Try.ntmps12
  go_wp2_with (first
    | (go_at_call 40; refine (T _ hf1).mono ?_; rintro e w1' ⟨rfl, rfl⟩)
    | (go_at_call 41; refine (S _ hf1).mono ?_; rintro e w1' ⟨rfl, rfl⟩))
  clear T S hf1
  go_loopw [8, 9] (fun ax i wr => ∃ j m : Nat, j ≤ l.length ∧ ax = .int .i64 (m : Int) ∧ i = .int .i64 j ∧ Hid (maxRank (l.take j) = m) ∧ m ≤ 8 ∧ Hid (∀ i' (hi : i' < l.length), i' < j → rightE l[i'] = 0) ∧ Below W0.heap.size W0 wr) (fun _ i _ => l.length - (intOf i).toNat)
  case atStart => exact ⟨0, 0, Nat.zero_le _, rfl, rfl, rfl, by decide, fun i' _ h => absurd h (Nat.not_lt_zero _), Below.refl _ _⟩
  case round =>
    obtain ⟨j, m, hj, rfl, rfl, hm, hm8, hall, hb⟩ := hrel
    have hbw := Below.then bw hb
    by_cases hlt : j < l.length
    · obtain ⟨kj, saj, scj, naj, lnj, ncj, iaj, lij, icj, ⟨t0, t1, t2, t3⟩, -, hAj, -⟩ := h.shape hlt
      have y0 := (hbw.cell (cell_lt t0)).trans t0
      have y1 := (hbw.cell (cell_lt t1)).trans t1
      have y2 := (hbw.cell (cell_lt t2)).trans t2
      have y3 := (hbw.cell (cell_lt t3)).trans t3
      have hixj := items_at (ia := some ⟨b, off, none⟩) (b := b) (off := off) (l := l) (ic := c) rfl (fun _ => rfl) hlt
      obtain ⟨x, hx⟩ : ∃ x, rightE l[j] = x := ⟨_, rfl⟩
      have R := fun v' w' (g : ArrAt w' v' l[j]) => rightR3 v' l[j] w' g
      rw [hx] at R
      have HX := HPR.out j hlt
      rw [hx] at HX
      have RQ := R _ _ (hAj.below hbw)
      have HM : Hid (maxRank (l.take (j + 1)) = max m l[j].shape.length) := by unfold Hid; rw [take_snocA hlt, maxRank_snoc, hm.out]
      have H8 : Hid (rightE l[j] = 0 → l[j].shape.length ≤ 8) := fun g => (right_def.1 (right_short g)).1
      clear t0 t1 t2 t3 hAj R
      by_cases hx0 : x = 0
      · have e5 : (x != 0) = false := by simpa using hx0
        have h8 := H8.out (hx.trans hx0)
        have HS : Hid (∀ i' (hi : i' < l.length), i' < j + 1 → rightE l[i'] = 0) := fun i' hi g => by
          rcases Nat.lt_succ_iff_lt_or_eq.1 g with g | g
          · exact hall.out i' hi g
          · subst g; rw [hx]; exact hx0
        clear H8 HX hx HPR HPK HPO hall
        generalize l[j].shape.length = N at *
        go_wp2_with (go_at_call 20; refine RQ.mono ?_; rintro e w2 ⟨rfl, hb2⟩; (have u1 := (hb2.cell (cell_lt y1)).trans y1))
        go_roundw
        case rel => exact ⟨j + 1, max m N, by omega, by have h10 : ((max m N : Nat) : Int) = if m < N then (N : Int) else (m : Int) := (by split <;> omega); rw [h10], by go_num, HM, by omega, HS, Below.then hb hb2⟩
        case measure => simp [intOf]; omega
      · have e5 : (x != 0) = true := by simpa using hx0
        have HP : Hid (joinA fr l B = (zeroA, 1)) := HX hx0
        have q6q := q6.below hb
        clear HX HPR HPK HPO hall H8 HM
        generalize l[j].shape.length = N at *
        go_wp2_with (go_at_call 20; refine RQ.mono ?_; rintro e w2 ⟨rfl, hb2⟩; (obtain ⟨s0, s1, s2, s3, s4, s5, s6, s7⟩ := (q6q.below hb2).cells))
        have G := give_set4 (w := w) (Nat.le_succ w.heap.size) (q6q.below hb2) (zero_on _ _) (Below.then hbw hb2)
        obtain ⟨QW, -⟩ := set4 (q6q.below hb2) (.int .i64 0) (.slice none 0 0) (.slice none 0 0) (.slice none 0 0)
        generalize ((((w2.setCell ⟨w.heap.size + 1, 0, none⟩ (.int .i64 0)).setCell ⟨w.heap.size + 1, 1, none⟩ (.slice none 0 0)).setCell ⟨w.heap.size + 1, 2, none⟩ (.slice none 0 0)).setCell ⟨w.heap.size + 1, 3, none⟩ (.slice none 0 0)) = WW at QW G ⊢
        obtain ⟨z0, z1, z2, z3, -⟩ := QW.cells
        exact bodyPost_ret (v := .tuple #[.agg #[.int .i64 0, .slice none 0 0, .slice none 0 0, .slice none 0 0], .int .i64 1]) (by simp [results, Try.results12, go_sem, z0, z1, z2, z3]) rfl (by rw [HP.out]; exact (GiveNewE.mk G).arr)
    · obtain rfl : j = l.length := by omega
      have hright : ∀ A ∈ l, rightE A = 0 := fun A hA => by
        obtain ⟨i', hi, rfl⟩ := List.getElem_of_mem hA
        exact hall.out i' hi hi
      have hk12 := (right_lens (hright _ (List.getElem_mem hl0))).2.2.2.2
      have HR : Hid (∀ A ∈ l, rightE A = 0) := hright
      have hcs : Hid (commonS l = commonG m l (List.replicate m 0)) := by
        have := hm.out
        rw [List.take_length] at this
        unfold Hid; rw [commonS, this]
      have hlr : Hid (∀ A ∈ l, A.shape.length ≤ m) := fun A hA => by
        have := hm.out
        rw [List.take_length] at this
        rw [← this]; exact maxRank_le hA
      have hcl : Hid ((commonS l).length = m) := by
        have := hm.out
        rw [List.take_length] at this
        unfold Hid; rw [commonS_len, this]
      clear hall hright HPR hm
      have LN := fun W => leadNil m (by omega) W
      have hb0 := hb
      go_wp2_with (go_at_call 43; (with_reducible refine (LN _).mono ?_); rintro e w3 ⟨va, vc, rfl, hO, hb3⟩)
      have hO1 := hO.mono hb0.size
      have hB1 := Below.then hb0 hb3
      clear LN hO hb hb0 hbw hb3
      go_loopw [11] (fun i wr => ∃ (j : Nat) (xs : List Int), j ≤ m ∧ i = .int .i64 j ∧ xs.length = m ∧ Hid (∀ i', i' < j → xs.getD i' 1 = 0) ∧ OI wr W0.heap.size (.slice va m vc) xs ∧ Below W0.heap.size W0 wr) (fun i _ => m - (intOf i).toNat)
      case atStart => exact ⟨0, _, Nat.zero_le _, rfl, by simp, fun i' h => absurd h (Nat.not_lt_zero _), hO1, hB1⟩
      case round =>
        clear hO1 hB1
        obtain ⟨j, xs, hj, rfl, hxl, hx0, hO, hb⟩ := hrel
        by_cases hlt : j < m
        · obtain ⟨g, rfl, -, hg, hgl, hcg, hfz⟩ := hO.at (j := j) (by omega)
          have hia := elem_int g m vc j hlt
          go_wp2_with fail
          go_roundw
          case rel => exact ⟨j + 1, xs.set j 0, by omega, by go_num, by rw [List.length_set]; exact hxl, zeros_set hxl hlt hx0.out, hO.set j 0, hb.setCell (p := ⟨g, j, none⟩) hg _⟩
          case measure => simp [intOf]; omega
        · obtain rfl : m = j := by omega
          obtain rfl := zeros_end hxl hx0.out
          have hO0 := hO
          have hb0 := hb
          clear hO hb hx0 hxl
          go_wp2_with fail
          go_loopw [12] (fun i wr => ∃ (j : Nat) (acc : List Int), j ≤ l.length ∧ i = .int .i64 j ∧ Hid (acc = commonG m (l.take j) (List.replicate m 0)) ∧ Hid (∀ i' (hi : i' < l.length), i' < j → l[i'].kind = k0) ∧ OI wr W0.heap.size (.slice va m vc) acc ∧ Below W0.heap.size W0 wr) (fun i _ => l.length - (intOf i).toNat)
          case atStart => exact ⟨0, _, Nat.zero_le _, rfl, rfl, fun i' _ h => absurd h (Nat.not_lt_zero _), hO0, hb0⟩
          case round =>
            clear hO0 hb0
            obtain ⟨j, acc, hj, rfl, hacc, hall, hO, hb⟩ := hrel
            have hbw := Below.then bw hb
            have hal : acc.length = m := by rw [hacc.out]; exact commonG_len m _ _ (fun A hA => hlr.out A (List.mem_of_mem_take hA)) (by simp)
            by_cases hlt : j < l.length
            · obtain ⟨kj, saj, scj, naj, lnj, ncj, iaj, lij, icj, ⟨t0, t1, t2, t3⟩, hsj, -, hkj⟩ := h.shape hlt
              have y0 := (hbw.cell (cell_lt t0)).trans t0
              have y1 := (hbw.cell (cell_lt t1)).trans t1
              have z0 := (hbw.cell (cell_lt tz)).trans tz
              have hixj := items_at (ia := some ⟨b, off, none⟩) (b := b) (off := off) (l := l) (ic := c) rfl (fun _ => rfl) hlt
              have HK := HPK.out HR.out j hlt
              rw [hkj] at HK
              have HKJ : Hid (l[j].kind = kj) := hkj
              have hnew := hlr.out _ (List.getElem_mem hlt)
              have hsw := hsj.below hbw
              clear t0 t1 t2 t3 hkj hsj
              by_cases hkk : kj = k0
              · subst hkk
                have HS : Hid (∀ i' (hi : i' < l.length), i' < j + 1 → l[i'].kind = kj) := fun i' hi g => by
                  rcases Nat.lt_succ_iff_lt_or_eq.1 g with g | g
                  · exact hall.out i' hi g
                  · subst g; exact HKJ.out
                have hacc2 : Hid (maxL acc (leadS l[j].shape m) = commonG m (l.take (j + 1)) (List.replicate m 0)) := by unfold Hid; rw [take_snocA hlt, commonG_snoc, ← hacc.out]
                have LR := fun W (g : IntsAt W saj scj l[j].shape) => leadR saj scj l[j].shape m W g (by omega) (by omega)
                have hSl := leadS_len hnew
                clear HK hacc hall HPK HPO
                generalize leadS l[j].shape m = Sh at *
                go_wp2_with fail
                go_region_held3 (fun W => W.cell? ⟨b, off + j * 4, none⟩ = some (.int .i64 kj) ∧ W.cell? ⟨b, off, none⟩ = some (.int .i64 kj))
                  (first | exact ⟨y0, z0⟩ | go_keep)
                  (fail)
                go_wp2_with (go_at_call 43; (with_reducible refine (LR _ (by exact hsw.below (below_drew _))).mono ?_); rintro e w3 ⟨s', sc', rfl, hS, hb3⟩)
                have hO1 := hO.below (Below.then (below_drew _) hb3)
                have hB1 := Below.then hb (Below.then (below_drew _) hb3)
                have hS1 : ∀ g, va = some ⟨g, 0, none⟩ → IntsOn (fun g' => g' ≠ g) w3 s' sc' Sh := fun g hg => hS.mono fun g' hg' => by
                  subst hg
                  have := (World.ownsRow.lt hO g rfl).2
                  have hdr : wr.drew.heap.size = wr.heap.size := rfl
                  omega
                clear LR hS hO hb hbw hb3 y0 y1 z0 hsw
                go_loopw [14] (fun i wx => ∃ j2 : Nat, j2 ≤ m ∧ i = .int .i64 j2 ∧ OI wx W0.heap.size (.slice va m vc) (mixL acc Sh j2) ∧ (∀ g, va = some ⟨g, 0, none⟩ → IntsOn (fun g' => g' ≠ g) wx s' sc' Sh) ∧ Below W0.heap.size W0 wx) (fun i _ => m - (intOf i).toNat)
                case atStart => exact ⟨0, Nat.zero_le _, rfl, by rw [mixL_zero]; exact hO1, hS1, hB1⟩
                case round =>
                  clear hO1 hB1 hS1
                  obtain ⟨j2, hj2, rfl, hO, hS0, hb⟩ := hrel
                  by_cases hlt2 : j2 < m
                  · have hml := mixL_len (j := j2) hal hSl
                    obtain ⟨g, rfl, -, hg, hgl, hcg, hfz⟩ := hO.at (j := j2) (by omega)
                    rw [mixL_at hal hSl hlt2] at hcg
                    have hS := hS0 g rfl
                    have hia := elem_int g m vc j2 hlt2
                    obtain ⟨bs, os, his, hcs2⟩ := hS.1.at (k := j2) (by omega)
                    rw [hSl] at his
                    obtain ⟨x, hx⟩ : ∃ x, acc[j2]'(by omega) = x := ⟨_, rfl⟩
                    obtain ⟨y, hy⟩ : ∃ y, Sh[j2]'(by omega) = y := ⟨_, rfl⟩
                    rw [hx] at hcg
                    rw [hy] at hcs2
                    have hF := fun v hv => mixL_set hal hSl hlt2 (v := v) hx (by rw [List.getElem?_eq_getElem (by omega), hy]) hv
                    have hT := fun y => oi_turn (j := j2) y hO hg hb hS
                    clear hx hy hS0 hS hO hb
                    go_wp2_with fail
                    go_region
                    go_wp2_with fail
                    go_roundw
                    case rel =>
                      obtain ⟨t1, t2, t3⟩ := hT (if x < y then y else x)
                      rw [hF _ (by split <;> omega)] at t1
                      exact ⟨j2 + 1, by omega, by go_num, t1, fun g' hg' => by cases hg'; exact t2, t3.drew⟩
                    case measure => simp [intOf]; omega
                  · obtain rfl : m = j2 := by omega
                    rw [mixL_all hal hSl] at hO
                    clear hS0
                    go_wp2_with fail
                    go_roundw
                    case rel => exact ⟨j + 1, _, by omega, by go_num, hacc2, HS, hO, hb⟩
                    case measure => simp [intOf]; omega
              · have e7 : (kj != k0) = true := by simpa using hkk
                have HP : Hid (joinA fr l B = (zeroA, 14)) := HK hkk
                have q6q := q6.below hb
                clear HK HPK HPO hall
                obtain ⟨s0, s1, s2, s3, s4, s5, s6, s7⟩ := q6q.cells
                go_wp2_with fail
                go_region_held3 (fun W => W.cell? ⟨b, off + j * 4, none⟩ = some (.int .i64 kj) ∧ W.cell? ⟨b, off, none⟩ = some (.int .i64 k0))
                  (first | exact ⟨y0, z0⟩ | go_keep)
                  (fail)
                go_wp2_with fail
                have G0 := give_set4 (w := w) (Nat.le_succ w.heap.size) (q6q.drewC) (zero_on _ _) (hbw.drew)
                have G : GiveNew zeroA w (.returned (.agg #[.int .i64 0, .slice none 0 0, .slice none 0 0, .slice none 0 0])) (World.drew ((((wr.setCell ⟨w.heap.size + 1, 0, none⟩ (.int .i64 0)).setCell ⟨w.heap.size + 1, 1, none⟩ (.slice none 0 0)).setCell ⟨w.heap.size + 1, 2, none⟩ (.slice none 0 0)).setCell ⟨w.heap.size + 1, 3, none⟩ (.slice none 0 0))) := G0
                obtain ⟨QW, -⟩ := set4 (q6q) (.int .i64 0) (.slice none 0 0) (.slice none 0 0) (.slice none 0 0)
                generalize ((((wr.setCell ⟨w.heap.size + 1, 0, none⟩ (.int .i64 0)).setCell ⟨w.heap.size + 1, 1, none⟩ (.slice none 0 0)).setCell ⟨w.heap.size + 1, 2, none⟩ (.slice none 0 0)).setCell ⟨w.heap.size + 1, 3, none⟩ (.slice none 0 0)) = WW at QW G ⊢
                obtain ⟨z0', z1', z2', z3', -⟩ := QW.cells
                exact bodyPost_ret (v := .tuple #[.agg #[.int .i64 0, .slice none 0 0, .slice none 0 0, .slice none 0 0], .int .i64 14]) (by simp [results, Try.results12, go_sem, z0', z1', z2', z3']) rfl (by rw [HP.out]; exact (GiveNewE.mk G).arr)
            · obtain rfl : j = l.length := by omega
              have hkinds : ∀ A ∈ l, A.kind = k0 := fun A hA => by
                obtain ⟨i', hi, rfl⟩ := List.getElem_of_mem hA
                exact hall.out i' hi hi
              have hok := okay_join HR.out hkinds
              have hk13 : 1 ≤ k0 ∧ k0 ≤ 3 := by
                have := hkinds _ (List.getElem_mem hl0)
                rw [this] at hk12
                exact hk12
              have hac : acc = commonS l := by rw [hacc.out, List.take_length, ← hcs.out]
              have bcs := commonS_bd h
              have HPN := HPO.out HR.out hkinds
              have hcl2 := hcl.out
              clear hacc hcs hcl hlr HPO HPK hall hkinds
              generalize commonS l = cs at *
              subst hac
              have HPB : Hid (¬ rightB (fr ++ acc) = true → joinA fr l B = (zeroA, 21)) := fun g => by rw [HPN, asmS, if_neg g]
              have hcr : Hid (rightB (fr ++ acc) = true → rightB acc = true) := fun g => by
                have := right_drop (k := fr.length) g
                rwa [List.drop_left] at this
              have HPT : Hid (rightB (fr ++ acc) = true → l.length * prN acc ≤ 65536) := fun g => by
                have h1 := prN_le g
                rwa [prN_append (right_def.1 hrf).2.1 (right_def.1 (hcr.out g)).2.1, hpf] at h1
              have HPG : Hid (rightB (fr ++ acc) = true → joinA fr l B = outR (asmA k0 (fr ++ acc) acc l)) := fun g => by
                rw [HPN, asmS, if_pos g]
                exact (outR_asm HR.out hok hk13 g (hcr.out g) (by rw [prN_append (right_def.1 hrf).2.1 (right_def.1 (hcr.out g)).2.1, hpf])).symm
              have hfw := hf.below hbw
              have hcw := hO.ints bcs
              have hOc := hcw
              have z0 := (hbw.cell (cell_lt tz)).trans tz
              have Z0h : Hid (wr.cell? ⟨b, off, none⟩ = some (.int .i64 k0)) := z0
              have H0 : ∀ w', Below wr.heap.size wr w' → w'.cell? ⟨b, off, none⟩ = some (.int .i64 k0) := fun w' hb => (hb.cell (cell_lt Z0h.out)).trans Z0h.out
              have r1 := rowlitB wr wr.heap.size (Nat.le_refl _)
              have r2 := rowlitB (wr.alloc (.cells #[.int .i64 0, .slice none 0 0, .slice none 0 0, .slice none 0 0] 26)) wr.heap.size (by rw [alloc_sizeP]; exact Nat.le_succ _)
              have r3 := r1.alloc (.cells #[.int .i64 0, .slice none 0 0, .slice none 0 0, .slice none 0 0] 26)
              rw [alloc_sizeP] at r2
              have h8r : (0 + fr.length) * 8 ≤ 140737488351232 := by rw [Nat.zero_add]; exact Nat.le_trans (Nat.mul_le_mul_right 8 hf8) (by decide)
              have h8s : (fr.length + acc.length) * 8 ≤ 140737488351232 := Nat.le_trans (Nat.mul_le_mul_right 8 (Nat.add_le_add hf8 (by rw [hcl2]; exact hm8))) (by decide)
              clear HPN hO z0 hal
              go_wp2_with fail
              go_cut [15] (fun v15 wx => ∃ (X : Nat) (xa : Option Addr) (L xc : Nat), v15 = .pointer (some ⟨X, 0, none⟩) ∧ Hid (L = (fr ++ acc).length) ∧ Quad wx X (.int .i64 k0) (.slice xa L xc) (.slice none 0 0) (.slice none 0 0) ∧ IntsOn (fun g => wr.heap.size ≤ g ∧ g ≠ X) wx xa xc (fr ++ acc) ∧ wr.heap.size ≤ X ∧ Below wr.heap.size wr wx)
              case first =>
                clear HPB HPT HPG hcr hok HR hOc
                go_region_held_law (fun w' => w'.cell? ⟨b, off, none⟩ = some (.int .i64 k0))
                  (first
                    | exact H0 _ (below_drew _)
                    | exact H0 _ bg3
                    | exact H0 _ bg
                    | exact H0 _ (Below.trans bg3 (set4_below (by first | exact Nat.le_refl _ | exact Nat.le_succ _ | exact S3) _ _ _ _))
                    | exact H0 _ (Below.then bg3 (by go_grown))
                    | exact H0 _ (Below.then bg (by go_grown))
                    | exact H0 _ (by go_grown))
                  (((first
                    | (refine step_ints_own rfl _ _ rfl wr.heap.size fr.length v2 _ (by rfl) (by first | exact ho2 | exact ho2.alloc _) (by first | exact S3 | exact Nat.le_trans S3 (below_new _ _).size) _ _ _ acc (by rfl) hcl2.symm (hcw.1.below (by first | exact bg | exact Below.then bg (by go_grown))) h8s ?_; intro v3 w4 ho3 hg3; (have bg3 : Below wr.heap.size wr w4 := Below.grown (by first | exact bg | exact Below.then bg (by go_grown)) hg3 (by first | exact S3 | exact Nat.le_trans S3 (below_new _ _).size) (fun q hq => (ho2.lt q hq).1)); (obtain ⟨va3, L3, vc3, rfl, hL3, hi3⟩ := app_shape ho3 rfl rfl bfr bcs); (first | (have qX2 := Quad.keep qX (hg3.block _ qX.lt (fun e => row_not_quad ho2 qX e.symm)); (obtain ⟨x0, x1, x2, x3, x4, x5, x6, x7⟩ := qX2.cells)) | (have qX2 := Quad.keep (Quad.new w3 (.int .i64 0) (.slice none 0 0) (.slice none 0 0) (.slice none 0 0)) (hg3.block _ (Quad.new w3 (.int .i64 0) (.slice none 0 0) (.slice none 0 0) (.slice none 0 0)).lt (fun e => row_not_quad (ho2.alloc _) (Quad.new w3 (.int .i64 0) (.slice none 0 0) (.slice none 0 0) (.slice none 0 0)) e.symm)); (obtain ⟨x0, x1, x2, x3, x4, x5, x6, x7⟩ := qX2.cells)) | skip))
                    | (refine step_ints_own rfl _ _ rfl wr.heap.size 0 (.slice (some ⟨wr.heap.size, 0, none⟩) 0 0) [] (by rfl) (by first | exact r1 | exact r3) (by simp <;> omega) _ _ _ fr (by rfl) rfl (hfw.below (by go_grown)) h8r ?_; intro v2 w3 ho2 hg2; (have bg : Below wr.heap.size wr w3 := Below.grown (by go_grown) hg2 (by simp <;> omega) (fun q hq => by have e := Option.some.inj hq; rw [← e]; first | exact Nat.le_refl _ | exact Nat.le_succ _)); (simp only [Nat.zero_add, List.nil_append] at ho2); (have S3 := bg.size); (first | (have qX := Quad.keep (Quad.new (wr.alloc (.cells #[] 3)) (.int .i64 0) (.slice none 0 0) (.slice none 0 0) (.slice none 0 0)) (hg2.block (wr.alloc (.cells #[] 3)).heap.size (by simp <;> omega) (by simp [Value.ownBlock])); (rw [alloc_sizeP] at qX)) | skip))
                    | (refine step_ints_own rfl _ _ rfl wr.heap.size 0 (.slice (some ⟨wr.heap.size + 1, 0, none⟩) 0 0) [] (by rfl) (by exact r2) (by simp <;> omega) _ _ _ fr (by rfl) rfl (hfw.below (by go_grown)) h8r ?_; intro v2 w3 ho2 hg2; (have bg : Below wr.heap.size wr w3 := Below.grown (by go_grown) hg2 (by simp <;> omega) (fun q hq => by have e := Option.some.inj hq; rw [← e]; first | exact Nat.le_refl _ | exact Nat.le_succ _)); (simp only [Nat.zero_add, List.nil_append] at ho2); (have S3 := bg.size); (have qX := Quad.keep (Quad.below (below_new _ (.cells #[] 3)) (Quad.new wr (.int .i64 0) (.slice none 0 0) (.slice none 0 0) (.slice none 0 0))) (hg2.block wr.heap.size (by simp <;> omega) (by simp [Value.ownBlock])))))))
                all_goals go_wp2_with fail
                all_goals go_meet
                all_goals first
                  | exact ⟨_, va3, L3, vc3, rfl, hL3, Quad.new _ _ _ _ _, ints_before hi3 _, bg3.size, Below.then bg3 (below_new _ _)⟩
                  | exact ⟨_, va3, L3, vc3, rfl, hL3, (set4 qX2 _ _ _ _).1, ints_beside ho3 qX2 hi3 _ _ _ _, by first | exact Nat.le_refl _ | exact Nat.le_succ _ | exact S3, bg3.trans (set4_below (by first | exact Nat.le_refl _ | exact Nat.le_succ _ | exact S3) _ _ _ _)⟩
              case rest =>
                obtain ⟨X, xa, L, xc, rfl, hL, qX, hV, hWX, BX⟩ := hcut
                clear H0 Z0h r1 r2 r3 h8r h8s hcw hfw
                have hB0 : Below W0.heap.size W0 wc := hb.trans (BX.mono hb.size)
                have hT : IntsOn (fun g => g ≠ X) wc va vc acc := (hOc).keep fun g hg hl => ⟨by omega, fun o => BX.cell hl⟩
                have hXl := qX.lt
                have hbs := hb.size
                have hVr := hV.1
                have hBw := Below.then bw hB0
                have q6c := q6.below hB0
                have hq6 := q6.lt
                obtain ⟨x0, x1, x2, x3, -⟩ := qX.cells
                have RT := refRightR xa xc (fr ++ acc) wc hVr
                rw [← hL.out] at RT
                clear hOc
                by_cases hrr : rightB (fr ++ acc) = true
                · rw [hrr] at RT
                  have hrc := hcr.out hrr
                  have htot := HPT.out hrr
                  have HPX := HPG.out hrr
                  have hVo : IntsOn (fun g => W0.heap.size ≤ g ∧ g ≠ X) wc xa xc (fr ++ acc) := hV.mono fun g hg => ⟨by have := hg.1; omega, hg.2⟩
                  have CK := fun k sa ls sc na ln nc ia li ic w' (g : ArrOn (fun g => w.heap.size + 1 < g) w' (.agg #[.int .i64 k, .slice sa ls sc, .slice na ln nc, .slice ia li ic]) (asmA k0 (fr ++ acc) acc l)) => checkedRR k sa ls sc na ln nc ia li ic _ w' g
                  have DN := fun (wr2 : World) (hG : Gath X W0.heap.size wc wr2 k0 xa L xc acc l l.length) => Gath.done hG hL.out hXl (by omega) hk13 hrc hok (fun A hA => by
                    obtain ⟨i, hi, rfl⟩ := List.getElem_of_mem hA
                    obtain ⟨_, _, _, _, _, _, _, _, _, -, -, hAi, -⟩ := h.shape hi
                    exact nums_bound hAi) hVo
                  obtain ⟨AS, hAS⟩ : ∃ AS, asmA k0 (fr ++ acc) acc l = AS := ⟨_, rfl⟩
                  rw [hAS] at CK DN HPX
                  obtain ⟨PA, er, hPA⟩ : ∃ PA er, outR AS = (PA, er) := ⟨_, _, rfl⟩
                  rw [hPA] at CK HPX
                  have HPA : Hid (joinA fr l B = (PA, er)) := HPX
                  clear HPX HPG HPT HPB hcr hAS hPA hV hVr hVo
                  have G0 := Gath.start (B := W0.heap.size) qX acc l
                  go_wp2_with (go_at_call 40; (with_reducible refine RT.mono ?_); rintro e w1' ⟨rfl, rfl⟩)
                  clear x0 x1 x2 x3 RT qX
                  go_loopw [16] (fun i wr2 => ∃ j : Nat, j ≤ l.length ∧ i = .int .i64 j ∧ Gath X W0.heap.size wc wr2 k0 xa L xc acc l j) (fun i _ => l.length - (intOf i).toNat)
                  case atStart => exact ⟨0, Nat.zero_le _, rfl, G0⟩
                  case round =>
                    clear G0
                    obtain ⟨j, hj, rfl, hG⟩ := hrel
                    have hB2 := hB0.trans hG.bel
                    have hBw2 := Below.then bw hB2
                    by_cases hlt : j < l.length
                    · obtain ⟨kj, saj, scj, naj, lnj, ncj, iaj, lij, icj, ⟨t0, t1, t2, t3⟩, hsj, hAj, -⟩ := h.shape hlt
                      have y0 := (hBw2.cell (cell_lt t0)).trans t0
                      have y1 := (hBw2.cell (cell_lt t1)).trans t1
                      have y2 := (hBw2.cell (cell_lt t2)).trans t2
                      have y3 := (hBw2.cell (cell_lt t3)).trans t3
                      have hixj := items_at (ia := some ⟨b, off, none⟩) (b := b) (off := off) (l := l) (ic := c) rfl (fun _ => rfl) hlt
                      obtain ⟨na, ln, nc, ia, li, ic, qX⟩ := hG.quad
                      obtain ⟨x0, x1, x2, x3, f0, f1, f2, f3⟩ := qX.cells
                      have hm8' : l[j].shape.length ≤ 8 := (right_def.1 (right_short (HR.out _ (List.getElem_mem hlt)))).1
                      have hAX := hAj.on.keep (R := fun g => g ≠ X) (w' := wc) fun g hg hl => ⟨by have := bw.size; omega, fun o => hBw.cell hl⟩
                      have LR := fun W (g : IntsAt W saj scj l[j].shape) => leadR saj scj l[j].shape m W g (by omega) (by omega)
                      have PS := fun (w5 : World) (f' : Option Addr) (fc' : Nat) (hb5 : Below wr.heap.size wr w5) (hF : IntsOn (fun g => wr.heap.size ≤ g) w5 f' fc' (leadS l[j].shape m)) => Gath.step2 hG hXl (by omega) hlt hl6 (HR.out _ (List.getElem_mem hlt)) (hok _ (List.getElem_mem hlt)) (hR _ (List.getElem_mem hlt)) hk13 hrc htot qX hb5 hAX hcl2 rfl rfl hF hT
                      have hsw := hsj.below hBw2
                      generalize leadS l[j].shape m = Sh at *
                      have hGb := hG.bel
                      have hGs : W0.heap.size ≤ wr.heap.size := Nat.le_trans hB0.size hGb.size
                      have H6 : ∀ w', Below W0.heap.size wc w' → w'.cell? ⟨b, off + j * 4, none⟩ = some (.int .i64 kj) ∧ w'.cell? ⟨b, off + j * 4 + 1, none⟩ = some (.slice saj l[j].shape.length scj) ∧ w'.cell? ⟨b, off + j * 4 + 2, none⟩ = some (.slice naj lnj ncj) ∧ w'.cell? ⟨b, off + j * 4 + 3, none⟩ = some (.slice iaj lij icj) := fun w' hb => by
                        have hb' := Below.then bw (hB0.trans hb)
                        exact ⟨(hb'.cell (cell_lt t0)).trans t0, (hb'.cell (cell_lt t1)).trans t1, (hb'.cell (cell_lt t2)).trans t2, (hb'.cell (cell_lt t3)).trans t3⟩
                      clear t0 t1 t2 t3 hsj hAj hAX hT CK DN hok HR hG
                      go_wp2_with fail
                      have y := H6 _ hGb
                      obtain ⟨y0, y1, y2, y3⟩ := y
                      go_region_law ((first
                        | (go_simp; (with_reducible refine (LR _ (by exact hsw.below (by go_grown))).mono ?_); rintro e w5 ⟨f', fc', rfl, hF, hb5⟩; (have e5 : Below wr.heap.size wr w5 := Below.then (by go_grown) hb5); (have S5 := e5.size); (have b5 : Below W0.heap.size wc w5 := hGb.trans (e5.mono hGs)); (obtain ⟨x0', x1', x2', x3', -⟩ := (qX.below e5).cells); (obtain ⟨y0', y1', y2', y3'⟩ := H6 _ b5))
                        | (go_simp; (with_reducible refine (PS _ _ _ (by first | exact e5 | exact Below.then e5 (below_drew _)) (by exact hF.mono fun g hg => Nat.le_trans (Nat.le_of_eq (show wr.heap.size = wr.drew.heap.size from rfl)) hg)).mono ?_); rintro e w6 ⟨na', ln', nc', ia', li', ic', rfl, qz, bz, hG2⟩; (obtain ⟨s0, s1, s2, s3, s4, s5, s6, s7⟩ := qz.cells))))
                      all_goals go_wp2_with fail
                      all_goals
                        go_roundw
                        case rel => exact ⟨j + 1, by omega, by go_num, by first | exact hG2 | exact hG2.drew⟩
                        case measure => simp [intOf]; omega
                    · obtain rfl : j = l.length := by omega
                      obtain ⟨na, ln, nc, ia, li, ic, qX, hAO⟩ := DN _ hG
                      have CK1 := CK _ _ _ _ _ _ _ _ _ _ _ (hAO.mono fun g hg => Nat.lt_of_lt_of_le hq6 hg)
                      obtain ⟨x0, x1, x2, x3, -⟩ := qX.cells
                      have q6d := q6.below hB2
                      clear CK DN hAO hG hok HR
                      go_wp2_with (go_at_call 42; (with_reducible refine CK1.mono ?_); rintro e w6 ⟨kr, sar, lsr, scr, nar, lnr, ncr, iar, lir, icr, rfl, hO, hb6⟩; (obtain ⟨s0, s1, s2, s3, s4, s5, s6, s7⟩ := (q6d.below hb6).cells))
                      have q3 := q6d.below hb6
                      have G := give_set4 (w := w) (Nat.le_succ w.heap.size) q3 hO (Below.then hBw2 hb6)
                      obtain ⟨QW, -⟩ := set4 q3 (.int .i64 kr) (.slice sar lsr scr) (.slice nar lnr ncr) (.slice iar lir icr)
                      generalize ((((w6.setCell ⟨w.heap.size + 1, 0, none⟩ (.int .i64 kr)).setCell ⟨w.heap.size + 1, 1, none⟩ (.slice sar lsr scr)).setCell ⟨w.heap.size + 1, 2, none⟩ (.slice nar lnr ncr)).setCell ⟨w.heap.size + 1, 3, none⟩ (.slice iar lir icr)) = WW at QW G ⊢
                      obtain ⟨z0, z1, z2, z3, -⟩ := QW.cells
                      exact bodyPost_ret (v := .tuple #[.agg #[.int .i64 kr, .slice sar lsr scr, .slice nar lnr ncr, .slice iar lir icr], .int .i64 er]) (by simp [results, Try.results12, go_sem, z0, z1, z2, z3]) rfl (by rw [HPA.out]; exact (GiveNewE.mk G).arr)
                · have hr2 : rightB (fr ++ acc) = false := by simpa using hrr
                  rw [hr2] at RT
                  have HP : Hid (joinA fr l B = (zeroA, 21)) := HPB.out hrr
                  clear HPG HPT HPB hcr hok HR hV hVr
                  obtain ⟨s0, s1, s2, s3, s4, s5, s6, s7⟩ := q6c.cells
                  go_wp2_with (go_at_call 40; (with_reducible refine RT.mono ?_); rintro e w1' ⟨rfl, rfl⟩)
                  have G := give_set4 (w := w) (Nat.le_succ w.heap.size) (q6c) (zero_on _ _) (hBw)
                  obtain ⟨QW, -⟩ := set4 (q6c) (.int .i64 0) (.slice none 0 0) (.slice none 0 0) (.slice none 0 0)
                  generalize ((((wc.setCell ⟨w.heap.size + 1, 0, none⟩ (.int .i64 0)).setCell ⟨w.heap.size + 1, 1, none⟩ (.slice none 0 0)).setCell ⟨w.heap.size + 1, 2, none⟩ (.slice none 0 0)).setCell ⟨w.heap.size + 1, 3, none⟩ (.slice none 0 0)) = WW at QW G ⊢
                  obtain ⟨z0, z1, z2, z3, -⟩ := QW.cells
                  exact bodyPost_ret (v := .tuple #[.agg #[.int .i64 0, .slice none 0 0, .slice none 0 0, .slice none 0 0], .int .i64 21]) (by simp [results, Try.results12, go_sem, z0, z1, z2, z3]) rfl (by rw [HP.out]; exact (GiveNewE.mk G).arr)
end Go.Proofs.Ytppdibblkaepjaa.Shape

namespace Go.Proofs.Ytppdibblkaepjaa.Shape
open Go.RowKit
set_option linter.unusedVariables false

theorem joinR (fa : Option Addr) (fc : Nat) (fr : List Int) (a : Option Addr) (c : Nat) (l : List Arr) (v : Value) (B : Arr) (w : World) (b off : Nat) (hf : IntsAt w fa fc fr) (hlc : l.length ≤ c) (hc : c ≤ 9223372036854775807) (ha : l ≠ [] → a = some ⟨b, off, none⟩) (h : ArrsAt w b off l) (hR : ∀ A ∈ l, Reach A) (hB : ArrAt w v B) :
    Calls Try.prog 12 #[.slice fa fr.length fc, .slice a l.length c, v] w (GiveArrE (joinA fr l B).1 (joinA fr l B).2 w) := by
  by_cases hs : sizeS fr = (l.length : Int)
  · by_cases hne : l = []
    · subst hne
      exact joinR1 fa fc fr a c v B w hf hB hs
    · have ha' := ha hne
      subst ha'
      exact joinR2 fa fc fr c l v B w b off hf hlc hc h hR hB hne hs
  · exact joinR0 fa fc fr a c l v B w hf hB (by omega) hs
end Go.Proofs.Ytppdibblkaepjaa.Shape
