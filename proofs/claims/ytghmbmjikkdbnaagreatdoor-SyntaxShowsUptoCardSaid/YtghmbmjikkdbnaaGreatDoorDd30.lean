/-
  Layer 10: the literals within a valid node: their text, by the program and by the reference.
  Layer 10: the laws SyntaxShows and SyntaxParts, walked.
  Layer 10: the law SyntaxParts, walked.
-/
import Derived.Test.YtghmbmjikkdbnaaGreatDoorDd22
import Derived.Test.YtghmbmjikkdbnaaGreatDoorDd27
import Derived.Test.YtghmbmjikkdbnaaGreatDoorDd28
import Derived.Test.YtghmbmjikkdbnaaGreatDoorDd7
import Derived.Test.YtghmbmjikkdbnaaGreatDoorDd15
namespace Go.Proofs.YtghmbmjikkdbnaaGreatDoor.Syn
open Go.RowKit Go.Shelf Go.Maps Go.Proofs.YtghmbmjikkdbnaaGreatDoor.Shape
set_option linter.unusedVariables false
set_option linter.unusedSimpArgs false
set_option maxRecDepth 100000
def litW (A : Arr) : ByteArray := ⟨(litS A).toArray⟩
theorem lit_forms {A : Arr} (hx : rightE A = 0) (hb : litB A = true) : (∃ k x, (k = 1 ∨ k = 2) ∧ A = .mk k [] [x] []) ∨ (∃ n nu, A = .mk 2 [n] nu [] ∧ (∀ x ∈ nu, 0 ≤ x ∧ x ≤ 1114111) ∧ nu.length ≤ 65536) := by
  obtain ⟨k, sh, nu, it⟩ := A
  have V := val_of hx
  have hk := V.kind
  unfold litB at hb
  simp only [Bool.or_eq_true, Bool.and_eq_true, beq_iff_eq, bne_iff_ne, Arr.shape, Arr.kind] at hb
  rcases hb with ⟨h0, h3⟩ | ⟨h1, h2⟩
  · have e : sh = [] := List.eq_nil_of_length_eq_zero (by omega)
    subst e
    have hs := V.size
    rw [size12 (A := .mk k [] nu it) (by simpa [Arr.kind] using h3) (by simpa [Arr.kind] using hk)] at hs
    have e2 : it = [] := V.plain h3
    subst e2
    simp [Arr.nums, pr] at hs
    have hl : nu.length = 1 := by omega
    match nu, hl with
    | [x], _ => exact Or.inl ⟨k, x, by omega, rfl⟩
  · subst h2
    have hs := V.size
    rw [size12 (A := .mk 2 sh nu it) (by simp [Arr.kind]) (by simp [Arr.kind])] at hs
    have e2 : it = [] := V.plain (by decide)
    subst e2
    have hl : sh.length = 1 := by omega
    match sh, hl with
    | [n], _ =>
      have hd := V.dims
      refine Or.inr ⟨n, nu, rfl, chars_bd V.elems, ?_⟩
      have h8 := dims_parts hd
      simp [Arr.nums, pr] at hs
      have hn := h8.2.2
      simp [nz] at hn
      split at hn <;> omega
theorem lit_vec (n : Int) (nu : List Int) : litS (.mk 2 [n] nu []) = quoS nu := by
  rw [litS, litT, if_neg (by simp), if_pos ⟨by simp, Or.inl rfl⟩, vecS, if_pos rfl]
theorem scal_size (k x : Int) (hk : k = 1 ∨ k = 2) : aSize (.mk k [] [x] []) = 1 := by
  rw [size12 (A := .mk k [] [x] []) (by simp [Arr.kind]; omega) (by simp [Arr.kind]; omega)]
  simp [Arr.nums]
theorem scal_len {k x : Int} (hk : k = 1 ∨ k = 2) (h : ∀ y ∈ [x], elemB k y = true) : ((elsT (.mk k [] [x] [])).headD []).length ≤ 30 := by
  rcases hk with rfl | rfl
  · have e : elsT (.mk 1 [] [x] []) = [x].map Num.shL := by simp [elsT, Arr.kind, Arr.nums]
    have h2 := ints_tot [x] h
    have h3 := head_le ([x].map Num.shL)
    rw [e]
    simp only [List.length_cons, List.length_nil] at h2
    omega
  · have e : elsT (.mk 2 [] [x] []) = [x].map fun x => 39 :: (chS x 39 ++ [39]) := by simp [elsT, Arr.kind, Arr.nums]
    have := chS_len x 39 (chars_bd h x (by simp)).2
    rw [e]
    simp only [List.map_cons, List.map_nil, List.headD_cons, List.length_cons, List.length_append, List.length_nil]
    omega
theorem num_pos (x : Int) : 0 < (Num.shL x).length := by
  by_cases h : x < 0
  · rw [Num.shL_neg h]; simp
  · rw [Num.shL_pos h]; exact List.length_pos_iff.2 (Num.dg_ne _)
theorem lit_prog {A : Arr} (hx : rightE A = 0) (hb : litB A = true) (W0 : World) (hT : Tok.TZ W0) (hg : 5 < W0.heap.size) : LitOK W0 A (litW A) := by
  intro v w g h
  have hT := Tok.TZ.below hT g
  have hg := Nat.lt_of_lt_of_le hg g.size
  refine LiteralG v A (litS A) w h hx hT hg fun w X v hT hg hB hA => ?_
  rcases lit_forms hx hb with ⟨k, x, hk, rfl⟩ | ⟨n, nu, rfl, hc, hl⟩
  · have V := val_of hx
    have hk2 : 1 ≤ k ∧ k ≤ 2 := by omega
    have hz := scal_size k x hk
    have hl : (elsT (.mk k [] [x] [])).length = 1 := by rw [els_len (A := .mk k [] [x] []) (by simpa [Arr.kind] using V.kind), hz]
    have hh : ((elsT (.mk k [] [x] [])).headD []).length ≤ 30 := scal_len hk V.elems
    have he : litS (.mk k [] [x] []) = (elsT (.mk k [] [x] [])).headD [] := by rw [litS_els, litT, if_pos (by simp [Arr.shape])]
    rw [he]
    exact wlScal [] [x] [] k 1 hz hk2 (fun h2 => by subst h2; exact chars_bd V.elems) (by omega) (by rw [headD_at0 (by omega)] at hh; simp only [List.length_nil]; omega) v w X hT hg hB hA rfl (Nat.le_refl _) rfl
  · rw [lit_vec]
    exact wlChar [n] nu [] _ rfl hc (by omega) v w X hT hg hB hA rfl
theorem ref_ok {A : Arr} (hx : rightE A = 0) (hb : litB A = true) : Shape.LitOK A := by
  rcases lit_forms hx hb with ⟨k, x, hk, rfl⟩ | ⟨n, nu, rfl, hc, hl⟩
  · have V := val_of hx
    refine ⟨V.kind, fun h => ?_, by simp [Arr.nums], fun h => ?_, fun _ => ?_, fun h => ?_⟩
    · obtain rfl : k = 2 := h
      exact chars_bd V.elems
    · have : k = 3 := h
      omega
    · rw [size12 (A := .mk k [] [x] []) (by simp [Arr.kind]; omega) (by simp [Arr.kind]; omega)]; simp [Arr.nums]
    · have : k = 3 := h
      omega
  · exact ⟨by simp [Arr.kind], fun _ => hc, by simp [Arr.nums]; omega, fun h => by simp [Arr.kind] at h, fun h => by simp [Arr.shape] at h, fun h => by simp [Arr.kind] at h⟩
theorem lit_ref {A : Arr} (hx : rightE A = 0) (hb : litB A = true) (W0 : World) : LitR W0 A (litW A) := by
  intro v w g h
  refine LiteralRG v A (litS A) w h hx fun w v h => ?_
  have ok := ref_ok hx hb
  rcases lit_forms hx hb with ⟨k, x, hk, rfl⟩ | ⟨n, nu, rfl, hc, hl⟩
  · exact litR0 v _ w h ok rfl
  · exact litRv v _ w h ok rfl (Or.inl rfl)
theorem lit_sizes {A : Arr} (hx : rightE A = 0) (hb : litB A = true) : 0 < (litW A).size ∧ (litW A).size ≤ 1000000 := by
  have e : (litW A).size = (litS A).length := by show (litS A).toArray.size = _; simp
  rw [e]
  rcases lit_forms hx hb with ⟨k, x, hk, rfl⟩ | ⟨n, nu, rfl, hc, hl⟩
  · have V := val_of hx
    have hh : ((elsT (.mk k [] [x] [])).headD []).length ≤ 30 := scal_len hk V.elems
    have he : litS (.mk k [] [x] []) = (elsT (.mk k [] [x] [])).headD [] := by rw [litS_els, litT, if_pos (by simp [Arr.shape])]
    refine ⟨?_, by rw [he]; omega⟩
    rw [litS, litT, if_pos (by simp), if_neg (by omega)]
    simp only [List.map_cons, List.headD_cons]
    split
    · simp
    · exact num_pos x
  · rw [lit_vec, quoS]
    have := quo_tot nu hc
    simp only [List.length_cons, List.length_append, List.length_nil]
    omega
theorem lq_prog (W0 : World) (hT : Tok.TZ W0) (hg : 5 < W0.heap.size) (N : Nd) (h : okN N = true) : lqN (fun A => LitOK W0 A (litW A) ∧ (litW A).size ≤ 1000000) N :=
  lq_ok (fun A hx hb => ⟨lit_prog hx hb W0 hT hg, (lit_sizes hx hb).2⟩) N h
theorem lq_ref (W0 : World) (N : Nd) (h : okN N = true) : lqN (fun A => LitR W0 A (litW A) ∧ (litW A).size ≤ 1000000) N :=
  lq_ok (fun A hx hb => ⟨lit_ref hx hb W0, (lit_sizes hx hb).2⟩) N h
theorem progShow (cs : List Value) (N : Nd) (w : World) (h : NdV w cs N) (hT : Tab w) (hZ : Tok.TZ w) (hg : 5 < w.heap.size) (hs : bkN N ≤ 2000000) :
    Calls Tryz.prog 20 #[.agg cs.toArray] w fun e w' => e = .returned (.string (showT litW N)) ∧ Below w.heap.size w w' := by
  have hz : siz N ≤ 2000000 := Nat.le_trans (siz_bk N) hs
  cases V : okN N with
  | true => exact showP litW cs N w h hT hz (lq_prog w hZ hg N V)
  | false => exact showP0 litW cs N w h hT hz V
theorem refShow (cs : List Value) (N : Nd) (w : World) (h : NdV w cs N) : Calls Tryz.prog 21 #[.agg cs.toArray] w fun e w' => e = .returned (.string (showT litW N)) ∧ Below w.heap.size w w' :=
  refShowR litW cs N w h (lq_ref w N)
end Go.Proofs.YtghmbmjikkdbnaaGreatDoor.Syn

namespace Go.Proofs.YtghmbmjikkdbnaaGreatDoor.Syn
open Go.RowKit Go.Shelf Go.Maps Go.Proofs.YtghmbmjikkdbnaaGreatDoor.Shape
set_option linter.unusedVariables false
set_option linter.unusedSimpArgs false
set_option maxRecDepth 100000
set_option maxHeartbeats 8000000 in
theorem showsQ (xs : List Value) (N : Nd) (w : World) (h : NdV w xs N) (hT : Tab w) (hZ : Tok.TZ w) (hg : 5 < w.heap.size) (hs : bkN N ≤ 1048576) :
    Calls Tryz.prog 6 #[.agg xs.toArray] w fun e w' => e = .returned (.bool true) ∧ Below w.heap.size w w' := by
  have B := below_new w (.cells xs.toArray 34)
  have l1 := h.len
  have hc := cells_new w xs 34
  have hN := h.below B
  have hT := hT.below B
  have hZ := Tok.TZ.below hZ B
  have hg := Nat.lt_of_lt_of_le hg B.size
  have S1 := fun x : Sub (w.alloc (.cells xs.toArray 34)) => progShow xs N x.w (hN.below x.below) (hT.below x.below) (Tok.TZ.below hZ x.below) (Nat.lt_of_lt_of_le hg x.below.size) (by omega)
  have R1 := fun x : Sub (w.alloc (.cells xs.toArray 34)) => refShow xs N x.w (hN.below x.below)
  have K := fun x : Sub (w.alloc (.cells xs.toArray 34)) => knowsL x.w (hT.below x.below) (Tok.TZ.below hZ x.below) (Nat.lt_of_lt_of_le hg x.below.size)
  obtain ⟨s, hs⟩ : ∃ s, showT litW N = s := ⟨_, rfl⟩
  simp only [hs] at S1 R1
  have q : (s.toList == s.toList) = true := str_yes rfl
  clear hs hN hT hZ hg h
  go_enter Tryz.func6, Tryz.ntmps6
  go_wp2_with fail
  refine wp_region_sub (W := (w.alloc (.cells xs.toArray 34))) (by kernel_rfl) (by kernel_rfl) (Below.refl _ _) ?_
  repeat (first | (go_big_quiet_want; (refine quiet_load_node hc l1 rfl rfl ?_); simp only [Act.put, List.setIfInBounds_toArray, List.set_cons_succ, List.set_cons_zero]; go_big_quiet_on) | go_big_quiet_step ((first | (go_at_call 20; with_reducible exact sub_call (S1 _)) | (go_at_call 21; with_reducible exact sub_call (R1 _)) | (go_at_call 14; with_reducible exact sub_call (K _)))))
  refine wpQuiet_nil ?_
  intro x
  have bx := x.below
  generalize x.w = w2 at *
  go_wp2_with fail
  go_ret
  exact ⟨rfl, Below.then B bx⟩
theorem size_ne {s : ByteArray} (h : 0 < s.size) : ¬ s.toList = [] := fun e => by
  have h0 : ¬ s = ⟨#[]⟩ := fun e => by rw [e] at h; exact absurd h (by decide)
  have h1 := ba_no h0
  rw [text_nil, noText, e] at h1
  cases h1
theorem ok_name {N : Nd} (h : okN N = true) (hk : N.k = 2) : 0 < N.t.size := by
  rw [okN_eqP, if_neg (by omega)] at h
  simp only [Bool.and_eq_true, Bool.or_eq_true] at h
  rcases h.2 with g | g
  · unfold leafB at g
    rw [if_neg (by omega), if_pos hk] at g
    simp only [Bool.and_eq_true] at g
    have := g.1.1.2
    unfold nameB at this
    simp only [Bool.and_eq_true, decide_eq_true_eq] at this
    exact this.1.1.1
  · have g := g.1
    unfold innerB at g
    rw [if_neg (by omega), if_neg (by omega), if_neg (by omega), if_neg (by omega), if_neg (by omega), if_neg (by omega)] at g
    simp at g
theorem ok_lit {N : Nd} (h : okN N = true) (hk : N.k = 1) : rightE N.v = 0 ∧ litB N.v = true := by
  rw [okN_eqP, if_neg (by omega)] at h
  simp only [Bool.and_eq_true, Bool.or_eq_true] at h
  rcases h.2 with g | g
  · unfold leafB at g
    rw [if_pos hk] at g
    simp only [Bool.and_eq_true, beq_iff_eq] at g
    exact ⟨g.1.2, g.2⟩
  · have g := g.1
    unfold innerB at g
    rw [if_neg (by omega), if_neg (by omega), if_neg (by omega), if_neg (by omega), if_neg (by omega), if_neg (by omega)] at g
    simp at g
theorem prim_pos : ∀ i, 1 ≤ i → i ≤ 55 → 0 < (primT.getD i ⟨#[]⟩).size := by
  intro i h1 h2
  have : ∀ i : Fin 56, 1 ≤ i.val → 0 < (primT.getD i.val ⟨#[]⟩).size := by decide
  exact this ⟨i, by omega⟩ h1
theorem opn_pos : ∀ i, 1 ≤ i → i ≤ 11 → 0 < (opT.getD i ⟨#[]⟩).size := by
  intro i h1 h2
  have : ∀ i : Fin 12, 1 ≤ i.val → 0 < (opT.getD i.val ⟨#[]⟩).size := by decide
  exact this ⟨i, by omega⟩ h1
theorem blk_size : blk.size = 1 := rfl
theorem LT_pos (lt : Arr → ByteArray) (enc : List Int) {l : List Nd} (hl : 2 ≤ l.length) (h : ∀ i (h : i < l.length), shN lt l[i] ≠ []) : 0 < (LT lt enc l).size := by
  have := LT_step lt enc (l := l) (j := l.length - 1) (by omega) h
  rw [show l.length - 1 + 1 = l.length by omega, List.take_length, if_pos (by omega)] at this
  rw [this]
  simp only [ByteArray.size_append, blk_size]
  omega
theorem ok_k16' {N : Nd} (h : okN N = true) (hk : N.k = 16) : 2 ≤ N.ks.length := by
  rw [okN_eqP, if_neg (by omega)] at h
  simp only [Bool.and_eq_true, Bool.or_eq_true] at h
  rcases h.2 with g | g
  · unfold leafB at g
    rw [if_neg (by omega), if_neg (by omega), if_neg (by omega), if_neg (by omega), if_neg (by omega), if_neg (by omega)] at g
    cases g
  · have g := g.1
    unfold innerB at g
    rw [if_neg (by omega), if_neg (by omega), if_neg (by omega), if_neg (by omega), if_neg (by omega), if_pos hk] at g
    simp only [Bool.and_eq_true, Bool.or_eq_true] at g
    rcases g.2.2 with (g | g) | g
    · obtain ⟨A, B, e⟩ := cls2 g; rw [e]; simp
    · obtain ⟨A, B, C, e⟩ := cls3 g; rw [e]; simp
    · obtain ⟨A, B, C, e⟩ := cls3 g; rw [e]; simp
theorem T_pos {N : Nd} (h : okN N = true) : 0 < (T litW N).size := by
  have ne : ∀ {j : Nat} (hj : j < N.ks.length), shN litW N.ks[j] ≠ [] := fun hj => shN_ne' litW (ok_ks0 h hj)
  by_cases k3 : N.k = 3
  · rw [T_3 litW k3]; exact LT_pos litW _ (ok_k3 h k3) (fun i hi => ne hi)
  by_cases k4 : N.k = 4
  · obtain ⟨A, B, e⟩ := ok_k4 h k4
    have hA := ne (j := 0) (by rw [e]; simp); have hB := ne (j := 1) (by rw [e]; simp)
    simp only [e, List.getElem_cons_zero, List.getElem_cons_succ] at hA hB
    rw [T_4 litW k4 e hA hB]; simp only [ByteArray.size_append, blk_size]; omega
  by_cases k5 : N.k = 5
  · obtain ⟨A, B, C, e⟩ := ok_k5 h k5
    have hA := ne (j := 0) (by rw [e]; simp); have hB := ne (j := 1) (by rw [e]; simp); have hC := ne (j := 2) (by rw [e]; simp)
    simp only [e, List.getElem_cons_zero, List.getElem_cons_succ] at hA hB hC
    rw [T_5 litW k5 e hA hB hC]; simp only [ByteArray.size_append, blk_size]; omega
  by_cases k10 : N.k = 10
  · rw [T_lam litW k10 (ok_bd10 h k10) (fun S hS => by obtain ⟨i, hi, rfl⟩ := List.mem_iff_getElem.1 hS; exact okL_in (ok_k10 h k10) hi)]
    simp only [ByteArray.size_append, show bra.size = 2 from rfl]; omega
  by_cases k14 : N.k = 14
  · obtain ⟨A, B, e⟩ := ok_k14 h k14
    have hA := ne (j := 0) (by rw [e]; simp); have hB := ne (j := 1) (by rw [e]; simp)
    simp only [e, List.getElem_cons_zero, List.getElem_cons_succ] at hA hB
    rw [T_14 litW k14 e hA hB]; simp only [ByteArray.size_append, blk_size]; omega
  by_cases k15 : N.k = 15
  · obtain ⟨A, B, C, e⟩ := ok_k15 h k15
    have hA := ne (j := 0) (by rw [e]; simp); have hB := ne (j := 1) (by rw [e]; simp); have hC := ne (j := 2) (by rw [e]; simp)
    simp only [e, List.getElem_cons_zero, List.getElem_cons_succ] at hA hB hC
    rw [T_15 litW k15 e hA hB hC]; simp only [ByteArray.size_append, blk_size]; omega
  by_cases k16 : N.k = 16
  · rw [T_16 litW k16]; exact LT_pos litW _ (ok_k16' h k16) (fun i hi => ne hi)
  have hk := And.intro k3 (And.intro k4 (And.intro k5 (And.intro k10 (And.intro k14 (And.intro k15 k16)))))
  rw [T_word litW hk, wdB]
  rcases ok_leaf h hk with k | k | k | k | k | k | k | k | k | k
  · have := ok_lit h k
    rw [if_pos k]; exact (lit_sizes this.1 this.2).1
  · rw [if_neg (by omega), if_pos k]; exact ok_name h k
  · rw [if_neg (by omega), if_neg (by omega), if_pos k]; decide
  · rw [if_neg (by omega), if_neg (by omega), if_neg (by omega), if_pos k]; decide
  · rw [if_neg (by omega), if_neg (by omega), if_neg (by omega), if_neg (by omega), if_pos k]; decide
  · have := ok_prim h k
    rw [if_neg (by omega), if_neg (by omega), if_neg (by omega), if_neg (by omega), if_neg (by omega), if_pos k]
    exact prim_pos _ (by omega) (by omega)
  · rw [if_neg (by omega), if_neg (by omega), if_neg (by omega), if_neg (by omega), if_neg (by omega), if_neg (by omega), if_pos k]; decide
  · rw [if_neg (by omega), if_neg (by omega), if_neg (by omega), if_neg (by omega), if_neg (by omega), if_neg (by omega), if_neg (by omega), if_pos k]; decide
  · rw [if_neg (by omega), if_neg (by omega), if_neg (by omega), if_neg (by omega), if_neg (by omega), if_neg (by omega), if_neg (by omega), if_neg (by omega), if_pos k]; decide
  · have := ok_op h k
    rw [if_neg (by omega), if_neg (by omega), if_neg (by omega), if_neg (by omega), if_neg (by omega), if_neg (by omega), if_neg (by omega), if_neg (by omega), if_neg (by omega), if_pos k]
    exact opn_pos _ (by omega) (by omega)
theorem kid_right {N : Nd} (h : rightNodeE N = 0) {j : Nat} (hj : j < N.ks.length) : rightNodeE N.ks[j] = 0 ∧ siz N.ks[j] < siz N ∧ siz N ≤ 16384 ∧ 0 < (showT litW N.ks[j]).size := by
  unfold rightNodeE at h
  have hd : ¬ 60 < dep N := fun e => by rw [if_pos e] at h; cases h
  rw [if_neg hd] at h
  have hs : ¬ 16384 < siz N := fun e => by rw [if_pos e] at h; cases h
  rw [if_neg hs] at h
  have ho : okN N = true ∧ outB [.mk 0 0 ⟨#[]⟩ 0 zN N] = true := Classical.byContradiction fun e => by rw [if_neg e] at h; cases h
  obtain ⟨h1, h2⟩ := kid_small N hj
  have ok := ok_ks0 ho.1 hj
  have z : ∀ x : Int, x ≠ 0 → menN x zN = false := fun x hx => by
    rw [zN, menN, menK]; simp; omega
  have mk : ∀ x : Int, menN x N = false → menN x N.ks[j] = false := fun x e => by
    rw [menN_eqP] at e
    simp only [Bool.or_eq_false_iff] at e
    cases q : menN x N.ks[j] with
    | false => rfl
    | true => have := menK_at hj q; rw [e.2] at this; cases this
  have hout : outB [.mk 0 0 ⟨#[]⟩ 0 zN N.ks[j]] = true := by
    have e := ho.2
    simp only [outB, menB, List.any_cons, List.any_nil, St.k, St.te, St.nd, z 12 (by decide), z 13 (by decide), z 6 (by decide), z 7 (by decide), z 11 (by decide), Bool.false_or, Bool.or_false, Bool.and_eq_true, Bool.not_eq_true'] at e ⊢
    obtain ⟨⟨⟨⟨⟨e0, e1⟩, e2⟩, e3⟩, e4⟩, e5⟩ := e
    exact ⟨⟨⟨⟨⟨e0, mk _ e1⟩, mk _ e2⟩, mk _ e3⟩, mk _ e4⟩, mk _ e5⟩
  refine ⟨?_, h1, by omega, ?_⟩
  · unfold rightNodeE
    rw [if_neg (by omega), if_neg (by omega), if_pos ⟨ok, hout⟩]
  · unfold showT
    rw [if_pos ⟨by omega, by omega, ok⟩]
    exact T_pos ok
end Go.Proofs.YtghmbmjikkdbnaaGreatDoor.Syn

namespace Go.Proofs.YtghmbmjikkdbnaaGreatDoor.Syn
open Go.RowKit Go.Shelf Go.Maps Go.Proofs.YtghmbmjikkdbnaaGreatDoor.Shape
set_option linter.unusedVariables false
set_option linter.unusedSimpArgs false
set_option maxRecDepth 100000
theorem kids_at8 {ia : Option Addr} {n ic b off : Nat} {l : List Nd} (hn : n = l.length) (ha : l ≠ [] → ia = some ⟨b, off, none⟩) {k : Nat} (hk : k < l.length) (w' : World) :
    (Instr.indexAt 31 (.slice ia n ic) (.int .u8 k)).run Tryz.prog w' = .ok (.pointer (some ⟨b, off + k * 15, none⟩)) w' := by
  have hne : l ≠ [] := by intro e; subst e; simp at hk
  have e := ha hne
  subst e
  subst hn
  rw [run_indexAt_slice w' _ _ _ _ .u8 k elemNds, if_pos (by omega), sizeNds]
  show Result.ok _ w' = _
  rw [show ((k : Int).toNat * 15) = k * 15 by omega, Shape.add_plain]
theorem bk_kids : ∀ {l : List Nd} {j : Nat} (hj : j < l.length), bkN l[j] ≤ bkK l
  | [], _, h => absurd h (by simp)
  | N :: r, 0, _ => by simp only [List.getElem_cons_zero, bkK]; omega
  | N :: r, j + 1, h => by
    have := bk_kids (l := r) (j := j) (by simpa using h)
    simp only [List.getElem_cons_succ, bkK]; omega
theorem bk_kid (N : Nd) {j : Nat} (hj : j < N.ks.length) : bkN N.ks[j] ≤ bkN N := by
  cases N with | mk k a c t p o v ks bd d s z =>
  have := bk_kids (l := ks) hj
  simp only [Nd.ks]
  rw [bkN]; omega
theorem part_right (cs : List Value) (N : Nd) (w : World) (h : NdV w cs N) (hT : Tab w) (hr : rightNodeE N = 0) (hs : siz N ≤ 16384) :
    Calls Tryz.prog 9 #[.agg cs.toArray] w fun e w' => e = .returned (.int .i64 0) ∧ Below w.heap.size w w' :=
  (rightNodeP cs N w h hT (by omega)).mono fun e w' ⟨x, h1, h2, h3⟩ => ⟨by rw [h1, h2.2 hs, hr], h3⟩
set_option maxHeartbeats 8000000 in
theorem partsQ (xs : List Value) (N : Nd) (p : Int) (w : World) (h : NdV w xs N) (hp : 0 ≤ p ∧ p ≤ 255) (hT : Tab w) (hZ : Tok.TZ w) (hg : 5 < w.heap.size) (hs : bkN N ≤ 1048576) :
    Calls Tryz.prog 7 #[.agg xs.toArray, .int .u8 p] w fun e w' => e = .returned (.bool true) ∧ Below w.heap.size w w' := by
  have B := below_new w (.cells xs.toArray 34)
  have lC := h.len
  have hC0 := cells_new w xs 34
  have hz : siz N ≤ 2000000 := by have := siz_bk N; omega
  have KN := fun (w' : World) (g : Below w.heap.size w w') => knowsL w' (hT.below g) (Tok.TZ.below hZ g) (Nat.lt_of_lt_of_le hg g.size)
  have RN := rightNodeP xs N _ (h.below B) (hT.below B) hz
  by_cases hr : rightNodeE N = 0
  · have RN2 := part_right xs N _ (h.below B) (hT.below B) hr
    obtain ⟨v0, v1, v2, v3, ka, kc, ba, bc, kb, ko, bb, bo, O⟩ := h.open
    have hk1 : N.ks.length ≤ 9223372036854775807 := by have := O.kl; omega
    have hP := O.nf hC0
    by_cases hlt : p < (N.ks.length : Int)
    · obtain ⟨j, rfl⟩ : ∃ j : Nat, p = (j : Int) := ⟨p.toNat, by omega⟩
      have hj : j < N.ks.length := by omega
      obtain ⟨k1, k2, k3, k4⟩ := kid_right hr hj
      have RN := RN2 k3
      have ix := kids_at8 (ic := kc) rfl O.ka hj
      obtain ⟨cs, hc, hN⟩ := O.kat.at hj
      have l1 := hN.len
      have o1 := hN.one
      have H := fun (w' : World) (g : Below w.heap.size w w') => And.intro (hc.below g) (And.intro (hN.below g) (And.intro (h.below g) (And.intro (hT.below g) (And.intro (Tok.TZ.below hZ g) (Nat.lt_of_lt_of_le hg g.size)))))
      have hzk : bkN N.ks[j] ≤ 1048576 := Nat.le_trans (bk_kid N hj) hs
      obtain ⟨K, hK⟩ : ∃ K, N.ks[j] = K := ⟨_, rfl⟩
      rw [hK] at k1 k2 k4 hzk
      simp only [hK] at H
      have hnlt : ¬ ((N.ks.length : Int) ≤ (j : Int)) := by omega
      clear RN2 O h hT hZ hg hs hN hr hz hK hlt
      go_enter Tryz.func7, Tryz.ntmps7
      go_upto_region 4 with (first | ((with_reducible show wpList _ _ _ ({ dst := _, op := Op.load 34 _, type := _, pos := _, after := _, guard := _ } :: _) _ _); first | refine wpList_load_nodeG rfl rfl rfl hC0 lC ?_ | refine wpList_load_nodeG rfl rfl rfl hck l1 ?_) | ((with_reducible show wpList _ _ _ ({ dst := _, op := Op.store 34 _ _, type := _, pos := _, after := _, guard := none } :: _) _ _); refine wpList_store_whole rfl rfl rfl rfl infoNode l1 rfl o1 ?_) | (go_at_call 9; ((with_reducible refine RN.mono ?_); rintro e w3 ⟨rfl, b3⟩; (have B3 := Below.then B b3); (obtain ⟨hck, -⟩ := H _ B3); (obtain ⟨p0, -, -, -, -, -, p10, -, -, -, -⟩ := hP.below b3))))
      have bn := below_new w3 (.cells cs.toArray 34)
      have BW := Below.then B3 bn
      obtain ⟨hcW, hNW, hW, hTW, hZW, hgW⟩ := H _ BW
      have hk0 := cells_new w3 cs 34
      have hC3 := (hC0.below b3).below bn
      obtain ⟨W5, hW5⟩ : ∃ W5, w3.alloc (.cells cs.toArray 34) = W5 := ⟨_, rfl⟩
      try rw [hW5]
      rw [hW5] at BW hNW hW hTW hZW hgW hk0 hC3
      have R := fun x : Sub W5 => part_right cs K x.w (hNW.below x.below) (hTW.below x.below) k1 (by omega)
      have Z1 := fun x : Sub W5 => sizeP cs K x.w (hNW.below x.below)
      have Z2 := fun x : Sub W5 => sizeP xs N x.w (hW.below x.below)
      have SH := fun x : Sub W5 => progShow cs K x.w (hNW.below x.below) (hTW.below x.below) (Tok.TZ.below hZW x.below) (Nat.lt_of_lt_of_le hgW x.below.size) (by omega)
      have KK := fun x : Sub W5 => KN x.w (Below.then BW x.below)
      obtain ⟨s, hs⟩ : ∃ s, showT litW K = s := ⟨_, rfl⟩
      simp only [hs] at SH
      rw [hs] at k4
      have q1 := size_ne k4
      have q2 : s.toList.isEmpty = false := by cases h1 : s.toList with | nil => exact absurd h1 q1 | cons => rfl
      obtain ⟨a, ha⟩ : ∃ a : Nat, min (siz K) 16385 = a := ⟨_, rfl⟩
      obtain ⟨b, hb⟩ : ∃ b : Nat, min (siz N) 16385 = b := ⟨_, rfl⟩
      simp only [ha] at Z1
      simp only [hb] at Z2
      have hab : (a : Int) < (b : Int) := by omega
      have hdab := decide_eq_true hab
      clear H KN RN hcW hNW hW hTW hZW hgW k1 k2 k3 k4 hs ha hb hzk hP hC0 ix hck hW5
      simp only [Act.put]
      refine wp_region_sub (W := W5) (by kernel_rfl) (by kernel_rfl) (Below.refl _ _) ?_
      repeat (first | (go_big_quiet_want; (first | refine quiet_load_node hk0 l1 rfl rfl ?_ | refine quiet_load_node hC3 lC rfl rfl ?_); simp only [Act.put, List.setIfInBounds_toArray, List.set_cons_succ, List.set_cons_zero]; go_big_quiet_on) | go_big_quiet_step ((first | (go_at_call 9; with_reducible exact sub_call (R _)) | (go_at_call 11; with_reducible exact sub_call (Z1 _)) | (go_at_call 11; with_reducible exact sub_call (Z2 _)) | (go_at_call 20; with_reducible exact sub_call (SH _)) | (go_at_call 14; with_reducible exact sub_call (KK _)))))
      refine wpQuiet_nil ?_
      intro x
      have bx := x.below
      generalize x.w = w2 at *
      go_wp2_with fail
      go_ret
      exact ⟨rfl, Below.then BW bx⟩
    · have hge : (N.ks.length : Int) ≤ p := by omega
      have hs3 : siz N ≤ 16384 := by
        unfold rightNodeE at hr
        by_cases c : 60 < dep N
        · rw [if_pos c] at hr; cases hr
        · rw [if_neg c] at hr
          by_cases d : 16384 < siz N
          · rw [if_pos d] at hr; cases hr
          · omega
      have RN := RN2 hs3
      clear RN2 O h hT hZ hg hs hr hz hlt hs3
      go_enter Tryz.func7, Tryz.ntmps7
      go_wp2_with (first | ((with_reducible show wpList _ _ _ ({ dst := _, op := Op.load 34 _, type := _, pos := _, after := _, guard := _ } :: _) _ _); refine wpList_load_nodeG rfl rfl rfl hC0 lC ?_) | (go_at_call 9; ((with_reducible refine RN.mono ?_); rintro e w3 ⟨rfl, b3⟩; (have B3 := Below.then B b3); (have K3 := KN _ B3); (obtain ⟨p0, -, -, -, -, -, p10, -, -, -, -⟩ := hP.below b3))) | (go_at_call 14; ((with_reducible refine K3.mono ?_); rintro e w4 ⟨rfl, b4⟩)))
      go_ret
      exact ⟨rfl, Below.then B3 b4⟩
  · have hx : ∀ x, RnR N x → (x != 0) = true := fun x g => by
      have : ¬ x = 0 := fun e => hr (g.1.1 e)
      simpa using this
    clear h hT hZ hg hs hr hz
    go_enter Tryz.func7, Tryz.ntmps7
    go_wp2_with (first | ((with_reducible show wpList _ _ _ ({ dst := _, op := Op.load 34 _, type := _, pos := _, after := _, guard := _ } :: _) _ _); refine wpList_load_nodeG rfl rfl rfl hC0 lC ?_) | (go_at_call 9; ((with_reducible refine RN.mono ?_); rintro e w3 ⟨x, rfl, hxr, b3⟩; (have hx3 := hx _ hxr); (have B3 := Below.then B b3); (have K3 := KN _ B3); clear hx hxr)) | (go_at_call 14; ((with_reducible refine K3.mono ?_); rintro e w4 ⟨rfl, b4⟩)))
    go_ret
    exact ⟨rfl, Below.then B3 b4⟩
end Go.Proofs.YtghmbmjikkdbnaaGreatDoor.Syn
