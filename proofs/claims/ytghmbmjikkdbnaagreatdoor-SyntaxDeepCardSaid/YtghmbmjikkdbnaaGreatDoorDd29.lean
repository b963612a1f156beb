/-
  Layer 10: the chain of applications of the law SyntaxDeep, reckoned.
  Layer 10: the law SyntaxDeep, walked.
  Layer 10: the law SyntaxDeep, walked.
-/
import Derived.Test.YtghmbmjikkdbnaaGreatDoorDd28
import Derived.Test.YtghmbmjikkdbnaaGreatDoorDd2
namespace Go.Proofs.YtghmbmjikkdbnaaGreatDoor.Syn
open Go.RowKit Go.Shelf Go.Maps Go.Proofs.YtghmbmjikkdbnaaGreatDoor.Shape
set_option linter.unusedVariables false
set_option linter.unusedSimpArgs false
set_option maxRecDepth 100000
def subN : Nd := leafN 9 2 2 0
def chN : Nat → Nd
  | 0 => oneN
  | m + 1 => innN 4 1 [subN, chN m]
theorem ch_siz : ∀ m, siz (chN m) = 2 * m + 1
  | 0 => by simp [chN, oneN, siz, sizK, sizB]
  | m + 1 => by
    have := ch_siz m
    rw [chN, innN, siz, sizK, sizK, sizK, sizB, this]
    simp [subN, leafN, siz, sizK, sizB]
    try omega
theorem ch_dep : ∀ m, dep (chN m) = m + 1
  | 0 => by simp [chN, oneN, dep, depK, depB]
  | m + 1 => by
    have := ch_dep m
    rw [chN, innN, dep, depK, depK, depK, depB, this]
    simp [subN, leafN, dep, depK, depB]
    try omega
theorem ev_one : okN oneN = true := by
  simp [leafN, oneN, oneA, okN, okK, nonNeg, leafB, innerB, emptyB, noText0, eqA_zA, right_one, litB, clsB, sameB, allC, headTakes, opCls, Nd.t, Nd.k, Nd.c, Nd.v, Nd.p, Nd.o, Nd.ks, Nd.bd, Nd.a, Nd.d, Nd.s, Nd.z, Arr.shape, Arr.kind]
theorem ev_sub : okN subN = true := by
  simp [subN, leafN, okN, okK, nonNeg, leafB, innerB, emptyB, noText0, eqA_zA, clsB, sameB, allC, headTakes, opCls, Nd.t, Nd.k, Nd.c, Nd.v, Nd.p, Nd.o, Nd.ks, Nd.bd, Nd.a, Nd.d, Nd.s, Nd.z, Arr.shape, Arr.kind]
theorem ch_c : ∀ m, (chN m).c = 1
  | 0 => rfl
  | m + 1 => rfl
theorem ch_ok : ∀ m, okN (chN m) = true
  | 0 => ev_one
  | m + 1 => by
    have h1 := ch_ok m
    have h2 := ch_c m
    have h3 := ev_sub
    rw [chN]
    generalize chN m = M at *
    simp [innN, okN, okK, h1, h3, nonNeg, leafB, innerB, emptyB, noText0, eqA_zA, clsB, sameB, Nd.t, Nd.k, Nd.c, Nd.v, Nd.p, Nd.o, Nd.ks, Nd.bd, Nd.a, Nd.d, Nd.s, Nd.z]
    exact ⟨rfl, h2⟩
theorem ch_men (x : Int) (h : x ≠ 1 ∧ x ≠ 4 ∧ x ≠ 9) : ∀ m, menN x (chN m) = false
  | 0 => by
    have := h.1
    rw [chN, oneN, menN, menK]; simp; omega
  | m + 1 => by
    have h1 := ch_men x h m
    rw [chN, innN, menN, menK, menK, menK, h1]
    simp [subN, leafN, menN, menK]; omega
theorem ch_out (m : Nat) : outB [.mk 0 0 ⟨#[]⟩ 0 zN (chN m)] = true := by
  have z : ∀ x : Int, x ≠ 0 → menN x zN = false := fun x hx => by
    rw [zN, menN, menK]; simp; omega
  simp [outB, menB, St.k, St.te, St.nd, ch_men 12 (by decide), ch_men 13 (by decide), ch_men 6 (by decide), ch_men 7 (by decide), ch_men 11 (by decide), z 12 (by decide), z 13 (by decide), z 6 (by decide), z 7 (by decide), z 11 (by decide)]
theorem ch_right (m : Nat) (h : m ≤ 300) : rightNodeE (chN m) = if m < 60 then 0 else 8 := by
  unfold rightNodeE
  rw [ch_dep, ch_siz, ch_ok, ch_out]
  by_cases h1 : m < 60
  · rw [if_neg (by omega), if_neg (by omega), if_pos ⟨rfl, rfl⟩, if_pos h1]
  · rw [if_pos (by omega), if_neg h1]
theorem ch_lq {R : Arr → Prop} (h : R oneA) : ∀ m, lqN R (chN m)
  | 0 => by simp [chN, oneN, lqN, lqK, lqB, h]
  | m + 1 => by
    have h1 := ch_lq h m
    simp [chN, innN, subN, leafN, lqN, lqK, lqB, h1]
def lt1' : Arr → ByteArray := fun _ => ⟨#[49]⟩
theorem ch_head : ∀ m, ∃ (s : ByteArray) (r : List ByteArray), shN lt1' (chN m) = s :: r ∧ 0 < s.size
  | 0 => ⟨⟨#[49]⟩, [], by simp [chN, oneN, shN, wdB, lt1', Nd.k, Nd.v], by decide⟩
  | m + 1 => by
    refine ⟨⟨#[45]⟩, par [] (kidW (shK lt1' [subN, chN m]) 1), ?_, by decide⟩
    rw [chN, innN, shN]
    simp [shK, kidW, par, hasB, subN, leafN, shN, wdB, primT, Nd.k, Nd.p]
theorem join_pos {s : ByteArray} {r : List ByteArray} (h : 0 < s.size) : ¬ joinW (s :: r) = ⟨#[]⟩ := by
  intro e
  unfold joinW at e
  rw [List.map_cons, Lib.join_cons] at e
  have e2 := congrArg (fun b : ByteArray => b.data.toList.length) e
  simp only [List.length_append] at e2
  have e3 : s.size = s.data.toList.length := by simp
  have e4 : (List.toArray (s.data.toList ++ Lib.joinTail [32] (r.map fun x => x.data.toList))).toList.length = s.data.toList.length + (Lib.joinTail [32] (r.map fun x => x.data.toList)).length := by simp
  have e5 : (⟨#[]⟩ : ByteArray).data.toList.length = 0 := rfl
  have e7 : (⟨#[]⟩ : ByteArray).data.toList.length = 0 := rfl
  have e6 : s.data.toList.length + (Lib.joinTail [32] (r.map fun x => x.data.toList)).length = 0 := e2
  omega
theorem ch_show (m : Nat) (h : m ≤ 300) : ∃ s : ByteArray, showT lt1' (chN m) = s ∧ (m < 60 → ¬ s = ⟨#[]⟩) ∧ (¬ m < 60 → s = ⟨#[]⟩) := by
  refine ⟨_, rfl, fun h1 => ?_, fun h1 => ?_⟩
  · obtain ⟨s, r, e, hp⟩ := ch_head m
    unfold showT
    rw [if_pos ⟨by rw [ch_dep]; omega, by rw [ch_siz]; omega, ch_ok m⟩, e]
    exact join_pos hp
  · unfold showT
    rw [if_neg]
    rintro ⟨d, -⟩
    rw [ch_dep] at d
    omega
end Go.Proofs.YtghmbmjikkdbnaaGreatDoor.Syn

namespace Go.Proofs.YtghmbmjikkdbnaaGreatDoor.Syn
open Go.RowKit Go.Shelf Go.Maps Go.Proofs.YtghmbmjikkdbnaaGreatDoor.Shape Go.Proofs.YtghmbmjikkdbnaaGreatDoor.Draw
set_option linter.unusedVariables false
set_option linter.unusedSimpArgs false
set_option maxRecDepth 100000
def ChAt (w : World) (C : Nat) : Nat → List Value → Prop
  | 0, cs => ∃ b, cs = oneV b ∧ b ≠ C ∧ w.cell? ⟨b, 0, none⟩ = some (.int .i64 1)
  | m + 1, cs => ∃ g cs', cs = innV 4 1 g 2 ∧ g ≠ C ∧ Cells w g 0 (leafV 9 2 2 0 ++ cs') ∧ (∀ o, w.frozen? ⟨g, o, none⟩ = false) ∧ ChAt w C m cs'
theorem ChAt.kept {w w' : World} {C : Nat} (h : ∀ k, k < w.heap.size → k ≠ C → w'.heap[k]? = w.heap[k]?) : ∀ {m : Nat} {cs : List Value}, ChAt w C m cs → ChAt w' C m cs
  | 0, cs, ⟨b, e, hb, hc⟩ => ⟨b, e, hb, (kept_cell (h b (cell_lt hc) hb) 0).trans hc⟩
  | m + 1, cs, ⟨g, cs', e, hg, hc, hf, r⟩ => by
    have hlt : g < w.heap.size := hc.lt (by simp [leafV])
    exact ⟨g, cs', e, hg, fun i hi => (kept_cell (h g hlt hg) _).trans (hc i hi), fun o => (kept_frozen (h g hlt hg) o).trans (hf o), r.kept h⟩
theorem ChAt.below {w w' : World} {C m : Nat} {cs : List Value} (h : ChAt w C m cs) (hb : Below w.heap.size w w') : ChAt w' C m cs := h.kept fun k hk _ => hb.block k hk
theorem ChAt.len {w : World} {C : Nat} : ∀ {m : Nat} {cs : List Value}, ChAt w C m cs → cs.length = 15
  | 0, cs, ⟨b, e, hb, hc⟩ => by subst e; rfl
  | m + 1, cs, ⟨g, cs', e, hg, hc, hf, r⟩ => by subst e; rfl
theorem ChAt.one {w : World} {C : Nat} : ∀ {m : Nat} {cs : List Value}, ChAt w C m cs → ∀ v ∈ cs, v.oneCell' = true
  | 0, cs, ⟨b, e, hb, hc⟩ => by
    subst e
    intro v hv; simp only [oneV, List.mem_cons, List.not_mem_nil, or_false] at hv
    rcases hv with rfl | rfl | rfl | rfl | rfl | rfl | rfl | rfl | rfl | rfl | rfl | rfl | rfl | rfl | rfl <;> rfl
  | m + 1, cs, ⟨g, cs', e, hg, hc, hf, r⟩ => by subst e; exact innV_one _ _ _ _
theorem sub_at (w : World) : NdV w (leafV 9 2 2 0) subN := leaf_at 9 2 2 0 ⟨i64c _ (by decide), i64c _ (by decide), i64c _ (by decide), i64c _ (by decide)⟩ w
theorem ChAt.ndv {w : World} {C : Nat} : ∀ {m : Nat} {cs : List Value}, ChAt w C m cs → NdV w cs (chN m)
  | 0, cs, ⟨b, e, hb, hc⟩ => by subst e; exact one_at b w hc
  | m + 1, cs, ⟨g, cs', e, hg, hc, hf, r⟩ => by
    subst e
    exact inn_at 4 1 ⟨i64c _ (by decide), i64c _ (by decide)⟩ g [subN, chN m] w (by simp) (two_at hc hf (sub_at w) r.ndv)
def TwoAt (w : World) (C g : Nat) (cs : List Value) : Prop := g ≠ C ∧ Cells w g 0 (leafV 9 2 2 0 ++ cs) ∧ ∀ o, w.frozen? ⟨g, o, none⟩ = false
theorem TwoAt.below {w w' : World} {C g : Nat} {cs : List Value} (h : TwoAt w C g cs) (hb : Below w.heap.size w w') : TwoAt w' C g cs := by
  obtain ⟨h1, h2, h3⟩ := h
  exact ⟨h1, h2.below hb, fun o => (hb.frozen (p := ⟨g, o, none⟩) (h2.lt (by simp [leafV]))).trans (h3 o)⟩
def FD (C : Nat) (cs : List Value) (L : List Value) (t : Nat) (v : Value) (w : World) : Prop :=
  if t = 12 then v = .agg (leafV 9 2 2 0).toArray
  else if t = 13 then v = .agg cs.toArray
  else if t = 14 then ∃ g, v = .slice (some ⟨g, 0, none⟩) 2 2 ∧ TwoAt w C g cs
  else if t = 15 then ∃ g, v = .agg (innV 4 1 g 2).toArray ∧ TwoAt w C g cs
  else v = L[t]?.getD undef
theorem FD.mono {C : Nat} {cs L : List Value} (t : Nat) (v : Value) {x y : World} (hb : Below x.heap.size x y) (h : FD C cs L t v x) : FD C cs L t v y := by
  unfold FD at h ⊢
  split
  · rename_i e; rw [if_pos e] at h; exact h
  rename_i e0; rw [if_neg e0] at h
  split
  · rename_i e; rw [if_pos e] at h; exact h
  rename_i e1; rw [if_neg e1] at h
  split
  · rename_i e; rw [if_pos e] at h; obtain ⟨g, h1, h2⟩ := h; exact ⟨g, h1, h2.below hb⟩
  rename_i e2; rw [if_neg e2] at h
  split
  · rename_i e; rw [if_pos e] at h; obtain ⟨g, h1, h2⟩ := h; exact ⟨g, h1, h2.below hb⟩
  rename_i e3; rw [if_neg e3] at h; exact h
theorem heap_cells {w : World} {C : Nat} {cs : List Value} {T : TypeId} (hz : w.heap[C]? = some (.cells cs.toArray T (0, 0))) : Cells w C 0 cs := by
  intro i hi
  rw [Nat.zero_add]
  simp [World.cell?, hz, hi]
structure Rd (w wr : World) (C m : Nat) (cs : List Value) : Prop where
  blk : wr.heap[C]? = some (.cells cs.toArray 34 (0, 0))
  ch : ChAt wr C m cs
  below : Below w.heap.size w wr
theorem Rd.next {w wr w' : World} {C m g : Nat} {cs : List Value} (h : Rd w wr C m cs) (hC : w.heap.size ≤ C) (hb : Below wr.heap.size wr w') (ht : TwoAt w' C g cs) : Rd w (w'.setRow C (innV 4 1 g 2).toArray) C (m + 1) (innV 4 1 g 2) := by
  have hz := (hb.block C (lt_of_heap h.blk)).trans h.blk
  obtain ⟨h1, h2, h3⟩ := ht
  have k : ∀ k, k < w'.heap.size → k ≠ C → (w'.setRow C (innV 4 1 g 2).toArray).heap[k]? = w'.heap[k]? := fun k _ hk => setRow_other w' C k _ hk
  refine ⟨setRow_heap w' C _ _ _ (0, 0) hz, ⟨g, cs, rfl, h1, fun i hi => (kept_cell (k g (h2.lt (by simp [leafV])) h1) _).trans (h2 i hi), fun o => (kept_frozen (k g (h2.lt (by simp [leafV])) h1) o).trans (h3 o), (h.ch.below hb).kept k⟩, Below.row (Below.then h.below hb) hC _⟩
theorem Rd.first (w : World) (o : Obj) (T : TypeId) : Rd w (((w.alloc o).alloc (.cells #[.int .i64 1] T)).alloc (.cells (oneV (w.heap.size + 1)).toArray 34)) (w.heap.size + 1 + 1) 0 (oneV (w.heap.size + 1)) := by
  have e : ((w.alloc o).alloc (.cells #[.int .i64 1] T)).heap.size = w.heap.size + 1 + 1 := by simp
  have hh := heap_alloc_new ((w.alloc o).alloc (.cells #[.int .i64 1] T)) (.cells (oneV (w.heap.size + 1)).toArray 34)
  rw [e] at hh
  have c1 := World.cell?_alloc_new (w.alloc o) #[.int .i64 1] T 0
  have c2 := ((below_new ((w.alloc o).alloc (.cells #[.int .i64 1] T)) (.cells (oneV (w.heap.size + 1)).toArray 34)).cell (p := ⟨w.heap.size + 1, 0, none⟩) (by simp))
  refine ⟨hh, ⟨w.heap.size + 1, rfl, by omega, ?_⟩, Below.then (Below.then (below_new _ _) (below_new _ _)) (below_new _ _)⟩
  rw [c2]
  simp
theorem deep_right (m : Nat) (hm : m ≤ 300) (cs : List Value) (w : World) (h : NdV w cs (chN m)) (hT : Tab w) :
    Calls Tryz.prog 9 #[.agg cs.toArray] w fun e w' => e = .returned (.int .i64 (if m < 60 then 0 else 8)) ∧ Below w.heap.size w w' :=
  (rightNodeP cs (chN m) w h hT (by rw [ch_siz]; omega)).mono fun e w' ⟨x, h1, h2, h3⟩ => ⟨by rw [h1, h2.2 (by rw [ch_siz]; omega), ch_right m hm], h3⟩
theorem deep_show (m : Nat) (cs : List Value) (w : World) (h : NdV w cs (chN m)) (hm : m ≤ 300) (hT : Tab w) (hL : LitOK w oneA ⟨#[49]⟩) :
    Calls Tryz.prog 20 #[.agg cs.toArray] w fun e w' => e = .returned (.string (showT lt1' (chN m))) ∧ Below w.heap.size w w' :=
  showP lt1' cs (chN m) w h hT (by rw [ch_siz]; omega) (ch_lq ⟨hL, by decide⟩ m)
end Go.Proofs.YtghmbmjikkdbnaaGreatDoor.Syn

namespace Go.Proofs.YtghmbmjikkdbnaaGreatDoor.Syn
open Go.RowKit Go.Shelf Go.Maps Go.Proofs.YtghmbmjikkdbnaaGreatDoor.Shape Go.Proofs.YtghmbmjikkdbnaaGreatDoor.Draw
set_option linter.unusedVariables false
set_option linter.unusedSimpArgs false
set_option maxRecDepth 100000
set_option maxHeartbeats 8000000 in
theorem deepQ (D : Int) (hD : 0 ≤ D ∧ D ≤ 255) (w : World) (hT : Tab w) (hZ : Tok.TZ w) (hg : 5 < w.heap.size) :
    Calls Tryz.prog 8 #[.int .u8 D] w fun e w' => e = .returned (.bool true) ∧ Below w.heap.size w w' := by
  have K1 := fun (w : World) => oneP w
  have K2 := fun (w : World) => primP 2 w
  have F0 := Rd.first w (.cells (oneV (w.heap.size + 1)).toArray 34) 3
  unfold oneV at K1 F0
  have hLit := lit_one w hZ hg
  have KN := fun (w' : World) (g : Below w.heap.size w w') => knowsL w' (hT.below g) (Tok.TZ.below hZ g) (Nat.lt_of_lt_of_le hg g.size)
  have RN := fun (w' : World) (g : Below w.heap.size w w') (m : Nat) (hm : m ≤ 300) (cs : List Value) (h : NdV w' cs (chN m)) => deep_right m hm cs w' h (hT.below g)
  have SH := fun (w' : World) (g : Below w.heap.size w w') (m : Nat) (hm : m ≤ 300) (cs : List Value) (h : NdV w' cs (chN m)) => deep_show m cs w' h hm (hT.below g) (hLit.below g)
  clear hT hZ hg hLit
  go_enter Tryz.func8, Tryz.ntmps8
  go_wp2_with (go_at_call 22; ((with_reducible refine (K1 _).mono ?_); rintro e w3 ⟨rfl, rfl⟩))
  go_loopw [4] (fun i wr => ∃ (m : Nat) (cs : List Value), i = .int .i64 ((m : Int) + 1) ∧ m ≤ 254 ∧ ((m : Int) + 1 ≤ D ∨ m = 0) ∧ Rd w wr (w.heap.size + 1 + 1) m cs) (fun i _ => 300 - (intOf i).toNat)
  case atStart => exact ⟨0, _, rfl, by omega, Or.inr rfl, F0⟩
  case round =>
    clear F0
    obtain ⟨m, cs, rfl, hm, hmD, h⟩ := hrel
    by_cases hlt : (m : Int) + 1 < D
    · have h0 := h
      go_wp2_with fail
      have hC : w.heap.size ≤ w.heap.size + 1 + 1 := by omega
      refine wp_region_lastL (l := [_, _, _, _]) (last := _) rfl (by kernel_rfl) (fun _ => 0) (fun x y => Below x.heap.size x y) (FD (w.heap.size + 1 + 1) cs) 12 4 (fun x => Below.refl _ _) (fun _ _ _ h g => Below.then h g) (fun t v x y hb h => FD.mono t v hb h) (by kernel_rfl) (by kernel_rfl) rfl (by simp) ?_ ?_ ?_ ?_
      · intro t v w' ht h
        unfold FD at h
        rw [if_neg (by omega), if_neg (by omega), if_neg (by omega), if_neg (by omega)] at h
        exact h
      · intro t ht
        unfold FD
        simp only [List.any_cons, List.any_nil, Bool.or_false, Bool.or_eq_false_iff, beq_eq_false_iff_ne, ne_eq, Option.some.injEq] at ht
        rw [if_neg (by omega), if_neg (by omega), if_neg (by omega), if_neg (by omega)]
      · refine AllSteps.cons ?_ (AllSteps.cons ?_ (AllSteps.cons ?_ (AllSteps.cons ?_ AllSteps.nil)))
        · intro a w' hle H
          refine ⟨trivial, fun K Q hK => ?_⟩
          go_simp
          go_at_call 23
          with_reducible refine (K2 _).mono ?_
          rintro e w3 ⟨rfl, rfl⟩
          exact hK.out _ _ (below_new _ _) rfl
        · intro a w' hle H
          have h1 : a.tmps[3]?.getD undef = .pointer (some ⟨w.heap.size + 1 + 1, 0, none⟩) := H 3 rfl
          refine ⟨trivial, fun K Q hK => ?_⟩
          exact wp_load_nd rfl h1 ((heap_cells (show wr.drew.heap[w.heap.size + 1 + 1]? = _ from h0.blk)).below hle) h0.ch.len (hK.out _ _ (Below.refl _ _) rfl)
        · intro a w' hle H
          have h12 : a.tmps[12]?.getD undef = .agg (leafV 9 2 2 0).toArray := H 12 rfl
          have h13 : a.tmps[13]?.getD undef = .agg cs.toArray := H 13 rfl
          refine ⟨trivial, fun K Q hK => ?_⟩
          have hlt : w.heap.size + 1 + 1 < w'.heap.size := Nat.lt_of_lt_of_le (lt_of_heap h0.blk) hle.size
          exact wp_slice_two rfl h12 h13 rfl h0.ch.len (hK.out _ _ (below_new _ _) ⟨w'.heap.size, rfl, by omega, cells_new _ _ _, fun o => frozen_off _ _ _ o⟩)
        · intro a w' hle H
          obtain ⟨g, h14, k14⟩ : FD _ _ _ 14 (a.tmps[14]?.getD undef) w' := H 14 rfl
          refine ⟨trivial, fun K Q hK => ?_⟩
          go_simp
          exact hK.out _ _ (Below.refl _ _) ⟨g, rfl, k14⟩
      · intro g w' hle H
        obtain ⟨gg, h15, k15⟩ : FD _ _ _ 15 (g 15) w' := H 15
        have h12 : g 12 = _ := H 12
        have h13 : g 13 = _ := H 13
        obtain ⟨g4, h14, -⟩ : FD _ _ _ 14 (g 14) w' := H 14
        have hz : w'.heap[w.heap.size + 1 + 1]? = some (.cells cs.toArray 34 (0, 0)) := (hle.block _ (lt_of_heap h0.blk)).trans h0.blk
        have hn := Rd.next h0 hC (show Below wr.heap.size wr w' from Below.then (Below.refl wr.heap.size wr).drew hle) k15
        refine wp_store_row rfl rfl ((show _ = g 15 from rfl).trans h15) hz rfl (by simpa using h0.ch.len) (innV_one _ _ _ _) ?_
        generalize w'.setRow (w.heap.size + 1 + 1) (innV 4 1 gg 2).toArray = W2 at *
        simp only [Act.put, List.range', List.map_cons, List.map_nil, List.take_succ_cons, List.take_zero, List.drop_succ_cons, List.drop_zero, List.cons_append, List.nil_append, Nat.reduceAdd]
        go_wp2_with fail
        go_roundw
        case rel => exact ⟨m + 1, _, by go_num, by omega, Or.inl (by omega), hn⟩
        case measure => simp [intOf]; omega
    · have hm' : m ≤ 300 := by omega
      obtain ⟨hblk, hch, hb⟩ := h
      have hc := heap_cells hblk
      have lC := hch.len
      have hnd := hch.ndv
      obtain ⟨s, hs, s1, s2⟩ := ch_show m hm'
      have R := RN _ hb m hm' cs hnd
      clear RN K1 K2 hblk hch
      by_cases hd : D ≤ 60
      · have hm6 : m < 60 := by omega
        rw [if_pos hm6] at R
        have hne := s1 hm6
        have q1 : ¬ s.toList = [] := fun e => by
          have h1 := ba_no hne
          rw [text_nil, noText, e] at h1
          cases h1
        have q2 : s.toList.isEmpty = false := by cases h1 : s.toList with | nil => exact absurd h1 q1 | cons => rfl
        clear s1 s2 hne
        go_wp2_with (first | ((with_reducible show wpList _ _ _ ({ dst := _, op := Op.load 34 _, type := _, pos := _, after := _, guard := _ } :: _) _ _); first | refine wpList_load_nodeG rfl rfl rfl hc lC ?_ | refine wpList_load_nodeG rfl rfl rfl hc4 lC ?_) | (go_at_call 9; ((with_reducible refine R.mono ?_); rintro e w4 ⟨rfl, b4⟩; (have B4 := Below.then hb b4); (have hc4 := hc.below b4); (have S4 := SH _ B4 m hm' cs (hnd.below b4)); rw [hs] at S4)) | (go_at_call 20; ((with_reducible refine S4.mono ?_); rintro e w5 ⟨rfl, b5⟩; (have B5 := Below.then B4 b5); (have K5 := KN _ B5))) | (go_at_call 14; ((with_reducible refine K5.mono ?_); rintro e w6 ⟨rfl, b6⟩)))
        go_ret
        exact ⟨rfl, Below.then B5 b6⟩
      · have hm6 : ¬ m < 60 := by omega
        rw [if_neg hm6] at R
        have he := s2 hm6
        have q1 : s.toList = [] := by rw [he]; simp
        have q2 : s.toList.isEmpty = true := by rw [q1]; rfl
        clear s1 s2 he
        go_wp2_with (first | ((with_reducible show wpList _ _ _ ({ dst := _, op := Op.load 34 _, type := _, pos := _, after := _, guard := _ } :: _) _ _); first | refine wpList_load_nodeG rfl rfl rfl hc lC ?_ | refine wpList_load_nodeG rfl rfl rfl hc4 lC ?_) | (go_at_call 9; ((with_reducible refine R.mono ?_); rintro e w4 ⟨rfl, b4⟩; (have B4 := Below.then hb b4); (have hc4 := hc.below b4); (have S4 := SH _ B4 m hm' cs (hnd.below b4)); rw [hs] at S4)) | (go_at_call 20; ((with_reducible refine S4.mono ?_); rintro e w5 ⟨rfl, b5⟩; (have B5 := Below.then B4 b5); (have K5 := KN _ B5))) | (go_at_call 14; ((with_reducible refine K5.mono ?_); rintro e w6 ⟨rfl, b6⟩)))
        go_ret
        exact ⟨rfl, Below.then B5 b6⟩
end Go.Proofs.YtghmbmjikkdbnaaGreatDoor.Syn
