/-
  Layer 6: the arrays' order by number; the sorted list of numbers; the program's Sorted of valid arrays.
  Layer 6: the reference's Sorted.
  Layer 6: the program's Sorted and the reference's give one list.
-/
import Derived.Test.YtkjbccodahleoaaBd27
import Derived.Test.YtkjbccodahleoaaBd26
import Derived.Test.YtkjbccodahleoaaBd23
import Derived.Test.YtkjbccodahleoaaBd25
import Derived.Test.YtkjbccodahleoaaBd20
namespace Go.Proofs.Ytkjbccodahleoaa.Shape
open Go.RowKit
set_option linter.unusedVariables false

/-- How the arrays of a list compare, by their numbers. -/
def cIx (N : Nat) (l : List Arr) (x y : Nat) : Int := cmpF N (l.getD x arr0) (l.getD y arr0)
theorem nna_list {N : Nat} {l : List Arr} (h : ∀ A ∈ l, rightE A = 0) (x : Nat) : NNA N (l.getD x arr0) := by
  by_cases hx : x < l.length
  · rw [List.getD_eq_getElem?_getD]
    simp only [List.getElem?_eq_getElem hx, Option.getD_some]
    exact nna_right N _ (h _ (List.getElem_mem hx))
  · rw [List.getD_eq_getElem?_getD, List.getElem?_eq_none (by omega)]
    exact nna_arr0 N
theorem cIx_ord {N : Nat} {l : List Arr} (h : ∀ A ∈ l, rightE A = 0) : Ord3 (cIx N l) where
  asym x y g := by
    unfold cIx at *
    rw [cmpF_neg]
    omega
  trans x y z g1 g2 := by
    unfold cIx at *
    rw [cmpF_neg] at g1 g2 ⊢
    have := (cmpF_tr N _ _ _ (nna_list (N := N) h x) (nna_list (N := N) h y) (nna_list (N := N) h z) (by omega) (by omega)).1
    omega
theorem srt_ex {c : Nat → Nat → Int} (o : Ord3 c) (n : Nat) : ∃ R, Srt c (List.range n) R := by
  obtain ⟨C, -, h⟩ := insF_srt o (List.range n) [] [] [] List.Pairwise.nil (Or.inl (by simpa using List.pairwise_lt_range))
  exact ⟨C, by simpa using h⟩
theorem srt_one {c : Nat → Nat → Int} (o : Ord3 c) {A C D : List Nat} (h : Srt c A C) (g : Srt c A D) : C = D := sorted_eq o (h.perm.trans g.perm.symm) h.sort g.sort
theorem srt_len {c : Nat → Nat → Int} {n : Nat} {C : List Nat} (h : Srt c (List.range n) C) : C.length = n := by have := h.perm.length_eq; simpa using this
theorem srt_lt {c : Nat → Nat → Int} {n : Nat} {C : List Nat} (h : Srt c (List.range n) C) {x : Nat} (hx : x ∈ C) : x < n := List.mem_range.1 (h.perm.mem_iff.1 hx)
theorem getD_at {l : List Arr} {x : Nat} (hx : x < l.length) : l.getD x arr0 = l[x] := by rw [List.getD_eq_getElem?_getD]; simp [hx]

theorem sortedP (b off L N : Nat) (ia : Option Addr) (ic : Nat) (l : List Arr) (R : List Nat) (w : World) (h : ArrsAt w b off l) (hia : l ≠ [] → ia = some ⟨b, off, none⟩) (hL : l.length = L) (hl : L ≤ 1000) (hok : ∀ A ∈ l, rightE A = 0) (hrk : ∀ A ∈ l, rk A ≤ N) (hR : Srt (cIx N l) (List.range L) R) :
    Calls Try.prog 28 #[.slice ia L ic] w (GiveNums (R.map fun x : Nat => (x : Int)) w) := by
  refine sortedGood b off L ia ic l R w h hia hL (by omega) hok (srt_len hR) (fun x hx => by have := srt_lt hR hx; omega) ?_
  intro w' G hG hb hN
  have HC : ∀ (w2 : World) (x y : Nat), Below w.heap.size w w2 → x < L → y < L → Calls Try.prog 57 #[.slice ia L ic, .int .i64 (x : Int), .int .i64 (y : Int)] w2 fun e w3 => e = .returned (.int .i64 (cIx N l x y)) ∧ Below w2.heap.size w2 w3 := by
    intro w2 x y g hx hy
    have hne : l ≠ [] := by intro e; subst e; simp at hL; omega
    obtain rfl := hia hne
    subst hL
    exact cmpAt N b off ic l w2 ⟨h.below g, hok, hrk⟩ x y hx hy (by omega)
  refine (sortQ (cIx N l) (cIx_ord hok) L w.heap.size G L L w ia L ic hG hl HC (Nat.le_refl _) w' hb hN).mono ?_
  rintro e w2 ⟨rfl, C, hC, n2, b2⟩
  obtain rfl := srt_one (cIx_ord hok) hC hR
  exact ⟨rfl, n2, b2⟩

/-- The insertion of the next number where the search ended. -/
theorem ins_srt {c : Nat → Nat → Int} (o : Ord3 c) {i j : Nat} {R : List Nat} (h : Srt c (List.range i) R) (hj : j ≤ i) (h2 : ∀ x ∈ R.drop j, c i x < 0) (h1 : ∀ g : 0 < j, ¬ c i (R.getD (j - 1) 0) < 0) :
    Srt c (List.range (i + 1)) (R.take j ++ i :: R.drop j) := by
  have hl := srt_len h
  refine ⟨?_, ?_⟩
  · rw [List.range_succ]
    refine (List.perm_middle.trans ?_)
    rw [List.take_append_drop]
    refine (List.Perm.cons i h.perm).trans ?_
    exact (List.perm_append_singleton i (List.range i)).symm
  · have hs := h.sort
    rw [← List.take_append_drop j R, List.pairwise_append] at hs
    rw [List.pairwise_append, List.pairwise_cons]
    have k1 : ∀ y ∈ R.take j, pre c y i := by
      intro y hy
      have hy' : y < i := srt_lt h (List.mem_of_mem_take hy)
      refine Or.inr ⟨?_, hy'⟩
      rcases Nat.eq_zero_or_pos j with e | e
      · subst e; simp at hy
      have hlt : j - 1 < R.length := by omega
      have hz : R.getD (j - 1) 0 = R[j - 1] := by rw [List.getD_eq_getElem?_getD]; simp [hlt]
      have hq := h1 e
      rw [hz] at hq
      obtain ⟨k, hk, rfl⟩ := List.getElem_of_mem hy
      have hkj : k < j := by rw [List.length_take] at hk; omega
      rw [List.getElem_take]
      exact o.trans _ _ _ (le_before o h.sort (i := k) (j := j - 1) (by omega) hlt) hq
    have k2 : ∀ x ∈ R.drop j, pre c i x := fun x hx => Or.inl (h2 x hx)
    refine ⟨hs.1, ⟨k2, hs.2.1⟩, ?_⟩
    intro y hy x hx
    rcases List.mem_cons.1 hx with rfl | hx
    · exact k1 y hy
    · exact hs.2.2 y hy x hx
end Go.Proofs.Ytkjbccodahleoaa.Shape

namespace Go.Proofs.Ytkjbccodahleoaa.Shape
open Go.RowKit
set_option linter.unusedVariables false
set_option linter.unusedSimpArgs false

def SortOutR (c : Nat → Nat → Int) (L K : Nat) (w : World) (e : Ending) (w' : World) : Prop := ∃ R : List Nat, (K = L → Srt c (List.range L) R) ∧ (K ≠ L → R = []) ∧ GiveNums (R.map fun x : Nat => (x : Int)) w e w'
theorem ints_nilN (w : World) : IntsAt w none 0 (([] : List Nat).map fun x : Nat => (x : Int)) := ⟨Nat.le_refl _, by decide, fun x hx => absurd hx (by simp), 0, 0, fun h => absurd rfl h, fun i hi => absurd hi (by simp)⟩
theorem cIx_take {N K : Nat} {l : List Arr} {x y : Nat} (hx : x < K) (hy : y < K) (hK : K ≤ l.length) : cIx N (l.take K) x y = cmpF N (l[x]'(by omega)) (l[y]'(by omega)) := by
  unfold cIx
  rw [getD_at (l := l.take K) (x := x) (by rw [List.length_take]; omega), getD_at (l := l.take K) (x := y) (by rw [List.length_take]; omega), List.getElem_take, List.getElem_take]
theorem map_getD (R : List Nat) (k : Nat) : (R.map fun x : Nat => (x : Int)).getD k 0 = ((R.getD k 0 : Nat) : Int) := by
  rw [List.getD_eq_getElem?_getD, List.getD_eq_getElem?_getD, List.getElem?_map]
  cases R[k]? <;> rfl
theorem drop_pred {R : List Nat} {j : Nat} (h0 : 0 < j) (hj : j ≤ R.length) : R.drop (j - 1) = R.getD (j - 1) 0 :: R.drop j := by
  have h : j - 1 < R.length := by omega
  rw [List.drop_eq_getElem_cons h, List.getD_eq_getElem?_getD, show j - 1 + 1 = j by omega]
  simp [h]
theorem one_new (w : World) (x : Int) : ∀ (j : Nat) (u : Value), [Value.int .i64 x][j]? = some u → (w.alloc (.cells #[.int .i64 x] 3)).cell? ((⟨w.heap.size, 0, none⟩ : Addr).add j) = some u := by
  intro j u hj
  match j, hj with
  | 0, hj => simp at hj; subst hj; simp [Addr.add]
theorem one_cell (x : Int) : ∀ u ∈ [Value.int .i64 x], u.oneCell' = true := by intro u hu; simp at hu; subst hu; rfl
set_option maxRecDepth 100000 in
set_option maxHeartbeats 16000000 in
theorem sortedR (b off L N K : Nat) (ia : Option Addr) (ic : Nat) (l : List Arr) (c : Nat → Nat → Int) (w : World) (h : ArrsAt w b off l) (hia : l ≠ [] → ia = some ⟨b, off, none⟩) (hL : l.length = L) (hl : L ≤ 1000) (hK : K ≤ L)
    (hok : ∀ k (hk : k < l.length), k < K → rightE l[k] = 0) (hbad : ∀ hk : K < l.length, rightE l[K] ≠ 0) (hrk : ∀ A ∈ l, rk A ≤ N) (o : Ord3 c) (hc : ∀ x y (hx : x < l.length) (hy : y < l.length), x < K → y < K → c x y = cmpF N l[x] l[y]) :
    Calls Try.prog 29 #[.slice ia L ic] w (SortOutR c L K w) := by
  obtain ⟨i0, hi0, hz0, hz1, hz2⟩ := info_parts infoInt
  have IX := fun j (hj : j < l.length) w' => items_at (ia := ia) (n := L) (ic := ic) (l := l) hL.symm hia hj w'
  have HH : Hid (∀ w', Below w.heap.size w w' → ArrsAt w' b off l) := fun w' g => h.below g
  have HA : Hid (∀ k (hk : k < l.length), k < K → rightE l[k] = 0) := hok
  have HB : Hid (∀ hk : K < l.length, rightE l[K] ≠ 0) := hbad
  have HL : Hid (l.length = L) := hL
  have HC : ∀ (x y : Nat) (hx : x < l.length) (hy : y < l.length) (v v2 : Value) (w' : World), x < K → y < K → ArrAt w' v l[x] → ArrAt w' v2 l[y] → Calls Try.prog 58 #[v, v2] w' fun e w2 => e = .returned (.int .i64 (c x y)) ∧ Below w'.heap.size w' w2 := by
    intro x y hx hy v v2 w' gx gy a1 a2
    rw [hc x y hx hy gx gy]
    exact compareR N v v2 _ _ w' (hrk _ (List.getElem_mem hx)) (hok x hx gx) (hok y hy gy) a1 a2
  clear h hia hok hbad hL hrk hc
  go_enter Try.func29, Try.ntmps29
  go_wp2_with fail
  go_loopw [3, 4] (fun u v wr => ∃ (i : Nat) (R : List Nat) (oa : Option Addr) (oc : Nat), u = .slice oa i oc ∧ v = .int .i64 i ∧ i ≤ K ∧ Srt c (List.range i) R ∧ IntsAt wr oa oc (R.map fun x : Nat => (x : Int)) ∧ Below w.heap.size w wr) (fun _ v _ => K + 1 - (intOf v).toNat)
  case atStart => exact ⟨0, [], none, 0, rfl, rfl, Nat.zero_le _, ⟨List.Perm.refl _, List.Pairwise.nil⟩, ints_nilN _, Below.refl _ _⟩
  case round =>
    obtain ⟨i, R, oa, oc, rfl, rfl, hi, hS, hO, hb⟩ := hrel
    have lenO : (R.map fun x : Nat => (x : Int)).length = i := by rw [List.length_map, srt_len hS]
    by_cases hlt : i < L
    · have hil : i < l.length := by rw [HL.out]; exact hlt
      have ix := IX i hil
      obtain ⟨c0, c1, c2, c3, ⟨g0, g1, g2, g3⟩, hA⟩ := (HH.out wr hb).at hil
      have R1 := fun w' (g : Below wr.heap.size wr w') => rightR3 _ _ w' (hA.below g)
      by_cases hiK : i < K
      · rw [HA.out i hil hiK] at R1
        go_wp2_with fail
        go_at_call 24
        refine (R1 _ (Below.refl _ _)).mono ?_
        rintro e w1 ⟨rfl, b1⟩
        clear R1
        go_wp2_with fail
        obtain ⟨wo, rfl⟩ : ∃ wo, wo = wr := ⟨_, rfl⟩
        go_loopw [5] (fun v wx => ∃ j : Nat, v = .int .i64 j ∧ j ≤ i ∧ Hid (∀ x ∈ R.drop j, c i x < 0) ∧ Below wo.heap.size wo wx) (fun v _ => (intOf v).toNat)
        case atStart => exact ⟨i, rfl, Nat.le_refl _, (by intro x hx; rw [List.drop_eq_nil_of_le (by rw [srt_len hS]; exact Nat.le_refl _)] at hx; cases hx), b1⟩
        case round =>
          clear b1
          obtain ⟨j, rfl, hji, hD, hbx⟩ := hrel
          by_cases h0 : 0 < j
          · have hjl : j - 1 < R.length := by rw [srt_len hS]; omega
            obtain ⟨gb, go, io, oe⟩ := (hO.below hbx).atL lenO (k := j - 1) (by omega)
            rw [map_getD] at oe
            have hDP := drop_pred h0 (by omega : j ≤ R.length)
            have hxm : R.getD (j - 1) 0 ∈ R := by rw [List.getD_eq_getElem?_getD]; simp [hjl]
            have h1 : ¬ c i (R.getD (j - 1) 0) < 0 → Srt c (List.range (i + 1)) (R.take j ++ i :: R.drop j) := fun g => ins_srt o hS hji hD.out (fun _ => g)
            have hxi := srt_lt hS hxm
            generalize R.getD (j - 1) 0 = x at *
            have hxl : x < l.length := by omega
            have iy := IX x hxl
            obtain ⟨d0, d1, d2, d3, ⟨m0, m1, m2, m3⟩, hA2⟩ := (HH.out wr (hb.trans (hbx.mono hb.size))).at hxl
            have q0 := (hbx.cell (cell_lt g0)).trans g0
            have q1 := (hbx.cell (cell_lt g1)).trans g1
            have q2 := (hbx.cell (cell_lt g2)).trans g2
            have q3 := (hbx.cell (cell_lt g3)).trans g3
            have hA1 := hA.below hbx
            have HC1 := fun w' (g : Below wr.heap.size wr w') => HC i x hil hxl _ _ w' hiK (by omega) (hA1.below g) (hA2.below g)
            have e1 : ((j - 1 : Nat) : Int) = (j : Int) - 1 := by omega
            rw [e1] at io
            have W1 : IntKind.i64.wrap ((j : Int) - 1) = (j : Int) - 1 := by rw [IntWalk.i64_left]; exact IntWalk.wrap64_in _ (by omega)
            have H0 : ∀ w', Below wr.heap.size wr w' → w'.cell? ⟨b, off + i * 4, none⟩ = some c0 ∧ w'.cell? ⟨b, off + i * 4 + 1, none⟩ = some c1 ∧ w'.cell? ⟨b, off + i * 4 + 2, none⟩ = some c2 ∧ w'.cell? ⟨b, off + i * 4 + 3, none⟩ = some c3 ∧ w'.cell? ⟨b, off + x * 4, none⟩ = some d0 ∧ w'.cell? ⟨b, off + x * 4 + 1, none⟩ = some d1 ∧ w'.cell? ⟨b, off + x * 4 + 2, none⟩ = some d2 ∧ w'.cell? ⟨b, off + x * 4 + 3, none⟩ = some d3 ∧ w'.cell? ⟨gb, go + (j - 1), none⟩ = some (.int .i64 (x : Int)) ∧ Below wr.heap.size wr w' := fun w' g => ⟨(g.cell (cell_lt q0)).trans q0, (g.cell (cell_lt q1)).trans q1, (g.cell (cell_lt q2)).trans q2, (g.cell (cell_lt q3)).trans q3, (g.cell (cell_lt m0)).trans m0, (g.cell (cell_lt m1)).trans m1, (g.cell (cell_lt m2)).trans m2, (g.cell (cell_lt m3)).trans m3, (g.cell (cell_lt oe)).trans oe, g⟩
            clear g0 g1 g2 g3 hA2 hA1 e1 hjl hxl
            by_cases hcx : c i x < 0
            · have hD2 : Hid (∀ y ∈ R.drop (j - 1), c i y < 0) := by
                intro y hy
                rw [hDP] at hy
                rcases List.mem_cons.1 hy with rfl | hy
                · exact hcx
                · exact hD.out y hy
              clear hDP hD hO
              go_wp2_with fail
              go_region_held3 (fun w' => w'.cell? ⟨b, off + i * 4, none⟩ = some c0 ∧ w'.cell? ⟨b, off + i * 4 + 1, none⟩ = some c1 ∧ w'.cell? ⟨b, off + i * 4 + 2, none⟩ = some c2 ∧ w'.cell? ⟨b, off + i * 4 + 3, none⟩ = some c3 ∧ w'.cell? ⟨b, off + x * 4, none⟩ = some d0 ∧ w'.cell? ⟨b, off + x * 4 + 1, none⟩ = some d1 ∧ w'.cell? ⟨b, off + x * 4 + 2, none⟩ = some d2 ∧ w'.cell? ⟨b, off + x * 4 + 3, none⟩ = some d3 ∧ w'.cell? ⟨gb, go + (j - 1), none⟩ = some (.int .i64 (x : Int)) ∧ Below wr.heap.size wr w') (exact H0 _ (by go_grown))
                ((go_at_call 58; (with_reducible refine (HC1 _ (by go_grown)).mono ?_); rintro e w1 ⟨rfl, b1⟩; (have e1 : Below wr.heap.size wr w1 := Below.then (by go_grown) b1); (have S1 := e1.size)))
              clear H0 HC1 q0 q1 q2 q3 m0 m1 m2 m3 oe io ix iy
              go_wp2_with fail
              go_roundw
              case rel => exact ⟨j - 1, by go_num, by omega, hD2, Below.then hbx e1⟩
              case measure => simp [intOf]; omega
            · have hN := h1 hcx
              clear hDP
              go_wp2_with fail
              go_region_held3 (fun w' => w'.cell? ⟨b, off + i * 4, none⟩ = some c0 ∧ w'.cell? ⟨b, off + i * 4 + 1, none⟩ = some c1 ∧ w'.cell? ⟨b, off + i * 4 + 2, none⟩ = some c2 ∧ w'.cell? ⟨b, off + i * 4 + 3, none⟩ = some c3 ∧ w'.cell? ⟨b, off + x * 4, none⟩ = some d0 ∧ w'.cell? ⟨b, off + x * 4 + 1, none⟩ = some d1 ∧ w'.cell? ⟨b, off + x * 4 + 2, none⟩ = some d2 ∧ w'.cell? ⟨b, off + x * 4 + 3, none⟩ = some d3 ∧ w'.cell? ⟨gb, go + (j - 1), none⟩ = some (.int .i64 (x : Int)) ∧ Below wr.heap.size wr w') (exact H0 _ (by go_grown))
                ((go_at_call 58; (with_reducible refine (HC1 _ (by go_grown)).mono ?_); rintro e w1 ⟨rfl, b1⟩; (have e1 : Below wr.heap.size wr w1 := Below.then (by go_grown) b1); (have S1 := e1.size)))
              clear H0 HC1 q0 q1 q2 q3 m0 m1 m2 m3 oe io ix iy b1
              have bz := Below.then hbx e1
              obtain ⟨hcut, rcut⟩ := (hO.below bz).cut j (by rw [lenO]; omega)
              obtain ⟨hfrom, rfrom⟩ := (hO.below bz).from j (by rw [lenO]; omega)
              rw [lenO] at rcut rfrom
              have lt1 : ((R.map fun x : Nat => (x : Int)).take j).length = j := by rw [List.length_take, lenO]; omega
              have lt2 : ((R.map fun x : Nat => (x : Int)).drop j).length = i - j := by rw [List.length_drop, lenO]
              rw [lt2] at rfrom
              have sz : w.heap.size ≤ w1.heap.size := (hb.trans (Below.mono bz hb.size)).size
              have B0 : Below w.heap.size w w1 := hb.trans (Below.mono bz hb.size)
              clear hO HC HH HA IX hD
              generalize hT1 : (R.map fun x : Nat => (x : Int)).take j = T1 at *
              generalize hT2 : (R.map fun x : Nat => (x : Int)).drop j = T2 at *
              have HT1 : Hid ((R.map fun x : Nat => (x : Int)).take j = T1) := hT1
              have HT2 : Hid ((R.map fun x : Nat => (x : Int)).drop j = T2) := hT2
              clear hT1 hT2 lenO
              have ro := row_lit w1
              have bn := below_new w1 (.cells #[] 3)
              go_wp2_with (first
                | (at_builtin; refine wpList_ints_own rfl _ _ rfl w1.heap.size _ _ _ rfl ro bn.size _ _ _ T1 rfl lt1.symm (hcut.below bn) (by omega) ?_; intro v1 u1 o1 g1; rw [show 0 + T1.length = j by omega] at o1; have b1_ := Below.grown bn g1 bn.size (fun k hk => (ro.lt k hk).1); have s1_ := b1_.size; obtain ⟨va1, vc1, rfl⟩ := row_slice o1)
                | (at_builtin; refine wpList_append_own _ rfl _ _ 23 rfl w1.heap.size 3 i0 (.int .i64 0) 1 8 Try.underlying23 hi0 hz0 hz1 hz2 rfl (by decide) _ _ _ rfl (o1.alloc _) ⟨u1.heap.size, 0, none⟩ 1 1 [.int .i64 (i : Int)] rfl rfl (one_new u1 _) (one_cell _) (by unfold maxLen; omega) (by omega) (by simp; omega) ?_; intro v2 u2 o2 g2 _; have b2_ := (b1_.alloc s1_ _).grown g2 (by simp; omega) (fun k hk => (o1.lt k hk).1); have s2_ := b2_.size; obtain ⟨va2, vc2, rfl⟩ := row_slice o2)
                | (at_builtin; refine wpList_ints_own rfl _ _ rfl w1.heap.size _ _ _ rfl o2 s2_ _ _ _ T2 rfl lt2.symm (hfrom.below b2_) (by omega) ?_; intro v3 u3 o3 g3; rw [show j + 1 + T2.length = i + 1 by omega] at o3; have b3_ := Below.grown b2_ g3 s2_ (fun k hk => (o2.lt k hk).1); obtain ⟨va3, vc3, rfl⟩ := row_slice o3))
              have eR : [] ++ T1.map (Value.int .i64) ++ [.int .i64 (i : Int)] ++ T2.map (Value.int .i64) = ((R.take j ++ i :: R.drop j).map fun x : Nat => (x : Int)).map (Value.int .i64) := by rw [← HT1.out, ← HT2.out]; simp
              rw [eR] at o3
              obtain ⟨va4, vc4, ev, on3⟩ := ints_of_row (by rw [List.length_map, srt_len hN]) o3 (fun y hy => by
                obtain ⟨z, hz, rfl⟩ := List.mem_map.1 hy
                have := srt_lt hN hz
                omega)
              have lN : ((R.take j ++ i :: R.drop j).map fun x : Nat => (x : Int)).length = i + 1 := by rw [List.length_map, srt_len hN]
              rw [lN] at ev
              simp only [Value.slice.injEq] at ev
              obtain ⟨rfl, -, rfl⟩ := ev
              go_roundw
              case rel => exact ⟨i + 1, _, va3, vc3, rfl, by go_num, by omega, hN, on3.1, B0.trans (b3_.mono sz)⟩
              case measure => simp [intOf]; omega
          · have hN := ins_srt o hS hji hD.out (fun g => absurd g h0)
            clear g0 g1 g2 g3
            have dj : decide ((0 : Int) < (j : Int)) = false := decide_eq_false (by omega)
            go_wp2_with fail
            go_quiet (fail)
            have bz : Below wo.heap.size wo (wr.drewN nq) := Below.then hbx (Shape.below_drewN _)
            generalize wr.drewN nq = wz at *
            obtain ⟨hcut, rcut⟩ := (hO.below bz).cut j (by rw [lenO]; omega)
            obtain ⟨hfrom, rfrom⟩ := (hO.below bz).from j (by rw [lenO]; omega)
            rw [lenO] at rcut rfrom
            have lt1 : ((R.map fun x : Nat => (x : Int)).take j).length = j := by rw [List.length_take, lenO]; omega
            have lt2 : ((R.map fun x : Nat => (x : Int)).drop j).length = i - j := by rw [List.length_drop, lenO]
            rw [lt2] at rfrom
            have sz : w.heap.size ≤ wz.heap.size := (hb.trans (Below.mono bz hb.size)).size
            have B0 : Below w.heap.size w wz := hb.trans (Below.mono bz hb.size)
            clear hO HC HH HA IX hD
            generalize hT1 : (R.map fun x : Nat => (x : Int)).take j = T1 at *
            generalize hT2 : (R.map fun x : Nat => (x : Int)).drop j = T2 at *
            have HT1 : Hid ((R.map fun x : Nat => (x : Int)).take j = T1) := hT1
            have HT2 : Hid ((R.map fun x : Nat => (x : Int)).drop j = T2) := hT2
            clear hT1 hT2 lenO
            have ro := row_lit wz
            have bn := below_new wz (.cells #[] 3)
            go_wp2_with (first
              | (at_builtin; refine wpList_ints_own rfl _ _ rfl wz.heap.size _ _ _ rfl ro bn.size _ _ _ T1 rfl lt1.symm (hcut.below bn) (by omega) ?_; intro v1 u1 o1 g1; rw [show 0 + T1.length = j by omega] at o1; have b1_ := Below.grown bn g1 bn.size (fun k hk => (ro.lt k hk).1); have s1_ := b1_.size; obtain ⟨va1, vc1, rfl⟩ := row_slice o1)
              | (at_builtin; refine wpList_append_own _ rfl _ _ 23 rfl wz.heap.size 3 i0 (.int .i64 0) 1 8 Try.underlying23 hi0 hz0 hz1 hz2 rfl (by decide) _ _ _ rfl (o1.alloc _) ⟨u1.heap.size, 0, none⟩ 1 1 [.int .i64 (i : Int)] rfl rfl (one_new u1 _) (one_cell _) (by unfold maxLen; omega) (by omega) (by simp; omega) ?_; intro v2 u2 o2 g2 _; have b2_ := (b1_.alloc s1_ _).grown g2 (by simp; omega) (fun k hk => (o1.lt k hk).1); have s2_ := b2_.size; obtain ⟨va2, vc2, rfl⟩ := row_slice o2)
              | (at_builtin; refine wpList_ints_own rfl _ _ rfl wz.heap.size _ _ _ rfl o2 s2_ _ _ _ T2 rfl lt2.symm (hfrom.below b2_) (by omega) ?_; intro v3 u3 o3 g3; rw [show j + 1 + T2.length = i + 1 by omega] at o3; have b3_ := Below.grown b2_ g3 s2_ (fun k hk => (o2.lt k hk).1); obtain ⟨va3, vc3, rfl⟩ := row_slice o3))
            have eR : [] ++ T1.map (Value.int .i64) ++ [.int .i64 (i : Int)] ++ T2.map (Value.int .i64) = ((R.take j ++ i :: R.drop j).map fun x : Nat => (x : Int)).map (Value.int .i64) := by rw [← HT1.out, ← HT2.out]; simp
            rw [eR] at o3
            obtain ⟨va4, vc4, ev, on3⟩ := ints_of_row (by rw [List.length_map, srt_len hN]) o3 (fun y hy => by
              obtain ⟨z, hz, rfl⟩ := List.mem_map.1 hy
              have := srt_lt hN hz
              omega)
            have lN : ((R.take j ++ i :: R.drop j).map fun x : Nat => (x : Int)).length = i + 1 := by rw [List.length_map, srt_len hN]
            rw [lN] at ev
            simp only [Value.slice.injEq] at ev
            obtain ⟨rfl, -, rfl⟩ := ev
            go_roundw
            case rel => exact ⟨i + 1, _, va3, vc3, rfl, by go_num, by omega, hN, on3.1, B0.trans (b3_.mono sz)⟩
            case measure => simp [intOf]; omega
      · have e0 : (rightE l[i] != 0) = true := by
          have : i = K := by omega
          subst this
          simpa using HB.out hil
        have hKL : K ≠ L := by omega
        generalize rightE l[i] = y at *
        clear hO hS lenO HC
        go_wp2_with fail
        go_at_call 24
        refine (R1 _ (Below.refl _ _)).mono ?_
        rintro e w1 ⟨rfl, b1⟩
        clear R1
        go_wp2_with fail
        go_ret
        exact ⟨[], fun g => absurd g hKL, fun _ => rfl, giveNums_none (Below.then hb b1)⟩
    · obtain rfl : i = L := by omega
      obtain rfl : K = i := by omega
      clear HC IX
      go_wp2_with fail
      go_ret
      exact ⟨R, fun _ => hS, fun g => absurd rfl g, oa, oc, by rw [lenO]; rfl, hO, hb⟩
end Go.Proofs.Ytkjbccodahleoaa.Shape

namespace Go.Proofs.Ytkjbccodahleoaa.Shape
open Go.RowKit
set_option linter.unusedVariables false

theorem rk_most : ∀ l : List Arr, ∃ N, ∀ A ∈ l, rk A ≤ N
  | [] => ⟨0, fun A h => by cases h⟩
  | A :: l => by
    obtain ⟨N, hN⟩ := rk_most l
    refine ⟨N + rk A, fun B hB => ?_⟩
    rcases List.mem_cons.1 hB with rfl | hB
    · omega
    · have := hN B hB; omega
theorem first_bad : ∀ l : List Arr, ∃ K, K ≤ l.length ∧ (∀ k (hk : k < l.length), k < K → rightE l[k] = 0) ∧ ∀ hk : K < l.length, rightE l[K] ≠ 0
  | [] => ⟨0, Nat.le_refl _, fun k hk => absurd hk (by simp), fun hk => absurd hk (by simp)⟩
  | A :: l => by
    obtain ⟨K, h1, h2, h3⟩ := first_bad l
    by_cases e : rightE A = 0
    · refine ⟨K + 1, by simpa using h1, fun k hk hkK => ?_, fun hk => ?_⟩
      · cases k with
        | zero => exact e
        | succ k => exact h2 k (by simpa using hk) (by omega)
      · exact h3 (by simpa using hk)
    · exact ⟨0, Nat.zero_le _, fun k _ g => absurd g (by omega), fun _ => e⟩
theorem sorted_both (b off L : Nat) (ia : Option Addr) (ic : Nat) (l : List Arr) (w : World) (h : ArrsAt w b off l) (hia : l ≠ [] → ia = some ⟨b, off, none⟩) (hL : l.length = L) (hl : L ≤ 100) :
    ∃ R : List Nat, (∀ x ∈ R, x < 1000) ∧ ∀ w', Below w.heap.size w w' → Calls Try.prog 28 #[.slice ia L ic] w' (GiveNums (R.map fun x : Nat => (x : Int)) w') ∧ Calls Try.prog 29 #[.slice ia L ic] w' (GiveNums (R.map fun x : Nat => (x : Int)) w') := by
  obtain ⟨N, hN⟩ := rk_most l
  obtain ⟨K, hK, hok, hbad⟩ := first_bad l
  have hT : ∀ A ∈ l.take K, rightE A = 0 := by
    intro A hA
    obtain ⟨k, hk, rfl⟩ := List.getElem_of_mem hA
    rw [List.getElem_take]
    rw [List.length_take] at hk
    exact hok k (by omega) (by omega)
  have o : Ord3 (cIx N (l.take K)) := cIx_ord hT
  have SR := fun w' (g : Below w.heap.size w w') => sortedR b off L N K ia ic l (cIx N (l.take K)) w' (h.below g) hia hL (by omega) (by omega) hok hbad hN o (fun x y hx hy gx gy => cIx_take gx gy hK)
  by_cases e : K = L
  · have hall : l.take K = l := by rw [e, ← hL]; exact List.take_length
    rw [hall] at hT o SR
    obtain ⟨R, hR⟩ := srt_ex o L
    refine ⟨R, fun x hx => by have := srt_lt hR hx; omega, fun w' g => ⟨sortedP b off L N ia ic l R w' (h.below g) hia hL (by omega) hT hN hR, (SR w' g).mono ?_⟩⟩
    rintro e2 w2 ⟨R2, h1, h2, h3⟩
    obtain rfl := srt_one o (h1 e) hR
    exact h3
  · refine ⟨([] : List Nat), fun x hx => absurd hx (by simp), fun w' g => ⟨?_, (SR w' g).mono ?_⟩⟩
    · have hb2 : ¬ ∀ A ∈ l, rightE A = 0 := fun H => hbad (by omega) (H _ (List.getElem_mem (by omega)))
      have := sortedBad b off ia ic l w' (h.below g) hia (by omega) hb2
      rw [hL] at this
      exact this
    · rintro e2 w2 ⟨R2, h1, h2, h3⟩
      obtain rfl := h2 e
      exact h3
end Go.Proofs.Ytkjbccodahleoaa.Shape
