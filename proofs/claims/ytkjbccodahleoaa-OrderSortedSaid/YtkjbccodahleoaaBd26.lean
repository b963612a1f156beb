/-
  Layer 6: the comparison that Sorted hands to the library; the library's stable sort of fewer than 20.
  Layer 6: the program's Sorted, over what the library's stable sort leaves.
  Layer 6: the laws' ints, and the examples' calls.
  Layer 6: the laws' own examples.
-/
import Derived.Test.YtkjbccodahleoaaBd6
import Derived.Test.YtkjbccodahleoaaBd25
import Derived.Test.YtkjbccodahleoaaBd16
import Derived.Laws.OwnMore
import Derived.Test.YtkjbccodahleoaaBd15
import Derived.Test.YtkjbccodahleoaaBd24
namespace Go.Proofs.Ytkjbccodahleoaa.Shape
open Go.RowKit
set_option linter.unusedVariables false

theorem elemOrd : Try.prog.underlying 68 = some (.slice (Try.prog.elem 68)) := by kernel_rfl
theorem sizeOrd (w : World) : (sizeOf (Try.prog.elem 68)).run Try.prog w = .ok 4 w := by kernel_rfl
theorem ord_at (b off n c k : Nat) (hk : k < n) (w' : World) : (Instr.indexAt 68 (.slice (some ⟨b, off, none⟩) n c) (.int .i64 (k : Int))).run Try.prog w' = .ok (.pointer (some ⟨b, off + k * 4, none⟩)) w' := by
  rw [run_indexAt_slice w' _ _ _ _ .i64 k elemOrd, if_pos (by omega), sizeOrd]
  show Result.ok _ w' = _
  rw [show ((k : Int).toNat * 4) = k * 4 by omega, add_plain]
/-- The list's arrays, each valid. -/
structure Lst (w : World) (b off n : Nat) (l : List Arr) : Prop where
  at' : ArrsAt w b off l
  right : ∀ A ∈ l, rightE A = 0
  rank : ∀ A ∈ l, rk A ≤ n
theorem Lst.below {w w' : World} {b off n : Nat} {l : List Arr} (h : Lst w b off n l) (hb : Below w.heap.size w w') : Lst w' b off n l := ⟨h.at'.below hb, h.right, h.rank⟩
set_option maxRecDepth 100000 in
set_option maxHeartbeats 1000000 in
theorem cmpAt (n b off c : Nat) (l : List Arr) (w : World) (h : Lst w b off n l) (x y : Nat) (hx : x < l.length) (hy : y < l.length) (hl : l.length ≤ 1000000) :
    Calls Try.prog 57 #[.slice (some ⟨b, off, none⟩) l.length c, .int .i64 (x : Int), .int .i64 (y : Int)] w fun e w' => e = .returned (.int .i64 (cmpF n (l.getD x arr0) (l.getD y arr0))) ∧ Below w.heap.size w w' := by
  have gx : l.getD x arr0 = l[x] := by rw [List.getD_eq_getElem?_getD]; simp [hx]
  have gy : l.getD y arr0 = l[y] := by rw [List.getD_eq_getElem?_getD]; simp [hy]
  rw [gx, gy]
  obtain ⟨d0, d1, d2, d3, ⟨g0, g1, g2, g3⟩, hI⟩ := h.at'.at hx
  obtain ⟨e0, e1, e2, e3, ⟨h0, h1, h2, h3⟩, hJ⟩ := h.at'.at hy
  have ix := fun w' => ord_at b off l.length c x hx w'
  have iy := fun w' => ord_at b off l.length c y hy w'
  have HC1 := compareP n _ _ _ _ w.drew (h.rank _ (List.getElem_mem hx)) (h.right _ (List.getElem_mem hx)) (h.right _ (List.getElem_mem hy)) (hI.below (below_drew w)) (hJ.below (below_drew w))
  generalize l[x] = A at *
  generalize l[y] = B at *
  clear gx gy h hI hJ
  go_enter Try.func57, Try.ntmps57
  go_wp2_with fail
  go_still_tail 8, (by kernel_rfl)
  go_wp2_with (go_at_call 77; (with_reducible refine HC1.mono ?_); rintro e w1 ⟨rfl, b1⟩)
  go_ret
  exact ⟨rfl, Below.then (below_drew _) b1⟩
/-- What the library's stable sort leaves, for fewer than 20. -/
def stbS (c : Nat → Nat → Int) (xs : List Nat) : List Nat := insF c 0 (xs.length - 1) 1 xs
set_option maxRecDepth 100000 in
set_option maxHeartbeats 1000000 in
theorem stableSmall (c : Nat → Nat → Int) (N B G n cap : Nat) (w0 : World) (la : Option Addr) (ln lc : Nat) (hB : B ≤ G) (hn : n < 20)
    (HC : ∀ (w' : World) (x y : Nat), Below B w0 w' → x < N → y < N → Calls Try.prog 57 #[.slice la ln lc, .int .i64 (x : Int), .int .i64 (y : Int)] w' fun e w2 => e = .returned (.int .i64 (c x y)) ∧ Below w'.heap.size w' w2)
    (xs : List Nat) (hx : xs.length = n) (hN : ∀ x ∈ xs, x < N) (w : World) (hw : Below B w0 w) (hG : Nats w G xs) :
    Calls Try.prog 56 #[.slice (some ⟨G, 0, none⟩) n cap, .func (.func 57) #[.slice la ln lc] #[]] w
      fun e w' => e = .returned (.tuple #[]) ∧ Nats w' G (stbS c xs) ∧ Below B w0 w' := by
  have I := insSort c N B G n cap 0 n w0 la ln lc hB (by omega) (Nat.le_refl _) HC xs hx hN (by omega) w hw hG
  have e : insF c 0 (n - (0 + 1)) (0 + 1) xs = stbS c xs := by unfold stbS; rw [hx]
  rw [e] at I
  simp only [Int.cast_ofNat_Int] at I
  clear e HC hG hx hN
  generalize stbS c xs = T at *
  have S : Calls Try.prog 78 #[.slice (some ⟨G, 0, none⟩) n cap, .int .i64 (n : Int), .func (.func 57) #[.slice la ln lc] #[]] w
      fun e w' => e = .returned (.tuple #[]) ∧ Nats w' G T ∧ Below B w0 w' := by
    go_enter Try.func78, Try.ntmps78
    go_wp2_with fail
    refine wp_loop_rounds 1 ?_
    rw [rounds_succ]
    go_wp2_with (go_at_call 92; (with_reducible refine I.mono ?_); rintro e w1 ⟨rfl, h1, h2⟩)
    refine wp_loop_rounds 1 ?_
    rw [rounds_succ]
    go_wp2_with fail
    first | go_end0 | refine bodyPost_ret (results_none rfl _ _ _) rfl ?_
    exact ⟨rfl, h1, h2⟩
  clear I
  go_enter Try.func56, Try.ntmps56
  go_wp2_with (go_at_call 78; (with_reducible refine S.mono ?_); rintro e w1 ⟨rfl, h1, h2⟩)
  first | go_end0 | refine bodyPost_ret (results_none rfl _ _ _) rfl ?_
  exact ⟨rfl, h1, h2⟩
end Go.Proofs.Ytkjbccodahleoaa.Shape

namespace Go.Proofs.Ytkjbccodahleoaa.Shape
open Go.RowKit
set_option linter.unusedVariables false

/-- A list of numbers is given. -/
def GiveNums (R : List Int) (w : World) (e : Ending) (w' : World) : Prop := ∃ (a : Option Addr) (cap : Nat), e = .returned (.slice a R.length cap) ∧ IntsAt w' a cap R ∧ Below w.heap.size w w'
theorem giveNums_none {w w' : World} (h : Below w.heap.size w w') : GiveNums [] w (.returned (.slice none 0 0)) w' := ⟨none, 0, rfl, ⟨Nat.le_refl _, by decide, fun x hx => absurd hx (by simp), 0, 0, fun h => absurd rfl h, fun i hi => absurd hi (by simp)⟩, h⟩
theorem nats_ints {w : World} {G n : Nat} {xs : List Nat} (h : Nats w G xs) (hn : xs.length = n) (hs : n ≤ 1000000) (hN : ∀ x ∈ xs, x < 1000000) : IntsAt w (some ⟨G, 0, none⟩) n (xs.map fun x : Nat => (x : Int)) := by
  refine ⟨by simp [hn], by omega, fun x hx => ?_, G, 0, fun _ => rfl, fun i hi => ?_⟩
  · obtain ⟨y, hy, rfl⟩ := List.mem_map.1 hx
    have := hN y hy
    omega
  · have hi' : i < xs.length := by simpa using hi
    rw [Nat.zero_add, h.cell hi']
    simp
def upto (L j : Nat) : List Nat := List.range j ++ List.replicate (L - j) 0
theorem upto_len {L j : Nat} (h : j ≤ L) : (upto L j).length = L := by simp [upto]; omega
theorem upto_step {L j : Nat} (h : j < L) : (upto L j).set j j = upto L (j + 1) := by
  unfold upto
  rw [List.range_succ, show L - j = (L - (j + 1)) + 1 by omega, List.replicate_succ, List.set_append_right j j (by simp)]
  simp
theorem upto_end (L : Nat) : upto L L = List.range L := by simp [upto]
theorem nats_made (w : World) (n : Nat) : Nats (w.alloc (.cells (madeCells #[.int .i64 0] n) 3)) w.heap.size (upto n 0) := by
  unfold Nats
  rw [heap_alloc_new]
  have e : madeCells #[.int .i64 0] n = ((upto n 0).map fun x : Nat => Value.int .i64 (x : Int)).toArray := by
    have := toList_madeCells_one (.int .i64 0) n
    rw [← Array.toArray_toList (xs := madeCells #[.int .i64 0] n), this]
    simp [upto]
  rw [e]

set_option maxRecDepth 100000 in
set_option maxHeartbeats 2000000 in
theorem sortedBad (b off : Nat) (ia : Option Addr) (ic : Nat) (l : List Arr) (w : World) (h : ArrsAt w b off l) (hia : l ≠ [] → ia = some ⟨b, off, none⟩) (hl : l.length ≤ 1000000) (hbad : ¬ ∀ A ∈ l, rightE A = 0) :
    Calls Try.prog 28 #[.slice ia l.length ic] w (GiveNums [] w) := by
  have hne : l ≠ [] := by intro e; subst e; exact hbad (fun A hA => by cases hA)
  obtain ⟨k, hk, hkb, hka⟩ : ∃ k, ∃ hk : k < l.length, rightE l[k] ≠ 0 ∧ ∀ i (hi : i < l.length), i < k → rightE l[i] = 0 := by
    have H : ∃ k, ∃ hk : k < l.length, rightE l[k] ≠ 0 := by
      apply Classical.byContradiction
      intro g
      refine hbad fun A hA => ?_
      obtain ⟨i, hi, rfl⟩ := List.getElem_of_mem hA
      exact Classical.byContradiction fun g2 => g ⟨i, hi, g2⟩
    have key : ∀ m, (∃ k, k < m ∧ ∃ hk : k < l.length, rightE l[k] ≠ 0) → ∃ k, ∃ hk : k < l.length, rightE l[k] ≠ 0 ∧ ∀ i (hi : i < l.length), i < k → rightE l[i] = 0 := by
      intro m
      induction m with
      | zero => rintro ⟨k, hk, -⟩; omega
      | succ m ih =>
        rintro ⟨k, hk, hk2, hk3⟩
        by_cases g : ∃ k, k < m ∧ ∃ hk : k < l.length, rightE l[k] ≠ 0
        · exact ih g
        · refine ⟨k, hk2, hk3, fun i hi hik => Classical.byContradiction fun g2 => g ⟨i, by omega, hi, g2⟩⟩
    obtain ⟨k, hk, hk2⟩ := H
    exact key (k + 1) ⟨k, by omega, hk, hk2⟩
  have hia' := hia hne
  subst hia'
  have IX := fun j (hj : j < l.length) w' => items_at (ia := some ⟨b, off, none⟩) (ic := ic) (l := l) rfl (fun _ => rfl) hj w'
  have HH : Hid (∀ w', Below w.heap.size w w' → ArrsAt w' b off l) := fun w' g => h.below g
  have HA : Hid (∀ i (hi : i < l.length), i < k → rightE l[i] = 0) := hka
  have HB : Hid (rightE l[k] ≠ 0) := hkb
  clear h hia hbad hne hka hkb
  go_enter Try.func28, Try.ntmps28
  go_wp2_with fail
  go_loopw [9] (fun v wr => ∃ j : Nat, j ≤ k ∧ v = .int .i64 j ∧ Below w.heap.size w wr) (fun v _ => k + 1 - (intOf v).toNat)
  case atStart => exact ⟨0, Nat.zero_le _, rfl, Below.refl _ _⟩
  case round =>
    obtain ⟨j, hj, rfl, hb⟩ := hrel
    have hjl : j < l.length := by omega
    have hAt := HH.out wr hb
    obtain ⟨kk, sa, sc, na, ln, nc, ia, li, ic2, ⟨m0, m1, m2, m3⟩, hI, hA, hkk⟩ := hAt.shape hjl
    have ix := IX j hjl
    obtain ⟨x, hx'⟩ : ∃ x, rightE l[j] = x := ⟨_, rfl⟩
    have hx : Hid (rightE l[j] = x) := hx'
    clear hx'
    have R := fun w' (g : Below wr.heap.size wr w') => rightQ _ _ w' (hA.below g)
    rw [hx.out] at R
    generalize l[j].shape.length = ls at *
    have hx0 : Hid (j < k → x = 0) := fun g => by rw [← hx.out]; exact HA.out j hjl g
    have hxk : Hid (j = k → x ≠ 0) := fun g => by subst g; rw [← hx.out]; exact HB.out
    clear hAt hI hkk IX hA
    by_cases hlt : j < k
    · have e0 := hx0.out hlt
      clear hx0 hxk hx
      subst e0
      go_wp2_with fail
      go_at_call 34
      refine (R _ (below_new _ _)).mono ?_
      rintro e w1 ⟨rfl, b1⟩
      go_wp2_with fail
      go_roundw
      case rel => exact ⟨j + 1, by omega, by go_num, Below.then hb (Below.then (below_new _ _) b1)⟩
      case measure => simp [intOf]; omega
    · have e0 := hxk.out (by omega)
      have e1 : (x != 0) = true := by simpa using e0
      clear hx0 hxk hx e0
      go_wp2_with fail
      go_at_call 34
      refine (R _ (below_new _ _)).mono ?_
      rintro e w1 ⟨rfl, b1⟩
      go_wp2_with fail
      go_ret
      exact giveNums_none (Below.then hb (Below.then (below_new _ _) b1))

set_option maxRecDepth 100000 in
set_option maxHeartbeats 2000000 in
theorem sortedGood (b off L : Nat) (ia : Option Addr) (ic : Nat) (l : List Arr) (R : List Nat) (w : World) (h : ArrsAt w b off l) (hia : l ≠ [] → ia = some ⟨b, off, none⟩) (hL : l.length = L) (hl : L ≤ 1000000) (hok : ∀ A ∈ l, rightE A = 0) (hR : R.length = L) (hRN : ∀ x ∈ R, x < 1000000)
    (HS : ∀ (w' : World) (G : Nat), w.heap.size ≤ G → Below w.heap.size w w' → Nats w' G (List.range L) → Calls Try.prog 56 #[.slice (some ⟨G, 0, none⟩) L L, .func (.func 57) #[.slice ia L ic] #[]] w' fun e w2 => e = .returned (.tuple #[]) ∧ Nats w2 G R ∧ Below w.heap.size w w2) :
    Calls Try.prog 28 #[.slice ia L ic] w (GiveNums (R.map fun x : Nat => (x : Int)) w) := by
  have hmf : ∀ (fn : Fn) (first cap : Array Value) (w : World), (Instr.makeFunc fn first cap).run Try.prog w = .ok (.func fn first cap) w := fun _ _ _ _ => rfl
  have hmk := fun w => run_makeInts w L (by omega)
  have IX := fun j (hj : j < l.length) w' => items_at (ia := ia) (n := L) (ic := ic) (l := l) hL.symm hia hj w'
  have HH : Hid (∀ w', Below w.heap.size w w' → ArrsAt w' b off l) := fun w' g => h.below g
  have HA : Hid (∀ i (hi : i < l.length), rightE l[i] = 0) := fun i hi => hok _ (List.getElem_mem hi)
  have HL : Hid (l.length = L) := hL
  have HRL : Hid (R.length = L) := hR
  have HRN : Hid (∀ x ∈ R, x < 1000000) := hRN
  clear h hia hok hL hR hRN
  go_enter Try.func28, Try.ntmps28
  go_wp2_with fail
  go_loopw [9] (fun v wr => ∃ j : Nat, j ≤ L ∧ v = .int .i64 j ∧ Below w.heap.size w wr) (fun v _ => L - (intOf v).toNat)
  case atStart => exact ⟨0, Nat.zero_le _, rfl, Below.refl _ _⟩
  case round =>
    obtain ⟨j, hj, rfl, hb⟩ := hrel
    by_cases hlt : j < L
    · have hjl : j < l.length := by rw [HL.out]; exact hlt
      have hAt := HH.out wr hb
      obtain ⟨kk, sa, sc, na, ln, nc, ia2, li, ic2, ⟨m0, m1, m2, m3⟩, hI, hA, hkk⟩ := hAt.shape hjl
      have ix := IX j hjl
      have RQ := fun w' (g : Below wr.heap.size wr w') => rightQ _ _ w' (hA.below g)
      rw [HA.out j hjl] at RQ
      generalize l[j].shape.length = ls at *
      clear hAt hI hkk IX hA HS hmk
      go_wp2_with fail
      go_at_call 34
      refine (RQ _ (below_new _ _)).mono ?_
      rintro e w1 ⟨rfl, b1⟩
      go_wp2_with fail
      go_roundw
      case rel => exact ⟨j + 1, by omega, by go_num, Below.then hb (Below.then (below_new _ _) b1)⟩
      case measure => simp [intOf]; omega
    · obtain rfl : j = L := by omega
      clear IX
      go_wp2_with fail
      have N0 := nats_made wr j
      have bN := below_new wr (.cells (madeCells #[.int .i64 0] j) 3)
      have B0 := Below.then hb bN
      have GE : w.heap.size ≤ wr.heap.size := hb.size
      generalize hW : wr.alloc (.cells (madeCells #[.int .i64 0] j) 3) = W at *
      generalize wr.heap.size = G at *
      clear hW bN hb hmk HA HH
      go_loopw [22] (fun v wx => ∃ i : Nat, i ≤ j ∧ v = .int .i64 i ∧ Nats wx G (upto j i) ∧ Below w.heap.size w wx) (fun v _ => j - (intOf v).toNat)
      case atStart => exact ⟨0, Nat.zero_le _, rfl, N0, B0⟩
      case round =>
        obtain ⟨i, hi, rfl, hN, hbx⟩ := hrel
        by_cases hlt2 : i < j
        · have ix := fun w' => elem_nat w' G j j i hlt2
          have hlen := upto_len (L := j) (j := i) hi
          have c0 := hN.cell (j := i) (by omega)
          have f0 := hN.free i
          have N1 := hN.set (j := i) (by omega) i
          rw [upto_step hlt2] at N1
          have B1 : Below w.heap.size w (wr.setCell ⟨G, i, none⟩ (.int .i64 (i : Int))) := hbx.setCell GE _
          generalize (upto j i)[i]'(by omega) = z at c0
          clear hlen HS hN
          go_wp2_with fail
          go_roundw
          case rel => exact ⟨i + 1, by omega, by go_num, N1, B1⟩
          case measure => simp [intOf]; omega
        · obtain rfl : i = j := by omega
          rw [upto_end] at hN
          have S := HS wr G GE hbx hN
          clear HS hN
          go_wp2_with (go_at_call 56; (with_reducible refine S.mono ?_); rintro e w1 ⟨rfl, n1, b1⟩)
          go_ret
          have eR : (R.map fun x : Nat => (x : Int)).length = i := by rw [List.length_map, HRL.out]
          exact ⟨some ⟨G, 0, none⟩, i, (by rw [eR]; rfl), nats_ints n1 HRL.out hl HRN.out, b1⟩
end Go.Proofs.Ytkjbccodahleoaa.Shape

namespace Go.Proofs.Ytkjbccodahleoaa.Shape
open Go.RowKit
set_option linter.unusedVariables false

/-- A vector of numbers. -/
abbrev vecA (xs : List Int) : Arr := .mk 1 [xs.length] xs []
theorem ordInts (a : Option Addr) (c : Nat) (xs : List Int) (w : World) (h : IntsAt w a c xs) : Calls Try.prog 53 #[.slice a xs.length c] w
    fun e w' => ∃ b : Nat, e = .returned (.agg #[.int .i64 1, .slice (some ⟨b, 0, none⟩) 1 1, .slice a xs.length c, .slice none 0 0]) ∧ ArrAt w' (.agg #[.int .i64 1, .slice (some ⟨b, 0, none⟩) 1 1, .slice a xs.length c, .slice none 0 0]) (vecA xs) ∧ Below w.heap.size w w' := by
  have hl := h.len
  go_enter Try.func53, Try.ntmps53
  go_wp2
  refine bodyPost_ret (v := .agg #[.int .i64 1, .slice (some ⟨w.heap.size + 1, 0, none⟩) 1 1, .slice a xs.length c, .slice none 0 0]) (by simp [results, Try.results53, go_sem]) rfl ⟨_, rfl, arr_plain (by decide) rfl rfl (ints_one _ _ _ _ (by omega) ?_ (by decide) (by decide)) (h.below ?_), ?_⟩
  · rw [World.cell?_alloc_at _ _ _ _ (by simp)]; rfl
  · exact Below.then (below_new _ _) (below_new _ _)
  · exact Below.then (below_new _ _) (below_new _ _)
theorem arrs_lit4 (w : World) (t : TypeId) (c0 c1 c2 c3 d0 d1 d2 d3 e0 e1 e2 e3 f0 f1 f2 f3 : Value) (A B C D : Arr) (hA : ArrAt w (.agg #[c0, c1, c2, c3]) A) (hB : ArrAt w (.agg #[d0, d1, d2, d3]) B) (hC : ArrAt w (.agg #[e0, e1, e2, e3]) C) (hD : ArrAt w (.agg #[f0, f1, f2, f3]) D) :
    ArrsAt (w.alloc (.cells #[c0, c1, c2, c3, d0, d1, d2, d3, e0, e1, e2, e3, f0, f1, f2, f3] t)) w.heap.size 0 [A, B, C, D] := by
  have hb := below_new w (.cells #[c0, c1, c2, c3, d0, d1, d2, d3, e0, e1, e2, e3, f0, f1, f2, f3] t)
  simp only [ArrsAt]
  refine ⟨⟨c0, c1, c2, c3, ⟨?_, ?_, ?_, ?_⟩, hA.below hb⟩, ⟨d0, d1, d2, d3, ⟨?_, ?_, ?_, ?_⟩, hB.below hb⟩, ⟨e0, e1, e2, e3, ⟨?_, ?_, ?_, ?_⟩, hC.below hb⟩, ⟨f0, f1, f2, f3, ⟨?_, ?_, ?_, ?_⟩, hD.below hb⟩, trivial⟩ <;> (rw [World.cell?_alloc_new]; rfl)
def exL : List Arr := [vecA [2], vecA [1, 1], vecA [1], vecA [2]]
def exC (x y : Nat) : Int := cmpF 1 (exL.getD x arr0) (exL.getD y arr0)
theorem exL_right : ∀ A ∈ exL, rightE A = 0 := by
  intro A hA
  simp only [exL, List.mem_cons, List.not_mem_nil, or_false] at hA
  rcases hA with rfl | rfl | rfl | rfl <;> kernel_rfl
theorem exL_rank : ∀ A ∈ exL, rk A ≤ 1 := by
  intro A hA
  simp only [exL, List.mem_cons, List.not_mem_nil, or_false] at hA
  rcases hA with rfl | rfl | rfl | rfl <;> (rw [rk, rkL]; omega)
theorem exR : stbS exC (List.range 4) = [2, 1, 0, 3] := by kernel_rfl
theorem sortedEx (b c : Nat) (w : World) (h : ArrsAt w b 0 exL) :
    Calls Try.prog 28 #[.slice (some ⟨b, 0, none⟩) 4 c] w (GiveNums [2, 1, 0, 3] w) := by
  have HC : ∀ (w' : World) (x y : Nat), Below w.heap.size w w' → x < 4 → y < 4 → Calls Try.prog 57 #[.slice (some ⟨b, 0, none⟩) 4 c, .int .i64 (x : Int), .int .i64 (y : Int)] w' fun e w2 => e = .returned (.int .i64 (exC x y)) ∧ Below w'.heap.size w' w2 :=
    fun w' x y g hx hy => cmpAt 1 b 0 c exL w' ⟨h.below g, exL_right, exL_rank⟩ x y hx hy (by decide)
  have hR : (stbS exC (List.range 4)).length = 4 := by rw [exR]; rfl
  have := sortedGood b 0 4 (some ⟨b, 0, none⟩) c exL (stbS exC (List.range 4)) w h (fun _ => rfl) rfl (by decide) exL_right hR (by rw [exR]; decide)
    (fun w' G hG hb hN => stableSmall exC 4 w.heap.size G 4 4 w _ _ _ hG (by decide) HC (List.range 4) (by simp) (by simp) w' hb hN)
  rw [exR] at this
  exact this
end Go.Proofs.Ytkjbccodahleoaa.Shape

namespace Go.Proofs.Ytkjbccodahleoaa.Shape
open Go.RowKit
set_option linter.unusedVariables false

theorem lit6 (w : World) (L : List Int) (t : TypeId) (C : Array Value) (n m : Nat) (hC : C = (L.map (Value.int .i64)).toArray) (hn : n = w.heap.size) (hm : m = L.length) (hb : L.all (fun x => decide (-100 ≤ x ∧ x ≤ 100)) = true) (hl : L.length ≤ 1000000) :
    IntsAt (w.alloc (.cells C t)) (some ⟨n, 0, none⟩) m L := by
  subst hC; subst hn; subst hm
  refine ⟨Nat.le_refl _, by omega, fun x hx => ?_, w.heap.size, 0, fun _ => rfl, fun i hi => ?_⟩
  · have := List.all_eq_true.1 hb x hx
    simp at this
    omega
  · rw [World.cell?_alloc_new]
    simp [hi]
theorem ints0 (w : World) : IntsAt w none 0 [] := ⟨Nat.le_refl _, by decide, fun x hx => absurd hx (by simp), 0, 0, fun h => absurd rfl h, fun i hi => absurd hi (by simp)⟩
theorem ordIntsL (a : Option Addr) (c : Nat) (xs : List Int) (n : Nat) (hn : n = xs.length) (w : World) (h : IntsAt w a c xs) : Calls Try.prog 53 #[.slice a n c] w
    fun e w' => ∃ b : Nat, e = .returned (.agg #[.int .i64 1, .slice (some ⟨b, 0, none⟩) 1 1, .slice a n c, .slice none 0 0]) ∧ ArrAt w' (.agg #[.int .i64 1, .slice (some ⟨b, 0, none⟩) 1 1, .slice a n c, .slice none 0 0]) (vecA xs) ∧ Below w.heap.size w w' := by
  subst hn; exact ordInts a c xs w h
theorem cmpEx (v v2 : Value) (A B : Arr) (z : Int) (w : World) (hA : ArrAt w v A) (hB : ArrAt w v2 B) (hr : rk A ≤ 1) (hz : cmpS 1 A B = z) :
    Calls Try.prog 54 #[v, v2] w fun e w' => e = .returned (.int .i64 z) ∧ Below w.heap.size w w' := by
  subst hz; exact compareTop 1 (compareP 1) v v2 A B w hr hA hB
theorem lessEx (v v2 : Value) (A B : Arr) (w : World) (hA : ArrAt w v A) (hB : ArrAt w v2 B) (hr : rk A ≤ 1) (hz : cmpS 1 A B = -1) :
    Calls Try.prog 55 #[v, v2] w fun e w' => e = .returned (.bool true) ∧ Below w.heap.size w w' := by
  have := lessTop 1 (compareP 1) v v2 A B w hr hA hB
  rw [hz] at this
  exact this
theorem rk_flat (k : Int) (sh nu : List Int) : rk (.mk k sh nu []) ≤ 1 := by rw [rk, rkL]; omega
/-- Element k, as the walk spells it where the length and the place are literals. -/
theorem IntsAt.spot6 {w : World} {a : Option Addr} {cap : Nat} {xs : List Int} (h : IntsAt w a cap xs) {k : Nat} (hk : k < xs.length) (n : Nat) (hn : n = xs.length) (i : Int) (hi : i = k) (v : Int) (hv : xs[k] = v) :
    ∃ b off : Nat, (∀ w' : World, (Instr.indexAt 23 (.slice a n cap) (.int .i64 i)).run Try.prog w' = .ok (.pointer (some ⟨b, off, none⟩)) w') ∧ w.cell? ⟨b, off, none⟩ = some (.int .i64 v) := by
  subst hn; subst hi; subst hv
  obtain ⟨b, off, h1, h2⟩ := h.at hk
  exact ⟨b, off + k, h1, h2⟩

abbrev exA : Arr := .mk 1 [2, 2] [1, 2, 3, 4] []
abbrev exB : Arr := .mk 1 [2, 2] [1, 3, 0, 0] []
abbrev exC' : Arr := .mk 1 [1, 2] [1, 2] []
abbrev exD : Arr := .mk 1 [0, 3] [] []
abbrev exE : Arr := .mk 1 [0, 5] [] []
theorem exAB : cmpS 1 exA exB = -1 := by kernel_rfl
theorem exAC : cmpS 1 exA exC' = 1 := by kernel_rfl
theorem exDE : cmpS 1 exD exE = -1 := by kernel_rfl
theorem exV1 : cmpS 1 (vecA [1, 2]) (vecA [1, 2, 0]) = -1 := by kernel_rfl
theorem exV2 : cmpS 1 (vecA [1, 2, 0]) (vecA [2]) = -1 := by kernel_rfl
structure Ex (w W : World) : Prop where
  low : Below w.heap.size w W
  qA : Quad W (w.heap.size + 1 + 1) (.int .i64 1) (.slice (some ⟨w.heap.size, 0, none⟩) 2 2) (.slice (some ⟨w.heap.size + 1, 0, none⟩) 4 4) (.slice none 0 0)
  aA : ArrAt W (.agg #[.int .i64 1, .slice (some ⟨w.heap.size, 0, none⟩) 2 2, .slice (some ⟨w.heap.size + 1, 0, none⟩) 4 4, .slice none 0 0]) exA
  qB : Quad W (w.heap.size + 1 + 1 + 1 + 1 + 1) (.int .i64 1) (.slice (some ⟨w.heap.size + 1 + 1 + 1, 0, none⟩) 2 2) (.slice (some ⟨w.heap.size + 1 + 1 + 1 + 1, 0, none⟩) 4 4) (.slice none 0 0)
  aB : ArrAt W (.agg #[.int .i64 1, .slice (some ⟨w.heap.size + 1 + 1 + 1, 0, none⟩) 2 2, .slice (some ⟨w.heap.size + 1 + 1 + 1 + 1, 0, none⟩) 4 4, .slice none 0 0]) exB
  qC : Quad W (w.heap.size + 1 + 1 + 1 + 1 + 1 + 1 + 1 + 1) (.int .i64 1) (.slice (some ⟨w.heap.size + 1 + 1 + 1 + 1 + 1 + 1, 0, none⟩) 2 2) (.slice (some ⟨w.heap.size + 1 + 1 + 1 + 1 + 1 + 1 + 1, 0, none⟩) 2 2) (.slice none 0 0)
  aC : ArrAt W (.agg #[.int .i64 1, .slice (some ⟨w.heap.size + 1 + 1 + 1 + 1 + 1 + 1, 0, none⟩) 2 2, .slice (some ⟨w.heap.size + 1 + 1 + 1 + 1 + 1 + 1 + 1, 0, none⟩) 2 2, .slice none 0 0]) exC'
  qD : Quad W (w.heap.size + 1 + 1 + 1 + 1 + 1 + 1 + 1 + 1 + 1 + 1) (.int .i64 1) (.slice (some ⟨w.heap.size + 1 + 1 + 1 + 1 + 1 + 1 + 1 + 1 + 1, 0, none⟩) 2 2) (.slice none 0 0) (.slice none 0 0)
  aD : ArrAt W (.agg #[.int .i64 1, .slice (some ⟨w.heap.size + 1 + 1 + 1 + 1 + 1 + 1 + 1 + 1 + 1, 0, none⟩) 2 2, .slice none 0 0, .slice none 0 0]) exD
  qE : Quad W (w.heap.size + 1 + 1 + 1 + 1 + 1 + 1 + 1 + 1 + 1 + 1 + 1 + 1) (.int .i64 1) (.slice (some ⟨w.heap.size + 1 + 1 + 1 + 1 + 1 + 1 + 1 + 1 + 1 + 1 + 1, 0, none⟩) 2 2) (.slice none 0 0) (.slice none 0 0)
  aE : ArrAt W (.agg #[.int .i64 1, .slice (some ⟨w.heap.size + 1 + 1 + 1 + 1 + 1 + 1 + 1 + 1 + 1 + 1 + 1, 0, none⟩) 2 2, .slice none 0 0, .slice none 0 0]) exE
theorem Ex.below {w W W' : World} (h : Ex w W) (hb : Below W.heap.size W W') : Ex w W' :=
  ⟨Below.then h.low hb, h.qA.below hb, h.aA.below hb, h.qB.below hb, h.aB.below hb, h.qC.below hb, h.aC.below hb, h.qD.below hb, h.aD.below hb, h.qE.below hb, h.aE.below hb⟩
theorem Ex.new (w : World) : Ex w (((((((((((((w.alloc (.cells #[.int .i64 2, .int .i64 2] 3)).alloc (.cells #[.int .i64 1, .int .i64 2, .int .i64 3, .int .i64 4] 3)).alloc (.cells #[.int .i64 1, .slice (some ⟨w.heap.size, 0, none⟩) 2 2, .slice (some ⟨w.heap.size + 1, 0, none⟩) 4 4, .slice none 0 0] 26)).alloc (.cells #[.int .i64 2, .int .i64 2] 3)).alloc (.cells #[.int .i64 1, .int .i64 3, .int .i64 0, .int .i64 0] 3)).alloc (.cells #[.int .i64 1, .slice (some ⟨w.heap.size + 1 + 1 + 1, 0, none⟩) 2 2, .slice (some ⟨w.heap.size + 1 + 1 + 1 + 1, 0, none⟩) 4 4, .slice none 0 0] 26)).alloc (.cells #[.int .i64 1, .int .i64 2] 3)).alloc (.cells #[.int .i64 1, .int .i64 2] 3)).alloc (.cells #[.int .i64 1, .slice (some ⟨w.heap.size + 1 + 1 + 1 + 1 + 1 + 1, 0, none⟩) 2 2, .slice (some ⟨w.heap.size + 1 + 1 + 1 + 1 + 1 + 1 + 1, 0, none⟩) 2 2, .slice none 0 0] 26)).alloc (.cells #[.int .i64 0, .int .i64 3] 3)).alloc (.cells #[.int .i64 1, .slice (some ⟨w.heap.size + 1 + 1 + 1 + 1 + 1 + 1 + 1 + 1 + 1, 0, none⟩) 2 2, .slice none 0 0, .slice none 0 0] 26)).alloc (.cells #[.int .i64 0, .int .i64 5] 3)).alloc (.cells #[.int .i64 1, .slice (some ⟨w.heap.size + 1 + 1 + 1 + 1 + 1 + 1 + 1 + 1 + 1 + 1 + 1, 0, none⟩) 2 2, .slice none 0 0, .slice none 0 0] 26)) := by
  obtain ⟨W0, hW0⟩ : ∃ W0, w = W0 := ⟨_, rfl⟩
  have iAs := lit6 w [2, 2] 3 #[.int .i64 2, .int .i64 2] (w.heap.size) 2 rfl rfl rfl (by decide) (by decide)
  have b1 := below_new w (.cells #[.int .i64 2, .int .i64 2] 3)
  have z1 : (w.alloc (.cells #[.int .i64 2, .int .i64 2] 3)).heap.size = w.heap.size + 1 := by simp
  generalize w.alloc (.cells #[.int .i64 2, .int .i64 2] 3) = W1 at *
  have low := b1
  have iAn := lit6 W1 [1, 2, 3, 4] 3 #[.int .i64 1, .int .i64 2, .int .i64 3, .int .i64 4] (w.heap.size + 1) 4 rfl z1.symm rfl (by decide) (by decide)
  have b2 := below_new W1 (.cells #[.int .i64 1, .int .i64 2, .int .i64 3, .int .i64 4] 3)
  have z2 : (W1.alloc (.cells #[.int .i64 1, .int .i64 2, .int .i64 3, .int .i64 4] 3)).heap.size = w.heap.size + 1 + 1 := by rw [← z1]; simp
  generalize W1.alloc (.cells #[.int .i64 1, .int .i64 2, .int .i64 3, .int .i64 4] 3) = W2 at *
  replace iAs := iAs.below b2
  replace low := Below.then low b2
  have qA := Quad.new W2 (.int .i64 1) (.slice (some ⟨w.heap.size, 0, none⟩) 2 2) (.slice (some ⟨w.heap.size + 1, 0, none⟩) 4 4) (.slice none 0 0)
  rw [z2] at qA
  have b3 := below_new W2 (.cells #[.int .i64 1, .slice (some ⟨w.heap.size, 0, none⟩) 2 2, .slice (some ⟨w.heap.size + 1, 0, none⟩) 4 4, .slice none 0 0] 26)
  have z3 : (W2.alloc (.cells #[.int .i64 1, .slice (some ⟨w.heap.size, 0, none⟩) 2 2, .slice (some ⟨w.heap.size + 1, 0, none⟩) 4 4, .slice none 0 0] 26)).heap.size = w.heap.size + 1 + 1 + 1 := by rw [← z2]; simp
  generalize W2.alloc (.cells #[.int .i64 1, .slice (some ⟨w.heap.size, 0, none⟩) 2 2, .slice (some ⟨w.heap.size + 1, 0, none⟩) 4 4, .slice none 0 0] 26) = W3 at *
  replace iAs := iAs.below b3
  replace iAn := iAn.below b3
  replace low := Below.then low b3
  have iBs := lit6 W3 [2, 2] 3 #[.int .i64 2, .int .i64 2] (w.heap.size + 1 + 1 + 1) 2 rfl z3.symm rfl (by decide) (by decide)
  have b4 := below_new W3 (.cells #[.int .i64 2, .int .i64 2] 3)
  have z4 : (W3.alloc (.cells #[.int .i64 2, .int .i64 2] 3)).heap.size = w.heap.size + 1 + 1 + 1 + 1 := by rw [← z3]; simp
  generalize W3.alloc (.cells #[.int .i64 2, .int .i64 2] 3) = W4 at *
  replace iAs := iAs.below b4
  replace iAn := iAn.below b4
  replace qA := qA.below b4
  replace low := Below.then low b4
  have iBn := lit6 W4 [1, 3, 0, 0] 3 #[.int .i64 1, .int .i64 3, .int .i64 0, .int .i64 0] (w.heap.size + 1 + 1 + 1 + 1) 4 rfl z4.symm rfl (by decide) (by decide)
  have b5 := below_new W4 (.cells #[.int .i64 1, .int .i64 3, .int .i64 0, .int .i64 0] 3)
  have z5 : (W4.alloc (.cells #[.int .i64 1, .int .i64 3, .int .i64 0, .int .i64 0] 3)).heap.size = w.heap.size + 1 + 1 + 1 + 1 + 1 := by rw [← z4]; simp
  generalize W4.alloc (.cells #[.int .i64 1, .int .i64 3, .int .i64 0, .int .i64 0] 3) = W5 at *
  replace iAs := iAs.below b5
  replace iAn := iAn.below b5
  replace qA := qA.below b5
  replace iBs := iBs.below b5
  replace low := Below.then low b5
  have qB := Quad.new W5 (.int .i64 1) (.slice (some ⟨w.heap.size + 1 + 1 + 1, 0, none⟩) 2 2) (.slice (some ⟨w.heap.size + 1 + 1 + 1 + 1, 0, none⟩) 4 4) (.slice none 0 0)
  rw [z5] at qB
  have b6 := below_new W5 (.cells #[.int .i64 1, .slice (some ⟨w.heap.size + 1 + 1 + 1, 0, none⟩) 2 2, .slice (some ⟨w.heap.size + 1 + 1 + 1 + 1, 0, none⟩) 4 4, .slice none 0 0] 26)
  have z6 : (W5.alloc (.cells #[.int .i64 1, .slice (some ⟨w.heap.size + 1 + 1 + 1, 0, none⟩) 2 2, .slice (some ⟨w.heap.size + 1 + 1 + 1 + 1, 0, none⟩) 4 4, .slice none 0 0] 26)).heap.size = w.heap.size + 1 + 1 + 1 + 1 + 1 + 1 := by rw [← z5]; simp
  generalize W5.alloc (.cells #[.int .i64 1, .slice (some ⟨w.heap.size + 1 + 1 + 1, 0, none⟩) 2 2, .slice (some ⟨w.heap.size + 1 + 1 + 1 + 1, 0, none⟩) 4 4, .slice none 0 0] 26) = W6 at *
  replace iAs := iAs.below b6
  replace iAn := iAn.below b6
  replace qA := qA.below b6
  replace iBs := iBs.below b6
  replace iBn := iBn.below b6
  replace low := Below.then low b6
  have iCs := lit6 W6 [1, 2] 3 #[.int .i64 1, .int .i64 2] (w.heap.size + 1 + 1 + 1 + 1 + 1 + 1) 2 rfl z6.symm rfl (by decide) (by decide)
  have b7 := below_new W6 (.cells #[.int .i64 1, .int .i64 2] 3)
  have z7 : (W6.alloc (.cells #[.int .i64 1, .int .i64 2] 3)).heap.size = w.heap.size + 1 + 1 + 1 + 1 + 1 + 1 + 1 := by rw [← z6]; simp
  generalize W6.alloc (.cells #[.int .i64 1, .int .i64 2] 3) = W7 at *
  replace iAs := iAs.below b7
  replace iAn := iAn.below b7
  replace qA := qA.below b7
  replace iBs := iBs.below b7
  replace iBn := iBn.below b7
  replace qB := qB.below b7
  replace low := Below.then low b7
  have iCn := lit6 W7 [1, 2] 3 #[.int .i64 1, .int .i64 2] (w.heap.size + 1 + 1 + 1 + 1 + 1 + 1 + 1) 2 rfl z7.symm rfl (by decide) (by decide)
  have b8 := below_new W7 (.cells #[.int .i64 1, .int .i64 2] 3)
  have z8 : (W7.alloc (.cells #[.int .i64 1, .int .i64 2] 3)).heap.size = w.heap.size + 1 + 1 + 1 + 1 + 1 + 1 + 1 + 1 := by rw [← z7]; simp
  generalize W7.alloc (.cells #[.int .i64 1, .int .i64 2] 3) = W8 at *
  replace iAs := iAs.below b8
  replace iAn := iAn.below b8
  replace qA := qA.below b8
  replace iBs := iBs.below b8
  replace iBn := iBn.below b8
  replace qB := qB.below b8
  replace iCs := iCs.below b8
  replace low := Below.then low b8
  have qC := Quad.new W8 (.int .i64 1) (.slice (some ⟨w.heap.size + 1 + 1 + 1 + 1 + 1 + 1, 0, none⟩) 2 2) (.slice (some ⟨w.heap.size + 1 + 1 + 1 + 1 + 1 + 1 + 1, 0, none⟩) 2 2) (.slice none 0 0)
  rw [z8] at qC
  have b9 := below_new W8 (.cells #[.int .i64 1, .slice (some ⟨w.heap.size + 1 + 1 + 1 + 1 + 1 + 1, 0, none⟩) 2 2, .slice (some ⟨w.heap.size + 1 + 1 + 1 + 1 + 1 + 1 + 1, 0, none⟩) 2 2, .slice none 0 0] 26)
  have z9 : (W8.alloc (.cells #[.int .i64 1, .slice (some ⟨w.heap.size + 1 + 1 + 1 + 1 + 1 + 1, 0, none⟩) 2 2, .slice (some ⟨w.heap.size + 1 + 1 + 1 + 1 + 1 + 1 + 1, 0, none⟩) 2 2, .slice none 0 0] 26)).heap.size = w.heap.size + 1 + 1 + 1 + 1 + 1 + 1 + 1 + 1 + 1 := by rw [← z8]; simp
  generalize W8.alloc (.cells #[.int .i64 1, .slice (some ⟨w.heap.size + 1 + 1 + 1 + 1 + 1 + 1, 0, none⟩) 2 2, .slice (some ⟨w.heap.size + 1 + 1 + 1 + 1 + 1 + 1 + 1, 0, none⟩) 2 2, .slice none 0 0] 26) = W9 at *
  replace iAs := iAs.below b9
  replace iAn := iAn.below b9
  replace qA := qA.below b9
  replace iBs := iBs.below b9
  replace iBn := iBn.below b9
  replace qB := qB.below b9
  replace iCs := iCs.below b9
  replace iCn := iCn.below b9
  replace low := Below.then low b9
  have iDs := lit6 W9 [0, 3] 3 #[.int .i64 0, .int .i64 3] (w.heap.size + 1 + 1 + 1 + 1 + 1 + 1 + 1 + 1 + 1) 2 rfl z9.symm rfl (by decide) (by decide)
  have b10 := below_new W9 (.cells #[.int .i64 0, .int .i64 3] 3)
  have z10 : (W9.alloc (.cells #[.int .i64 0, .int .i64 3] 3)).heap.size = w.heap.size + 1 + 1 + 1 + 1 + 1 + 1 + 1 + 1 + 1 + 1 := by rw [← z9]; simp
  generalize W9.alloc (.cells #[.int .i64 0, .int .i64 3] 3) = W10 at *
  replace iAs := iAs.below b10
  replace iAn := iAn.below b10
  replace qA := qA.below b10
  replace iBs := iBs.below b10
  replace iBn := iBn.below b10
  replace qB := qB.below b10
  replace iCs := iCs.below b10
  replace iCn := iCn.below b10
  replace qC := qC.below b10
  replace low := Below.then low b10
  have qD := Quad.new W10 (.int .i64 1) (.slice (some ⟨w.heap.size + 1 + 1 + 1 + 1 + 1 + 1 + 1 + 1 + 1, 0, none⟩) 2 2) (.slice none 0 0) (.slice none 0 0)
  rw [z10] at qD
  have b11 := below_new W10 (.cells #[.int .i64 1, .slice (some ⟨w.heap.size + 1 + 1 + 1 + 1 + 1 + 1 + 1 + 1 + 1, 0, none⟩) 2 2, .slice none 0 0, .slice none 0 0] 26)
  have z11 : (W10.alloc (.cells #[.int .i64 1, .slice (some ⟨w.heap.size + 1 + 1 + 1 + 1 + 1 + 1 + 1 + 1 + 1, 0, none⟩) 2 2, .slice none 0 0, .slice none 0 0] 26)).heap.size = w.heap.size + 1 + 1 + 1 + 1 + 1 + 1 + 1 + 1 + 1 + 1 + 1 := by rw [← z10]; simp
  generalize W10.alloc (.cells #[.int .i64 1, .slice (some ⟨w.heap.size + 1 + 1 + 1 + 1 + 1 + 1 + 1 + 1 + 1, 0, none⟩) 2 2, .slice none 0 0, .slice none 0 0] 26) = W11 at *
  replace iAs := iAs.below b11
  replace iAn := iAn.below b11
  replace qA := qA.below b11
  replace iBs := iBs.below b11
  replace iBn := iBn.below b11
  replace qB := qB.below b11
  replace iCs := iCs.below b11
  replace iCn := iCn.below b11
  replace qC := qC.below b11
  replace iDs := iDs.below b11
  replace low := Below.then low b11
  have iEs := lit6 W11 [0, 5] 3 #[.int .i64 0, .int .i64 5] (w.heap.size + 1 + 1 + 1 + 1 + 1 + 1 + 1 + 1 + 1 + 1 + 1) 2 rfl z11.symm rfl (by decide) (by decide)
  have b12 := below_new W11 (.cells #[.int .i64 0, .int .i64 5] 3)
  have z12 : (W11.alloc (.cells #[.int .i64 0, .int .i64 5] 3)).heap.size = w.heap.size + 1 + 1 + 1 + 1 + 1 + 1 + 1 + 1 + 1 + 1 + 1 + 1 := by rw [← z11]; simp
  generalize W11.alloc (.cells #[.int .i64 0, .int .i64 5] 3) = W12 at *
  replace iAs := iAs.below b12
  replace iAn := iAn.below b12
  replace qA := qA.below b12
  replace iBs := iBs.below b12
  replace iBn := iBn.below b12
  replace qB := qB.below b12
  replace iCs := iCs.below b12
  replace iCn := iCn.below b12
  replace qC := qC.below b12
  replace iDs := iDs.below b12
  replace qD := qD.below b12
  replace low := Below.then low b12
  have qE := Quad.new W12 (.int .i64 1) (.slice (some ⟨w.heap.size + 1 + 1 + 1 + 1 + 1 + 1 + 1 + 1 + 1 + 1 + 1, 0, none⟩) 2 2) (.slice none 0 0) (.slice none 0 0)
  rw [z12] at qE
  have b13 := below_new W12 (.cells #[.int .i64 1, .slice (some ⟨w.heap.size + 1 + 1 + 1 + 1 + 1 + 1 + 1 + 1 + 1 + 1 + 1, 0, none⟩) 2 2, .slice none 0 0, .slice none 0 0] 26)
  have z13 : (W12.alloc (.cells #[.int .i64 1, .slice (some ⟨w.heap.size + 1 + 1 + 1 + 1 + 1 + 1 + 1 + 1 + 1 + 1 + 1, 0, none⟩) 2 2, .slice none 0 0, .slice none 0 0] 26)).heap.size = w.heap.size + 1 + 1 + 1 + 1 + 1 + 1 + 1 + 1 + 1 + 1 + 1 + 1 + 1 := by rw [← z12]; simp
  generalize W12.alloc (.cells #[.int .i64 1, .slice (some ⟨w.heap.size + 1 + 1 + 1 + 1 + 1 + 1 + 1 + 1 + 1 + 1 + 1, 0, none⟩) 2 2, .slice none 0 0, .slice none 0 0] 26) = W13 at *
  replace iAs := iAs.below b13
  replace iAn := iAn.below b13
  replace qA := qA.below b13
  replace iBs := iBs.below b13
  replace iBn := iBn.below b13
  replace qB := qB.below b13
  replace iCs := iCs.below b13
  replace iCn := iCn.below b13
  replace qC := qC.below b13
  replace iDs := iDs.below b13
  replace qD := qD.below b13
  replace iEs := iEs.below b13
  replace low := Below.then low b13
  exact ⟨low, qA, arr_plain (by decide) rfl rfl iAs iAn, qB, arr_plain (by decide) rfl rfl iBs iBn, qC, arr_plain (by decide) rfl rfl iCs iCn, qD, arr_plain (by decide) rfl rfl iDs (ints0 _), qE, arr_plain (by decide) rfl rfl iEs (ints0 _)⟩
theorem Ex.size (w : World) : Hid ((((((((((((((w.alloc (.cells #[.int .i64 2, .int .i64 2] 3)).alloc (.cells #[.int .i64 1, .int .i64 2, .int .i64 3, .int .i64 4] 3)).alloc (.cells #[.int .i64 1, .slice (some ⟨w.heap.size, 0, none⟩) 2 2, .slice (some ⟨w.heap.size + 1, 0, none⟩) 4 4, .slice none 0 0] 26)).alloc (.cells #[.int .i64 2, .int .i64 2] 3)).alloc (.cells #[.int .i64 1, .int .i64 3, .int .i64 0, .int .i64 0] 3)).alloc (.cells #[.int .i64 1, .slice (some ⟨w.heap.size + 1 + 1 + 1, 0, none⟩) 2 2, .slice (some ⟨w.heap.size + 1 + 1 + 1 + 1, 0, none⟩) 4 4, .slice none 0 0] 26)).alloc (.cells #[.int .i64 1, .int .i64 2] 3)).alloc (.cells #[.int .i64 1, .int .i64 2] 3)).alloc (.cells #[.int .i64 1, .slice (some ⟨w.heap.size + 1 + 1 + 1 + 1 + 1 + 1, 0, none⟩) 2 2, .slice (some ⟨w.heap.size + 1 + 1 + 1 + 1 + 1 + 1 + 1, 0, none⟩) 2 2, .slice none 0 0] 26)).alloc (.cells #[.int .i64 0, .int .i64 3] 3)).alloc (.cells #[.int .i64 1, .slice (some ⟨w.heap.size + 1 + 1 + 1 + 1 + 1 + 1 + 1 + 1 + 1, 0, none⟩) 2 2, .slice none 0 0, .slice none 0 0] 26)).alloc (.cells #[.int .i64 0, .int .i64 5] 3)).alloc (.cells #[.int .i64 1, .slice (some ⟨w.heap.size + 1 + 1 + 1 + 1 + 1 + 1 + 1 + 1 + 1 + 1 + 1, 0, none⟩) 2 2, .slice none 0 0, .slice none 0 0] 26)).heap.size = w.heap.size + 1 + 1 + 1 + 1 + 1 + 1 + 1 + 1 + 1 + 1 + 1 + 1 + 1) := by unfold Hid; simp

set_option maxRecDepth 100000 in
set_option maxHeartbeats 2000000 in
theorem ordLives (w : World) :
    Calls Try.prog 26 #[] w fun e w' => e = .returned (.bool true) ∧ Below w.heap.size w w' := by
  have X0 := Ex.new w
  have Z := Ex.size w
  go_enter Try.func26, Try.ntmps26
  go_wp2_with fail
  generalize (((((((((((((w.alloc (.cells #[.int .i64 2, .int .i64 2] 3)).alloc (.cells #[.int .i64 1, .int .i64 2, .int .i64 3, .int .i64 4] 3)).alloc (.cells #[.int .i64 1, .slice (some ⟨w.heap.size, 0, none⟩) 2 2, .slice (some ⟨w.heap.size + 1, 0, none⟩) 4 4, .slice none 0 0] 26)).alloc (.cells #[.int .i64 2, .int .i64 2] 3)).alloc (.cells #[.int .i64 1, .int .i64 3, .int .i64 0, .int .i64 0] 3)).alloc (.cells #[.int .i64 1, .slice (some ⟨w.heap.size + 1 + 1 + 1, 0, none⟩) 2 2, .slice (some ⟨w.heap.size + 1 + 1 + 1 + 1, 0, none⟩) 4 4, .slice none 0 0] 26)).alloc (.cells #[.int .i64 1, .int .i64 2] 3)).alloc (.cells #[.int .i64 1, .int .i64 2] 3)).alloc (.cells #[.int .i64 1, .slice (some ⟨w.heap.size + 1 + 1 + 1 + 1 + 1 + 1, 0, none⟩) 2 2, .slice (some ⟨w.heap.size + 1 + 1 + 1 + 1 + 1 + 1 + 1, 0, none⟩) 2 2, .slice none 0 0] 26)).alloc (.cells #[.int .i64 0, .int .i64 3] 3)).alloc (.cells #[.int .i64 1, .slice (some ⟨w.heap.size + 1 + 1 + 1 + 1 + 1 + 1 + 1 + 1 + 1, 0, none⟩) 2 2, .slice none 0 0, .slice none 0 0] 26)).alloc (.cells #[.int .i64 0, .int .i64 5] 3)).alloc (.cells #[.int .i64 1, .slice (some ⟨w.heap.size + 1 + 1 + 1 + 1 + 1 + 1 + 1 + 1 + 1 + 1 + 1, 0, none⟩) 2 2, .slice none 0 0, .slice none 0 0] 26)) = W at *
  go_at_call 53
  refine (ordIntsL _ _ [2] 1 rfl _ ?c1).mono ?_
  case c1 => exact lit6 _ _ _ _ _ _ rfl (by first | rfl | exact Z.out.symm | simp) rfl (by decide) (by decide)
  rintro e w1 ⟨s1, rfl, h1, b1⟩
  replace b1 := Below.then (below_new _ _) b1
  replace X0 := X0.below b1
  clear b1
  go_wp2_with fail
  go_at_call 53
  refine (ordIntsL _ _ [1, 1] 2 rfl _ ?c2).mono ?_
  case c2 => exact lit6 _ _ _ _ _ _ rfl (by first | rfl | exact Z.out.symm | simp) rfl (by decide) (by decide)
  rintro e w2 ⟨s2, rfl, h2, b2⟩
  replace b2 := Below.then (below_new _ _) b2
  replace h1 := h1.below b2
  replace X0 := X0.below b2
  clear b2
  go_wp2_with fail
  go_at_call 53
  refine (ordIntsL _ _ [1] 1 rfl _ ?c3).mono ?_
  case c3 => exact lit6 _ _ _ _ _ _ rfl (by first | rfl | exact Z.out.symm | simp) rfl (by decide) (by decide)
  rintro e w3 ⟨s3, rfl, h3, b3⟩
  replace b3 := Below.then (below_new _ _) b3
  replace h1 := h1.below b3
  replace h2 := h2.below b3
  replace X0 := X0.below b3
  clear b3
  go_wp2_with fail
  go_at_call 53
  refine (ordIntsL _ _ [2] 1 rfl _ ?c4).mono ?_
  case c4 => exact lit6 _ _ _ _ _ _ rfl (by first | rfl | exact Z.out.symm | simp) rfl (by decide) (by decide)
  rintro e w4 ⟨s4, rfl, h4, b4⟩
  replace b4 := Below.then (below_new _ _) b4
  replace h1 := h1.below b4
  replace h2 := h2.below b4
  replace h3 := h3.below b4
  replace X0 := X0.below b4
  clear b4
  go_wp2_with fail
  go_at_call 28
  refine (sortedEx _ _ _ (arrs_lit4 _ _ _ _ _ _ _ _ _ _ _ _ _ _ _ _ _ _ _ _ _ _ h1 h2 h3 h4)).mono ?_
  rintro e w5 ⟨sa, sc, rfl, hS, b5⟩
  replace b5 := Below.then (below_new _ _) b5
  replace X0 := X0.below b5
  clear h1 h2 h3 h4 b5
  go_wp2_with fail
  go_at_call 53
  refine (ordIntsL _ _ [1, 2] 2 rfl _ ?c6).mono ?_
  case c6 => exact lit6 _ _ _ _ _ _ rfl (by first | rfl | exact Z.out.symm | simp) rfl (by decide) (by decide)
  rintro e w6 ⟨s6, rfl, h1, b6⟩
  replace b6 := Below.then (below_new _ _) b6
  replace hS := hS.below b6
  replace X0 := X0.below b6
  clear b6
  go_wp2_with fail
  go_at_call 53
  refine (ordIntsL _ _ [1, 2, 0] 3 rfl _ ?c7).mono ?_
  case c7 => exact lit6 _ _ _ _ _ _ rfl (by first | rfl | exact Z.out.symm | simp) rfl (by decide) (by decide)
  rintro e w7 ⟨s7, rfl, h2, b7⟩
  replace b7 := Below.then (below_new _ _) b7
  replace hS := hS.below b7
  replace h1 := h1.below b7
  replace X0 := X0.below b7
  clear b7
  go_wp2_with fail
  go_at_call 54
  refine (cmpEx _ _ _ _ _ _ h1 h2 (rk_flat _ _ _) exV1).mono ?_
  rintro e w8 ⟨rfl, b8⟩
  replace hS := hS.below b8
  replace h1 := h1.below b8
  replace h2 := h2.below b8
  replace X0 := X0.below b8
  clear b8
  clear h1 h2
  go_wp2_with fail
  go_at_call 53
  refine (ordIntsL _ _ [1, 2, 0] 3 rfl _ ?c9).mono ?_
  case c9 => exact lit6 _ _ _ _ _ _ rfl (by first | rfl | exact Z.out.symm | simp) rfl (by decide) (by decide)
  rintro e w9 ⟨s9, rfl, h1, b9⟩
  replace b9 := Below.then (below_new _ _) b9
  replace hS := hS.below b9
  replace X0 := X0.below b9
  clear b9
  go_wp2_with fail
  go_at_call 53
  refine (ordIntsL _ _ [2] 1 rfl _ ?c10).mono ?_
  case c10 => exact lit6 _ _ _ _ _ _ rfl (by first | rfl | exact Z.out.symm | simp) rfl (by decide) (by decide)
  rintro e w10 ⟨s10, rfl, h2, b10⟩
  replace b10 := Below.then (below_new _ _) b10
  replace hS := hS.below b10
  replace h1 := h1.below b10
  replace X0 := X0.below b10
  clear b10
  go_wp2_with fail
  go_at_call 55
  refine (lessEx _ _ _ _ _ h1 h2 (rk_flat _ _ _) exV2).mono ?_
  rintro e w11 ⟨rfl, b11⟩
  replace hS := hS.below b11
  replace h1 := h1.below b11
  replace h2 := h2.below b11
  replace X0 := X0.below b11
  clear b11
  clear h1 h2
  obtain ⟨x0, x1, x2, x3, -⟩ := X0.qA.cells
  obtain ⟨y0, y1, y2, y3, -⟩ := X0.qB.cells
  go_wp2_with fail
  clear x0 x1 x2 x3 y0 y1 y2 y3
  go_at_call 54
  refine (cmpEx _ _ _ _ _ _ X0.aA X0.aB (rk_flat _ _ _) exAB).mono ?_
  rintro e w12 ⟨rfl, b12⟩
  replace hS := hS.below b12
  replace X0 := X0.below b12
  clear b12
  obtain ⟨x0, x1, x2, x3, -⟩ := X0.qA.cells
  obtain ⟨y0, y1, y2, y3, -⟩ := X0.qC.cells
  go_wp2_with fail
  clear x0 x1 x2 x3 y0 y1 y2 y3
  go_at_call 54
  refine (cmpEx _ _ _ _ _ _ X0.aA X0.aC (rk_flat _ _ _) exAC).mono ?_
  rintro e w13 ⟨rfl, b13⟩
  replace hS := hS.below b13
  replace X0 := X0.below b13
  clear b13
  obtain ⟨x0, x1, x2, x3, -⟩ := X0.qD.cells
  obtain ⟨y0, y1, y2, y3, -⟩ := X0.qE.cells
  go_wp2_with fail
  clear x0 x1 x2 x3 y0 y1 y2 y3
  go_at_call 54
  refine (cmpEx _ _ _ _ _ _ X0.aD X0.aE (rk_flat _ _ _) exDE).mono ?_
  rintro e w14 ⟨rfl, b14⟩
  replace hS := hS.below b14
  replace X0 := X0.below b14
  clear b14
  obtain ⟨p0, o0, f0, g0⟩ := hS.spot6 (k := 0) (by decide) 4 rfl 0 rfl 2 rfl
  obtain ⟨p1, o1, f1, g1⟩ := hS.spot6 (k := 1) (by decide) 4 rfl 1 rfl 1 rfl
  obtain ⟨p2, o2, f2, g2⟩ := hS.spot6 (k := 2) (by decide) 4 rfl 2 rfl 0 rfl
  obtain ⟨p3, o3, f3, g3⟩ := hS.spot6 (k := 3) (by decide) 4 rfl 3 rfl 3 rfl
  have low := X0.low
  clear X0 hS
  go_wp2_with fail
  go_ret
  exact ⟨rfl, low⟩
end Go.Proofs.Ytkjbccodahleoaa.Shape
