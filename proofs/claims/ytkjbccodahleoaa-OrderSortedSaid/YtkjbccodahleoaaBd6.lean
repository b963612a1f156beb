/-
  Layer 6: the library's insertion sort of numbers in an own block.
  Layer 6: sorting lists of numbers: exchanging, rotating, insertion, merging, blocks, as functions on lists and what they leave.
-/
import Derived.Test.YtkjbccodahleoaaBd5
import Derived.OwnWalk
import Derived.Deep.RegionHeld3
import Derived.RegionTactic
import Derived.ChangeAlike
import Derived.Handy
namespace Go.Proofs.Ytkjbccodahleoaa.Shape
open Go.RowKit
set_option linter.unusedVariables false

/-- Block G holds the numbers xs, and may be written. -/
def Nats (w : World) (G : Nat) (xs : List Nat) : Prop := w.heap[G]? = some (.cells (xs.map fun x : Nat => Value.int .i64 (x : Int)).toArray 3 (0, 0))
theorem Nats.cell {w : World} {G : Nat} {xs : List Nat} (h : Nats w G xs) {j : Nat} (hj : j < xs.length) : w.cell? ⟨G, j, none⟩ = some (.int .i64 (xs[j] : Int)) := by
  unfold Nats at h
  simp [World.cell?, h, hj]
theorem Nats.free {w : World} {G : Nat} {xs : List Nat} (h : Nats w G xs) (j : Nat) : w.frozen? ⟨G, j, none⟩ = false := by
  unfold Nats at h
  simp [World.frozen?, h]
theorem Nats.lt {w : World} {G : Nat} {xs : List Nat} (h : Nats w G xs) : G < w.heap.size := (Array.getElem?_eq_some_iff.1 h).1
theorem Nats.below {w w' : World} {G : Nat} {xs : List Nat} (h : Nats w G xs) (hb : Below w.heap.size w w') : Nats w' G xs := (hb.block G h.lt).trans h
theorem Nats.set {w : World} {G : Nat} {xs : List Nat} (h : Nats w G xs) {j : Nat} (hj : j < xs.length) (x : Nat) : Nats (w.setCell ⟨G, j, none⟩ (.int .i64 (x : Int))) G (xs.set j x) := by
  unfold Nats at h ⊢
  have hlt : G < w.heap.size := (Array.getElem?_eq_some_iff.1 h).1
  simp only [World.setCell]
  rw [Array.getElem?_modify, if_pos rfl, h]
  simp
theorem elem_nat (w' : World) (G n cap j : Nat) (hj : j < n) : (Instr.indexAt 23 (.slice (some ⟨G, 0, none⟩) n cap) (.int .i64 (j : Int))).run Try.prog w' = .ok (.pointer (some ⟨G, j, none⟩)) w' := by
  rw [run_indexAt_slice w' _ _ _ _ .i64 j elemInts, if_pos (by omega), sizeInts]
  show Result.ok _ w' = _
  rw [show ((j : Int).toNat * 1) = j by omega, add_plain, Nat.zero_add]

/-! ### On lists -/
def swp (ys : List Nat) (j : Nat) : List Nat := (ys.set j (ys.getD (j - 1) 0)).set (j - 1) (ys.getD j 0)
def sink (c : Nat → Nat → Int) (a : Nat) : Nat → List Nat → List Nat
  | 0, ys => ys
  | j + 1, ys => if a < j + 1 ∧ c (ys.getD (j + 1) 0) (ys.getD j 0) < 0 then sink c a j (swp ys (j + 1)) else ys
def insF (c : Nat → Nat → Int) (a : Nat) : Nat → Nat → List Nat → List Nat
  | 0, _, ys => ys
  | m + 1, i, ys => insF c a m (i + 1) (sink c a i ys)
theorem swp_len (ys : List Nat) (j : Nat) : (swp ys j).length = ys.length := by simp [swp]
theorem swp_lt {ys : List Nat} {N : Nat} (h : ∀ x ∈ ys, x < N) {j : Nat} (hj : j < ys.length) : ∀ x ∈ swp ys j, x < N := by
  intro x hx
  unfold swp at hx
  have g : ∀ k, k < ys.length → ys.getD k 0 < N := fun k hk => by
    rw [List.getD_eq_getElem?_getD]; simp [hk]; exact h _ (List.getElem_mem hk)
  rcases List.mem_or_eq_of_mem_set hx with h1 | rfl
  · rcases List.mem_or_eq_of_mem_set h1 with h2 | rfl
    · exact h x h2
    · exact g _ (by omega)
  · exact g _ hj
theorem sink_len (c : Nat → Nat → Int) (a : Nat) : ∀ (j : Nat) (ys : List Nat), (sink c a j ys).length = ys.length
  | 0, ys => rfl
  | j + 1, ys => by
    rw [sink]; split
    · rw [sink_len c a j, swp_len]
    · rfl
theorem sink_lt (c : Nat → Nat → Int) (a : Nat) {N : Nat} : ∀ (j : Nat) (ys : List Nat), j < ys.length → (∀ x ∈ ys, x < N) → ∀ x ∈ sink c a j ys, x < N
  | 0, ys, _, h => h
  | j + 1, ys, hj, h => by
    rw [sink]; split
    · exact sink_lt c a j _ (by rw [swp_len]; omega) (swp_lt h hj)
    · exact h
theorem getD_lt {ys : List Nat} {N : Nat} (h : ∀ x ∈ ys, x < N) {k : Nat} (hk : k < ys.length) : ys.getD k 0 < N := by
  rw [List.getD_eq_getElem?_getD]; simp [hk]; exact h _ (List.getElem_mem hk)
theorem Nats.cellD {w : World} {G : Nat} {xs : List Nat} (h : Nats w G xs) {j : Nat} (hj : j < xs.length) : w.cell? ⟨G, j, none⟩ = some (.int .i64 (xs.getD j 0 : Nat)) := by
  rw [h.cell hj, List.getD_eq_getElem?_getD]; simp [hj]

set_option maxRecDepth 100000 in
set_option maxHeartbeats 2000000 in
theorem insSort (c : Nat → Nat → Int) (N B G n cap a b : Nat) (w0 : World) (la : Option Addr) (ln lc : Nat) (hB : B ≤ G) (hn : n ≤ 1000) (hb : b ≤ n)
    (HC : ∀ (w' : World) (x y : Nat), Below B w0 w' → x < N → y < N → Calls Try.prog 57 #[.slice la ln lc, .int .i64 (x : Int), .int .i64 (y : Int)] w' fun e w2 => e = .returned (.int .i64 (c x y)) ∧ Below w'.heap.size w' w2)
    (xs : List Nat) (hx : xs.length = n) (hN : ∀ x ∈ xs, x < N) (ha : a ≤ 1000000) (w : World) (hw : Below B w0 w) (hG : Nats w G xs) :
    Calls Try.prog 92 #[.slice (some ⟨G, 0, none⟩) n cap, .int .i64 (a : Int), .int .i64 (b : Int), .func (.func 57) #[.slice la ln lc] #[]] w
      fun e w' => e = .returned (.tuple #[]) ∧ Nats w' G (insF c a (b - (a + 1)) (a + 1) xs) ∧ Below B w0 w' := by
  obtain ⟨T, hT⟩ : ∃ T, Hid (insF c a (b - (a + 1)) (a + 1) xs = T) := ⟨_, rfl⟩
  rw [hT.out]
  go_enter Try.func92, Try.ntmps92
  go_wp2_with fail
  go_loopw [8] (fun v wr => ∃ (i : Nat) (ys : List Nat), v = .int .i64 i ∧ a + 1 ≤ i ∧ i ≤ 1000001 ∧ Hid (ys.length = n) ∧ Hid (∀ x ∈ ys, x < N) ∧ Hid (insF c a (b - i) i ys = T) ∧ Nats wr G ys ∧ Below B w0 wr) (fun v _ => b - (intOf v).toNat)
  case atStart => exact ⟨a + 1, xs, by go_num, Nat.le_refl _, by omega, hx, hN, hT, hG, hw⟩
  case round =>
    obtain ⟨i, ys, rfl, hi1, hi2, hy, hyN, hI, hGr, hbr⟩ := hrel
    by_cases hlt : i < b
    · go_wp2_with fail
      obtain ⟨S, hS⟩ : ∃ S, Hid (sink c a i ys = S) := ⟨_, rfl⟩
      obtain ⟨wo, hwo⟩ : ∃ wo : World, Hid (wo = wr) := ⟨_, rfl⟩
      go_loopw [9] (fun v wx => ∃ (j : Nat) (zs : List Nat), v = .int .i64 j ∧ j ≤ i ∧ Hid (zs.length = n) ∧ Hid (∀ x ∈ zs, x < N) ∧ Hid (sink c a j zs = S) ∧ Nats wx G zs ∧ Below B w0 wx) (fun v _ => (intOf v).toNat)
      case atStart => exact ⟨i, ys, rfl, Nat.le_refl _, hy, hyN, hS, hGr, hbr⟩
      case round =>
        obtain ⟨j, zs, rfl, hji, hz, hzN, hSS, hGx, hbx⟩ := hrel
        by_cases haj : a < j
        · have hj1 : j < zs.length := by rw [hz.out]; omega
          have k1 := hGx.cellD hj1
          have k2 := hGx.cellD (j := j - 1) (by omega)
          have HC1 := fun w' (g : Below B w0 w') => HC w' (zs.getD j 0) (zs.getD (j - 1) 0) g (getD_lt hzN.out hj1) (getD_lt hzN.out (by omega))
          obtain ⟨x, hxx⟩ : ∃ x, zs.getD j 0 = x := ⟨_, rfl⟩
          obtain ⟨y, hyy⟩ : ∃ y, zs.getD (j - 1) 0 = y := ⟨_, rfl⟩
          rw [hxx, hyy] at HC1
          rw [hxx] at k1
          rw [hyy] at k2
          have e1 : ((j - 1 : Nat) : Int) = (j : Int) - 1 := by omega
          have ix := fun w' => elem_nat w' G n cap j (by have := hz.out; omega)
          have iy := fun w' => elem_nat w' G n cap (j - 1) (by have := hz.out; omega)
          rw [e1] at iy
          have H0 : ∀ w', Below wr.heap.size wr w' → w'.cell? ⟨G, j, none⟩ = some (.int .i64 (x : Int)) ∧ w'.cell? ⟨G, j - 1, none⟩ = some (.int .i64 (y : Int)) ∧ Below wr.heap.size wr w' := fun w' g => ⟨(g.cell (cell_lt k1)).trans k1, (g.cell (cell_lt k2)).trans k2, g⟩
          have W1 : IntKind.i64.wrap ((j : Int) - 1) = (j : Int) - 1 := by rw [IntWalk.i64_left]; exact IntWalk.wrap64_in _ (by omega)
          by_cases hcx : c x y < 0
          · have SS : Hid (sink c a (j - 1) (swp zs j) = S) := by
              have := hSS.out
              rw [show j = (j - 1) + 1 by omega, sink, show (j - 1) + 1 = j by omega, hxx, hyy, if_pos ⟨haj, hcx⟩] at this
              exact this
            go_wp2_with fail
            go_region_held3 (fun w' => w'.cell? ⟨G, j, none⟩ = some (.int .i64 (x : Int)) ∧ w'.cell? ⟨G, j - 1, none⟩ = some (.int .i64 (y : Int)) ∧ Below wr.heap.size wr w') (exact H0 _ (by go_grown))
              ((go_at_call 57; (with_reducible refine (HC1 _ (by first | exact hbx.drew | exact hbx)).mono ?_); rintro e w1 ⟨rfl, b1⟩; (have e1 : Below wr.heap.size wr w1 := Below.then (by go_grown) b1); (have S1 := e1.size)))
            go_wp2_with fail
            have G1 := hGx.below e1
            have g1 : w1.cell? ⟨G, j, none⟩ = some (.int .i64 (x : Int)) := (e1.cell (cell_lt k1)).trans k1
            have g2 : w1.cell? ⟨G, j - 1, none⟩ = some (.int .i64 (y : Int)) := (e1.cell (cell_lt k2)).trans k2
            have f1 := G1.free j
            have f2 := G1.free (j - 1)
            have B1 : Below B w0 w1 := hbx.trans (e1.mono (by have := hGx.lt; omega))
            clear H0 HC HC1 k1 k2 e1 b1 S1
            go_region
            go_wp2_with fail
            go_roundw
            case rel =>
              have e2 : swp zs j = (zs.set j y).set (j - 1) x := by unfold swp; rw [hxx, hyy]
              refine ⟨j - 1, swp zs j, by go_num, by omega, by unfold Hid; rw [swp_len]; exact hz.out, swp_lt hzN.out hj1, SS, ?_, ((B1.setCell hB _).setCell hB _).drew⟩
              rw [e2]
              exact (G1.set hj1 y).set (by simp; omega) x
            case measure => simp [intOf]; omega
          · have SS : Hid (zs = S) := by
              have := hSS.out
              rw [show j = (j - 1) + 1 by omega, sink, show (j - 1) + 1 = j by omega, hxx, hyy, if_neg (fun g => hcx g.2)] at this
              exact this
            go_wp2_with fail
            go_region_held3 (fun w' => w'.cell? ⟨G, j, none⟩ = some (.int .i64 (x : Int)) ∧ w'.cell? ⟨G, j - 1, none⟩ = some (.int .i64 (y : Int)) ∧ Below wr.heap.size wr w') (exact H0 _ (by go_grown))
              ((go_at_call 57; (with_reducible refine (HC1 _ (by first | exact hbx.drew | exact hbx)).mono ?_); rintro e w1 ⟨rfl, b1⟩; (have e1 : Below wr.heap.size wr w1 := Below.then (by go_grown) b1); (have S1 := e1.size)))
            have G1 := hGx.below e1
            have B1 : Below B w0 w1 := hbx.trans (e1.mono (by have := hGx.lt; omega))
            have I2 : Hid (insF c a (b - (i + 1)) (i + 1) zs = T) := by
              have := hI.out
              rw [show b - i = (b - (i + 1)) + 1 by omega, insF, hS.out, ← SS.out] at this
              exact this
            clear H0 HC HC1 k1 k2 e1 b1 S1
            go_wp2_with fail
            go_roundw
            case rel => exact ⟨i + 1, zs, by go_num, by omega, by omega, hz, hzN, I2, G1, B1⟩
            case measure => simp [intOf]; omega
        · have SS : Hid (zs = S) := by
            have := hSS.out
            cases j with
            | zero => exact this
            | succ j =>
              rw [sink, if_neg (fun g => haj g.1)] at this
              exact this
          have I2 : Hid (insF c a (b - (i + 1)) (i + 1) zs = T) := by
            have := hI.out
            rw [show b - i = (b - (i + 1)) + 1 by omega, insF, hS.out, ← SS.out] at this
            exact this
          have dj : decide ((a : Int) < (j : Int)) = false := decide_eq_false (by omega)
          clear HC hSS hI hS
          go_wp2_with fail
          go_quiet (fail)
          go_wp2_with fail
          go_roundw
          case rel => exact ⟨i + 1, zs, by go_num, by omega, by omega, hz, hzN, I2, hGx, hbx.trans ((Shape.below_drewN _).mono (by have := hGx.lt; omega))⟩
          case measure => simp [intOf]; omega
    · have I2 : T = ys := by
        have := hI.out
        rw [show b - i = 0 by omega, insF] at this
        exact this.symm
      subst I2
      clear hI HC
      go_wp2_with fail
      first | go_end0 | refine bodyPost_ret (results_none rfl _ _ _) rfl ?_
      exact ⟨rfl, hGr, hbr⟩
end Go.Proofs.Ytkjbccodahleoaa.Shape

namespace Go.Proofs.Ytkjbccodahleoaa.Shape
set_option linter.unusedVariables false

/-- An order of arrays by number: equal ones by their numbers. -/
structure Ord3 (c : Nat → Nat → Int) : Prop where
  asym : ∀ x y, c x y < 0 → ¬ c y x < 0
  trans : ∀ x y z, ¬ c y x < 0 → ¬ c z y < 0 → ¬ c z x < 0
def pre (c : Nat → Nat → Int) (x y : Nat) : Prop := c x y < 0 ∨ (¬ c y x < 0 ∧ x < y)
theorem pre_le {c : Nat → Nat → Int} (o : Ord3 c) {x y : Nat} (h : pre c x y) : ¬ c y x < 0 := by
  rcases h with h | h
  · exact o.asym _ _ h
  · exact h.1
theorem lt_le {c : Nat → Nat → Int} (o : Ord3 c) {x y z : Nat} (h : c x y < 0) (g : ¬ c z y < 0) : c x z < 0 := by
  apply Classical.byContradiction
  intro e
  exact o.trans y z x g e h
theorem le_lt {c : Nat → Nat → Int} (o : Ord3 c) {x y z : Nat} (h : ¬ c y x < 0) (g : c y z < 0) : c x z < 0 := by
  apply Classical.byContradiction
  intro e
  exact o.trans z x y e h g
theorem pre_trans {c : Nat → Nat → Int} (o : Ord3 c) {x y z : Nat} (h : pre c x y) (g : pre c y z) : pre c x z := by
  have h0 := pre_le o h
  have g0 := pre_le o g
  rcases h with h | h
  · exact Or.inl (lt_le o h g0)
  · rcases g with g | g
    · exact Or.inl (le_lt o h0 g)
    · exact Or.inr ⟨o.trans x y z h0 g0, by omega⟩
theorem pre_irr {c : Nat → Nat → Int} (o : Ord3 c) {x y : Nat} (h : pre c x y) (g : pre c y x) : False := by
  have h0 := pre_le o h
  have g0 := pre_le o g
  rcases h with h | h
  · exact g0 h
  · rcases g with g | g
    · exact h0 g
    · omega
/-- Two sorted lists of the same numbers are one. -/
theorem sorted_eq {c : Nat → Nat → Int} (o : Ord3 c) : ∀ {a b : List Nat}, a.Perm b → a.Pairwise (pre c) → b.Pairwise (pre c) → a = b
  | [], b, h, _, _ => by
    have := h.length_eq
    exact (List.eq_nil_of_length_eq_zero (by simpa using this.symm)).symm
  | x :: a, [], h, _, _ => by
    have := h.length_eq
    simp at this
  | x :: a, y :: b, h, ha, hb => by
    rw [List.pairwise_cons] at ha hb
    have e : x = y := by
      have hx : x ∈ y :: b := h.mem_iff.1 (by simp)
      have hy : y ∈ x :: a := h.mem_iff.2 (by simp)
      rcases List.mem_cons.1 hx with e | hx
      · exact e
      · rcases List.mem_cons.1 hy with e | hy
        · exact e.symm
        · exact (pre_irr o (ha.1 y hy) (hb.1 x hx)).elim
    subst e
    rw [sorted_eq o (List.Perm.cons_inv h) ha.2 hb.2]
/-! ### Exchanging -/
def sw (ys : List Nat) (i j : Nat) : List Nat := (ys.set i (ys.getD j 0)).set j (ys.getD i 0)
theorem sw_len (ys : List Nat) (i j : Nat) : (sw ys i j).length = ys.length := by simp [sw]
theorem getD_app (P : List Nat) (x : Nat) (S : List Nat) : (P ++ x :: S).getD P.length 0 = x := by
  rw [List.getD_eq_getElem?_getD, List.getElem?_append_right (Nat.le_refl _)]; simp
theorem set_app (P : List Nat) (x y : Nat) (S : List Nat) : (P ++ x :: S).set P.length y = P ++ y :: S := by
  rw [List.set_append_right _ _ (Nat.le_refl _)]; simp
theorem sw_app (P M S : List Nat) (x y : Nat) : sw (P ++ x :: (M ++ y :: S)) P.length (P.length + 1 + M.length) = P ++ y :: (M ++ x :: S) := by
  have e1 : (P ++ x :: (M ++ y :: S)).getD P.length 0 = x := getD_app _ _ _
  have e2 : (P ++ x :: (M ++ y :: S)).getD (P.length + 1 + M.length) 0 = y := by
    have := getD_app (P ++ x :: M) y S
    simp only [List.length_append, List.length_cons, List.append_assoc, List.cons_append] at this
    rw [show P.length + (M.length + 1) = P.length + 1 + M.length by omega] at this
    exact this
  unfold sw
  rw [e1, e2, set_app]
  have := set_app (P ++ y :: M) y x S
  simp only [List.length_append, List.length_cons, List.append_assoc, List.cons_append] at this
  rw [show P.length + (M.length + 1) = P.length + 1 + M.length by omega] at this
  exact this
/-- Exchanging upwards. -/
def upF : Nat → Nat → List Nat → List Nat
  | 0, _, ys => ys
  | n + 1, k, ys => upF n (k + 1) (sw ys k (k + 1))
theorem up_app (x : Nat) (R : List Nat) : ∀ (B P : List Nat), upF B.length P.length (P ++ x :: (B ++ R)) = P ++ (B ++ x :: R)
  | [], P => rfl
  | b :: B, P => by
    have h := sw_app P [] (B ++ R) x b
    simp only [List.nil_append, List.length_nil, Nat.add_zero] at h
    rw [List.length_cons, upF, List.cons_append, h]
    have := up_app x R B (P ++ [b])
    simp only [List.length_append, List.length_cons, List.length_nil, List.append_assoc, List.cons_append, List.nil_append, Nat.zero_add] at this
    exact this
/-- Exchanging downwards. -/
def dnF : Nat → Nat → List Nat → List Nat
  | 0, _, ys => ys
  | n + 1, k, ys => dnF n (k - 1) (sw ys k (k - 1))
theorem sw_comm (ys : List Nat) (i j : Nat) : sw ys i j = sw ys j i := by
  unfold sw
  by_cases h : i = j
  · subst h; rfl
  · rw [List.set_comm _ _ h]
theorem dn_app (y : Nat) : ∀ (n : Nat) (A P R : List Nat), A.length = n → dnF n (P.length + n) (P ++ (A ++ y :: R)) = P ++ y :: (A ++ R)
  | 0, A, P, R, h => by
    obtain rfl := List.eq_nil_of_length_eq_zero h
    rfl
  | n + 1, A, P, R, h => by
    obtain ⟨A', z, rfl⟩ : ∃ A' z, A = A' ++ [z] := ⟨A.dropLast, A.getLast (by intro e; subst e; simp at h), (List.dropLast_concat_getLast _).symm⟩
    have hl : A'.length = n := by simpa using h
    have hs := sw_app (P ++ A') [] R z y
    simp only [List.nil_append, List.length_nil, Nat.add_zero, List.length_append, List.append_assoc] at hs
    rw [dnF, sw_comm, show P.length + (n + 1) - 1 = P.length + A'.length by omega, show P.length + (n + 1) = P.length + A'.length + 1 by omega]
    simp only [List.append_assoc, List.cons_append, List.nil_append]
    rw [hs, hl]
    have := dn_app y n A' P (z :: R) hl
    exact this
/-- Exchanging two rows. -/
def swrF : Nat → Nat → Nat → List Nat → List Nat
  | 0, _, _, ys => ys
  | n + 1, a, b, ys => swrF n (a + 1) (b + 1) (sw ys a b)
theorem swr_app : ∀ (X Y P M S : List Nat), X.length = Y.length → swrF X.length P.length (P.length + X.length + M.length) (P ++ (X ++ (M ++ (Y ++ S)))) = P ++ (Y ++ (M ++ (X ++ S)))
  | [], Y, P, M, S, h => by
    obtain rfl := List.eq_nil_of_length_eq_zero h.symm
    rfl
  | x :: X, [], P, M, S, h => by simp at h
  | x :: X, y :: Y, P, M, S, h => by
    have hl : X.length = Y.length := by simpa using h
    have hs := sw_app P (X ++ M) (Y ++ S) x y
    have ih := swr_app X Y (P ++ [y]) (M ++ [x]) S hl
    simp only [List.length_append, List.length_cons, List.length_nil, List.append_assoc, List.cons_append, List.nil_append, Nat.zero_add] at hs ih ⊢
    rw [swrF]
    rw [show P.length + (X.length + 1) + M.length = P.length + 1 + (X.length + M.length) by omega, hs]
    rw [show P.length + 1 + (X.length + M.length) + 1 = P.length + 1 + X.length + (M.length + 1) by omega]
    exact ih
/-- Rotating. -/
def rotF : Nat → Nat → Nat → Nat → List Nat → List Nat
  | 0, _, _, _, ys => ys
  | f + 1, m, i, j, ys => if i = j then swrF i (m - i) m ys else if j < i then rotF f m (i - j) j (swrF j (m - i) m ys) else rotF f m i (j - i) (swrF i (m - i) (m + j - i) ys)
theorem rot_app : ∀ (f : Nat) (X Y P S : List Nat), X.length + Y.length ≤ f → 0 < X.length → 0 < Y.length → rotF f (P.length + X.length) X.length Y.length (P ++ (X ++ (Y ++ S))) = P ++ (Y ++ (X ++ S))
  | 0, X, Y, P, S, h, hx, _ => by omega
  | f + 1, X, Y, P, S, h, hx, hy => by
    rw [rotF]
    by_cases e : X.length = Y.length
    · rw [if_pos e]
      have := swr_app X Y P [] S e
      simp only [List.nil_append, List.length_nil, Nat.add_zero] at this
      rw [show P.length + X.length - X.length = P.length by omega]
      exact this
    · rw [if_neg e]
      by_cases g : Y.length < X.length
      · rw [if_pos g]
        obtain ⟨X1, X2, rfl, hX⟩ : ∃ X1 X2, X = X1 ++ X2 ∧ X1.length = Y.length := ⟨X.take Y.length, X.drop Y.length, (List.take_append_drop _ _).symm, by simp; omega⟩
        have hs := swr_app X1 Y P X2 S hX
        have ih := rot_app f X2 X1 (P ++ Y) S (by simp only [List.length_append] at h; omega) (by simp only [List.length_append] at g; omega) (by omega)
        simp only [List.length_append, List.append_assoc] at hs ih ⊢
        rw [show P.length + (X1.length + X2.length) - (X1.length + X2.length) = P.length by omega]
        rw [← hX, show X1.length + X2.length - X1.length = X2.length by omega, show P.length + (X1.length + X2.length) = P.length + X1.length + X2.length by omega, hs]
        rw [hX, ← hX, show P.length + X1.length + X2.length = P.length + Y.length + X2.length by omega]
        exact ih
      · rw [if_neg g]
        obtain ⟨Y1, Y2, rfl, hY⟩ : ∃ Y1 Y2, Y = Y1 ++ Y2 ∧ Y2.length = X.length := ⟨Y.take (Y.length - X.length), Y.drop (Y.length - X.length), (List.take_append_drop _ _).symm, by simp; omega⟩
        have hs := swr_app X Y2 P Y1 S hY.symm
        have ih := rot_app f Y2 Y1 P (X ++ S) (by simp only [List.length_append] at h; omega) (by omega) (by simp only [List.length_append] at e g; omega)
        simp only [List.length_append, List.append_assoc] at hs ih ⊢
        rw [show P.length + X.length - X.length = P.length by omega, show P.length + X.length + (Y1.length + Y2.length) - X.length = P.length + X.length + Y1.length by omega, hs]
        rw [show Y1.length + Y2.length - X.length = Y1.length by omega, ← hY]
        exact ih
/-! ### Insertion -/
/-- What a segment holds behind sorting: the same numbers, in order. -/
structure Srt (c : Nat → Nat → Int) (A C : List Nat) : Prop where
  perm : C.Perm A
  sort : C.Pairwise (pre c)
theorem sink_srt {c : Nat → Nat → Int} (o : Ord3 c) (x : Nat) : ∀ (n : Nat) (A P S : List Nat), A.length = n → A.Pairwise (pre c) → (∀ y ∈ A, y < x) →
    ∃ C, sink c P.length (P.length + n) (P ++ (A ++ x :: S)) = P ++ (C ++ S) ∧ Srt c (A ++ [x]) C
  | 0, A, P, S, h, hs, hx => by
    obtain rfl := List.eq_nil_of_length_eq_zero h
    refine ⟨[x], ?_, ⟨List.Perm.refl _, by simp⟩⟩
    rw [Nat.add_zero]
    cases hP : P.length with
    | zero => rfl
    | succ k => rw [sink, if_neg (fun g => by omega)]; simp
  | n + 1, A, P, S, h, hs, hx => by
    obtain ⟨A', z, rfl⟩ : ∃ A' z, A = A' ++ [z] := ⟨A.dropLast, A.getLast (by intro e; subst e; simp at h), (List.dropLast_concat_getLast _).symm⟩
    have hl : A'.length = n := by simpa using h
    rw [List.pairwise_append] at hs
    have e1 : (P ++ (A' ++ [z] ++ x :: S)).getD (P.length + n + 1) 0 = x := by
      have := getD_app (P ++ (A' ++ [z])) x S
      simp only [List.length_append, List.length_cons, List.length_nil, List.append_assoc, List.cons_append, List.nil_append] at this ⊢
      rw [hl] at this
      exact this
    have e2 : (P ++ (A' ++ [z] ++ x :: S)).getD (P.length + n) 0 = z := by
      have := getD_app (P ++ A') z (x :: S)
      simp only [List.length_append, List.append_assoc, List.cons_append, List.nil_append] at this ⊢
      rw [hl] at this
      exact this
    rw [show P.length + (n + 1) = (P.length + n) + 1 by omega, sink, e1, e2]
    by_cases q : c x z < 0
    · rw [if_pos ⟨by omega, q⟩]
      have hw : swp (P ++ (A' ++ [z] ++ x :: S)) (P.length + n + 1) = P ++ (A' ++ x :: z :: S) := by
        have hs := sw_app (P ++ A') [] S z x
        simp only [List.nil_append, List.length_nil, Nat.add_zero, List.length_append, List.append_assoc] at hs
        have e : swp (P ++ (A' ++ [z] ++ x :: S)) (P.length + n + 1) = sw (P ++ (A' ++ [z] ++ x :: S)) (P.length + n + 1) (P.length + n) := rfl
        rw [e, sw_comm, ← hl]
        simp only [List.append_assoc, List.cons_append, List.nil_append]
        exact hs
      rw [hw]
      obtain ⟨C, hC, hq⟩ := sink_srt o x n A' P (z :: S) hl hs.1 (fun y hy => hx y (by simp [hy]))
      refine ⟨C ++ [z], by rw [hC]; simp, ⟨?_, ?_⟩⟩
      · refine (hq.perm.append_right [z]).trans ?_
        simp only [List.append_assoc]
        exact List.Perm.append_left _ (List.perm_append_comm)
      · rw [List.pairwise_append]
        refine ⟨hq.sort, by simp, fun y hy w hw => ?_⟩
        obtain rfl : w = z := by simpa using hw
        rcases List.mem_append.1 (hq.perm.mem_iff.1 hy) with g | g
        · exact hs.2.2 y g w (by simp)
        · obtain rfl : y = x := by simpa using g
          exact Or.inl q
    · rw [if_neg (fun g => q g.2)]
      refine ⟨A' ++ [z] ++ [x], by simp, ⟨List.Perm.refl _, ?_⟩⟩
      rw [List.pairwise_append]
      refine ⟨by rw [List.pairwise_append]; exact hs, by simp, fun y hy w hw => ?_⟩
      obtain rfl : w = x := by simpa using hw
      have hz : ¬ c w z < 0 := q
      rcases List.mem_append.1 hy with g | g
      · exact Or.inr ⟨o.trans y z w (pre_le o (hs.2.2 y g z (by simp))) hz, hx y (by simp [g])⟩
      · obtain rfl : y = z := by simpa using g
        exact Or.inr ⟨hz, hx y (by simp)⟩
theorem insF_srt {c : Nat → Nat → Int} (o : Ord3 c) : ∀ (B A P S : List Nat), A.Pairwise (pre c) → (A ++ B).Pairwise (· < ·) ∨ (∀ x ∈ A, ∀ y ∈ B, x < y) ∧ B.Pairwise (· < ·) →
    ∃ C, insF c P.length B.length (P.length + A.length) (P ++ (A ++ (B ++ S))) = P ++ (C ++ S) ∧ Srt c (A ++ B) C
  | [], A, P, S, hs, hx => ⟨A, rfl, ⟨by simp, hs⟩⟩
  | x :: B, A, P, S, hs, hx => by
    have hx : (∀ x' ∈ A, ∀ y ∈ x :: B, x' < y) ∧ (x :: B).Pairwise (· < ·) := by
      rcases hx with h | h
      · rw [List.pairwise_append] at h; exact ⟨h.2.2, h.2.1⟩
      · exact h
    obtain ⟨C, hC, hq⟩ := sink_srt o x A.length A P (B ++ S) rfl hs (fun y hy => hx.1 y hy x (by simp))
    rw [List.length_cons, insF, List.cons_append, hC]
    have hl : C.length = A.length + 1 := by have := hq.perm.length_eq; simpa using this
    obtain ⟨D, hD, hr⟩ := insF_srt o B C P S hq.sort (Or.inr ⟨fun a ha y hy => by
      rcases List.mem_append.1 (hq.perm.mem_iff.1 ha) with g | g
      · exact hx.1 a g y (by simp [hy])
      · obtain rfl : a = x := by simpa using g
        exact (List.pairwise_cons.1 hx.2).1 y hy, (List.pairwise_cons.1 hx.2).2⟩)
    rw [hl] at hD
    refine ⟨D, by rw [← hD]; rfl, ⟨hr.perm.trans ?_, hr.sort⟩⟩
    refine (hq.perm.append_right B).trans ?_
    simp
/-! ### Merging -/
/-- Two runs that stand one behind the other: each in order, and all numbers of the first below those of the second. -/
structure Runs (c : Nat → Nat → Int) (A B : List Nat) : Prop where
  a : A.Pairwise (pre c)
  b : B.Pairwise (pre c)
  lt : ∀ x ∈ A, ∀ y ∈ B, x < y
theorem Runs.sub {c : Nat → Nat → Int} {A1 A2 B1 B2 : List Nat} (h : Runs c (A1 ++ A2) (B1 ++ B2)) : Runs c A1 B1 ∧ Runs c A2 B2 := by
  obtain ⟨ha, hb, hl⟩ := h
  rw [List.pairwise_append] at ha hb
  exact ⟨⟨ha.1, hb.1, fun x hx y hy => hl x (by simp [hx]) y (by simp [hy])⟩, ⟨ha.2.1, hb.2.1, fun x hx y hy => hl x (by simp [hx]) y (by simp [hy])⟩⟩
/-- One number ahead of a run. -/
theorem runs_one {c : Nat → Nat → Int} {x : Nat} {B1 B2 : List Nat} (h : Runs c [x] (B1 ++ B2)) (h1 : ∀ y ∈ B1, c y x < 0) (h2 : ∀ y ∈ B2, ¬ c y x < 0) : Srt c ([x] ++ (B1 ++ B2)) (B1 ++ x :: B2) := by
  refine ⟨List.perm_middle, ?_⟩
  have hb := h.b
  rw [List.pairwise_append] at hb ⊢
  refine ⟨hb.1, List.pairwise_cons.2 ⟨fun y hy => Or.inr ⟨h2 y hy, h.lt x (by simp) y (by simp [hy])⟩, hb.2.1⟩, fun y hy z hz => ?_⟩
  rcases List.mem_cons.1 hz with rfl | hz
  · exact Or.inl (h1 y hy)
  · exact hb.2.2 y hy z hz
/-- One number behind a run. -/
theorem one_runs {c : Nat → Nat → Int} {y : Nat} {A1 A2 : List Nat} (h : Runs c (A1 ++ A2) [y]) (h1 : ∀ x ∈ A1, ¬ c y x < 0) (h2 : ∀ x ∈ A2, c y x < 0) : Srt c (A1 ++ A2 ++ [y]) (A1 ++ y :: A2) := by
  refine ⟨?_, ?_⟩
  · rw [List.append_assoc]
    exact List.Perm.append_left _ (List.perm_append_comm (l₁ := [y]) (l₂ := A2))
  · have ha := h.a
    rw [List.pairwise_append] at ha ⊢
    refine ⟨ha.1, List.pairwise_cons.2 ⟨fun x hx => Or.inl (h2 x hx), ha.2.1⟩, fun x hx z hz => ?_⟩
    rcases List.mem_cons.1 hz with rfl | hz
    · exact Or.inr ⟨h1 x hx, h.lt x (by simp [hx]) z (by simp)⟩
    · exact ha.2.2 x hx z hz
/-- The two halves that are merged apart. -/
theorem runs_halves {c : Nat → Nat → Int} (o : Ord3 c) {A1 A2 B1 B2 C1 C2 : List Nat} (h : Runs c (A1 ++ A2) (B1 ++ B2)) (h1 : ∀ x ∈ A1, ∀ y ∈ B2, ¬ c y x < 0) (h2 : ∀ y ∈ B1, ∀ x ∈ A2, c y x < 0)
    (s1 : Srt c (A1 ++ B1) C1) (s2 : Srt c (A2 ++ B2) C2) : Srt c (A1 ++ A2 ++ (B1 ++ B2)) (C1 ++ C2) := by
  refine ⟨?_, ?_⟩
  · refine (s1.perm.append s2.perm).trans ?_
    simp only [List.append_assoc]
    refine List.Perm.append_left _ ?_
    rw [← List.append_assoc, ← List.append_assoc]
    exact List.Perm.append_right _ List.perm_append_comm
  · have ha := h.a
    have hb := h.b
    rw [List.pairwise_append] at ha hb
    rw [List.pairwise_append]
    refine ⟨s1.sort, s2.sort, fun x hx y hy => ?_⟩
    have hx := List.mem_append.1 (s1.perm.mem_iff.1 hx)
    have hy := List.mem_append.1 (s2.perm.mem_iff.1 hy)
    rcases hx with hx | hx <;> rcases hy with hy | hy
    · exact ha.2.2 x hx y hy
    · exact Or.inr ⟨h1 x hx y hy, h.lt x (by simp [hx]) y (by simp [hy])⟩
    · exact Or.inl (h2 x hx y hy)
    · exact hb.2.2 x hx y hy
theorem le_before {c : Nat → Nat → Int} (o : Ord3 c) {A : List Nat} (h : A.Pairwise (pre c)) {i j : Nat} (hi : i ≤ j) (hj : j < A.length) : ¬ c A[j] A[i] < 0 := by
  rcases Nat.lt_or_eq_of_le hi with g | g
  · exact pre_le o (List.pairwise_iff_getElem.1 h i j (by omega) hj g)
  · subst g
    intro e
    exact o.asym _ _ e e
/-- The place where the runs part: what the search finds parts them rightly. -/
theorem parted {c : Nat → Nat → Int} (o : Ord3 c) {A B : List Nat} (h : Runs c A B) (s t : Nat) (hs : s ≤ A.length) (ht : t ≤ B.length)
    (q1 : ∀ (hs0 : 0 < s) (ht0 : t < B.length), ¬ c B[t] A[s - 1] < 0) (q2 : ∀ (hs0 : s < A.length) (ht0 : 0 < t), c B[t - 1] A[s] < 0) :
    (∀ x ∈ A.take s, ∀ y ∈ B.drop t, ¬ c y x < 0) ∧ (∀ y ∈ B.take t, ∀ x ∈ A.drop s, c y x < 0) := by
  constructor
  · intro x hx y hy
    obtain ⟨i, hi, rfl⟩ := List.mem_iff_getElem.1 hx
    obtain ⟨j, hj, rfl⟩ := List.mem_iff_getElem.1 hy
    rw [List.length_take] at hi
    rw [List.length_drop] at hj
    rw [List.getElem_take, List.getElem_drop]
    have q := q1 (by omega) (by omega)
    have e1 := le_before o h.a (i := i) (j := s - 1) (by omega) (by omega)
    have e2 := le_before o h.b (i := t) (j := t + j) (by omega) (by omega)
    exact o.trans _ _ _ e1 (o.trans _ _ _ q e2)
  · intro y hy x hx
    obtain ⟨i, hi, rfl⟩ := List.mem_iff_getElem.1 hx
    obtain ⟨j, hj, rfl⟩ := List.mem_iff_getElem.1 hy
    rw [List.length_take] at hj
    rw [List.length_drop] at hi
    rw [List.getElem_take, List.getElem_drop]
    have q := q2 (by omega) (by omega)
    have e1 := le_before o h.a (i := s) (j := s + i) (by omega) (by omega)
    have e2 := le_before o h.b (i := j) (j := t - 1) (by omega) (by omega)
    exact lt_le o (le_lt o e2 q) e1
/-! ### What the searches find -/
theorem runs_search {c : Nat → Nat → Int} (o : Ord3 c) {x : Nat} {B : List Nat} (h : Runs c [x] B) (s : Nat) (hs : s ≤ B.length) (q1 : ∀ h : 0 < s, c (B.getD (s - 1) 0) x < 0) (q2 : s < B.length → ¬ c (B.getD s 0) x < 0) :
    Srt c ([x] ++ B) (B.take s ++ x :: B.drop s) := by
  have hB : B = B.take s ++ B.drop s := (List.take_append_drop s B).symm
  have g : ∀ {k : Nat} (hk : k < B.length), B.getD k 0 = B[k] := fun hk => by rw [List.getD_eq_getElem?_getD]; simp [hk]
  have := runs_one (c := c) (x := x) (B1 := B.take s) (B2 := B.drop s) (by rw [← hB]; exact h) (fun y hy => by
    obtain ⟨i, hi, rfl⟩ := List.mem_iff_getElem.1 hy
    rw [List.length_take] at hi
    rw [List.getElem_take]
    have q := q1 (by omega)
    rw [g (by omega)] at q
    exact le_lt o (le_before o h.b (i := i) (j := s - 1) (by omega) (by omega)) q) (fun y hy => by
    obtain ⟨i, hi, rfl⟩ := List.mem_iff_getElem.1 hy
    rw [List.length_drop] at hi
    rw [List.getElem_drop]
    have q := q2 (by omega)
    rw [g (by omega)] at q
    exact o.trans _ _ _ q (le_before o h.b (i := s) (j := s + i) (by omega) (by omega)))
  rw [← hB] at this
  exact this
theorem search_runs {c : Nat → Nat → Int} (o : Ord3 c) {y : Nat} {A : List Nat} (h : Runs c A [y]) (s : Nat) (hs : s ≤ A.length) (q1 : ∀ h : 0 < s, ¬ c y (A.getD (s - 1) 0) < 0) (q2 : s < A.length → c y (A.getD s 0) < 0) :
    Srt c (A ++ [y]) (A.take s ++ y :: A.drop s) := by
  have hA : A = A.take s ++ A.drop s := (List.take_append_drop s A).symm
  have g : ∀ {k : Nat} (hk : k < A.length), A.getD k 0 = A[k] := fun hk => by rw [List.getD_eq_getElem?_getD]; simp [hk]
  have := one_runs (c := c) (y := y) (A1 := A.take s) (A2 := A.drop s) (by rw [← hA]; exact h) (fun x hx => by
    obtain ⟨i, hi, rfl⟩ := List.mem_iff_getElem.1 hx
    rw [List.length_take] at hi
    rw [List.getElem_take]
    have q := q1 (by omega)
    rw [g (by omega)] at q
    exact o.trans _ _ _ (le_before o h.a (i := i) (j := s - 1) (by omega) (by omega)) q) (fun x hx => by
    obtain ⟨i, hi, rfl⟩ := List.mem_iff_getElem.1 hx
    rw [List.length_drop] at hi
    rw [List.getElem_drop]
    have q := q2 (by omega)
    rw [g (by omega)] at q
    exact lt_le o q (le_before o h.a (i := s) (j := s + i) (by omega) (by omega)))
  rw [← hA] at this
  exact this
theorem parted_search {c : Nat → Nat → Int} (o : Ord3 c) {A B C1 C2 : List Nat} (h : Runs c A B) (s t : Nat) (hs : s ≤ A.length) (ht : t ≤ B.length)
    (q1 : 0 < s → t < B.length → ¬ c (B.getD t 0) (A.getD (s - 1) 0) < 0) (q2 : s < A.length → 0 < t → c (B.getD (t - 1) 0) (A.getD s 0) < 0)
    (s1 : Srt c (A.take s ++ B.take t) C1) (s2 : Srt c (A.drop s ++ B.drop t) C2) : Srt c (A ++ B) (C1 ++ C2) := by
  have gA : ∀ {k : Nat} (hk : k < A.length), A.getD k 0 = A[k] := fun hk => by rw [List.getD_eq_getElem?_getD]; simp [hk]
  have gB : ∀ {k : Nat} (hk : k < B.length), B.getD k 0 = B[k] := fun hk => by rw [List.getD_eq_getElem?_getD]; simp [hk]
  have hp := parted o h s t hs ht (fun h1 h2 => by have := q1 h1 h2; rw [gA (by omega), gB (by omega)] at this; exact this) (fun h1 h2 => by have := q2 h1 h2; rw [gA (by omega), gB (by omega)] at this; exact this)
  have hA : A = A.take s ++ A.drop s := (List.take_append_drop s A).symm
  have hB : B = B.take t ++ B.drop t := (List.take_append_drop t B).symm
  have := runs_halves o (C1 := C1) (C2 := C2) (by rw [← hA, ← hB]; exact h) hp.1 hp.2 s1 s2
  rw [← hA, ← hB] at this
  exact this
/-! ### Blocks -/
def Shp (bs : Nat) : List (List Nat) → Prop
  | [] => True
  | [X] => 0 < X.length ∧ X.length ≤ bs
  | X :: Y :: r => X.length = bs ∧ Shp bs (Y :: r)
/-- Blocks that hold the numbers from lo on, each in order. -/
def Bok (c : Nat → Nat → Int) : Nat → List (List Nat) → Prop
  | _, [] => True
  | lo, X :: r => Srt c (List.range' lo X.length) X ∧ Bok c (lo + X.length) r
theorem bok_app {c : Nat → Nat → Int} : ∀ (L : List (List Nat)) (M : List (List Nat)) (lo : Nat), Bok c lo (L ++ M) ↔ Bok c lo L ∧ Bok c (lo + L.flatten.length) M
  | [], M, lo => by simp [Bok]
  | X :: r, M, lo => by
    rw [List.cons_append, Bok, Bok, bok_app r M, and_assoc, List.flatten_cons, List.length_append, Nat.add_assoc]
theorem runs_blocks {c : Nat → Nat → Int} {lo : Nat} {X Y : List Nat} (hX : Srt c (List.range' lo X.length) X) (hY : Srt c (List.range' (lo + X.length) Y.length) Y) : Runs c X Y := by
  refine ⟨hX.sort, hY.sort, fun x hx y hy => ?_⟩
  have h1 := hX.perm.mem_iff.1 hx
  have h2 := hY.perm.mem_iff.1 hy
  rw [List.mem_range'_1] at h1 h2
  omega
theorem srt_blocks {c : Nat → Nat → Int} {lo : Nat} {X Y C : List Nat} (hX : Srt c (List.range' lo X.length) X) (hY : Srt c (List.range' (lo + X.length) Y.length) Y) (h : Srt c (X ++ Y) C) : Srt c (List.range' lo C.length) C := by
  have hl : C.length = X.length + Y.length := by have := h.perm.length_eq; simpa using this
  refine ⟨?_, h.sort⟩
  rw [hl, ← List.range'_append_1]
  exact h.perm.trans (hX.perm.append hY.perm)
theorem shp_two {bs : Nat} : ∀ {L : List (List Nat)}, Shp bs L → 2 * bs ≤ L.flatten.length → 0 < bs → ∃ X Y r, L = X :: Y :: r ∧ X.length = bs ∧ Y.length = bs
  | [], _, h, hb => by simp at h; omega
  | [X], hs, h, hb => by simp [Shp] at h hs; omega
  | [X, Y], hs, h, hb => by
    simp [Shp] at h hs
    exact ⟨X, Y, [], rfl, hs.1, by omega⟩
  | X :: Y :: Z :: r, hs, h, hb => by
    simp only [Shp] at hs
    cases r with
    | nil => exact ⟨X, Y, [Z], rfl, hs.1, hs.2.1⟩
    | cons W r => exact ⟨X, Y, Z :: W :: r, rfl, hs.1, hs.2.1⟩
theorem shp_tail {bs : Nat} : ∀ {X : List Nat} {r : List (List Nat)}, Shp bs (X :: r) → Shp bs r
  | X, [], _ => trivial
  | X, Y :: r, h => h.2
theorem shp_few {bs : Nat} : ∀ {L : List (List Nat)}, Shp bs L → L.flatten.length < 2 * bs → (L = [] ∨ (∃ X, L = [X] ∧ 0 < X.length ∧ X.length ≤ bs) ∨ ∃ X Y, L = [X, Y] ∧ X.length = bs ∧ 0 < Y.length)
  | [], _, _ => Or.inl rfl
  | [X], hs, _ => Or.inr (Or.inl ⟨X, rfl, hs.1, hs.2⟩)
  | [X, Y], hs, _ => by
    simp [Shp] at hs
    exact Or.inr (Or.inr ⟨X, Y, rfl, hs.1, hs.2.1⟩)
  | X :: Y :: Z :: r, hs, h => by
    simp only [Shp] at hs
    have h2 : Y.length = bs := by cases r with | nil => exact hs.2.1 | cons W r => exact hs.2.1
    simp at h
    omega
/-- Blocks that are done, then the rest. -/
theorem shp_done {bs : Nat} : ∀ {D : List (List Nat)} {R : List (List Nat)}, (∀ X ∈ D, X.length = bs) → 0 < bs → Shp bs R → Shp bs (D ++ R)
  | [], R, _, _, h => h
  | [X], [], hD, hb, h => by have := hD X (by simp); exact ⟨by omega, by omega⟩
  | [X], Y :: R, hD, hb, h => ⟨hD X (by simp), h⟩
  | X :: Y :: D, R, hD, hb, h => ⟨hD X (by simp), shp_done (D := Y :: D) (fun Z hZ => hD Z (by simp [hZ])) hb h⟩
theorem flat_len {bs : Nat} : ∀ {D : List (List Nat)}, (∀ X ∈ D, X.length = bs) → D.flatten.length = D.length * bs
  | [], _ => by simp
  | X :: D, h => by
    rw [List.flatten_cons, List.length_append, List.length_cons, flat_len fun Z hZ => h Z (by simp [hZ]), h X (by simp), Nat.add_mul]
    omega
theorem shp_one {bs : Nat} {L : List (List Nat)} (hs : Shp bs L) (h : L.flatten.length ≤ bs) (hb : 0 < bs) : L = [] ∨ ∃ X, L = [X] := by
  match L, hs with
  | [], _ => exact Or.inl rfl
  | [X], _ => exact Or.inr ⟨X, rfl⟩
  | [X, Y], hs =>
    simp [Shp] at hs h
    omega
  | X :: Y :: Z :: r, hs =>
    simp only [Shp] at hs
    have h2 : Y.length = bs := by cases r with | nil => exact hs.2.1 | cons W r => exact hs.2.1
    simp at h
    omega
theorem all_sorted {c : Nat → Nat → Int} {bs n : Nat} {L : List (List Nat)} (hs : Shp bs L) (hk : Bok c 0 L) (hn : L.flatten.length = n) (h : n ≤ bs) (hb : 0 < bs) : Srt c (List.range n) L.flatten := by
  rcases shp_one hs (by omega) hb with rfl | ⟨X, rfl⟩
  · simp at hn; subst hn; exact ⟨by simp, by simp⟩
  · simp only [List.flatten_cons, List.flatten_nil, List.append_nil] at hn ⊢
    subst hn
    have := hk.1
    rw [List.range_eq_range']
    exact this
end Go.Proofs.Ytkjbccodahleoaa.Shape
