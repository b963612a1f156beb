/-
  Layer 2: the program's Index: it fills an array of its own from the last number on.
-/
import Derived.Test.YtppdibblkaepjaaDoorShapeP3
import Derived.Test.YtppdibblkaepjaaDoorShapeIndex
namespace Go.Proofs.YtppdibblkaepjaaDoor.Shape
open Go.RowKit

/-! ### Index from its end -/
theorem idxGo_snoc (x : Int) (hx : 1 ≤ x) : ∀ (a : List Int) (o : Int), (∀ y ∈ a, 1 ≤ y) → 0 ≤ o → o < pr (a ++ [x]) → idxGo (a ++ [x]) o = idxGo a (o / x) ++ [o % x]
  | [], o, _, h0, h1 => by
    simp [pr] at h1
    simp [idxGo, pr, Int.emod_eq_of_lt h0 h1]
  | y :: r, o, ha, h0, h1 => by
    have hp : 1 ≤ pr r := by
      have : ∀ l : List Int, (∀ y ∈ l, 1 ≤ y) → 1 ≤ pr l := by
        intro l
        induction l with
        | nil => intro _; exact Int.le_refl _
        | cons z l ih =>
          intro hl
          have h2 := ih (fun u hu => hl u (by simp [hu]))
          have h3 := hl z (by simp)
          have : 1 * 1 ≤ z * pr l := Int.mul_le_mul h3 h2 (by decide) (by omega)
          rw [pr]; omega
      exact this r (fun u hu => ha u (by simp [hu]))
    have epr : pr (r ++ [x]) = pr r * x := by rw [pr_append, pr, pr, Int.mul_one]
    have hpx : 1 ≤ pr r * x := by
      have : 1 * 1 ≤ pr r * x := Int.mul_le_mul hp hx (by decide) (by omega)
      omega
    have d1 : o / (pr r * x) = (o / x) / pr r := by rw [Int.mul_comm, Int.ediv_ediv_of_nonneg (by omega)]
    have d2 : o % (pr r * x) = ((o / x) % pr r) * x + o % x := by
      have e1 := Int.emod_add_mul_ediv o x
      have e2 := Int.emod_add_mul_ediv (o / x) (pr r)
      have e3 := Int.emod_add_mul_ediv o (pr r * x)
      rw [d1] at e3
      have e4 : x * (o / x) = x * ((o / x) % pr r) + x * (pr r * (o / x / pr r)) := by rw [← Int.mul_add, e2]
      have e5 : x * (pr r * (o / x / pr r)) = pr r * x * (o / x / pr r) := by rw [← Int.mul_assoc, Int.mul_comm x (pr r)]
      rw [Int.mul_comm ((o / x) % pr r) x]
      omega
    have m1 := Int.emod_nonneg o (show x ≠ 0 by omega)
    have m2 := Int.emod_lt_of_pos o (show 0 < x by omega)
    have d3 : (((o / x) % pr r) * x + o % x) / x = (o / x) % pr r := by
      rw [Int.add_comm, Int.add_mul_ediv_right _ _ (by omega), Int.ediv_eq_zero_of_lt m1 m2, Int.zero_add]
    have d4 : (((o / x) % pr r) * x + o % x) % x = o % x := by
      rw [Int.add_comm, Int.add_mul_emod_self_right, Int.emod_emod]
    have ih := idxGo_snoc x hx r (o % (pr r * x)) (fun u hu => ha u (by simp [hu])) (Int.emod_nonneg _ (by omega)) (by rw [epr]; exact Int.emod_lt_of_pos _ (by omega))
    rw [List.cons_append, idxGo, epr, ih, idxGo, d1, d2, d3, d4, List.cons_append]

theorem pr_pos_all : ∀ {xs : List Int}, NN xs → 0 < pr xs → ∀ y ∈ xs, 1 ≤ y
  | [], _, _, y, hy => absurd hy (by simp)
  | x :: r, hn, hp, y, hy => by
    rw [pr] at hp
    have hx := hn.head
    have hr := pr_nn hn.tail
    have hx1 : 1 ≤ x := by
      rcases Int.lt_or_le 0 x with h | h
      · omega
      · have : x = 0 := by omega
        rw [this, Int.zero_mul] at hp; omega
    have hr1 : 0 < pr r := by
      rcases Int.lt_or_le 0 (pr r) with h | h
      · exact h
      · have : pr r = 0 := by omega
        rw [this, Int.mul_zero] at hp; omega
    rcases List.mem_cons.1 hy with e | e
    · rw [e]; exact hx1
    · exact pr_pos_all hn.tail hr1 y e
/-- One step from the end: what is needed of the number at m. -/
theorem idx_back {xs : List Int} {m : Nat} {O : Int} (hr : rightB xs = true) (hm : m < xs.length) (h0 : 0 ≤ O) (h1 : O < pr (xs.take (m + 1))) :
    1 ≤ xs[m] ∧ xs[m] ≤ 65536 ∧ 0 ≤ O / xs[m] ∧ O / xs[m] < pr (xs.take m) ∧ 0 ≤ O % xs[m] ∧ O % xs[m] < xs[m] ∧ O ≤ 65536 ∧ O / xs[m] ≤ 65536 ∧ idxGo (xs.take (m + 1)) O = idxGo (xs.take m) (O / xs[m]) ++ [O % xs[m]] := by
  have hrt := right_take (k := m + 1) hr
  have hn := (right_def.1 hrt).2.1
  have hd := dim_bd hr hm
  have hpos := pr_pos_all hn (by omega)
  have hb := part_bd (a := xs.take (m + 1)) (b := xs.drop (m + 1)) (by rw [List.take_append_drop]; exact hr)
  rw [take_snoc xs m hm] at h1 hpos ⊢
  have hx : 1 ≤ xs[m] := hpos _ (List.mem_append_right _ (List.mem_singleton_self _))
  have h2 := idxGo_snoc xs[m] hx (xs.take m) O (fun y hy => hpos y (List.mem_append_left _ hy)) h0 h1
  rw [pr_append, pr, pr, Int.mul_one] at h1
  have hle : O / xs[m] ≤ O := Int.ediv_le_self _ h0
  rw [take_snoc xs m hm, pr_append, pr, pr, Int.mul_one] at hb
  exact ⟨hx, hd.2, Int.ediv_nonneg h0 (by omega), Int.ediv_lt_of_lt_mul (by omega) h1, Int.emod_nonneg _ (by omega), Int.emod_lt_of_pos _ (by omega), by omega, by omega, h2⟩

/-! ### The array -/
/-- Block B holds eight numbers, none frozen; from place A up to n they are D. -/
def Eight (wr : World) (B A n : Nat) (D : List Int) : Prop :=
  A ≤ n ∧ n ≤ 8 ∧ D.length = n - A ∧ (∀ i, i < 8 → ∃ u, wr.cell? ⟨B, i, none⟩ = some (.int .i64 u)) ∧ (∀ i, i < 8 → wr.frozen? ⟨B, i, none⟩ = false) ∧
    ∀ j (h : j < D.length), wr.cell? ⟨B, A + j, none⟩ = some (.int .i64 D[j])
theorem Eight.push {wr : World} {B m n : Nat} {D : List Int} (h : Eight wr B (m + 1) n D) (v : Int) :
    Eight (wr.setCell ⟨B, m, none⟩ (.int .i64 v)) B m n (v :: D) := by
  obtain ⟨h1, h1', h2, h3, h4, h5⟩ := h
  obtain ⟨u0, hu0⟩ := h3 m (by omega)
  refine ⟨by omega, h1', by simp only [List.length_cons]; omega, fun i hi => ?_, fun i hi => (World.frozen?_setCell _ _ _ _).trans (h4 i hi), fun j hj => ?_⟩
  · by_cases e : i = m
    · exact ⟨v, by rw [e]; exact World.cell?_setCell_same _ _ _ hu0⟩
    · obtain ⟨u, hu⟩ := h3 i hi
      exact ⟨u, (World.cell?_setCell_other _ _ _ _ (by simp <;> omega)).trans hu⟩
  · cases j with
    | zero => rw [Nat.add_zero, World.cell?_setCell_same _ _ _ hu0]; rfl
    | succ j =>
      have hj' : j < D.length := by simp only [List.length_cons] at hj; omega
      rw [World.cell?_setCell_other _ _ _ _ (by simp <;> omega), show m + (j + 1) = m + 1 + j by omega, h5 j hj']; rfl
theorem Eight.cell {wr : World} {B m n : Nat} {D : List Int} (h : Eight wr B (m + 1) n D) : ∃ u, wr.cell? ⟨B, m, none⟩ = some (.int .i64 u) := h.2.2.2.1 m (by have := h.1; have := h.2.1; omega)
theorem Eight.free {wr : World} {B m n : Nat} {D : List Int} (h : Eight wr B (m + 1) n D) : wr.frozen? ⟨B, m, none⟩ = false := h.2.2.2.2.1 m (by have := h.1; have := h.2.1; omega)
theorem Eight.new (w : World) (n : Nat) (hn : n ≤ 8) (c : Array Value) (t : TypeId) (hc : c = (List.replicate 8 (.int .i64 0)).toArray) : Eight (w.alloc (.cells c t)) w.heap.size n n [] := by
  subst hc
  refine ⟨Nat.le_refl _, hn, by simp, fun i hi => ⟨0, ?_⟩, fun i _ => World.frozen?_alloc_new w _ t i, fun j h => absurd h (by simp)⟩
  rw [World.cell?_alloc_new, List.getElem?_toArray, List.getElem?_replicate, if_pos hi]
theorem Eight.ints {wr : World} {B n : Nat} {D : List Int} (h : Eight wr B 0 n D) (hb : ∀ x ∈ D, 0 ≤ x ∧ x ≤ 65536) : IntsAt wr (some ⟨B, 0, none⟩) 8 D := by
  obtain ⟨_, h1, h2, _, _, h5⟩ := h
  exact ⟨by omega, by decide, fun x hx => by have := hb x hx; omega, B, 0, fun _ => rfl, fun i hi => h5 i hi⟩
end Go.Proofs.YtppdibblkaepjaaDoor.Shape
