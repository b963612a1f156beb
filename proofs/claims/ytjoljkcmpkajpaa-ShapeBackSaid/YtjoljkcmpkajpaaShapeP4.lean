/-
  Layer 2: the program's Index: it fills an array of its own from the last number on.
-/
import Derived.Test.YtjoljkcmpkajpaaShapeP3
import Derived.Test.YtjoljkcmpkajpaaShapeIndex
namespace Go.Proofs.Ytjoljkcmpkajpaa.Shape
open Go.RowKit

/-! ### Index from its end -/
theorem idxGo_snoc (x : Int) (hx : 1 ≤ x) : ∀ (a : List Int) (o : Int), (∀ y ∈ a, 1 ≤ y) → 0 ≤ o → o < pr (a ++ [x]) → idxGo (a ++ [x]) o = idxGo a (o / x) ++ [o % x]
  | [], o, _, h0, h1 => by
    simp [pr] at h1
    simp [idxGo, pr, Int.emod_eq_of_lt h0 h1]
  | y :: r, o, ha, h0, h1 => by
    have hp : 1 ≤ pr r := by
      have : ∀ l : List Int, (∀ y ∈ l, 1 ≤ y) → 1 ≤ pr l := by
        intro l
        induction l with
        | nil => intro _; exact Int.le_refl _
        | cons z l ih =>
          intro hl
          have h2 := ih (fun u hu => hl u (by simp [hu]))
          have h3 := hl z (by simp)
          have : 1 * 1 ≤ z * pr l := Int.mul_le_mul h3 h2 (by decide) (by omega)
          rw [pr]; omega
      exact this r (fun u hu => ha u (by simp [hu]))
    have epr : pr (r ++ [x]) = pr r * x := by rw [pr_append, pr, pr, Int.mul_one]
    have hpx : 1 ≤ pr r * x := by
      have : 1 * 1 ≤ pr r * x := Int.mul_le_mul hp hx (by decide) (by omega)
      omega
    have d1 : o / (pr r * x) = (o / x) / pr r := by rw [Int.mul_comm, Int.ediv_ediv_of_nonneg (by omega)]
    have d2 : o % (pr r * x) = ((o / x) % pr r) * x + o % x := by
      have e1 := Int.emod_add_mul_ediv o x
      have e2 := Int.emod_add_mul_ediv (o / x) (pr r)
      have e3 := Int.emod_add_mul_ediv o (pr r * x)
      rw [d1] at e3
      have e4 : x * (o / x) = x * ((o / x) % pr r) + x * (pr r * (o / x / pr r)) := by rw [← Int.mul_add, e2]
      have e5 : x * (pr r * (o / x / pr r)) = pr r * x * (o / x / pr r) := by rw [← Int.mul_assoc, Int.mul_comm x (pr r)]
      rw [Int.mul_comm ((o / x) % pr r) x]
      omega
    have m1 := Int.emod_nonneg o (show x ≠ 0 by omega)
    have m2 := Int.emod_lt_of_pos o (show 0 < x by omega)
    have d3 : (((o / x) % pr r) * x + o % x) / x = (o / x) % pr r := by
      rw [Int.add_comm, Int.add_mul_ediv_right _ _ (by omega), Int.ediv_eq_zero_of_lt m1 m2, Int.zero_add]
    have d4 : (((o / x) % pr r) * x + o % x) % x = o % x := by
      rw [Int.add_comm, Int.add_mul_emod_self_right, Int.emod_emod]
    have ih := idxGo_snoc x hx r (o % (pr r * x)) (fun u hu => ha u (by simp [hu])) (Int.emod_nonneg _ (by omega)) (by rw [epr]; exact Int.emod_lt_of_pos _ (by omega))
    rw [List.cons_append, idxGo, epr, ih, idxGo, d1, d2, d3, d4, List.cons_append]

theorem pr_pos_all : ∀ {xs : List Int}, NN xs → 0 < pr xs → ∀ y ∈ xs, 1 ≤ y
  | [], _, _, y, hy => absurd hy (by simp)
  | x :: r, hn, hp, y, hy => by
    rw [pr] at hp
    have hx := hn.head
    have hr := pr_nn hn.tail
    have hx1 : 1 ≤ x := by
      rcases Int.lt_or_le 0 x with h | h
      · omega
      · have : x = 0 := by omega
        rw [this, Int.zero_mul] at hp; omega
    have hr1 : 0 < pr r := by
      rcases Int.lt_or_le 0 (pr r) with h | h
      · exact h
      · have : pr r = 0 := by omega
        rw [this, Int.mul_zero] at hp; omega
    rcases List.mem_cons.1 hy with e | e
    · rw [e]; exact hx1
    · exact pr_pos_all hn.tail hr1 y e
/-- One step from the end: what is needed of the number at m. -/
theorem idx_back {xs : List Int} {m : Nat} {O : Int} (hr : rightB xs = true) (hm : m < xs.length) (h0 : 0 ≤ O) (h1 : O < pr (xs.take (m + 1))) :
    1 ≤ xs[m] ∧ xs[m] ≤ 65536 ∧ 0 ≤ O / xs[m] ∧ O / xs[m] < pr (xs.take m) ∧ 0 ≤ O % xs[m] ∧ O % xs[m] < xs[m] ∧ O ≤ 65536 ∧ O / xs[m] ≤ 65536 ∧ idxGo (xs.take (m + 1)) O = idxGo (xs.take m) (O / xs[m]) ++ [O % xs[m]] := by
  have hrt := right_take (k := m + 1) hr
  have hn := (right_def.1 hrt).2.1
  have hd := dim_bd hr hm
  have hpos := pr_pos_all hn (by omega)
  have hb := part_bd (a := xs.take (m + 1)) (b := xs.drop (m + 1)) (by rw [List.take_append_drop]; exact hr)
  rw [take_snoc xs m hm] at h1 hpos ⊢
  have hx : 1 ≤ xs[m] := hpos _ (List.mem_append_right _ (List.mem_singleton_self _))
  have h2 := idxGo_snoc xs[m] hx (xs.take m) O (fun y hy => hpos y (List.mem_append_left _ hy)) h0 h1
  rw [pr_append, pr, pr, Int.mul_one] at h1
  have hle : O / xs[m] ≤ O := Int.ediv_le_self _ h0
  rw [take_snoc xs m hm, pr_append, pr, pr, Int.mul_one] at hb
  exact ⟨hx, hd.2, Int.ediv_nonneg h0 (by omega), Int.ediv_lt_of_lt_mul (by omega) h1, Int.emod_nonneg _ (by omega), Int.emod_lt_of_pos _ (by omega), by omega, by omega, h2⟩

/-! ### The array -/
/-- Block B holds eight numbers, none frozen; from place A up to n they are D. -/
def Eight (wr : World) (B A n : Nat) (D : List Int) : Prop :=
  A ≤ n ∧ n ≤ 8 ∧ D.length = n - A ∧ (∀ i, i < 8 → ∃ u, wr.cell? ⟨B, i, none⟩ = some (.int .i64 u)) ∧ (∀ i, i < 8 → wr.frozen? ⟨B, i, none⟩ = false) ∧
    ∀ j (h : j < D.length), wr.cell? ⟨B, A + j, none⟩ = some (.int .i64 D[j])
theorem Eight.push {wr : World} {B m n : Nat} {D : List Int} (h : Eight wr B (m + 1) n D) (v : Int) :
    Eight (wr.setCell ⟨B, m, none⟩ (.int .i64 v)) B m n (v :: D) := by
  obtain ⟨h1, h1', h2, h3, h4, h5⟩ := h
  obtain ⟨u0, hu0⟩ := h3 m (by omega)
  refine ⟨by omega, h1', by simp only [List.length_cons]; omega, fun i hi => ?_, fun i hi => (World.frozen?_setCell _ _ _ _).trans (h4 i hi), fun j hj => ?_⟩
  · by_cases e : i = m
    · exact ⟨v, by rw [e]; exact World.cell?_setCell_same _ _ _ hu0⟩
    · obtain ⟨u, hu⟩ := h3 i hi
      exact ⟨u, (World.cell?_setCell_other _ _ _ _ (by simp <;> omega)).trans hu⟩
  · cases j with
    | zero => rw [Nat.add_zero, World.cell?_setCell_same _ _ _ hu0]; rfl
    | succ j =>
      have hj' : j < D.length := by simp only [List.length_cons] at hj; omega
      rw [World.cell?_setCell_other _ _ _ _ (by simp <;> omega), show m + (j + 1) = m + 1 + j by omega, h5 j hj']; rfl
theorem Eight.cell {wr : World} {B m n : Nat} {D : List Int} (h : Eight wr B (m + 1) n D) : ∃ u, wr.cell? ⟨B, m, none⟩ = some (.int .i64 u) := h.2.2.2.1 m (by have := h.1; have := h.2.1; omega)
theorem Eight.free {wr : World} {B m n : Nat} {D : List Int} (h : Eight wr B (m + 1) n D) : wr.frozen? ⟨B, m, none⟩ = false := h.2.2.2.2.1 m (by have := h.1; have := h.2.1; omega)
theorem Eight.new (w : World) (n : Nat) (hn : n ≤ 8) (c : Array Value) (t : TypeId) (hc : c = (List.replicate 8 (.int .i64 0)).toArray) : Eight (w.alloc (.cells c t)) w.heap.size n n [] := by
  subst hc
  refine ⟨Nat.le_refl _, hn, by simp, fun i hi => ⟨0, ?_⟩, fun i _ => World.frozen?_alloc_new w _ t i, fun j h => absurd h (by simp)⟩
  rw [World.cell?_alloc_new, List.getElem?_toArray, List.getElem?_replicate, if_pos hi]
theorem Eight.ints {wr : World} {B n : Nat} {D : List Int} (h : Eight wr B 0 n D) (hb : ∀ x ∈ D, 0 ≤ x ∧ x ≤ 65536) : IntsAt wr (some ⟨B, 0, none⟩) 8 D := by
  obtain ⟨_, h1, h2, _, _, h5⟩ := h
  exact ⟨by omega, by decide, fun x hx => by have := hb x hx; omega, B, 0, fun _ => rfl, fun i hi => h5 i hi⟩
theorem elem8 : Try.prog.underlying 37 = some (.array (Try.prog.arrayLen 37) (Try.prog.elem 37)) := by kernel_rfl
theorem len8 : Try.prog.arrayLen 37 = 8 := by kernel_rfl
theorem size8 (w : World) : (sizeOf (Try.prog.elem 37)).run Try.prog w = .ok 1 w := by kernel_rfl
theorem slice8 (w : World) (B n : Nat) (hn : n ≤ 8) :
    (Instr.sliceAt 37 (.pointer (some ⟨B, 0, none⟩)) none (some (.int .i64 n)) none).run Try.prog w = .ok (.slice (some ⟨B, 0, none⟩) n 8) w := by
  rw [run_sliceAt_array_h w _ _ elem8 .i64 n (by omega) (by rw [len8]; omega), size8, len8]
  show Result.ok (slicedAt _ _ _ _ _) w = _
  unfold slicedAt
  rw [if_neg (by omega)]
  have hplain : (⟨B, 0, none⟩ : Addr).add (0 * 1) = ⟨B, 0, none⟩ := by unfold Addr.add; simp
  rw [hplain, show (n : Int).toNat = n by omega]
  simp

set_option maxHeartbeats 1000000 in
theorem indexP (a : Option Addr) (cap : Nat) (xs : List Int) (o : Int) (w : World) (h : IntsAt w a cap xs) :
    Calls Try.prog 19 #[.slice a xs.length cap, .int .i64 o] w (SliceBool (idxL xs o) (idxB xs o) w) := by
  have hl := h.len
  by_cases h0 : o < 0
  · have ES : Hid (idxB xs o = false) := by unfold Hid; rw [idxB]; simp; omega
    go_enter Try.func19, Try.ntmps19
    go_wp2_with fail
    go_ret2
    exact SliceBool.none (idxL_no ES.out) ES.out (Below.refl _ _)
  · by_cases hs : sizeS xs ≤ o
    · have ES : Hid (idxB xs o = false) := by
        unfold Hid; rw [idxB]
        unfold sizeS at hs
        split at hs
        · simp; omega
        · rename_i hr; rw [show rightB xs = false by simpa using hr]; rfl
      have HS := sizeP a cap xs w h
      generalize sizeS xs = S at HS hs
      go_enter Try.func19, Try.ntmps19
      go_wp2_with (go_at_call 13; refine HS.mono ?_; rintro e w' ⟨rfl, rfl⟩)
      go_ret2
      exact SliceBool.none (idxL_no ES.out) ES.out (Below.refl _ _)
    · have hr : rightB xs = true := by
        rcases Bool.eq_false_or_eq_true (rightB xs) with e | e
        · exact e
        · have : sizeS xs = -1 := by rw [sizeS, e]; rfl
          omega
      have hsz : sizeS xs = pr xs := by rw [sizeS, if_pos hr]
      have ES : Hid (idxB xs o = true) := by unfold Hid; rw [idxB, hr]; simp; omega
      have hlen := (right_def.1 hr).1
      have HS := sizeP a cap xs w h
      rw [hsz] at HS hs
      have HB : Hid (o < pr xs) := by unfold Hid; omega
      clear hsz
      go_enter Try.func19, Try.ntmps19
      go_wp2_with (go_at_call 13; refine HS.mono ?_; rintro e w' ⟨rfl, rfl⟩)
      go_loopw [1, 7] (fun q i wr => ∃ (k : Nat) (O : Int) (D : List Int), k ≤ xs.length ∧ q = .int .i64 O ∧ i = .int .i64 ((k : Int) - 1) ∧ Eight wr w.heap.size k xs.length D ∧ Below w.heap.size w wr ∧ 0 ≤ O ∧ O < pr (xs.take k) ∧ (∀ x ∈ D, 0 ≤ x ∧ x ≤ 65536) ∧ idxGo xs o = idxGo (xs.take k) O ++ D) (fun _ i _ => (intOf i + 1).toNat)
      case atStart => exact ⟨xs.length, o, [], Nat.le_refl _, rfl, rfl, Eight.new w _ hlen _ _ rfl, (Below.refl _ _).alloc (Nat.le_refl _) _, by omega, by rw [List.take_length]; exact HB.out, fun x hx => absurd hx (by simp), by rw [List.take_length, List.append_nil]⟩
      case round =>
        obtain ⟨k, O, D, hk, rfl, rfl, ht, hbel, hO0, hO1, hDb, hg⟩ := hrel
        cases k with
        | zero =>
          have HG : Hid (idxL xs o = D) := by unfold Hid; rw [idxL_yes ES.out, hg]; simp [idxGo]
          have hin := ht.ints hDb
          have hL : D.length = xs.length := ht.2.2.1
          have hsl := slice8 wr w.heap.size xs.length hlen
          rw [show ((0 : Nat) : Int) - 1 = -1 by decide]
          have HL : Hid (D.length = xs.length) := hL
          clear hL
          clear hg ht hO1 HB
          go_wp2
          go_ret2
          rw [← HL.out]
          exact SliceBool.some HG.out ES.out hin hbel
        | succ m =>
          have hm : m < xs.length := by omega
          obtain ⟨p1, p2, p3, p4, p5, p6, p7, p8, p9⟩ := idx_back hr hm hO0 hO1
          obtain ⟨b, off, hi, hc⟩ := (h.below hbel).at hm
          obtain ⟨u, hcs⟩ := ht.cell
          have hfs := ht.free
          have ht2 := ht.push (O % xs[m])
          have hbel2 : Below w.heap.size w (wr.setCell ⟨w.heap.size, m, none⟩ (.int .i64 (O % xs[m]))) := hbel.setCell (Nat.le_refl _) _
          have hb1 : b < w.heap.size ∨ b = b := Or.inr rfl
          have hc2 : (wr.setCell ⟨w.heap.size, m, none⟩ (.int .i64 (O % xs[m]))).cell? ⟨b, off + m, none⟩ = some (.int .i64 xs[m]) := by
            obtain ⟨b', off', hi', hc'⟩ := (h.below hbel2).at hm
            have e := (hi wr).symm.trans (hi' wr)
            simp at e
            rw [e.1, e.2]; exact hc'
          have HG : Hid (idxGo xs o = idxGo (xs.take m) (O / xs[m]) ++ (O % xs[m] :: D)) := by unfold Hid; rw [hg, p9, List.append_assoc]; rfl
          have HD : Hid (∀ x ∈ O % xs[m] :: D, 0 ≤ x ∧ x ≤ 65536) := fun x hx => by
            rcases List.mem_cons.1 hx with e | e
            · rw [e]; omega
            · exact hDb x e
          have HP4 : Hid (O / xs[m] < pr (xs.take m)) := p4
          have q1 : O.tdiv xs[m] = O / xs[m] := Int.tdiv_eq_ediv_of_nonneg hO0
          have q2 : O.tmod xs[m] = O % xs[m] := Int.tmod_eq_emod_of_nonneg hO0
          rw [show ((m + 1 : Nat) : Int) - 1 = m by omega]
          clear hg p9 p4 hO1 hDb ht HB
          go_wp2
          go_roundw
          case rel => exact ⟨m, _, _, by omega, rfl, rfl, ht2, hbel2, p3, HP4.out, HD.out, HG.out⟩
          case measure => simp [intOf]
end Go.Proofs.Ytjoljkcmpkajpaa.Shape
