/-
  Layer 4: the program's commonShape.
  Layer 4: the program's Clone: the parts of its result lie apart. (Written by wip/gen/cell-split.py.)
-/
import Derived.Test.YtkjbccodahleoaaBd16
import Derived.Test.YtkjbccodahleoaaBd8
namespace Go.Proofs.Ytkjbccodahleoaa.Shape
open Go.RowKit
set_option linter.unusedVariables false

/-- The greatest number of axes. -/
def maxRank : List Arr → Nat
  | [] => 0
  | A :: r => max A.shape.length (maxRank r)
theorem maxRank_snoc (l : List Arr) (A : Arr) : maxRank (l ++ [A]) = max (maxRank l) A.shape.length := by
  induction l with
  | nil => simp [maxRank]
  | cons B r ih => rw [List.cons_append, maxRank, maxRank, ih]; omega
theorem maxRank_le {l : List Arr} {A : Arr} (h : A ∈ l) : A.shape.length ≤ maxRank l := by
  induction l with
  | nil => cases h
  | cons B r ih =>
    rw [maxRank]
    rcases List.mem_cons.1 h with rfl | h
    · omega
    · have := ih h; omega
theorem maxRank_bd {l : List Arr} {m : Nat} (h : ∀ A ∈ l, A.shape.length ≤ m) : maxRank l ≤ m := by
  induction l with
  | nil => exact Nat.zero_le _
  | cons B r ih =>
    rw [maxRank]
    have h1 := h B (by simp)
    have h2 := ih (fun A hA => h A (by simp [hA]))
    omega
/-- On each axis the greater number. -/
def maxL (a b : List Int) : List Int := List.zipWith max a b
/-- The least shape that all fit into. -/
def commonG (n : Nat) : List Arr → List Int → List Int
  | [], acc => acc
  | A :: r, acc => commonG n r (maxL acc (leadS A.shape n))
def commonS (l : List Arr) : List Int := commonG (maxRank l) l (List.replicate (maxRank l) 0)
theorem commonG_snoc (n : Nat) : ∀ (l : List Arr) (A : Arr) (acc : List Int), commonG n (l ++ [A]) acc = maxL (commonG n l acc) (leadS A.shape n)
  | [], A, acc => rfl
  | B :: r, A, acc => by rw [List.cons_append, commonG, commonG, commonG_snoc n r A]
theorem maxL_len {a b : List Int} {n : Nat} (h1 : a.length = n) (h2 : b.length = n) : (maxL a b).length = n := by
  simp [maxL, h1, h2]
theorem commonG_len (n : Nat) : ∀ (l : List Arr) (acc : List Int), (∀ A ∈ l, A.shape.length ≤ n) → acc.length = n → (commonG n l acc).length = n
  | [], acc, _, h => h
  | A :: r, acc, hl, h => by
    rw [commonG]
    exact commonG_len n r _ (fun B hB => hl B (by simp [hB])) (maxL_len h (leadS_len (hl A (by simp))))

/-- A row of ints, known whole. -/
def IntRow (w : World) (g : Nat) (xs : List Int) : Prop := w.heap[g]? = some (.cells (xs.map (Value.int .i64)).toArray 3 (0, 0))
theorem IntRow.cell {w : World} {g : Nat} {xs : List Int} (h : IntRow w g xs) {j : Nat} (hj : j < xs.length) : w.cell? ⟨g, j, none⟩ = some (.int .i64 xs[j]) ∧ w.frozen? ⟨g, j, none⟩ = false := by
  unfold IntRow at h
  constructor
  · simp [World.cell?, h, hj]
  · simp [World.frozen?, h]
theorem IntRow.lt {w : World} {g : Nat} {xs : List Int} (h : IntRow w g xs) : g < w.heap.size := lt_of_heap h
theorem IntRow.below {w w' : World} {g : Nat} {xs : List Int} (h : IntRow w g xs) (hb : Below w.heap.size w w') : IntRow w' g xs := (hb.block g h.lt).trans h
theorem IntRow.set {w : World} {g : Nat} {xs : List Int} (h : IntRow w g xs) (j : Nat) (y : Int) : IntRow (w.setCell ⟨g, j, none⟩ (.int .i64 y)) g (xs.set j y) := by
  have hlt := h.lt
  have h' : w.heap[g] = .cells (xs.map (Value.int .i64)).toArray 3 (0, 0) := by unfold IntRow at h; simpa [Array.getElem?_eq_getElem hlt] using h
  show (w.heap.modify g _)[g]? = _
  rw [Array.getElem?_eq_getElem (by simpa using hlt), Array.getElem_modify_self, h']
  simp [List.map_set]
theorem IntRow.ints {w : World} {g : Nat} {xs : List Int} (h : IntRow w g xs) (hb : ∀ x ∈ xs, -9223372036854775808 ≤ x ∧ x ≤ 9223372036854775807) (hl : xs.length ≤ 9223372036854775807) : IntsAt w (some ⟨g, 0, none⟩) xs.length xs :=
  ⟨Nat.le_refl _, hl, hb, g, 0, fun _ => rfl, fun i hi => by rw [Nat.zero_add]; exact (h.cell hi).1⟩
theorem int_at (g n j : Nat) (hj : j < n) (W : World) : (Instr.indexAt 23 (.slice (some ⟨g, 0, none⟩) n n) (.int .i64 (j : Int))).run Try.prog W = .ok (.pointer (some ⟨g, j, none⟩)) W := by
  rw [run_indexAt_slice W _ _ _ _ .i64 (j : Int) elemInts, if_pos (by omega), sizeInts]
  show Result.ok _ W = _
  rw [show ((j : Int).toNat * 1) = j by omega, add_plain, Nat.zero_add]
theorem leadS_at {s : List Int} {n j : Nat} (h : s.length ≤ n) (hj : j < n) : (j < n - s.length → (leadS s n)[j]? = some 1) ∧ (n - s.length ≤ j → (leadS s n)[j]? = s[j - (n - s.length)]?) := by
  unfold leadS
  constructor
  · intro hm
    rw [List.getElem?_append_left (by simpa using hm), List.getElem?_replicate, if_pos hm]
  · intro hm
    rw [List.getElem?_append_right (by simpa using hm)]
    simp
/-- The first j numbers turned, the others not yet. -/
def mixL (acc b : List Int) (j : Nat) : List Int := (maxL acc b).take j ++ acc.drop j
theorem mixL_len {acc b : List Int} {n j : Nat} (h1 : acc.length = n) (h2 : b.length = n) : (mixL acc b j).length = n := by
  have := maxL_len h1 h2
  simp [mixL, this, h1]; omega
theorem mixL_at {acc b : List Int} {n j : Nat} (h1 : acc.length = n) (h2 : b.length = n) (hj : j < n) : (mixL acc b j)[j]'(by rw [mixL_len h1 h2]; exact hj) = acc[j] := by
  have h3 := maxL_len h1 h2
  have h4 : ((maxL acc b).take j).length = j := by rw [List.length_take]; omega
  unfold mixL
  rw [List.getElem_append_right (by omega)]
  simp [h4]
theorem mixL_step {acc b : List Int} {n j : Nat} (h1 : acc.length = n) (h2 : b.length = n) (hj : j < n) : (mixL acc b j).set j (max acc[j] b[j]) = mixL acc b (j + 1) := by
  have h3 := maxL_len h1 h2
  have h4 : ((maxL acc b).take j).length = j := by rw [List.length_take]; omega
  unfold mixL
  rw [List.set_append_right _ _ (by omega), h4, Nat.sub_self]
  have e : acc.drop j = acc[j] :: acc.drop (j + 1) := List.drop_eq_getElem_cons (by omega)
  have e2 : (maxL acc b).take (j + 1) = (maxL acc b).take j ++ [max acc[j] b[j]] := by
    rw [List.take_succ_eq_append_getElem (by omega)]
    simp [maxL]
  rw [e, List.set_cons_zero, e2, List.append_assoc]; rfl
theorem mixL_zero (acc b : List Int) : mixL acc b 0 = acc := by simp [mixL]
theorem mixL_all {acc b : List Int} {n : Nat} (h1 : acc.length = n) (h2 : b.length = n) : mixL acc b n = maxL acc b := by
  have h3 := maxL_len h1 h2
  unfold mixL
  rw [List.take_of_length_le (by omega), List.drop_of_length_le (by omega), List.append_nil]
theorem mixL_set {acc b : List Int} {n j : Nat} {x y v : Int} (h1 : acc.length = n) (h2 : b.length = n) (hj : j < n) (hx : acc[j]'(by omega) = x) (hy : b[j]? = some y) (hv : v = max x y) : (mixL acc b j).set j v = mixL acc b (j + 1) := by
  have hb : b[j]'(by omega) = y := by
    rw [List.getElem?_eq_getElem (by omega)] at hy
    exact Option.some.inj hy
  rw [hv, ← hx, ← hb]
  exact mixL_step h1 h2 hj
/-- A store into the row. -/
theorem row_turn {w wx : World} {G qb j : Nat} {xs : List Int} {c0 c1 c2 c3 : Value} (y : Int) (h : IntRow wx G xs) (q : Quad wx qb c0 c1 c2 c3) (hne : qb ≠ G) (hG : w.heap.size ≤ G) (hb : Below w.heap.size w wx) :
    IntRow (wx.setCell ⟨G, j, none⟩ (.int .i64 y)) G (xs.set j y) ∧ Quad (wx.setCell ⟨G, j, none⟩ (.int .i64 y)) qb c0 c1 c2 c3 ∧ Below w.heap.size w (wx.setCell ⟨G, j, none⟩ (.int .i64 y)) :=
  ⟨h.set j y, q.keep (set_other _ _ _ _ _ hne), hb.setCell (p := ⟨G, j, none⟩) hG _⟩
theorem take_snocA {l : List Arr} {j : Nat} (h : j < l.length) : l.take (j + 1) = l.take j ++ [l[j]] := List.take_succ_eq_append_getElem h
/-- An item's four cells, its shape's among them. -/
theorem ArrsAt.shape {w : World} {l : List Arr} {b off : Nat} (h : ArrsAt w b off l) {j : Nat} (hj : j < l.length) : ∃ (k : Int) (sa : Option Addr) (sc : Nat) (na : Option Addr) (ln nc : Nat) (ia : Option Addr) (li ic : Nat),
    (w.cell? ⟨b, off + j * 4, none⟩ = some (.int .i64 k) ∧ w.cell? ⟨b, off + j * 4 + 1, none⟩ = some (.slice sa l[j].shape.length sc) ∧ w.cell? ⟨b, off + j * 4 + 2, none⟩ = some (.slice na ln nc) ∧ w.cell? ⟨b, off + j * 4 + 3, none⟩ = some (.slice ia li ic)) ∧
    IntsAt w sa sc l[j].shape ∧ ArrAt w (.agg #[.int .i64 k, .slice sa l[j].shape.length sc, .slice na ln nc, .slice ia li ic]) l[j] ∧ l[j].kind = k := by
  obtain ⟨c0, c1, c2, c3, ⟨m0, m1, m2, m3⟩, hI⟩ := h.at hj
  generalize l[j] = A at hI ⊢
  obtain ⟨k, sh, nu, it⟩ := A
  have hI0 := hI
  rw [ArrAt] at hI
  obtain ⟨sa, sc, na, nc, ia, ic, hv, hk, hs, -⟩ := hI
  simp only [Value.agg.injEq, Array.mk.injEq, List.cons.injEq, and_true] at hv
  obtain ⟨rfl, rfl, rfl, rfl⟩ := hv
  exact ⟨k, sa, sc, na, _, nc, ia, _, ic, ⟨m0, m1, m2, m3⟩, hs, hI0, rfl⟩

theorem zip_all {P : Int → Prop} (hP : ∀ x y, P x → P y → P (max x y)) {a b : List Int} (ha : ∀ x ∈ a, P x) (hb : ∀ x ∈ b, P x) : ∀ x ∈ maxL a b, P x := by
  intro x hx
  obtain ⟨i, hi, rfl⟩ := List.getElem_of_mem hx
  have h1 : i < a.length ∧ i < b.length := by simp [maxL] at hi; omega
  simp only [maxL, List.getElem_zipWith]
  exact hP _ _ (ha _ (List.getElem_mem h1.1)) (hb _ (List.getElem_mem h1.2))
theorem commonG_all {P : Int → Prop} (hP : ∀ x y, P x → P y → P (max x y)) (h1 : P 1) (n : Nat) : ∀ (l : List Arr) (acc : List Int), (∀ A ∈ l, ∀ x ∈ A.shape, P x) → (∀ x ∈ acc, P x) → ∀ x ∈ commonG n l acc, P x
  | [], acc, _, h => h
  | A :: r, acc, hl, h => by
    rw [commonG]
    refine commonG_all hP h1 n r _ (fun B hB => hl B (by simp [hB])) (zip_all hP h fun x hx => ?_)
    rcases List.mem_append.1 hx with h2 | h2
    · rw [(List.mem_replicate.1 h2).2]; exact h1
    · exact hl A (by simp) x h2
theorem commonS_bd {w : World} {l : List Arr} {b off : Nat} (h : ArrsAt w b off l) : ∀ x ∈ commonS l, -9223372036854775808 ≤ x ∧ x ≤ 9223372036854775807 := by
  refine commonG_all (P := fun x => -9223372036854775808 ≤ x ∧ x ≤ 9223372036854775807) (fun x y hx hy => by omega) (by decide) _ l _ (fun A hA x hx => ?_) (fun x hx => by rw [(List.mem_replicate.1 hx).2]; decide)
  obtain ⟨j, hj, rfl⟩ := List.getElem_of_mem hA
  obtain ⟨_, _, _, _, _, _, _, _, _, -, hs, -⟩ := h.shape hj
  exact hs.2.2.1 x hx
set_option maxRecDepth 100000 in
set_option maxHeartbeats 4000000 in
theorem commonQ (a : Option Addr) (c : Nat) (l : List Arr) (w : World) (b off : Nat) (hlc : l.length ≤ c) (hc : c ≤ 9223372036854775807) (ha : l ≠ [] → a = some ⟨b, off, none⟩) (h : ArrsAt w b off l) (h8 : ∀ A ∈ l, A.shape.length ≤ 1000) :
    Calls Try.prog 51 #[.slice a l.length c] w fun e w' => ∃ a' c', e = .returned (.slice a' (commonS l).length c') ∧ IntsOn (fun g => w.heap.size ≤ g) w' a' c' (commonS l) ∧ Below w.heap.size w w' := by
  have hn8 : ∀ j, maxRank (l.take j) ≤ 1000 := fun j => maxRank_bd (fun A hA => h8 A (List.mem_of_mem_take hA))
  go_enter Try.func51, Try.ntmps51
  go_wp2_with fail
  go_loopw [3, 14] (fun r i wr => ∃ j : Nat, j ≤ l.length ∧ i = .int .i64 j ∧ r = .int .i64 (maxRank (l.take j) : Nat) ∧ Below w.heap.size w wr) (fun _ i _ => l.length - (intOf i).toNat)
  case atStart => exact ⟨0, Nat.zero_le _, rfl, rfl, Below.refl _ _⟩
  case round =>
    obtain ⟨j, hj, rfl, rfl, hb⟩ := hrel
    have hh := h.below hb
    by_cases hlt : j < l.length
    · obtain ⟨k, sa, sc, na, ln, nc, ia, li, ic, ⟨m0, m1, m2, m3⟩, hs, -, -⟩ := hh.shape hlt
      have hix := items_at (l := l) (ic := c) rfl ha hlt
      have hM : Hid (maxRank (l.take (j + 1)) = max (maxRank (l.take j)) l[j].shape.length) := by unfold Hid; rw [take_snocA hlt, maxRank_snoc]
      have hb2 := Below.then hb (below_new wr (.cells #[.int .i64 k, .slice sa l[j].shape.length sc, .slice na ln nc, .slice ia li ic] 26))
      have q1 := hn8 j
      have q2 := h8 _ (List.getElem_mem hlt)
      clear hs hh
      generalize l[j].shape.length = N at *
      generalize maxRank (l.take j) = R at *
      go_wp2_with fail
      go_roundw
      case rel => exact ⟨j + 1, by omega, by go_num, by have h10 : ((maxRank (l.take (j + 1)) : Nat) : Int) = if R < N then (N : Int) else (R : Int) := (by have h9 := hM.out; split <;> omega); rw [h10], hb2⟩
      case measure => simp [intOf]; omega
    · obtain rfl : j = l.length := by omega
      rw [List.take_length]
      have hn := hn8 l.length
      rw [List.take_length] at hn
      have hcs : commonS l = commonG (maxRank l) l (List.replicate (maxRank l) 0) := rfl
      have hlr : ∀ A ∈ l, A.shape.length ≤ maxRank l := fun A hA => maxRank_le hA
      obtain ⟨n, hnn⟩ : ∃ n, maxRank l = n := ⟨_, rfl⟩
      rw [hnn] at hn hcs hlr ⊢
      have hmk := run_makeInts wr n (by omega)
      have hbn := Below.then hb (below_new wr (.cells (madeCells #[.int .i64 0] n) 3))
      have hR0 : IntRow (wr.alloc (.cells (madeCells #[.int .i64 0] n) 3)) wr.heap.size (List.replicate n 0) := by
        unfold IntRow
        rw [heap_alloc_new]
        congr 2
        apply Array.ext'
        simp only [madeCells]
        apply List.ext_getElem
        · simp
        · intro i h1 h2
          simp [Nat.mod_one]
      have hsz := hb.size
      have hh0 := h.below hbn
      generalize hW1 : wr.alloc (.cells (madeCells #[.int .i64 0] n) 3) = W1 at *
      generalize hG : wr.heap.size = G at *
      have hbW : Below w.heap.size w W1 := hbn
      go_wp2_with fail
      go_loopw [28] (fun i wr => ∃ (j : Nat) (acc : List Int), j ≤ l.length ∧ i = .int .i64 j ∧ Hid (acc = commonG n (l.take j) (List.replicate n 0)) ∧ IntRow wr G acc ∧ Below w.heap.size w wr) (fun i _ => l.length - (intOf i).toNat)
      case atStart => exact ⟨0, _, Nat.zero_le _, rfl, rfl, hR0, hbW⟩
      case round =>
        clear hR0 hbW hh0 hmk
        obtain ⟨j, acc, hj, rfl, hacc, hrow, hb2⟩ := hrel
        have hh2 := h.below hb2
        have hal : acc.length = n := by rw [hacc.out]; exact commonG_len n _ _ (fun A hA => hlr A (List.mem_of_mem_take hA)) (by simp)
        by_cases hlt : j < l.length
        · obtain ⟨k, sa, sc, na, ln, nc, ia, li, ic, ⟨m0', m1', m2', m3'⟩, hs, -, -⟩ := h.shape hlt
          have m0 := (hb2.cell (cell_lt m0')).trans m0'
          have m1 := (hb2.cell (cell_lt m1')).trans m1'
          have m2 := (hb2.cell (cell_lt m2')).trans m2'
          have m3 := (hb2.cell (cell_lt m3')).trans m3'
          clear m0' m1' m2' m3' hh2
          have hix := items_at (l := l) (ic := c) rfl ha hlt
          have hnew := hlr _ (List.getElem_mem hlt)
          have hacc2 : Hid (maxL acc (leadS l[j].shape n) = commonG n (l.take (j + 1)) (List.replicate n 0)) := by unfold Hid; rw [take_snocA hlt, commonG_snoc, ← hacc.out]
          have hB := leadS_len hnew
          have hLA := fun j2 (hj2 : j2 < n) => leadS_at hnew hj2
          generalize hBB : leadS l[j].shape n = B at hacc2 hB hLA
          generalize l[j].shape = sh at *
          have hsb := hs.2.2.1
          obtain ⟨N, hN⟩ : ∃ N, sh.length = N := ⟨_, rfl⟩
          rw [hN] at m1 hnew
          obtain ⟨ms, hms⟩ : ∃ ms, n - N = ms := ⟨_, rfl⟩
          have e9 : (n : Int) - (N : Int) = (ms : Int) := by omega
          have bq := below_new wr (.cells #[.int .i64 k, .slice sa N sc, .slice na ln nc, .slice ia li ic] 26)
          have qq := Quad.new wr (.int .i64 k) (.slice sa N sc) (.slice na ln nc) (.slice ia li ic)
          have hrow2 := hrow.below bq
          have hb3 := Below.then hb2 bq
          have hGq : G < wr.heap.size := hrow.lt
          obtain ⟨qb, hqb⟩ : ∃ qb, wr.heap.size = qb := ⟨_, rfl⟩
          have hsz3 := hb2.size
          rw [hqb] at qq hGq hsz3
          obtain ⟨W2, hW2⟩ : ∃ W2, W2 = wr.alloc (.cells #[.int .i64 k, .slice sa N sc, .slice na ln nc, .slice ia li ic] 26) := ⟨_, rfl⟩
          have hst0 : ∃ j2 : Nat, j2 ≤ n ∧ Value.int .i64 0 = .int .i64 j2 ∧ IntRow W2 G (mixL acc B j2) ∧ Quad W2 qb (.int .i64 k) (.slice sa N sc) (.slice na ln nc) (.slice ia li ic) ∧ Below w.heap.size w W2 :=
            ⟨0, Nat.zero_le _, rfl, by rw [mixL_zero, hW2]; exact hrow2, by rw [hW2]; exact qq, by rw [hW2]; exact hb3⟩
          clear hrow2 hb3 bq qq hb2 hrow
          obtain ⟨i0, i1, i2, i3, -⟩ : True ∧ True ∧ True ∧ True ∧ True := ⟨trivial, trivial, trivial, trivial, trivial⟩
          clear i0 i1 i2 i3
          have hq1 : wr.heap.size = qb := hqb
          go_wp2_with fail
          rw [← hW2]
          clear hW2 hqb hq1
          go_loopw [39] (fun i2 wx => ∃ j2 : Nat, j2 ≤ n ∧ i2 = .int .i64 j2 ∧ IntRow wx G (mixL acc B j2) ∧ Quad wx qb (.int .i64 k) (.slice sa N sc) (.slice na ln nc) (.slice ia li ic) ∧ Below w.heap.size w wx) (fun i2 _ => n - (intOf i2).toNat)
          case atStart => exact hst0
          case round =>
            clear hst0
            obtain ⟨j2, hj2, rfl, hrx, hqx, hbx⟩ := hrel
            obtain ⟨q0, q1, q2, q3, -⟩ := hqx.cells
            by_cases hlt2 : j2 < n
            · obtain ⟨L1, L2⟩ := hLA j2 hlt2
              have hml := mixL_len (j := j2) hal hB
              obtain ⟨r1, r2⟩ := hrx.cell (j := j2) (by omega)
              rw [mixL_at hal hB hlt2] at r1
              have hia := int_at G n j2 hlt2
              have hT := fun y => row_turn (j := j2) y hrx hqx (by omega) hsz hbx
              obtain ⟨x, hx⟩ : ∃ x, acc[j2]'(by omega) = x := ⟨_, rfl⟩
              rw [hx] at r1
              by_cases hm2 : j2 < ms
              · have hy := L1 (by omega)
                have hF := fun v hv => mixL_set hal hB hlt2 (v := v) hx hy hv
                have hm3 : ¬ (ms : Int) ≤ (j2 : Int) := by omega
                clear L1 L2 hy hx hrx hqx
                go_wp2_with fail
                obtain ⟨t1, t2, t3⟩ := hT (if x < 1 then 1 else x)
                rw [hF _ (by split <;> omega)] at t1
                refine ⟨⟨j2 + 1, by omega, by go_num, t1, t2, t3⟩, ?_⟩
                simp [intOf]; omega
              · have hm3 : (ms : Int) ≤ (j2 : Int) := by omega
                obtain ⟨q, hq⟩ : ∃ q, j2 - ms = q := ⟨_, rfl⟩
                have e10 : (j2 : Int) - (ms : Int) = (q : Int) := by omega
                have hqN : q < sh.length := by omega
                have hy := L2 (by omega)
                rw [hN, hms, hq, List.getElem?_eq_getElem hqN] at hy
                obtain ⟨bs, os, hi2, hc2⟩ := (hs.below hbx).at hqN
                rw [hN] at hi2
                generalize sh[q] = y at hy hc2
                have hF := fun v hv => mixL_set hal hB hlt2 (v := v) hx hy hv
                clear L1 L2 hy hx hrx hqx
                go_wp2_with fail
                obtain ⟨t1, t2, t3⟩ := hT (if x < y then y else x)
                rw [hF _ (by split <;> omega)] at t1
                refine ⟨⟨j2 + 1, by omega, by go_num, t1, t2, t3⟩, ?_⟩
                simp [intOf]; omega
            · obtain rfl : j2 = n := by omega
              rw [mixL_all hal hB] at hrx
              go_wp2_with fail
              refine ⟨⟨j + 1, _, by omega, by go_num, hacc2, hrx, hbx⟩, ?_⟩
              simp [intOf]; omega
        · obtain rfl : j = l.length := by omega
          have ha2 := hacc.out
          rw [List.take_length, ← hcs] at ha2
          have hbd := commonS_bd h
          have hin := hrow.ints (by rw [ha2]; exact hbd) (by omega)
          rw [hal, ha2] at hin
          have hcl : (commonS l).length = n := by rw [← ha2]; exact hal
          go_wp2_with fail
          go_ret
          exact ⟨some ⟨G, 0, none⟩, n, by rw [hcl]; rfl, ⟨hin, fun _ ad e => by cases e; exact hsz⟩, hb2⟩
end Go.Proofs.Ytkjbccodahleoaa.Shape

namespace Go.Proofs.Ytkjbccodahleoaa.Shape
open Go.RowKit
set_option linter.unusedVariables false

set_option maxRecDepth 100000 in
set_option maxHeartbeats 4000000 in
theorem clS (v : Value) (A : Arr) (w : World) (q : Nat) (h : ArrAt w v A) (hr : Reach A) (hf : isCl w q) : Calls Try.prog 62 #[v, .pointer (some ⟨q, 0, none⟩)] w (GiveSplit A w) := by
  obtain ⟨k, sh, nu, it⟩ := A
  have h' := h.on
  rw [ArrOn] at h'
  rw [Reach] at hr
  obtain ⟨r1, r2, r3, r4⟩ := hr
  obtain ⟨sa, sc, na, nc, ia, ic, rfl, hk, hs, hnn, h1, h2, b, off, ha, hc⟩ := h'
  have bw := below2 w (.cells #[.int .i64 k, .slice sa sh.length sc, .slice na nu.length nc, .slice ia it.length ic] 26) (.cells #[.int .i64 0, .slice none 0 0, .slice none 0 0, .slice none 0 0] 26)
  have q1 := (Quad.new w (.int .i64 k) (.slice sa sh.length sc) (.slice na nu.length nc) (.slice ia it.length ic)).below (below_new _ (.cells #[.int .i64 0, .slice none 0 0, .slice none 0 0, .slice none 0 0] 26))
  have q2 : Quad ((w.alloc (.cells #[.int .i64 k, .slice sa sh.length sc, .slice na nu.length nc, .slice ia it.length ic] 26)).alloc (.cells #[.int .i64 0, .slice none 0 0, .slice none 0 0, .slice none 0 0] 26)) (w.heap.size + 1) (.int .i64 0) (.slice none 0 0) (.slice none 0 0) (.slice none 0 0) := by simpa using Quad.new (w.alloc (.cells #[.int .i64 k, .slice sa sh.length sc, .slice na nu.length nc, .slice ia it.length ic] 26)) (.int .i64 0) (.slice none 0 0) (.slice none 0 0) (.slice none 0 0)
  have bz : ((w.alloc (.cells #[.int .i64 k, .slice sa sh.length sc, .slice na nu.length nc, .slice ia it.length ic] 26)).alloc (.cells #[.int .i64 0, .slice none 0 0, .slice none 0 0, .slice none 0 0] 26)).heap.size = w.heap.size + 2 := by simp
  go_enter Try.func62, Try.ntmps62
  go_upto_region 1 with fail
  generalize ((w.alloc (.cells #[.int .i64 k, .slice sa sh.length sc, .slice na nu.length nc, .slice ia it.length ic] 26)).alloc (.cells #[.int .i64 0, .slice none 0 0, .slice none 0 0, .slice none 0 0] 26)) = W0 at q1 q2 bw bz ⊢
  have BZ : Hid (W0.heap.size = w.heap.size + 2) := bz
  obtain ⟨d0, d1, d2, d3, d4, d5, d6, d7⟩ := q1.cells
  have CI := fun w' (hb : Below W0.heap.size W0 w') => copiedIQ sa sc sh w' ((hs.1.below bw).below hb) r1
  have CN := fun w' (hb : Below W0.heap.size W0 w') => copiedIQ na nc nu w' ((hnn.1.below bw).below hb) r2
  have CA := fun w' (hb : Below W0.heap.size W0 w') => copiedAQ (fun g => g < w.heap.size) ia ic b off it w' h1 h2 (fun g => (ha g).1) (hc.keep' (fun g hg _ => ⟨hg, fun _ => (Below.then bw hb).cell hg⟩) (fun g => (ha g).2)) r3
  clear bz
  go_cut [] (fun wx => ∃ (M G : Nat) (a1 a2 a3 : Option Addr) (c1 c2 c3 : Nat), w.heap.size + 2 ≤ G ∧ LInvM w wx M G k sh nu it a1 a2 a3 c1 c2 c3 0 ∧ (it ≠ [] → a3 = some ⟨G, 0, none⟩) ∧ it.length ≤ c3 ∧ c3 ≤ 9223372036854775807)
  case first =>
    go_region_law ((first
      | (go_simp; (with_reducible refine (CI _ (Below.refl _ _).drew).mono ?_); rintro e w1 ⟨a1, c1, rfl, i1, b1⟩; (have e1 : Below W0.heap.size W0 w1 := Below.then (below_drew _) b1); (obtain ⟨f0, f1, f2, f3, f4, f5, f6, f7⟩ := (q1.below e1).cells))
      | (go_simp; (with_reducible refine (CN _ e1).mono ?_); rintro e w2 ⟨a2, c2, rfl, i2, b2⟩; (have e2 : Below W0.heap.size W0 w2 := Below.then e1 b2); (obtain ⟨g0, g1, g2, g3, g4, g5, g6, g7⟩ := (q1.below e2).cells))
      | (go_simp; (with_reducible refine (CA _ e2).mono ?_); rintro e w3 ⟨a3, c3, rfl, l1, l2, b3, n0, n1⟩; (have e3 : Below W0.heap.size W0 w3 := Below.then e2 b3); (obtain ⟨m0, m1, m2, m3, m4, m5, m6, m7⟩ := (q1.below e3).cells))))
    all_goals
      obtain ⟨G, hG, a3r⟩ : ∃ G, w2.heap.size ≤ G ∧ (it ≠ [] → a3 = some ⟨G, 0, none⟩ ∧ ∃ qs, w3.heap[G]? = some (.cells qs.toArray 26 (0, 0)) ∧ qs.length = it.length * 4 ∧ Quads (fun g => g < w.heap.size) w3 qs it ∧ ∀ u ∈ qs, u.oneCell' = true) := by
        cases a3 with
        | none => exact ⟨w2.heap.size, Nat.le_refl _, fun g => absurd (n0 rfl) g⟩
        | some ad =>
          obtain ⟨G, qs, rfl, x1, x2, x3, x4, x5⟩ := n1 ad rfl
          exact ⟨G, x1, fun _ => ⟨rfl, qs, x2, x3, x4, x5⟩⟩
      have zz := BZ.out
      have z1 := e1.size
      have z2 := b2.size
      have z3 := b3.size
      have hG2 : w.heap.size + 2 ≤ G := by omega
      have Q3 := ((((q1.below e3).set (.slice a1 sh.length c1)).2.1.set (.slice a2 nu.length c2)).2.2.1.set (.slice a3 it.length c3)).2.2.2
      have HO : ∀ g, g ≠ w.heap.size → (((w3.setCell ⟨w.heap.size, 1, none⟩ (.slice a1 sh.length c1)).setCell ⟨w.heap.size, 2, none⟩ (.slice a2 nu.length c2)).setCell ⟨w.heap.size, 3, none⟩ (.slice a3 it.length c3)).heap[g]? = w3.heap[g]? := fun g hg => by
        rw [set_other _ _ _ _ _ hg, set_other _ _ _ _ _ hg, set_other _ _ _ _ _ hg]
      have HB : Below w.heap.size w (((w3.setCell ⟨w.heap.size, 1, none⟩ (.slice a1 sh.length c1)).setCell ⟨w.heap.size, 2, none⟩ (.slice a2 nu.length c2)).setCell ⟨w.heap.size, 3, none⟩ (.slice a3 it.length c3)) :=
        Below.setCell (Below.setCell (Below.setCell (Below.then bw e3) (p := ⟨w.heap.size, 1, none⟩) (Nat.le_refl _) _) (p := ⟨w.heap.size, 2, none⟩) (Nat.le_refl _) _) (p := ⟨w.heap.size, 3, none⟩) (Nat.le_refl _) _
      generalize (((w3.setCell ⟨w.heap.size, 1, none⟩ (.slice a1 sh.length c1)).setCell ⟨w.heap.size, 2, none⟩ (.slice a2 nu.length c2)).setCell ⟨w.heap.size, 3, none⟩ (.slice a3 it.length c3)) = WA at Q3 HO HB ⊢
      have I0 : LInvM w WA w1.heap.size G k sh nu it a1 a2 a3 c1 c2 c3 0 := by
        refine ⟨Q3, (q2.below e3).keep (HO _ (by omega)), i1.keep fun g hg hl => ?_, i2.keep fun g hg hl => ?_, fun hne => ?_, HB⟩
        · have hg1 : W0.heap.size ≤ g := hg.1
          have e : WA.heap[g]? = w1.heap[g]? := (HO g (by omega)).trans ((Below.then b2 b3).block g hl)
          exact ⟨⟨⟨by omega, by omega, thaw_of hg.2 e⟩, by omega⟩, fun o => World.cell?_of_block e⟩
        · have hg1 := hg.1
          have e : WA.heap[g]? = w2.heap[g]? := (HO g (by omega)).trans (b3.block g hl)
          exact ⟨⟨⟨by omega, by omega, thaw_of hg.2 e⟩, by omega⟩, fun o => World.cell?_of_block e⟩
        · obtain ⟨-, qs, y1, y2, y3, y4⟩ := a3r hne
          exact ⟨[], qs, (HO G (by omega)).trans y1, by simp, y4, by rw [List.take_zero, Quads]; trivial, by rw [List.drop_zero]; exact y3.keep fun g hg hl => ⟨hg, fun o => World.cell?_of_block (HO g (by omega))⟩⟩
      go_wp2_with fail
      go_meet
      exact ⟨w1.heap.size, G, a1, a2, a3, c1, c2, c3, hG2, I0, (fun g => (a3r g).1), l1, l2⟩
  case rest =>
    obtain ⟨M, G, a1, a2, a3, c1, c2, c3, hG2, I0, ha3, l1, l2⟩ := hcut
    clear CI CN CA d0 d1 d2 d3 d4 d5 d6 d7 q1 q2
    obtain ⟨s0, s1, s2, s3, -⟩ := I0.par.cells
    go_wp2_with fail
    clear s0 s1 s2 s3
    go_loopw [21] (fun i wr => ∃ j : Nat, j ≤ it.length ∧ i = .int .i64 j ∧ LInvM w wr M G k sh nu it a1 a2 a3 c1 c2 c3 j) (fun i _ => it.length - (intOf i).toNat)
    case atStart => exact ⟨0, Nat.zero_le _, rfl, I0⟩
    case round =>
      obtain ⟨j, hj, rfl, hI⟩ := hrel
      clear I0
      by_cases hlt : j < it.length
      · have hne : it ≠ [] := by intro e; subst e; simp at hlt
        have hix := items_at (ic := c3) (n := it.length) rfl ha3 hlt
        obtain ⟨done, todo, hrow, hdl, hone, hq1, hq2⟩ := hI.row hne
        rw [List.drop_eq_getElem_cons hlt] at hq2
        obtain ⟨x0, x1, x2, x3, todo', rfl, hX, hq3⟩ := quads_cons hq2
        obtain ⟨ik, ia1, in1, im1, ia2, in2, im2, ia3, in3, im3, rfl, rfl, rfl, rfl⟩ := hX.at.four
        obtain ⟨y0, y1, y2, y3, -⟩ := row_cells hrow (p := j * 4) hdl
        have bI := below_new wr (.cells #[.int .i64 ik, .slice ia1 in1 im1, .slice ia2 in2 im2, .slice ia3 in3 im3] 26)
        have rI := (bI.block G (lt_of_heap hrow)).trans hrow
        have pI := hI.par.below bI
        have fI := (hf.below hI.bel).below bI
        have hK := clQ_any (rk it[j]) _ _ (wr.alloc (.cells #[.int .i64 ik, .slice ia1 in1 im1, .slice ia2 in2 im2, .slice ia3 in3 im3] 26)).drew q (Nat.le_refl _) (hX.at.below bI).drew (r4.at hlt) fI
        unfold isCl at fI
        obtain ⟨o0, o1, o2, o3, o4⟩ := Par.new wr (.int .i64 ik) (.slice ia1 in1 im1) (.slice ia2 in2 im2) (.slice ia3 in3 im3) 26
        clear hne
        go_wp2_with fail
        generalize hWI : wr.alloc (.cells #[.int .i64 ik, .slice ia1 in1 im1, .slice ia2 in2 im2, .slice ia3 in3 im3] 26) = WI at bI rI pI fI hK o0 o1 o2 o3 o4 ⊢
        obtain ⟨p0, p1, p2, p3, -⟩ := pI.cells
        go_region_law ((first
          | (go_simp; (with_reducible refine hK.mono ?_); rintro e w4 ⟨ek, ea1, en1, em1, ea2, en2, em2, ea3, en3, em3, rfl, hO, b4⟩; (have b5 : Below WI.heap.size WI w4 := Below.then (below_drew _) b4); (obtain ⟨t0, t1, t2, t3, t4, t5, t6, t7⟩ := row_cells ((b5.block G (lt_of_heap rI)).trans rI) (p := j * 4) hdl); (obtain ⟨u0, u1, u2, u3, -⟩ := (pI.below b5).cells))))
        all_goals go_wp2_with fail
        all_goals go_roundw
        all_goals first
          | exact ⟨j + 1, by omega, by go_num, cl_stepM hI hG2 hlt hrow hdl hone hq1 hq3 (Below.then bI b5) (hO.mono fun g hg => ⟨Nat.le_trans bI.size hg.1, hg.2⟩) four_one (j * 4) rfl⟩
          | (simp [intOf]; omega)
      · obtain rfl : j = it.length := by omega
        obtain ⟨p0, p1, p2, p3, -⟩ := hI.par.cells
        obtain ⟨q0, q1, q2, q3, q4, q5, q6, q7⟩ := hI.res.cells
        go_wp2_with fail
        obtain ⟨QW, OW⟩ := set4 hI.res (.int .i64 k) (.slice a1 sh.length c1) (.slice a2 nu.length c2) (.slice a3 it.length c3)
        have BW := set4_below (w := wr) (B := w.heap.size) (b := w.heap.size + 1) (by omega) (.int .i64 k) (.slice a1 sh.length c1) (.slice a2 nu.length c2) (.slice a3 it.length c3)
        generalize ((((wr.setCell ⟨w.heap.size + 1, 0, none⟩ (.int .i64 k)).setCell ⟨w.heap.size + 1, 1, none⟩ (.slice a1 sh.length c1)).setCell ⟨w.heap.size + 1, 2, none⟩ (.slice a2 nu.length c2)).setCell ⟨w.heap.size + 1, 3, none⟩ (.slice a3 it.length c3)) = WW at QW OW BW ⊢
        obtain ⟨z0, z1, z2, z3, -⟩ := QW.cells
        exact bodyPost_ret (v := .agg #[.int .i64 k, .slice a1 sh.length c1, .slice a2 nu.length c2, .slice a3 it.length c3]) (by simp [results, Try.results62, go_sem, z0, z1, z2, z3]) rfl ⟨_, rfl, cl_endM hI hk hG2 l1 l2 ha3 OW, hI.bel.trans BW⟩

set_option maxRecDepth 100000 in
set_option maxHeartbeats 2000000 in
theorem cloneS (v : Value) (A : Arr) (w : World) (h : ArrAt w v A) (hr : Reach A) : Calls Try.prog 39 #[v] w (GiveSplit A w) := by
  have hmf : ∀ (fn : Fn) (first cap : Array Value) (w : World), (Instr.makeFunc fn first cap).run Try.prog w = .ok (.func fn first cap) w := fun _ _ _ _ => rfl
  have hA := h
  obtain ⟨k, sa, ls, sc, na, ln, nc, ia, li, ic, rfl⟩ : ∃ k sa ls sc na ln nc ia li ic, v = .agg #[.int .i64 k, .slice sa ls sc, .slice na ln nc, .slice ia li ic] := by
    obtain ⟨k, sh, nu, it⟩ := A
    rw [ArrAt] at h
    obtain ⟨sa, sc, na, nc, ia, ic, rfl, -⟩ := h
    exact ⟨_, _, _, _, _, _, _, _, _, _, rfl⟩
  have bw := below3 w (.cells #[.int .i64 k, .slice sa ls sc, .slice na ln nc, .slice ia li ic] 26) (.cells #[.int .i64 0, .slice none 0 0, .slice none 0 0, .slice none 0 0] 26) (.cells #[.func (.func 62) #[] #[.pointer (some ⟨w.heap.size + 1 + 1, 0, none⟩)]] 44)
  have q2 : Quad (((w.alloc (.cells #[.int .i64 k, .slice sa ls sc, .slice na ln nc, .slice ia li ic] 26)).alloc (.cells #[.int .i64 0, .slice none 0 0, .slice none 0 0, .slice none 0 0] 26)).alloc (.cells #[.func (.func 62) #[] #[.pointer (some ⟨w.heap.size + 1 + 1, 0, none⟩)]] 44)) (w.heap.size + 1) (.int .i64 0) (.slice none 0 0) (.slice none 0 0) (.slice none 0 0) :=
    Quad.below (below_new _ _) (by simpa using Quad.new (w.alloc (.cells #[.int .i64 k, .slice sa ls sc, .slice na ln nc, .slice ia li ic] 26)) (.int .i64 0) (.slice none 0 0) (.slice none 0 0) (.slice none 0 0))
  have hc := isCl.new ((w.alloc (.cells #[.int .i64 k, .slice sa ls sc, .slice na ln nc, .slice ia li ic] 26)).alloc (.cells #[.int .i64 0, .slice none 0 0, .slice none 0 0, .slice none 0 0] 26)) (w.heap.size + 1 + 1) 44 (by simp)
  have hz : Hid ((((w.alloc (.cells #[.int .i64 k, .slice sa ls sc, .slice na ln nc, .slice ia li ic] 26)).alloc (.cells #[.int .i64 0, .slice none 0 0, .slice none 0 0, .slice none 0 0] 26)).alloc (.cells #[.func (.func 62) #[] #[.pointer (some ⟨w.heap.size + 1 + 1, 0, none⟩)]] 44)).heap.size = w.heap.size + 3) := by unfold Hid; simp
  have K := clS _ _ _ _ (hA.below bw) hr hc
  go_enter Try.func39, Try.ntmps39
  go_wp2_with (go_at_call 62; refine K.mono ?_; intro e w2 hN; (obtain ⟨k', sa', ls', sc', na', ln', nc', ia', li', ic', rfl, hO, hb2⟩ := hN.form); (obtain ⟨s0, s1, s2, s3, s4, s5, s6, s7⟩ := (q2.below hb2).cells))
  have q3 := q2.below hb2
  have hb := hz.out
  have G := split_set4 (w := w) (R := w.heap.size + 1) (by omega) (by omega) q3 hO (Below.then bw hb2)
  obtain ⟨QW, -⟩ := set4 q3 (.int .i64 k') (.slice sa' ls' sc') (.slice na' ln' nc') (.slice ia' li' ic')
  generalize ((((w2.setCell ⟨w.heap.size + 1, 0, none⟩ (.int .i64 k')).setCell ⟨w.heap.size + 1, 1, none⟩ (.slice sa' ls' sc')).setCell ⟨w.heap.size + 1, 2, none⟩ (.slice na' ln' nc')).setCell ⟨w.heap.size + 1, 3, none⟩ (.slice ia' li' ic')) = WW at QW G ⊢
  obtain ⟨z0, z1, z2, z3, -⟩ := QW.cells
  exact bodyPost_ret (v := .agg #[.int .i64 k', .slice sa' ls' sc', .slice na' ln' nc', .slice ia' li' ic']) (by simp [results, Try.results39, go_sem, z0, z1, z2, z3]) rfl G
end Go.Proofs.Ytkjbccodahleoaa.Shape
