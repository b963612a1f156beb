/-
  Layer 5: cellTexts and Lines of a valid array of few elements, whatever its kind.
  Layer 5: the lines of a table: equal lengths; Show's text as the lines with their ends.
  Layer 5: Lines of a valid matrix of few elements.
-/
import Derived.Test.YtljgehammocpkaaDoorFmGD
namespace Go.Proofs.YtljgehammocpkaaDoor.Shape
open Go.RowKit Go.Proofs.YtljgehammocpkaaDoor.Num
set_option linter.unusedVariables false
set_option linter.unusedSimpArgs false

/-- The cell texts of an array. -/
def ctT : Arr → List (List UInt8)
  | .mk k _ nu it => if k = 1 then nu.map shL else if k = 2 then nu.map visS else it.map boxS
theorem mem_tot : ∀ (l : List (List UInt8)), ∀ t ∈ l, t.length ≤ totL l
  | [], t, h => by cases h
  | x :: r, t, h => by
    rw [totL]
    rcases List.mem_cons.1 h with rfl | h
    · omega
    · have := mem_tot r t h; omega
theorem ctT_len {k : Int} {sh nu : List Int} {it : List Arr} (h : rightE (.mk k sh nu it) = 0) : (ctT (.mk k sh nu it)).length = aSize (.mk k sh nu it) := by
  have V := val_of h
  have hk := V.kind
  rw [ctT]
  by_cases h1 : k = 1
  · subst h1; rw [if_pos rfl, List.length_map]; exact (size12 (A := .mk 1 sh nu it) (by simp [Arr.kind]) (by simp [Arr.kind])).symm
  · by_cases h2 : k = 2
    · subst h2; rw [if_neg (by decide), if_pos rfl, List.length_map]; exact (size12 (A := .mk 2 sh nu it) (by simp [Arr.kind]) (by simp [Arr.kind])).symm
    · obtain rfl : k = 3 := by omega
      rw [if_neg (by decide), if_neg (by decide), List.length_map]; exact (size3 (A := .mk 3 sh nu it) rfl).symm
theorem ctT_bd {k : Int} {sh nu : List Int} {it : List Arr} (h : rightE (.mk k sh nu it) = 0) (hw : wt (.mk k sh nu it) ≤ 400) : ∀ t ∈ ctT (.mk k sh nu it), t.length ≤ 300000 := by
  have V := val_of h
  have hk := V.kind
  have hwf := wt_few hw
  have hsn := sumW_nn it
  intro t ht
  rw [ctT] at ht
  by_cases h1 : k = 1
  · subst h1
    rw [if_pos rfl] at ht
    have hs : aSize (.mk 1 sh nu it) = nu.length := size12 (by simp [Arr.kind]) (by simp [Arr.kind])
    have := mem_tot _ t ht
    have := ints_tot nu V.elems
    rw [if_neg (by decide)] at hwf
    omega
  · by_cases h2 : k = 2
    · subst h2
      rw [if_neg (by decide), if_pos rfl] at ht
      obtain ⟨x, _, rfl⟩ := List.mem_map.1 ht
      rw [visS]
      split
      · decide
      · have := enc_len x; omega
    · obtain rfl : k = 3 := by omega
      rw [if_neg (by decide), if_neg (by decide)] at ht
      obtain ⟨A, hA, rfl⟩ := List.mem_map.1 ht
      obtain ⟨j, hj, rfl⟩ := List.mem_iff_getElem.1 hA
      rw [if_pos rfl] at hwf
      have hj2 := sumW_ge hj
      have := lit_len (rk it[j]) it[j] (Nat.le_refl _) (V.items j hj) (by omega)
      rw [boxS, List.length_cons, List.length_append, List.length_singleton]
      omega
theorem ct_any {k : Int} {sh nu : List Int} {it : List Arr} {v : Value} {w : World} (hA : ArrAt w v (.mk k sh nu it)) (h : rightE (.mk k sh nu it) = 0) (hw : wt (.mk k sh nu it) ≤ 400) (hT : Tok.TZ w) (hg : 3 < w.heap.size) :
    Calls Tryd.prog 25 #[v] w fun e w' => ∃ g, w.heap.size ≤ g ∧ e = .returned (.slice (some ⟨g, 0, none⟩) (aSize (.mk k sh nu it)) (aSize (.mk k sh nu it))) ∧ Strs w' g (ctT (.mk k sh nu it)) ∧ Below w.heap.size w w' := by
  have V := val_of h
  have hk := V.kind
  have hwf := wt_few hw
  have hsn := sumW_nn it
  rw [ctT]
  by_cases h1 : k = 1
  · subst h1
    have hs : aSize (.mk 1 sh nu it) = nu.length := size12 (by simp [Arr.kind]) (by simp [Arr.kind])
    rw [if_neg (by decide)] at hwf
    rw [if_pos rfl, hs]
    exact ct1 sh nu it v w (by omega) hA
  · by_cases h2 : k = 2
    · subst h2
      have hs : aSize (.mk 2 sh nu it) = nu.length := size12 (by simp [Arr.kind]) (by simp [Arr.kind])
      rw [if_neg (by decide)] at hwf
      rw [if_neg (by decide), if_pos rfl, hs]
      exact ct2 sh nu it v w (chars_bd V.elems) (by omega) hA
    · obtain rfl : k = 3 := by omega
      have hs : aSize (.mk 3 sh nu it) = it.length := size3 rfl
      rw [if_pos rfl] at hwf
      rw [if_neg (by decide), if_neg (by decide), hs]
      exact ct3 sh nu it v w (fun j hj => ⟨V.items j hj, by have := sumW_ge hj; omega⟩) hT hg (by omega) hA
end Go.Proofs.YtljgehammocpkaaDoor.Shape

namespace Go.Proofs.YtljgehammocpkaaDoor.Shape
open Go.RowKit Go.Proofs.YtljgehammocpkaaDoor.Num
set_option linter.unusedVariables false
set_option linter.unusedSimpArgs false

theorem tail_ends : ∀ (r : List (List UInt8)), Lib.joinTail [10] (r ++ [[]]) = 10 :: (r.map (· ++ [10])).flatten
  | [] => rfl
  | y :: r => by
    have ih := tail_ends r
    simp only [Lib.joinTail, List.cons_append, List.map_cons, List.flatten_cons, List.nil_append] at ih ⊢
    rw [ih]
    simp
theorem join_ends : ∀ (L : List (List UInt8)), Lib.join (L ++ [[]]) [10] = (L.map (· ++ [10])).flatten
  | [] => rfl
  | x :: r => by
    rw [List.cons_append, Lib.join_cons, tail_ends]
    simp
theorem tail_len (sep : List UInt8) : ∀ {xs ys : List (List UInt8)}, xs.map List.length = ys.map List.length → (Lib.joinTail sep xs).length = (Lib.joinTail sep ys).length
  | [], [], _ => rfl
  | [], y :: s, h => by simp at h
  | x :: r, [], h => by simp at h
  | x :: r, y :: s, h => by
    simp only [List.map_cons, List.cons.injEq] at h
    have ih := tail_len sep h.2
    simp only [Lib.joinTail, List.map_cons, List.flatten_cons, List.length_append] at ih ⊢
    omega
theorem join_len (sep : List UInt8) : ∀ {xs ys : List (List UInt8)}, xs.map List.length = ys.map List.length → (Lib.join xs sep).length = (Lib.join ys sep).length
  | [], [], _ => rfl
  | [], y :: s, h => by simp at h
  | x :: r, [], h => by simp at h
  | x :: r, y :: s, h => by
    simp only [List.map_cons, List.cons.injEq] at h
    rw [Lib.join_cons, Lib.join_cons, List.length_append, List.length_append, tail_len sep h.2, h.1]
theorem row_lens {R C N : Nat} {T : List (List UInt8)} (hN : R * C = N) {r : Nat} (hr : r < R) : (rowT C (widGo C T N) T r).map List.length = (List.range C).map fun c => ((widGo C T N).getD c 0).toNat := by
  rw [rowT, List.map_map]
  apply List.map_congr_left
  intro c hc
  have hcC := List.mem_range.1 hc
  have hp : r * C + c < N := by
    have h1 : (r + 1) * C ≤ R * C := Nat.mul_le_mul_right C hr
    rw [hN, Nat.succ_mul] at h1
    omega
  have hpm : (r * C + c) % C = c := by rw [Nat.mul_comm, Nat.mul_add_mod, Nat.mod_eq_of_lt hcC]
  have h := wid_ge C T hp (by omega)
  rw [hpm] at h
  simp only [Function.comp, padS, List.length_append, List.length_replicate]
  omega
theorem tab_len {R C : Nat} {T : List (List UInt8)} {sep : List UInt8} : (tabT R C T sep).length = R := by simp [tabT]
theorem tab_eq {R C : Nat} {T : List (List UInt8)} {sep : List UInt8} (hN : R * C = T.length) {i j : Nat} (hi : i < (tabT R C T sep).length) (hj : j < (tabT R C T sep).length) : (tabT R C T sep)[i].length = (tabT R C T sep)[j].length := by
  have hi' : i < R := by rw [tab_len] at hi; exact hi
  have hj' : j < R := by rw [tab_len] at hj; exact hj
  simp only [tabT, List.getElem_map, List.getElem_range]
  exact join_len sep ((row_lens hN hi').trans (row_lens hN hj').symm)
end Go.Proofs.YtljgehammocpkaaDoor.Shape

namespace Go.Proofs.YtljgehammocpkaaDoor.Shape
open Go.RowKit Go.Proofs.YtljgehammocpkaaDoor.Num
set_option linter.unusedVariables false
set_option linter.unusedSimpArgs false

set_option maxRecDepth 100000 in
set_option maxHeartbeats 4000000 in
theorem linesNone {k : Int} {sh nu : List Int} {it : List Arr} {v : Value} {w : World} (h : ArrAt w v (.mk k sh nu it)) (hr : sh.length = 2) (hx : rightE (.mk k sh nu it) = 0) (hz : aSize (.mk k sh nu it) = 0) :
    Calls Tryd.prog 11 #[v] w fun e w' => e = .returned (.slice none 0 0) ∧ Below w.heap.size w w' := by
  have hA := h
  rw [ArrAt] at h
  obtain ⟨sa, sc, na, nc, ia, ic, rfl, -⟩ := h
  rw [hr] at hA ⊢
  have cR := fun v W (g : ArrAt W v (.mk k sh nu it)) => rightQ v _ W g
  have cZ := fun v W (g : ArrAt W v (.mk k sh nu it)) => sizeQ v _ W g
  rw [hx] at cR
  rw [hz] at cZ
  have bw := below_new w (.cells #[.int .i64 k, .slice sa 2 sc, .slice na nu.length nc, .slice ia it.length ic] 26)
  have q0 := Quad.new w (.int .i64 k) (.slice sa 2 sc) (.slice na nu.length nc) (.slice ia it.length ic)
  have hA1 := hA.below bw
  clear hx hz hr hA
  go_enter Tryd.func11, Tryd.ntmps11
  go_wp2_with (first
    | (go_at_call 18; (with_reducible refine (cR _ _ hA1).mono ?_); rintro e1 w1 ⟨rfl, b1⟩; have q1 := Quad.below b1 q0; obtain ⟨y0, y1, y2, y3, -⟩ := q1.cells; have hA2 := hA1.below b1)
    | (go_at_call 21; (with_reducible refine (cZ _ _ hA2).mono ?_); rintro e2 w2 ⟨rfl, b2⟩))
  go_ret
  exact ⟨rfl, Below.then (Below.then bw b1) b2⟩
/-- What stands between two texts of a line. -/
def sepK (k : Int) : List UInt8 := if k = 2 then [] else [32]
theorem sepK_len (k : Int) : (sepK k).length ≤ 10 := by unfold sepK; split <;> decide
/-- Lines of a matrix with elements. -/
theorem linesMat {k : Int} {nu : List Int} {it : List Arr} {v : Value} {w : World} (R C : Nat) (h : ArrAt w v (.mk k [(R : Int), (C : Int)] nu it)) (hx : rightE (.mk k [(R : Int), (C : Int)] nu it) = 0) (hw : wt (.mk k [(R : Int), (C : Int)] nu it) ≤ 400) (hR : 0 < R) (hC : 0 < C) (hT : Tok.TZ w) (hg : 3 < w.heap.size) :
    R * C = (ctT (.mk k [(R : Int), (C : Int)] nu it)).length ∧ R ≤ 400 ∧ C ≤ 400 ∧ Calls Tryd.prog 11 #[v] w fun e w' => ∃ G, w.heap.size ≤ G ∧ e = .returned (.slice (some ⟨G, 0, none⟩) R R) ∧ Strs w' G (tabT R C (ctT (.mk k [(R : Int), (C : Int)] nu it)) (sepK k)) ∧ Below w.heap.size w w' := by
  have V := val_of hx
  have hl := ctT_len hx
  have hs := V.size
  have hwf := wt_few hw
  have hsn := sumW_nn it
  have hpr : pr [(R : Int), (C : Int)] = ((R * C : Nat) : Int) := by simp [pr]
  rw [hpr] at hs
  have hs' : aSize (.mk k [(R : Int), (C : Int)] nu it) = R * C := by omega
  have hN4 : R * C ≤ 400 := by
    split at hwf <;> omega
  have hR4 : R ≤ 400 := Nat.le_trans (Nat.le_mul_of_pos_right R hC) hN4
  have hC4 : C ≤ 400 := Nat.le_trans (Nat.le_mul_of_pos_left C hR) hN4
  have hz : aSize (.mk k [(R : Int), (C : Int)] nu it) ≠ 0 := by
    rw [hs']
    exact Nat.ne_of_gt (Nat.mul_pos hR hC)
  have hbd := ctT_bd hx hw
  have cC : ∀ W, Below w.heap.size w W → _ := fun W hW => ct_any (h.below hW) hx hw (Tok.TZ.below hT hW) (Nat.lt_of_lt_of_le hg hW.size)
  rw [hs'] at cC
  by_cases h2 : k = 2
  · subst h2
    rw [sepK, if_pos rfl]
    exact ⟨by rw [hl, hs'], hR4, hC4, linesR2c _ nu it v w R C (R * C) _ h (Lib.hid rfl) (Lib.hid rfl) hx hz hbd (Lib.hid (by rw [hl, hs'])) hN4 (Lib.hid rfl) hR4 hC4 cC⟩
  · rw [sepK, if_neg h2]
    exact ⟨by rw [hl, hs'], hR4, hC4, linesR2o k (by simpa using h2) _ nu it v w R C (R * C) _ h (Lib.hid rfl) (Lib.hid rfl) hx hz hbd (Lib.hid (by rw [hl, hs'])) hN4 (Lib.hid rfl) hR4 hC4 cC⟩
end Go.Proofs.YtljgehammocpkaaDoor.Shape
