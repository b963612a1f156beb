/-
  Layer 5: cellTexts and Lines of a valid array of few elements, whatever its kind.
  Layer 5: the lines of a table: equal lengths; Show's text as the lines with their ends.
  Layer 5: Lines of a valid matrix of few elements.
  Layer 5: the program's joined.
  Layer 5: the lines of an array of two and more axes, as plain data; the slices that the program's function literal takes.
  Layer 5: the program's function literal at three axes and more: one round of its recursion.
  Layer 5: the program's function literal at two axes and more, whole: induction on the axes.
  Layer 5: the program's Lines at three axes and more. (Written by wip/gen/format-j5.py.)
  Layer 5: the program's Lines of an array of few elements, whatever it is.
-/
import Derived.Test.YtngcahaidlgkfaaDoorFmGD
import Derived.Maps.AppendAt
namespace Go.Proofs.YtngcahaidlgkfaaDoor.Shape
open Go.RowKit Go.Proofs.YtngcahaidlgkfaaDoor.Num
set_option linter.unusedVariables false
set_option linter.unusedSimpArgs false

/-- The cell texts of an array. -/
def ctT : Arr → List (List UInt8)
  | .mk k _ nu it => if k = 1 then nu.map shL else if k = 2 then nu.map visS else it.map boxS
theorem mem_tot : ∀ (l : List (List UInt8)), ∀ t ∈ l, t.length ≤ totL l
  | [], t, h => by cases h
  | x :: r, t, h => by
    rw [totL]
    rcases List.mem_cons.1 h with rfl | h
    · omega
    · have := mem_tot r t h; omega
theorem ctT_len {k : Int} {sh nu : List Int} {it : List Arr} (h : rightE (.mk k sh nu it) = 0) : (ctT (.mk k sh nu it)).length = aSize (.mk k sh nu it) := by
  have V := val_of h
  have hk := V.kind
  rw [ctT]
  by_cases h1 : k = 1
  · subst h1; rw [if_pos rfl, List.length_map]; exact (size12 (A := .mk 1 sh nu it) (by simp [Arr.kind]) (by simp [Arr.kind])).symm
  · by_cases h2 : k = 2
    · subst h2; rw [if_neg (by decide), if_pos rfl, List.length_map]; exact (size12 (A := .mk 2 sh nu it) (by simp [Arr.kind]) (by simp [Arr.kind])).symm
    · obtain rfl : k = 3 := by omega
      rw [if_neg (by decide), if_neg (by decide), List.length_map]; exact (size3 (A := .mk 3 sh nu it) rfl).symm
theorem ctT_bd {k : Int} {sh nu : List Int} {it : List Arr} (h : rightE (.mk k sh nu it) = 0) (hw : wt (.mk k sh nu it) ≤ 400) : ∀ t ∈ ctT (.mk k sh nu it), t.length ≤ 300000 := by
  have V := val_of h
  have hk := V.kind
  have hwf := wt_few hw
  have hsn := sumW_nn it
  intro t ht
  rw [ctT] at ht
  by_cases h1 : k = 1
  · subst h1
    rw [if_pos rfl] at ht
    have hs : aSize (.mk 1 sh nu it) = nu.length := size12 (by simp [Arr.kind]) (by simp [Arr.kind])
    have := mem_tot _ t ht
    have := ints_tot nu V.elems
    rw [if_neg (by decide)] at hwf
    omega
  · by_cases h2 : k = 2
    · subst h2
      rw [if_neg (by decide), if_pos rfl] at ht
      obtain ⟨x, _, rfl⟩ := List.mem_map.1 ht
      rw [visS]
      split
      · decide
      · have := enc_len x; omega
    · obtain rfl : k = 3 := by omega
      rw [if_neg (by decide), if_neg (by decide)] at ht
      obtain ⟨A, hA, rfl⟩ := List.mem_map.1 ht
      obtain ⟨j, hj, rfl⟩ := List.mem_iff_getElem.1 hA
      rw [if_pos rfl] at hwf
      have hj2 := sumW_ge hj
      have := lit_len (rk it[j]) it[j] (Nat.le_refl _) (V.items j hj) (by omega)
      rw [boxS, List.length_cons, List.length_append, List.length_singleton]
      omega
theorem ct_any {k : Int} {sh nu : List Int} {it : List Arr} {v : Value} {w : World} (hA : ArrAt w v (.mk k sh nu it)) (h : rightE (.mk k sh nu it) = 0) (hw : wt (.mk k sh nu it) ≤ 400) (hT : Tok.TZ w) (hg : 3 < w.heap.size) :
    Calls Tryd.prog 25 #[v] w fun e w' => ∃ g, w.heap.size ≤ g ∧ e = .returned (.slice (some ⟨g, 0, none⟩) (aSize (.mk k sh nu it)) (aSize (.mk k sh nu it))) ∧ Strs w' g (ctT (.mk k sh nu it)) ∧ Below w.heap.size w w' := by
  have V := val_of h
  have hk := V.kind
  have hwf := wt_few hw
  have hsn := sumW_nn it
  rw [ctT]
  by_cases h1 : k = 1
  · subst h1
    have hs : aSize (.mk 1 sh nu it) = nu.length := size12 (by simp [Arr.kind]) (by simp [Arr.kind])
    rw [if_neg (by decide)] at hwf
    rw [if_pos rfl, hs]
    exact ct1 sh nu it v w (by omega) hA
  · by_cases h2 : k = 2
    · subst h2
      have hs : aSize (.mk 2 sh nu it) = nu.length := size12 (by simp [Arr.kind]) (by simp [Arr.kind])
      rw [if_neg (by decide)] at hwf
      rw [if_neg (by decide), if_pos rfl, hs]
      exact ct2 sh nu it v w (chars_bd V.elems) (by omega) hA
    · obtain rfl : k = 3 := by omega
      have hs : aSize (.mk 3 sh nu it) = it.length := size3 rfl
      rw [if_pos rfl] at hwf
      rw [if_neg (by decide), if_neg (by decide), hs]
      exact ct3 sh nu it v w (fun j hj => ⟨V.items j hj, by have := sumW_ge hj; omega⟩) hT hg (by omega) hA
end Go.Proofs.YtngcahaidlgkfaaDoor.Shape

namespace Go.Proofs.YtngcahaidlgkfaaDoor.Shape
open Go.RowKit Go.Proofs.YtngcahaidlgkfaaDoor.Num
set_option linter.unusedVariables false
set_option linter.unusedSimpArgs false

theorem tail_ends : ∀ (r : List (List UInt8)), Lib.joinTail [10] (r ++ [[]]) = 10 :: (r.map (· ++ [10])).flatten
  | [] => rfl
  | y :: r => by
    have ih := tail_ends r
    simp only [Lib.joinTail, List.cons_append, List.map_cons, List.flatten_cons, List.nil_append] at ih ⊢
    rw [ih]
    simp
theorem join_ends : ∀ (L : List (List UInt8)), Lib.join (L ++ [[]]) [10] = (L.map (· ++ [10])).flatten
  | [] => rfl
  | x :: r => by
    rw [List.cons_append, Lib.join_cons, tail_ends]
    simp
theorem tail_len (sep : List UInt8) : ∀ {xs ys : List (List UInt8)}, xs.map List.length = ys.map List.length → (Lib.joinTail sep xs).length = (Lib.joinTail sep ys).length
  | [], [], _ => rfl
  | [], y :: s, h => by simp at h
  | x :: r, [], h => by simp at h
  | x :: r, y :: s, h => by
    simp only [List.map_cons, List.cons.injEq] at h
    have ih := tail_len sep h.2
    simp only [Lib.joinTail, List.map_cons, List.flatten_cons, List.length_append] at ih ⊢
    omega
theorem join_len (sep : List UInt8) : ∀ {xs ys : List (List UInt8)}, xs.map List.length = ys.map List.length → (Lib.join xs sep).length = (Lib.join ys sep).length
  | [], [], _ => rfl
  | [], y :: s, h => by simp at h
  | x :: r, [], h => by simp at h
  | x :: r, y :: s, h => by
    simp only [List.map_cons, List.cons.injEq] at h
    rw [Lib.join_cons, Lib.join_cons, List.length_append, List.length_append, tail_len sep h.2, h.1]
theorem row_lens {R C N : Nat} {T : List (List UInt8)} (hN : R * C = N) {r : Nat} (hr : r < R) : (rowT C (widGo C T N) T r).map List.length = (List.range C).map fun c => ((widGo C T N).getD c 0).toNat := by
  rw [rowT, List.map_map]
  apply List.map_congr_left
  intro c hc
  have hcC := List.mem_range.1 hc
  have hp : r * C + c < N := by
    have h1 : (r + 1) * C ≤ R * C := Nat.mul_le_mul_right C hr
    rw [hN, Nat.succ_mul] at h1
    omega
  have hpm : (r * C + c) % C = c := by rw [Nat.mul_comm, Nat.mul_add_mod, Nat.mod_eq_of_lt hcC]
  have h := wid_ge C T hp (by omega)
  rw [hpm] at h
  simp only [Function.comp, padS, List.length_append, List.length_replicate]
  omega
theorem tab_len {R C : Nat} {T : List (List UInt8)} {sep : List UInt8} : (tabT R C T sep).length = R := by simp [tabT]
theorem tab_eq {R C : Nat} {T : List (List UInt8)} {sep : List UInt8} (hN : R * C = T.length) {i j : Nat} (hi : i < (tabT R C T sep).length) (hj : j < (tabT R C T sep).length) : (tabT R C T sep)[i].length = (tabT R C T sep)[j].length := by
  have hi' : i < R := by rw [tab_len] at hi; exact hi
  have hj' : j < R := by rw [tab_len] at hj; exact hj
  simp only [tabT, List.getElem_map, List.getElem_range]
  exact join_len sep ((row_lens hN hi').trans (row_lens hN hj').symm)
end Go.Proofs.YtngcahaidlgkfaaDoor.Shape

namespace Go.Proofs.YtngcahaidlgkfaaDoor.Shape
open Go.RowKit Go.Proofs.YtngcahaidlgkfaaDoor.Num
set_option linter.unusedVariables false
set_option linter.unusedSimpArgs false

set_option maxRecDepth 100000 in
set_option maxHeartbeats 4000000 in
theorem linesNone {k : Int} {sh nu : List Int} {it : List Arr} {v : Value} {w : World} (h : ArrAt w v (.mk k sh nu it)) (hr : sh.length = 2) (hx : rightE (.mk k sh nu it) = 0) (hz : aSize (.mk k sh nu it) = 0) :
    Calls Tryd.prog 11 #[v] w fun e w' => e = .returned (.slice none 0 0) ∧ Below w.heap.size w w' := by
  have hA := h
  rw [ArrAt] at h
  obtain ⟨sa, sc, na, nc, ia, ic, rfl, -⟩ := h
  rw [hr] at hA ⊢
  have cR := fun v W (g : ArrAt W v (.mk k sh nu it)) => rightQ v _ W g
  have cZ := fun v W (g : ArrAt W v (.mk k sh nu it)) => sizeQ v _ W g
  rw [hx] at cR
  rw [hz] at cZ
  have bw := below_new w (.cells #[.int .i64 k, .slice sa 2 sc, .slice na nu.length nc, .slice ia it.length ic] 26)
  have q0 := Quad.new w (.int .i64 k) (.slice sa 2 sc) (.slice na nu.length nc) (.slice ia it.length ic)
  have hA1 := hA.below bw
  clear hx hz hr hA
  go_enter Tryd.func11, Tryd.ntmps11
  go_wp2_with (first
    | (go_at_call 18; (with_reducible refine (cR _ _ hA1).mono ?_); rintro e1 w1 ⟨rfl, b1⟩; have q1 := Quad.below b1 q0; obtain ⟨y0, y1, y2, y3, -⟩ := q1.cells; have hA2 := hA1.below b1)
    | (go_at_call 21; (with_reducible refine (cZ _ _ hA2).mono ?_); rintro e2 w2 ⟨rfl, b2⟩))
  go_ret
  exact ⟨rfl, Below.then (Below.then bw b1) b2⟩
/-- What stands between two texts of a line. -/
def sepK (k : Int) : List UInt8 := if k = 2 then [] else [32]
theorem sepK_len (k : Int) : (sepK k).length ≤ 10 := by unfold sepK; split <;> decide
/-- Lines of a matrix with elements. -/
theorem linesMat {k : Int} {nu : List Int} {it : List Arr} {v : Value} {w : World} (R C : Nat) (h : ArrAt w v (.mk k [(R : Int), (C : Int)] nu it)) (hx : rightE (.mk k [(R : Int), (C : Int)] nu it) = 0) (hw : wt (.mk k [(R : Int), (C : Int)] nu it) ≤ 400) (hR : 0 < R) (hC : 0 < C) (hT : Tok.TZ w) (hg : 3 < w.heap.size) :
    R * C = (ctT (.mk k [(R : Int), (C : Int)] nu it)).length ∧ R ≤ 400 ∧ C ≤ 400 ∧ Calls Tryd.prog 11 #[v] w fun e w' => ∃ G, w.heap.size ≤ G ∧ e = .returned (.slice (some ⟨G, 0, none⟩) R R) ∧ Strs w' G (tabT R C (ctT (.mk k [(R : Int), (C : Int)] nu it)) (sepK k)) ∧ Below w.heap.size w w' := by
  have V := val_of hx
  have hl := ctT_len hx
  have hs := V.size
  have hwf := wt_few hw
  have hsn := sumW_nn it
  have hpr : pr [(R : Int), (C : Int)] = ((R * C : Nat) : Int) := by simp [pr]
  rw [hpr] at hs
  have hs' : aSize (.mk k [(R : Int), (C : Int)] nu it) = R * C := by omega
  have hN4 : R * C ≤ 400 := by
    split at hwf <;> omega
  have hR4 : R ≤ 400 := Nat.le_trans (Nat.le_mul_of_pos_right R hC) hN4
  have hC4 : C ≤ 400 := Nat.le_trans (Nat.le_mul_of_pos_left C hR) hN4
  have hz : aSize (.mk k [(R : Int), (C : Int)] nu it) ≠ 0 := by
    rw [hs']
    exact Nat.ne_of_gt (Nat.mul_pos hR hC)
  have hbd := ctT_bd hx hw
  have cC : ∀ W, Below w.heap.size w W → _ := fun W hW => ct_any (h.below hW) hx hw (Tok.TZ.below hT hW) (Nat.lt_of_lt_of_le hg hW.size)
  rw [hs'] at cC
  by_cases h2 : k = 2
  · subst h2
    rw [sepK, if_pos rfl]
    exact ⟨by rw [hl, hs'], hR4, hC4, linesR2c _ nu it v w R C (R * C) _ h (Lib.hid rfl) (Lib.hid rfl) hx hz hbd (Lib.hid (by rw [hl, hs'])) hN4 (Lib.hid rfl) hR4 hC4 cC⟩
  · rw [sepK, if_neg h2]
    exact ⟨by rw [hl, hs'], hR4, hC4, linesR2o k (by simpa using h2) _ nu it v w R C (R * C) _ h (Lib.hid rfl) (Lib.hid rfl) hx hz hbd (Lib.hid (by rw [hl, hs'])) hN4 (Lib.hid rfl) hR4 hC4 cC⟩
end Go.Proofs.YtngcahaidlgkfaaDoor.Shape

namespace Go.Proofs.YtngcahaidlgkfaaDoor.Shape
open Go.RowKit Go.Proofs.YtngcahaidlgkfaaDoor.Num
set_option linter.unusedVariables false
set_option linter.unusedSimpArgs false

/-- Blocks of lines with an empty line between any two. -/
def joinS : List (List (List UInt8)) → List (List UInt8)
  | [] => []
  | b :: r => b ++ (r.map fun l => [] :: l).flatten
theorem joinS_step {Ls : List (List (List UInt8))} {j : Nat} (h : j < Ls.length) : joinS (Ls.take (j + 1)) = joinS (Ls.take j) ++ (if j = 0 then [] else [[]]) ++ Ls[j] := by
  cases Ls with
  | nil => simp at h
  | cons b r =>
    cases j with
    | zero => simp [joinS]
    | succ j =>
      have hj : j < r.length := by simpa using h
      rw [List.take_succ_cons, List.take_succ_cons, joinS, joinS, List.take_succ_eq_append_getElem hj]
      simp only [List.map_append, List.flatten_append, List.map_cons, List.map_nil, List.flatten_cons, List.flatten_nil, List.append_nil, List.append_assoc, List.cons_append, List.nil_append, if_neg (Nat.succ_ne_zero j), List.getElem_cons_succ]
theorem lns_push {base : Nat} (w : World) {ops : Array Oper} {rest : List Oper} {o : Oper} {a : Act} {Q : Exit → Act → World → Prop} (hgd : o.guard = none) (s x : Operand) (ho : o.op = .call { callee := .builtin .append, args := #[s, x], argTypes := #[30, 30] })
    (v : Value) (L : List (List UInt8)) (hs : a.eval s = v) (hown : Lns w base v L) (M : List (List UInt8)) (g m c : Nat) (hm : M.length = m) (hx : a.eval x = .slice (some ⟨g, 0, none⟩) m c) (hM : ∀ j (hj : j < M.length), w.cell? ⟨g, j, none⟩ = some (sv M[j])) (hL : L.length + m ≤ 100000) (hbase : base ≤ w.heap.size)
    (hK : ∀ (ad : Option Addr) (n k : Nat) w', Lns w' base (.slice ad n k) (L ++ M) → w.grownBy w' v.ownBlock → wpList Tryd.prog ops Q rest (a.put o.dst (.slice ad n k)) w') :
    wpList Tryd.prog ops Q (o :: rest) a w := by
  subst hm
  obtain ⟨i0, hi, hz0, hz1, hz2⟩ := info_parts infoStr
  refine wpList_append_own_at _ hgd _ _ 30 ho base 9 i0 (.string ⟨#[]⟩) 1 16 Tryd.underlying30 hi hz0 hz1 hz2 rfl (by decide) v L.length (L.map sv) hs hown ⟨g, 0, none⟩ M.length c (M.map sv) hx (by simp) (fun j u hu => ?_) (fun u hu => by obtain ⟨y, _, rfl⟩ := List.mem_map.1 hu; rfl) (by unfold maxLen; omega) (by omega) hbase ?_
  · rw [List.getElem?_map] at hu
    obtain ⟨y, hy, rfl⟩ := Option.map_eq_some_iff.1 hu
    obtain ⟨hj, rfl⟩ := List.getElem?_eq_some_iff.1 hy
    rw [add_plain, Nat.zero_add]
    exact hM j hj
  · intro v' w' h1 h2 _ _
    obtain ⟨ad, n, k, rfl⟩ : ∃ ad n k, v' = .slice ad n k := by
      rcases h1.2 with ⟨rfl, _⟩ | ⟨g, cap, cur, rfl, _⟩
      · exact ⟨_, _, _, rfl⟩
      · exact ⟨_, _, _, rfl⟩
    refine hK ad n k w' ?_ h2
    unfold Lns
    rw [List.map_append, List.length_append]
    exact h1
theorem elemStrss : Tryd.prog.underlying 38 = some (.slice (Tryd.prog.elem 38)) := by kernel_rfl
theorem sizeStrss (w : World) : (sizeOf (Tryd.prog.elem 38)).run Tryd.prog w = .ok 1 w := by kernel_rfl
theorem strss_at (w' : World) (g n c k : Nat) (hk : k < n) : (Instr.indexAt 38 (.slice (some ⟨g, 0, none⟩) n c) (.int .i64 (k : Int))).run Tryd.prog w' = .ok (.pointer (some ⟨g, k, none⟩)) w' := by
  rw [run_indexAt_slice w' _ _ _ _ .i64 k elemStrss, if_pos (by omega), sizeStrss]
  show Result.ok _ w' = _
  rw [show ((k : Int).toNat * 1) = k by omega, add_plain, Nat.zero_add]
/-- The block G holds slices of lines. -/
structure Blks (w : World) (B G : Nat) (Ls : List (List (List UInt8))) : Prop where
  lt : G < w.heap.size
  at' : ∀ j (h : j < Ls.length), ∃ g c, w.cell? ⟨G, j, none⟩ = some (.slice (some ⟨g, 0, none⟩) Ls[j].length c) ∧ B ≤ g ∧ ∀ i (hi : i < Ls[j].length), w.cell? ⟨g, i, none⟩ = some (sv Ls[j][i])
theorem Blks.below {w w' : World} {B G : Nat} {Ls : List (List (List UInt8))} (h : Blks w B G Ls) (hb : Below w.heap.size w w') : Blks w' B G Ls :=
  ⟨Nat.lt_of_lt_of_le h.lt hb.size, fun j hj => by
    obtain ⟨g, c, h1, h2, h3⟩ := h.at' j hj
    exact ⟨g, c, (hb.cell (cell_lt h1)).trans h1, h2, fun i hi => (hb.cell (cell_lt (h3 i hi))).trans (h3 i hi)⟩⟩
theorem joined_len {Ls : List (List (List UInt8))} {j : Nat} (h : j < Ls.length) (hb : ∀ j, j ≤ Ls.length → (joinS (Ls.take j)).length ≤ 90000) : (joinS (Ls.take j)).length + (if j = 0 then 0 else 1) + Ls[j].length ≤ 90000 := by
  have h1 := hb (j + 1) (by omega)
  rw [joinS_step h, List.length_append, List.length_append] at h1
  split at h1 <;> simp_all
set_option maxRecDepth 100000 in
set_option maxHeartbeats 8000000 in
theorem joinedQ (w : World) (B G : Nat) (Ls : List (List (List UInt8))) (d : Nat) (hd : Ls.length = d) (hS : Blks w B G Ls) (hb : Hid (∀ j, j ≤ Ls.length → (joinS (Ls.take j)).length ≤ 90000)) (hd4 : d ≤ 100000) :
    Calls Tryd.prog 24 #[.slice (some ⟨G, 0, none⟩) d d] w fun e w' => ∃ v, e = .returned v ∧ Lns w' w.heap.size v (joinS Ls) ∧ Below w.heap.size w w' := by
  have hd' := Lib.hid hd
  clear hd
  go_enter Tryd.func24, Tryd.ntmps24
  go_wp2
  go_loopw [3, 8] (fun v i wr => ∃ j : Nat, j ≤ d ∧ i = .int .i64 (j : Int) ∧ Lns wr w.heap.size v (joinS (Ls.take j)) ∧ Below w.heap.size w wr) (fun _ i _ => d - (intOf i).toNat)
  case atStart => exact ⟨0, Nat.zero_le _, rfl, Lns.nil _ _, Below.refl _ _⟩
  case round =>
    obtain ⟨j, hj, rfl, V, Bw⟩ := hrel
    by_cases hlt : j < d
    · have hlt' : (j : Int) < (d : Int) := by omega
      have hjl : j < Ls.length := by rw [hd'.out]; exact hlt
      have hbd := joined_len hjl hb.out
      have hst := Lib.hid (joinS_step hjl)
      obtain ⟨g, c, x0, xB, xc⟩ := hS.at' j hjl
      have hgl : ∀ i (hi : i < Ls[j].length), g < w.heap.size := fun i hi => cell_lt (xc i hi)
      have y0 := (Bw.cell (cell_lt x0)).trans x0
      have hia := fun w' => strss_at w' G d d j hlt
      generalize Ls[j] = M at *
      have xm : ∀ W, Below w.heap.size w W → ∀ i (hi : i < M.length), W.cell? ⟨g, i, none⟩ = some (sv M[i]) := fun W hW i hi => (hW.cell (hgl i hi)).trans (xc i hi)
      clear x0 xc hgl
      by_cases h0 : j = 0
      · subst h0
        have hn0 : ¬ (0 : Int) < ((0 : Nat) : Int) := by omega
        have hl : (joinS (Ls.take 0)).length + M.length ≤ 100000 := by simp at hbd ⊢; omega
        have e0 : joinS (Ls.take 0) = [] := rfl
        rw [e0] at V hl
        simp only [e0, if_true, List.nil_append, List.append_nil] at hst
        go_wp2_with (at_builtin; refine lns_push _ rfl _ _ rfl _ [] rfl V M g M.length c rfl rfl (xm _ Bw) hl Bw.size ?_; intro a4 m4 k4 w4 V4 g4; have B4 := Bw.grown g4 Bw.size (fun k hk => V.block k hk))
        go_roundw
        case rel => exact ⟨1, by omega, by go_num, by rw [hst.out]; exact V4, B4⟩
        case measure => simp [intOf]; omega
      · have hp0 : (0 : Int) < (j : Int) := by omega
        rw [if_neg h0] at hbd
        simp only [if_neg h0] at hst
        have hl1 : (joinS (Ls.take j)).length + 1 ≤ 100000 := by omega
        have hl2 : (joinS (Ls.take j) ++ [[]]).length + M.length ≤ 100000 := by rw [List.length_append]; simp; omega
        generalize joinS (Ls.take j) = K at *
        have Bn : Below w.heap.size w (wr.alloc (.cells #[.string ⟨#[]⟩] 9)) := Bw.alloc Bw.size _
        have Vn : Lns (wr.alloc (.cells #[.string ⟨#[]⟩] 9)) w.heap.size _ K := V.below (below_new _ _)
        have cn : ∀ i (hi : i < ([[]] : List (List UInt8)).length), (wr.alloc (.cells #[.string ⟨#[]⟩] 9)).cell? ⟨wr.heap.size, i, none⟩ = some (sv ([[]] : List (List UInt8))[i]) := fun i hi => by
          obtain rfl : i = 0 := by simpa using hi
          have h1 := heap_alloc_new wr (.cells #[.string ⟨#[]⟩] 9)
          have h2 : (wr.alloc (.cells #[.string ⟨#[]⟩] 9)).cell? ⟨wr.heap.size, 0, none⟩ = some (.string ⟨#[]⟩) := by
            simp only [World.cell?]
            rw [h1]
            rfl
          exact h2
        go_wp2_with (first
          | (at_builtin; refine lns_push _ rfl _ _ rfl _ K rfl Vn [[]] wr.heap.size 1 1 rfl rfl cn hl1 Bn.size ?_; intro a3 m3 k3 w3 V3 g3; have B3 := Bn.grown g3 Bn.size (fun k hk => Vn.block k hk))
          | (at_builtin; refine lns_push _ rfl _ _ rfl _ _ rfl V3 M g M.length c rfl rfl (xm _ B3) hl2 B3.size ?_; intro a4 m4 k4 w4 V4 g4; have B4 := B3.grown g4 B3.size (fun k hk => V3.block k hk)))
        go_roundw
        case rel => exact ⟨j + 1, by omega, by go_num, by rw [hst.out]; exact V4, B4⟩
        case measure => simp [intOf]; omega
    · have ej : j = d := by omega
      subst ej
      have hn0 : ¬ (j : Int) < (j : Int) := by omega
      rw [List.take_of_length_le (Nat.le_of_eq hd'.out)] at V
      clear hd' hb
      go_wp2
      go_ret
      exact ⟨_, rfl, V, Bw⟩
end Go.Proofs.YtngcahaidlgkfaaDoor.Shape

namespace Go.Proofs.YtngcahaidlgkfaaDoor.Shape
open Go.RowKit Go.Proofs.YtngcahaidlgkfaaDoor.Num
set_option linter.unusedVariables false
set_option linter.unusedSimpArgs false

/-- A part of a list. -/
def part (T : List (List UInt8)) (q i : Nat) : List (List UInt8) := (T.drop (i * q)).take q
/-- The lines of an array with the axes s and the cell texts T. -/
def asmS (sep : List UInt8) : List Nat → List (List UInt8) → List (List UInt8)
  | [R, C], T => tabT R C T sep
  | d :: e :: f :: r, T => joinS ((List.range d).map fun i => asmS sep (e :: f :: r) (part T (T.length / d) i))
  | _, _ => []
def prd : List Nat → Nat
  | [] => 1
  | x :: r => x * prd r
theorem prd_pos : ∀ {s : List Nat}, (∀ x ∈ s, 0 < x) → 0 < prd s
  | [], _ => by decide
  | x :: r, h => Nat.mul_pos (h x (by simp)) (prd_pos fun y hy => h y (by simp [hy]))
theorem prd_ge : ∀ {s : List Nat}, (∀ x ∈ s, 0 < x) → ∀ x ∈ s, x ≤ prd s
  | y :: r, h, x, hx => by
    have hr := prd_pos (s := r) fun z hz => h z (by simp [hz])
    rw [prd]
    rcases List.mem_cons.1 hx with rfl | hx
    · exact Nat.le_mul_of_pos_right _ hr
    · exact Nat.le_trans (prd_ge (fun z hz => h z (by simp [hz])) x hx) (Nat.le_mul_of_pos_left _ (h y (by simp)))
theorem joinS_len : ∀ (b : List (List UInt8)) (r : List (List (List UInt8))), (joinS (b :: r)).length + 1 = ((b :: r).map fun l => l.length + 1).sum := fun b r => by
  have e : ∀ r : List (List (List UInt8)), ((r.map fun l => [] :: l).flatten).length = (r.map fun l => l.length + 1).sum := fun r => by
    induction r with
    | nil => rfl
    | cons x r ih => simp only [List.map_cons, List.flatten_cons, List.length_append, List.sum_cons, ih, List.length_cons]
  rw [joinS, List.length_append, e, List.map_cons, List.sum_cons]
  omega
theorem sum_le {α : Type} (f : α → Nat) (K : Nat) : ∀ (l : List α), (∀ x ∈ l, f x ≤ K) → (l.map f).sum ≤ l.length * K
  | [], _ => by simp
  | x :: r, h => by
    have := sum_le f K r fun y hy => h y (by simp [hy])
    have := h x (by simp)
    rw [List.map_cons, List.sum_cons, List.length_cons, Nat.succ_mul]
    omega
theorem joinS_bd (K : Nat) : ∀ (Ls : List (List (List UInt8))), (∀ l ∈ Ls, l.length + 1 ≤ K) → (joinS Ls).length ≤ Ls.length * K
  | [], _ => by simp [joinS]
  | b :: r, h => by
    have h1 := joinS_len b r
    have h2 := sum_le (fun l : List (List UInt8) => l.length + 1) K (b :: r) h
    omega
theorem part_len {T : List (List UInt8)} {q d i : Nat} (hT : T.length = d * q) (hi : i < d) : (part T q i).length = q := by
  have : (i + 1) * q ≤ d * q := Nat.mul_le_mul_right q hi
  rw [Nat.succ_mul] at this
  rw [part, List.length_take, List.length_drop, hT]
  omega
theorem asm_len (sep : List UInt8) : ∀ (s : List Nat), 2 ≤ s.length → (∀ x ∈ s, 0 < x) → ∀ T : List (List UInt8), T.length = prd s → (asmS sep s T).length + 1 ≤ 2 * prd s ∧ asmS sep s T ≠ []
  | [R, C], _, h, T, hT => by
    have h1 := h R (by simp)
    have h2 := h C (by simp)
    have e : (asmS sep [R, C] T).length = R := by rw [asmS, (by simp [tabT] : (tabT R C T sep).length = R)]
    refine ⟨?_, fun q => by rw [q] at e; simp at e; omega⟩
    rw [e]
    have : R ≤ R * C := Nat.le_mul_of_pos_right R h2
    simp only [prd, Nat.mul_one]
    omega
  | d :: e :: f :: r, _, h, T, hT => by
    have hd := h d (by simp)
    have hq : T.length / d = prd (e :: f :: r) := by rw [hT, prd, Nat.mul_div_cancel_left _ hd]
    have ih := fun i (hi : i < d) => asm_len sep (e :: f :: r) (by simp) (fun x hx => h x (List.mem_cons_of_mem _ hx)) (part T (T.length / d) i) (by rw [hq]; exact part_len (d := d) (by rw [hT]; rfl) hi)
    obtain ⟨m, rfl⟩ : ∃ m, d = m + 1 := ⟨d - 1, by omega⟩
    have e1 : (List.range (m + 1)).map (fun i => asmS sep (e :: f :: r) (part T (T.length / (m + 1)) i)) = asmS sep (e :: f :: r) (part T (T.length / (m + 1)) 0) :: (List.range m).map (fun i => asmS sep (e :: f :: r) (part T (T.length / (m + 1)) (i + 1))) := by
      rw [List.range_succ_eq_map, List.map_cons, List.map_map]
      rfl
    have h1 := joinS_len (asmS sep (e :: f :: r) (part T (T.length / (m + 1)) 0)) ((List.range m).map (fun i => asmS sep (e :: f :: r) (part T (T.length / (m + 1)) (i + 1))))
    rw [← e1] at h1
    have h2 := sum_le (fun l : List (List UInt8) => l.length + 1) (2 * prd (e :: f :: r)) ((List.range (m + 1)).map (fun i => asmS sep (e :: f :: r) (part T (T.length / (m + 1)) i))) (fun l hl => by
      obtain ⟨i, hi, rfl⟩ := List.mem_map.1 hl
      exact (ih i (List.mem_range.1 hi)).1)
    rw [List.length_map, List.length_range] at h2
    rw [asmS]
    refine ⟨?_, fun q => ?_⟩
    · rw [h1, show prd ((m + 1) :: e :: f :: r) = (m + 1) * prd (e :: f :: r) from rfl, Nat.mul_left_comm]
      exact h2
    · rw [q] at h1
      have h3 := (ih 0 (by omega)).2
      rw [e1, List.map_cons, List.sum_cons] at h1
      have : (asmS sep (e :: f :: r) (part T (T.length / (m + 1)) 0)).length ≠ 0 := fun z => h3 (List.eq_nil_of_length_eq_zero z)
      simp at h1
      omega
/-! ### The slices of the recursion -/
theorem ints_tail (w' : World) (b o n cs : Nat) (hn : 2 ≤ n) (hc : n ≤ cs) : (Instr.sliceAt 23 (.slice (some ⟨b, o, none⟩) n cs) (some (.int .i64 1)) none none).run Tryd.prog w' = .ok (.slice (some ⟨b, o + 1, none⟩) (n - 1) (cs - 1)) w' := by
  rw [run_sliceAt_slice _ _ _ _ _ _ elemInts, run_slice_l _ _ _ _ _ elemInts .i64 1 (by decide) (by omega), sizeInts]
  show Result.ok _ w' = _
  unfold sliced
  rw [if_neg (by show ¬ cs = 1; omega)]
  simp [add_plain]
theorem texts_part (w' : World) (g o n c x y : Nat) (h1 : x ≤ y) (h2 : y ≤ c) (h3 : x < c) : (Instr.sliceAt 30 (.slice (some ⟨g, o, none⟩) n c) (some (.int .i64 (x : Int))) (some (.int .i64 (y : Int))) none).run Tryd.prog w' = .ok (.slice (some ⟨g, o + x, none⟩) (y - x) (c - x)) w' := by
  rw [run_sliceAt_slice _ _ _ _ _ _ elemStrs, run_slice_lh _ _ _ _ _ elemStrs .i64 .i64 (x : Int) (y : Int) (by omega) (by omega) (by omega), sizeStrs]
  show Result.ok _ w' = _
  unfold sliced
  rw [Int.toNat_natCast, Int.toNat_natCast, if_neg (by omega)]
  simp [add_plain]
theorem infoStrs : (Tryd.prog.info? 30).map (fun i => (i.zero, i.size, i.bytes)) = some (some (.slice none 0 0), 1, 24) := by kernel_rfl
theorem made_strss (n : Nat) : madeCells #[.slice none 0 0] n = (List.replicate n (Value.slice none 0 0)).toArray := by
  apply Array.ext'
  simp only [madeCells]
  refine List.ext_getElem (by simp) fun i h1 h2 => ?_
  simp [Nat.mod_one]
theorem run_makeStrss (w : World) (n : Nat) (hn : n ≤ 100000) : (Instr.makeSlice 38 (.int .i64 (n : Int)) (.int .i64 (n : Int))).run Tryd.prog w = .ok (.slice (some ⟨w.heap.size, 0, none⟩) n n) (w.alloc (.cells (List.replicate n (Value.slice none 0 0)).toArray 30)) := by
  obtain ⟨i0, hi, hz0, hz1, hz2⟩ := info_parts infoStrs
  have := run_make (P := Tryd.prog) w 38 30 i0 _ Tryd.underlying38 hi hz0 .i64 .i64 n n (by omega) (Int.le_refl _) (by rw [hz2]; omega) (by omega)
  rw [hz1, Nat.mul_one] at this
  simp only [Int.toNat_natCast] at this
  rw [this, show (Value.slice none 0 0).cells = #[.slice none 0 0] from rfl, made_strss]
end Go.Proofs.YtngcahaidlgkfaaDoor.Shape

namespace Go.Proofs.YtngcahaidlgkfaaDoor.Shape
open Go.RowKit Go.Proofs.YtngcahaidlgkfaaDoor.Num
set_option linter.unusedVariables false
set_option linter.unusedSimpArgs false

/-- The first j blocks are laid, the others nil. -/
def Laid5 (w : World) (B G d j : Nat) (Ls : List (List (List UInt8))) : Prop := ∃ vs : List Value, w.heap[G]? = some (.cells (vs ++ List.replicate (d - j) (Value.slice none 0 0)).toArray 30 (0, 0)) ∧ vs.length = j ∧
  ∀ i (h : i < Ls.length), i < j → ∃ g c, vs[i]? = some (.slice (some ⟨g, 0, none⟩) Ls[i].length c) ∧ B ≤ g ∧ g ≠ G ∧ ∀ k (hk : k < Ls[i].length), w.cell? ⟨g, k, none⟩ = some (sv Ls[i][k])
theorem Laid5.lt {w : World} {B G d j : Nat} {Ls : List (List (List UInt8))} (h : Laid5 w B G d j Ls) : G < w.heap.size := by
  obtain ⟨vs, h1, _⟩ := h
  exact lt_of_heap h1
theorem Laid5.below {w w' : World} {B G d j : Nat} {Ls : List (List (List UInt8))} (h : Laid5 w B G d j Ls) (hb : Below w.heap.size w w') : Laid5 w' B G d j Ls := by
  obtain ⟨vs, h1, h2, h3⟩ := h
  refine ⟨vs, (hb.block G (lt_of_heap h1)).trans h1, h2, fun i hi hij => ?_⟩
  obtain ⟨g, c, e1, e2, e3, e4⟩ := h3 i hi hij
  exact ⟨g, c, e1, e2, e3, fun k hk => (hb.cell (cell_lt (e4 k hk))).trans (e4 k hk)⟩
theorem Laid5.start (w : World) (B d : Nat) (Ls : List (List (List UInt8))) : Laid5 (w.alloc (.cells (List.replicate d (Value.slice none 0 0)).toArray 30)) B w.heap.size d 0 Ls :=
  ⟨[], by rw [heap_alloc_new]; simp, rfl, fun i hi h => absurd h (by omega)⟩
theorem Laid5.cell {w : World} {B G d j : Nat} {Ls : List (List (List UInt8))} (h : Laid5 w B G d j Ls) (hj : j < d) : w.cell? ⟨G, j, none⟩ = some (.slice none 0 0) ∧ ∀ k, w.frozen? ⟨G, k, none⟩ = false := by
  obtain ⟨vs, h1, h2, _⟩ := h
  refine ⟨?_, fun k => by simp [World.frozen?, h1]⟩
  simp only [World.cell?]
  rw [h1]
  show (vs ++ List.replicate (d - j) (Value.slice none 0 0)).toArray[j]? = _
  rw [List.getElem?_toArray, List.getElem?_append_right (by omega), List.getElem?_replicate, if_pos (by omega)]
theorem Laid5.set {w : World} {B G d j : Nat} {Ls : List (List (List UInt8))} (h : Laid5 w B G d j Ls) (hj : j < d) {g c : Nat} (hl : j < Ls.length) (hB : B ≤ g) (hne : g ≠ G) (hc : ∀ k (hk : k < Ls[j].length), w.cell? ⟨g, k, none⟩ = some (sv Ls[j][k])) :
    Laid5 (w.setCell ⟨G, j, none⟩ (.slice (some ⟨g, 0, none⟩) Ls[j].length c)) B G d (j + 1) Ls := by
  obtain ⟨vs, h1, h2, h3⟩ := h
  have oth : ∀ {g' k : Nat} {x : Value}, g' ≠ G → w.cell? ⟨g', k, none⟩ = some x → (w.setCell ⟨G, j, none⟩ (.slice (some ⟨g, 0, none⟩) Ls[j].length c)).cell? ⟨g', k, none⟩ = some x := fun hg hx => by
    rw [← hx]
    exact World.cell?_of_block (Below.heap_setCell _ _ _ _ hg)
  refine ⟨vs ++ [.slice (some ⟨g, 0, none⟩) Ls[j].length c], ?_, by simp [h2], fun i hi hij => ?_⟩
  · rw [row_set h1]
    congr 3
    obtain ⟨m, hm⟩ : ∃ m, d - j = m + 1 := ⟨d - j - 1, by omega⟩
    rw [List.set_append, if_neg (by omega), h2, Nat.sub_self, hm, List.replicate_succ, List.set_cons_zero, show d - (j + 1) = m by omega]
    simp
  · rcases Nat.lt_or_ge i j with q | q
    · obtain ⟨g', c', e1, e2, e3, e4⟩ := h3 i hi q
      exact ⟨g', c', by rw [List.getElem?_append_left (by omega)]; exact e1, e2, e3, fun k hk => oth e3 (e4 k hk)⟩
    · obtain rfl : i = j := by omega
      exact ⟨g, c, by rw [List.getElem?_append_right (by omega), h2, Nat.sub_self]; rfl, hB, hne, fun k hk => oth hne (hc k hk)⟩
theorem Laid5.blks {w : World} {B G d : Nat} {Ls : List (List (List UInt8))} (h : Laid5 w B G d d Ls) (hd : Ls.length = d) : Blks w B G Ls := by
  have hlt := h.lt
  obtain ⟨vs, h1, h2, h3⟩ := h
  refine ⟨hlt, fun j hj => ?_⟩
  obtain ⟨g, c, e1, e2, e3, e4⟩ := h3 j hj (by omega)
  refine ⟨g, c, ?_, e2, e4⟩
  simp only [World.cell?]
  rw [h1]
  show (vs ++ List.replicate (d - d) (Value.slice none 0 0)).toArray[j]? = _
  rw [List.getElem?_toArray, Nat.sub_self, List.replicate_zero, List.append_nil, e1]
theorem below_sz {B : Nat} {w0 w w' : World} (h : Below B w0 w) (_ : Below w.heap.size w w') : w0.heap.size ≤ w.heap.size := h.size
theorem Lns.mono {w : World} {B B' : Nat} {v : Value} {L : List (List UInt8)} (h : Lns w B v L) (hb : B' ≤ B) : Lns w B' v L := by
  obtain ⟨h1, h2⟩ := h
  refine ⟨h1, ?_⟩
  rcases h2 with h2 | ⟨g, cap, cur, rfl, hg, h3⟩
  · exact .inl h2
  · exact .inr ⟨g, cap, cur, rfl, by omega, h3⟩
set_option maxRecDepth 100000 in
set_option maxHeartbeats 32000000 in
theorem asm3 (n d q N c cs g o b so Bb Ba : Nat) (Ls : List (List (List UInt8))) (w : World) (hn : 3 ≤ n) (hcs : n ≤ cs) (hn9 : cs ≤ 9223372036854775807) (hd : Hid (Ls.length = d)) (hd0 : 0 < d) (hd4 : d ≤ 400) (hN : Hid (N = d * q)) (hq : 0 < q) (hN4 : N ≤ 400) (hc : N ≤ c) (hc9 : c ≤ 9223372036854775807)
    (hs0 : w.cell? ⟨b, so, none⟩ = some (.int .i64 (d : Int))) (hf : w.cell? ⟨Ba, 0, none⟩ = some (.func (.func 22) #[] #[.pointer (some ⟨Bb, 0, none⟩), .pointer (some ⟨Ba, 0, none⟩)]))
    (hi0 : ∀ w' : World, (Instr.indexAt 23 (.slice (some ⟨b, so, none⟩) n cs) (.int .i64 0)).run Tryd.prog w' = .ok (.pointer (some ⟨b, so, none⟩)) w')
    (cR : ∀ W, Below w.heap.size w W → ∀ i (hi : i < Ls.length), Calls Tryd.prog 22 #[.slice (some ⟨b, so + 1, none⟩) (n - 1) (cs - 1), .slice (some ⟨g, o + i * q, none⟩) q (c - i * q), .pointer (some ⟨Bb, 0, none⟩), .pointer (some ⟨Ba, 0, none⟩)] W fun e w' => ∃ g' k, e = .returned (.slice (some ⟨g', 0, none⟩) Ls[i].length k) ∧ W.heap.size ≤ g' ∧ (∀ j (hj : j < Ls[i].length), w'.cell? ⟨g', j, none⟩ = some (sv Ls[i][j])) ∧ Below W.heap.size W w')
    (hb : Hid (∀ j, j ≤ Ls.length → (joinS (Ls.take j)).length ≤ 90000)) :
    Calls Tryd.prog 22 #[.slice (some ⟨b, so, none⟩) n cs, .slice (some ⟨g, o, none⟩) N c, .pointer (some ⟨Bb, 0, none⟩), .pointer (some ⟨Ba, 0, none⟩)] w fun e w' => ∃ v, e = .returned v ∧ Lns w' w.heap.size v (joinS Ls) ∧ Below w.heap.size w w' := by
  have hdi : (d : Int) ≠ 0 := by omega
  have hdn : ((n : Int) == 2) = false := beq_eq_false_iff_ne.2 (by omega)
  have e1 : Int.tdiv (N : Int) (d : Int) = (q : Int) := by
    rw [hN.out]
    simp [Int.mul_tdiv_cancel_left _ hdi]
  have e2 : (N : Int) / (d : Int) = (q : Int) := by
    rw [hN.out]
    simp [Int.mul_ediv_cancel_left _ hdi]
  have hq4 : q ≤ 400 := by
    have : 1 * q ≤ d * q := Nat.mul_le_mul_right q hd0
    rw [← hN.out] at this
    omega
  have hw1 : IntKind.i64.wrap (q : Int) = (q : Int) := IntWalk.i64_in _ (by omega)
  have hmk := fun W => run_makeStrss W d (by omega)
  obtain ⟨ce, hce⟩ : ∃ ce, Hid ((List.replicate d (Value.slice none 0 0)).toArray = ce) := ⟨_, rfl⟩
  rw [hce.out] at hmk
  have L0 := fun W => Laid5.start W w.heap.size d Ls
  rw [hce.out] at L0
  have hs1 : (w.alloc (.cells ce 30)).cell? ⟨b, so, none⟩ = some (.int .i64 (d : Int)) := ((below_new w _).cell (cell_lt hs0)).trans hs0
  have L1 := L0 w
  have L2 := L0 w.drew
  have bA := below_new w (.cells ce 30)
  clear L0
  go_enter Tryd.func22, Tryd.ntmps22
  go_upto_region 3 with fail
  go_cut [7, 8] (fun s7 s8 wx => ∃ G, s7 = .slice (some ⟨G, 0, none⟩) d d ∧ s8 = .int .i64 (q : Int) ∧ w.heap.size ≤ G ∧ Laid5 wx w.heap.size G d 0 Ls ∧ Below w.heap.size w wx)
  case first =>
    go_region
    all_goals (go_wp2_with fail; go_meet)
    all_goals first
      | exact ⟨_, rfl, rfl, Nat.le_refl _, L1, bA⟩
      | exact ⟨_, rfl, rfl, Nat.le_refl _, L1.below ((Below.refl _ _).drew), bA.drew⟩
      | exact ⟨_, rfl, rfl, Nat.le_refl _, L2, (Below.refl _ _).drew.alloc (Nat.le_refl _) _⟩
  case rest =>
    obtain ⟨G, rfl, rfl, hG, LL, BB⟩ := hcut
    clear L1 L2 bA hmk hce hs1 e1 e2 hdi
    go_wp2
    go_loopw [34] (fun i wr => ∃ j : Nat, j ≤ d ∧ i = .int .i64 (j : Int) ∧ Laid5 wr w.heap.size G d j Ls ∧ Below w.heap.size w wr) (fun i _ => d - (intOf i).toNat)
    case atStart => exact ⟨0, Nat.zero_le _, rfl, LL, BB⟩
    case round =>
      clear LL BB
      obtain ⟨j, hj, rfl, LL, BB⟩ := hrel
      by_cases hlt : j < d
      · have hlt' : (j : Int) < (d : Int) := by omega
        have hjl : j < Ls.length := by rw [hd.out]; exact hlt
        have hy1 : (j + 1) * q ≤ d * q := Nat.mul_le_mul_right q hlt
        rw [← hN.out] at hy1
        have hsub : (j + 1) * q - j * q = q := by rw [Nat.succ_mul]; omega
        have hxy : j * q ≤ (j + 1) * q := Nat.mul_le_mul_right q (Nat.le_succ j)
        have hxc : j * q < c := by rw [Nat.succ_mul] at hy1; omega
        have c1 := fun W (h : Below w.heap.size w W) => cR W h j hjl
        have s1 := fun w' => ints_tail w' b so n cs (by omega) hcs
        have s2 := fun w' => texts_part w' g o N c (j * q) ((j + 1) * q) hxy (by omega) hxc
        rw [hsub] at s2
        have hmx : (j : Int) * (q : Int) = ((j * q : Nat) : Int) := by simp
        have hmy : ((j : Int) + 1) * (q : Int) = (((j + 1) * q : Nat) : Int) := by simp
        have H0 : ∀ w', Below w.heap.size w w' → w'.cell? ⟨Ba, 0, none⟩ = some (.func (.func 22) #[] #[.pointer (some ⟨Bb, 0, none⟩), .pointer (some ⟨Ba, 0, none⟩)]) ∧ Below w.heap.size w w' := fun w' h => ⟨(h.cell (cell_lt hf)).trans hf, h⟩
        have hst := fun W (L : Laid5 W w.heap.size G d j Ls) (g' k : Nat) => L.set (g := g') (c := k) hlt hjl
        have hi := fun w' => strss_at w' G d d j hlt
        have hGl := LL.lt
        generalize j * q = x at *
        generalize (j + 1) * q = y at *
        have hx4 : (x : Int) ≤ 400 := by omega
        have hy4 : (y : Int) ≤ 400 := by omega
        have hwx : IntKind.i64.wrap (x : Int) = (x : Int) := IntWalk.i64_in _ (by omega)
        have hwy : IntKind.i64.wrap (y : Int) = (y : Int) := IntWalk.i64_in _ (by omega)
        have hmx2 : IntKind.i64.wrap ((j : Int) * (q : Int)) = (x : Int) := by rw [hmx]; exact hwx
        have hmy2 : IntKind.i64.wrap (((j : Int) + 1) * (q : Int)) = (y : Int) := by rw [hmy]; exact hwy
        have hj1 : IntKind.i64.wrap ((j : Int) + 1) = (j : Int) + 1 := IntWalk.i64_in _ (by omega)
        generalize Ls[j] = M at *
        clear cR hb hN hd hi0 hs0 hdn hsub hxy hxc hy1 hjl
        go_wp2
        go_region_held3 (fun w' => w'.cell? ⟨Ba, 0, none⟩ = some (.func (.func 22) #[] #[.pointer (some ⟨Bb, 0, none⟩), .pointer (some ⟨Ba, 0, none⟩)]) ∧ Below w.heap.size w w')
          (first | exact H0 _ (by go_grown) | go_keep)
          ((go_at_call 22; (with_reducible refine (c1 _ (by go_grown)).mono ?_); rintro e2 w2 ⟨g', k', rfl, hg', hc', b2⟩; (have E2 : Below wr.heap.size wr w2 := Below.then (by go_grown) b2); (have G2 : wr.heap.size ≤ g' := Nat.le_trans (below_sz (B := wr.heap.size) (w0 := wr) (by go_grown) b2) hg'); (have F2 : Below w.heap.size w w2 := BB.trans (E2.mono BB.size)); (have L2 := LL.below E2); (have x2 := (L2.cell hlt).1); (have f2 := (L2.cell hlt).2 j)))
        all_goals go_wp2
        all_goals go_roundw
        case rel => exact ⟨j + 1, by omega, by go_num, by first | exact hst w2 L2 g' k' (by have := BB.size; omega) (by omega) hc' | exact (hst w2 L2 g' k' (by have := BB.size; omega) (by omega) hc').below ((Below.refl _ _).drew), by first | exact F2.setCell hG _ | exact (F2.setCell hG _).drew⟩
        case measure => simp [intOf]; omega
      · have ej : j = d := by omega
        subst ej
        have hn0 : ¬ (j : Int) < (j : Int) := by omega
        have cJ := joinedQ wr w.heap.size G Ls j hd.out (LL.blks hd.out) hb (by omega)
        clear cR hb hN hd hi0 hs0 hdn
        go_wp2_with (go_at_call 24; (with_reducible refine cJ.mono ?_); rintro e3 w3 ⟨v3, rfl, V3, b3⟩)
        go_ret
        exact ⟨_, rfl, V3.mono BB.size, BB.trans (b3.mono BB.size)⟩
end Go.Proofs.YtngcahaidlgkfaaDoor.Shape

namespace Go.Proofs.YtngcahaidlgkfaaDoor.Shape
open Go.RowKit Go.Proofs.YtngcahaidlgkfaaDoor.Num
set_option linter.unusedVariables false
set_option linter.unusedSimpArgs false

theorem ints_at2 (w' : World) (b so n cs k : Nat) (hk : k < n) : (Instr.indexAt 23 (.slice (some ⟨b, so, none⟩) n cs) (.int .i64 (k : Int))).run Tryd.prog w' = .ok (.pointer (some ⟨b, so + k, none⟩)) w' := by
  rw [run_indexAt_slice w' _ _ _ _ .i64 k elemInts, if_pos (by omega), sizeInts]
  show Result.ok _ w' = _
  rw [show ((k : Int).toNat * 1) = k by omega, add_plain]
theorem strs_at3 (w' : World) (g o n c k : Nat) (hk : k < n) : (Instr.indexAt 30 (.slice (some ⟨g, o, none⟩) n c) (.int .i64 (k : Int))).run Tryd.prog w' = .ok (.pointer (some ⟨g, o + k, none⟩)) w' := by
  rw [run_indexAt_slice w' _ _ _ _ .i64 k elemStrs, if_pos (by omega), sizeStrs]
  show Result.ok _ w' = _
  rw [show ((k : Int).toNat * 1) = k by omega, add_plain]
set_option maxRecDepth 100000 in
set_option maxHeartbeats 8000000 in
theorem lines2G (R C N c cs g o b so Bb Ba : Nat) (T : List (List UInt8)) (sep : List UInt8) (w : World) (hT : ∀ t ∈ T, t.length ≤ 300000) (hN : Hid (T.length = N)) (hN4 : N ≤ 400) (hRC : Hid (R * C = N)) (hR : R ≤ 400) (hC : C ≤ 400) (hsep : sep.length ≤ 10) (hs0 : w.cell? ⟨b, so, none⟩ = some (.int .i64 (R : Int))) (hs1 : w.cell? ⟨b, so + 1, none⟩ = some (.int .i64 (C : Int)))
    (hb : w.cell? ⟨Bb, 0, none⟩ = some (.string ⟨sep.toArray⟩)) (hX : ∀ (j : Nat) (hj : j < T.length), w.cell? ⟨g, o + j, none⟩ = some (.string ⟨T[j].toArray⟩)) :
    Calls Tryd.prog 22 #[.slice (some ⟨b, so, none⟩) 2 cs, .slice (some ⟨g, o, none⟩) N c, .pointer (some ⟨Bb, 0, none⟩), .pointer (some ⟨Ba, 0, none⟩)] w fun e w' => ∃ G, w.heap.size ≤ G ∧ e = .returned (.slice (some ⟨G, 0, none⟩) R R) ∧ Strs w' G (tabT R C T sep) ∧ Below w.heap.size w w' := by
  have i0 := fun w' => ints_at2 w' b so 2 cs 0 (by decide)
  have i1 := fun w' => ints_at2 w' b so 2 cs 1 (by decide)
  have i0' : ∀ w' : World, (Instr.indexAt 23 (.slice (some ⟨b, so, none⟩) 2 cs) (.int .i64 0)).run Tryd.prog w' = .ok (.pointer (some ⟨b, so, none⟩)) w' := i0
  have i1' : ∀ w' : World, (Instr.indexAt 23 (.slice (some ⟨b, so, none⟩) 2 cs) (.int .i64 1)).run Tryd.prog w' = .ok (.pointer (some ⟨b, so + 1, none⟩)) w' := i1
  clear i0 i1
  have cT : ∀ W, Below w.heap.size w W → Calls Tryd.prog 23 #[.int .i64 (R : Int), .int .i64 (C : Int), .slice (some ⟨g, o, none⟩) N c, .string ⟨sep.toArray⟩] W fun e w' => ∃ G, W.heap.size ≤ G ∧ e = .returned (.slice (some ⟨G, 0, none⟩) R R) ∧ Strs w' G (tabT R C T sep) ∧ Below W.heap.size W w' := fun W hW =>
    tab1 R C N T sep g o c W hT hN hN4 hRC hR hC hsep (fun j hj => (hW.cell (cell_lt (hX j hj))).trans (hX j hj)) (fun w' j hj => strs_at3 w' g o N c j hj)
  have H0 : ∀ w', Below w.heap.size w w' → (w'.cell? ⟨b, so, none⟩ = some (.int .i64 R) ∧ w'.cell? ⟨b, so + 1, none⟩ = some (.int .i64 C) ∧ w'.cell? ⟨Bb, 0, none⟩ = some (.string ⟨sep.toArray⟩)) ∧ Below w.heap.size w w' := fun w' h => ⟨⟨(h.cell (cell_lt hs0)).trans hs0, (h.cell (cell_lt hs1)).trans hs1, (h.cell (cell_lt hb)).trans hb⟩, h⟩
  clear hs0 hs1 hT hN hRC hX
  generalize (⟨sep.toArray⟩ : ByteArray) = sb at *
  go_enter Tryd.func22, Tryd.ntmps22
  go_wp2_with fail
  go_region_held3 (fun w' => (w'.cell? ⟨b, so, none⟩ = some (.int .i64 R) ∧ w'.cell? ⟨b, so + 1, none⟩ = some (.int .i64 C) ∧ w'.cell? ⟨Bb, 0, none⟩ = some (.string sb)) ∧ Below w.heap.size w w')
    (first | exact H0 _ (by go_grown) | go_keep)
    ((go_at_call 23; (with_reducible refine (cT _ (by go_grown)).mono ?_); rintro e w2 ⟨G, hG, rfl, S2, b2⟩; (have E2 : Below w.heap.size w w2 := Below.then (by go_grown) b2); (have S3 := E2.size)))
  all_goals go_wp2_with fail
  all_goals go_ret
  all_goals exact ⟨G, hG, rfl, S2, E2⟩
theorem part_at {T : List (List UInt8)} {q i j : Nat} (hj : j < (part T q i).length) (hT : i * q + j < T.length) : (part T q i)[j] = T[i * q + j] := by
  simp [part]
theorem asmQ (sep : List UInt8) (hsep : sep.length ≤ 10) (Bb Ba : Nat) : ∀ (s : List Nat), 2 ≤ s.length → (∀ x ∈ s, 0 < x) → ∀ (T : List (List UInt8)), T.length = prd s → T.length ≤ 400 → (∀ t ∈ T, t.length ≤ 300000) → ∀ (b so cs g o c : Nat) (w : World), s.length ≤ cs → cs ≤ 9223372036854775807 → T.length ≤ c → c ≤ 9223372036854775807 →
    (∀ (i : Nat) (hi : i < s.length), w.cell? ⟨b, so + i, none⟩ = some (.int .i64 (s[i] : Int))) → (∀ (j : Nat) (hj : j < T.length), w.cell? ⟨g, o + j, none⟩ = some (.string ⟨T[j].toArray⟩)) → w.cell? ⟨Bb, 0, none⟩ = some (.string ⟨sep.toArray⟩) →
    w.cell? ⟨Ba, 0, none⟩ = some (.func (.func 22) #[] #[.pointer (some ⟨Bb, 0, none⟩), .pointer (some ⟨Ba, 0, none⟩)]) →
    Calls Tryd.prog 22 #[.slice (some ⟨b, so, none⟩) s.length cs, .slice (some ⟨g, o, none⟩) T.length c, .pointer (some ⟨Bb, 0, none⟩), .pointer (some ⟨Ba, 0, none⟩)] w fun e w' => ∃ v, e = .returned v ∧ Lns w' w.heap.size v (asmS sep s T) ∧ Below w.heap.size w w'
  | [R, C], _, hpos, T, hTl, hT4, hTb, b, so, cs, g, o, c, w, hcs, hcs9, hc, hc9, hs, hX, hb, hf => by
    have hR := prd_ge hpos R (by simp)
    have hC := prd_ge hpos C (by simp)
    have hs0 := hs 0 (by simp)
    have hs1 := hs 1 (by simp)
    simp only [Nat.add_zero, List.getElem_cons_zero, List.getElem_cons_succ] at hs0 hs1
    have hRC : R * C = T.length := by rw [hTl]; simp [prd]
    refine (lines2G R C T.length c cs g o b so Bb Ba T sep w hTb (Lib.hid rfl) hT4 (Lib.hid hRC) (by omega) (by omega) hsep hs0 hs1 hb hX).mono ?_
    rintro e w' ⟨G, hG, rfl, S, bel⟩
    have hl : (asmS sep [R, C] T).length = R := by rw [asmS]; simp [tabT]
    exact ⟨_, rfl, Lns.of (L := asmS sep [R, C] T) S hl hG (by unfold maxLen; omega), bel⟩
  | d :: e :: f :: r, _, hpos, T, hTl, hT4, hTb, b, so, cs, g, o, c, w, hcs, hcs9, hc, hc9, hs, hX, hb, hf => by
    have hd0 : 0 < d := hpos d (by simp)
    have hd4 := prd_ge hpos d (by simp)
    have hq : T.length / d = prd (e :: f :: r) := by rw [hTl, prd, Nat.mul_div_cancel_left _ hd0]
    have hN : T.length = d * prd (e :: f :: r) := hTl
    have hq0 : 0 < prd (e :: f :: r) := prd_pos fun x hx => hpos x (List.mem_cons_of_mem _ hx)
    have hs0 := hs 0 (by simp)
    simp only [Nat.add_zero, List.getElem_cons_zero] at hs0
    have hi0 : ∀ w' : World, (Instr.indexAt 23 (.slice (some ⟨b, so, none⟩) (r.length + 3) cs) (.int .i64 0)).run Tryd.prog w' = .ok (.pointer (some ⟨b, so, none⟩)) w' := fun w' => ints_at2 w' b so _ cs 0 (by omega)
    have hlen : ((List.range d).map fun i => asmS sep (e :: f :: r) (part T (T.length / d) i)).length = d := by simp
    have hpl : ∀ i, i < d → (part T (T.length / d) i).length = prd (e :: f :: r) := fun i hi => by rw [hq]; exact part_len hN hi
    have hcs2 : r.length + 3 ≤ cs := by simpa using hcs
    have cR : ∀ W, Below w.heap.size w W → ∀ i (hi : i < ((List.range d).map fun i => asmS sep (e :: f :: r) (part T (T.length / d) i)).length), Calls Tryd.prog 22 #[.slice (some ⟨b, so + 1, none⟩) (r.length + 3 - 1) (cs - 1), .slice (some ⟨g, o + i * prd (e :: f :: r), none⟩) (prd (e :: f :: r)) (c - i * prd (e :: f :: r)), .pointer (some ⟨Bb, 0, none⟩), .pointer (some ⟨Ba, 0, none⟩)] W fun e' w' => ∃ g' k, e' = .returned (.slice (some ⟨g', 0, none⟩) ((List.range d).map fun i => asmS sep (e :: f :: r) (part T (T.length / d) i))[i].length k) ∧ W.heap.size ≤ g' ∧ (∀ j (hj : j < ((List.range d).map fun i => asmS sep (e :: f :: r) (part T (T.length / d) i))[i].length), w'.cell? ⟨g', j, none⟩ = some (sv ((List.range d).map fun i => asmS sep (e :: f :: r) (part T (T.length / d) i))[i][j])) ∧ Below W.heap.size W w' := fun W hW i hi => by
      have hid : i < d := by rw [hlen] at hi; exact hi
      have hy : (i + 1) * prd (e :: f :: r) ≤ d * prd (e :: f :: r) := Nat.mul_le_mul_right _ hid
      rw [Nat.succ_mul] at hy
      have hP := hpl i hid
      have ih := asmQ sep hsep Bb Ba (e :: f :: r) (by simp) (fun x hx => hpos x (List.mem_cons_of_mem _ hx)) (part T (T.length / d) i) hP (by rw [hP]; omega) (fun t ht => hTb t (List.mem_of_mem_drop (List.mem_of_mem_take ht))) b (so + 1) (cs - 1) g (o + i * prd (e :: f :: r)) (c - i * prd (e :: f :: r)) W
        (by simp; omega) (by omega) (by rw [hP]; omega) (by omega)
        (fun k hk => by
          have := hs (k + 1) (by simp at hk ⊢; omega)
          rw [show so + 1 + k = so + (k + 1) by omega]
          exact (hW.cell (cell_lt this)).trans this)
        (fun j hj => by
          rw [hP] at hj
          have hlt : i * prd (e :: f :: r) + j < T.length := by omega
          have := hX _ hlt
          have e2 : (part T (T.length / d) i)[j]'(by rw [hP]; exact hj) = T[i * prd (e :: f :: r) + j] := by
            have := part_at (T := T) (q := T.length / d) (i := i) (j := j) (by rw [hP]; exact hj) (by rw [hq]; exact hlt)
            rw [this]
            simp only [hq]
          rw [e2, show o + i * prd (e :: f :: r) + j = o + (i * prd (e :: f :: r) + j) by omega]
          exact (hW.cell (cell_lt this)).trans this)
        ((hW.cell (cell_lt hb)).trans hb) ((hW.cell (cell_lt hf)).trans hf)
      rw [hP] at ih
      simp only [List.getElem_map, List.getElem_range]
      refine ih.mono ?_
      rintro e' w' ⟨v, rfl, V, bel⟩
      obtain ⟨g', k, rfl, hg, _, _, hcell⟩ := V.cell (asm_len sep (e :: f :: r) (by simp) (fun x hx => hpos x (List.mem_cons_of_mem _ hx)) _ hP).2
      exact ⟨g', k, rfl, hg, hcell, bel⟩
    have hbd : Hid (∀ j, j ≤ ((List.range d).map fun i => asmS sep (e :: f :: r) (part T (T.length / d) i)).length → (joinS (((List.range d).map fun i => asmS sep (e :: f :: r) (part T (T.length / d) i)).take j)).length ≤ 90000) := fun j hj => by
      have h1 := joinS_bd (2 * prd (e :: f :: r)) (((List.range d).map fun i => asmS sep (e :: f :: r) (part T (T.length / d) i)).take j) (fun l hl => by
        obtain ⟨i, hi, rfl⟩ := List.mem_map.1 (List.mem_of_mem_take hl)
        exact (asm_len sep (e :: f :: r) (by simp) (fun x hx => hpos x (List.mem_cons_of_mem _ hx)) _ (hpl i (List.mem_range.1 hi))).1)
      rw [List.length_take, hlen] at h1
      have h2 : min j d * (2 * prd (e :: f :: r)) ≤ d * (2 * prd (e :: f :: r)) := Nat.mul_le_mul_right _ (Nat.min_le_right _ _)
      have h3 : d * (2 * prd (e :: f :: r)) = 2 * T.length := by rw [hN, Nat.mul_left_comm]
      omega
    refine (asm3 (r.length + 3) d (prd (e :: f :: r)) T.length c cs g o b so Bb Ba _ w (by omega) hcs2 hcs9 (Lib.hid hlen) hd0 (by omega) (Lib.hid hN) hq0 hT4 hc hc9 hs0 hf hi0 cR hbd).mono ?_
    rintro e' w' ⟨v, rfl, V, bel⟩
    have e2 : asmS sep (d :: e :: f :: r) T = joinS ((List.range d).map fun i => asmS sep (e :: f :: r) (part T (T.length / d) i)) := rfl
    rw [← e2] at V
    exact ⟨v, rfl, V, bel⟩
end Go.Proofs.YtngcahaidlgkfaaDoor.Shape

namespace Go.Proofs.YtngcahaidlgkfaaDoor.Shape
open Go.RowKit Go.Proofs.YtngcahaidlgkfaaDoor.Num
set_option linter.unusedVariables false
set_option linter.unusedSimpArgs false

theorem run_pad3 {w : World} {a : Option Addr} {cap : Nat} {xs : List Int} (ty : TypeId) (G r : Nat) (hr : xs.length = r) (hr1 : 1 ≤ r) (hr2 : r ≤ 1000) (h : IntsAt w a cap xs) :
    ∃ a' c' w', (Builtin.append_ #[23, 23] ty #[.slice (some ⟨G, onesOff 2, none⟩) 0 0, .slice a r cap]).run Tryd.prog w = .ok (.slice a' r c') w' ∧ IntsAt w' a' c' xs ∧ Below w.heap.size w w' := by
  obtain ⟨i0, hi, hz0, hz1, hz2⟩ := info_parts infoInt
  obtain ⟨h1, h2, h3, b, off, ha, hc⟩ := h
  have hne : xs ≠ [] := by intro e; subst e; simp at hr; omega
  have e := ha hne
  subst e
  obtain ⟨v', w', hrun, hown, hgrow⟩ := run_append_arg_grows (P := Tryd.prog) w 23 ty 3 i0 (.int .i64 0) 1 8 Tryd.underlying23 hi hz0 hz1 hz2 rfl (by decide)
    ⟨G, onesOff 2, none⟩ 0 0 [] (by simp) (by intro j u hj; simp at hj)
    ⟨b, off, none⟩ r cap (xs.map (Value.int .i64)) (by simp [hr]) (by
      intro j u hj
      rw [add_plain]
      have hjl : j < xs.length := by
        have := (List.getElem?_eq_some_iff.1 hj).1
        simpa using this
      rw [hc j hjl, ← hj, List.getElem?_map, List.getElem?_eq_getElem hjl]
      rfl) (by omega) (by unfold maxLen; omega) (by omega)
  rw [List.nil_append, Nat.zero_add] at hown
  obtain ⟨a', c', rfl, hon⟩ := ints_of_own (by omega) hown (fun x hx => h3 x hx)
  rw [hr] at hrun
  exact ⟨a', c', w', hrun, hon.1, (Below.refl _ _).grown hgrow (Nat.le_refl _) (fun k hk => by simp at hk)⟩
theorem step_pad3 {ops : Array Oper} {o : Oper} {a : Act} {w : World} {K : Act → World → Prop} {Q : Exit → Act → World → Prop} {E : Prop} (hgd : o.guard = none) (s x : Operand)
    (ho : o.op = .call { callee := .builtin .append, args := #[s, x], argTypes := #[23, 23] }) (G r : Nat) (hs : a.eval s = .slice (some ⟨G, onesOff 2, none⟩) 0 0)
    (ad : Option Addr) (c : Nat) (xs : List Int) (hx : a.eval x = .slice ad r c) (hr : xs.length = r) (hr1 : 1 ≤ r) (hr2 : r ≤ 1000) (hi : IntsAt w ad c xs)
    (h : ∀ a' c' w', IntsAt w' a' c' xs → Below w.heap.size w w' → K (a.put o.dst (.slice a' r c')) w') :
    if Region.wanted o (yielded ops a.tmps) = true then Oper.wp Tryd.prog o a w K Q else E := by
  have hw : Region.wanted o (yielded ops a.tmps) = true := by simp [Region.wanted, hgd]
  rw [if_pos hw]
  obtain ⟨a', c', w', hrun, h1, h2⟩ := run_pad3 o.type G r hr hr1 hr2 hi
  unfold Oper.wp execOp
  simp only [ho, resolve, invoke, builtin, Sem.run_bind, Sem.run_pure, Result.andThen_ok, List.map_toArray, List.map_cons, List.map_nil, hs, hx, hrun]
  exact h a' c' w' h1 h2
set_option maxRecDepth 100000 in
set_option maxHeartbeats 16000000 in
theorem linesR3o (k : Int) (hk : (k == 2) = false) (n : Nat) (hn : 3 ≤ n) (hn9 : n ≤ 1000) (sh nu : List Int) (it : List Arr) (v : Value) (w : World) (N : Nat) (T : List (List UInt8)) (P : Value → World → Prop) (hA : ArrAt w v (.mk k sh nu it)) (hr : Hid (sh.length = n)) (hx : rightE (.mk k sh nu it) = 0) (hz : aSize (.mk k sh nu it) ≠ 0)
    (cC : ∀ W, Below w.heap.size w W → Calls Tryd.prog 25 #[v] W fun e w' => ∃ g, W.heap.size ≤ g ∧ e = .returned (.slice (some ⟨g, 0, none⟩) N N) ∧ Strs w' g T ∧ Below W.heap.size W w')
    (cJ : ∀ W a c g, Below w.heap.size w W → IntsAt W a c sh → Strs W g T → ∀ Bb Ba, W.cell? ⟨Bb, 0, none⟩ = some (.string ⟨#[32]⟩) → W.cell? ⟨Ba, 0, none⟩ = some (.func (.func 22) #[] #[.pointer (some ⟨Bb, 0, none⟩), .pointer (some ⟨Ba, 0, none⟩)]) → Calls Tryd.prog 22 #[.slice a n c, .slice (some ⟨g, 0, none⟩) N N, .pointer (some ⟨Bb, 0, none⟩), .pointer (some ⟨Ba, 0, none⟩)] W fun e w' => ∃ v', e = .returned v' ∧ P v' w' ∧ Below W.heap.size W w') :
    Calls Tryd.prog 11 #[v] w fun e w' => ∃ v', e = .returned v' ∧ P v' w' ∧ Below w.heap.size w w' := by
  have hn2 : (2 : Int) ≤ (n : Int) := by omega
  have hmin : min (n : Int) 2 = 2 := by omega
  have hmf : ∀ (fn : Fn) (first cap : Array Value) (w : World), (Instr.makeFunc fn first cap).run Tryd.prog w = .ok (.func fn first cap) w := fun _ _ _ _ => rfl
  have hA' := hA
  rw [ArrAt] at hA'
  obtain ⟨sa, sc, na, nc, ia, ic, rfl, -, hs, -⟩ := hA'
  have hr' := hr.out
  rw [hr'] at hA cC ⊢
  clear hr'
  have bw := below_new w (.cells #[.int .i64 k, .slice sa n sc, .slice na nu.length nc, .slice ia it.length ic] 26)
  have q0 := Quad.new w (.int .i64 k) (.slice sa n sc) (.slice na nu.length nc) (.slice ia it.length ic)
  have cR := rightQ _ _ _ (hA.below bw)
  rw [hx] at cR
  have cZ := fun v W (g : ArrAt W v (.mk k sh nu it)) => sizeQ v _ W g
  have hz2 : ((aSize (.mk k sh nu it) : Int) == 0) = false := by rw [beq_eq_false_iff_ne]; omega
  have hA1 := hA.below bw
  generalize aSize (.mk k sh nu it) = sz at *
  obtain ⟨sb, hsb⟩ : ∃ sb : ByteArray, Hid (⟨#[32]⟩ = sb) := ⟨_, rfl⟩
  clear hx hA
  go_enter Tryd.func11, Tryd.ntmps11
  go_upto_region 12 with (first
    | (go_at_call 18; (with_reducible refine cR.mono ?_); rintro e1 w1 ⟨rfl, b1⟩; have q1 := Quad.below b1 q0; obtain ⟨y0, y1, y2, y3, -⟩ := q1.cells; have hA2 := hA1.below b1)
    | (go_at_call 21; (with_reducible refine (cZ _ _ hA2).mono ?_); rintro e2 w2 ⟨rfl, b2⟩; have q2 := Quad.below b2 q1; obtain ⟨x0, x1, x2, x3, -⟩ := q2.cells; obtain ⟨z0, z1, z2, z3, -⟩ := (Quad.below (below_new w2 (.cells #[.string ⟨#[32]⟩] 9)) q2).cells))
  have L0 := LnW.new w w2 w.heap.size _ _ _ _ ⟨#[32]⟩ 9 36 40 q2 (Below.then (Below.then bw b1) b2)
  obtain ⟨wx, hwx, L⟩ : ∃ wx, wx = _ ∧ LnW w wx w.heap.size w2.heap.size (w2.heap.size + 1) (w2.heap.size + 1 + 1) 0 (.int .i64 k) (.slice sa n sc) (.slice na nu.length nc) (.slice ia it.length ic) ⟨#[32]⟩ := ⟨_, rfl, L0⟩
  simp only [← hwx]
  clear hwx L0 b2 q2 x0 x1 x2 x3 hA2 hA1 cZ q1 b1 y0 y1 y2 y3 z0 z1 z2 z3 cR bw q0 hmf
  generalize w2.heap.size + 1 + 1 = Go at *
  generalize w2.heap.size + 1 = Ba at *
  generalize w2.heap.size = Bb at *
  obtain ⟨l0, l1, l2, l3, ls, lf, m0, m1, bel⟩ := L
  rw [hsb.out] at ls cJ
  have hsz := bel.size
  have H0 : ∀ w', Below wx.heap.size wx w' → (w'.cell? ⟨Bb, 0, none⟩ = some (.string sb) ∧ w'.cell? ⟨Ba, 0, none⟩ = some (.func (.func 22) #[] #[.pointer (some ⟨Bb, 0, none⟩), .pointer (some ⟨Ba, 0, none⟩)]) ∧ w'.cell? ⟨Go, 0, none⟩ = some (.int .i64 1) ∧ w'.cell? ⟨Go, 1, none⟩ = some (.int .i64 1) ∧ w'.cell? ⟨w.heap.size, 0, none⟩ = some (.int .i64 k) ∧ w'.cell? ⟨w.heap.size, 1, none⟩ = some (.slice sa n sc) ∧ w'.cell? ⟨w.heap.size, 2, none⟩ = some (.slice na nu.length nc) ∧ w'.cell? ⟨w.heap.size, 3, none⟩ = some (.slice ia it.length ic)) ∧ Below wx.heap.size wx w' :=
    fun w' h => ⟨⟨(h.cell (cell_lt ls)).trans ls, (h.cell (cell_lt lf)).trans lf, (h.cell (cell_lt m0)).trans m0, (h.cell (cell_lt m1)).trans m1, (h.cell (cell_lt l0)).trans l0, (h.cell (cell_lt l1)).trans l1, (h.cell (cell_lt l2)).trans l2, (h.cell (cell_lt l3)).trans l3⟩, h⟩
  have hsl : ∀ w', (Instr.sliceAt 40 (.pointer (some ⟨Go, 0, none⟩)) (some (.int .i64 2)) none none).run Tryd.prog w' = .ok (.slice (some ⟨Go, onesOff 2, none⟩) 0 0) w' := fun w' => ones_slice w' Go 2 (by decide)
  have cC2 : ∀ W, Below wx.heap.size wx W → _ := fun W h => cC W (Below.then bel h)
  clear cC l0 l1 l2 l3 ls lf m0 m1
  go_region_held3 (fun w' => (w'.cell? ⟨Bb, 0, none⟩ = some (.string sb) ∧ w'.cell? ⟨Ba, 0, none⟩ = some (.func (.func 22) #[] #[.pointer (some ⟨Bb, 0, none⟩), .pointer (some ⟨Ba, 0, none⟩)]) ∧ w'.cell? ⟨Go, 0, none⟩ = some (.int .i64 1) ∧ w'.cell? ⟨Go, 1, none⟩ = some (.int .i64 1) ∧ w'.cell? ⟨w.heap.size, 0, none⟩ = some (.int .i64 k) ∧ w'.cell? ⟨w.heap.size, 1, none⟩ = some (.slice sa n sc) ∧ w'.cell? ⟨w.heap.size, 2, none⟩ = some (.slice na nu.length nc) ∧ w'.cell? ⟨w.heap.size, 3, none⟩ = some (.slice ia it.length ic)) ∧ Below wx.heap.size wx w')
    (first | exact H0 _ E2 | exact H0 _ E1 | exact H0 _ (Below.refl _ _).drew | go_keep)
    ((first
      | (go_at_call 25; (with_reducible refine (cC2 _ E1).mono ?_); rintro e2 w2 ⟨g, hg, rfl, S2, b2⟩; (have E2 : Below wx.heap.size wx w2 := Below.then E1 b2); (have i2 := IntsAt.below i1 b2))
      | (go_at_call 22; (with_reducible refine (cJ _ _ _ _ (Below.then bel E2) i2 S2 _ _ (H0 _ E2).1.1 (H0 _ E2).1.2.1).mono ?_); rintro e3 w3 ⟨v3, rfl, S3, b3⟩; (have E3 : Below wx.heap.size wx w3 := Below.then E2 b3))
      | ((refine step_pad3 rfl _ _ rfl Go n rfl sa sc sh rfl hr.out (by omega) hn9 (by go_split_ands; exact IntsAt.below hs (Below.then bel (by assumption))) ?_); intro a1 c1 w1 i1 b1; (have E1 : Below wx.heap.size wx w1 := by go_split_ands; exact Below.then (by assumption) b1))))
  all_goals go_wp2_with fail
  all_goals go_ret
  all_goals exact ⟨v3, rfl, S3, Below.then bel E3⟩
set_option maxRecDepth 100000 in
set_option maxHeartbeats 16000000 in
theorem linesR3c (n : Nat) (hn : 3 ≤ n) (hn9 : n ≤ 1000) (sh nu : List Int) (it : List Arr) (v : Value) (w : World) (N : Nat) (T : List (List UInt8)) (P : Value → World → Prop) (hA : ArrAt w v (.mk 2 sh nu it)) (hr : Hid (sh.length = n)) (hx : rightE (.mk 2 sh nu it) = 0) (hz : aSize (.mk 2 sh nu it) ≠ 0)
    (cC : ∀ W, Below w.heap.size w W → Calls Tryd.prog 25 #[v] W fun e w' => ∃ g, W.heap.size ≤ g ∧ e = .returned (.slice (some ⟨g, 0, none⟩) N N) ∧ Strs w' g T ∧ Below W.heap.size W w')
    (cJ : ∀ W a c g, Below w.heap.size w W → IntsAt W a c sh → Strs W g T → ∀ Bb Ba, W.cell? ⟨Bb, 0, none⟩ = some (.string ⟨#[]⟩) → W.cell? ⟨Ba, 0, none⟩ = some (.func (.func 22) #[] #[.pointer (some ⟨Bb, 0, none⟩), .pointer (some ⟨Ba, 0, none⟩)]) → Calls Tryd.prog 22 #[.slice a n c, .slice (some ⟨g, 0, none⟩) N N, .pointer (some ⟨Bb, 0, none⟩), .pointer (some ⟨Ba, 0, none⟩)] W fun e w' => ∃ v', e = .returned v' ∧ P v' w' ∧ Below W.heap.size W w') :
    Calls Tryd.prog 11 #[v] w fun e w' => ∃ v', e = .returned v' ∧ P v' w' ∧ Below w.heap.size w w' := by
  have hn2 : (2 : Int) ≤ (n : Int) := by omega
  have hmin : min (n : Int) 2 = 2 := by omega
  have hmf : ∀ (fn : Fn) (first cap : Array Value) (w : World), (Instr.makeFunc fn first cap).run Tryd.prog w = .ok (.func fn first cap) w := fun _ _ _ _ => rfl
  have hA' := hA
  rw [ArrAt] at hA'
  obtain ⟨sa, sc, na, nc, ia, ic, rfl, -, hs, -⟩ := hA'
  have hr' := hr.out
  rw [hr'] at hA cC ⊢
  clear hr'
  have bw := below_new w (.cells #[.int .i64 2, .slice sa n sc, .slice na nu.length nc, .slice ia it.length ic] 26)
  have q0 := Quad.new w (.int .i64 2) (.slice sa n sc) (.slice na nu.length nc) (.slice ia it.length ic)
  have cR := rightQ _ _ _ (hA.below bw)
  rw [hx] at cR
  have cZ := fun v W (g : ArrAt W v (.mk 2 sh nu it)) => sizeQ v _ W g
  have hz2 : ((aSize (.mk 2 sh nu it) : Int) == 0) = false := by rw [beq_eq_false_iff_ne]; omega
  have hA1 := hA.below bw
  generalize aSize (.mk 2 sh nu it) = sz at *
  obtain ⟨sb, hsb⟩ : ∃ sb : ByteArray, Hid (⟨#[]⟩ = sb) := ⟨_, rfl⟩
  clear hx hA
  go_enter Tryd.func11, Tryd.ntmps11
  go_upto_region 12 with (first
    | (go_at_call 18; (with_reducible refine cR.mono ?_); rintro e1 w1 ⟨rfl, b1⟩; have q1 := Quad.below b1 q0; obtain ⟨y0, y1, y2, y3, -⟩ := q1.cells; have hA2 := hA1.below b1)
    | (go_at_call 21; (with_reducible refine (cZ _ _ hA2).mono ?_); rintro e2 w2 ⟨rfl, b2⟩; have q2 := Quad.below b2 q1; obtain ⟨x0, x1, x2, x3, -⟩ := q2.cells; obtain ⟨z0, z1, z2, z3, -⟩ := (Quad.below (below_new w2 (.cells #[.string ⟨#[32]⟩] 9)) q2).cells))
  have L0 := LnW.new w w2 w.heap.size _ _ _ _ ⟨#[]⟩ 9 36 40 q2 (Below.then (Below.then bw b1) b2)
  obtain ⟨wx, hwx, L⟩ : ∃ wx, wx = _ ∧ LnW w wx w.heap.size w2.heap.size (w2.heap.size + 1) (w2.heap.size + 1 + 1) 0 (.int .i64 2) (.slice sa n sc) (.slice na nu.length nc) (.slice ia it.length ic) ⟨#[]⟩ := ⟨_, rfl, L0⟩
  simp only [← hwx]
  clear hwx L0 b2 q2 x0 x1 x2 x3 hA2 hA1 cZ q1 b1 y0 y1 y2 y3 z0 z1 z2 z3 cR bw q0 hmf
  generalize w2.heap.size + 1 + 1 = Go at *
  generalize w2.heap.size + 1 = Ba at *
  generalize w2.heap.size = Bb at *
  obtain ⟨l0, l1, l2, l3, ls, lf, m0, m1, bel⟩ := L
  rw [hsb.out] at ls cJ
  have hsz := bel.size
  have H0 : ∀ w', Below wx.heap.size wx w' → (w'.cell? ⟨Bb, 0, none⟩ = some (.string sb) ∧ w'.cell? ⟨Ba, 0, none⟩ = some (.func (.func 22) #[] #[.pointer (some ⟨Bb, 0, none⟩), .pointer (some ⟨Ba, 0, none⟩)]) ∧ w'.cell? ⟨Go, 0, none⟩ = some (.int .i64 1) ∧ w'.cell? ⟨Go, 1, none⟩ = some (.int .i64 1) ∧ w'.cell? ⟨w.heap.size, 0, none⟩ = some (.int .i64 2) ∧ w'.cell? ⟨w.heap.size, 1, none⟩ = some (.slice sa n sc) ∧ w'.cell? ⟨w.heap.size, 2, none⟩ = some (.slice na nu.length nc) ∧ w'.cell? ⟨w.heap.size, 3, none⟩ = some (.slice ia it.length ic)) ∧ Below wx.heap.size wx w' :=
    fun w' h => ⟨⟨(h.cell (cell_lt ls)).trans ls, (h.cell (cell_lt lf)).trans lf, (h.cell (cell_lt m0)).trans m0, (h.cell (cell_lt m1)).trans m1, (h.cell (cell_lt l0)).trans l0, (h.cell (cell_lt l1)).trans l1, (h.cell (cell_lt l2)).trans l2, (h.cell (cell_lt l3)).trans l3⟩, h⟩
  have hsl : ∀ w', (Instr.sliceAt 40 (.pointer (some ⟨Go, 0, none⟩)) (some (.int .i64 2)) none none).run Tryd.prog w' = .ok (.slice (some ⟨Go, onesOff 2, none⟩) 0 0) w' := fun w' => ones_slice w' Go 2 (by decide)
  have cC2 : ∀ W, Below wx.heap.size wx W → _ := fun W h => cC W (Below.then bel h)
  clear cC l0 l1 l2 l3 ls lf m0 m1
  go_region_held3 (fun w' => (w'.cell? ⟨Bb, 0, none⟩ = some (.string sb) ∧ w'.cell? ⟨Ba, 0, none⟩ = some (.func (.func 22) #[] #[.pointer (some ⟨Bb, 0, none⟩), .pointer (some ⟨Ba, 0, none⟩)]) ∧ w'.cell? ⟨Go, 0, none⟩ = some (.int .i64 1) ∧ w'.cell? ⟨Go, 1, none⟩ = some (.int .i64 1) ∧ w'.cell? ⟨w.heap.size, 0, none⟩ = some (.int .i64 2) ∧ w'.cell? ⟨w.heap.size, 1, none⟩ = some (.slice sa n sc) ∧ w'.cell? ⟨w.heap.size, 2, none⟩ = some (.slice na nu.length nc) ∧ w'.cell? ⟨w.heap.size, 3, none⟩ = some (.slice ia it.length ic)) ∧ Below wx.heap.size wx w')
    (first | exact H0 _ E2 | exact H0 _ E1 | exact H0 _ (Below.refl _ _).drew | go_keep)
    ((first
      | (go_at_call 25; (with_reducible refine (cC2 _ E1).mono ?_); rintro e2 w2 ⟨g, hg, rfl, S2, b2⟩; (have E2 : Below wx.heap.size wx w2 := Below.then E1 b2); (have i2 := IntsAt.below i1 b2))
      | (go_at_call 22; (with_reducible refine (cJ _ _ _ _ (Below.then bel E2) i2 S2 _ _ (H0 _ E2).1.1 (H0 _ E2).1.2.1).mono ?_); rintro e3 w3 ⟨v3, rfl, S3, b3⟩; (have E3 : Below wx.heap.size wx w3 := Below.then E2 b3))
      | ((refine step_pad3 rfl _ _ rfl Go n rfl sa sc sh rfl hr.out (by omega) hn9 (by go_split_ands; exact IntsAt.below hs (Below.then bel (by assumption))) ?_); intro a1 c1 w1 i1 b1; (have E1 : Below wx.heap.size wx w1 := by go_split_ands; exact Below.then (by assumption) b1))))
  all_goals go_wp2_with fail
  all_goals go_ret
  all_goals exact ⟨v3, rfl, S3, Below.then bel E3⟩
end Go.Proofs.YtngcahaidlgkfaaDoor.Shape

namespace Go.Proofs.YtngcahaidlgkfaaDoor.Shape
open Go.RowKit Go.Proofs.YtngcahaidlgkfaaDoor.Num
set_option linter.unusedVariables false
set_option linter.unusedSimpArgs false

/-- The shape with at least two axes. -/
def shp (sh : List Int) : List Nat := List.replicate (2 - sh.length) 1 ++ sh.map Int.toNat
/-- The lines of an array. -/
def linS : Arr → List (List UInt8)
  | .mk k sh nu it => if rightE (.mk k sh nu it) ≠ 0 ∨ (2 ≤ sh.length ∧ aSize (.mk k sh nu it) = 0) then [] else asmS (sepK k) (shp sh) (ctT (.mk k sh nu it))
theorem prd_pr : ∀ {sh : List Int}, (∀ x ∈ sh, 0 ≤ x) → ((prd (sh.map Int.toNat) : Nat) : Int) = pr sh
  | [], _ => rfl
  | x :: r, h => by
    have h1 := prd_pr (sh := r) fun y hy => h y (by simp [hy])
    have h2 := h x (by simp)
    rw [List.map_cons, prd, pr, ← h1, Int.natCast_mul, Int.toNat_of_nonneg h2]
theorem pr_dims : ∀ {sh : List Int}, (∀ x ∈ sh, 0 ≤ x) → pr sh ≠ 0 → ∀ x ∈ sh, 0 < x
  | y :: r, h, hp, x, hx => by
    rw [pr] at hp
    have hy := h y (by simp)
    rcases List.mem_cons.1 hx with rfl | hx
    · have : x ≠ 0 := fun e => hp (by rw [e, Int.zero_mul])
      omega
    · exact pr_dims (fun z hz => h z (by simp [hz])) (fun e => hp (by rw [e, Int.mul_zero])) x hx
theorem prd_rep (n : Nat) (s : List Nat) : prd (List.replicate n 1 ++ s) = prd s := by
  induction n with
  | zero => rfl
  | succ n ih => rw [List.replicate_succ, List.cons_append, prd, ih, Nat.one_mul]
structure Dim (sh : List Int) (N : Nat) : Prop where
  few : sh.length ≤ 8
  nn : ∀ x ∈ sh, 0 ≤ x
  all : prd (sh.map Int.toNat) = N
  pos : N ≠ 0 → ∀ x ∈ sh, 0 < x
theorem dim_of {k : Int} {sh nu : List Int} {it : List Arr} (h : rightE (.mk k sh nu it) = 0) : Dim sh (aSize (.mk k sh nu it)) := by
  have V := val_of h
  have hd := V.dims
  have hs := V.size
  have hl : ¬ 8 < sh.length := fun q => by rw [dimsE_long q] at hd; omega
  have hn : NN sh := Classical.byContradiction fun q => by rw [dimsE_neg hl q] at hd; omega
  have hp := prd_pr hn
  refine ⟨by omega, hn, by omega, fun h0 => pr_dims hn (by omega)⟩
set_option maxRecDepth 100000 in
set_option maxHeartbeats 4000000 in
theorem linesNoneN {k : Int} {sh nu : List Int} {it : List Arr} {v : Value} {w : World} (n : Nat) (hn : 2 ≤ n) (h : ArrAt w v (.mk k sh nu it)) (hr : sh.length = n) (hx : rightE (.mk k sh nu it) = 0) (hz : aSize (.mk k sh nu it) = 0) :
    Calls Tryd.prog 11 #[v] w fun e w' => e = .returned (.slice none 0 0) ∧ Below w.heap.size w w' := by
  have hn2 : (2 : Int) ≤ (n : Int) := by omega
  have hA := h
  rw [ArrAt] at h
  obtain ⟨sa, sc, na, nc, ia, ic, rfl, -⟩ := h
  rw [hr] at hA ⊢
  have cR := fun v W (g : ArrAt W v (.mk k sh nu it)) => rightQ v _ W g
  have cZ := fun v W (g : ArrAt W v (.mk k sh nu it)) => sizeQ v _ W g
  rw [hx] at cR
  rw [hz] at cZ
  have bw := below_new w (.cells #[.int .i64 k, .slice sa n sc, .slice na nu.length nc, .slice ia it.length ic] 26)
  have q0 := Quad.new w (.int .i64 k) (.slice sa n sc) (.slice na nu.length nc) (.slice ia it.length ic)
  have hA1 := hA.below bw
  clear hx hz hr hA
  go_enter Tryd.func11, Tryd.ntmps11
  go_wp2_with (first
    | (go_at_call 18; (with_reducible refine (cR _ _ hA1).mono ?_); rintro e1 w1 ⟨rfl, b1⟩; have q1 := Quad.below b1 q0; obtain ⟨y0, y1, y2, y3, -⟩ := q1.cells; have hA2 := hA1.below b1)
    | (go_at_call 21; (with_reducible refine (cZ _ _ hA2).mono ?_); rintro e2 w2 ⟨rfl, b2⟩))
  go_ret
  exact ⟨rfl, Below.then (Below.then bw b1) b2⟩
theorem ints_cells {w : World} {a : Option Addr} {c : Nat} {sh : List Int} (hi : IntsAt w a c sh) (hnn : ∀ x ∈ sh, 0 ≤ x) (hne : sh ≠ []) : ∃ b so : Nat, a = some ⟨b, so, none⟩ ∧ ∀ (i : Nat) (h : i < (sh.map Int.toNat).length), w.cell? ⟨b, so + i, none⟩ = some (.int .i64 ((sh.map Int.toNat)[i] : Int)) := by
  obtain ⟨h1, h2, h3, b, off, ha, hc⟩ := hi
  refine ⟨b, off, ha hne, fun i h => ?_⟩
  have hl : i < sh.length := by simpa using h
  rw [hc i hl, List.getElem_map, Int.toNat_of_nonneg (hnn _ (List.getElem_mem hl))]
set_option maxHeartbeats 4000000 in
/-- Lines of a valid array of three axes and more, with elements. -/
theorem linesHigh {k : Int} {sh nu : List Int} {it : List Arr} {v : Value} {w : World} (h : ArrAt w v (.mk k sh nu it)) (hr : 3 ≤ sh.length) (hx : rightE (.mk k sh nu it) = 0) (hw : wt (.mk k sh nu it) ≤ 400) (hz : aSize (.mk k sh nu it) ≠ 0) (hT : Tok.TZ w) (hg : 3 < w.heap.size) :
    Calls Tryd.prog 11 #[v] w fun e w' => ∃ lv, e = .returned lv ∧ Lns w' w.heap.size lv (asmS (sepK k) (sh.map Int.toNat) (ctT (.mk k sh nu it))) ∧ Below w.heap.size w w' := by
  have D := dim_of hx
  have hl := ctT_len hx
  have hwf := wt_few hw
  have hsn := sumW_nn it
  have hN4 : aSize (.mk k sh nu it) ≤ 400 := by
    split at hwf <;> omega
  have hbd := ctT_bd hx hw
  have hpos : ∀ x ∈ sh.map Int.toNat, 0 < x := fun x hx => by
    obtain ⟨y, hy, rfl⟩ := List.mem_map.1 hx
    have := D.pos hz y hy
    omega
  have cC : ∀ W, Below w.heap.size w W → _ := fun W hW => ct_any (h.below hW) hx hw (Tok.TZ.below hT hW) (Nat.lt_of_lt_of_le hg hW.size)
  have cJ : ∀ sb : List UInt8, sb.length ≤ 10 → ∀ W a c g, Below w.heap.size w W → IntsAt W a c sh → Strs W g (ctT (.mk k sh nu it)) → ∀ Bb Ba, W.cell? ⟨Bb, 0, none⟩ = some (.string ⟨sb.toArray⟩) → W.cell? ⟨Ba, 0, none⟩ = some (.func (.func 22) #[] #[.pointer (some ⟨Bb, 0, none⟩), .pointer (some ⟨Ba, 0, none⟩)]) → Calls Tryd.prog 22 #[.slice a sh.length c, .slice (some ⟨g, 0, none⟩) (aSize (.mk k sh nu it)) (aSize (.mk k sh nu it)), .pointer (some ⟨Bb, 0, none⟩), .pointer (some ⟨Ba, 0, none⟩)] W fun e w' => ∃ v', e = .returned v' ∧ Lns w' w.heap.size v' (asmS sb (sh.map Int.toNat) (ctT (.mk k sh nu it))) ∧ Below W.heap.size W w' := by
    intro sb hsb W a c g hW hi hS Bb Ba hb hf
    obtain ⟨b, so, rfl, hc⟩ := ints_cells hi D.nn (by intro e; subst e; simp at hr)
    have := asmQ sb hsb Bb Ba (sh.map Int.toNat) (by simp; omega) hpos (ctT (.mk k sh nu it)) (by rw [hl, D.all]) (by omega) hbd b so c g 0 (aSize (.mk k sh nu it)) W (by simpa using hi.1) hi.2.1 (by omega) (by omega) hc (fun j hj => by rw [Nat.zero_add]; exact hS.cell hj) hb hf
    rw [hl, List.length_map] at this
    refine this.mono ?_
    rintro e w' ⟨v', rfl, V, bel⟩
    exact ⟨v', rfl, V.mono hW.size, bel⟩
  by_cases h2 : k = 2
  · subst h2
    rw [sepK, if_pos rfl]
    exact linesR3c _ hr (by have := D.few; omega) sh nu it v w _ _ _ h (Lib.hid rfl) hx hz cC (cJ [] (by decide))
  · rw [sepK, if_neg h2]
    exact linesR3o k (by simpa using h2) _ hr (by have := D.few; omega) sh nu it v w _ _ _ h (Lib.hid rfl) hx hz cC (cJ [32] (by decide))
set_option maxHeartbeats 4000000 in
/-- Lines of an array of few elements. -/
theorem linesP {A : Arr} {v : Value} {w : World} (h : ArrAt w v A) (hw : wt A ≤ 400) (hT : Tok.TZ w) (hg : 3 < w.heap.size) :
    Calls Tryd.prog 11 #[v] w fun e w' => ∃ lv, e = .returned lv ∧ Lns w' w.heap.size lv (linS A) ∧ Below w.heap.size w w' := by
  obtain ⟨k, sh, nu, it⟩ := A
  by_cases hxn : rightE (.mk k sh nu it) ≠ 0
  · have hx := hxn
    rw [linS, if_pos (.inl hx)]
    refine (linesBad v _ w h hx).mono ?_
    rintro e w' ⟨rfl, b⟩
    exact ⟨_, rfl, Lns.nil _ _, b⟩
  have hx : rightE (.mk k sh nu it) = 0 := Classical.byContradiction hxn
  have D := dim_of hx
  have hl := ctT_len hx
  have hwf := wt_few hw
  have hsn := sumW_nn it
  have hN4 : aSize (.mk k sh nu it) ≤ 400 := by
    split at hwf <;> omega
  have hbd := ctT_bd hx hw
  by_cases h2 : 2 ≤ sh.length
  · by_cases hz : aSize (.mk k sh nu it) = 0
    · rw [linS, if_pos (.inr ⟨h2, hz⟩)]
      refine (linesNoneN sh.length h2 h rfl hx hz).mono ?_
      rintro e w' ⟨rfl, b⟩
      exact ⟨_, rfl, Lns.nil _ _, b⟩
    rw [linS, if_neg (by rintro (q | q); exact q hx; exact hz q.2)]
    have hsp : shp sh = sh.map Int.toNat := by rw [shp, Nat.sub_eq_zero_of_le h2]; rfl
    rw [hsp]
    by_cases h3 : 3 ≤ sh.length
    · exact linesHigh h h3 hx hw hz hT hg
    · obtain ⟨x, y, rfl⟩ : ∃ x y, sh = [x, y] := by
        match sh, h2, h3 with
        | [x, y], _, _ => exact ⟨x, y, rfl⟩
        | _ :: _ :: _ :: _, _, h3 => exact absurd (by simp) h3
      have hx0 := D.pos hz x (by simp)
      have hy0 := D.pos hz y (by simp)
      obtain ⟨R, rfl⟩ : ∃ R : Nat, x = (R : Int) := ⟨x.toNat, by omega⟩
      obtain ⟨C, rfl⟩ : ∃ C : Nat, y = (C : Int) := ⟨y.toNat, by omega⟩
      obtain ⟨_, hR4, _, c⟩ := linesMat R C h hx hw (by omega) (by omega) hT hg
      refine c.mono ?_
      rintro e w' ⟨G, hG, rfl, S, b⟩
      exact ⟨_, rfl, Lns.of (L := asmS (sepK k) ([(R : Int), (C : Int)].map Int.toNat) (ctT (.mk k [(R : Int), (C : Int)] nu it))) S (by simp [asmS, tabT]) hG (by unfold maxLen; omega), b⟩
  · have cC : ∀ W, Below w.heap.size w W → _ := fun W hW => ct_any (h.below hW) hx hw (Tok.TZ.below hT hW) (Nat.lt_of_lt_of_le hg hW.size)
    rw [linS, if_neg (by rintro (q | q); exact q hx; exact h2 q.1)]
    have hsh : sh = [] ∨ ∃ x, sh = [x] := by
      match sh, h2 with
      | [], _ => exact .inl rfl
      | [x], _ => exact .inr ⟨x, rfl⟩
      | _ :: _ :: _, h2 => exact absurd (by simp) h2
    obtain rfl | ⟨x, rfl⟩ := hsh
    · have hN := D.all
      simp only [List.map_nil, prd] at hN
      rw [← hN] at cC hl
      have : shp [] = [1, 1] := rfl
      rw [this]
      by_cases hk : k = 2
      · subst hk
        rw [sepK, if_pos rfl]
        refine (linesR0c [] nu it v w 1 1 1 _ h (Lib.hid rfl) (Lib.hid rfl) hx hbd (Lib.hid hl) (by decide) (Lib.hid rfl) (by decide) (by decide) cC).mono ?_
        rintro e w' ⟨G, hG, rfl, S, b⟩
        exact ⟨_, rfl, Lns.of (L := asmS [] [1, 1] (ctT (.mk 2 [] nu it))) S (by simp [asmS, tabT]) hG (by unfold maxLen; omega), b⟩
      · rw [sepK, if_neg hk]
        refine (linesR0o k (by simpa using hk) [] nu it v w 1 1 1 _ h (Lib.hid rfl) (Lib.hid rfl) hx hbd (Lib.hid hl) (by decide) (Lib.hid rfl) (by decide) (by decide) cC).mono ?_
        rintro e w' ⟨G, hG, rfl, S, b⟩
        exact ⟨_, rfl, Lns.of (L := asmS [32] [1, 1] (ctT (.mk k [] nu it))) S (by simp [asmS, tabT]) hG (by unfold maxLen; omega), b⟩
    · have hN := D.all
      have hx0 := D.nn x (by simp)
      obtain ⟨C, rfl⟩ : ∃ C : Nat, x = (C : Int) := ⟨x.toNat, by omega⟩
      simp only [List.map_cons, List.map_nil, prd, Int.toNat_natCast, Nat.mul_one] at hN
      rw [← hN] at cC hl hN4
      have : shp [(C : Int)] = [1, C] := by simp [shp]
      rw [this]
      by_cases hk : k = 2
      · subst hk
        rw [sepK, if_pos rfl]
        refine (linesR1c [(C : Int)] nu it v w 1 C C _ h (Lib.hid rfl) (Lib.hid (by simp)) hx hbd (Lib.hid hl) hN4 (Lib.hid (by simp)) (by decide) hN4 cC).mono ?_
        rintro e w' ⟨G, hG, rfl, S, b⟩
        exact ⟨_, rfl, Lns.of (L := asmS [] [1, C] (ctT (.mk 2 [(C : Int)] nu it))) S (by simp [asmS, tabT]) hG (by unfold maxLen; omega), b⟩
      · rw [sepK, if_neg hk]
        refine (linesR1o k (by simpa using hk) [(C : Int)] nu it v w 1 C C _ h (Lib.hid rfl) (Lib.hid (by simp)) hx hbd (Lib.hid hl) hN4 (Lib.hid (by simp)) (by decide) hN4 cC).mono ?_
        rintro e w' ⟨G, hG, rfl, S, b⟩
        exact ⟨_, rfl, Lns.of (L := asmS [32] [1, C] (ctT (.mk k [(C : Int)] nu it))) S (by simp [asmS, tabT]) hG (by unfold maxLen; omega), b⟩
end Go.Proofs.YtngcahaidlgkfaaDoor.Shape
