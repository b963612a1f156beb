/-
  Layer 4: append of ints onto a row of the call's own; slices.Grow of nil and slices.Concat of two lists of ints.
  Layer 4: the program's frameRank and Frame.
  Layer 4: slices.Concat of two lists of ints.
  Layer 4: the reference's Frame.
  Layer 4: the reference's Lead.
  Layer 4: the reference's checked.
  Layer 4: a list of arrays that a call gathers by append.
  Layer 4: what a gathering by append leaves: the row that has grown, and all other blocks but one as they were.
-/
import Derived.Test.YtkjbccodahleoaaBd16
import Derived.Lib.AppendZeros
import Derived.Laws.AppendOwn
import Derived.Handy
import Derived.Test.YtkjbccodahleoaaBd19
import Derived.Test.YtkjbccodahleoaaBd5
import Derived.Test.YtkjbccodahleoaaBd17
namespace Go.Proofs.Ytkjbccodahleoaa.Shape
open Go.RowKit
set_option linter.unusedVariables false

/-- append(row, xs...), where the row is the call's own. -/
theorem run_ints_own {w : World} {base n : Nat} {v : Value} {zs : List Value} {a : Option Addr} {cap : Nat} {xs : List Int} (ty : TypeId) (ho : w.ownsRow base 3 1 v n zs) (h : IntsAt w a cap xs) (hr : (n + xs.length) * 8 ≤ 140737488351232) (hb : base ≤ w.heap.size) :
    ∃ v' w', (Builtin.append_ #[23, 23] ty #[v, .slice a xs.length cap]).run Try.prog w = .ok v' w' ∧ w'.ownsRow base 3 1 v' (n + xs.length) (zs ++ xs.map (Value.int .i64)) ∧ w.grownBy w' v.ownBlock := by
  obtain ⟨i0, hi, hz0, hz1, hz2⟩ := info_parts infoInt
  obtain ⟨h1, h2, h3, b, off, ha, hc⟩ := h
  have go : ∀ ad : Addr, a = some ad → (∀ j u, (xs.map (Value.int .i64))[j]? = some u → w.cell? (ad.add j) = some u) →
      ∃ v' w', (Builtin.append_ #[23, 23] ty #[v, .slice a xs.length cap]).run Try.prog w = .ok v' w' ∧ w'.ownsRow base 3 1 v' (n + xs.length) (zs ++ xs.map (Value.int .i64)) ∧ w.grownBy w' v.ownBlock := by
    intro ad hA hcell
    subst hA
    obtain ⟨v', w', hrun, hown, hgrow, _⟩ := run_append_own (P := Try.prog) w base 23 ty 3 i0 (.int .i64 0) 1 8 Try.underlying23 hi hz0 hz1 hz2 rfl (by decide) v n zs ho
      ad xs.length cap (xs.map (Value.int .i64)) (by simp) hcell (by intro u hu; obtain ⟨x, _, rfl⟩ := List.mem_map.1 hu; rfl) (by unfold maxLen; omega) (by omega) hb
    exact ⟨v', w', hrun, hown, hgrow⟩
  cases xs with
  | nil =>
    cases a with
    | none =>
      refine ⟨v, w, ?_, by simpa using ho, ⟨rfl, rfl, rfl, Nat.le_refl _, fun _ _ _ => rfl⟩⟩
      rcases ho.2 with ⟨rfl, rfl⟩ | ⟨g, c, cur, rfl, -, -, hnc, -⟩
      · simp [Builtin.append_, run_underlying Try.underlying23, sizeOf, typeInfo, hi, Builtin.lenOf, Builtin.firstCells]
      · simp [Builtin.append_, run_underlying Try.underlying23, sizeOf, typeInfo, hi, Builtin.lenOf, Builtin.firstCells, hnc, storeCells]
    | some ad => exact go ad rfl (by simp)
  | cons x r =>
    have e := ha (by simp)
    refine go _ e fun j u hj => ?_
    rw [add_plain]
    have hjl : j < (x :: r).length := by
      have := (List.getElem?_eq_some_iff.1 hj).1
      simpa using this
    rw [hc j hjl]
    rw [← hj, List.getElem?_map, List.getElem?_eq_getElem hjl]
    rfl
/-- The same as a step of the walk. -/
theorem wpList_ints_own {w : World} {ops : Array Oper} {rest : List Oper} {o : Oper} {a : Act} {Q : Exit → Act → World → Prop} (hgd : o.guard = none) (s x : Operand)
    (ho : o.op = .call { callee := .builtin .append, args := #[s, x], argTypes := #[23, 23] }) (base n : Nat) (v : Value) (zs : List Value) (hs : a.eval s = v) (hown : w.ownsRow base 3 1 v n zs) (hb : base ≤ w.heap.size)
    (ad : Option Addr) (c m : Nat) (xs : List Int) (hx : a.eval x = .slice ad m c) (hm : m = xs.length) (hi : IntsAt w ad c xs) (hr : (n + xs.length) * 8 ≤ 140737488351232)
    (h : ∀ v' w', w'.ownsRow base 3 1 v' (n + xs.length) (zs ++ xs.map (Value.int .i64)) → w.grownBy w' v.ownBlock → wpList Try.prog ops Q rest (a.put o.dst v') w') : wpList Try.prog ops Q (o :: rest) a w := by
  subst hm
  obtain ⟨v', w', hrun, hown', hg⟩ := run_ints_own o.type hown hi hr hb
  exact Lib.wpList_append_run w hgd s x _ _ ho _ _ hs hx _ _ hrun (h v' w' hown' hg)
theorem ownsRow_empty (w : World) (cur : Array Value) (t : TypeId) (base g cap : Nat) (hg : w.heap[g]? = some (.cells cur t (0, 0))) (hb : base ≤ g) (hc : cap ≤ maxLen) (hs : cur.size = cap) : w.ownsRow base t 1 (.slice (some ⟨g, 0, none⟩) 0 cap) 0 [] :=
  ⟨rfl, Or.inr ⟨g, cap, cur, rfl, hb, hg, Nat.zero_le _, hc, by omega, by simp⟩⟩
theorem Below.grown' {B : Nat} {w w' w'' : World} {v : Value} (h : Below B w w') (hg : w'.grownBy w'' v.ownBlock) (hB : B ≤ w'.heap.size) (hv : ∀ k, v.ownBlock = some k → B ≤ k) : Below B w w'' := h.grown hg hB hv

set_option maxHeartbeats 1000000 in
theorem growQ (n : Nat) (w : World) (hn : n ≤ 1000000) :
    Calls Try.prog 85 #[.slice none 0 0, .int .i64 (n : Int)] w fun e w' => ∃ v, e = .returned v ∧ w'.ownsRow w.heap.size 3 1 v 0 [] ∧ Below w.heap.size w w' := by
  obtain ⟨i0, hi, hz0, hz1, hz2⟩ := info_parts infoInt
  have e1 : ¬ ((n : Int) < 0) := by omega
  by_cases h0 : n = 0
  · subst h0
    go_enter Try.func85, Try.ntmps85
    go_wp2_with fail
    go_ret
    exact ⟨_, rfl, World.ownsRow_nil _ _ _ _, Below.refl _ _⟩
  · have hrz := fun ty => Lib.run_append_nil_zeros (P := Try.prog) w 23 3 ty 3 i0 (.int .i64 0) .i64 .i64 Try.underlying23 Try.underlying3 hi hz0 n (by omega) (by omega) (by omega) (by rw [hz2]; omega)
    have hGn : n ≤ grownCap w n 0 3 := grownCap_ge w _ _ _
    have hG63 := grownCap_le_maxLen w n 0 3 (by unfold maxLen; omega)
    generalize grownCap w n 0 3 = G at hrz hGn hG63
    have hc1 : ∀ (W : World), (Instr.slice 23 (.slice none 0 0) none (some (.int .i64 0)) none).run Try.prog W = .ok (.slice none 0 0) W := by
      intro W
      rw [run_slice_h W 23 none 0 0 elemInts .i64 0 (by omega) (by omega), sizeInts]
      rfl
    have hc2 : ∀ (W : World) (b m : Nat), (Instr.slice 23 (.slice (some ⟨b, 0, none⟩) m G) none (some (.int .i64 0)) none).run Try.prog W = .ok (.slice (some ⟨b, 0, none⟩) 0 G) W := by
      intro W b m
      rw [run_slice_h W 23 _ m G elemInts .i64 0 (by omega) (by omega), sizeInts]
      show Result.ok (sliced _ _ _ _ _) W = _
      unfold sliced
      rw [if_neg (by show ¬ G = 0; omega)]
      simp [add_plain]
    have hbel : Below w.heap.size w (w.drew.alloc (.cells (Builtin.zeroCells (Value.int .i64 0).cells n ++ Builtin.zeroCells (Value.int .i64 0).cells (G - n)) 3)) := Below.then (show Below w.heap.size w w.drew from ⟨rfl, rfl, rfl, Nat.le_refl _, fun _ _ => rfl⟩) (below_new w.drew _)
    have hown := ownsRow_empty (w.drew.alloc (.cells (Builtin.zeroCells (Value.int .i64 0).cells n ++ Builtin.zeroCells (Value.int .i64 0).cells (G - n)) 3)) _ 3 w.heap.size w.heap.size G (heap_alloc_new w.drew _) (Nat.le_refl _) hG63 (by simp [Builtin.zeroCells, Value.cells]; omega)
    have h1 : 0 < (n : Int) := by omega
    generalize w.drew.alloc (.cells (Builtin.zeroCells (Value.int .i64 0).cells n ++ Builtin.zeroCells (Value.int .i64 0).cells (G - n)) 3) = W1 at hrz hbel hown
    go_enter Try.func85, Try.ntmps85
    go_wp2_with (at_builtin; refine Lib.wpList_append_run _ rfl _ _ _ _ rfl _ _ rfl rfl _ _ (hrz _) ?_)
    go_ret
    exact ⟨_, rfl, hown, hbel⟩
end Go.Proofs.Ytkjbccodahleoaa.Shape

namespace Go.Proofs.Ytkjbccodahleoaa.Shape
open Go.RowKit
set_option linter.unusedVariables false

/-- The length of the frame. -/
def frN (A : Arr) (k : Int) : Nat := A.shape.length - (rankS k (A.shape.length : Int)).toNat
theorem frN_le (A : Arr) (k : Int) : frN A k ≤ A.shape.length := Nat.sub_le _ _
def frameS (A : Arr) (k : Int) : List Int := if rightE A = 0 then A.shape.take (frN A k) else []
theorem frN_int (A : Arr) (k : Int) : ∃ c : Int, rankS k (A.shape.length : Int) = c ∧ (A.shape.length : Int) - c = (frN A k : Int) ∧ 0 ≤ c ∧ c ≤ A.shape.length := by
  have := rank_bd k (A.shape.length : Int)
  exact ⟨_, rfl, by unfold frN; omega, by omega, by omega⟩
set_option maxHeartbeats 1000000 in
theorem frameRankQ (v : Value) (A : Arr) (k : Int) (w : World) (h : ArrAt w v A) (hk : -9223372036854775808 ≤ k ∧ k ≤ 9223372036854775807) :
    Calls Try.prog 35 #[v, .int .i64 k] w fun e w' => e = .returned (.int .i64 (frN A k : Nat)) ∧ Below w.heap.size w w' := by
  obtain ⟨kk, sh, nu, it⟩ := A
  have h0 := h
  rw [ArrAt] at h
  obtain ⟨sa, sc, na, nc, ia, ic, rfl, hkd, hs, -⟩ := h
  have hl := hs.len
  have bw := below_new w (.cells #[.int .i64 kk, .slice sa sh.length sc, .slice na nu.length nc, .slice ia it.length ic] 26)
  obtain ⟨c, hc, hsub, hc0, hc1⟩ := frN_int (.mk kk sh nu it) k
  have hF := frN_le (.mk kk sh nu it) k
  have hshl : (Arr.mk kk sh nu it).shape.length = sh.length := rfl
  rw [hshl] at hc hsub hc1 hF
  generalize frN (.mk kk sh nu it) k = F at *
  have R := fun W => rankP k (sh.length : Int) W hk (by omega)
  rw [hc] at R
  clear hs h0 hc
  generalize sh.length = N at *
  go_enter Try.func35, Try.ntmps35
  go_wp2_with (go_at_call 9; refine (R _).mono ?_; rintro e w1 ⟨rfl, rfl⟩)
  go_ret
  exact ⟨rfl, bw⟩
theorem made_row (w : World) (n : Nat) : IntRow (w.alloc (.cells (madeCells #[.int .i64 0] n) 3)) w.heap.size (List.replicate n 0) := by
  unfold IntRow
  rw [heap_alloc_new]
  congr 2
  apply Array.ext'
  simp only [madeCells]
  apply List.ext_getElem
  · simp
  · intro i h1 h2
    simp [Nat.mod_one]
theorem right_short {A : Arr} (hx : rightE A = 0) : rightB A.shape = true := by
  obtain ⟨kk', sh, nu, it⟩ := A
  have hp : partsE (.mk kk' sh nu it) = 0 := Classical.byContradiction fun g => g ((chk_parts g).symm.trans hx)
  rw [partsE] at hp
  split at hp
  · omega
  · split at hp
    · rename_i g; exact absurd hp g
    · rename_i g
      exact (dimsE_right sh).1 (Classical.byContradiction fun h => g h)
theorem copy_ints {w : World} {g n : Nat} {a : Option Addr} {c : Nat} {xs : List Int} (hg : IntRow w g (List.replicate n 0)) (h : IntsAt w a c xs) (hn : n ≤ xs.length) :
    ∃ W, (∀ ty, (Builtin.copy_ #[23, 23] ty #[.slice (some ⟨g, 0, none⟩) n n, .slice a xs.length c]).run Try.prog w = .ok (goInt n) W) ∧ IntRow W g (xs.take n) ∧ But g w W := by
  obtain ⟨h1, h2, h3, b, off, ha, hc⟩ := h
  cases a with
  | none =>
    have hx : xs = [] := Classical.byContradiction fun e => by cases ha e
    subst hx
    obtain rfl : n = 0 := by simpa using hn
    obtain ⟨i0, hi, hz0, hz1, hz2⟩ := info_parts infoInt
    refine ⟨w, fun ty => ?_, by simpa using hg, But.refl _ _⟩
    simp [Builtin.copy_, run_underlying Try.underlying23, sizeOf, typeInfo, hi, Builtin.lenOf, Builtin.firstCells, storeCells]
  | some ad =>
    have hlen : ((xs.take n).map (Value.int .i64)).length = n := by simp; omega
    have hmin : Nat.min xs.length n = n := Nat.min_eq_right hn
    have hrun := fun ty => run_copy_wide (P := Try.prog) w 23 23 ty 3 g 0 n n ad xs.length c 1 _ 3 ((xs.take n).map (Value.int .i64)) Try.underlying23 sizeInt1 hg (by rw [hlen, hmin, Nat.mul_one])
      (fun j v hj => by
        have hj2 : j < n := by
          have := (List.getElem?_eq_some_iff.1 hj).1
          rw [hlen] at this; exact this
        have hx : xs ≠ [] := by intro e; subst e; simp at hn; omega
        have e := ha hx
        cases e
        rw [add_plain, hc j (by omega), ← hj, List.getElem?_map, List.getElem?_take_of_lt hj2, List.getElem?_eq_getElem (by omega)]
        rfl) (by rw [hlen]; simp) (fun v hv => by obtain ⟨x, _, rfl⟩ := List.mem_map.1 hv; rfl)
    rw [hmin] at hrun
    refine ⟨_, hrun, ?_, ⟨rfl, rfl, rfl, by simp [World.setRow], fun g' hg' hl => setRow_other _ _ _ _ hg'⟩⟩
    exact setRow_whole hg (by rw [hlen]; simp)
set_option maxHeartbeats 1000000 in
theorem frameQ (v : Value) (A : Arr) (k : Int) (w : World) (h : ArrAt w v A) (hk : -9223372036854775808 ≤ k ∧ k ≤ 9223372036854775807) :
    Calls Try.prog 14 #[v, .int .i64 k] w fun e w' => ∃ a' c', e = .returned (.slice a' (frameS A k).length c') ∧ IntsOn (fun g => w.heap.size ≤ g) w' a' c' (frameS A k) ∧ Below w.heap.size w w' := by
  have h0 := h
  obtain ⟨kk, sa, ls, sc, na, ln, nc, ia, li, ic, rfl, hs, hls⟩ : ∃ kk sa ls sc na ln nc ia li ic, v = .agg #[.int .i64 kk, .slice sa ls sc, .slice na ln nc, .slice ia li ic] ∧ IntsAt w sa sc A.shape ∧ ls = A.shape.length := by
    obtain ⟨kk, sh, nu, it⟩ := A
    rw [ArrAt] at h
    obtain ⟨sa, sc, na, nc, ia, ic, hv, -, hs, -⟩ := h
    exact ⟨_, _, _, _, _, _, _, _, _, _, hv, hs, rfl⟩
  subst hls
  have bw := below_new w (.cells #[.int .i64 kk, .slice sa A.shape.length sc, .slice na ln nc, .slice ia li ic] 26)
  have q0 := Quad.new w (.int .i64 kk) (.slice sa A.shape.length sc) (.slice na ln nc) (.slice ia li ic)
  have hA := h0.below bw
  obtain ⟨x, hx⟩ : ∃ x, rightE A = x := ⟨_, rfl⟩
  have R := fun v' w' (g : ArrAt w' v' A) => rightQ v' A w' g
  rw [hx] at R
  have R2 := fun v' w' (g : ArrAt w' v' A) => frameRankQ v' A k w' g hk
  have hF := frN_le A k
  clear h h0
  by_cases hx0 : x = 0
  · subst hx0
    have e : frameS A k = A.shape.take (frN A k) := by rw [frameS, if_pos hx]
    rw [e]
    have h8 := (right_def.1 (right_short hx)).1
    have hlen : (A.shape.take (frN A k)).length = frN A k := by rw [List.length_take]; omega
    rw [hlen]
    generalize frN A k = n at *
    go_enter Try.func14, Try.ntmps14
    go_wp2_with (first
      | (go_at_call 34; refine (R _ _ hA).mono ?_; rintro e w1 ⟨rfl, hb1⟩; (obtain ⟨x0, x1, x2, x3, -⟩ := (q0.below hb1).cells))
      | (go_at_call 35; refine (R2 _ _ (hA.below hb1)).mono ?_; rintro e w2 ⟨rfl, hb2⟩; (obtain ⟨y0, y1, y2, y3, -⟩ := ((q0.below hb1).below hb2).cells); (have hm := run_makeInts w2 n (by omega)); (have bm := below_new w2 (.cells (madeCells #[.int .i64 0] n) 3)); (obtain ⟨W3, hcp, hrow, hbut⟩ := copy_ints (made_row w2 n) ((((hs.below bw).below hb1).below hb2).below bm) hF); (obtain ⟨z0, z1, z2, z3, -⟩ := (((q0.below hb1).below hb2).below bm).cells)))
    go_ret
    have hsz := (Below.then (Below.then bw hb1) hb2).size
    have hin := hrow.ints (fun x hx => hs.2.2.1 x (List.mem_of_mem_take hx)) (by rw [hlen]; omega)
    rw [hlen] at hin
    exact ⟨_, _, rfl, ⟨hin, fun _ ad e => by cases e; exact hsz⟩, (Below.then (Below.then (Below.then bw hb1) hb2) bm).trans (hbut.below hsz (Below.then (Below.then (Below.then bw hb1) hb2) bm).size)⟩
  · have e : frameS A k = [] := by rw [frameS, if_neg (by rw [hx]; exact hx0)]
    rw [e]
    have e2 : (x != 0) = true := by simpa using hx0
    clear hx hx0 e hF
    go_enter Try.func14, Try.ntmps14
    go_wp2_with (go_at_call 34; refine (R _ _ hA).mono ?_; rintro e w1 ⟨rfl, hb1⟩)
    go_ret
    exact ⟨none, 0, rfl, ⟨ints_nil _, fun g => absurd rfl g⟩, Below.then bw hb1⟩
end Go.Proofs.Ytkjbccodahleoaa.Shape

namespace Go.Proofs.Ytkjbccodahleoaa.Shape
open Go.RowKit
set_option linter.unusedVariables false

theorem elemLists : Try.prog.underlying 86 = some (.slice (Try.prog.elem 86)) := by kernel_rfl
theorem sizeLists (w : World) : (sizeOf (Try.prog.elem 86)).run Try.prog w = .ok 1 w := by kernel_rfl
theorem at_lists (g : Nat) (j : Nat) (hj : j < 2) (W : World) : (Instr.indexAt 86 (.slice (some ⟨g, 0, none⟩) 2 2) (.int .i64 (j : Int))).run Try.prog W = .ok (.pointer (some ⟨g, j, none⟩)) W := by
  rw [run_indexAt_slice W _ _ _ _ .i64 (j : Int) elemLists, if_pos (by omega), sizeLists]
  show Result.ok _ W = _
  rw [show ((j : Int).toNat * 1) = j by omega, add_plain, Nat.zero_add]
theorem ints_of_row {w : World} {base n : Nat} {v : Value} {xs : List Int} (hn : n = xs.length) (h : w.ownsRow base 3 1 v n (xs.map (Value.int .i64))) (hb : ∀ x ∈ xs, -9223372036854775808 ≤ x ∧ x ≤ 9223372036854775807) :
    ∃ a c, v = .slice a xs.length c ∧ IntsOn (fun g => base ≤ g) w a c xs := ints_of_own hn h hb
theorem row_slice {w : World} {base n : Nat} {v : Value} {zs : List Value} {t : TypeId} (h : w.ownsRow base t 1 v n zs) : ∃ a c, v = .slice a n c := by
  rcases h.2 with ⟨rfl, rfl⟩ | ⟨g, cap, cur, rfl, -⟩
  · exact ⟨_, _, rfl⟩
  · exact ⟨_, _, rfl⟩

/-- The j lists that have been joined. -/
def two (xs ys : List Int) (j : Nat) : List Int := if j = 0 then [] else if j = 1 then xs else xs ++ ys

set_option maxRecDepth 100000 in
set_option maxHeartbeats 4000000 in
theorem concatQ (g : Nat) (a b : Option Addr) (ca cb : Nat) (xs ys : List Int) (w : World) (hc0 : w.cell? ⟨g, 0, none⟩ = some (.slice a xs.length ca)) (hc1 : w.cell? ⟨g, 1, none⟩ = some (.slice b ys.length cb))
    (hx : IntsAt w a ca xs) (hy : IntsAt w b cb ys) (hl : xs.length ≤ 100000 ∧ ys.length ≤ 100000) :
    Calls Try.prog 67 #[.slice (some ⟨g, 0, none⟩) 2 2] w fun e w' => ∃ a' c', e = .returned (.slice a' (xs ++ ys).length c') ∧ IntsOn (fun g => w.heap.size ≤ g) w' a' c' (xs ++ ys) ∧ Below w.heap.size w w' := by
  obtain ⟨hl1, hl2⟩ := hl
  have i0 := fun W => at_lists g 0 (by decide) W
  have i1 := fun W => at_lists g 1 (by decide) W
  have hbx : ∀ x ∈ xs ++ ys, -9223372036854775808 ≤ x ∧ x ≤ 9223372036854775807 := by
    intro x h
    rcases List.mem_append.1 h with h | h
    · exact hx.2.2.1 x h
    · exact hy.2.2.1 x h
  obtain ⟨n, hn⟩ : ∃ n, xs.length = n := ⟨_, rfl⟩
  obtain ⟨m, hm⟩ : ∃ m, ys.length = m := ⟨_, rfl⟩
  rw [hn] at hc0 hl1
  rw [hm] at hc1 hl2
  obtain ⟨S, hS⟩ : ∃ S : Int, (n : Int) + (m : Int) = S := ⟨_, rfl⟩
  have hSb : 0 ≤ S ∧ S ≤ 200000 := by omega
  have HG := growQ (n + m) w (by omega)
  rw [show ((n + m : Nat) : Int) = S by omega] at HG
  go_enter Try.func67, Try.ntmps67
  go_wp2_with fail
  go_loop [3, 11] (fun s i => ∃ j : Nat, j ≤ 2 ∧ i = .int .i64 j ∧ s = .int .i64 (if j = 0 then 0 else if j = 1 then (n : Int) else S)) (fun _ i => 2 - (intOf i).toNat)
  case atStart => exact ⟨0, by decide, rfl, rfl⟩
  case round =>
    obtain ⟨j, hj, rfl, rfl⟩ := hrel
    rcases (by omega : j = 0 ∨ j = 1 ∨ j = 2) with rfl | rfl | rfl
    · go_wp2_with fail
      go_round
      case rel => exact ⟨1, by decide, rfl, by simp⟩
      case measure => simp [intOf]
    · go_wp2_with fail
      go_round
      case rel => exact ⟨2, by decide, rfl, by simp⟩
      case measure => simp [intOf]
    · obtain ⟨g3, g4⟩ := hSb
      go_wp2_with (go_at_call 85; refine HG.mono ?_; rintro e w1 ⟨v1, rfl, ho1, hb1⟩)
      clear HG
      go_loopw [6, 27] (fun v i wr => ∃ j : Nat, j ≤ 2 ∧ i = .int .i64 j ∧ wr.ownsRow w.heap.size 3 1 v (two xs ys j).length ((two xs ys j).map (Value.int .i64)) ∧ Below w.heap.size w wr) (fun _ i _ => 2 - (intOf i).toNat)
      case atStart => exact ⟨0, by decide, rfl, ho1, hb1⟩
      case round =>
        obtain ⟨j, hj, rfl, ho, hb⟩ := hrel
        have d0 := (hb.cell (cell_lt hc0)).trans hc0
        have d1 := (hb.cell (cell_lt hc1)).trans hc1
        have hs := hb.size
        rcases (by omega : j = 0 ∨ j = 1 ∨ j = 2) with rfl | rfl | rfl
        · obtain ⟨va, vc, rfl⟩ := row_slice ho
          go_wp2_with (at_builtin; refine wpList_ints_own rfl _ _ rfl w.heap.size _ _ _ rfl ho hs _ _ _ xs rfl hn.symm (hx.below hb) (by simp [two]; omega) ?_; intro v2 w2 ho2 hg2)
          go_roundw
          case rel => exact ⟨1, by decide, rfl, by simpa [two, hn] using ho2, Below.grown hb hg2 hs (fun k hk => (ho.lt k hk).1)⟩
          case measure => simp [intOf]
        · obtain ⟨va, vc, rfl⟩ := row_slice ho
          go_wp2_with (at_builtin; refine wpList_ints_own rfl _ _ rfl w.heap.size _ _ _ rfl ho hs _ _ _ ys rfl hm.symm (hy.below hb) (by simp [two]; omega) ?_; intro v2 w2 ho2 hg2)
          go_roundw
          case rel => exact ⟨2, by decide, rfl, by simpa [two, hn, hm] using ho2, Below.grown hb hg2 hs (fun k hk => (ho.lt k hk).1)⟩
          case measure => simp [intOf]
        · obtain ⟨va, vc, rfl, hon⟩ := ints_of_row rfl ho hbx
          have hE : (two xs ys 2).length = (xs ++ ys).length := rfl
          generalize (two xs ys 2).length = K at hE ho ⊢
          go_wp2_with fail
          go_ret
          exact ⟨va, vc, by rw [← hE]; rfl, hon, hb⟩
end Go.Proofs.Ytkjbccodahleoaa.Shape

namespace Go.Proofs.Ytkjbccodahleoaa.Shape
open Go.RowKit
set_option linter.unusedVariables false

theorem row_lit (w : World) : (w.alloc (.cells #[] 3)).ownsRow w.heap.size 3 1 (.slice (some ⟨w.heap.size, 0, none⟩) 0 0) 0 [] :=
  ownsRow_empty _ #[] _ _ _ 0 (heap_alloc_new w _) (Nat.le_refl _) (by unfold maxLen; omega) rfl

set_option maxHeartbeats 1000000 in
theorem frameR (v : Value) (A : Arr) (k : Int) (w : World) (h : ArrAt w v A) (hk : -9223372036854775808 ≤ k ∧ k ≤ 9223372036854775807) :
    Calls Try.prog 15 #[v, .int .i64 k] w fun e w' => ∃ a' c', e = .returned (.slice a' (frameS A k).length c') ∧ IntsAt w' a' c' (frameS A k) ∧ Below w.heap.size w w' := by
  have h0 := h
  obtain ⟨kk, sa, ls, sc, na, ln, nc, ia, li, ic, rfl, hs, hls⟩ : ∃ kk sa ls sc na ln nc ia li ic, v = .agg #[.int .i64 kk, .slice sa ls sc, .slice na ln nc, .slice ia li ic] ∧ IntsAt w sa sc A.shape ∧ ls = A.shape.length := by
    obtain ⟨kk, sh, nu, it⟩ := A
    rw [ArrAt] at h
    obtain ⟨sa, sc, na, nc, ia, ic, hv, -, hs, -⟩ := h
    exact ⟨_, _, _, _, _, _, _, _, _, _, hv, hs, rfl⟩
  subst hls
  have bw := below_new w (.cells #[.int .i64 kk, .slice sa A.shape.length sc, .slice na ln nc, .slice ia li ic] 26)
  have q0 := Quad.new w (.int .i64 kk) (.slice sa A.shape.length sc) (.slice na ln nc) (.slice ia li ic)
  have hA := h0.below bw
  obtain ⟨x, hx⟩ : ∃ x, rightE A = x := ⟨_, rfl⟩
  have R := fun v' w' (g : ArrAt w' v' A) => rightR3 v' A w' g
  rw [hx] at R
  have hF := frN_le A k
  obtain ⟨c, hc, hsub, hc0, hc1⟩ := frN_int A k
  have hlsh := hs.len
  have R2 := fun W => rankR k (A.shape.length : Int) W hk (by omega)
  rw [hc] at R2
  clear h h0 hc
  by_cases hx0 : x = 0
  · subst hx0
    have e : frameS A k = A.shape.take (frN A k) := by rw [frameS, if_pos hx]
    rw [e]
    have h8 := (right_def.1 (right_short hx)).1
    have hlen : (A.shape.take (frN A k)).length = frN A k := by rw [List.length_take]; omega
    have hbx : ∀ y ∈ A.shape.take (frN A k), -9223372036854775808 ≤ y ∧ y ≤ 9223372036854775807 := fun y hy => hs.2.2.1 y (List.mem_of_mem_take hy)
    rw [hlen]
    have HT : Hid (A.shape.take (frN A k) = A.shape.take (frN A k)) := rfl
    clear e
    generalize frN A k = n at *
    go_enter Try.func15, Try.ntmps15
    go_wp2_with (go_at_call 24; refine (R _ _ hA).mono ?_; rintro e w1 ⟨rfl, hb1⟩; (obtain ⟨x0, x1, x2, x3, -⟩ := (q0.below hb1).cells))
    go_region_held3 (fun W => W.cell? ⟨w.heap.size, 1, none⟩ = some (.slice sa A.shape.length sc))
      (first | exact x1 | assumption)
      (first | (go_at_call 10; refine (R2 _).mono ?_; rintro e w2 ⟨rfl, rfl⟩))
    have bn := below_new w1 (.cells #[] 3)
    have hro := row_lit w1
    have hb2 := Below.then (Below.then bw hb1) bn
    have qn := (q0.below hb1).below bn
    obtain ⟨y0, y1, y2, y3, -⟩ := (show Quad (w1.alloc (.cells #[] 3)).drew w.heap.size _ _ _ _ from qn).cells
    obtain ⟨m1, m2⟩ := (hs.below hb2).cut n hF
    have ew : IntKind.i64.wrap (n : Int) = (n : Int) := by
      have hn8 : (n : Int) ≤ 8 := by omega
      simp only [IntKind.wrap, IntKind.bits]
      first | (go_num; done) | (simp; omega)
    go_wp2_with (at_builtin; refine wpList_ints_own rfl _ _ rfl w1.heap.size 0 _ [] rfl hro bn.size _ _ _ (A.shape.take n) rfl hlen.symm m1 (by omega) ?_; intro v2 w2 ho2 hg2; (simp only [Nat.zero_add, List.nil_append, hlen] at ho2); (obtain ⟨va, vc, rfl, hon⟩ := ints_of_row hlen.symm ho2 hbx))
    go_ret
    exact ⟨va, vc, rfl, hon.1, Below.grown hb2.drew hg2 hb2.drew.size (fun q hq => by
      have h1 : w1.heap.size = q := Option.some.inj hq
      have h2 : w.heap.size ≤ w1.heap.size := (Below.then bw hb1).size
      rw [← h1]; exact h2)⟩
  · have e : frameS A k = [] := by rw [frameS, if_neg (by rw [hx]; exact hx0)]
    rw [e]
    have e2 : (x != 0) = true := by simpa using hx0
    clear hx hx0 e hF
    go_enter Try.func15, Try.ntmps15
    go_wp2_with (go_at_call 24; refine (R _ _ hA).mono ?_; rintro e w1 ⟨rfl, hb1⟩)
    go_ret
    exact ⟨none, 0, rfl, ints_nil _, Below.then bw hb1⟩
end Go.Proofs.Ytkjbccodahleoaa.Shape

namespace Go.Proofs.Ytkjbccodahleoaa.Shape
open Go.RowKit
set_option linter.unusedVariables false

set_option maxHeartbeats 1000000 in
theorem leadR (a : Option Addr) (c : Nat) (xs : List Int) (n : Nat) (w : World) (h : IntsAt w a c xs) (hx : xs.length ≤ 1000) (hn : n ≤ 1000) :
    Calls Try.prog 45 #[.slice a xs.length c, .int .i64 (n : Int)] w fun e w' => ∃ a' c', e = .returned (.slice a' (leadS xs n).length c') ∧ IntsOn (fun g => w.heap.size ≤ g) w' a' c' (leadS xs n) ∧ Below w.heap.size w w' := by
  obtain ⟨i0, hi, hz0, hz1, hz2⟩ := info_parts infoInt
  have hro := row_lit w
  have hb0 := below_new w (.cells #[] 3)
  have hbx : ∀ y ∈ leadS xs n, -9223372036854775808 ≤ y ∧ y ≤ 9223372036854775807 := fun y hy => by
    rw [leadS] at hy
    rcases List.mem_append.1 hy with hy | hy
    · rw [List.eq_of_mem_replicate hy]; omega
    · exact h.2.2.1 y hy
  have hll : (leadS xs n).length = (n - xs.length) + xs.length := by simp [leadS]
  have HL : Hid ((leadS xs n).map (Value.int .i64) = List.replicate (n - xs.length) (.int .i64 1) ++ xs.map (Value.int .i64)) := by unfold Hid; simp [leadS]
  generalize leadS xs n = ys at *
  obtain ⟨m, hm⟩ : ∃ m, xs.length = m := ⟨_, rfl⟩
  have HM : Hid (xs.length = m) := hm
  have hm1 : m ≤ 1000 := by omega
  rw [hm] at hll HL ⊢
  obtain ⟨y, hy⟩ : ∃ y, ys.length = y := ⟨_, rfl⟩
  have HY : Hid (ys.length = y) := hy
  rw [hy] at hll ⊢
  clear hm hy hx
  go_enter Try.func45, Try.ntmps45
  go_wp2_with fail
  go_loopw [5, 6] (fun v i wr => ∃ k : Nat, k ≤ n - m ∧ i = .int .i64 ((m + k : Nat) : Int) ∧ wr.ownsRow w.heap.size 3 1 v k (List.replicate k (.int .i64 1)) ∧ Below w.heap.size w wr) (fun _ i _ => n - (intOf i).toNat)
  case atStart => exact ⟨0, Nat.zero_le _, rfl, hro, hb0⟩
  case round =>
    obtain ⟨k, hk, rfl, ho, hb⟩ := hrel
    have hs := hb.size
    obtain ⟨q, hq⟩ : ∃ q, m + k = q := ⟨_, rfl⟩
    rw [hq]
    by_cases hlt : q < n
    · go_wp2_with (at_builtin; refine wpList_append_own _ rfl _ _ 23 rfl w.heap.size 3 i0 (.int .i64 0) 1 8 Try.underlying23 hi hz0 hz1 hz2 rfl (by decide) _ _ _ rfl (ho.alloc _) ⟨wr.heap.size, 0, none⟩ 1 1 [.int .i64 1] rfl rfl ?c1 ?c2 ?c3 ?c4 ?c5 ?_)
      case c1 =>
        intro j u hj
        match j, hj with
        | 0, hj => simp at hj; subst hj; simp [Addr.add]
      case c2 => intro u hu; simp at hu; subst hu; rfl
      case c3 => unfold maxLen; omega
      case c4 => omega
      case c5 => simp; omega
      intro v' w1 hown' hgrow _
      have hbel2 := (hb.alloc hs _).grown hgrow (by simp; omega) (fun j hj => ((ho.lt j hj).1))
      go_wp2
      go_roundw
      case rel => exact ⟨k + 1, by omega, by rw [← hq]; go_num, by rw [List.replicate_succ']; simpa using hown', hbel2⟩
      case measure => simp [intOf]; omega
    · obtain ⟨va, vc, rfl⟩ := row_slice ho
      go_wp2_with (at_builtin; refine wpList_ints_own rfl _ _ rfl w.heap.size _ _ _ rfl ho hs _ _ _ xs rfl HM.out.symm (h.below hb) (by have := HM.out; omega) ?_; intro v2 w2 ho2 hg2)
      have hkm : k + xs.length = y := by have := HM.out; omega
      have hkk : n - m = k := by omega
      rw [hkk] at HL
      rw [← HL.out, hkm] at ho2
      obtain ⟨va2, vc2, rfl, hon⟩ := ints_of_row HY.out.symm ho2 hbx
      go_ret
      exact ⟨va2, vc2, by rw [← HY.out]; rfl, hon, Below.grown hb hg2 hs (fun q hq => (ho.lt q hq).1)⟩
end Go.Proofs.Ytkjbccodahleoaa.Shape

namespace Go.Proofs.Ytkjbccodahleoaa.Shape
open Go.RowKit
set_option linter.unusedVariables false

/-- The array, or the zero array and ErrLimit. -/
theorem checkedR (v : Value) (A : Arr) (w : World) (h : ArrAt w v A) :
    Calls Try.prog 46 #[v] w fun e w' => (rightE A = 0 → e = .returned (.tuple #[v, .int .i64 0])) ∧ (¬ rightE A = 0 → e = .returned (.tuple #[.agg #[.int .i64 0, .slice none 0 0, .slice none 0 0, .slice none 0 0], .int .i64 21])) ∧ Below w.heap.size w w' := by
  have h0 := h
  obtain ⟨kk, sa, ls, sc, na, ln, nc, ia, li, ic, rfl⟩ : ∃ kk sa ls sc na ln nc ia li ic, v = .agg #[.int .i64 kk, .slice sa ls sc, .slice na ln nc, .slice ia li ic] := by
    obtain ⟨kk, sh, nu, it⟩ := A
    rw [ArrAt] at h
    obtain ⟨sa, sc, na, nc, ia, ic, hv, -⟩ := h
    exact ⟨_, _, _, _, _, _, _, _, _, _, hv⟩
  have bw := below_two w (.cells #[.int .i64 kk, .slice sa ls sc, .slice na ln nc, .slice ia li ic] 26) (.cells #[.int .i64 0, .slice none 0 0, .slice none 0 0, .slice none 0 0] 26)
  have bw1 := below_new w (.cells #[.int .i64 kk, .slice sa ls sc, .slice na ln nc, .slice ia li ic] 26)
  have q5 := (Quad.new w (.int .i64 kk) (.slice sa ls sc) (.slice na ln nc) (.slice ia li ic)).below (below_new _ (.cells #[.int .i64 0, .slice none 0 0, .slice none 0 0, .slice none 0 0] 26))
  have q6 : Quad ((w.alloc (.cells #[.int .i64 kk, .slice sa ls sc, .slice na ln nc, .slice ia li ic] 26)).alloc (.cells #[.int .i64 0, .slice none 0 0, .slice none 0 0, .slice none 0 0] 26)) (w.heap.size + 1) (.int .i64 0) (.slice none 0 0) (.slice none 0 0) (.slice none 0 0) := by simpa using Quad.new (w.alloc (.cells #[.int .i64 kk, .slice sa ls sc, .slice na ln nc, .slice ia li ic] 26)) (.int .i64 0) (.slice none 0 0) (.slice none 0 0) (.slice none 0 0)
  obtain ⟨x, hx⟩ : ∃ x, rightE A = x := ⟨_, rfl⟩
  have R := fun w' (g : ArrAt w' (.agg #[.int .i64 kk, .slice sa ls sc, .slice na ln nc, .slice ia li ic]) A) => rightR3 _ A w' g
  rw [hx] at R ⊢
  clear hx h
  by_cases hx0 : x = 0
  · subst hx0
    go_enter Try.func46, Try.ntmps46
    go_wp2_with (go_at_call 24; refine (R _ (h0.below bw)).mono ?_; rintro e w1 ⟨rfl, hb1⟩; (obtain ⟨s0, s1, s2, s3, s4, s5, s6, s7⟩ := (q6.below hb1).cells); (obtain ⟨p0, p1, p2, p3, -⟩ := (q5.below hb1).cells))
    have hBB := (Below.then bw hb1).trans (set4_below (w := w1) (Nat.le_succ w.heap.size) (.int .i64 kk) (.slice sa ls sc) (.slice na ln nc) (.slice ia li ic))
    obtain ⟨QW, -⟩ := set4 (q6.below hb1) (.int .i64 kk) (.slice sa ls sc) (.slice na ln nc) (.slice ia li ic)
    generalize ((((w1.setCell ⟨w.heap.size + 1, 0, none⟩ (.int .i64 kk)).setCell ⟨w.heap.size + 1, 1, none⟩ (.slice sa ls sc)).setCell ⟨w.heap.size + 1, 2, none⟩ (.slice na ln nc)).setCell ⟨w.heap.size + 1, 3, none⟩ (.slice ia li ic)) = WW at QW hBB ⊢
    obtain ⟨z0, z1, z2, z3, -⟩ := QW.cells
    exact bodyPost_ret (v := .tuple #[.agg #[.int .i64 kk, .slice sa ls sc, .slice na ln nc, .slice ia li ic], .int .i64 0]) (by simp [results, Try.results46, go_sem, z0, z1, z2, z3]) rfl ⟨fun _ => rfl, fun g => absurd trivial g, hBB⟩
  · have e2 : (x != 0) = true := by simpa using hx0
    go_enter Try.func46, Try.ntmps46
    go_wp2_with (go_at_call 24; refine (R _ (h0.below bw)).mono ?_; rintro e w1 ⟨rfl, hb1⟩; (obtain ⟨s0, s1, s2, s3, s4, s5, s6, s7⟩ := (q6.below hb1).cells); (obtain ⟨p0, p1, p2, p3, -⟩ := (q5.below hb1).cells))
    have hBB := (Below.then bw hb1).trans (set4_below (w := w1) (Nat.le_succ w.heap.size) (.int .i64 0) (.slice none 0 0) (.slice none 0 0) (.slice none 0 0))
    obtain ⟨QW, -⟩ := set4 (q6.below hb1) (.int .i64 0) (.slice none 0 0) (.slice none 0 0) (.slice none 0 0)
    generalize ((((w1.setCell ⟨w.heap.size + 1, 0, none⟩ (.int .i64 0)).setCell ⟨w.heap.size + 1, 1, none⟩ (.slice none 0 0)).setCell ⟨w.heap.size + 1, 2, none⟩ (.slice none 0 0)).setCell ⟨w.heap.size + 1, 3, none⟩ (.slice none 0 0)) = WW at QW hBB ⊢
    obtain ⟨z0, z1, z2, z3, -⟩ := QW.cells
    exact bodyPost_ret (v := .tuple #[.agg #[.int .i64 0, .slice none 0 0, .slice none 0 0, .slice none 0 0], .int .i64 21]) (by simp [results, Try.results46, go_sem, z0, z1, z2, z3]) rfl ⟨fun g => absurd g hx0, fun _ => rfl, hBB⟩
end Go.Proofs.Ytkjbccodahleoaa.Shape

namespace Go.Proofs.Ytkjbccodahleoaa.Shape
open Go.RowKit
set_option linter.unusedVariables false

structure RowI (w wr : World) (v : Value) (l : List Arr) : Prop where
  own : ∃ qs, wr.ownsRow (w.heap.size + 1) 26 4 v l.length qs ∧ Quads (fun g => v.ownBlock ≠ some g) wr qs l
  bel : Below w.heap.size w wr
theorem own_belowC {w w1 : World} {base e size n : Nat} {v : Value} {qs : List Value} (ho : w.ownsRow base e size v n qs) (b1 : Below w.heap.size w w1) : w1.ownsRow base e size v n qs := by
  refine ⟨ho.1, ?_⟩
  rcases ho.2 with h | ⟨g, cap, cur, hv, hg, hh, r⟩
  · exact Or.inl h
  · exact Or.inr ⟨g, cap, cur, hv, hg, (b1.block g (lt_of_heap hh)).trans hh, r⟩
theorem RowI.below {w wr w1 : World} {v : Value} {l : List Arr} (h : RowI w wr v l) (hb : Below wr.heap.size wr w1) : RowI w w1 v l := by
  obtain ⟨⟨qs, ho, hq⟩, hbel⟩ := h
  exact ⟨⟨qs, own_belowC ho hb, hq.keep fun g hg hl => ⟨hg, fun o => hb.cell hl⟩⟩, Below.then hbel hb⟩
theorem row_step1 {w wr w1 w2 : World} {g cap n : Nat} {v c0 c1 c2 c3 : Value} {l : List Arr} {A : Arr} {qs : List Value} {o : Obj} (hn : n = l.length + 1) (hbel : Below w.heap.size w wr)
    (ho : wr.ownsRow (w.heap.size + 1) 26 4 v l.length qs) (hq : Quads (fun g => v.ownBlock ≠ some g) wr qs l) (b1 : Below wr.heap.size wr w1) (hA : ArrOn (fun g => wr.heap.size ≤ g) w1 (.agg #[c0, c1, c2, c3]) A)
    (hown : w2.ownsRow (w.heap.size + 1) 26 4 (.slice (some ⟨g, 0, none⟩) n cap) n (qs ++ [c0, c1, c2, c3])) (hgrow : (w1.alloc o).grownBy w2 v.ownBlock) (hat : v.ownBlock = some g ∨ g = w1.heap.size + 1) :
    RowI w w2 (.slice (some ⟨g, 0, none⟩) n cap) (l ++ [A]) := by
  subst hn
  have hv := ho.lt
  have s1 := b1.size
  have s0 := hbel.size
  have s3 : (w1.alloc o).heap.size = w1.heap.size + 1 := by simp
  have kept1 : ∀ b, b < w1.heap.size → v.ownBlock ≠ some b → w2.heap[b]? = w1.heap[b]? := fun b hb hne =>
    (hgrow.block b (by omega) (Ne.symm hne)).trans (Below.heap_alloc _ _ _ hb)
  have kept0 : ∀ b, b < wr.heap.size → v.ownBlock ≠ some b → w2.heap[b]? = wr.heap[b]? := fun b hb hne =>
    (kept1 b (by omega) hne).trans (b1.block b hb)
  have ne_g : ∀ b, b < w1.heap.size → v.ownBlock ≠ some b → (Value.slice (some ⟨g, 0, none⟩) (l.length + 1) cap).ownBlock ≠ some b := by
    intro b hb hne e
    have e' : g = b := by simpa [Value.ownBlock] using e
    subst e'
    rcases hat with h1 | h1
    · exact hne h1
    · omega
  have hnew : ∀ b, wr.heap.size ≤ b → v.ownBlock ≠ some b := fun b hb e => by have := (hv b e).2; omega
  refine ⟨⟨_, by rw [List.length_append]; exact hown, ?_⟩, ?_⟩
  · refine Quads.snoc (hA.keep fun b hb hl => ⟨ne_g b hl (hnew b hb), fun o => World.cell?_of_block (kept1 b hl (hnew b hb))⟩) (hq.keep fun b hb hl => ⟨ne_g b (by omega) hb, fun o => World.cell?_of_block (kept0 b hl hb)⟩)
  · exact Below.grown (Below.then (Below.then hbel b1) (below_new w1 o)) hgrow (by omega) (fun k hk => by have := (hv k hk).1; omega)
theorem row_end {w wr : World} {v : Value} {l : List Arr} (h : RowI w wr v l) : ∃ a c b, v = .slice a l.length c ∧ l.length ≤ c ∧ c ≤ 9223372036854775807 ∧ (l ≠ [] → a = some ⟨b, 0, none⟩) ∧ ArrsAt wr b 0 l := by
  obtain ⟨⟨qs, ho, hq⟩, -⟩ := h
  rcases ho.2 with ⟨rfl, h0⟩ | ⟨g, cap, cur, rfl, hg, hh, hnc, hcm, hcs, htake⟩
  · have hl : l = [] := List.eq_nil_of_length_eq_zero h0
    subst hl
    exact ⟨none, 0, 0, rfl, Nat.le_refl _, by decide, fun g => absurd rfl g, by rw [ArrsAt]; trivial⟩
  · refine ⟨_, cap, g, rfl, hnc, by unfold maxLen at hcm; omega, fun _ => rfl, ArrsOn.at (hq.arrs fun i hi => ?_)⟩
    rw [Nat.zero_add, ho.cellAt i (by rw [ho.1] at hi; exact hi)]
    simp [hi]
/-- An old block is none of the row's. -/
theorem row_old {w wr w1 w2 : World} {v : Value} {n : Nat} {qs : List Value} {o : Obj} {b : Nat} (ho : wr.ownsRow (w.heap.size + 1) 26 4 v n qs) (b1 : Below wr.heap.size wr w1) (hgrow : (w1.alloc o).grownBy w2 v.ownBlock) (hb : b ≤ w.heap.size) (hl : b < wr.heap.size) : w2.heap[b]? = wr.heap[b]? := by
  have s1 := b1.size
  have s3 : (w1.alloc o).heap.size = w1.heap.size + 1 := by simp
  refine (hgrow.block b (by omega) (fun e => ?_)).trans ((Below.heap_alloc _ _ _ (by omega)).trans (b1.block b hl))
  have := (ho.lt b e.symm).1
  omega
theorem row_nil (w : World) : RowI w w (.slice none 0 0) [] := ⟨⟨[], World.ownsRow_nil _ _ _ _, by rw [Quads]; trivial⟩, Below.refl _ _⟩
theorem row_made (w w1 : World) (n : Nat) (hn : n ≤ 65536) (hs : w.heap.size < w1.heap.size) (hb : Below w.heap.size w w1) : RowI w (w1.alloc (.cells (madeCells #[.int .i64 0, .slice none 0 0, .slice none 0 0, .slice none 0 0] (n * 4)) 26)) (.slice (some ⟨w1.heap.size, 0, none⟩) 0 n) [] :=
  ⟨⟨[], ⟨rfl, Or.inr ⟨w1.heap.size, n, _, rfl, hs, heap_alloc_new w1 _, Nat.zero_le _, by unfold maxLen; omega, by rw [size_madeCells], by simp⟩⟩, by rw [Quads]; trivial⟩, Below.then hb (below_new _ _)⟩
theorem run_makeArrs0 (w : World) (n : Nat) (hn : n * 80 ≤ 140737488351232) : (Instr.makeSlice 24 (.int .i64 0) (.int .i64 (n : Int))).run Try.prog w = .ok (.slice (some ⟨w.heap.size, 0, none⟩) 0 n) (w.alloc (.cells (madeCells #[.int .i64 0, .slice none 0 0, .slice none 0 0, .slice none 0 0] (n * 4)) 26)) := by
  obtain ⟨i0, hi, hz0, hz1, hz2⟩ := info_parts infoArr'
  have := run_make (P := Try.prog) w 24 26 i0 _ Try.underlying24 hi hz0 .i64 .i64 0 n (by omega) (by omega) (by rw [hz2]; omega) (by omega)
  rw [hz1] at this
  simp only [Int.toNat_natCast] at this
  exact this

/-- The k-cells. -/
def cellA (A : Arr) (r i : Nat) : Arr := .mk A.kind (A.shape.drop r) (blk A.nums i (prN (A.shape.drop r))) (blk A.items i (prN (A.shape.drop r)))
def cellsS (A : Arr) (k : Int) : List Arr := if rightE A = 0 then (List.range (prN (A.shape.take (frN A k)))).map (cellA A (frN A k)) else []
/-- A valid array's lists are as long as its shape says, or empty. -/
theorem right_lens {A : Arr} (hx : rightE A = 0) : (A.nums = [] ∨ A.nums.length = prN A.shape) ∧ (A.items = [] ∨ A.items.length = prN A.shape) ∧ (A.kind ≠ 3 → A.nums.length = prN A.shape ∧ A.items = []) ∧ (A.kind = 3 → A.items.length = prN A.shape ∧ A.nums = []) ∧ 1 ≤ A.kind ∧ A.kind ≤ 3 := by
  obtain ⟨k, sh, nu, it⟩ := A
  have hf := chk_parts (k := k) (sh := sh) (nu := nu) (it := it)
  have hp : partsE (.mk k sh nu it) = 0 := Classical.byContradiction fun g => g ((chk_parts g).symm.trans hx)
  rw [partsE] at hp
  split at hp
  · omega
  · rename_i hk
    split at hp
    · rename_i g; exact absurd hp g
    · split at hp
      · omega
      · rename_i g3
        have hsz : (aSize (.mk k sh nu it) : Int) = pr sh := Classical.byContradiction fun h => g3 (Or.inl h)
        have hot : other k nu it = 0 := by
          rcases Nat.eq_zero_or_pos (other k nu it) with h | h
          · exact h
          · exact absurd (Or.inr h) g3
        have hps : prN sh = aSize (.mk k sh nu it) := by unfold prN; omega
        show (nu = [] ∨ nu.length = prN sh) ∧ (it = [] ∨ it.length = prN sh) ∧ (k ≠ 3 → nu.length = prN sh ∧ it = []) ∧ (k = 3 → it.length = prN sh ∧ nu = []) ∧ 1 ≤ k ∧ k ≤ 3
        rw [hps]
        by_cases h3 : k = 3
        · subst h3
          rw [other, if_pos rfl] at hot
          have e : nu = [] := List.eq_nil_of_length_eq_zero hot
          subst e
          exact ⟨Or.inl rfl, Or.inr rfl, fun h => absurd rfl h, fun _ => ⟨rfl, rfl⟩, by decide, by decide⟩
        · rw [other, if_neg h3] at hot
          have e : it = [] := List.eq_nil_of_length_eq_zero hot
          subst e
          have e2 : aSize (.mk k sh nu []) = nu.length := by
            unfold aSize; rw [if_pos (show (Arr.mk k sh nu []).kind = 1 ∨ (Arr.mk k sh nu []).kind = 2 from by show k = 1 ∨ k = 2; omega)]; rfl
          rw [e2]
          exact ⟨Or.inr rfl, Or.inl rfl, fun _ => ⟨rfl, rfl⟩, fun h => absurd h h3, by omega, by omega⟩
end Go.Proofs.Ytkjbccodahleoaa.Shape

namespace Go.Proofs.Ytkjbccodahleoaa.Shape
open Go.RowKit
set_option linter.unusedVariables false

/-- The row v has become v'; all blocks of w are as they were, but the row's and the block R. -/
structure PutS (R : Nat) (w wr : World) (B : Nat) (e : TypeId) (sz : Nat) (v v' : Value) (n' : Nat) (qs' : List Value) : Prop where
  own : wr.ownsRow B e sz v' n' qs'
  far : ∀ b, b < w.heap.size → b ≠ R → v.ownBlock ≠ some b → wr.heap[b]? = w.heap[b]? ∧ v'.ownBlock ≠ some b
  bel : Below B w wr
theorem PutS.refl {R : Nat} {w : World} {B : Nat} {e : TypeId} {sz : Nat} {v : Value} {n : Nat} {qs : List Value} (h : w.ownsRow B e sz v n qs) : PutS R w w B e sz v v n qs :=
  ⟨h, fun b _ _ h => ⟨rfl, h⟩, Below.refl _ _⟩
theorem PutS.below {R : Nat} {w wr w1 : World} {B : Nat} {e : TypeId} {sz : Nat} {v v' : Value} {n' : Nat} {qs' : List Value} (h : PutS R w wr B e sz v v' n' qs') (hb : Below wr.heap.size wr w1) (hB : B ≤ w.heap.size) : PutS R w w1 B e sz v v' n' qs' := by
  have hs := h.bel.size
  refine ⟨own_belowC h.own hb, fun b h1 h2 h3 => ?_, h.bel.trans (hb.mono (by omega))⟩
  obtain ⟨g1, g2⟩ := h.far b h1 h2 h3
  exact ⟨(hb.block b (by omega)).trans g1, g2⟩
theorem PutS.set {R : Nat} {w wr : World} {B : Nat} {e : TypeId} {sz : Nat} {v v' : Value} {n' : Nat} {qs' : List Value} (h : PutS R w wr B e sz v v' n' qs') {X o : Nat} (hX : X = R ∨ w.heap.size ≤ X) (hB : B ≤ X) (hv : v'.ownBlock ≠ some X) (u : Value) : PutS R w (wr.setCell ⟨X, o, none⟩ u) B e sz v v' n' qs' := by
  refine ⟨ownsRow_setCell_other h.own hv u, fun b h1 h2 h3 => ?_, h.bel.setCell hB u⟩
  obtain ⟨g1, g2⟩ := h.far b h1 h2 h3
  exact ⟨(set_other _ _ _ _ _ (by omega)).trans g1, g2⟩
theorem PutS.set4 {R : Nat} {w wr : World} {B : Nat} {e : TypeId} {sz : Nat} {v v' : Value} {n' : Nat} {qs' : List Value} (h : PutS R w wr B e sz v v' n' qs') {X : Nat} (hX : X = R ∨ w.heap.size ≤ X) (hB : B ≤ X) (hv : v'.ownBlock ≠ some X) (c0 c1 c2 c3 : Value) : PutS R w ((((wr.setCell ⟨X, 0, none⟩ c0).setCell ⟨X, 1, none⟩ c1).setCell ⟨X, 2, none⟩ c2).setCell ⟨X, 3, none⟩ c3) B e sz v v' n' qs' :=
  (((h.set hX hB hv c0).set hX hB hv c1).set hX hB hv c2).set hX hB hv c3
theorem PutS.drew {R : Nat} {w wr : World} {B : Nat} {e : TypeId} {sz : Nat} {v v' : Value} {n' : Nat} {qs' : List Value} (h : PutS R w wr B e sz v v' n' qs') : PutS R w wr.drew B e sz v v' n' qs' := ⟨h.own, h.far, h.bel.drew⟩
theorem PutS.trans {R R' : Nat} {w w1 w2 : World} {B : Nat} {e : TypeId} {sz : Nat} {v v1 v2 : Value} {n1 n2 : Nat} {q1 q2 : List Value} (h : PutS R w w1 B e sz v v1 n1 q1) (g : PutS R' w1 w2 B e sz v1 v2 n2 q2) (hR : w.heap.size ≤ R' ∨ R' = R) : PutS R w w2 B e sz v v2 n2 q2 := by
  have hs := h.bel.size
  refine ⟨g.own, fun b h1 h2 h3 => ?_, h.bel.trans g.bel⟩
  obtain ⟨a1, a2⟩ := h.far b h1 h2 h3
  obtain ⟨b1, b2⟩ := g.far b (by omega) (by omega) a2
  exact ⟨b1.trans a1, b2⟩
/-- One append more, behind steps that keep all that was there. -/
theorem PutS.grow {R : Nat} {w wr w1 w2 : World} {B : Nat} {e : TypeId} {sz : Nat} {v v1 : Value} {n n2 g cap : Nat} {qs qs2 : List Value} (h : PutS R w wr B e sz v v1 n qs) (b1 : Below wr.heap.size wr w1) (hB : B ≤ w.heap.size)
    (hown : w2.ownsRow B e sz (.slice (some ⟨g, 0, none⟩) n2 cap) n2 qs2) (hgrow : w1.grownBy w2 v1.ownBlock) (hat : v1.ownBlock = some g ∨ wr.heap.size ≤ g) :
    PutS R w w2 B e sz v (.slice (some ⟨g, 0, none⟩) n2 cap) n2 qs2 := by
  have hs := h.bel.size
  have s1 := b1.size
  refine ⟨hown, fun b h1 h2 h3 => ?_, (h.bel.trans (b1.mono (by omega))).grown hgrow (by omega) (fun k hk => (h.own.lt k hk).1)⟩
  obtain ⟨a1, a2⟩ := h.far b h1 h2 h3
  refine ⟨((hgrow.block b (by omega) (Ne.symm a2)).trans (b1.block b (by omega))).trans a1, fun e => ?_⟩
  have e' : g = b := by simpa [Value.ownBlock] using e
  subst e'
  rcases hat with h4 | h4
  · exact a2 h4
  · omega
/-- A block that is not the row's is kept by an append, and is not the new row's. -/
theorem grow_other {wr w1 w2 : World} {v1 : Value} {b g : Nat} (b1 : Below wr.heap.size wr w1) (hgrow : w1.grownBy w2 v1.ownBlock) (hb : b < wr.heap.size) (hv : v1.ownBlock ≠ some b) (hat : v1.ownBlock = some g ∨ wr.heap.size ≤ g) : w2.heap[b]? = wr.heap[b]? ∧ g ≠ b := by
  have s1 := b1.size
  refine ⟨(hgrow.block b (by omega) (Ne.symm hv)).trans (b1.block b hb), fun e => ?_⟩
  subst e
  rcases hat with h4 | h4
  · exact hv h4
  · omega
theorem PutS.ints {R : Nat} {w wr : World} {B : Nat} {e : TypeId} {sz : Nat} {v v' : Value} {n' : Nat} {qs' : List Value} (h : PutS R w wr B e sz v v' n' qs') {a : Option Addr} {c : Nat} {xs : List Int} (hi : IntsOn (fun g => v.ownBlock ≠ some g ∧ g ≠ R) w a c xs) : IntsOn (fun g => v'.ownBlock ≠ some g ∧ g ≠ R) wr a c xs :=
  hi.keep fun g hg hl => ⟨⟨(h.far g hl hg.2 hg.1).2, hg.2⟩, fun o => World.cell?_of_block (h.far g hl hg.2 hg.1).1⟩
theorem PutS.arr {R : Nat} {w wr : World} {B : Nat} {e : TypeId} {sz : Nat} {v v' : Value} {n' : Nat} {qs' : List Value} (h : PutS R w wr B e sz v v' n' qs') {u : Value} {A : Arr} (hi : ArrOn (fun g => v.ownBlock ≠ some g ∧ g ≠ R) w u A) : ArrOn (fun g => v'.ownBlock ≠ some g ∧ g ≠ R) wr u A :=
  hi.keep fun g hg hl => ⟨⟨(h.far g hl hg.2 hg.1).2, hg.2⟩, fun o => World.cell?_of_block (h.far g hl hg.2 hg.1).1⟩
theorem PutS.quad {R : Nat} {w wr : World} {B : Nat} {e : TypeId} {sz : Nat} {v v' : Value} {n' : Nat} {qs' : List Value} (h : PutS R w wr B e sz v v' n' qs') {b : Nat} {c0 c1 c2 c3 : Value} (q : Quad w b c0 c1 c2 c3) (hR : b ≠ R) (hv : v.ownBlock ≠ some b) : Quad wr b c0 c1 c2 c3 :=
  q.keep (h.far b q.lt hR hv).1
theorem PutS.quads {R : Nat} {w wr : World} {B : Nat} {e : TypeId} {sz : Nat} {v v' : Value} {n' : Nat} {qs' : List Value} (h : PutS R w wr B e sz v v' n' qs') {qs : List Value} {l : List Arr} (hi : Quads (fun g => v.ownBlock ≠ some g ∧ g ≠ R) w qs l) : Quads (fun g => v'.ownBlock ≠ some g ∧ g ≠ R) wr qs l :=
  hi.keep fun g hg hl => ⟨⟨(h.far g hl hg.2 hg.1).2, hg.2⟩, fun o => World.cell?_of_block (h.far g hl hg.2 hg.1).1⟩

/-! ### Lists -/
theorem blk_take {α : Type} (l : List α) (i m n : Nat) (h : (i + 1) * m ≤ n) : blk (l.take n) i m = (l.drop (i * m)).take m := by
  rw [Nat.succ_mul] at h
  rw [blk, List.drop_take, List.take_take, Nat.min_eq_left (by omega)]
/-- The i-th piece of what is padded. -/
def piece {α : Type} (z : α) (ts fs : List Int) (f : Int) (els : List α) (i : Nat) : List α := if i < f.toNat ∧ 0 < prN fs then padS z ts fs (blk els i (prN fs)) else List.replicate (prN ts) z
def pieces {α : Type} (z : α) (ts fs : List Int) (f : Int) (els : List α) (i : Nat) : List α := ((List.range i).map (piece z ts fs f els)).flatten
theorem pieces_zero {α : Type} (z : α) (ts fs : List Int) (f : Int) (els : List α) : pieces z ts fs f els 0 = [] := by simp [pieces]
theorem pieces_succ {α : Type} (z : α) (ts fs : List Int) (f : Int) (els : List α) (i : Nat) : pieces z ts fs f els (i + 1) = pieces z ts fs f els i ++ piece z ts fs f els i := flatten_succ _ _
theorem pieces_end {α : Type} (z : α) (t : Int) (ts : List Int) (f : Int) (fs : List Int) (els : List α) : pieces z ts fs f els t.toNat = padS z (t :: ts) (f :: fs) els := by rw [padS]; rfl
theorem right_tailC {x : Int} {r : List Int} (h : rightB (x :: r) = true) : rightB r = true := by
  have := right_drop (k := 1) h
  simpa using this
theorem size_prN {xs : List Int} (h : rightB xs = true) : sizeS xs = (prN xs : Int) := by
  have := pr_nn (right_def.1 h).2.1
  rw [sizeS, if_pos h]; unfold prN; omega
theorem prN_le {xs : List Int} (h : rightB xs = true) : prN xs ≤ 65536 := by
  have := part_bd (a := xs) (b := []) (by rw [List.append_nil]; exact h)
  unfold prN; omega
end Go.Proofs.Ytkjbccodahleoaa.Shape
