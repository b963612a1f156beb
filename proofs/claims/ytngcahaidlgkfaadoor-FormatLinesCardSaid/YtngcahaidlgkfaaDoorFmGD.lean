/-
  Layer 5: lists of strings in blocks of their own.
  Layer 5: the program's visible and cellTexts. (Written by wip/gen/format-cells.py.)
  Layer 5: the program's table. (Written by wip/gen/format-tab.py.)
  Layer 5: the program's Lines: the function literal at two axes.
  Layer 5: the program's Lines: 'append(ones[min(rank, 2):], a.Shape...)'.
  Layer 5: the program's Lines at no more than two axes. (Written by wip/gen/format-lines.py.)
  Layer 5: the program's Show.
  Layer 5: the law's examples: what each call gives.
  Layer 5: the law's examples: the calls.
  Layer 5: the law's knows. (Written by wip/gen/format-knows.py.)
-/
import Derived.Test.YtngcahaidlgkfaaDoorFmGA
import Derived.Test.YtngcahaidlgkfaaDoorArrP7a
import Derived.Test.YtngcahaidlgkfaaDoorFmGC
import Derived.Test.YtngcahaidlgkfaaDoorShelf
import Derived.RegionTactic
import Derived.Lib.Join
import Derived.Deep.DeepCutAuto
import Derived.Lib.Hide
import Derived.Deep.RegionHeld3
import Derived.ArgAppend
import Derived.Deep.RegionHeldLaw
namespace Go.Proofs.YtngcahaidlgkfaaDoor.Shape
open Go.RowKit Go.Proofs.YtngcahaidlgkfaaDoor.Num
set_option linter.unusedVariables false
set_option linter.unusedSimpArgs false

/-- A string as a value. -/
def sv (s : List UInt8) : Value := .string ⟨s.toArray⟩
/-- The block g holds the strings L, none of them frozen. -/
def Strs (w : World) (g : Nat) (L : List (List UInt8)) : Prop := w.heap[g]? = some (.cells (L.map sv).toArray 9 (0, 0))
theorem Strs.lt {w : World} {g : Nat} {L : List (List UInt8)} (h : Strs w g L) : g < w.heap.size := (Array.getElem?_eq_some_iff.1 h).1
theorem Strs.below {w w' : World} {g : Nat} {L : List (List UInt8)} (h : Strs w g L) (hb : Below w.heap.size w w') : Strs w' g L := (hb.block g h.lt).trans h
theorem Strs.belowB {w w' : World} {B g : Nat} {L : List (List UInt8)} (h : Strs w g L) (hb : Below B w w') (hg : g < B) : Strs w' g L := (hb.block g hg).trans h
theorem Strs.cell {w : World} {g : Nat} {L : List (List UInt8)} (h : Strs w g L) {j : Nat} (hj : j < L.length) : w.cell? ⟨g, j, none⟩ = some (sv L[j]) := by
  unfold Strs at h
  simp [World.cell?, h, hj]
theorem Strs.free {w : World} {g : Nat} {L : List (List UInt8)} (h : Strs w g L) (j : Nat) : w.frozen? ⟨g, j, none⟩ = false := by
  unfold Strs at h
  simp [World.frozen?, h]
theorem Strs.set {w : World} {g : Nat} {L : List (List UInt8)} (h : Strs w g L) (j : Nat) (s : List UInt8) : Strs (w.setCell ⟨g, j, none⟩ (sv s)) g (L.set j s) := by
  unfold Strs at h ⊢
  rw [row_set h (sv s), List.map_set]
theorem elemStrs : Tryd.prog.underlying 30 = some (.slice (Tryd.prog.elem 30)) := by kernel_rfl
theorem sizeStrs (w : World) : (sizeOf (Tryd.prog.elem 30)).run Tryd.prog w = .ok 1 w := by kernel_rfl
theorem strs_at (w' : World) (g n c k : Nat) (hk : k < n) : (Instr.indexAt 30 (.slice (some ⟨g, 0, none⟩) n c) (.int .i64 (k : Int))).run Tryd.prog w' = .ok (.pointer (some ⟨g, k, none⟩)) w' := by
  rw [run_indexAt_slice w' _ _ _ _ .i64 k elemStrs, if_pos (by omega), sizeStrs]
  show Result.ok _ w' = _
  rw [show ((k : Int).toNat * 1) = k by omega, add_plain, Nat.zero_add]
theorem infoStr : (Tryd.prog.info? 9).map (fun i => (i.zero, i.size, i.bytes)) = some (some (.string ⟨#[]⟩), 1, 16) := by kernel_rfl
theorem made_strs (n : Nat) : madeCells #[.string ⟨#[]⟩] n = ((List.replicate n ([] : List UInt8)).map sv).toArray := by
  apply Array.ext'
  simp only [madeCells, sv, List.map_replicate]
  refine List.ext_getElem (by simp) fun i h1 h2 => ?_
  simp [Nat.mod_one]
theorem run_makeStrs (w : World) (n : Nat) (hn : n * 16 ≤ 140737488351232) : (Instr.makeSlice 30 (.int .i64 (n : Int)) (.int .i64 (n : Int))).run Tryd.prog w = .ok (.slice (some ⟨w.heap.size, 0, none⟩) n n) (w.alloc (.cells ((List.replicate n ([] : List UInt8)).map sv).toArray 9)) := by
  obtain ⟨i0, hi, hz0, hz1, hz2⟩ := info_parts infoStr
  have := run_make (P := Tryd.prog) w 30 9 i0 _ Tryd.underlying30 hi hz0 .i64 .i64 n n (by omega) (Int.le_refl _) (by rw [hz2]; omega) (by omega)
  rw [hz1, Nat.mul_one] at this
  simp only [Int.toNat_natCast] at this
  rw [this, show (Value.string ⟨#[]⟩).cells = #[.string ⟨#[]⟩] from rfl, made_strs]
theorem Strs.new (w : World) (L : List (List UInt8)) : Strs (w.alloc (.cells (L.map sv).toArray 9)) w.heap.size L := heap_alloc_new w _
/-- Storing the next text. -/
theorem fill_step {T : List (List UInt8)} {N j : Nat} (hT : T.length = N) (hj : j < N) : (T.take j ++ List.replicate (N - j) ([] : List UInt8)).set j (T[j]'(by omega)) = T.take (j + 1) ++ List.replicate (N - (j + 1)) [] := by
  have hl : (T.take j).length = j := by rw [List.length_take]; omega
  rw [List.set_append, if_neg (by rw [hl]; omega), hl, Nat.sub_self]
  obtain ⟨m, hm⟩ : ∃ m, N - j = m + 1 := ⟨N - j - 1, by omega⟩
  have e := List.take_succ_eq_append_getElem (l := T) (i := j) (by omega)
  rw [hm, List.replicate_succ, List.set_cons_zero, e, show N - (j + 1) = m by omega]
  simp only [List.append_assoc, List.cons_append, List.nil_append]
end Go.Proofs.YtngcahaidlgkfaaDoor.Shape

namespace Go.Proofs.YtngcahaidlgkfaaDoor.Shape
open Go.RowKit Go.Proofs.YtngcahaidlgkfaaDoor.Num
set_option linter.unusedVariables false
set_option linter.unusedSimpArgs false

/-- A character that is shown in one column. -/
def visS (x : Int) : List UInt8 := if x < 32 ∨ 126 < x then [63] else enc x
def boxS (A : Arr) : List UInt8 := 91 :: (litS A ++ [93])
set_option maxRecDepth 100000 in
set_option maxHeartbeats 8000000 in
theorem visibleQ (x : Int) (w : World) (h0 : 0 ≤ x) (h1 : x ≤ 1114111) : Calls Tryd.prog 44 #[.int .i64 x] w fun e w' => e = .returned (sv (visS x)) ∧ Below w.heap.size w w' := by
  by_cases ha : x < 32
  · have e : visS x = [63] := by rw [visS, if_pos (Or.inl ha)]
    rw [e]
    go_enter Tryd.func44, Tryd.ntmps44
    go_wp2
    go_ret
    exact ⟨rfl, Below.refl _ _⟩
  by_cases hb : 126 < x
  · have e : visS x = [63] := by rw [visS, if_pos (Or.inr hb)]
    rw [e]
    go_enter Tryd.func44, Tryd.ntmps44
    go_wp2
    go_ret
    exact ⟨rfl, Below.refl _ _⟩
  · have e : visS x = enc x := by rw [visS, if_neg (by omega)]
    rw [e]
    have hw : IntKind.i32.wrap x = x := by unfold IntKind.wrap; simp [IntKind.bits, IntKind.signed]; omega
    go_enter Tryd.func44, Tryd.ntmps44
    go_wp2
    go_ret
    exact ⟨rfl, Below.refl _ _⟩
set_option maxRecDepth 100000 in
set_option maxHeartbeats 8000000 in
theorem ct1 (sh nu : List Int) (it : List Arr) (v : Value) (w : World) (hN0 : nu.length ≤ 400) (hA : ArrAt w v (.mk 1 sh nu it)) :
    Calls Tryd.prog 25 #[v] w fun e w' => ∃ g, w.heap.size ≤ g ∧ e = .returned (.slice (some ⟨g, 0, none⟩) nu.length nu.length) ∧ Strs w' g (nu.map shL) ∧ Below w.heap.size w w' := by
  have hA' := hA
  rw [ArrAt] at hA'
  obtain ⟨sa, sc, na, nc, ia, ic, rfl, hk, hs, hn, h1, h2, b, off, ha, hc⟩ := hA'
  have hsz := size12 (A := .mk 1 sh nu it) (by simp [Arr.kind]) (by simp [Arr.kind])
  obtain ⟨N, hNl⟩ : ∃ N, Hid (nu.length = N) := ⟨_, rfl⟩
  have hsz2 : aSize (.mk 1 sh nu it) = N := hsz.trans hNl.out
  have bw := below_new w (.cells #[.int .i64 1, .slice sa sh.length sc, .slice na nu.length nc, .slice ia it.length ic] 26)
  have q0 := Quad.new w (.int .i64 1) (.slice sa sh.length sc) (.slice na nu.length nc) (.slice ia it.length ic)
  have cZ := sizeQ _ _ _ (hA.below bw)
  rw [hsz2] at cZ
  have hN4 : N ≤ 400 := by rw [← hNl.out]; exact hN0
  have hNl2 := hNl.out
  rw [hNl2] at bw q0 cZ ⊢
  clear hNl2
  obtain ⟨cs, hcs⟩ : ∃ cs, Hid (((List.replicate N ([] : List UInt8)).map sv).toArray = cs) := ⟨_, rfl⟩
  have hTl : Hid ((nu.map shL).length = N) := by unfold Hid; rw [List.length_map]; exact hNl.out
  have hlt := q0.lt
  clear hsz hsz2 hA hk hs h1 h2 hN0
  go_enter Tryd.func25, Tryd.ntmps25
  go_wp2_with (go_at_call 21; (with_reducible refine cZ.mono ?_); rintro e1 w1 ⟨rfl, b1⟩; have hmk := run_makeStrs w1 N (by omega); rw [Hid.out hcs] at hmk)
  have q1 := Quad.below (Below.then b1 (below_new w1 (.cells cs 9))) q0
  have S1 := Strs.new w1 (List.replicate N ([] : List UInt8))
  rw [hcs.out] at S1
  have B1 : Below w.heap.size w (w1.alloc (.cells cs 9)) := Below.then (Below.then bw b1) (below_new _ _)
  have hG : w.heap.size < w1.heap.size := by have := b1.size; omega
  have hG2 : w.heap.size ≤ w1.heap.size := Nat.le_of_lt hG
  go_loopw [10] (fun i wr => ∃ j : Nat, j ≤ N ∧ i = .int .i64 (j : Int) ∧ Strs wr w1.heap.size ((nu.map shL).take j ++ List.replicate (N - j) []) ∧ Below w.heap.size w wr ∧ Quad wr w.heap.size (.int .i64 1) (.slice sa sh.length sc) (.slice na N nc) (.slice ia it.length ic) ∧ w1.heap.size < wr.heap.size) (fun i _ => N - (intOf i).toNat)
  case atStart => exact ⟨0, Nat.zero_le _, rfl, by simpa using S1, B1, q1, by simp⟩
  case round =>
    clear S1 B1 q1 hmk b1 cZ q0 bw hcs
    obtain ⟨j, hj, rfl, S0, Bwr, q00, hsz0⟩ := hrel
    obtain ⟨y0, y1, y2, y3, -⟩ := q00.cells
    by_cases hlt2 : j < N
    · have hlt' : (j : Int) < (N : Int) := by omega
      have hjl : j < nu.length := by rw [hNl.out]; exact hlt2
      have hst := fill_step (T := (nu.map shL)) hTl.out hlt2
      have hn1 := IntsAt.below hn Bwr
      obtain ⟨b', o', hi', hc'⟩ := hn1.at (k := j) hjl
      obtain ⟨bd1, bd2⟩ := hn1.bd (k := j) hjl
      rw [hNl.out] at hi'
      have hT1 : (nu.map shL)[j]'(by rw [List.length_map]; exact hjl) = shL nu[j] := by simp
      obtain ⟨x, hx⟩ : ∃ x, nu[j] = x := ⟨_, rfl⟩
      rw [hx] at hc' bd1 bd2 hT1
      have cN : ∀ w, Calls Tryd.prog 43 #[.int .i64 x] w fun e w' => e = .returned (.string ⟨(shL x).toArray⟩) ∧ Below w.heap.size w w' := fun w => Num.showP x w bd1 bd2
      clear hx hn1
      rw [hT1] at hst
      have hsa := fun w' => strs_at w' w1.heap.size N N j hlt2
      have hHs := Lib.hid hst
      clear hst hT1
      have hLl : j < ((nu.map shL).take j ++ List.replicate (N - j) ([] : List UInt8)).length := by rw [List.length_append, List.length_take, List.length_replicate, hTl.out]; omega
      generalize (nu.map shL).take j ++ List.replicate (N - j) [] = L0 at *
      go_wp2_with (go_at_call 43; (with_reducible refine (cN _).mono ?_); rintro e2 w2 ⟨rfl, b2⟩; have S2 := Strs.below S0 b2; have f2 := Strs.free S2 j; have g2 := Strs.cell S2 hLl; have q2 := Quad.below b2 q00)
      go_roundw
      case rel => exact ⟨j + 1, by omega, by go_num, by rw [← hHs.out]; exact S2.set j (shL x), (Below.then Bwr b2).setCell hG2 _, q2.keep (set_other _ _ _ _ _ (Nat.ne_of_lt hG)), by have := b2.size; simp; omega⟩
      case measure => simp [intOf]; omega
    · obtain rfl : j = N := by omega
      have hn0 : ¬ (j : Int) < (j : Int) := by omega
      have e : (nu.map shL).take j ++ List.replicate (j - j) [] = (nu.map shL) := by
        rw [List.take_of_length_le (by rw [hTl.out]; exact Nat.le_refl _), Nat.sub_self]; simp
      rw [e] at S0
      go_wp2
      go_ret
      exact ⟨_, hG2, rfl, S0, Bwr⟩
set_option maxRecDepth 100000 in
set_option maxHeartbeats 8000000 in
theorem ct2 (sh nu : List Int) (it : List Arr) (v : Value) (w : World) (hch : ∀ x ∈ nu, 0 ≤ x ∧ x ≤ 1114111) (hN0 : nu.length ≤ 400) (hA : ArrAt w v (.mk 2 sh nu it)) :
    Calls Tryd.prog 25 #[v] w fun e w' => ∃ g, w.heap.size ≤ g ∧ e = .returned (.slice (some ⟨g, 0, none⟩) nu.length nu.length) ∧ Strs w' g (nu.map visS) ∧ Below w.heap.size w w' := by
  have hA' := hA
  rw [ArrAt] at hA'
  obtain ⟨sa, sc, na, nc, ia, ic, rfl, hk, hs, hn, h1, h2, b, off, ha, hc⟩ := hA'
  have hsz := size12 (A := .mk 2 sh nu it) (by simp [Arr.kind]) (by simp [Arr.kind])
  obtain ⟨N, hNl⟩ : ∃ N, Hid (nu.length = N) := ⟨_, rfl⟩
  have hsz2 : aSize (.mk 2 sh nu it) = N := hsz.trans hNl.out
  have bw := below_new w (.cells #[.int .i64 2, .slice sa sh.length sc, .slice na nu.length nc, .slice ia it.length ic] 26)
  have q0 := Quad.new w (.int .i64 2) (.slice sa sh.length sc) (.slice na nu.length nc) (.slice ia it.length ic)
  have cZ := sizeQ _ _ _ (hA.below bw)
  rw [hsz2] at cZ
  have hN4 : N ≤ 400 := by rw [← hNl.out]; exact hN0
  have hNl2 := hNl.out
  rw [hNl2] at bw q0 cZ ⊢
  clear hNl2
  obtain ⟨cs, hcs⟩ : ∃ cs, Hid (((List.replicate N ([] : List UInt8)).map sv).toArray = cs) := ⟨_, rfl⟩
  have hTl : Hid ((nu.map visS).length = N) := by unfold Hid; rw [List.length_map]; exact hNl.out
  have hlt := q0.lt
  clear hsz hsz2 hA hk hs h1 h2 hN0
  go_enter Tryd.func25, Tryd.ntmps25
  go_wp2_with (go_at_call 21; (with_reducible refine cZ.mono ?_); rintro e1 w1 ⟨rfl, b1⟩; have hmk := run_makeStrs w1 N (by omega); rw [Hid.out hcs] at hmk)
  have q1 := Quad.below (Below.then b1 (below_new w1 (.cells cs 9))) q0
  have S1 := Strs.new w1 (List.replicate N ([] : List UInt8))
  rw [hcs.out] at S1
  have B1 : Below w.heap.size w (w1.alloc (.cells cs 9)) := Below.then (Below.then bw b1) (below_new _ _)
  have hG : w.heap.size < w1.heap.size := by have := b1.size; omega
  have hG2 : w.heap.size ≤ w1.heap.size := Nat.le_of_lt hG
  go_loopw [10] (fun i wr => ∃ j : Nat, j ≤ N ∧ i = .int .i64 (j : Int) ∧ Strs wr w1.heap.size ((nu.map visS).take j ++ List.replicate (N - j) []) ∧ Below w.heap.size w wr ∧ Quad wr w.heap.size (.int .i64 2) (.slice sa sh.length sc) (.slice na N nc) (.slice ia it.length ic) ∧ w1.heap.size < wr.heap.size) (fun i _ => N - (intOf i).toNat)
  case atStart => exact ⟨0, Nat.zero_le _, rfl, by simpa using S1, B1, q1, by simp⟩
  case round =>
    clear S1 B1 q1 hmk b1 cZ q0 bw hcs
    obtain ⟨j, hj, rfl, S0, Bwr, q00, hsz0⟩ := hrel
    obtain ⟨y0, y1, y2, y3, -⟩ := q00.cells
    by_cases hlt2 : j < N
    · have hlt' : (j : Int) < (N : Int) := by omega
      have hjl : j < nu.length := by rw [hNl.out]; exact hlt2
      have hst := fill_step (T := (nu.map visS)) hTl.out hlt2
      have hn1 := IntsAt.below hn Bwr
      obtain ⟨b', o', hi', hc'⟩ := hn1.at (k := j) hjl
      obtain ⟨bd1, bd2⟩ := hch _ (List.getElem_mem hjl)
      rw [hNl.out] at hi'
      have hT1 : (nu.map visS)[j]'(by rw [List.length_map]; exact hjl) = visS nu[j] := by simp
      obtain ⟨x, hx⟩ : ∃ x, nu[j] = x := ⟨_, rfl⟩
      rw [hx] at hc' bd1 bd2 hT1
      have cN : ∀ w, Calls Tryd.prog 44 #[.int .i64 x] w fun e w' => e = .returned (.string ⟨(visS x).toArray⟩) ∧ Below w.heap.size w w' := fun w => visibleQ x w bd1 bd2
      clear hx hn1
      rw [hT1] at hst
      have hsa := fun w' => strs_at w' w1.heap.size N N j hlt2
      have hHs := Lib.hid hst
      clear hst hT1
      have hLl : j < ((nu.map visS).take j ++ List.replicate (N - j) ([] : List UInt8)).length := by rw [List.length_append, List.length_take, List.length_replicate, hTl.out]; omega
      generalize (nu.map visS).take j ++ List.replicate (N - j) [] = L0 at *
      go_wp2_with (go_at_call 44; (with_reducible refine (cN _).mono ?_); rintro e2 w2 ⟨rfl, b2⟩; have S2 := Strs.below S0 b2; have f2 := Strs.free S2 j; have g2 := Strs.cell S2 hLl; have q2 := Quad.below b2 q00)
      go_roundw
      case rel => exact ⟨j + 1, by omega, by go_num, by rw [← hHs.out]; exact S2.set j (visS x), (Below.then Bwr b2).setCell hG2 _, q2.keep (set_other _ _ _ _ _ (Nat.ne_of_lt hG)), by have := b2.size; simp; omega⟩
      case measure => simp [intOf]; omega
    · obtain rfl : j = N := by omega
      have hn0 : ¬ (j : Int) < (j : Int) := by omega
      have e : (nu.map visS).take j ++ List.replicate (j - j) [] = (nu.map visS) := by
        rw [List.take_of_length_le (by rw [hTl.out]; exact Nat.le_refl _), Nat.sub_self]; simp
      rw [e] at S0
      go_wp2
      go_ret
      exact ⟨_, hG2, rfl, S0, Bwr⟩
set_option maxRecDepth 100000 in
set_option maxHeartbeats 8000000 in
theorem ct3 (sh nu : List Int) (it : List Arr) (v : Value) (w : World) (hI : ∀ j (hj : j < it.length), rightE it[j] = 0 ∧ wt it[j] ≤ 400) (hT : Tok.TZ w) (hg : 3 < w.heap.size) (hN0 : it.length ≤ 400) (hA : ArrAt w v (.mk 3 sh nu it)) :
    Calls Tryd.prog 25 #[v] w fun e w' => ∃ g, w.heap.size ≤ g ∧ e = .returned (.slice (some ⟨g, 0, none⟩) it.length it.length) ∧ Strs w' g (it.map boxS) ∧ Below w.heap.size w w' := by
  have hA' := hA
  rw [ArrAt] at hA'
  obtain ⟨sa, sc, na, nc, ia, ic, rfl, hk, hs, hn, h1, h2, b, off, ha, hc⟩ := hA'
  have hsz := size3 (A := .mk 3 sh nu it) rfl
  obtain ⟨N, hNl⟩ : ∃ N, Hid (it.length = N) := ⟨_, rfl⟩
  have hsz2 : aSize (.mk 3 sh nu it) = N := hsz.trans hNl.out
  have bw := below_new w (.cells #[.int .i64 3, .slice sa sh.length sc, .slice na nu.length nc, .slice ia it.length ic] 26)
  have q0 := Quad.new w (.int .i64 3) (.slice sa sh.length sc) (.slice na nu.length nc) (.slice ia it.length ic)
  have cZ := sizeQ _ _ _ (hA.below bw)
  rw [hsz2] at cZ
  have hN4 : N ≤ 400 := by rw [← hNl.out]; exact hN0
  have hNl2 := hNl.out
  rw [hNl2] at bw q0 cZ ⊢
  clear hNl2
  obtain ⟨cs, hcs⟩ : ∃ cs, Hid (((List.replicate N ([] : List UInt8)).map sv).toArray = cs) := ⟨_, rfl⟩
  have hTl : Hid ((it.map boxS).length = N) := by unfold Hid; rw [List.length_map]; exact hNl.out
  have hlt := q0.lt
  clear hsz hsz2 hA hk hs h1 h2 hN0
  go_enter Tryd.func25, Tryd.ntmps25
  go_wp2_with (go_at_call 21; (with_reducible refine cZ.mono ?_); rintro e1 w1 ⟨rfl, b1⟩; have hmk := run_makeStrs w1 N (by omega); rw [Hid.out hcs] at hmk)
  have q1 := Quad.below (Below.then b1 (below_new w1 (.cells cs 9))) q0
  have S1 := Strs.new w1 (List.replicate N ([] : List UInt8))
  rw [hcs.out] at S1
  have B1 : Below w.heap.size w (w1.alloc (.cells cs 9)) := Below.then (Below.then bw b1) (below_new _ _)
  have hG : w.heap.size < w1.heap.size := by have := b1.size; omega
  have hG2 : w.heap.size ≤ w1.heap.size := Nat.le_of_lt hG
  go_loopw [10] (fun i wr => ∃ j : Nat, j ≤ N ∧ i = .int .i64 (j : Int) ∧ Strs wr w1.heap.size ((it.map boxS).take j ++ List.replicate (N - j) []) ∧ Below w.heap.size w wr ∧ Quad wr w.heap.size (.int .i64 3) (.slice sa sh.length sc) (.slice na nu.length nc) (.slice ia N ic) ∧ w1.heap.size < wr.heap.size) (fun i _ => N - (intOf i).toNat)
  case atStart => exact ⟨0, Nat.zero_le _, rfl, by simpa using S1, B1, q1, by simp⟩
  case round =>
    clear S1 B1 q1 hmk b1 cZ q0 bw hcs
    obtain ⟨j, hj, rfl, S0, Bwr, q00, hsz0⟩ := hrel
    obtain ⟨y0, y1, y2, y3, -⟩ := q00.cells
    by_cases hlt2 : j < N
    · have hlt' : (j : Int) < (N : Int) := by omega
      have hjl : j < it.length := by rw [hNl.out]; exact hlt2
      have hst := fill_step (T := (it.map boxS)) hTl.out hlt2
      have hne : it ≠ [] := fun e => by rw [e] at hjl; exact absurd hjl (by simp)
      obtain rfl := ha hne
      have hix : ∀ w' : World, (Instr.indexAt 24 (.slice (some ⟨b, off, none⟩) N ic) (.int .i64 (j : Int))).run Tryd.prog w' = .ok (.pointer (some ⟨b, off + j * 4, none⟩)) w' := fun w' => items_at (l := it) hNl.out.symm (fun _ => rfl) hjl w'
      obtain ⟨c0, c1, c2, c3, ⟨z0, z1, z2, z3⟩, hAi⟩ := ArrsAt.at (ArrsAt.below Bwr hc) hjl
      have hT1 : (it.map boxS)[j]'(by rw [List.length_map]; exact hjl) = boxS it[j] := by simp
      obtain ⟨i1, i2⟩ := hI j hjl
      have hll := lit_len (rk it[j]) it[j] (Nat.le_refl _) i1 i2
      have hwn := wt_nn it[j]
      have cN := literalP _ _ wr hAi i1 i2 (Tok.TZ.below hT Bwr) (Nat.lt_of_lt_of_le hg Bwr.size)
      have hll2 : (litS it[j]).length ≤ 200000 := by omega
      rw [boxS] at hT1
      generalize litS it[j] = M at *
      have sM : (⟨M.toArray⟩ : ByteArray).size = M.length := by simp [ByteArray.size]
      have s91 : (⟨#[91]⟩ : ByteArray).size = 1 := rfl
      have s93 : (⟨#[93]⟩ : ByteArray).size = 1 := rfl
      have a1 := fun w => run_string_add_sum (P := Tryd.prog) w ⟨#[91]⟩ ⟨M.toArray⟩ (by rw [sM, s91]; omega)
      have a2 := fun w => run_string_add_sum (P := Tryd.prog) w (⟨#[91]⟩ ++ ⟨M.toArray⟩) ⟨#[93]⟩ (by rw [ByteArray.size_append, sM, s91, s93]; omega)
      have eM : (⟨#[91]⟩ : ByteArray) ++ ⟨M.toArray⟩ ++ ⟨#[93]⟩ = ⟨(91 :: (M ++ [93])).toArray⟩ := by
        apply ByteArray.ext
        simp [ByteArray.data_append]
      rw [eM] at a2
      clear sM s91 s93 eM i1 i2 hll hwn hAi hne
      rw [hT1] at hst
      have hsa := fun w' => strs_at w' w1.heap.size N N j hlt2
      have hHs := Lib.hid hst
      clear hst hT1
      have hLl : j < ((it.map boxS).take j ++ List.replicate (N - j) ([] : List UInt8)).length := by rw [List.length_append, List.length_take, List.length_replicate, hTl.out]; omega
      generalize (it.map boxS).take j ++ List.replicate (N - j) [] = L0 at *
      go_wp2_with (go_at_call 19; (with_reducible refine cN.mono ?_); rintro e2 w2 ⟨rfl, b2⟩; have S2 := Strs.below S0 b2; have f2 := Strs.free S2 j; have g2 := Strs.cell S2 hLl; have q2 := Quad.below b2 q00)
      go_roundw
      case rel => exact ⟨j + 1, by omega, by go_num, by rw [← hHs.out]; exact S2.set j (91 :: (M ++ [93])), (Below.then Bwr b2).setCell hG2 _, q2.keep (set_other _ _ _ _ _ (Nat.ne_of_lt hG)), by have := b2.size; simp; omega⟩
      case measure => simp [intOf]; omega
    · obtain rfl : j = N := by omega
      have hn0 : ¬ (j : Int) < (j : Int) := by omega
      have e : (it.map boxS).take j ++ List.replicate (j - j) [] = (it.map boxS) := by
        rw [List.take_of_length_le (by rw [hTl.out]; exact Nat.le_refl _), Nat.sub_self]; simp
      rw [e] at S0
      go_wp2
      go_ret
      exact ⟨_, hG2, rfl, S0, Bwr⟩
end Go.Proofs.YtngcahaidlgkfaaDoor.Shape

namespace Go.Proofs.YtngcahaidlgkfaaDoor.Shape
open Go.RowKit Go.Proofs.YtngcahaidlgkfaaDoor.Num
set_option linter.unusedVariables false
set_option linter.unusedSimpArgs false

/-- The block g holds the numbers L, none of them frozen. -/
def IntB (w : World) (g : Nat) (L : List Int) : Prop := w.heap[g]? = some (.cells (L.map (Value.int .i64)).toArray 3 (0, 0))
theorem IntB.lt {w : World} {g : Nat} {L : List Int} (h : IntB w g L) : g < w.heap.size := (Array.getElem?_eq_some_iff.1 h).1
theorem IntB.below {w w' : World} {g : Nat} {L : List Int} (h : IntB w g L) (hb : Below w.heap.size w w') : IntB w' g L := (hb.block g h.lt).trans h
theorem IntB.keep {w w' : World} {g : Nat} {L : List Int} (h : IntB w g L) (hk : w'.heap[g]? = w.heap[g]?) : IntB w' g L := hk.trans h
theorem Strs.keep {w w' : World} {g : Nat} {L : List (List UInt8)} (h : Strs w g L) (hk : w'.heap[g]? = w.heap[g]?) : Strs w' g L := hk.trans h
theorem IntB.cell {w : World} {g : Nat} {L : List Int} (h : IntB w g L) {j : Nat} (hj : j < L.length) : w.cell? ⟨g, j, none⟩ = some (.int .i64 L[j]) := by
  unfold IntB at h
  simp [World.cell?, h, hj]
theorem IntB.free {w : World} {g : Nat} {L : List Int} (h : IntB w g L) (j : Nat) : w.frozen? ⟨g, j, none⟩ = false := by
  unfold IntB at h
  simp [World.frozen?, h]
theorem IntB.set {w : World} {g : Nat} {L : List Int} (h : IntB w g L) (j : Nat) (x : Int) : IntB (w.setCell ⟨g, j, none⟩ (.int .i64 x)) g (L.set j x) := by
  unfold IntB at h ⊢
  rw [row_set h (.int .i64 x), List.map_set]
theorem ints_at (w' : World) (g n c k : Nat) (hk : k < n) : (Instr.indexAt 23 (.slice (some ⟨g, 0, none⟩) n c) (.int .i64 (k : Int))).run Tryd.prog w' = .ok (.pointer (some ⟨g, k, none⟩)) w' := by
  rw [run_indexAt_slice w' _ _ _ _ .i64 k elemInts, if_pos (by omega), sizeInts]
  show Result.ok _ w' = _
  rw [show ((k : Int).toNat * 1) = k by omega, add_plain, Nat.zero_add]
theorem made_ints (n : Nat) : madeCells #[.int .i64 0] n = ((List.replicate n (0 : Int)).map (Value.int .i64)).toArray := by
  apply Array.ext'
  simp only [madeCells, List.map_replicate]
  refine List.ext_getElem (by simp) fun i h1 h2 => ?_
  simp [Nat.mod_one]
/-- The widths behind the first j texts. -/
def widGo (C : Nat) (T : List (List UInt8)) : Nat → List Int
  | 0 => List.replicate C 0
  | j + 1 => (widGo C T j).set (j % C) (max ((widGo C T j).getD (j % C) 0) ((T.getD j []).length : Int))
theorem wid_len (C : Nat) (T : List (List UInt8)) : ∀ j, (widGo C T j).length = C
  | 0 => by simp [widGo]
  | j + 1 => by rw [widGo, List.length_set, wid_len C T j]
theorem wid_bd (C : Nat) (T : List (List UInt8)) (hT : ∀ t ∈ T, t.length ≤ 300000) : ∀ j, ∀ x ∈ widGo C T j, 0 ≤ x ∧ x ≤ 300000
  | 0, x, hx => by rw [widGo] at hx; rw [List.eq_of_mem_replicate hx]; decide
  | j + 1, x, hx => by
    rw [widGo] at hx
    rcases List.mem_or_eq_of_mem_set hx with h | rfl
    · exact wid_bd C T hT j x h
    · have h1 : (T.getD j []).length ≤ 300000 := by
        by_cases hj : j < T.length
        · rw [List.getD_eq_getElem?_getD, List.getElem?_eq_getElem hj]; exact hT _ (List.getElem_mem hj)
        · rw [List.getD_eq_getElem?_getD, List.getElem?_eq_none (by omega)]; simp
      have h2 : 0 ≤ (widGo C T j).getD (j % C) 0 ∧ (widGo C T j).getD (j % C) 0 ≤ 300000 := by
        by_cases hc : j % C < (widGo C T j).length
        · rw [List.getD_eq_getElem?_getD, List.getElem?_eq_getElem hc]; exact wid_bd C T hT j _ (List.getElem_mem hc)
        · rw [List.getD_eq_getElem?_getD, List.getElem?_eq_none (by omega)]; decide
      omega
theorem wid_mono (C : Nat) (T : List (List UInt8)) (c : Nat) : ∀ j, (widGo C T j).getD c 0 ≤ (widGo C T (j + 1)).getD c 0 := fun j => by
  rw [widGo]
  by_cases h : j % C = c
  · by_cases hc : c < (widGo C T j).length
    · rw [h, List.getD_eq_getElem?_getD, List.getD_eq_getElem?_getD, List.getElem?_set_self hc, Option.getD_some]
      exact Int.le_max_left _ _
    · rw [List.set_eq_of_length_le (by omega)]; exact Int.le_refl _
  · rw [List.getD_eq_getElem?_getD, List.getD_eq_getElem?_getD, List.getElem?_set_ne h]; exact Int.le_refl _
theorem wid_le (C : Nat) (T : List (List UInt8)) (c i : Nat) : ∀ d, (widGo C T i).getD c 0 ≤ (widGo C T (i + d)).getD c 0
  | 0 => Int.le_refl _
  | d + 1 => Int.le_trans (wid_le C T c i d) (wid_mono C T c (i + d))
theorem wid_ge (C : Nat) (T : List (List UInt8)) {i N : Nat} (hi : i < N) (hC : 0 < C) : ((T.getD i []).length : Int) ≤ (widGo C T N).getD (i % C) 0 := by
  have h1 : ((T.getD i []).length : Int) ≤ (widGo C T (i + 1)).getD (i % C) 0 := by
    have hl : i % C < (widGo C T i).length := by rw [wid_len]; exact Nat.mod_lt _ hC
    have e : ∀ v, ((widGo C T i).set (i % C) v).getD (i % C) 0 = v := fun v => by rw [List.getD_eq_getElem?_getD, List.getElem?_set_self hl]; rfl
    rw [widGo, e]
    exact Int.le_max_right _ _
  have := wid_le C T (i % C) (i + 1) (N - (i + 1))
  rw [show i + 1 + (N - (i + 1)) = N by omega] at this
  omega
def padS (n : Nat) (t : List UInt8) : List UInt8 := List.replicate (n - t.length) 32 ++ t
def rowT (C : Nat) (ws : List Int) (T : List (List UInt8)) (r : Nat) : List (List UInt8) := (List.range C).map fun c => padS (ws.getD c 0).toNat (T.getD (r * C + c) [])
def tabT (R C : Nat) (T : List (List UInt8)) (sep : List UInt8) : List (List UInt8) := (List.range R).map fun r => Lib.join (rowT C (widGo C T T.length) T r) sep
theorem rep32 : ∀ k, Lib.repeatL [32] k = List.replicate k 32
  | 0 => rfl
  | k + 1 => by rw [Lib.repeatL, rep32 k, List.replicate_succ]; rfl
theorem row_step {A old : List (List UInt8)} {C cc : Nat} (hA : A.length = C) (ho : old.length = C) (h : cc < C) : (A.take cc ++ old.drop cc).set cc (A[cc]'(by omega)) = A.take (cc + 1) ++ old.drop (cc + 1) := by
  have hl : (A.take cc).length = cc := by rw [List.length_take]; omega
  have e := List.take_succ_eq_append_getElem (l := A) (i := cc) (by omega)
  rw [List.set_append, if_neg (by rw [hl]; omega), hl, Nat.sub_self, List.drop_eq_getElem_cons (by omega), List.set_cons_zero, e]
  simp only [List.append_assoc, List.cons_append, List.nil_append]
theorem join_bd (sep : List UInt8) (m : Nat) : ∀ (xs : List (List UInt8)), (∀ x ∈ xs, x.length ≤ m) → (Lib.join xs sep).length ≤ xs.length * (m + sep.length)
  | [], _ => by simp [Lib.join]
  | x :: r, h => by
    have go : ∀ (r : List (List UInt8)), (∀ x ∈ r, x.length ≤ m) → (Lib.joinTail sep r).length ≤ r.length * (m + sep.length) := fun r hr => by
      induction r with
      | nil => simp [Lib.joinTail]
      | cons y r ih =>
        have h1 := ih fun z hz => hr z (List.mem_cons_of_mem _ hz)
        have h2 := hr y (by simp)
        simp only [Lib.joinTail, List.map_cons, List.flatten_cons, List.length_append, List.length_cons, Nat.succ_mul] at h1 ⊢
        omega
    have h1 := go r fun z hz => h z (List.mem_cons_of_mem _ hz)
    have h2 := h x (by simp)
    rw [Lib.join_cons, List.length_append, List.length_cons, Nat.succ_mul]
    omega
theorem row_bd {C : Nat} {ws : List Int} {T : List (List UInt8)} {r : Nat} (hw : ∀ x ∈ ws, 0 ≤ x ∧ x ≤ 300000) (hT : ∀ t ∈ T, t.length ≤ 300000) : ∀ x ∈ rowT C ws T r, x.length ≤ 600000 := fun x hx => by
  simp only [rowT, List.mem_map, List.mem_range] at hx
  obtain ⟨c, hc, rfl⟩ := hx
  have h1 : (ws.getD c 0).toNat ≤ 300000 := by
    by_cases h : c < ws.length
    · rw [List.getD_eq_getElem?_getD, List.getElem?_eq_getElem h]
      have := hw _ (List.getElem_mem h)
      simp only [Option.getD_some]; omega
    · rw [List.getD_eq_getElem?_getD, List.getElem?_eq_none (by omega)]; simp
  have h2 : (T.getD (r * C + c) []).length ≤ 300000 := by
    by_cases h : r * C + c < T.length
    · rw [List.getD_eq_getElem?_getD, List.getElem?_eq_getElem h]; exact hT _ (List.getElem_mem h)
    · rw [List.getD_eq_getElem?_getD, List.getElem?_eq_none (by omega)]; simp
  rw [padS, List.length_append, List.length_replicate]; omega
theorem joinQ (row : List (List UInt8)) (sep : List UInt8) (G C : Nat) (hl : row.length = C) (w : World) (h : Strs w G row) (hC : C ≤ 400) (hs : sep.length ≤ 10) (hb : ∀ x ∈ row, x.length ≤ 600000) :
    Calls Tryd.prog 29 #[.slice (some ⟨G, 0, none⟩) C C, .string ⟨sep.toArray⟩] w fun e w' => e = .returned (.string ⟨(Lib.join row sep).toArray⟩) ∧ Below w.heap.size w w' := by
  subst hl
  have e1 : ((row.map fun t => (⟨t.toArray⟩ : ByteArray)).map (·.data.toList)) = row := by
    rw [List.map_map]; conv => rhs; rw [← List.map_id row]
    rfl
  have hj := join_bd sep 600000 row hb
  have := Tryd.strings_Join G 0 row.length (row.map fun t => (⟨t.toArray⟩ : ByteArray)) ⟨sep.toArray⟩ w (fun j x hx => by
    rw [List.getElem?_map] at hx
    obtain ⟨t, ht, rfl⟩ := Option.map_eq_some_iff.1 hx
    obtain ⟨hjl, rfl⟩ := List.getElem?_eq_some_iff.1 ht
    rw [Nat.zero_add]
    exact h.cell hjl) h.lt (by rw [List.length_map]; omega) (by rw [List.length_map]; exact Nat.le_refl _) (by
      rw [e1]
      show (Lib.join row sep).length ≤ _
      have : row.length * (600000 + sep.length) ≤ 400 * 600010 := Nat.mul_le_mul hC (by omega)
      omega)
  rw [e1, List.length_map] at this
  exact this
set_option maxRecDepth 100000 in
set_option maxHeartbeats 16000000 in
theorem tab1 (R C N : Nat) (T : List (List UInt8)) (sep : List UInt8) (g o c : Nat) (w : World) (hT : ∀ t ∈ T, t.length ≤ 300000) (hN : Hid (T.length = N)) (hN4 : N ≤ 400) (hRC : Hid (R * C = N)) (hR : R ≤ 400) (hC : C ≤ 400) (hsep : sep.length ≤ 10) (hcells : ∀ (j : Nat) (hj : j < T.length), w.cell? ⟨g, o + j, none⟩ = some (.string ⟨T[j].toArray⟩))
    (hidx : ∀ (w' : World) (j : Nat), j < N → (Instr.indexAt 30 (.slice (some ⟨g, o, none⟩) N c) (.int .i64 (j : Int))).run Tryd.prog w' = .ok (.pointer (some ⟨g, o + j, none⟩)) w') :
    Calls Tryd.prog 23 #[.int .i64 (R : Int), .int .i64 (C : Int), .slice (some ⟨g, o, none⟩) N c, .string ⟨sep.toArray⟩] w fun e w' => ∃ G, w.heap.size ≤ G ∧ e = .returned (.slice (some ⟨G, 0, none⟩) R R) ∧ Strs w' G (tabT R C T sep) ∧ Below w.heap.size w w' := by
  obtain ⟨cs, hcs⟩ : ∃ cs, Hid (((List.replicate C (0 : Int)).map (Value.int .i64)).toArray = cs) := ⟨_, rfl⟩
  have hmk := run_makeInts w C (by omega)
  rw [made_ints, hcs.out] at hmk
  have W1 : IntB (w.alloc (.cells cs 3)) w.heap.size (widGo C T 0) := by
    unfold IntB
    rw [widGo, hcs.out]
    exact heap_alloc_new w _
  have B1 := below_new w (.cells cs 3)
  go_enter Tryd.func23, Tryd.ntmps23
  go_wp2
  go_loopw [22] (fun i wr => ∃ j : Nat, j ≤ N ∧ i = .int .i64 (j : Int) ∧ IntB wr w.heap.size (widGo C T j) ∧ Below w.heap.size w wr) (fun i _ => N - (intOf i).toNat)
  case atStart => exact ⟨0, Nat.zero_le _, rfl, W1, B1⟩
  case round =>
    clear W1 B1 hmk hcs
    obtain ⟨j, hj, rfl, W0, Bw⟩ := hrel
    by_cases hlt : j < N
    · have hlt' : (j : Int) < (N : Int) := by omega
      have hjl : j < T.length := by rw [hN.out]; exact hlt
      have hC0 : 0 < C := by
        rcases Nat.eq_zero_or_pos C with h | h
        · have := hRC.out; rw [h, Nat.mul_zero] at this; omega
        · exact h
      have hC0' : (C : Int) ≠ 0 := by omega
      have hm : j % C < C := Nat.mod_lt _ hC0
      have hwl := wid_len C T j
      have hci := (hidx · j hlt)
      have hct := (Bw.cell (cell_lt (hcells j hjl))).trans (hcells j hjl)
      have hcw := W0.cell (j := j % C) (by rw [hwl]; exact hm)
      have hfw := W0.free (j % C)
      have hst : widGo C T (j + 1) = (widGo C T j).set (j % C) (max ((widGo C T j)[j % C]'(by rw [hwl]; exact hm)) (T[j].length : Int)) := by
        rw [widGo]
        congr 2
        · rw [List.getD_eq_getElem?_getD, List.getElem?_eq_getElem]; rfl
        · rw [List.getD_eq_getElem?_getD, List.getElem?_eq_getElem hjl]; rfl
      have hxb := wid_bd C T hT j _ (List.getElem_mem (by rw [hwl]; exact hm : j % C < (widGo C T j).length))
      have htb := hT _ (List.getElem_mem hjl)
      have hsz : (⟨T[j].toArray⟩ : ByteArray).size = T[j].length := by simp [ByteArray.size]
      generalize (widGo C T j)[j % C]'(by rw [hwl]; exact hm) = x at *
      obtain ⟨tb, htbe⟩ : ∃ tb : ByteArray, ⟨T[j].toArray⟩ = tb := ⟨_, rfl⟩
      obtain ⟨n, hn⟩ : ∃ n, T[j].length = n := ⟨_, rfl⟩
      rw [htbe] at hct hsz
      rw [hn] at hst hsz htb
      have e1 : Int.tmod (j : Int) (C : Int) = ((j % C : Nat) : Int) := by rw [Int.tmod_eq_emod_of_nonneg (by omega)]; rfl
      have e2 : (j : Int) % (C : Int) = ((j % C : Nat) : Int) := rfl
      have hia := fun w' => ints_at w' w.heap.size C C (j % C) hm
      have hHs := Lib.hid hst
      generalize j % C = m at *
      have hw1 : IntKind.i64.wrap (m : Int) = (m : Int) := IntWalk.i64_in _ (by omega)
      clear hst htbe hn hwl hRC
      go_wp2
      go_region
      all_goals go_wp2
      all_goals go_roundw
      case rel => exact ⟨j + 1, by omega, by go_num, by rw [hHs.out]; exact IntB.set W0 m _, by first | exact Below.drew (Bw.setCell (Nat.le_refl _) _) | exact (Below.drew Bw).setCell (Nat.le_refl _) _⟩
      case measure => simp [intOf]; omega
    · obtain rfl : j = N := by omega
      have hn0 : ¬ (j : Int) < (j : Int) := by omega
      obtain ⟨csR, hcR⟩ : ∃ cs, Hid (((List.replicate R ([] : List UInt8)).map sv).toArray = cs) := ⟨_, rfl⟩
      obtain ⟨csC, hcC⟩ : ∃ cs, Hid (((List.replicate C ([] : List UInt8)).map sv).toArray = cs) := ⟨_, rfl⟩
      have hmR := fun W => run_makeStrs W R (by omega)
      have hmC := fun W => run_makeStrs W C (by omega)
      rw [hcR.out] at hmR
      rw [hcC.out] at hmC
      have SR := fun W => Strs.new W (List.replicate R ([] : List UInt8))
      have SC := fun W => Strs.new W (List.replicate C ([] : List UInt8))
      rw [hcR.out] at SR
      rw [hcC.out] at SC
      have hws := wid_len C T j
      have hwb := wid_bd C T hT j
      have hge : ∀ i, i < j → 0 < C → ((T.getD i []).length : Int) ≤ (widGo C T j).getD (i % C) 0 := fun i h1 h2 => wid_ge C T h1 h2
      have htab : Hid (tabT R C T sep = (List.range R).map fun r => Lib.join (rowT C (widGo C T j) T r) sep) := by unfold Hid; rw [tabT, hN.out]
      generalize widGo C T j = ws at *
      have hlw := W0.lt
      go_upto_region 7 with fail
      go_cut [12, 13] (fun s12 s13 wx => ∃ GL GP : Nat, s12 = .slice (some ⟨GL, 0, none⟩) R R ∧ s13 = .slice (some ⟨GP, 0, none⟩) C C ∧ GL ≠ GP ∧ w.heap.size < GL ∧ w.heap.size < GP ∧ Strs wx GL (List.replicate R []) ∧ Strs wx GP (List.replicate C []) ∧ IntB wx w.heap.size ws ∧ Below w.heap.size w wx)
      case first =>
        go_region
        all_goals (go_wp2_with fail; go_meet)
        · have s1 : Strs ((wr.alloc (.cells csR 9)).alloc (.cells csC 9)) wr.heap.size (List.replicate R []) := Strs.below (SR wr) (below_new _ _)
          have s2 := SC (wr.alloc (.cells csR 9))
          rw [show (wr.alloc (.cells csR 9)).heap.size = wr.heap.size + 1 by simp] at s2
          have w3 : IntB ((wr.alloc (.cells csR 9)).alloc (.cells csC 9)) w.heap.size ws := IntB.below (IntB.below W0 (below_new _ _)) (below_new _ _)
          exact ⟨_, _, rfl, rfl, by omega, by omega, by omega, s1, s2, w3, Below.drew (Below.then (Below.then Bw (below_new _ _)) (below_new _ _))⟩
        · have s1 : Strs ((wr.alloc (.cells csC 9)).alloc (.cells csR 9)) wr.heap.size (List.replicate C []) := Strs.below (SC wr) (below_new _ _)
          have s2 := SR (wr.alloc (.cells csC 9))
          rw [show (wr.alloc (.cells csC 9)).heap.size = wr.heap.size + 1 by simp] at s2
          have w3 : IntB ((wr.alloc (.cells csC 9)).alloc (.cells csR 9)) w.heap.size ws := IntB.below (IntB.below W0 (below_new _ _)) (below_new _ _)
          exact ⟨_, _, rfl, rfl, by omega, by omega, by omega, s2, s1, w3, Below.drew (Below.then (Below.then Bw (below_new _ _)) (below_new _ _))⟩
      case rest =>
        obtain ⟨GL, GP, rfl, rfl, hne, hGL, hGP, SL, SP, WB, BB⟩ := hcut
        have hrl : Hid (∀ r, (rowT C ws T r).length = C) := fun r => by simp [rowT]
        have htl : Hid ((tabT R C T sep).length = R) := by unfold Hid; simp [tabT]
        clear W0 Bw hmR hmC hcR hcC SR SC
        go_wp2
        go_loopw [48] (fun i wq => ∃ (r : Nat) (old : List (List UInt8)), r ≤ R ∧ i = .int .i64 (r : Int) ∧ Hid (old.length = C) ∧ Strs wq GL ((tabT R C T sep).take r ++ List.replicate (R - r) []) ∧ Strs wq GP old ∧ IntB wq w.heap.size ws ∧ Below w.heap.size w wq) (fun i _ => R - (intOf i).toNat)
        case atStart => exact ⟨0, List.replicate C [], Nat.zero_le _, rfl, Lib.hid (by simp), by simpa using SL, SP, WB, BB⟩
        case round =>
          clear SL SP WB BB
          obtain ⟨r, old, hr, rfl, hold, SL, SP, WB, BB⟩ := hrel
          by_cases hrR : r < R
          · have hrR' : (r : Int) < (R : Int) := by omega
            go_wp2
            go_loopw [53] (fun i wq => ∃ (cc : Nat), cc ≤ C ∧ i = .int .i64 (cc : Int) ∧ Strs wq GL ((tabT R C T sep).take r ++ List.replicate (R - r) []) ∧ Strs wq GP ((rowT C ws T r).take cc ++ old.drop cc) ∧ IntB wq w.heap.size ws ∧ Below w.heap.size w wq) (fun i _ => C - (intOf i).toNat)
            case atStart => exact ⟨0, Nat.zero_le _, rfl, SL, by simpa using SP, WB, BB⟩
            case round =>
              clear SL SP WB BB
              obtain ⟨cc, hcc, rfl, SL, SP, WB, BB⟩ := hrel
              by_cases hcC : cc < C
              · have hcC' : (cc : Int) < (C : Int) := by omega
                have hp : r * C + cc < j := by
                  have h1 : (r + 1) * C ≤ R * C := Nat.mul_le_mul_right C hrR
                  rw [hRC.out, Nat.succ_mul] at h1
                  omega
                have hpm : (r * C + cc) % C = cc := by rw [Nat.mul_comm, Nat.mul_add_mod, Nat.mod_eq_of_lt hcC]
                have hpl : r * C + cc < T.length := by rw [hN.out]; exact hp
                have hgp := hge _ hp (by omega)
                rw [hpm] at hgp
                have hgT : T.getD (r * C + cc) [] = T[r * C + cc] := by rw [List.getD_eq_getElem?_getD, List.getElem?_eq_getElem hpl]; rfl
                have hcw : cc < ws.length := by rw [hws]; exact hcC
                have hgW : ws.getD cc 0 = ws[cc] := by rw [List.getD_eq_getElem?_getD, List.getElem?_eq_getElem hcw]; rfl
                have hrow : (rowT C ws T r)[cc]'(by rw [hrl.out]; exact hcC) = padS (ws[cc]).toNat T[r * C + cc] := by
                  simp only [rowT, List.getElem_map, List.getElem_range]
                  rw [hgT, hgW]
                rw [hgT, hgW] at hgp
                have hst := row_step (hrl.out r) hold.out hcC
                rw [hrow] at hst
                have hxb := hwb _ (List.getElem_mem hcw)
                have htb := hT _ (List.getElem_mem hpl)
                have hci := fun w' => hidx w' _ hp
                have hct := (BB.cell (cell_lt (hcells _ hpl))).trans (hcells _ hpl)
                have hcx := WB.cell hcw
                have hia := fun w' => ints_at w' w.heap.size C C cc hcC
                have hsa := fun w' => strs_at w' GP C C cc hcC
                have hLl : cc < ((rowT C ws T r).take cc ++ old.drop cc).length := by rw [List.length_append, List.length_take, List.length_drop, hrl.out, hold.out]; omega
                have hsz : (⟨T[r * C + cc].toArray⟩ : ByteArray).size = T[r * C + cc].length := by simp [ByteArray.size]
                obtain ⟨x, hx⟩ : ∃ x, ws[cc] = x := ⟨_, rfl⟩
                obtain ⟨t, ht⟩ : ∃ t, T[r * C + cc] = t := ⟨_, rfl⟩
                rw [hx] at hst hgp hxb hcx
                rw [ht] at hst hgp htb hct hsz
                obtain ⟨tb, htbe⟩ : ∃ tb : ByteArray, ⟨t.toArray⟩ = tb := ⟨_, rfl⟩
                obtain ⟨n, hn⟩ : ∃ n, t.length = n := ⟨_, rfl⟩
                obtain ⟨k, hk⟩ : ∃ k, x.toNat - n = k := ⟨_, rfl⟩
                have hkx : x - (n : Int) = (k : Int) := by rw [hn] at hgp; omega
                have hk3 : k ≤ 300000 := by omega
                have cRep : ∀ W, Calls Tryd.prog 42 #[.string ⟨#[32]⟩, .int .i64 (k : Int)] W fun e W' => e = .returned (.string ⟨(List.replicate k (32 : UInt8)).toArray⟩) ∧ Below W.heap.size W W' := fun W => by
                  have := Tryd.strings_Repeat ⟨#[32]⟩ k W (by omega) (by show 1 * k ≤ _; omega)
                  rw [show (⟨#[32]⟩ : ByteArray).data.toList = [32] from rfl, rep32] at this
                  exact this
                have hs32 : (⟨(List.replicate k (32 : UInt8)).toArray⟩ : ByteArray).size = k := by simp [ByteArray.size]
                rw [htbe] at hct hsz
                rw [hn] at hsz htb
                have aS := fun W => run_string_add_sum (P := Tryd.prog) W ⟨(List.replicate k (32 : UInt8)).toArray⟩ tb (by rw [hs32, hsz]; omega)
                have hP : (⟨(List.replicate k (32 : UInt8)).toArray⟩ : ByteArray) ++ tb = ⟨(padS x.toNat t).toArray⟩ := by
                  rw [← htbe, padS, hn, hk]
                  apply ByteArray.ext
                  simp [ByteArray.data_append]
                obtain ⟨rp, hrp⟩ : ∃ rp : ByteArray, ⟨(List.replicate k (32 : UInt8)).toArray⟩ = rp := ⟨_, rfl⟩
                rw [hP, hrp] at aS
                rw [hrp] at hs32
                replace cRep : ∀ W, Calls Tryd.prog 42 #[.string ⟨#[32]⟩, .int .i64 (k : Int)] W fun e W' => e = .returned (.string rp) ∧ Below W.heap.size W W' := fun W => by
                  have := cRep W
                  rw [hrp] at this
                  exact this
                obtain ⟨q, hq⟩ : ∃ q, r * C = q := ⟨_, rfl⟩
                have hq2 : (r : Int) * (C : Int) = (q : Int) := by rw [← hq]; simp
                rw [hq] at hci hct hp
                have hqc : (q : Int) + (cc : Int) = ((q + cc : Nat) : Int) := by simp
                generalize q + cc = p at hci hct hp hqc
                have hq4 : (q : Int) ≤ 400 := by omega
                have hp4 : (p : Int) ≤ 400 := by omega
                generalize padS x.toNat t = PT at *
                have hHs := Lib.hid hst
                have hws2 : w.heap.size ≠ GP := Nat.ne_of_lt hGP
                clear hst hx ht htbe hn hk hP hs32 hrp hrow hgT hgW hpm hpl hgp hq hws hcw
                generalize (rowT C ws T r).take cc ++ old.drop cc = L0 at *
                go_wp2_with (go_at_call 42; (with_reducible refine (cRep _).mono ?_); rintro e2 w2 ⟨rfl, b2⟩; have S2 := Strs.below SP b2; have f2 := Strs.free S2 cc; have g2 := Strs.cell S2 hLl)
                go_roundw
                case rel => exact ⟨cc + 1, by omega, by go_num, Strs.keep (Strs.below SL b2) (set_other _ _ _ _ _ hne), by rw [← hHs.out]; exact S2.set cc PT, IntB.keep (IntB.below WB b2) (set_other _ _ _ _ _ hws2), (Below.then BB b2).setCell (Nat.le_of_lt hGP) _⟩
                case measure => simp [intOf]; omega
              · obtain rfl : cc = C := by omega
                have hn0 : ¬ (cc : Int) < (cc : Int) := by omega
                have eP : (rowT cc ws T r).take cc ++ old.drop cc = rowT cc ws T r := by
                  rw [List.take_of_length_le (by rw [hrl.out]; exact Nat.le_refl _), List.drop_of_length_le (by rw [hold.out]; exact Nat.le_refl _), List.append_nil]
                rw [eP] at SP
                have hst := fill_step htl.out hrR
                have htr : (tabT R cc T sep)[r]'(by rw [htl.out]; exact hrR) = Lib.join (rowT cc ws T r) sep := by
                  have e := htab.out
                  simp only [e, List.getElem_map, List.getElem_range]
                rw [htr] at hst
                have cJ := joinQ (rowT cc ws T r) sep GP cc (hrl.out r) wr SP hC hsep (row_bd hwb hT)
                have hsa := fun w' => strs_at w' GL R R r hrR
                have hLl : r < ((tabT R cc T sep).take r ++ List.replicate (R - r) ([] : List UInt8)).length := by rw [List.length_append, List.length_take, List.length_replicate, htl.out]; omega
                generalize Lib.join (rowT cc ws T r) sep = LN at *
                have hHs := Lib.hid hst
                have hws2 : w.heap.size ≠ GL := Nat.ne_of_lt hGL
                clear hst htr eP
                have hro := hrl.out r
                generalize (tabT R cc T sep).take r ++ List.replicate (R - r) [] = L0 at *
                go_wp2_with (go_at_call 29; (with_reducible refine cJ.mono ?_); rintro e2 w2 ⟨rfl, b2⟩; have S2 := Strs.below SL b2; have f2 := Strs.free S2 r; have g2 := Strs.cell S2 hLl)
                go_roundw
                case rel => exact ⟨r + 1, rowT cc ws T r, by omega, by go_num, Lib.hid hro, by rw [← hHs.out]; exact S2.set r LN, Strs.keep (Strs.below SP b2) (set_other _ _ _ _ _ (Ne.symm hne)), IntB.keep (IntB.below WB b2) (set_other _ _ _ _ _ hws2), (Below.then BB b2).setCell (Nat.le_of_lt hGL) _⟩
                case measure => simp [intOf]; omega
          · obtain rfl : r = R := by omega
            have hn0 : ¬ (r : Int) < (r : Int) := by omega
            have e : (tabT r C T sep).take r ++ List.replicate (r - r) [] = tabT r C T sep := by
              rw [List.take_of_length_le (by rw [htl.out]; exact Nat.le_refl _), Nat.sub_self]; simp
            rw [e] at SL
            go_wp2
            go_ret
            exact ⟨_, Nat.le_of_lt hGL, rfl, SL, BB⟩
end Go.Proofs.YtngcahaidlgkfaaDoor.Shape

namespace Go.Proofs.YtngcahaidlgkfaaDoor.Shape
open Go.RowKit Go.Proofs.YtngcahaidlgkfaaDoor.Num
set_option linter.unusedVariables false
set_option linter.unusedSimpArgs false

theorem IntsAt.spot {w : World} {a : Option Addr} {cap : Nat} {xs : List Int} (h : IntsAt w a cap xs) {k : Nat} (hk : k < xs.length) (n : Nat) (hn : n = xs.length) (i : Int) (hi : i = k) (v : Int) (hv : xs[k] = v) :
    ∃ b off : Nat, (∀ w' : World, (Instr.indexAt 23 (.slice a n cap) (.int .i64 i)).run Tryd.prog w' = .ok (.pointer (some ⟨b, off, none⟩)) w') ∧ w.cell? ⟨b, off, none⟩ = some (.int .i64 v) := by
  subst hn; subst hi; subst hv
  obtain ⟨b, off, h1, h2⟩ := h.at hk
  exact ⟨b, off + k, h1, h2⟩
set_option maxRecDepth 100000 in
set_option maxHeartbeats 8000000 in
theorem lines1Q (R C N : Nat) (T : List (List UInt8)) (sep : List UInt8) (g cs Bb Ba : Nat) (a : Option Addr) (w : World) (hT : ∀ t ∈ T, t.length ≤ 300000) (hN : Hid (T.length = N)) (hN4 : N ≤ 400) (hRC : Hid (R * C = N)) (hR : R ≤ 400) (hC : C ≤ 400) (hsep : sep.length ≤ 10) (hS : Strs w g T) (hs : IntsAt w a cs [(R : Int), (C : Int)]) (hb : w.cell? ⟨Bb, 0, none⟩ = some (.string ⟨sep.toArray⟩)) :
    Calls Tryd.prog 22 #[.slice a 2 cs, .slice (some ⟨g, 0, none⟩) N N, .pointer (some ⟨Bb, 0, none⟩), .pointer (some ⟨Ba, 0, none⟩)] w fun e w' => ∃ G, w.heap.size ≤ G ∧ e = .returned (.slice (some ⟨G, 0, none⟩) R R) ∧ Strs w' G (tabT R C T sep) ∧ Below w.heap.size w w' := by
  obtain ⟨b0, o0, i0, c0⟩ := hs.spot (k := 0) (by simp) 2 rfl 0 rfl R rfl
  obtain ⟨b1, o1, i1, c1⟩ := hs.spot (k := 1) (by simp) 2 rfl 1 rfl C rfl
  have cT : ∀ W, Below w.heap.size w W → Calls Tryd.prog 23 #[.int .i64 (R : Int), .int .i64 (C : Int), .slice (some ⟨g, 0, none⟩) N N, .string ⟨sep.toArray⟩] W fun e w' => ∃ G, W.heap.size ≤ G ∧ e = .returned (.slice (some ⟨G, 0, none⟩) R R) ∧ Strs w' G (tabT R C T sep) ∧ Below W.heap.size W w' := fun W hW =>
    tab1 R C N T sep g 0 N W hT hN hN4 hRC hR hC hsep (fun j hj => by rw [Nat.zero_add]; exact (Strs.below hS hW).cell hj) (fun w' j hj => by rw [Nat.zero_add]; exact strs_at w' g N N j hj)
  have H0 : ∀ w', Below w.heap.size w w' → (w'.cell? ⟨b0, o0, none⟩ = some (.int .i64 R) ∧ w'.cell? ⟨b1, o1, none⟩ = some (.int .i64 C) ∧ w'.cell? ⟨Bb, 0, none⟩ = some (.string ⟨sep.toArray⟩)) ∧ Below w.heap.size w w' := fun w' h => ⟨⟨(h.cell (cell_lt c0)).trans c0, (h.cell (cell_lt c1)).trans c1, (h.cell (cell_lt hb)).trans hb⟩, h⟩
  clear hS hs hT hN hRC
  generalize (⟨sep.toArray⟩ : ByteArray) = sb at *
  go_enter Tryd.func22, Tryd.ntmps22
  go_wp2_with fail
  go_region_held3 (fun w' => (w'.cell? ⟨b0, o0, none⟩ = some (.int .i64 R) ∧ w'.cell? ⟨b1, o1, none⟩ = some (.int .i64 C) ∧ w'.cell? ⟨Bb, 0, none⟩ = some (.string sb)) ∧ Below w.heap.size w w')
    (first | exact H0 _ (by go_grown) | go_keep)
    ((go_at_call 23; (with_reducible refine (cT _ (by go_grown)).mono ?_); rintro e w2 ⟨G, hG, rfl, S2, b2⟩; (have E2 : Below w.heap.size w w2 := Below.then (by go_grown) b2); (have S3 := E2.size)))
  all_goals go_wp2_with fail
  all_goals go_ret
  all_goals exact ⟨G, hG, rfl, S2, E2⟩
end Go.Proofs.YtngcahaidlgkfaaDoor.Shape

namespace Go.Proofs.YtngcahaidlgkfaaDoor.Shape
open Go.RowKit Go.Proofs.YtngcahaidlgkfaaDoor.Num
set_option linter.unusedVariables false
set_option linter.unusedSimpArgs false

/-- Where 'ones[r:]' begins. -/
def onesOff (r : Nat) : Nat := if r = 2 then 0 else r
theorem arrOnes : Tryd.prog.underlying 40 = some (.array (Tryd.prog.arrayLen 40) (Tryd.prog.elem 40)) := by kernel_rfl
theorem lenOnes : Tryd.prog.arrayLen 40 = 2 := by kernel_rfl
theorem sizeOnes (w : World) : (sizeOf (Tryd.prog.elem 40)).run Tryd.prog w = .ok 1 w := by kernel_rfl
theorem ones_slice (w' : World) (G r : Nat) (hr : r ≤ 2) : (Instr.sliceAt 40 (.pointer (some ⟨G, 0, none⟩)) (some (.int .i64 (r : Int))) none none).run Tryd.prog w' = .ok (.slice (some ⟨G, onesOff r, none⟩) (2 - r) (2 - r)) w' := by
  rw [run_sliceAt_array_l w' _ _ arrOnes .i64 (r : Int) (by omega) (by rw [lenOnes]; omega), sizeOnes]
  show Result.ok _ w' = _
  unfold slicedAt onesOff
  rw [lenOnes, Int.toNat_natCast]
  by_cases h : r = 2
  · subst h; rfl
  · rw [if_neg (by omega), if_neg h, add_plain]; simp
theorem run_pad {w : World} {a : Option Addr} {cap : Nat} {xs : List Int} (ty : TypeId) (G r : Nat) (hr : xs.length = r) (hr2 : r ≤ 2) (h : IntsAt w a cap xs) (hG0 : w.cell? ⟨G, 0, none⟩ = some (.int .i64 1)) (hG1 : w.cell? ⟨G, 1, none⟩ = some (.int .i64 1)) :
    ∃ a' c' w', (Builtin.append_ #[23, 23] ty #[.slice (some ⟨G, onesOff r, none⟩) (2 - r) (2 - r), .slice a r cap]).run Tryd.prog w = .ok (.slice a' 2 c') w' ∧ IntsAt w' a' c' (List.replicate (2 - r) 1 ++ xs) ∧ Below w.heap.size w w' := by
  obtain ⟨i0, hi, hz0, hz1, hz2⟩ := info_parts infoInt
  obtain ⟨h1, h2, h3, b, off, ha, hc⟩ := h
  rcases Nat.eq_zero_or_pos r with h0 | h0
  · subst h0
    have hx : xs = [] := List.eq_nil_of_length_eq_zero hr
    subst hx
    refine ⟨some ⟨G, 0, none⟩, 2, w, ?_, ⟨by simp, by decide, by intro x hx; simp at hx; subst hx; decide, G, 0, fun _ => rfl, ?_⟩, Below.refl _ _⟩
    · cases a with
      | none => simp [Builtin.append_, run_underlying Tryd.underlying23, sizeOf, typeInfo, hi, Builtin.lenOf, Builtin.firstCells, onesOff]; rfl
      | some ad =>
        have := run_append_room_cells (P := Tryd.prog) w 23 ty 3 i0 Tryd.underlying23 hi G 0 2 2 ad 0 cap [] (by simp) (by simp) (by simp) (by omega) (by simp) (by simp)
        simpa [World.setCells, onesOff] using this
    · intro i hi'
      simp at hi'
      rcases i with _ | _ | i
      · exact hG0
      · exact hG1
      · omega
  · have hne : xs ≠ [] := by intro e; subst e; simp at hr; omega
    have e := ha hne
    subst e
    obtain ⟨v', w', hrun, hown, hgrow⟩ := run_append_arg_grows (P := Tryd.prog) w 23 ty 3 i0 (.int .i64 0) 1 8 Tryd.underlying23 hi hz0 hz1 hz2 rfl (by decide)
      ⟨G, onesOff r, none⟩ (2 - r) (2 - r) (List.replicate (2 - r) (.int .i64 1)) (by simp) (by
        intro j u hj
        have hjl := (List.getElem?_eq_some_iff.1 hj).1
        rw [List.length_replicate] at hjl
        obtain rfl : r = 1 := by omega
        obtain rfl : j = 0 := by omega
        rw [add_plain]
        simp at hj
        subst hj
        exact hG1)
      ⟨b, off, none⟩ r cap (xs.map (Value.int .i64)) (by simp [hr]) (by
        intro j u hj
        rw [add_plain]
        have hjl : j < xs.length := by
          have := (List.getElem?_eq_some_iff.1 hj).1
          simpa using this
        rw [hc j hjl, ← hj, List.getElem?_map, List.getElem?_eq_getElem hjl]
        rfl) (by omega) (by unfold maxLen; omega) (by omega)
    have e2 : List.replicate (2 - r) (Value.int .i64 1) ++ xs.map (Value.int .i64) = (List.replicate (2 - r) (1 : Int) ++ xs).map (Value.int .i64) := by simp
    rw [e2, show 2 - r + r = 2 by omega] at hown
    obtain ⟨a', c', rfl, hon⟩ := ints_of_own (by simp; omega) hown (by
      intro x hx
      rcases List.mem_append.1 hx with h | h
      · rw [List.eq_of_mem_replicate h]; decide
      · exact h3 x h)
    rw [show (List.replicate (2 - r) (1 : Int) ++ xs).length = 2 by simp; omega] at hrun
    exact ⟨a', c', w', hrun, hon.1, (Below.refl _ _).grown hgrow (Nat.le_refl _) (fun k hk => by simp at hk)⟩
/-- The same as a step of a region that draws its order. -/
theorem step_pad {ops : Array Oper} {o : Oper} {a : Act} {w : World} {K : Act → World → Prop} {Q : Exit → Act → World → Prop} {E : Prop} (hgd : o.guard = none) (s x : Operand)
    (ho : o.op = .call { callee := .builtin .append, args := #[s, x], argTypes := #[23, 23] }) (G r m : Nat) (hs : a.eval s = .slice (some ⟨G, onesOff r, none⟩) m m) (hm : m = 2 - r)
    (ad : Option Addr) (c : Nat) (xs : List Int) (hx : a.eval x = .slice ad r c) (hr : xs.length = r) (hr2 : r ≤ 2) (hi : IntsAt w ad c xs) (hG0 : w.cell? ⟨G, 0, none⟩ = some (.int .i64 1)) (hG1 : w.cell? ⟨G, 1, none⟩ = some (.int .i64 1))
    (h : ∀ a' c' w', IntsAt w' a' c' (List.replicate (2 - r) 1 ++ xs) → Below w.heap.size w w' → K (a.put o.dst (.slice a' 2 c')) w') :
    if Region.wanted o (yielded ops a.tmps) = true then Oper.wp Tryd.prog o a w K Q else E := by
  have hw : Region.wanted o (yielded ops a.tmps) = true := by simp [Region.wanted, hgd]
  rw [if_pos hw]
  subst hm
  obtain ⟨a', c', w', hrun, h1, h2⟩ := run_pad o.type G r hr hr2 hi hG0 hG1
  unfold Oper.wp execOp
  simp only [ho, resolve, invoke, builtin, Sem.run_bind, Sem.run_pure, Result.andThen_ok, List.map_toArray, List.map_cons, List.map_nil, hs, hx, hrun]
  exact h a' c' w' h1 h2
end Go.Proofs.YtngcahaidlgkfaaDoor.Shape

namespace Go.Proofs.YtngcahaidlgkfaaDoor.Shape
open Go.RowKit Go.Proofs.YtngcahaidlgkfaaDoor.Num
set_option linter.unusedVariables false
set_option linter.unusedSimpArgs false

/-- What stands behind 'ones := [2]int{1, 1}'. -/
structure LnW (W0 wx : World) (B Bb Ba Go k' : Nat) (c0 c1 c2 c3 : Value) (sb : ByteArray) : Prop where
  q0 : wx.cell? ⟨B, 0, none⟩ = some c0
  q1 : wx.cell? ⟨B, 1, none⟩ = some c1
  q2 : wx.cell? ⟨B, 2, none⟩ = some c2
  q3 : wx.cell? ⟨B, 3, none⟩ = some c3
  s : wx.cell? ⟨Bb, 0, none⟩ = some (.string sb)
  f : wx.cell? ⟨Ba, 0, none⟩ = some (.func (.func 22) #[] #[.pointer (some ⟨Bb, 0, none⟩), .pointer (some ⟨Ba, 0, none⟩)])
  o0 : wx.cell? ⟨Go, 0, none⟩ = some (.int .i64 1)
  o1 : wx.cell? ⟨Go, 1, none⟩ = some (.int .i64 1)
  bel : Below W0.heap.size W0 wx
theorem LnW.new (W0 w1 : World) (B : Nat) (c0 c1 c2 c3 : Value) (sb : ByteArray) (t1 t2 t3 : TypeId) (q : Quad w1 B c0 c1 c2 c3) (hb : Below W0.heap.size W0 w1) :
    LnW W0 (((w1.alloc (.cells #[.string sb] t1)).alloc (.cells #[.func (.func 22) #[] #[.pointer (some ⟨w1.heap.size, 0, none⟩), .pointer (some ⟨w1.heap.size + 1, 0, none⟩)]] t2)).alloc (.cells #[.int .i64 1, .int .i64 1] t3)) B w1.heap.size (w1.heap.size + 1) (w1.heap.size + 1 + 1) 0 c0 c1 c2 c3 sb := by
  have b1 := below_new w1 (.cells #[.string sb] t1)
  have b2 := below_new (w1.alloc (.cells #[.string sb] t1)) (.cells #[.func (.func 22) #[] #[.pointer (some ⟨w1.heap.size, 0, none⟩), .pointer (some ⟨w1.heap.size + 1, 0, none⟩)]] t2)
  have b3 := below_new ((w1.alloc (.cells #[.string sb] t1)).alloc (.cells #[.func (.func 22) #[] #[.pointer (some ⟨w1.heap.size, 0, none⟩), .pointer (some ⟨w1.heap.size + 1, 0, none⟩)]] t2)) (.cells #[.int .i64 1, .int .i64 1] t3)
  have b13 := Below.then (Below.then b1 b2) b3
  obtain ⟨p0, p1, p2, p3, -⟩ := (Quad.below b13 q).cells
  have s0 : (w1.alloc (.cells #[.string sb] t1)).cell? ⟨w1.heap.size, 0, none⟩ = some (.string sb) := by rw [World.cell?_alloc_new]; rfl
  have f0 : ((w1.alloc (.cells #[.string sb] t1)).alloc (.cells #[.func (.func 22) #[] #[.pointer (some ⟨w1.heap.size, 0, none⟩), .pointer (some ⟨w1.heap.size + 1, 0, none⟩)]] t2)).cell? ⟨w1.heap.size + 1, 0, none⟩ = some (.func (.func 22) #[] #[.pointer (some ⟨w1.heap.size, 0, none⟩), .pointer (some ⟨w1.heap.size + 1, 0, none⟩)]) := by
    have h : (w1.alloc (.cells #[.string sb] t1)).heap.size = w1.heap.size + 1 := by simp
    have := World.cell?_alloc_new (w1.alloc (.cells #[.string sb] t1)) #[.func (.func 22) #[] #[.pointer (some ⟨w1.heap.size, 0, none⟩), .pointer (some ⟨w1.heap.size + 1, 0, none⟩)]] t2 0
    rw [h] at this
    rw [this]; rfl
  have h3 : ((w1.alloc (.cells #[.string sb] t1)).alloc (.cells #[.func (.func 22) #[] #[.pointer (some ⟨w1.heap.size, 0, none⟩), .pointer (some ⟨w1.heap.size + 1, 0, none⟩)]] t2)).heap.size = w1.heap.size + 1 + 1 := by simp
  refine ⟨p0, p1, p2, p3, ?_, ?_, ?_, ?_, Below.then hb b13⟩
  · exact ((Below.then b2 b3).cell (cell_lt s0)).trans s0
  · exact (b3.cell (cell_lt f0)).trans f0
  · rw [← h3, World.cell?_alloc_new]; rfl
  · rw [← h3, World.cell?_alloc_new]; rfl
set_option maxRecDepth 100000 in
set_option maxHeartbeats 16000000 in
theorem linesR0o (k : Int) (hk : (k == 2) = false) (sh nu : List Int) (it : List Arr) (v : Value) (w : World) (R C N : Nat) (T : List (List UInt8)) (hA : ArrAt w v (.mk k sh nu it)) (hr : Hid (sh.length = 0)) (hsh : Hid (List.replicate (2 - 0) 1 ++ sh = [(R : Int), (C : Int)])) (hx : rightE (.mk k sh nu it) = 0)
    (hT : ∀ t ∈ T, t.length ≤ 300000) (hN : Hid (T.length = N)) (hN4 : N ≤ 400) (hRC : Hid (R * C = N)) (hR : R ≤ 400) (hC : C ≤ 400)
    (cC : ∀ W, Below w.heap.size w W → Calls Tryd.prog 25 #[v] W fun e w' => ∃ g, W.heap.size ≤ g ∧ e = .returned (.slice (some ⟨g, 0, none⟩) N N) ∧ Strs w' g T ∧ Below W.heap.size W w') :
    Calls Tryd.prog 11 #[v] w fun e w' => ∃ G, w.heap.size ≤ G ∧ e = .returned (.slice (some ⟨G, 0, none⟩) R R) ∧ Strs w' G (tabT R C T [32]) ∧ Below w.heap.size w w' := by
  have hmf : ∀ (fn : Fn) (first cap : Array Value) (w : World), (Instr.makeFunc fn first cap).run Tryd.prog w = .ok (.func fn first cap) w := fun _ _ _ _ => rfl
  have hA' := hA
  rw [ArrAt] at hA'
  obtain ⟨sa, sc, na, nc, ia, ic, rfl, -, hs, -⟩ := hA'
  have hr' := hr.out
  rw [hr'] at hA cC ⊢
  clear hr'
  have bw := below_new w (.cells #[.int .i64 k, .slice sa 0 sc, .slice na nu.length nc, .slice ia it.length ic] 26)
  have q0 := Quad.new w (.int .i64 k) (.slice sa 0 sc) (.slice na nu.length nc) (.slice ia it.length ic)
  have cR := rightQ _ _ _ (hA.below bw)
  rw [hx] at cR
  have cJ : ∀ W a c g, IntsAt W a c (List.replicate (2 - 0) 1 ++ sh) → Strs W g T → ∀ Bb Ba, W.cell? ⟨Bb, 0, none⟩ = some (.string ⟨#[32]⟩) → Calls Tryd.prog 22 #[.slice a 2 c, .slice (some ⟨g, 0, none⟩) N N, .pointer (some ⟨Bb, 0, none⟩), .pointer (some ⟨Ba, 0, none⟩)] W fun e w' => ∃ G, W.heap.size ≤ G ∧ e = .returned (.slice (some ⟨G, 0, none⟩) R R) ∧ Strs w' G (tabT R C T [32]) ∧ Below W.heap.size W w' := fun W a c g hi hS Bb Ba hb => by
    rw [hsh.out] at hi
    exact lines1Q R C N T [32] g c Bb Ba a W hT hN hN4 hRC hR hC (by decide) hS hi hb
  obtain ⟨sb, hsb⟩ : ∃ sb : ByteArray, Hid (⟨#[32]⟩ = sb) := ⟨_, rfl⟩
  clear hx hN hRC hT hA
  go_enter Tryd.func11, Tryd.ntmps11
  go_upto_region 12 with (first
    | (go_at_call 18; (with_reducible refine cR.mono ?_); rintro e1 w1 ⟨rfl, b1⟩; have q1 := Quad.below b1 q0; obtain ⟨y0, y1, y2, y3, -⟩ := q1.cells; obtain ⟨z0, z1, z2, z3, -⟩ := (Quad.below (below_new w1 (.cells #[.string ⟨#[32]⟩] 9)) q1).cells))
  have L0 := LnW.new w w1 w.heap.size _ _ _ _ ⟨#[32]⟩ 9 36 40 q1 (Below.then bw b1)
  obtain ⟨wx, hwx, L⟩ : ∃ wx, wx = _ ∧ LnW w wx w.heap.size w1.heap.size (w1.heap.size + 1) (w1.heap.size + 1 + 1) 0 (.int .i64 k) (.slice sa 0 sc) (.slice na nu.length nc) (.slice ia it.length ic) ⟨#[32]⟩ := ⟨_, rfl, L0⟩
  simp only [← hwx]
  clear hwx L0 q1 b1 y0 y1 y2 y3 z0 z1 z2 z3 cR bw q0 hmf
  generalize w1.heap.size + 1 + 1 = Go at *
  generalize w1.heap.size + 1 = Ba at *
  generalize w1.heap.size = Bb at *
  obtain ⟨l0, l1, l2, l3, ls, lf, m0, m1, bel⟩ := L
  rw [hsb.out] at ls cJ
  have hsz := bel.size
  have H0 : ∀ w', Below wx.heap.size wx w' → (w'.cell? ⟨Bb, 0, none⟩ = some (.string sb) ∧ w'.cell? ⟨Ba, 0, none⟩ = some (.func (.func 22) #[] #[.pointer (some ⟨Bb, 0, none⟩), .pointer (some ⟨Ba, 0, none⟩)]) ∧ w'.cell? ⟨Go, 0, none⟩ = some (.int .i64 1) ∧ w'.cell? ⟨Go, 1, none⟩ = some (.int .i64 1) ∧ w'.cell? ⟨w.heap.size, 0, none⟩ = some (.int .i64 k) ∧ w'.cell? ⟨w.heap.size, 1, none⟩ = some (.slice sa 0 sc) ∧ w'.cell? ⟨w.heap.size, 2, none⟩ = some (.slice na nu.length nc) ∧ w'.cell? ⟨w.heap.size, 3, none⟩ = some (.slice ia it.length ic)) ∧ Below wx.heap.size wx w' :=
    fun w' h => ⟨⟨(h.cell (cell_lt ls)).trans ls, (h.cell (cell_lt lf)).trans lf, (h.cell (cell_lt m0)).trans m0, (h.cell (cell_lt m1)).trans m1, (h.cell (cell_lt l0)).trans l0, (h.cell (cell_lt l1)).trans l1, (h.cell (cell_lt l2)).trans l2, (h.cell (cell_lt l3)).trans l3⟩, h⟩
  have hsl : ∀ w', (Instr.sliceAt 40 (.pointer (some ⟨Go, 0, none⟩)) (some (.int .i64 (min 0 2))) none none).run Tryd.prog w' = .ok (.slice (some ⟨Go, onesOff 0, none⟩) 2 2) w' := fun w' => ones_slice w' Go 0 (by decide)
  have cC2 : ∀ W, Below wx.heap.size wx W → _ := fun W h => cC W (Below.then bel h)
  clear cC l0 l1 l2 l3 ls lf m0 m1
  go_region_held3 (fun w' => (w'.cell? ⟨Bb, 0, none⟩ = some (.string sb) ∧ w'.cell? ⟨Ba, 0, none⟩ = some (.func (.func 22) #[] #[.pointer (some ⟨Bb, 0, none⟩), .pointer (some ⟨Ba, 0, none⟩)]) ∧ w'.cell? ⟨Go, 0, none⟩ = some (.int .i64 1) ∧ w'.cell? ⟨Go, 1, none⟩ = some (.int .i64 1) ∧ w'.cell? ⟨w.heap.size, 0, none⟩ = some (.int .i64 k) ∧ w'.cell? ⟨w.heap.size, 1, none⟩ = some (.slice sa 0 sc) ∧ w'.cell? ⟨w.heap.size, 2, none⟩ = some (.slice na nu.length nc) ∧ w'.cell? ⟨w.heap.size, 3, none⟩ = some (.slice ia it.length ic)) ∧ Below wx.heap.size wx w')
    (first | exact H0 _ E2 | exact H0 _ E1 | exact H0 _ (Below.refl _ _).drew | go_keep)
    ((first
      | (go_at_call 25; (with_reducible refine (cC2 _ E1).mono ?_); rintro e2 w2 ⟨g, hg, rfl, S2, b2⟩; (have E2 : Below wx.heap.size wx w2 := Below.then E1 b2); (have i2 := IntsAt.below i1 b2))
      | (go_at_call 22; (with_reducible refine (cJ _ _ _ _ i2 S2 _ _ (H0 _ E2).1.1).mono ?_); rintro e3 w3 ⟨G, hG, rfl, S3, b3⟩; (have E3 : Below wx.heap.size wx w3 := Below.then E2 b3))
      | ((refine step_pad rfl _ _ rfl Go 0 2 rfl rfl sa sc sh rfl hr.out (by decide) (by go_split_ands; exact IntsAt.below hs (Below.then bel (by assumption))) (by go_split_ands; assumption) (by go_split_ands; assumption) ?_); intro a1 c1 w1 i1 b1; (have E1 : Below wx.heap.size wx w1 := by go_split_ands; exact Below.then (by assumption) b1))))
  all_goals go_wp2_with fail
  all_goals go_ret
  all_goals exact ⟨G, by have := E2.size; omega, rfl, S3, Below.then bel E3⟩
set_option maxRecDepth 100000 in
set_option maxHeartbeats 16000000 in
theorem linesR0c (sh nu : List Int) (it : List Arr) (v : Value) (w : World) (R C N : Nat) (T : List (List UInt8)) (hA : ArrAt w v (.mk 2 sh nu it)) (hr : Hid (sh.length = 0)) (hsh : Hid (List.replicate (2 - 0) 1 ++ sh = [(R : Int), (C : Int)])) (hx : rightE (.mk 2 sh nu it) = 0)
    (hT : ∀ t ∈ T, t.length ≤ 300000) (hN : Hid (T.length = N)) (hN4 : N ≤ 400) (hRC : Hid (R * C = N)) (hR : R ≤ 400) (hC : C ≤ 400)
    (cC : ∀ W, Below w.heap.size w W → Calls Tryd.prog 25 #[v] W fun e w' => ∃ g, W.heap.size ≤ g ∧ e = .returned (.slice (some ⟨g, 0, none⟩) N N) ∧ Strs w' g T ∧ Below W.heap.size W w') :
    Calls Tryd.prog 11 #[v] w fun e w' => ∃ G, w.heap.size ≤ G ∧ e = .returned (.slice (some ⟨G, 0, none⟩) R R) ∧ Strs w' G (tabT R C T []) ∧ Below w.heap.size w w' := by
  have hmf : ∀ (fn : Fn) (first cap : Array Value) (w : World), (Instr.makeFunc fn first cap).run Tryd.prog w = .ok (.func fn first cap) w := fun _ _ _ _ => rfl
  have hA' := hA
  rw [ArrAt] at hA'
  obtain ⟨sa, sc, na, nc, ia, ic, rfl, -, hs, -⟩ := hA'
  have hr' := hr.out
  rw [hr'] at hA cC ⊢
  clear hr'
  have bw := below_new w (.cells #[.int .i64 2, .slice sa 0 sc, .slice na nu.length nc, .slice ia it.length ic] 26)
  have q0 := Quad.new w (.int .i64 2) (.slice sa 0 sc) (.slice na nu.length nc) (.slice ia it.length ic)
  have cR := rightQ _ _ _ (hA.below bw)
  rw [hx] at cR
  have cJ : ∀ W a c g, IntsAt W a c (List.replicate (2 - 0) 1 ++ sh) → Strs W g T → ∀ Bb Ba, W.cell? ⟨Bb, 0, none⟩ = some (.string ⟨#[]⟩) → Calls Tryd.prog 22 #[.slice a 2 c, .slice (some ⟨g, 0, none⟩) N N, .pointer (some ⟨Bb, 0, none⟩), .pointer (some ⟨Ba, 0, none⟩)] W fun e w' => ∃ G, W.heap.size ≤ G ∧ e = .returned (.slice (some ⟨G, 0, none⟩) R R) ∧ Strs w' G (tabT R C T []) ∧ Below W.heap.size W w' := fun W a c g hi hS Bb Ba hb => by
    rw [hsh.out] at hi
    exact lines1Q R C N T [] g c Bb Ba a W hT hN hN4 hRC hR hC (by decide) hS hi hb
  obtain ⟨sb, hsb⟩ : ∃ sb : ByteArray, Hid (⟨#[]⟩ = sb) := ⟨_, rfl⟩
  clear hx hN hRC hT hA
  go_enter Tryd.func11, Tryd.ntmps11
  go_upto_region 12 with (first
    | (go_at_call 18; (with_reducible refine cR.mono ?_); rintro e1 w1 ⟨rfl, b1⟩; have q1 := Quad.below b1 q0; obtain ⟨y0, y1, y2, y3, -⟩ := q1.cells; obtain ⟨z0, z1, z2, z3, -⟩ := (Quad.below (below_new w1 (.cells #[.string ⟨#[32]⟩] 9)) q1).cells))
  have L0 := LnW.new w w1 w.heap.size _ _ _ _ ⟨#[]⟩ 9 36 40 q1 (Below.then bw b1)
  obtain ⟨wx, hwx, L⟩ : ∃ wx, wx = _ ∧ LnW w wx w.heap.size w1.heap.size (w1.heap.size + 1) (w1.heap.size + 1 + 1) 0 (.int .i64 2) (.slice sa 0 sc) (.slice na nu.length nc) (.slice ia it.length ic) ⟨#[]⟩ := ⟨_, rfl, L0⟩
  simp only [← hwx]
  clear hwx L0 q1 b1 y0 y1 y2 y3 z0 z1 z2 z3 cR bw q0 hmf
  generalize w1.heap.size + 1 + 1 = Go at *
  generalize w1.heap.size + 1 = Ba at *
  generalize w1.heap.size = Bb at *
  obtain ⟨l0, l1, l2, l3, ls, lf, m0, m1, bel⟩ := L
  rw [hsb.out] at ls cJ
  have hsz := bel.size
  have H0 : ∀ w', Below wx.heap.size wx w' → (w'.cell? ⟨Bb, 0, none⟩ = some (.string sb) ∧ w'.cell? ⟨Ba, 0, none⟩ = some (.func (.func 22) #[] #[.pointer (some ⟨Bb, 0, none⟩), .pointer (some ⟨Ba, 0, none⟩)]) ∧ w'.cell? ⟨Go, 0, none⟩ = some (.int .i64 1) ∧ w'.cell? ⟨Go, 1, none⟩ = some (.int .i64 1) ∧ w'.cell? ⟨w.heap.size, 0, none⟩ = some (.int .i64 2) ∧ w'.cell? ⟨w.heap.size, 1, none⟩ = some (.slice sa 0 sc) ∧ w'.cell? ⟨w.heap.size, 2, none⟩ = some (.slice na nu.length nc) ∧ w'.cell? ⟨w.heap.size, 3, none⟩ = some (.slice ia it.length ic)) ∧ Below wx.heap.size wx w' :=
    fun w' h => ⟨⟨(h.cell (cell_lt ls)).trans ls, (h.cell (cell_lt lf)).trans lf, (h.cell (cell_lt m0)).trans m0, (h.cell (cell_lt m1)).trans m1, (h.cell (cell_lt l0)).trans l0, (h.cell (cell_lt l1)).trans l1, (h.cell (cell_lt l2)).trans l2, (h.cell (cell_lt l3)).trans l3⟩, h⟩
  have hsl : ∀ w', (Instr.sliceAt 40 (.pointer (some ⟨Go, 0, none⟩)) (some (.int .i64 (min 0 2))) none none).run Tryd.prog w' = .ok (.slice (some ⟨Go, onesOff 0, none⟩) 2 2) w' := fun w' => ones_slice w' Go 0 (by decide)
  have cC2 : ∀ W, Below wx.heap.size wx W → _ := fun W h => cC W (Below.then bel h)
  clear cC l0 l1 l2 l3 ls lf m0 m1
  go_region_held3 (fun w' => (w'.cell? ⟨Bb, 0, none⟩ = some (.string sb) ∧ w'.cell? ⟨Ba, 0, none⟩ = some (.func (.func 22) #[] #[.pointer (some ⟨Bb, 0, none⟩), .pointer (some ⟨Ba, 0, none⟩)]) ∧ w'.cell? ⟨Go, 0, none⟩ = some (.int .i64 1) ∧ w'.cell? ⟨Go, 1, none⟩ = some (.int .i64 1) ∧ w'.cell? ⟨w.heap.size, 0, none⟩ = some (.int .i64 2) ∧ w'.cell? ⟨w.heap.size, 1, none⟩ = some (.slice sa 0 sc) ∧ w'.cell? ⟨w.heap.size, 2, none⟩ = some (.slice na nu.length nc) ∧ w'.cell? ⟨w.heap.size, 3, none⟩ = some (.slice ia it.length ic)) ∧ Below wx.heap.size wx w')
    (first | exact H0 _ E2 | exact H0 _ E1 | exact H0 _ (Below.refl _ _).drew | go_keep)
    ((first
      | (go_at_call 25; (with_reducible refine (cC2 _ E1).mono ?_); rintro e2 w2 ⟨g, hg, rfl, S2, b2⟩; (have E2 : Below wx.heap.size wx w2 := Below.then E1 b2); (have i2 := IntsAt.below i1 b2))
      | (go_at_call 22; (with_reducible refine (cJ _ _ _ _ i2 S2 _ _ (H0 _ E2).1.1).mono ?_); rintro e3 w3 ⟨G, hG, rfl, S3, b3⟩; (have E3 : Below wx.heap.size wx w3 := Below.then E2 b3))
      | ((refine step_pad rfl _ _ rfl Go 0 2 rfl rfl sa sc sh rfl hr.out (by decide) (by go_split_ands; exact IntsAt.below hs (Below.then bel (by assumption))) (by go_split_ands; assumption) (by go_split_ands; assumption) ?_); intro a1 c1 w1 i1 b1; (have E1 : Below wx.heap.size wx w1 := by go_split_ands; exact Below.then (by assumption) b1))))
  all_goals go_wp2_with fail
  all_goals go_ret
  all_goals exact ⟨G, by have := E2.size; omega, rfl, S3, Below.then bel E3⟩
set_option maxRecDepth 100000 in
set_option maxHeartbeats 16000000 in
theorem linesR1o (k : Int) (hk : (k == 2) = false) (sh nu : List Int) (it : List Arr) (v : Value) (w : World) (R C N : Nat) (T : List (List UInt8)) (hA : ArrAt w v (.mk k sh nu it)) (hr : Hid (sh.length = 1)) (hsh : Hid (List.replicate (2 - 1) 1 ++ sh = [(R : Int), (C : Int)])) (hx : rightE (.mk k sh nu it) = 0)
    (hT : ∀ t ∈ T, t.length ≤ 300000) (hN : Hid (T.length = N)) (hN4 : N ≤ 400) (hRC : Hid (R * C = N)) (hR : R ≤ 400) (hC : C ≤ 400)
    (cC : ∀ W, Below w.heap.size w W → Calls Tryd.prog 25 #[v] W fun e w' => ∃ g, W.heap.size ≤ g ∧ e = .returned (.slice (some ⟨g, 0, none⟩) N N) ∧ Strs w' g T ∧ Below W.heap.size W w') :
    Calls Tryd.prog 11 #[v] w fun e w' => ∃ G, w.heap.size ≤ G ∧ e = .returned (.slice (some ⟨G, 0, none⟩) R R) ∧ Strs w' G (tabT R C T [32]) ∧ Below w.heap.size w w' := by
  have hmf : ∀ (fn : Fn) (first cap : Array Value) (w : World), (Instr.makeFunc fn first cap).run Tryd.prog w = .ok (.func fn first cap) w := fun _ _ _ _ => rfl
  have hA' := hA
  rw [ArrAt] at hA'
  obtain ⟨sa, sc, na, nc, ia, ic, rfl, -, hs, -⟩ := hA'
  have hr' := hr.out
  rw [hr'] at hA cC ⊢
  clear hr'
  have bw := below_new w (.cells #[.int .i64 k, .slice sa 1 sc, .slice na nu.length nc, .slice ia it.length ic] 26)
  have q0 := Quad.new w (.int .i64 k) (.slice sa 1 sc) (.slice na nu.length nc) (.slice ia it.length ic)
  have cR := rightQ _ _ _ (hA.below bw)
  rw [hx] at cR
  have cJ : ∀ W a c g, IntsAt W a c (List.replicate (2 - 1) 1 ++ sh) → Strs W g T → ∀ Bb Ba, W.cell? ⟨Bb, 0, none⟩ = some (.string ⟨#[32]⟩) → Calls Tryd.prog 22 #[.slice a 2 c, .slice (some ⟨g, 0, none⟩) N N, .pointer (some ⟨Bb, 0, none⟩), .pointer (some ⟨Ba, 0, none⟩)] W fun e w' => ∃ G, W.heap.size ≤ G ∧ e = .returned (.slice (some ⟨G, 0, none⟩) R R) ∧ Strs w' G (tabT R C T [32]) ∧ Below W.heap.size W w' := fun W a c g hi hS Bb Ba hb => by
    rw [hsh.out] at hi
    exact lines1Q R C N T [32] g c Bb Ba a W hT hN hN4 hRC hR hC (by decide) hS hi hb
  obtain ⟨sb, hsb⟩ : ∃ sb : ByteArray, Hid (⟨#[32]⟩ = sb) := ⟨_, rfl⟩
  clear hx hN hRC hT hA
  go_enter Tryd.func11, Tryd.ntmps11
  go_upto_region 12 with (first
    | (go_at_call 18; (with_reducible refine cR.mono ?_); rintro e1 w1 ⟨rfl, b1⟩; have q1 := Quad.below b1 q0; obtain ⟨y0, y1, y2, y3, -⟩ := q1.cells; obtain ⟨z0, z1, z2, z3, -⟩ := (Quad.below (below_new w1 (.cells #[.string ⟨#[32]⟩] 9)) q1).cells))
  have L0 := LnW.new w w1 w.heap.size _ _ _ _ ⟨#[32]⟩ 9 36 40 q1 (Below.then bw b1)
  obtain ⟨wx, hwx, L⟩ : ∃ wx, wx = _ ∧ LnW w wx w.heap.size w1.heap.size (w1.heap.size + 1) (w1.heap.size + 1 + 1) 0 (.int .i64 k) (.slice sa 1 sc) (.slice na nu.length nc) (.slice ia it.length ic) ⟨#[32]⟩ := ⟨_, rfl, L0⟩
  simp only [← hwx]
  clear hwx L0 q1 b1 y0 y1 y2 y3 z0 z1 z2 z3 cR bw q0 hmf
  generalize w1.heap.size + 1 + 1 = Go at *
  generalize w1.heap.size + 1 = Ba at *
  generalize w1.heap.size = Bb at *
  obtain ⟨l0, l1, l2, l3, ls, lf, m0, m1, bel⟩ := L
  rw [hsb.out] at ls cJ
  have hsz := bel.size
  have H0 : ∀ w', Below wx.heap.size wx w' → (w'.cell? ⟨Bb, 0, none⟩ = some (.string sb) ∧ w'.cell? ⟨Ba, 0, none⟩ = some (.func (.func 22) #[] #[.pointer (some ⟨Bb, 0, none⟩), .pointer (some ⟨Ba, 0, none⟩)]) ∧ w'.cell? ⟨Go, 0, none⟩ = some (.int .i64 1) ∧ w'.cell? ⟨Go, 1, none⟩ = some (.int .i64 1) ∧ w'.cell? ⟨w.heap.size, 0, none⟩ = some (.int .i64 k) ∧ w'.cell? ⟨w.heap.size, 1, none⟩ = some (.slice sa 1 sc) ∧ w'.cell? ⟨w.heap.size, 2, none⟩ = some (.slice na nu.length nc) ∧ w'.cell? ⟨w.heap.size, 3, none⟩ = some (.slice ia it.length ic)) ∧ Below wx.heap.size wx w' :=
    fun w' h => ⟨⟨(h.cell (cell_lt ls)).trans ls, (h.cell (cell_lt lf)).trans lf, (h.cell (cell_lt m0)).trans m0, (h.cell (cell_lt m1)).trans m1, (h.cell (cell_lt l0)).trans l0, (h.cell (cell_lt l1)).trans l1, (h.cell (cell_lt l2)).trans l2, (h.cell (cell_lt l3)).trans l3⟩, h⟩
  have hsl : ∀ w', (Instr.sliceAt 40 (.pointer (some ⟨Go, 0, none⟩)) (some (.int .i64 (min 1 2))) none none).run Tryd.prog w' = .ok (.slice (some ⟨Go, onesOff 1, none⟩) 1 1) w' := fun w' => ones_slice w' Go 1 (by decide)
  have cC2 : ∀ W, Below wx.heap.size wx W → _ := fun W h => cC W (Below.then bel h)
  clear cC l0 l1 l2 l3 ls lf m0 m1
  go_region_held3 (fun w' => (w'.cell? ⟨Bb, 0, none⟩ = some (.string sb) ∧ w'.cell? ⟨Ba, 0, none⟩ = some (.func (.func 22) #[] #[.pointer (some ⟨Bb, 0, none⟩), .pointer (some ⟨Ba, 0, none⟩)]) ∧ w'.cell? ⟨Go, 0, none⟩ = some (.int .i64 1) ∧ w'.cell? ⟨Go, 1, none⟩ = some (.int .i64 1) ∧ w'.cell? ⟨w.heap.size, 0, none⟩ = some (.int .i64 k) ∧ w'.cell? ⟨w.heap.size, 1, none⟩ = some (.slice sa 1 sc) ∧ w'.cell? ⟨w.heap.size, 2, none⟩ = some (.slice na nu.length nc) ∧ w'.cell? ⟨w.heap.size, 3, none⟩ = some (.slice ia it.length ic)) ∧ Below wx.heap.size wx w')
    (first | exact H0 _ E2 | exact H0 _ E1 | exact H0 _ (Below.refl _ _).drew | go_keep)
    ((first
      | (go_at_call 25; (with_reducible refine (cC2 _ E1).mono ?_); rintro e2 w2 ⟨g, hg, rfl, S2, b2⟩; (have E2 : Below wx.heap.size wx w2 := Below.then E1 b2); (have i2 := IntsAt.below i1 b2))
      | (go_at_call 22; (with_reducible refine (cJ _ _ _ _ i2 S2 _ _ (H0 _ E2).1.1).mono ?_); rintro e3 w3 ⟨G, hG, rfl, S3, b3⟩; (have E3 : Below wx.heap.size wx w3 := Below.then E2 b3))
      | ((refine step_pad rfl _ _ rfl Go 1 1 rfl rfl sa sc sh rfl hr.out (by decide) (by go_split_ands; exact IntsAt.below hs (Below.then bel (by assumption))) (by go_split_ands; assumption) (by go_split_ands; assumption) ?_); intro a1 c1 w1 i1 b1; (have E1 : Below wx.heap.size wx w1 := by go_split_ands; exact Below.then (by assumption) b1))))
  all_goals go_wp2_with fail
  all_goals go_ret
  all_goals exact ⟨G, by have := E2.size; omega, rfl, S3, Below.then bel E3⟩
set_option maxRecDepth 100000 in
set_option maxHeartbeats 16000000 in
theorem linesR1c (sh nu : List Int) (it : List Arr) (v : Value) (w : World) (R C N : Nat) (T : List (List UInt8)) (hA : ArrAt w v (.mk 2 sh nu it)) (hr : Hid (sh.length = 1)) (hsh : Hid (List.replicate (2 - 1) 1 ++ sh = [(R : Int), (C : Int)])) (hx : rightE (.mk 2 sh nu it) = 0)
    (hT : ∀ t ∈ T, t.length ≤ 300000) (hN : Hid (T.length = N)) (hN4 : N ≤ 400) (hRC : Hid (R * C = N)) (hR : R ≤ 400) (hC : C ≤ 400)
    (cC : ∀ W, Below w.heap.size w W → Calls Tryd.prog 25 #[v] W fun e w' => ∃ g, W.heap.size ≤ g ∧ e = .returned (.slice (some ⟨g, 0, none⟩) N N) ∧ Strs w' g T ∧ Below W.heap.size W w') :
    Calls Tryd.prog 11 #[v] w fun e w' => ∃ G, w.heap.size ≤ G ∧ e = .returned (.slice (some ⟨G, 0, none⟩) R R) ∧ Strs w' G (tabT R C T []) ∧ Below w.heap.size w w' := by
  have hmf : ∀ (fn : Fn) (first cap : Array Value) (w : World), (Instr.makeFunc fn first cap).run Tryd.prog w = .ok (.func fn first cap) w := fun _ _ _ _ => rfl
  have hA' := hA
  rw [ArrAt] at hA'
  obtain ⟨sa, sc, na, nc, ia, ic, rfl, -, hs, -⟩ := hA'
  have hr' := hr.out
  rw [hr'] at hA cC ⊢
  clear hr'
  have bw := below_new w (.cells #[.int .i64 2, .slice sa 1 sc, .slice na nu.length nc, .slice ia it.length ic] 26)
  have q0 := Quad.new w (.int .i64 2) (.slice sa 1 sc) (.slice na nu.length nc) (.slice ia it.length ic)
  have cR := rightQ _ _ _ (hA.below bw)
  rw [hx] at cR
  have cJ : ∀ W a c g, IntsAt W a c (List.replicate (2 - 1) 1 ++ sh) → Strs W g T → ∀ Bb Ba, W.cell? ⟨Bb, 0, none⟩ = some (.string ⟨#[]⟩) → Calls Tryd.prog 22 #[.slice a 2 c, .slice (some ⟨g, 0, none⟩) N N, .pointer (some ⟨Bb, 0, none⟩), .pointer (some ⟨Ba, 0, none⟩)] W fun e w' => ∃ G, W.heap.size ≤ G ∧ e = .returned (.slice (some ⟨G, 0, none⟩) R R) ∧ Strs w' G (tabT R C T []) ∧ Below W.heap.size W w' := fun W a c g hi hS Bb Ba hb => by
    rw [hsh.out] at hi
    exact lines1Q R C N T [] g c Bb Ba a W hT hN hN4 hRC hR hC (by decide) hS hi hb
  obtain ⟨sb, hsb⟩ : ∃ sb : ByteArray, Hid (⟨#[]⟩ = sb) := ⟨_, rfl⟩
  clear hx hN hRC hT hA
  go_enter Tryd.func11, Tryd.ntmps11
  go_upto_region 12 with (first
    | (go_at_call 18; (with_reducible refine cR.mono ?_); rintro e1 w1 ⟨rfl, b1⟩; have q1 := Quad.below b1 q0; obtain ⟨y0, y1, y2, y3, -⟩ := q1.cells; obtain ⟨z0, z1, z2, z3, -⟩ := (Quad.below (below_new w1 (.cells #[.string ⟨#[32]⟩] 9)) q1).cells))
  have L0 := LnW.new w w1 w.heap.size _ _ _ _ ⟨#[]⟩ 9 36 40 q1 (Below.then bw b1)
  obtain ⟨wx, hwx, L⟩ : ∃ wx, wx = _ ∧ LnW w wx w.heap.size w1.heap.size (w1.heap.size + 1) (w1.heap.size + 1 + 1) 0 (.int .i64 2) (.slice sa 1 sc) (.slice na nu.length nc) (.slice ia it.length ic) ⟨#[]⟩ := ⟨_, rfl, L0⟩
  simp only [← hwx]
  clear hwx L0 q1 b1 y0 y1 y2 y3 z0 z1 z2 z3 cR bw q0 hmf
  generalize w1.heap.size + 1 + 1 = Go at *
  generalize w1.heap.size + 1 = Ba at *
  generalize w1.heap.size = Bb at *
  obtain ⟨l0, l1, l2, l3, ls, lf, m0, m1, bel⟩ := L
  rw [hsb.out] at ls cJ
  have hsz := bel.size
  have H0 : ∀ w', Below wx.heap.size wx w' → (w'.cell? ⟨Bb, 0, none⟩ = some (.string sb) ∧ w'.cell? ⟨Ba, 0, none⟩ = some (.func (.func 22) #[] #[.pointer (some ⟨Bb, 0, none⟩), .pointer (some ⟨Ba, 0, none⟩)]) ∧ w'.cell? ⟨Go, 0, none⟩ = some (.int .i64 1) ∧ w'.cell? ⟨Go, 1, none⟩ = some (.int .i64 1) ∧ w'.cell? ⟨w.heap.size, 0, none⟩ = some (.int .i64 2) ∧ w'.cell? ⟨w.heap.size, 1, none⟩ = some (.slice sa 1 sc) ∧ w'.cell? ⟨w.heap.size, 2, none⟩ = some (.slice na nu.length nc) ∧ w'.cell? ⟨w.heap.size, 3, none⟩ = some (.slice ia it.length ic)) ∧ Below wx.heap.size wx w' :=
    fun w' h => ⟨⟨(h.cell (cell_lt ls)).trans ls, (h.cell (cell_lt lf)).trans lf, (h.cell (cell_lt m0)).trans m0, (h.cell (cell_lt m1)).trans m1, (h.cell (cell_lt l0)).trans l0, (h.cell (cell_lt l1)).trans l1, (h.cell (cell_lt l2)).trans l2, (h.cell (cell_lt l3)).trans l3⟩, h⟩
  have hsl : ∀ w', (Instr.sliceAt 40 (.pointer (some ⟨Go, 0, none⟩)) (some (.int .i64 (min 1 2))) none none).run Tryd.prog w' = .ok (.slice (some ⟨Go, onesOff 1, none⟩) 1 1) w' := fun w' => ones_slice w' Go 1 (by decide)
  have cC2 : ∀ W, Below wx.heap.size wx W → _ := fun W h => cC W (Below.then bel h)
  clear cC l0 l1 l2 l3 ls lf m0 m1
  go_region_held3 (fun w' => (w'.cell? ⟨Bb, 0, none⟩ = some (.string sb) ∧ w'.cell? ⟨Ba, 0, none⟩ = some (.func (.func 22) #[] #[.pointer (some ⟨Bb, 0, none⟩), .pointer (some ⟨Ba, 0, none⟩)]) ∧ w'.cell? ⟨Go, 0, none⟩ = some (.int .i64 1) ∧ w'.cell? ⟨Go, 1, none⟩ = some (.int .i64 1) ∧ w'.cell? ⟨w.heap.size, 0, none⟩ = some (.int .i64 2) ∧ w'.cell? ⟨w.heap.size, 1, none⟩ = some (.slice sa 1 sc) ∧ w'.cell? ⟨w.heap.size, 2, none⟩ = some (.slice na nu.length nc) ∧ w'.cell? ⟨w.heap.size, 3, none⟩ = some (.slice ia it.length ic)) ∧ Below wx.heap.size wx w')
    (first | exact H0 _ E2 | exact H0 _ E1 | exact H0 _ (Below.refl _ _).drew | go_keep)
    ((first
      | (go_at_call 25; (with_reducible refine (cC2 _ E1).mono ?_); rintro e2 w2 ⟨g, hg, rfl, S2, b2⟩; (have E2 : Below wx.heap.size wx w2 := Below.then E1 b2); (have i2 := IntsAt.below i1 b2))
      | (go_at_call 22; (with_reducible refine (cJ _ _ _ _ i2 S2 _ _ (H0 _ E2).1.1).mono ?_); rintro e3 w3 ⟨G, hG, rfl, S3, b3⟩; (have E3 : Below wx.heap.size wx w3 := Below.then E2 b3))
      | ((refine step_pad rfl _ _ rfl Go 1 1 rfl rfl sa sc sh rfl hr.out (by decide) (by go_split_ands; exact IntsAt.below hs (Below.then bel (by assumption))) (by go_split_ands; assumption) (by go_split_ands; assumption) ?_); intro a1 c1 w1 i1 b1; (have E1 : Below wx.heap.size wx w1 := by go_split_ands; exact Below.then (by assumption) b1))))
  all_goals go_wp2_with fail
  all_goals go_ret
  all_goals exact ⟨G, by have := E2.size; omega, rfl, S3, Below.then bel E3⟩
set_option maxRecDepth 100000 in
set_option maxHeartbeats 16000000 in
theorem linesR2o (k : Int) (hk : (k == 2) = false) (sh nu : List Int) (it : List Arr) (v : Value) (w : World) (R C N : Nat) (T : List (List UInt8)) (hA : ArrAt w v (.mk k sh nu it)) (hr : Hid (sh.length = 2)) (hsh : Hid (List.replicate (2 - 2) 1 ++ sh = [(R : Int), (C : Int)])) (hx : rightE (.mk k sh nu it) = 0) (hz : aSize (.mk k sh nu it) ≠ 0)
    (hT : ∀ t ∈ T, t.length ≤ 300000) (hN : Hid (T.length = N)) (hN4 : N ≤ 400) (hRC : Hid (R * C = N)) (hR : R ≤ 400) (hC : C ≤ 400)
    (cC : ∀ W, Below w.heap.size w W → Calls Tryd.prog 25 #[v] W fun e w' => ∃ g, W.heap.size ≤ g ∧ e = .returned (.slice (some ⟨g, 0, none⟩) N N) ∧ Strs w' g T ∧ Below W.heap.size W w') :
    Calls Tryd.prog 11 #[v] w fun e w' => ∃ G, w.heap.size ≤ G ∧ e = .returned (.slice (some ⟨G, 0, none⟩) R R) ∧ Strs w' G (tabT R C T [32]) ∧ Below w.heap.size w w' := by
  have hmf : ∀ (fn : Fn) (first cap : Array Value) (w : World), (Instr.makeFunc fn first cap).run Tryd.prog w = .ok (.func fn first cap) w := fun _ _ _ _ => rfl
  have hA' := hA
  rw [ArrAt] at hA'
  obtain ⟨sa, sc, na, nc, ia, ic, rfl, -, hs, -⟩ := hA'
  have hr' := hr.out
  rw [hr'] at hA cC ⊢
  clear hr'
  have bw := below_new w (.cells #[.int .i64 k, .slice sa 2 sc, .slice na nu.length nc, .slice ia it.length ic] 26)
  have q0 := Quad.new w (.int .i64 k) (.slice sa 2 sc) (.slice na nu.length nc) (.slice ia it.length ic)
  have cR := rightQ _ _ _ (hA.below bw)
  rw [hx] at cR
  have cJ : ∀ W a c g, IntsAt W a c (List.replicate (2 - 2) 1 ++ sh) → Strs W g T → ∀ Bb Ba, W.cell? ⟨Bb, 0, none⟩ = some (.string ⟨#[32]⟩) → Calls Tryd.prog 22 #[.slice a 2 c, .slice (some ⟨g, 0, none⟩) N N, .pointer (some ⟨Bb, 0, none⟩), .pointer (some ⟨Ba, 0, none⟩)] W fun e w' => ∃ G, W.heap.size ≤ G ∧ e = .returned (.slice (some ⟨G, 0, none⟩) R R) ∧ Strs w' G (tabT R C T [32]) ∧ Below W.heap.size W w' := fun W a c g hi hS Bb Ba hb => by
    rw [hsh.out] at hi
    exact lines1Q R C N T [32] g c Bb Ba a W hT hN hN4 hRC hR hC (by decide) hS hi hb
  have cZ := fun v W (g : ArrAt W v (.mk k sh nu it)) => sizeQ v _ W g
  have hz2 : ((aSize (.mk k sh nu it) : Int) == 0) = false := by rw [beq_eq_false_iff_ne]; omega
  have hA1 := hA.below bw
  generalize aSize (.mk k sh nu it) = sz at *
  obtain ⟨sb, hsb⟩ : ∃ sb : ByteArray, Hid (⟨#[32]⟩ = sb) := ⟨_, rfl⟩
  clear hx hN hRC hT hA
  go_enter Tryd.func11, Tryd.ntmps11
  go_upto_region 12 with (first
    | (go_at_call 18; (with_reducible refine cR.mono ?_); rintro e1 w1 ⟨rfl, b1⟩; have q1 := Quad.below b1 q0; obtain ⟨y0, y1, y2, y3, -⟩ := q1.cells; have hA2 := hA1.below b1)
    | (go_at_call 21; (with_reducible refine (cZ _ _ hA2).mono ?_); rintro e2 w2 ⟨rfl, b2⟩; have q2 := Quad.below b2 q1; obtain ⟨x0, x1, x2, x3, -⟩ := q2.cells; obtain ⟨z0, z1, z2, z3, -⟩ := (Quad.below (below_new w2 (.cells #[.string ⟨#[32]⟩] 9)) q2).cells))
  have L0 := LnW.new w w2 w.heap.size _ _ _ _ ⟨#[32]⟩ 9 36 40 q2 (Below.then (Below.then bw b1) b2)
  obtain ⟨wx, hwx, L⟩ : ∃ wx, wx = _ ∧ LnW w wx w.heap.size w2.heap.size (w2.heap.size + 1) (w2.heap.size + 1 + 1) 0 (.int .i64 k) (.slice sa 2 sc) (.slice na nu.length nc) (.slice ia it.length ic) ⟨#[32]⟩ := ⟨_, rfl, L0⟩
  simp only [← hwx]
  clear hwx L0 b2 q2 x0 x1 x2 x3 hA2 hA1 cZ q1 b1 y0 y1 y2 y3 z0 z1 z2 z3 cR bw q0 hmf
  generalize w2.heap.size + 1 + 1 = Go at *
  generalize w2.heap.size + 1 = Ba at *
  generalize w2.heap.size = Bb at *
  obtain ⟨l0, l1, l2, l3, ls, lf, m0, m1, bel⟩ := L
  rw [hsb.out] at ls cJ
  have hsz := bel.size
  have H0 : ∀ w', Below wx.heap.size wx w' → (w'.cell? ⟨Bb, 0, none⟩ = some (.string sb) ∧ w'.cell? ⟨Ba, 0, none⟩ = some (.func (.func 22) #[] #[.pointer (some ⟨Bb, 0, none⟩), .pointer (some ⟨Ba, 0, none⟩)]) ∧ w'.cell? ⟨Go, 0, none⟩ = some (.int .i64 1) ∧ w'.cell? ⟨Go, 1, none⟩ = some (.int .i64 1) ∧ w'.cell? ⟨w.heap.size, 0, none⟩ = some (.int .i64 k) ∧ w'.cell? ⟨w.heap.size, 1, none⟩ = some (.slice sa 2 sc) ∧ w'.cell? ⟨w.heap.size, 2, none⟩ = some (.slice na nu.length nc) ∧ w'.cell? ⟨w.heap.size, 3, none⟩ = some (.slice ia it.length ic)) ∧ Below wx.heap.size wx w' :=
    fun w' h => ⟨⟨(h.cell (cell_lt ls)).trans ls, (h.cell (cell_lt lf)).trans lf, (h.cell (cell_lt m0)).trans m0, (h.cell (cell_lt m1)).trans m1, (h.cell (cell_lt l0)).trans l0, (h.cell (cell_lt l1)).trans l1, (h.cell (cell_lt l2)).trans l2, (h.cell (cell_lt l3)).trans l3⟩, h⟩
  have hsl : ∀ w', (Instr.sliceAt 40 (.pointer (some ⟨Go, 0, none⟩)) (some (.int .i64 (min 2 2))) none none).run Tryd.prog w' = .ok (.slice (some ⟨Go, onesOff 2, none⟩) 0 0) w' := fun w' => ones_slice w' Go 2 (by decide)
  have cC2 : ∀ W, Below wx.heap.size wx W → _ := fun W h => cC W (Below.then bel h)
  clear cC l0 l1 l2 l3 ls lf m0 m1
  go_region_held3 (fun w' => (w'.cell? ⟨Bb, 0, none⟩ = some (.string sb) ∧ w'.cell? ⟨Ba, 0, none⟩ = some (.func (.func 22) #[] #[.pointer (some ⟨Bb, 0, none⟩), .pointer (some ⟨Ba, 0, none⟩)]) ∧ w'.cell? ⟨Go, 0, none⟩ = some (.int .i64 1) ∧ w'.cell? ⟨Go, 1, none⟩ = some (.int .i64 1) ∧ w'.cell? ⟨w.heap.size, 0, none⟩ = some (.int .i64 k) ∧ w'.cell? ⟨w.heap.size, 1, none⟩ = some (.slice sa 2 sc) ∧ w'.cell? ⟨w.heap.size, 2, none⟩ = some (.slice na nu.length nc) ∧ w'.cell? ⟨w.heap.size, 3, none⟩ = some (.slice ia it.length ic)) ∧ Below wx.heap.size wx w')
    (first | exact H0 _ E2 | exact H0 _ E1 | exact H0 _ (Below.refl _ _).drew | go_keep)
    ((first
      | (go_at_call 25; (with_reducible refine (cC2 _ E1).mono ?_); rintro e2 w2 ⟨g, hg, rfl, S2, b2⟩; (have E2 : Below wx.heap.size wx w2 := Below.then E1 b2); (have i2 := IntsAt.below i1 b2))
      | (go_at_call 22; (with_reducible refine (cJ _ _ _ _ i2 S2 _ _ (H0 _ E2).1.1).mono ?_); rintro e3 w3 ⟨G, hG, rfl, S3, b3⟩; (have E3 : Below wx.heap.size wx w3 := Below.then E2 b3))
      | ((refine step_pad rfl _ _ rfl Go 2 0 rfl rfl sa sc sh rfl hr.out (by decide) (by go_split_ands; exact IntsAt.below hs (Below.then bel (by assumption))) (by go_split_ands; assumption) (by go_split_ands; assumption) ?_); intro a1 c1 w1 i1 b1; (have E1 : Below wx.heap.size wx w1 := by go_split_ands; exact Below.then (by assumption) b1))))
  all_goals go_wp2_with fail
  all_goals go_ret
  all_goals exact ⟨G, by have := E2.size; omega, rfl, S3, Below.then bel E3⟩
set_option maxRecDepth 100000 in
set_option maxHeartbeats 16000000 in
theorem linesR2c (sh nu : List Int) (it : List Arr) (v : Value) (w : World) (R C N : Nat) (T : List (List UInt8)) (hA : ArrAt w v (.mk 2 sh nu it)) (hr : Hid (sh.length = 2)) (hsh : Hid (List.replicate (2 - 2) 1 ++ sh = [(R : Int), (C : Int)])) (hx : rightE (.mk 2 sh nu it) = 0) (hz : aSize (.mk 2 sh nu it) ≠ 0)
    (hT : ∀ t ∈ T, t.length ≤ 300000) (hN : Hid (T.length = N)) (hN4 : N ≤ 400) (hRC : Hid (R * C = N)) (hR : R ≤ 400) (hC : C ≤ 400)
    (cC : ∀ W, Below w.heap.size w W → Calls Tryd.prog 25 #[v] W fun e w' => ∃ g, W.heap.size ≤ g ∧ e = .returned (.slice (some ⟨g, 0, none⟩) N N) ∧ Strs w' g T ∧ Below W.heap.size W w') :
    Calls Tryd.prog 11 #[v] w fun e w' => ∃ G, w.heap.size ≤ G ∧ e = .returned (.slice (some ⟨G, 0, none⟩) R R) ∧ Strs w' G (tabT R C T []) ∧ Below w.heap.size w w' := by
  have hmf : ∀ (fn : Fn) (first cap : Array Value) (w : World), (Instr.makeFunc fn first cap).run Tryd.prog w = .ok (.func fn first cap) w := fun _ _ _ _ => rfl
  have hA' := hA
  rw [ArrAt] at hA'
  obtain ⟨sa, sc, na, nc, ia, ic, rfl, -, hs, -⟩ := hA'
  have hr' := hr.out
  rw [hr'] at hA cC ⊢
  clear hr'
  have bw := below_new w (.cells #[.int .i64 2, .slice sa 2 sc, .slice na nu.length nc, .slice ia it.length ic] 26)
  have q0 := Quad.new w (.int .i64 2) (.slice sa 2 sc) (.slice na nu.length nc) (.slice ia it.length ic)
  have cR := rightQ _ _ _ (hA.below bw)
  rw [hx] at cR
  have cJ : ∀ W a c g, IntsAt W a c (List.replicate (2 - 2) 1 ++ sh) → Strs W g T → ∀ Bb Ba, W.cell? ⟨Bb, 0, none⟩ = some (.string ⟨#[]⟩) → Calls Tryd.prog 22 #[.slice a 2 c, .slice (some ⟨g, 0, none⟩) N N, .pointer (some ⟨Bb, 0, none⟩), .pointer (some ⟨Ba, 0, none⟩)] W fun e w' => ∃ G, W.heap.size ≤ G ∧ e = .returned (.slice (some ⟨G, 0, none⟩) R R) ∧ Strs w' G (tabT R C T []) ∧ Below W.heap.size W w' := fun W a c g hi hS Bb Ba hb => by
    rw [hsh.out] at hi
    exact lines1Q R C N T [] g c Bb Ba a W hT hN hN4 hRC hR hC (by decide) hS hi hb
  have cZ := fun v W (g : ArrAt W v (.mk 2 sh nu it)) => sizeQ v _ W g
  have hz2 : ((aSize (.mk 2 sh nu it) : Int) == 0) = false := by rw [beq_eq_false_iff_ne]; omega
  have hA1 := hA.below bw
  generalize aSize (.mk 2 sh nu it) = sz at *
  obtain ⟨sb, hsb⟩ : ∃ sb : ByteArray, Hid (⟨#[]⟩ = sb) := ⟨_, rfl⟩
  clear hx hN hRC hT hA
  go_enter Tryd.func11, Tryd.ntmps11
  go_upto_region 12 with (first
    | (go_at_call 18; (with_reducible refine cR.mono ?_); rintro e1 w1 ⟨rfl, b1⟩; have q1 := Quad.below b1 q0; obtain ⟨y0, y1, y2, y3, -⟩ := q1.cells; have hA2 := hA1.below b1)
    | (go_at_call 21; (with_reducible refine (cZ _ _ hA2).mono ?_); rintro e2 w2 ⟨rfl, b2⟩; have q2 := Quad.below b2 q1; obtain ⟨x0, x1, x2, x3, -⟩ := q2.cells; obtain ⟨z0, z1, z2, z3, -⟩ := (Quad.below (below_new w2 (.cells #[.string ⟨#[32]⟩] 9)) q2).cells))
  have L0 := LnW.new w w2 w.heap.size _ _ _ _ ⟨#[]⟩ 9 36 40 q2 (Below.then (Below.then bw b1) b2)
  obtain ⟨wx, hwx, L⟩ : ∃ wx, wx = _ ∧ LnW w wx w.heap.size w2.heap.size (w2.heap.size + 1) (w2.heap.size + 1 + 1) 0 (.int .i64 2) (.slice sa 2 sc) (.slice na nu.length nc) (.slice ia it.length ic) ⟨#[]⟩ := ⟨_, rfl, L0⟩
  simp only [← hwx]
  clear hwx L0 b2 q2 x0 x1 x2 x3 hA2 hA1 cZ q1 b1 y0 y1 y2 y3 z0 z1 z2 z3 cR bw q0 hmf
  generalize w2.heap.size + 1 + 1 = Go at *
  generalize w2.heap.size + 1 = Ba at *
  generalize w2.heap.size = Bb at *
  obtain ⟨l0, l1, l2, l3, ls, lf, m0, m1, bel⟩ := L
  rw [hsb.out] at ls cJ
  have hsz := bel.size
  have H0 : ∀ w', Below wx.heap.size wx w' → (w'.cell? ⟨Bb, 0, none⟩ = some (.string sb) ∧ w'.cell? ⟨Ba, 0, none⟩ = some (.func (.func 22) #[] #[.pointer (some ⟨Bb, 0, none⟩), .pointer (some ⟨Ba, 0, none⟩)]) ∧ w'.cell? ⟨Go, 0, none⟩ = some (.int .i64 1) ∧ w'.cell? ⟨Go, 1, none⟩ = some (.int .i64 1) ∧ w'.cell? ⟨w.heap.size, 0, none⟩ = some (.int .i64 2) ∧ w'.cell? ⟨w.heap.size, 1, none⟩ = some (.slice sa 2 sc) ∧ w'.cell? ⟨w.heap.size, 2, none⟩ = some (.slice na nu.length nc) ∧ w'.cell? ⟨w.heap.size, 3, none⟩ = some (.slice ia it.length ic)) ∧ Below wx.heap.size wx w' :=
    fun w' h => ⟨⟨(h.cell (cell_lt ls)).trans ls, (h.cell (cell_lt lf)).trans lf, (h.cell (cell_lt m0)).trans m0, (h.cell (cell_lt m1)).trans m1, (h.cell (cell_lt l0)).trans l0, (h.cell (cell_lt l1)).trans l1, (h.cell (cell_lt l2)).trans l2, (h.cell (cell_lt l3)).trans l3⟩, h⟩
  have hsl : ∀ w', (Instr.sliceAt 40 (.pointer (some ⟨Go, 0, none⟩)) (some (.int .i64 (min 2 2))) none none).run Tryd.prog w' = .ok (.slice (some ⟨Go, onesOff 2, none⟩) 0 0) w' := fun w' => ones_slice w' Go 2 (by decide)
  have cC2 : ∀ W, Below wx.heap.size wx W → _ := fun W h => cC W (Below.then bel h)
  clear cC l0 l1 l2 l3 ls lf m0 m1
  go_region_held3 (fun w' => (w'.cell? ⟨Bb, 0, none⟩ = some (.string sb) ∧ w'.cell? ⟨Ba, 0, none⟩ = some (.func (.func 22) #[] #[.pointer (some ⟨Bb, 0, none⟩), .pointer (some ⟨Ba, 0, none⟩)]) ∧ w'.cell? ⟨Go, 0, none⟩ = some (.int .i64 1) ∧ w'.cell? ⟨Go, 1, none⟩ = some (.int .i64 1) ∧ w'.cell? ⟨w.heap.size, 0, none⟩ = some (.int .i64 2) ∧ w'.cell? ⟨w.heap.size, 1, none⟩ = some (.slice sa 2 sc) ∧ w'.cell? ⟨w.heap.size, 2, none⟩ = some (.slice na nu.length nc) ∧ w'.cell? ⟨w.heap.size, 3, none⟩ = some (.slice ia it.length ic)) ∧ Below wx.heap.size wx w')
    (first | exact H0 _ E2 | exact H0 _ E1 | exact H0 _ (Below.refl _ _).drew | go_keep)
    ((first
      | (go_at_call 25; (with_reducible refine (cC2 _ E1).mono ?_); rintro e2 w2 ⟨g, hg, rfl, S2, b2⟩; (have E2 : Below wx.heap.size wx w2 := Below.then E1 b2); (have i2 := IntsAt.below i1 b2))
      | (go_at_call 22; (with_reducible refine (cJ _ _ _ _ i2 S2 _ _ (H0 _ E2).1.1).mono ?_); rintro e3 w3 ⟨G, hG, rfl, S3, b3⟩; (have E3 : Below wx.heap.size wx w3 := Below.then E2 b3))
      | ((refine step_pad rfl _ _ rfl Go 2 0 rfl rfl sa sc sh rfl hr.out (by decide) (by go_split_ands; exact IntsAt.below hs (Below.then bel (by assumption))) (by go_split_ands; assumption) (by go_split_ands; assumption) ?_); intro a1 c1 w1 i1 b1; (have E1 : Below wx.heap.size wx w1 := by go_split_ands; exact Below.then (by assumption) b1))))
  all_goals go_wp2_with fail
  all_goals go_ret
  all_goals exact ⟨G, by have := E2.size; omega, rfl, S3, Below.then bel E3⟩
end Go.Proofs.YtngcahaidlgkfaaDoor.Shape

namespace Go.Proofs.YtngcahaidlgkfaaDoor.Shape
open Go.RowKit Go.Proofs.YtngcahaidlgkfaaDoor.Num
set_option linter.unusedVariables false
set_option linter.unusedSimpArgs false

/-- The lines L as a slice of the call's own. -/
def Lns (w : World) (B : Nat) (v : Value) (L : List (List UInt8)) : Prop := w.ownsRow B 9 1 v L.length (L.map sv)
theorem Lns.below {w w' : World} {B : Nat} {v : Value} {L : List (List UInt8)} (h : Lns w B v L) (hb : Below w.heap.size w w') : Lns w' B v L := by
  obtain ⟨h1, h2⟩ := h
  refine ⟨h1, ?_⟩
  rcases h2 with h2 | ⟨g, cap, cur, rfl, hg, hh, h3⟩
  · exact .inl h2
  · exact .inr ⟨g, cap, cur, rfl, hg, (hb.block g (Array.getElem?_eq_some_iff.1 hh).1).trans hh, h3⟩
theorem Lns.block {w : World} {B : Nat} {v : Value} {L : List (List UInt8)} (h : Lns w B v L) (k : Nat) (hk : v.ownBlock = some k) : B ≤ k := by
  rcases h.2 with ⟨rfl, -⟩ | ⟨g, cap, cur, rfl, hg, -⟩
  · simp [Value.ownBlock] at hk
  · simp [Value.ownBlock] at hk; omega
theorem Lns.nil (w : World) (B : Nat) : Lns w B (.slice none 0 0) [] := ⟨rfl, .inl ⟨rfl, rfl⟩⟩
theorem Lns.of {w : World} {B G n : Nat} {L : List (List UInt8)} (hS : Strs w G L) (hn : L.length = n) (hB : B ≤ G) (hm : n ≤ maxLen) : Lns w B (.slice (some ⟨G, 0, none⟩) n n) L := by
  subst hn
  exact ⟨by simp, .inr ⟨G, _, _, rfl, hB, hS, Nat.le_refl _, hm, by simp, by simp [List.take_of_length_le]⟩⟩
theorem Lns.cell {w : World} {B : Nat} {v : Value} {L : List (List UInt8)} (h : Lns w B v L) (hL : L ≠ []) : ∃ g cap, v = .slice (some ⟨g, 0, none⟩) L.length cap ∧ B ≤ g ∧ g < w.heap.size ∧ L.length ≤ cap ∧ ∀ j (hj : j < L.length), w.cell? ⟨g, j, none⟩ = some (sv L[j]) := by
  rcases h.2 with ⟨-, h0⟩ | ⟨g, cap, cur, rfl, hg, hh, hnc, -, -, ht⟩
  · exact absurd (List.eq_nil_of_length_eq_zero h0) hL
  · refine ⟨g, cap, rfl, hg, (Array.getElem?_eq_some_iff.1 hh).1, hnc, fun j hj => ?_⟩
    have e : (cur.toList.take (L.length * 1))[j]? = (L.map sv)[j]? := by rw [ht]
    rw [List.getElem?_take_of_lt (by omega), List.getElem?_map, List.getElem?_eq_getElem hj, Array.getElem?_toList] at e
    simp only [World.cell?, hh]
    exact e
set_option maxRecDepth 100000 in
set_option maxHeartbeats 4000000 in
theorem showQ_of (L : List (List UInt8)) (v : Value) (A : Arr) (w : World) (h : ArrAt w v A) (hn : L.length ≤ 100000) (hj : (Lib.join (L ++ [[]]) [10]).length ≤ 140737488355328)
    (cL : ∀ W, Below w.heap.size w W → Calls Tryd.prog 11 #[v] W fun e w' => ∃ lv, e = .returned lv ∧ Lns w' w.heap.size lv L ∧ Below W.heap.size W w') :
    Calls Tryd.prog 13 #[v] w fun e w' => e = .returned (.string ⟨(Lib.join (L ++ [[]]) [10]).toArray⟩) ∧ Below w.heap.size w w' := by
  obtain ⟨c0, c1, c2, c3, rfl⟩ : ∃ c0 c1 c2 c3 : Value, v = .agg #[c0, c1, c2, c3] := by
    obtain ⟨k, sh, nu, it⟩ := A
    rw [ArrAt] at h
    obtain ⟨sa, sc, na, nc, ia, ic, rfl, -⟩ := h
    exact ⟨_, _, _, _, rfl⟩
  obtain ⟨i0, hi0, hz0, hz1, hz2⟩ := info_parts infoStr
  have bw := below_new w (.cells #[c0, c1, c2, c3] 26)
  have q0 := Quad.new w c0 c1 c2 c3
  obtain ⟨p0, p1, p2, p3, -⟩ := q0.cells
  have cL2 := cL _ bw
  obtain ⟨n, hL⟩ : ∃ n, L.length = n := ⟨_, rfl⟩
  clear h cL
  go_enter Tryd.func13, Tryd.ntmps13
  go_wp2_with (first
    | (go_at_call 11; (with_reducible refine cL2.mono ?_); rintro e1 w1 ⟨lv, rfl, o1, b1⟩)
    | (at_builtin; refine wpList_append_own _ rfl _ _ 30 rfl w.heap.size 9 i0 _ 1 16 Tryd.underlying30 hi0 hz0 hz1 hz2 rfl (by decide) _ L.length (L.map sv) rfl (Lns.below o1 (below_new _ _)) ⟨w1.heap.size, 0, none⟩ 1 1 [.string ⟨#[]⟩] rfl rfl ?c1 ?c2 ?c3 ?c4 ?c5 ?_))
  case c1 => exact World.news_of_block (cs := #[.string ⟨#[]⟩]) (t := 9) (fr := (0, 0)) (heap_alloc_new w1 _)
  case c2 => intro u hu; simp at hu; subst hu; rfl
  case c3 => unfold maxLen; omega
  case c4 => omega
  case c5 => have h1 := bw.size; have h2 := b1.size; simp at h1 h2 ⊢; omega
  intro v' w2 hown hgrow _
  have B1 : Below w.heap.size w (w1.alloc (.cells #[.string ⟨#[]⟩] 9)) := Below.then (Below.then bw b1) (below_new _ _)
  have B2 : Below w.heap.size w w2 := B1.grown hgrow B1.size (fun k hk => o1.block k hk)
  have o2 : Lns w2 w.heap.size v' (L ++ [[]]) := by
    unfold Lns
    rw [List.map_append, List.length_append, hL]
    exact hown
  obtain ⟨g, cap, rfl, hg, hgl, hcap, hcell⟩ := o2.cell (by simp)
  have e1 : (((L ++ [[]]).map fun (t : List UInt8) => (⟨t.toArray⟩ : ByteArray)).map fun (b : ByteArray) => b.data.toList) = L ++ [[]] := by
    rw [List.map_map]; conv => rhs; rw [← List.map_id (L ++ [[]])]
    rfl
  have cJ := Tryd.strings_Join g 0 cap ((L ++ [[]]).map fun (t : List UInt8) => (⟨t.toArray⟩ : ByteArray)) ⟨#[10]⟩ w2 (fun j x hx => by
    rw [List.getElem?_map] at hx
    obtain ⟨t, ht, rfl⟩ := Option.map_eq_some_iff.1 hx
    obtain ⟨hjl, rfl⟩ := List.getElem?_eq_some_iff.1 ht
    rw [Nat.zero_add]
    exact hcell j hjl) hgl (by rw [List.length_map, List.length_append]; simp; omega) (by rw [List.length_map]; exact hcap) (by
      rw [e1]; exact hj)
  rw [e1, List.length_map] at cJ
  have hsl : (L ++ [[]]).length = n + 1 := by rw [List.length_append, hL]; rfl
  rw [hsl] at cJ ⊢
  go_wp2_with (go_at_call 29; (with_reducible refine cJ.mono ?_); rintro e3 w3 ⟨rfl, b3⟩)
  go_ret
  exact ⟨rfl, Below.then B2 b3⟩
end Go.Proofs.YtngcahaidlgkfaaDoor.Shape

namespace Go.Proofs.YtngcahaidlgkfaaDoor.Shape
open Go.RowKit Go.Proofs.YtngcahaidlgkfaaDoor.Num
set_option linter.unusedVariables false
set_option linter.unusedSimpArgs false

set_option maxRecDepth 100000 in
set_option maxHeartbeats 4000000 in
theorem linesBad (v : Value) (A : Arr) (w : World) (h : ArrAt w v A) (hx : rightE A ≠ 0) :
    Calls Tryd.prog 11 #[v] w fun e w' => e = .returned (.slice none 0 0) ∧ Below w.heap.size w w' := by
  have cR := fun W (g : ArrAt W v A) => rightQ v A W g
  obtain ⟨c0, c1, c2, c3, rfl⟩ : ∃ c0 c1 c2 c3 : Value, v = .agg #[c0, c1, c2, c3] := by
    obtain ⟨k, sh, nu, it⟩ := A
    rw [ArrAt] at h
    obtain ⟨sa, sc, na, nc, ia, ic, rfl, -⟩ := h
    exact ⟨_, _, _, _, rfl⟩
  have bw := below_new w (.cells #[c0, c1, c2, c3] 26)
  have q0 := Quad.new w c0 c1 c2 c3
  obtain ⟨p0, p1, p2, p3, -⟩ := q0.cells
  have cR2 := cR _ (h.below bw)
  generalize rightE A = x at *
  have hb : (x != 0) = true := by simpa using hx
  clear h cR hx
  go_enter Tryd.func11, Tryd.ntmps11
  go_wp2_with (go_at_call 18; (with_reducible refine cR2.mono ?_); rintro e1 w1 ⟨rfl, b1⟩)
  go_ret
  exact ⟨rfl, Below.then bw b1⟩
def fxM : Arr := .mk 1 [2, 2] [1, 10, 200, 3] []
def fxB : Arr := .mk 3 [2] [] [.mk 1 [] [1] [], .mk 2 [2] [97, 98] []]
def fx5 : Arr := .mk 1 [1] [-5] []
def fx0 : Arr := .mk 3 [0] [] []
def fxZ : Arr := .mk 0 [] [] []
theorem rM : rightE fxM = 0 := by decide
theorem rB : rightE fxB = 0 := by decide
theorem r5 : rightE fx5 = 0 := by decide
theorem r0 : rightE fx0 = 0 := by decide
theorem rZ : rightE fxZ ≠ 0 := by decide
theorem lM : litA fxM = [50, 32, 50, 32, 114, 101, 115, 104, 97, 112, 101, 32, 49, 32, 49, 48, 32, 50, 48, 48, 32, 51] := by kernel_rfl
theorem lB : litA fxB = [40, 98, 111, 120, 32, 49, 41, 32, 40, 98, 111, 120, 32, 34, 97, 98, 34, 41] := by kernel_rfl
theorem l5 : litA fx5 = [49, 32, 114, 101, 115, 104, 97, 112, 101, 32, 95, 53] := by kernel_rfl
theorem l0 : litA fx0 = [48, 32, 114, 101, 115, 104, 97, 112, 101, 32, 98, 111, 120, 32, 48, 32, 114, 101, 115, 104, 97, 112, 101, 32, 48] := by kernel_rfl
theorem tM : tabT 2 2 ([1, 10, 200, 3].map shL) [32] = [[32, 32, 49, 32, 49, 48], [50, 48, 48, 32, 32, 51]] := by kernel_rfl
theorem tB : tabT 1 2 ([.mk 1 [] [1] [], .mk 2 [2] [97, 98] []].map boxS) [32] = [[91, 49, 93, 32, 91, 34, 97, 98, 34, 93]] := by kernel_rfl
theorem wM : wt fxM ≤ 400 := by decide
theorem wB : wt fxB ≤ 400 := by decide
theorem w5 : wt fx5 ≤ 400 := by decide
theorem w0 : wt fx0 ≤ 400 := by decide
end Go.Proofs.YtngcahaidlgkfaaDoor.Shape

namespace Go.Proofs.YtngcahaidlgkfaaDoor.Shape
open Go.RowKit Go.Proofs.YtngcahaidlgkfaaDoor.Num
set_option linter.unusedVariables false
set_option linter.unusedSimpArgs false

theorem tMs : [1, 10, 200, 3].map shL = [[49], [49, 48], [50, 48, 48], [51]] := by kernel_rfl
theorem tBs : ([.mk 1 [] [1] [], .mk 2 [2] [97, 98] []] : List Arr).map boxS = [[91, 49, 93], [91, 34, 97, 98, 34, 93]] := by kernel_rfl
theorem lnsM {v : Value} {w : World} (h : ArrAt w v fxM) : Calls Tryd.prog 11 #[v] w fun e w' => ∃ G, w.heap.size ≤ G ∧ e = .returned (.slice (some ⟨G, 0, none⟩) 2 2) ∧ Strs w' G [[32, 32, 49, 32, 49, 48], [50, 48, 48, 32, 32, 51]] ∧ Below w.heap.size w w' := by
  have := linesR2o 1 (by decide) [2, 2] [1, 10, 200, 3] [] v w 2 2 4 ([1, 10, 200, 3].map shL) h (Lib.hid rfl) (Lib.hid rfl) rM (by decide) (by rw [tMs]; decide) (Lib.hid rfl) (by decide) (Lib.hid rfl) (by decide) (by decide) (fun W hW => ct1 [2, 2] [1, 10, 200, 3] [] v W (by decide) (h.below hW))
  rw [tM] at this
  exact this
theorem lnsB {v : Value} {w : World} (h : ArrAt w v fxB) (hT : Tok.TZ w) (hg : 3 < w.heap.size) : Calls Tryd.prog 11 #[v] w fun e w' => ∃ G, w.heap.size ≤ G ∧ e = .returned (.slice (some ⟨G, 0, none⟩) 1 1) ∧ Strs w' G [[91, 49, 93, 32, 91, 34, 97, 98, 34, 93]] ∧ Below w.heap.size w w' := by
  have := linesR1o 3 (by decide) [2] [] [.mk 1 [] [1] [], .mk 2 [2] [97, 98] []] v w 1 2 2 ([.mk 1 [] [1] [], .mk 2 [2] [97, 98] []].map boxS) h (Lib.hid rfl) (Lib.hid rfl) rB (by rw [tBs]; decide) (Lib.hid rfl) (by decide) (Lib.hid rfl) (by decide) (by decide) (fun W hW => ct3 [2] [] _ v W (fun j hj => by
    rcases j with _ | _ | j
    · exact ⟨(by decide : rightE (.mk 1 [] [1] []) = 0), (by decide : wt (.mk 1 [] [1] []) ≤ 400)⟩
    · exact ⟨(by decide : rightE (.mk 2 [2] [97, 98] []) = 0), (by decide : wt (.mk 2 [2] [97, 98] []) ≤ 400)⟩
    · simp at hj; omega) (Tok.TZ.below hT hW) (Nat.lt_of_lt_of_le hg hW.size) (by decide) (h.below hW))
  rw [tB] at this
  exact this
theorem shwB {v : Value} {w : World} (h : ArrAt w v fxB) (hT : Tok.TZ w) (hg : 3 < w.heap.size) : Calls Tryd.prog 13 #[v] w fun e w' => e = .returned (.string ⟨#[91, 49, 93, 32, 91, 34, 97, 98, 34, 93, 10]⟩) ∧ Below w.heap.size w w' := by
  have := showQ_of [[91, 49, 93, 32, 91, 34, 97, 98, 34, 93]] v fxB w h (by decide) (by decide) (fun W hW => (lnsB (h.below hW) (Tok.TZ.below hT hW) (Nat.lt_of_lt_of_le hg hW.size)).mono (by
    rintro e w' ⟨G, hG, rfl, hS, hb⟩
    exact ⟨_, rfl, Lns.of hS rfl (Nat.le_trans hW.size hG) (by decide), hb⟩))
  exact this
theorem shwZ {v : Value} {w : World} (h : ArrAt w v fxZ) : Calls Tryd.prog 13 #[v] w fun e w' => e = .returned (.string ⟨#[]⟩) ∧ Below w.heap.size w w' := by
  have := showQ_of [] v fxZ w h (by decide) (by decide) (fun W hW => (linesBad v fxZ W (h.below hW) rZ).mono (by
    rintro e w' ⟨rfl, hb⟩
    exact ⟨_, rfl, Lns.nil _ _, hb⟩))
  exact this
theorem litQ {v : Value} {w : World} {A : Arr} {L : List UInt8} (h : ArrAt w v A) (hw : wt A ≤ 400) (hL : litA A = L) (hT : Tok.TZ w) (hg : 3 < w.heap.size) : Calls Tryd.prog 9 #[v] w fun e w' => e = .returned (.string ⟨L.toArray⟩) ∧ Below w.heap.size w w' := by
  have := LiteralP v A w h hw hT hg
  rw [hL] at this
  exact this
end Go.Proofs.YtngcahaidlgkfaaDoor.Shape

namespace Go.Proofs.YtngcahaidlgkfaaDoor.Shape
open Go.RowKit Go.Proofs.YtngcahaidlgkfaaDoor.Num
set_option linter.unusedVariables false
set_option linter.unusedSimpArgs false
theorem lit_ints (w : World) (L : List Int) (t : TypeId) (C : Array Value) (n m : Nat) (hC : C = (L.map (Value.int .i64)).toArray) (hn : n = w.heap.size) (hm : m = L.length) (hb : ∀ x ∈ L, -9223372036854775808 ≤ x ∧ x ≤ 9223372036854775807) (hl : L.length ≤ 1000000) :
    IntsAt (w.alloc (.cells C t)) (some ⟨n, 0, none⟩) m L := by
  subst hC; subst hn; subst hm
  refine ⟨Nat.le_refl _, by omega, hb, w.heap.size, 0, fun _ => rfl, fun i hi => ?_⟩
  rw [Nat.zero_add, World.cell?_alloc_new]
  simp [hi]
theorem arrM (w : World) : ArrAt (((w.alloc (.cells #[.int .i64 2, .int .i64 2] 3)).alloc (.cells #[.int .i64 1, .int .i64 10, .int .i64 200, .int .i64 3] 3)).alloc (.cells #[.int .i64 1, .slice (some ⟨w.heap.size, 0, none⟩) 2 2, .slice (some ⟨w.heap.size + 1, 0, none⟩) 4 4, .slice none 0 0] 26)) (.agg #[.int .i64 1, .slice (some ⟨w.heap.size, 0, none⟩) 2 2, .slice (some ⟨w.heap.size + 1, 0, none⟩) 4 4, .slice none 0 0]) fxM :=
  ArrAt.below (below_new _ _) (arr_plain (sh := [2, 2]) (nu := [1, 10, 200, 3]) (by decide) rfl rfl ((lit_ints w [2, 2] _ _ _ _ rfl (by simp) rfl (by decide) (by decide)).below (below_new _ _)) (lit_ints _ [1, 10, 200, 3] _ _ _ _ rfl (by simp) rfl (by decide) (by decide)))
theorem arrB (w : World) : ArrAt ((((((w.alloc (.cells #[.int .i64 2] 3)).alloc (.cells #[.int .i64 1] 3)).alloc (.cells #[.int .i64 2] 3)).alloc (.cells #[.int .i64 97, .int .i64 98] 3)).alloc (.cells #[.int .i64 1, .slice none 0 0, .slice (some ⟨w.heap.size + 1, 0, none⟩) 1 1, .slice none 0 0, .int .i64 2, .slice (some ⟨w.heap.size + 1 + 1, 0, none⟩) 1 1, .slice (some ⟨w.heap.size + 1 + 1 + 1, 0, none⟩) 2 2, .slice none 0 0] 26)).alloc (.cells #[.int .i64 3, .slice (some ⟨w.heap.size, 0, none⟩) 1 1, .slice none 0 0, .slice (some ⟨w.heap.size + 1 + 1 + 1 + 1, 0, none⟩) 2 2] 26)) (.agg #[.int .i64 3, .slice (some ⟨w.heap.size, 0, none⟩) 1 1, .slice none 0 0, .slice (some ⟨w.heap.size + 1 + 1 + 1 + 1, 0, none⟩) 2 2]) fxB := by
  have g0 := lit_ints w [2] 3 _ w.heap.size 1 rfl (by simp) rfl (by decide) (by decide)
  have g1 := lit_ints (w.alloc (.cells #[.int .i64 2] 3)) [1] 3 _ (w.heap.size + 1) 1 rfl (by simp) rfl (by decide) (by decide)
  have g2 := lit_ints ((w.alloc (.cells #[.int .i64 2] 3)).alloc (.cells #[.int .i64 1] 3)) [2] 3 _ (w.heap.size + 1 + 1) 1 rfl (by simp) rfl (by decide) (by decide)
  have g3 := lit_ints (((w.alloc (.cells #[.int .i64 2] 3)).alloc (.cells #[.int .i64 1] 3)).alloc (.cells #[.int .i64 2] 3)) [97, 98] 3 _ (w.heap.size + 1 + 1 + 1) 2 rfl (by simp) rfl (by decide) (by decide)
  have b4 := below_new ((((w.alloc (.cells #[.int .i64 2] 3)).alloc (.cells #[.int .i64 1] 3)).alloc (.cells #[.int .i64 2] 3)).alloc (.cells #[.int .i64 97, .int .i64 98] 3)) (.cells #[.int .i64 1, .slice none 0 0, .slice (some ⟨w.heap.size + 1, 0, none⟩) 1 1, .slice none 0 0, .int .i64 2, .slice (some ⟨w.heap.size + 1 + 1, 0, none⟩) 1 1, .slice (some ⟨w.heap.size + 1 + 1 + 1, 0, none⟩) 2 2, .slice none 0 0] 26)
  have b5 := below_new (((((w.alloc (.cells #[.int .i64 2] 3)).alloc (.cells #[.int .i64 1] 3)).alloc (.cells #[.int .i64 2] 3)).alloc (.cells #[.int .i64 97, .int .i64 98] 3)).alloc (.cells #[.int .i64 1, .slice none 0 0, .slice (some ⟨w.heap.size + 1, 0, none⟩) 1 1, .slice none 0 0, .int .i64 2, .slice (some ⟨w.heap.size + 1 + 1, 0, none⟩) 1 1, .slice (some ⟨w.heap.size + 1 + 1 + 1, 0, none⟩) 2 2, .slice none 0 0] 26)) (.cells #[.int .i64 3, .slice (some ⟨w.heap.size, 0, none⟩) 1 1, .slice none 0 0, .slice (some ⟨w.heap.size + 1 + 1 + 1 + 1, 0, none⟩) 2 2] 26)
  have b3 := below_new (((w.alloc (.cells #[.int .i64 2] 3)).alloc (.cells #[.int .i64 1] 3)).alloc (.cells #[.int .i64 2] 3)) (.cells #[.int .i64 97, .int .i64 98] 3)
  have b2 := below_new ((w.alloc (.cells #[.int .i64 2] 3)).alloc (.cells #[.int .i64 1] 3)) (.cells #[.int .i64 2] 3)
  have b1 := below_new (w.alloc (.cells #[.int .i64 2] 3)) (.cells #[.int .i64 1] 3)
  have h4 : ((((w.alloc (.cells #[.int .i64 2] 3)).alloc (.cells #[.int .i64 1] 3)).alloc (.cells #[.int .i64 2] 3)).alloc (.cells #[.int .i64 97, .int .i64 98] 3)).heap.size = w.heap.size + 1 + 1 + 1 + 1 := by simp
  have hc : ∀ i, (((((w.alloc (.cells #[.int .i64 2] 3)).alloc (.cells #[.int .i64 1] 3)).alloc (.cells #[.int .i64 2] 3)).alloc (.cells #[.int .i64 97, .int .i64 98] 3)).alloc (.cells #[.int .i64 1, .slice none 0 0, .slice (some ⟨w.heap.size + 1, 0, none⟩) 1 1, .slice none 0 0, .int .i64 2, .slice (some ⟨w.heap.size + 1 + 1, 0, none⟩) 1 1, .slice (some ⟨w.heap.size + 1 + 1 + 1, 0, none⟩) 2 2, .slice none 0 0] 26)).cell? ⟨w.heap.size + 1 + 1 + 1 + 1, i, none⟩ = #[.int .i64 1, .slice none 0 0, .slice (some ⟨w.heap.size + 1, 0, none⟩) 1 1, .slice none 0 0, .int .i64 2, .slice (some ⟨w.heap.size + 1 + 1, 0, none⟩) 1 1, .slice (some ⟨w.heap.size + 1 + 1 + 1, 0, none⟩) 2 2, .slice none 0 0][i]? := fun i => by rw [← h4]; exact World.cell?_alloc_new _ _ _ i
  have f0 := ((((g0.below b1).below b2).below b3).below b4)
  have f1 := ((g1.below b2).below b3).below b4
  have f2 := (g2.below b3).below b4
  have f3 := g3.below b4
  refine ArrAt.below b5 ?_
  rw [fxB, ArrAt]
  refine ⟨_, 1, none, 0, some ⟨w.heap.size + 1 + 1 + 1 + 1, 0, none⟩, 2, rfl, by decide, f0, ints_nil _, by decide, by decide, w.heap.size + 1 + 1 + 1 + 1, 0, fun _ => rfl, ?_⟩
  rw [ArrsAt, ArrsAt, ArrsAt]
  exact ⟨⟨_, _, _, _, ⟨hc 0, hc 1, hc 2, hc 3⟩, arr_plain (sh := []) (nu := [1]) (by decide) rfl rfl (ints_nil _) f1⟩, ⟨_, _, _, _, ⟨hc 4, hc 5, hc 6, hc 7⟩, arr_plain (sh := [2]) (nu := [97, 98]) (by decide) rfl rfl f2 f3⟩, trivial⟩
theorem litXM {v : Value} {w : World} (h : ArrAt w v fxM) (hT : Tok.TZ w) (hg : 3 < w.heap.size) : Calls Tryd.prog 9 #[v] w fun e w' => e = .returned (.string ⟨#[50, 32, 50, 32, 114, 101, 115, 104, 97, 112, 101, 32, 49, 32, 49, 48, 32, 50, 48, 48, 32, 51]⟩) ∧ Below w.heap.size w w' := litQ h wM lM hT hg
theorem litXB {v : Value} {w : World} (h : ArrAt w v fxB) (hT : Tok.TZ w) (hg : 3 < w.heap.size) : Calls Tryd.prog 9 #[v] w fun e w' => e = .returned (.string ⟨#[40, 98, 111, 120, 32, 49, 41, 32, 40, 98, 111, 120, 32, 34, 97, 98, 34, 41]⟩) ∧ Below w.heap.size w w' := litQ h wB lB hT hg
theorem litX5 {v : Value} {w : World} (h : ArrAt w v fx5) (hT : Tok.TZ w) (hg : 3 < w.heap.size) : Calls Tryd.prog 9 #[v] w fun e w' => e = .returned (.string ⟨#[49, 32, 114, 101, 115, 104, 97, 112, 101, 32, 95, 53]⟩) ∧ Below w.heap.size w w' := litQ h w5 l5 hT hg
theorem litX0 {v : Value} {w : World} (h : ArrAt w v fx0) (hT : Tok.TZ w) (hg : 3 < w.heap.size) : Calls Tryd.prog 9 #[v] w fun e w' => e = .returned (.string ⟨#[48, 32, 114, 101, 115, 104, 97, 112, 101, 32, 98, 111, 120, 32, 48, 32, 114, 101, 115, 104, 97, 112, 101, 32, 48]⟩) ∧ Below w.heap.size w w' := litQ h w0 l0 hT hg
theorem arr5 (w : World) : ArrAt ((w.alloc (.cells #[.int .i64 1] 3)).alloc (.cells #[.int .i64 (-5)] 3)) (.agg #[.int .i64 1, .slice (some ⟨w.heap.size, 0, none⟩) 1 1, .slice (some ⟨w.heap.size + 1, 0, none⟩) 1 1, .slice none 0 0]) fx5 :=
  arr_plain (sh := [1]) (nu := [-5]) (by decide) rfl rfl ((lit_ints w [1] _ _ _ _ rfl (by simp) rfl (by decide) (by decide)).below (below_new _ _)) (lit_ints _ [-5] _ _ _ _ rfl (by simp) rfl (by decide) (by decide))
theorem arr0 (w : World) : ArrAt (w.alloc (.cells #[.int .i64 0] 3)) (.agg #[.int .i64 3, .slice (some ⟨w.heap.size, 0, none⟩) 1 1, .slice none 0 0, .slice none 0 0]) fx0 :=
  arr_plain (sh := [0]) (nu := []) (by decide) rfl rfl (lit_ints w [0] _ _ _ _ rfl (by simp) rfl (by decide) (by decide)) (ints_nil _)
theorem arrZ (w : World) : ArrAt w (.agg #[.int .i64 0, .slice none 0 0, .slice none 0 0, .slice none 0 0]) fxZ :=
  arr_plain (sh := []) (nu := []) (by decide) rfl rfl (ints_nil _) (ints_nil _)
set_option maxRecDepth 100000 in
set_option maxHeartbeats 16000000 in
theorem knowsQ (w : World) (hT : Tok.TZ w) (hg : 3 < w.heap.size) : Calls Tryd.prog 8 #[] w fun e w' => e = .returned (.bool true) ∧ Below w.heap.size w w' := by
  have G1 : Below w.heap.size w (((w.alloc (.cells #[.int .i64 2, .int .i64 2] 3)).alloc (.cells #[.int .i64 1, .int .i64 10, .int .i64 200, .int .i64 3] 3)).alloc (.cells #[.int .i64 1, .slice (some ⟨w.heap.size, 0, none⟩) 2 2, .slice (some ⟨w.heap.size + 1, 0, none⟩) 4 4, .slice none 0 0] 26)) := Below.then (Below.then (below_new _ _) (below_new _ _)) (below_new _ _)
  have A1 := arrM w
  have q1 : Quad (((w.alloc (.cells #[.int .i64 2, .int .i64 2] 3)).alloc (.cells #[.int .i64 1, .int .i64 10, .int .i64 200, .int .i64 3] 3)).alloc (.cells #[.int .i64 1, .slice (some ⟨w.heap.size, 0, none⟩) 2 2, .slice (some ⟨w.heap.size + 1, 0, none⟩) 4 4, .slice none 0 0] 26)) (w.heap.size + 1 + 1) (.int .i64 1) (.slice (some ⟨w.heap.size, 0, none⟩) 2 2) (.slice (some ⟨w.heap.size + 1, 0, none⟩) 4 4) (.slice none 0 0) := by
    have := Quad.new ((w.alloc (.cells #[.int .i64 2, .int .i64 2] 3)).alloc (.cells #[.int .i64 1, .int .i64 10, .int .i64 200, .int .i64 3] 3)) (.int .i64 1) (.slice (some ⟨w.heap.size, 0, none⟩) 2 2) (.slice (some ⟨w.heap.size + 1, 0, none⟩) 4 4) (.slice none 0 0)
    rw [show ((w.alloc (.cells #[.int .i64 2, .int .i64 2] 3)).alloc (.cells #[.int .i64 1, .int .i64 10, .int .i64 200, .int .i64 3] 3)).heap.size = w.heap.size + 1 + 1 by simp] at this
    exact this
  have A5 := arrB
  have G5 : ∀ w1 : World, Below w1.heap.size w1 ((((((w1.alloc (.cells #[.int .i64 2] 3)).alloc (.cells #[.int .i64 1] 3)).alloc (.cells #[.int .i64 2] 3)).alloc (.cells #[.int .i64 97, .int .i64 98] 3)).alloc (.cells #[.int .i64 1, .slice none 0 0, .slice (some ⟨w1.heap.size + 1, 0, none⟩) 1 1, .slice none 0 0, .int .i64 2, .slice (some ⟨w1.heap.size + 1 + 1, 0, none⟩) 1 1, .slice (some ⟨w1.heap.size + 1 + 1 + 1, 0, none⟩) 2 2, .slice none 0 0] 26)).alloc (.cells #[.int .i64 3, .slice (some ⟨w1.heap.size, 0, none⟩) 1 1, .slice none 0 0, .slice (some ⟨w1.heap.size + 1 + 1 + 1 + 1, 0, none⟩) 2 2] 26)) := fun w1 => Below.then (Below.then (Below.then (Below.then (Below.then (below_new _ _) (below_new _ _)) (below_new _ _)) (below_new _ _)) (below_new _ _)) (below_new _ _)
  have q5 : ∀ w1 : World, Quad ((((((w1.alloc (.cells #[.int .i64 2] 3)).alloc (.cells #[.int .i64 1] 3)).alloc (.cells #[.int .i64 2] 3)).alloc (.cells #[.int .i64 97, .int .i64 98] 3)).alloc (.cells #[.int .i64 1, .slice none 0 0, .slice (some ⟨w1.heap.size + 1, 0, none⟩) 1 1, .slice none 0 0, .int .i64 2, .slice (some ⟨w1.heap.size + 1 + 1, 0, none⟩) 1 1, .slice (some ⟨w1.heap.size + 1 + 1 + 1, 0, none⟩) 2 2, .slice none 0 0] 26)).alloc (.cells #[.int .i64 3, .slice (some ⟨w1.heap.size, 0, none⟩) 1 1, .slice none 0 0, .slice (some ⟨w1.heap.size + 1 + 1 + 1 + 1, 0, none⟩) 2 2] 26)) (w1.heap.size + 1 + 1 + 1 + 1 + 1) (.int .i64 3) (.slice (some ⟨w1.heap.size, 0, none⟩) 1 1) (.slice none 0 0) (.slice (some ⟨w1.heap.size + 1 + 1 + 1 + 1, 0, none⟩) 2 2) := fun w1 => by
    have := Quad.new (((((w1.alloc (.cells #[.int .i64 2] 3)).alloc (.cells #[.int .i64 1] 3)).alloc (.cells #[.int .i64 2] 3)).alloc (.cells #[.int .i64 97, .int .i64 98] 3)).alloc (.cells #[.int .i64 1, .slice none 0 0, .slice (some ⟨w1.heap.size + 1, 0, none⟩) 1 1, .slice none 0 0, .int .i64 2, .slice (some ⟨w1.heap.size + 1 + 1, 0, none⟩) 1 1, .slice (some ⟨w1.heap.size + 1 + 1 + 1, 0, none⟩) 2 2, .slice none 0 0] 26)) (.int .i64 3) (.slice (some ⟨w1.heap.size, 0, none⟩) 1 1) (.slice none 0 0) (.slice (some ⟨w1.heap.size + 1 + 1 + 1 + 1, 0, none⟩) 2 2)
    rw [show (((((w1.alloc (.cells #[.int .i64 2] 3)).alloc (.cells #[.int .i64 1] 3)).alloc (.cells #[.int .i64 2] 3)).alloc (.cells #[.int .i64 97, .int .i64 98] 3)).alloc (.cells #[.int .i64 1, .slice none 0 0, .slice (some ⟨w1.heap.size + 1, 0, none⟩) 1 1, .slice none 0 0, .int .i64 2, .slice (some ⟨w1.heap.size + 1 + 1, 0, none⟩) 1 1, .slice (some ⟨w1.heap.size + 1 + 1 + 1, 0, none⟩) 2 2, .slice none 0 0] 26)).heap.size = w1.heap.size + 1 + 1 + 1 + 1 + 1 by simp] at this
    exact this
  have G8 : ∀ w1 : World, Below w1.heap.size w1 ((w1.alloc (.cells #[.int .i64 1] 3)).alloc (.cells #[.int .i64 (-5)] 3)) := fun w1 => Below.then (below_new _ _) (below_new _ _)
  have G9 : ∀ w1 : World, Below w1.heap.size w1 (w1.alloc (.cells #[.int .i64 0] 3)) := fun w1 => below_new _ _
  have tz : ∀ W, Below w.heap.size w W → Tok.TZ W := fun W h => Tok.TZ.below hT h
  have gz : ∀ W, Below w.heap.size w W → 3 < W.heap.size := fun W h => Nat.lt_of_lt_of_le hg h.size
  clear hT hg
  go_enter Tryd.func8, Tryd.ntmps8
  go_wp2_with (first
    | (go_at_call 11; (with_reducible refine (lnsM A1).mono ?_); rintro e1 w1 ⟨G, hG, rfl, S1, b1⟩; (have L1 : Below w.heap.size w ((((((w1.alloc (.cells #[.int .i64 2] 3)).alloc (.cells #[.int .i64 1] 3)).alloc (.cells #[.int .i64 2] 3)).alloc (.cells #[.int .i64 97, .int .i64 98] 3)).alloc (.cells #[.int .i64 1, .slice none 0 0, .slice (some ⟨w1.heap.size + 1, 0, none⟩) 1 1, .slice none 0 0, .int .i64 2, .slice (some ⟨w1.heap.size + 1 + 1, 0, none⟩) 1 1, .slice (some ⟨w1.heap.size + 1 + 1 + 1, 0, none⟩) 2 2, .slice none 0 0] 26)).alloc (.cells #[.int .i64 3, .slice (some ⟨w1.heap.size, 0, none⟩) 1 1, .slice none 0 0, .slice (some ⟨w1.heap.size + 1 + 1 + 1 + 1, 0, none⟩) 2 2] 26)) := Below.then (Below.then G1 b1) (G5 w1)); (have S5 := Strs.below S1 (G5 w1)); (have x0 : ((((((w1.alloc (.cells #[.int .i64 2] 3)).alloc (.cells #[.int .i64 1] 3)).alloc (.cells #[.int .i64 2] 3)).alloc (.cells #[.int .i64 97, .int .i64 98] 3)).alloc (.cells #[.int .i64 1, .slice none 0 0, .slice (some ⟨w1.heap.size + 1, 0, none⟩) 1 1, .slice none 0 0, .int .i64 2, .slice (some ⟨w1.heap.size + 1 + 1, 0, none⟩) 1 1, .slice (some ⟨w1.heap.size + 1 + 1 + 1, 0, none⟩) 2 2, .slice none 0 0] 26)).alloc (.cells #[.int .i64 3, .slice (some ⟨w1.heap.size, 0, none⟩) 1 1, .slice none 0 0, .slice (some ⟨w1.heap.size + 1 + 1 + 1 + 1, 0, none⟩) 2 2] 26)).cell? ⟨G, 0, none⟩ = some (.string ⟨#[32, 32, 49, 32, 49, 48]⟩) := S5.cell (j := 0) (by decide)); (have x1 : ((((((w1.alloc (.cells #[.int .i64 2] 3)).alloc (.cells #[.int .i64 1] 3)).alloc (.cells #[.int .i64 2] 3)).alloc (.cells #[.int .i64 97, .int .i64 98] 3)).alloc (.cells #[.int .i64 1, .slice none 0 0, .slice (some ⟨w1.heap.size + 1, 0, none⟩) 1 1, .slice none 0 0, .int .i64 2, .slice (some ⟨w1.heap.size + 1 + 1, 0, none⟩) 1 1, .slice (some ⟨w1.heap.size + 1 + 1 + 1, 0, none⟩) 2 2, .slice none 0 0] 26)).alloc (.cells #[.int .i64 3, .slice (some ⟨w1.heap.size, 0, none⟩) 1 1, .slice none 0 0, .slice (some ⟨w1.heap.size + 1 + 1 + 1 + 1, 0, none⟩) 2 2] 26)).cell? ⟨G, 1, none⟩ = some (.string ⟨#[50, 48, 48, 32, 32, 51]⟩) := S5.cell (j := 1) (by decide)); (have i0 := fun w' => strs_at w' G 2 2 0 (by decide)); (have i1 := fun w' => strs_at w' G 2 2 1 (by decide)); (have M5 := (A1.below b1).below (G5 w1)); (obtain ⟨m0, m1, m2, m3, -⟩ := ((q1.below b1).below (G5 w1)).cells); (obtain ⟨y0, y1, y2, y3, -⟩ := (q5 w1).cells))
    | (go_at_call 9; (with_reducible refine (litXM M5 (tz _ L1) (gz _ L1)).mono ?_); rintro e2 w2 ⟨rfl, b2⟩; (have L2 := Below.then L1 b2); (have B2 := (A5 w1).below b2); (obtain ⟨z0, z1, z2, z3, -⟩ := ((q5 w1).below b2).cells))
    | (go_at_call 9; (with_reducible refine (litXB B2 (tz _ L2) (gz _ L2)).mono ?_); rintro e3 w3 ⟨rfl, b3⟩; (have L3 := Below.then L2 b3); (have B3 := B2.below b3); (obtain ⟨u0, u1, u2, u3, -⟩ := (((q5 w1).below b2).below b3).cells))
    | (go_at_call 13; (with_reducible refine (shwB B3 (tz _ L3) (gz _ L3)).mono ?_); rintro e4 w4 ⟨rfl, b4⟩; (have L4 := Below.then (Below.then L3 b4) (G8 w4)))
    | (go_at_call 9; (with_reducible refine (litX5 (arr5 w4) (tz _ L4) (gz _ L4)).mono ?_); rintro e5 w5 ⟨rfl, b5⟩; (have L5 := Below.then (Below.then L4 b5) (G9 w5)))
    | (go_at_call 9; (with_reducible refine (litX0 (arr0 w5) (tz _ L5) (gz _ L5)).mono ?_); rintro e6 w6 ⟨rfl, b6⟩; (have L6 := Below.then L5 b6))
    | (go_at_call 13; (with_reducible refine (shwZ (arrZ w6)).mono ?_); rintro e7 w7 ⟨rfl, b7⟩; (have L7 := Below.then L6 b7)))
  go_ret
  exact ⟨rfl, L7⟩
end Go.Proofs.YtngcahaidlgkfaaDoor.Shape
