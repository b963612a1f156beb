/-
  Layer 4: the program's joinNone.
  Layer 4: the program's Join. (Written by wip/gen/cell-join.py.)
  Layer 4: plain mathematics: Join of an array's cells by its frame is the array.
  Layer 4: the program's Cells.
  Layer 4: the reference's put, of a boxed array: a scalar's item. (Written by wip/gen/cell-putb.py.)
  Layer 4: the reference's put, of a boxed array: the walk at an axis. (Written by wip/gen/cell-putb.py.)
  Layer 4: the reference's put, of a boxed array: at every list of dimensions. (Written by wip/gen/cell-putb.py.)
-/
import Derived.Test.YtppdibblkaepjaaBd19
import Derived.Test.YtppdibblkaepjaaBd18
import Derived.Deep.RegionHeldLaw
import Derived.Handy
import Derived.Test.YtppdibblkaepjaaBd21
import Derived.Deep.DeepCutAuto
import Derived.Deep.AppendLies
import Derived.Test.YtppdibblkaepjaaBd20
import Derived.Deep.RegionLaw
namespace Go.Proofs.Ytppdibblkaepjaa.Shape
open Go.RowKit
set_option linter.unusedVariables false

theorem SplitAt.arr {B : Nat} {w : World} {v : Value} {A : Arr} (h : SplitAt B w v A) : ArrOn (fun g => B ≤ g) w v A := by
  obtain ⟨M, G, a1, c1, a2, c2, a3, c3, hv, hkd, i1, i2, h1, h2, row⟩ := h
  obtain ⟨k, sh, nu, it⟩ := A
  rw [ArrOn]
  refine ⟨a1, c1, a2, c2, a3, c3, hv, hkd, i1.mono fun g hg => hg.1.1, i2.mono fun g hg => hg.1.1, h1, h2, G, 0, fun hne => ⟨(row hne).1, (row hne).2.1⟩, ?_⟩
  cases it with
  | nil => rw [ArrsOn]; trivial
  | cons A r =>
    obtain ⟨-, hB, qs, q1, q2, q3⟩ := row (by simp [Arr.items])
    refine (q3.keep (R := fun g => B ≤ g) (w' := w) fun g hg _ => ⟨hg.1, fun _ => rfl⟩).arrs fun i hi => ?_
    simp [World.cell?, q1, hi]
theorem two_keep {W : World} {b R : Nat} {u0 u1 c0 c1 c2 c3 : Value} (h : W.cell? ⟨b, 0, none⟩ = some u0 ∧ W.cell? ⟨b, 1, none⟩ = some u1) (hne : b ≠ R) :
    ((((W.setCell ⟨R, 0, none⟩ c0).setCell ⟨R, 1, none⟩ c1).setCell ⟨R, 2, none⟩ c2).setCell ⟨R, 3, none⟩ c3).cell? ⟨b, 0, none⟩ = some u0 ∧ ((((W.setCell ⟨R, 0, none⟩ c0).setCell ⟨R, 1, none⟩ c1).setCell ⟨R, 2, none⟩ c2).setCell ⟨R, 3, none⟩ c3).cell? ⟨b, 1, none⟩ = some u1 := by
  have e : ((((W.setCell ⟨R, 0, none⟩ c0).setCell ⟨R, 1, none⟩ c1).setCell ⟨R, 2, none⟩ c2).setCell ⟨R, 3, none⟩ c3).heap[b]? = W.heap[b]? := by rw [set_other _ _ _ _ _ hne, set_other _ _ _ _ _ hne, set_other _ _ _ _ _ hne, set_other _ _ _ _ _ hne]
  generalize ((((W.setCell ⟨R, 0, none⟩ c0).setCell ⟨R, 1, none⟩ c1).setCell ⟨R, 2, none⟩ c2).setCell ⟨R, 3, none⟩ c3) = V at e ⊢
  exact ⟨(World.cell?_of_block (a := ⟨b, 0, none⟩) e).trans h.1, (World.cell?_of_block (a := ⟨b, 1, none⟩) e).trans h.2⟩
def joinNoneS (fr : List Int) (A : Arr) : Arr × Int := if rightE A = 0 then filledS A.kind (fr ++ A.shape) else (zeroA, 1)
set_option maxRecDepth 100000 in
set_option maxHeartbeats 4000000 in
theorem joinNoneQ (fa : Option Addr) (fc : Nat) (fr : List Int) (v : Value) (A : Arr) (w : World) (hf : IntsAt w fa fc fr) (hfl : fr.length ≤ 1000) (h : ArrAt w v A) :
    Calls Try.prog 36 #[.slice fa fr.length fc, v] w (GiveNewE (joinNoneS fr A).1 (joinNoneS fr A).2 w) := by
  have h0 := h
  obtain ⟨kk, sa, ls, sc, na, ln, nc, ia, li, ic, rfl, hs, hls, hkk⟩ : ∃ kk sa ls sc na ln nc ia li ic, v = .agg #[.int .i64 kk, .slice sa ls sc, .slice na ln nc, .slice ia li ic] ∧ IntsAt w sa sc A.shape ∧ ls = A.shape.length ∧ kk = A.kind := by
    obtain ⟨kk, sh, nu, it⟩ := A
    rw [ArrAt] at h
    obtain ⟨sa, sc, na, nc, ia, ic, hv, -, hs, -⟩ := h
    exact ⟨_, _, _, _, _, _, _, _, _, _, hv, hs, rfl, rfl⟩
  subst hls
  have HKK : Hid (kk = A.kind) := hkk
  clear hkk
  have bw := below_two w (.cells #[.int .i64 kk, .slice sa A.shape.length sc, .slice na ln nc, .slice ia li ic] 26) (.cells #[.int .i64 0, .slice none 0 0, .slice none 0 0, .slice none 0 0] 26)
  have q0 := (Quad.new w (.int .i64 kk) (.slice sa A.shape.length sc) (.slice na ln nc) (.slice ia li ic)).below (below_new _ (.cells #[.int .i64 0, .slice none 0 0, .slice none 0 0, .slice none 0 0] 26))
  have q4 : Quad ((w.alloc (.cells #[.int .i64 kk, .slice sa A.shape.length sc, .slice na ln nc, .slice ia li ic] 26)).alloc (.cells #[.int .i64 0, .slice none 0 0, .slice none 0 0, .slice none 0 0] 26)) (w.heap.size + 1) (.int .i64 0) (.slice none 0 0) (.slice none 0 0) (.slice none 0 0) := by
    simpa using Quad.new (w.alloc (.cells #[.int .i64 kk, .slice sa A.shape.length sc, .slice na ln nc, .slice ia li ic] 26)) (.int .i64 0) (.slice none 0 0) (.slice none 0 0) (.slice none 0 0)
  have hsz : ((w.alloc (.cells #[.int .i64 kk, .slice sa A.shape.length sc, .slice na ln nc, .slice ia li ic] 26)).alloc (.cells #[.int .i64 0, .slice none 0 0, .slice none 0 0, .slice none 0 0] 26)).heap.size = w.heap.size + 2 := by simp
  have hA := h0.below bw
  have hf1 := hf.below bw
  have hs1 := hs.below bw
  obtain ⟨x, hx⟩ : ∃ x, rightE A = x := ⟨_, rfl⟩
  have R := fun v' w' (g : ArrAt w' v' A) => rightQ v' A w' g
  rw [hx] at R
  clear h h0
  generalize hW0 : ((w.alloc (.cells #[.int .i64 kk, .slice sa A.shape.length sc, .slice na ln nc, .slice ia li ic] 26)).alloc (.cells #[.int .i64 0, .slice none 0 0, .slice none 0 0, .slice none 0 0] 26)) = W0 at *
  obtain ⟨c0, c1, c2, c3, -⟩ := q0.cells
  by_cases hx0 : x = 0
  · subst hx0
    have hk := (right_lens hx).2.2.2.2
    have h8 := (right_def.1 (right_short hx)).1
    have hJ : joinNoneS fr A = filledS kk (fr ++ A.shape) := by rw [joinNoneS, if_pos hx, HKK.out]
    rw [hJ]
    rw [← HKK.out] at hk
    clear HKK hx hJ
    generalize A.shape = sh at *
    obtain ⟨tot, htot⟩ : ∃ t, fr ++ sh = t := ⟨_, rfl⟩
    rw [htot]
    have CF := fun a' c' (W : World) (g : IntsAt W a' c' tot) => filledQ a' c' tot kk W g hk
    have CC : ∀ (W : World) (g : Nat), W.heap[g]? = some (.cells #[.slice fa fr.length fc, .slice sa sh.length sc] 22) → Below W0.heap.size W0 W → Calls Try.prog 58 #[.slice (some ⟨g, 0, none⟩) 2 2] W fun e w' => ∃ a' c', e = .returned (.slice a' tot.length c') ∧ IntsAt w' a' c' tot ∧ Below W.heap.size W w' := by
      intro W g hg hb
      refine (concatQ g fa sa fc sc fr sh W (by simp [World.cell?, hg]) (by simp [World.cell?, hg]) (hf1.below hb) (hs1.below hb) ⟨by omega, by omega⟩).mono ?_
      rintro e w' ⟨a', c', he, hi, hb'⟩
      rw [htot] at he hi
      exact ⟨a', c', he, hi.1, hb'⟩
    obtain ⟨FA, er, hFA⟩ : ∃ FA er, filledS kk tot = (FA, er) := ⟨_, _, rfl⟩
    rw [hFA] at CF ⊢
    clear htot hFA hs1 hf1 hs hf
    go_enter Try.func36, Try.ntmps36
    go_wp2_with (go_at_call 37; refine (R _ _ hA).mono ?_; rintro e w1 ⟨rfl, hb1⟩)
    have q01 := q0.below hb1
    have q41 := q4.below hb1
    have CC1 := CC (w1.alloc (.cells #[.slice fa fr.length fc, .slice sa sh.length sc] 22)) w1.heap.size (heap_alloc_new w1 _) (Below.then hb1 (below_new _ _))
    have CC2 := CC (w1.alloc (.cells #[.slice fa fr.length fc, .slice sa sh.length sc] 22)).drew w1.heap.size (heap_alloc_new w1 _) (Below.then hb1 (show Below w1.heap.size w1 (w1.alloc (.cells #[.slice fa fr.length fc, .slice sa sh.length sc] 22)).drew from ⟨(below_new w1 (.cells #[.slice fa fr.length fc, .slice sa sh.length sc] 22)).os, (below_new w1 (.cells #[.slice fa fr.length fc, .slice sa sh.length sc] 22)).tape, (below_new w1 (.cells #[.slice fa fr.length fc, .slice sa sh.length sc] 22)).output, (below_new w1 (.cells #[.slice fa fr.length fc, .slice sa sh.length sc] 22)).size, (below_new w1 (.cells #[.slice fa fr.length fc, .slice sa sh.length sc] 22)).block⟩))
    have CC3 := CC (w1.drew.alloc (.cells #[.slice fa fr.length fc, .slice sa sh.length sc] 22)) w1.heap.size (heap_alloc_new w1 _) (Below.then hb1 (show Below w1.heap.size w1 (w1.drew.alloc (.cells #[.slice fa fr.length fc, .slice sa sh.length sc] 22)) from ⟨(below_new w1 (.cells #[.slice fa fr.length fc, .slice sa sh.length sc] 22)).os, (below_new w1 (.cells #[.slice fa fr.length fc, .slice sa sh.length sc] 22)).tape, (below_new w1 (.cells #[.slice fa fr.length fc, .slice sa sh.length sc] 22)).output, (below_new w1 (.cells #[.slice fa fr.length fc, .slice sa sh.length sc] 22)).size, (below_new w1 (.cells #[.slice fa fr.length fc, .slice sa sh.length sc] 22)).block⟩))
    clear CC
    have H0 : ∀ w', Below w1.heap.size w1 w' → ((w'.cell? ⟨w.heap.size, 0, none⟩ = some (.int .i64 kk) ∧ w'.cell? ⟨w.heap.size, 1, none⟩ = some (.slice sa sh.length sc)) ∧ Below w1.heap.size w1 w') := by
      intro w' hb
      obtain ⟨a0, a1, a2, a3, -⟩ := (q01.below hb).cells
      exact ⟨⟨a0, a1⟩, hb⟩
    have hs01 := hb1.size
    go_region_held_law (fun w' => w'.cell? ⟨w.heap.size, 0, none⟩ = some (.int .i64 kk) ∧ w'.cell? ⟨w.heap.size, 1, none⟩ = some (.slice sa sh.length sc))
      (first
        | (with_reducible exact two_keep (H0 _ e3).1 (by omega))
        | exact (H0 _ (by go_grown)).1)
      (((first
      | (go_simp; (first | (with_reducible refine CC1.mono ?_) | (with_reducible refine CC2.mono ?_) | (with_reducible refine CC3.mono ?_)); rintro e w2 ⟨a', c', rfl, hi, b2⟩; (have e2 : Below w1.heap.size w1 w2 := Below.then (by go_grown) b2); (have S2 := e2.size))
      | (go_simp; (with_reducible refine (CF _ _ _ (hi.below (by go_grown))).mono ?_); intro e w3 hN; (obtain ⟨k3, s3, l3, d3, n3, m3, f3, i3, j3, g3, rfl, hO, b3⟩ := hN.form); (have e3 : Below w1.heap.size w1 w3 := Below.then (by go_grown) b3); (have S3 := e3.size); (obtain ⟨z0, z1, z2, z3, z4, z5, z6, z7⟩ := (q41.below e3).cells)))))
    all_goals have q3 := q41.below e3
    all_goals have hw3 : Below w.heap.size w w3 := Below.then (Below.then bw hb1) e3
    all_goals have G := give_set4 (w := w) (Nat.le_succ w.heap.size) q3 (hO.arr.mono fun g hg => by first | omega | (have hz := b2.size; simp only [World.size_alloc, World.size_drew] at hz; omega)) hw3
    all_goals obtain ⟨QW, -⟩ := set4 q3 (.int .i64 k3) (.slice s3 l3 d3) (.slice n3 m3 f3) (.slice i3 j3 g3)
    all_goals go_wp2_with fail
    all_goals generalize ((((w3.setCell ⟨w.heap.size + 1, 0, none⟩ (.int .i64 k3)).setCell ⟨w.heap.size + 1, 1, none⟩ (.slice s3 l3 d3)).setCell ⟨w.heap.size + 1, 2, none⟩ (.slice n3 m3 f3)).setCell ⟨w.heap.size + 1, 3, none⟩ (.slice i3 j3 g3)) = WW at QW G ⊢
    all_goals obtain ⟨y0, y1, y2, y3, -⟩ := QW.cells
    all_goals exact bodyPost_ret (v := .tuple #[.agg #[.int .i64 k3, .slice s3 l3 d3, .slice n3 m3 f3, .slice i3 j3 g3], .int .i64 er]) (by simp [results, Try.results36, go_sem, y0, y1, y2, y3]) rfl (GiveNewE.mk G)
  · have hJ : joinNoneS fr A = (zeroA, 1) := by rw [joinNoneS, if_neg (by rw [hx]; exact hx0)]
    rw [hJ]
    have e2 : (x != 0) = true := by simpa using hx0
    clear hx hx0 hJ
    go_enter Try.func36, Try.ntmps36
    go_wp2_with (go_at_call 37; refine (R _ _ hA).mono ?_; rintro e w1 ⟨rfl, hb1⟩; (obtain ⟨s0, s1, s2, s3, s4, s5, s6, s7⟩ := (q4.below hb1).cells))
    have q3 := q4.below hb1
    have G := give_set4 (Nat.le_succ w.heap.size) q3 (zero_on _ _) (Below.then bw hb1)
    obtain ⟨QW, -⟩ := set4 q3 (.int .i64 0) (.slice none 0 0) (.slice none 0 0) (.slice none 0 0)
    generalize ((((w1.setCell ⟨w.heap.size + 1, 0, none⟩ (.int .i64 0)).setCell ⟨w.heap.size + 1, 1, none⟩ (.slice none 0 0)).setCell ⟨w.heap.size + 1, 2, none⟩ (.slice none 0 0)).setCell ⟨w.heap.size + 1, 3, none⟩ (.slice none 0 0)) = WW at QW G ⊢
    obtain ⟨z0, z1, z2, z3, -⟩ := QW.cells
    exact bodyPost_ret (v := .tuple #[.agg #[.int .i64 0, .slice none 0 0, .slice none 0 0, .slice none 0 0], .int .i64 1]) (by simp [results, Try.results36, go_sem, z0, z1, z2, z3]) rfl (GiveNewE.mk G)
end Go.Proofs.Ytppdibblkaepjaa.Shape

namespace Go.Proofs.Ytppdibblkaepjaa.Shape
open Go.RowKit
set_option linter.unusedVariables false

theorem maxL_at {a b : List Int} {i : Nat} {y : Int} (h : (maxL a b)[i]? = some y) : ∃ x z, a[i]? = some x ∧ b[i]? = some z ∧ x ≤ y ∧ z ≤ y := by
  unfold maxL at h
  rw [List.getElem?_zipWith] at h
  cases ha : a[i]? with
  | none => simp [ha] at h
  | some x =>
    cases hb : b[i]? with
    | none => simp [ha, hb] at h
    | some z =>
      simp only [ha, hb, Option.some.injEq] at h
      exact ⟨x, z, rfl, rfl, by omega, by omega⟩
theorem commonG_ge (n : Nat) : ∀ (l : List Arr) (acc : List Int) (i : Nat) (y : Int), (commonG n l acc)[i]? = some y → (∃ x, acc[i]? = some x ∧ x ≤ y) ∧ ∀ A ∈ l, ∃ z, (leadS A.shape n)[i]? = some z ∧ z ≤ y
  | [], acc, i, y, h => ⟨⟨y, h, Int.le_refl _⟩, fun A hA => by cases hA⟩
  | B :: r, acc, i, y, h => by
    rw [commonG] at h
    obtain ⟨⟨m, hm, hmy⟩, h2⟩ := commonG_ge n r _ i y h
    obtain ⟨x, z, hx, hz, h3, h4⟩ := maxL_at hm
    refine ⟨⟨x, hx, by omega⟩, fun A hA => ?_⟩
    rcases List.mem_cons.1 hA with rfl | hA
    · exact ⟨z, hz, by omega⟩
    · exact h2 A hA
theorem commonS_len (l : List Arr) : (commonS l).length = maxRank l := commonG_len _ _ _ (fun A hA => maxRank_le hA) (by simp)
theorem common_fits {l : List Arr} {A : Arr} (hA : A ∈ l) : fits (commonS l) (leadS A.shape (commonS l).length) := by
  rw [commonS_len]
  refine fits_of (maxRank l) _ _ (commonS_len l) (leadS_len (maxRank_le hA)) fun i x y hx hy => ?_
  obtain ⟨z, hz, hzy⟩ := (commonG_ge _ _ _ i y hy).2 A hA
  rw [hx] at hz
  cases hz
  exact hzy
/-- What Join gives. -/
def joinA (fr : List Int) (l : List Arr) (B : Arr) : Arr × Int :=
  if sizeS fr = l.length then
    if l.length = 0 then joinNoneS fr B
    else if l.all (fun A => decide (rightE A = 0)) = true then
      if l.all (fun A => decide (A.kind = (l.headD zeroA).kind)) = true then asmS (l.headD zeroA).kind fr (commonS l) l else (zeroA, 14)
    else (zeroA, 1)
  else (zeroA, 1)
theorem okay_join {l : List Arr} {k : Int} (hr : ∀ A ∈ l, rightE A = 0) (hk : ∀ A ∈ l, A.kind = k) : ∀ A ∈ l, Okay k (commonS l) A := by
  intro A hA
  have h := right_lens (hr A hA)
  rw [hk A hA] at h
  exact ⟨hk A hA, (right_def.1 (right_short (hr A hA))).2.1, by rw [commonS_len]; exact maxRank_le hA, fun _ => common_fits hA, h.2.2.1, h.2.2.2.1⟩

set_option maxRecDepth 100000 in
set_option maxHeartbeats 2000000 in
theorem joinQ (fa : Option Addr) (fc : Nat) (fr : List Int) (a : Option Addr) (c : Nat) (l : List Arr) (v : Value) (B : Arr) (w : World) (b off : Nat) (hf : IntsAt w fa fc fr) (hlc : l.length ≤ c) (hc : c ≤ 9223372036854775807) (ha : l ≠ [] → a = some ⟨b, off, none⟩) (h : ArrsAt w b off l) (hR : ∀ A ∈ l, Reach A) (hB : ArrAt w v B) :
    Calls Try.prog 11 #[.slice fa fr.length fc, .slice a l.length c, v] w (GiveNewE (joinA fr l B).1 (joinA fr l B).2 w) := by
  have hB0 := hB
  obtain ⟨kl, sl, ll, cl, nl, ml, dl, il, jl, el, rfl⟩ : ∃ kk sa ls sc na ln nc ia li ic, v = .agg #[.int .i64 kk, .slice sa ls sc, .slice na ln nc, .slice ia li ic] := by
    obtain ⟨kk, sh, nu, it⟩ := B
    rw [ArrAt] at hB
    obtain ⟨sa, sc, na, nc, ia, ic, hv, -⟩ := hB
    exact ⟨_, _, _, _, _, _, _, _, _, _, hv⟩
  have bw := below_two w (.cells #[.int .i64 kl, .slice sl ll cl, .slice nl ml dl, .slice il jl el] 26) (.cells #[.int .i64 0, .slice none 0 0, .slice none 0 0, .slice none 0 0] 26)
  have q5 := (Quad.new w (.int .i64 kl) (.slice sl ll cl) (.slice nl ml dl) (.slice il jl el)).below (below_new _ (.cells #[.int .i64 0, .slice none 0 0, .slice none 0 0, .slice none 0 0] 26))
  have q6 : Quad ((w.alloc (.cells #[.int .i64 kl, .slice sl ll cl, .slice nl ml dl, .slice il jl el] 26)).alloc (.cells #[.int .i64 0, .slice none 0 0, .slice none 0 0, .slice none 0 0] 26)) (w.heap.size + 1) (.int .i64 0) (.slice none 0 0) (.slice none 0 0) (.slice none 0 0) := by simpa using Quad.new (w.alloc (.cells #[.int .i64 kl, .slice sl ll cl, .slice nl ml dl, .slice il jl el] 26)) (.int .i64 0) (.slice none 0 0) (.slice none 0 0) (.slice none 0 0)
  have hf1 := hf.below bw
  have hB1 := hB0.below bw
  have hl := hf.len
  generalize hW0 : (w.alloc (.cells #[.int .i64 kl, .slice sl ll cl, .slice nl ml dl, .slice il jl el] 26)).alloc (.cells #[.int .i64 0, .slice none 0 0, .slice none 0 0, .slice none 0 0] 26) = W0 at *
  obtain ⟨s0, s1, s2, s3, s4, s5, s6, s7⟩ := q6.cells
  obtain ⟨u0, u1, u2, u3, -⟩ := q5.cells
  obtain ⟨sz, hsz⟩ : ∃ s, sizeS fr = s := ⟨_, rfl⟩
  have S := fun W (g : IntsAt W fa fc fr) => shSizeP fa fc fr W g
  rw [hsz] at S
  by_cases hs : sz = (l.length : Int)
  · have hrf : rightB fr = true := Classical.byContradiction fun g => by
      rw [sizeS, if_neg g] at hsz
      omega
    have hpf : prN fr = l.length := by
      rw [sizeS, if_pos hrf] at hsz
      unfold prN; omega
    have hl6 : l.length ≤ 65536 := by
      have := (part_bd (a := fr) (b := []) (by rw [List.append_nil]; exact hrf)).2.1
      rw [← hpf]; unfold prN; omega
    have hf8 := (right_def.1 hrf).1
    have e1 : (sz != (l.length : Int)) = false := by simpa using hs
    by_cases hn : l.length = 0
    · have HP : joinA fr l B = joinNoneS fr B := by rw [joinA, if_pos (by rw [hsz]; exact hs), if_pos hn]
      have N := fun W (g : IntsAt W fa fc fr) (g2 : ArrAt W (.agg #[.int .i64 kl, .slice sl ll cl, .slice nl ml dl, .slice il jl el]) B) => joinNoneQ fa fc fr (.agg #[.int .i64 kl, .slice sl ll cl, .slice nl ml dl, .slice il jl el]) B W g (by omega) g2
      obtain ⟨PA, er, hPA⟩ : ∃ PA er, joinNoneS fr B = (PA, er) := ⟨_, _, rfl⟩
      rw [hPA] at N
      have HPA : Hid (joinA fr l B = (PA, er)) := HP.trans hPA
      have e2 : ((l.length : Int) == 0) = true := by simp [hn]
      have N1 := N W0 hf1 hB1
      clear HP hPA N hs hsz hrf hpf
      generalize l.length = L at *
      go_enter Try.func11, Try.ntmps11
      go_wp2_with (first
        | (go_at_call 35; refine (S _ hf1).mono ?_; rintro e w1 ⟨rfl, rfl⟩)
        | (go_at_call 36; refine N1.mono ?_; intro e w5 hN; (obtain ⟨kr, sar, lsr, scr, nar, lnr, ncr, iar, lir, icr, rfl, hO, hb5⟩ := GiveNewE.formOn hN); (obtain ⟨y0, y1, y2, y3, y4, y5, y6, y7⟩ := (q6.below hb5).cells)))
      have q6x := q6
      have hlq := q6x.lt
      have G := give_set4 (w := w) (Nat.le_succ w.heap.size) (q6.below hb5) (hO.mono fun g hg => by have hg' := hg; omega) (Below.then bw hb5)
      obtain ⟨QW, -⟩ := set4 (q6.below hb5) (.int .i64 kr) (.slice sar lsr scr) (.slice nar lnr ncr) (.slice iar lir icr)
      generalize ((((w5.setCell ⟨w.heap.size + 1, 0, none⟩ (.int .i64 kr)).setCell ⟨w.heap.size + 1, 1, none⟩ (.slice sar lsr scr)).setCell ⟨w.heap.size + 1, 2, none⟩ (.slice nar lnr ncr)).setCell ⟨w.heap.size + 1, 3, none⟩ (.slice iar lir icr)) = WW at QW G ⊢
      obtain ⟨z0, z1, z2, z3, -⟩ := QW.cells
      exact bodyPost_ret (v := .tuple #[.agg #[.int .i64 kr, .slice sar lsr scr, .slice nar lnr ncr, .slice iar lir icr], .int .i64 er]) (by simp [results, Try.results11, go_sem, z0, z1, z2, z3]) rfl (by rw [HPA.out]; exact GiveNewE.mk G)
    · have hne : l ≠ [] := fun e => hn (by rw [e]; rfl)
      have ha' := ha hne
      subst ha'
      have hl0 : 0 < l.length := by omega
      have hhd : l.headD zeroA = l[0] := by cases l with
        | nil => exact absurd rfl hne
        | cons A r => rfl
      obtain ⟨k0, hk0⟩ : ∃ k, l[0].kind = k := ⟨_, rfl⟩
      have e2 : ((l.length : Int) == 0) = false := by simpa using hn
      have HPR : Hid (∀ j (hj : j < l.length), rightE l[j] ≠ 0 → joinA fr l B = (zeroA, 1)) := fun j hj hx => by
        rw [joinA, if_pos (by rw [hsz]; exact hs), if_neg hn, if_neg]
        intro hall
        exact hx (by simpa using List.all_eq_true.1 hall _ (List.getElem_mem hj))
      have HPK : Hid ((∀ A ∈ l, rightE A = 0) → ∀ j (hj : j < l.length), l[j].kind ≠ k0 → joinA fr l B = (zeroA, 14)) := fun hr j hj hx => by
        rw [joinA, if_pos (by rw [hsz]; exact hs), if_neg hn, if_pos (List.all_eq_true.2 fun A hA => by simpa using hr A hA), if_neg]
        intro hall
        have := List.all_eq_true.1 hall _ (List.getElem_mem hj)
        rw [hhd, hk0] at this
        exact hx (by simpa using this)
      have HPO : Hid ((∀ A ∈ l, rightE A = 0) → (∀ A ∈ l, A.kind = k0) → joinA fr l B = asmS k0 fr (commonS l) l) := fun hr hk => by
        rw [joinA, if_pos (by rw [hsz]; exact hs), if_neg hn, if_pos (List.all_eq_true.2 fun A hA => by simpa using hr A hA), if_pos (List.all_eq_true.2 fun A hA => by rw [hhd, hk0]; simpa using hk A hA), hhd, hk0]
      obtain ⟨kz, saz, scz, naz, lnz, ncz, iaz, liz, icz, ⟨tz, -, -, -⟩, -, -, hkz⟩ := h.shape hl0
      obtain rfl : k0 = kz := by rw [← hk0]; exact hkz
      rw [Nat.zero_mul, Nat.add_zero] at tz
      have hix0 : ∀ W : World, (Instr.indexAt 23 (.slice (some ⟨b, off, none⟩) l.length c) (.int .i64 0)).run Try.prog W = .ok (.pointer (some ⟨b, off, none⟩)) W := by
        intro W
        have := items_at (ia := some ⟨b, off, none⟩) (b := b) (off := off) (l := l) (ic := c) rfl (fun _ => rfl) hl0 W
        rw [Nat.zero_mul, Nat.add_zero] at this
        exact this
      clear hs hsz hhd hk0 hkz u0 u1 u2 u3 hB0 hB1
      have q60 := q6
      clear q6
      go_enter Try.func11, Try.ntmps11
      go_wp2_with (go_at_call 35; refine (S _ hf1).mono ?_; rintro e w1 ⟨rfl, rfl⟩)
      clear s0 s1 s2 s3 s4 s5 s6 s7
      go_loopw [28] (fun i wr => ∃ j : Nat, j ≤ l.length ∧ i = .int .i64 j ∧ (∀ i' (hi : i' < l.length), i' < j → rightE l[i'] = 0) ∧ Below W0.heap.size W0 wr) (fun i _ => l.length - (intOf i).toNat)
      case atStart => exact ⟨0, Nat.zero_le _, rfl, fun i' _ h => absurd h (Nat.not_lt_zero _), Below.refl _ _⟩
      case round =>
        obtain ⟨j, hj, rfl, hall, hb⟩ := hrel
        have hbw := Below.then bw hb
        by_cases hlt : j < l.length
        · obtain ⟨kj, saj, scj, naj, lnj, ncj, iaj, lij, icj, ⟨t0, t1, t2, t3⟩, -, hAj, -⟩ := h.shape hlt
          have y0 := (hbw.cell (cell_lt t0)).trans t0
          have y1 := (hbw.cell (cell_lt t1)).trans t1
          have y2 := (hbw.cell (cell_lt t2)).trans t2
          have y3 := (hbw.cell (cell_lt t3)).trans t3
          have hixj := items_at (ia := some ⟨b, off, none⟩) (b := b) (off := off) (l := l) (ic := c) rfl (fun _ => rfl) hlt
          have bq := below_new wr (.cells #[.int .i64 kj, .slice saj l[j].shape.length scj, .slice naj lnj ncj, .slice iaj lij icj] 26)
          obtain ⟨r0, r1, r2, r3, -⟩ := (Quad.new wr (.int .i64 kj) (.slice saj l[j].shape.length scj) (.slice naj lnj ncj) (.slice iaj lij icj)).cells
          obtain ⟨x, hx⟩ : ∃ x, rightE l[j] = x := ⟨_, rfl⟩
          have R := fun v' w' (g : ArrAt w' v' l[j]) => rightQ v' l[j] w' g
          rw [hx] at R
          have HX := HPR.out j hlt
          rw [hx] at HX
          have hbq := Below.then hb bq
          have hAq := hAj.below (Below.then hbw bq)
          have RQ := R _ _ hAq
          clear t0 t1 t2 t3 hAj R hAq
          generalize l[j].shape.length = lsj at *
          by_cases hx0 : x = 0
          · have e5 : (x != 0) = false := by simpa using hx0
            go_wp2_with (go_at_call 37; refine RQ.mono ?_; rintro e w2 ⟨rfl, hb2⟩)
            refine ⟨⟨j + 1, by omega, by go_num, fun i' hi h => ?_, Below.then hbq hb2⟩, ?_⟩
            · rcases Nat.lt_succ_iff_lt_or_eq.1 h with h | h
              · exact hall i' hi h
              · subst h; rw [hx]; exact hx0
            · simp [intOf]; omega
          · have e5 : (x != 0) = true := by simpa using hx0
            have HP : Hid (joinA fr l B = (zeroA, 1)) := HX hx0
            have q6q := (q60.below hb).below bq
            clear HX HPR HPK HPO hall
            go_wp2_with (go_at_call 37; refine RQ.mono ?_; rintro e w2 ⟨rfl, hb2⟩; (obtain ⟨s0, s1, s2, s3, s4, s5, s6, s7⟩ := (q6q.below hb2).cells))
            have G := give_set4 (w := w) (Nat.le_succ w.heap.size) (q6q.below hb2) (zero_on _ _) (Below.then bw (Below.then hbq hb2))
            obtain ⟨QW, -⟩ := set4 (q6q.below hb2) (.int .i64 0) (.slice none 0 0) (.slice none 0 0) (.slice none 0 0)
            generalize ((((w2.setCell ⟨w.heap.size + 1, 0, none⟩ (.int .i64 0)).setCell ⟨w.heap.size + 1, 1, none⟩ (.slice none 0 0)).setCell ⟨w.heap.size + 1, 2, none⟩ (.slice none 0 0)).setCell ⟨w.heap.size + 1, 3, none⟩ (.slice none 0 0)) = WW at QW G ⊢
            obtain ⟨z0, z1, z2, z3, -⟩ := QW.cells
            exact bodyPost_ret (v := .tuple #[.agg #[.int .i64 0, .slice none 0 0, .slice none 0 0, .slice none 0 0], .int .i64 1]) (by simp [results, Try.results11, go_sem, z0, z1, z2, z3]) rfl (by rw [HP.out]; exact GiveNewE.mk G)
        · obtain rfl : j = l.length := by omega
          have hright : ∀ A ∈ l, rightE A = 0 := fun A hA => by
            obtain ⟨i', hi, rfl⟩ := List.getElem_of_mem hA
            exact hall i' hi hi
          have hk12 := (right_lens (hright _ (List.getElem_mem hl0))).2.2.2.2
          have HR : Hid (∀ A ∈ l, rightE A = 0) := hright
          clear hall hright HPR
          have hb0 := hb
          have hbw0 := hbw
          go_wp2_with fail
          clear hb hbw
          go_loopw [39] (fun i wr => ∃ j : Nat, j ≤ l.length ∧ i = .int .i64 j ∧ (∀ i' (hi : i' < l.length), i' < j → l[i'].kind = k0) ∧ Below W0.heap.size W0 wr) (fun i _ => l.length - (intOf i).toNat)
          case atStart => exact ⟨0, Nat.zero_le _, rfl, fun i' _ h => absurd h (Nat.not_lt_zero _), hb0⟩
          case round =>
            clear hb0 hbw0
            obtain ⟨j, hj, rfl, hall, hb⟩ := hrel
            have hbw := Below.then bw hb
            by_cases hlt : j < l.length
            · obtain ⟨kj, saj, scj, naj, lnj, ncj, iaj, lij, icj, ⟨t0, t1, t2, t3⟩, -, hAj, hkj⟩ := h.shape hlt
              have y0 := (hbw.cell (cell_lt t0)).trans t0
              have y1 := (hbw.cell (cell_lt t1)).trans t1
              have y2 := (hbw.cell (cell_lt t2)).trans t2
              have y3 := (hbw.cell (cell_lt t3)).trans t3
              have hixj := items_at (ia := some ⟨b, off, none⟩) (b := b) (off := off) (l := l) (ic := c) rfl (fun _ => rfl) hlt
              have bq := below_new wr (.cells #[.int .i64 kj, .slice saj l[j].shape.length scj, .slice naj lnj ncj, .slice iaj lij icj] 26)
              have qj := Quad.new wr (.int .i64 kj) (.slice saj l[j].shape.length scj) (.slice naj lnj ncj) (.slice iaj lij icj)
              obtain ⟨r0, r1, r2, r3, -⟩ := qj.cells
              have hbq := Below.then hb bq
              have z0 := ((Below.then hbw bq).cell (cell_lt tz)).trans tz
              have q6q := (q60.below hb).below bq
              have HK := HPK.out HR.out j hlt
              rw [hkj] at HK
              have HKJ : Hid (l[j].kind = kj) := hkj
              clear t0 t1 t2 t3 hAj hkj
              generalize l[j].shape.length = lsj at *
              obtain ⟨qb, hqb⟩ : ∃ qb, wr.heap.size = qb := ⟨_, rfl⟩
              rw [hqb] at r0 r1 r2 r3
              obtain ⟨Wq, hWq⟩ : ∃ Wq, wr.alloc (.cells #[.int .i64 kj, .slice saj lsj scj, .slice naj lnj ncj, .slice iaj lij icj] 26) = Wq := ⟨_, rfl⟩
              rw [hWq] at r0 r1 r2 r3 z0 bq hbq q6q
              by_cases hkk : kj = k0
              · subst hkk
                clear HK
                go_wp2_with fail
                go_region_held3 (fun W => W.cell? ⟨qb, 0, none⟩ = some (.int .i64 kj) ∧ W.cell? ⟨b, off, none⟩ = some (.int .i64 kj))
                  (first | exact ⟨r0, z0⟩ | assumption)
                  (fail)
                all_goals go_wp2_with fail
                refine ⟨⟨j + 1, by omega, by go_num, fun i' hi h => ?_, hbq.drew⟩, ?_⟩
                · rcases Nat.lt_succ_iff_lt_or_eq.1 h with h | h
                  · exact hall i' hi h
                  · subst h; exact HKJ.out
                · simp [intOf]; omega
              · have e7 : (kj != k0) = true := by simpa using hkk
                have HP : Hid (joinA fr l B = (zeroA, 14)) := HK hkk
                clear HK HPK HPO hall
                obtain ⟨s0, s1, s2, s3, s4, s5, s6, s7⟩ := q6q.cells
                go_wp2_with fail
                go_region_held3 (fun W => W.cell? ⟨qb, 0, none⟩ = some (.int .i64 kj) ∧ W.cell? ⟨b, off, none⟩ = some (.int .i64 k0))
                  (first | exact ⟨r0, z0⟩ | assumption)
                  (fail)
                all_goals go_wp2_with fail
                have G0 := give_set4 (w := w) (Nat.le_succ w.heap.size) (q6q.drewC) (zero_on _ _) (Below.then bw hbq.drew)
                have G : GiveNew zeroA w (.returned (.agg #[.int .i64 0, .slice none 0 0, .slice none 0 0, .slice none 0 0])) (World.drew ((((Wq.setCell ⟨w.heap.size + 1, 0, none⟩ (.int .i64 0)).setCell ⟨w.heap.size + 1, 1, none⟩ (.slice none 0 0)).setCell ⟨w.heap.size + 1, 2, none⟩ (.slice none 0 0)).setCell ⟨w.heap.size + 1, 3, none⟩ (.slice none 0 0))) := G0
                obtain ⟨QW, -⟩ := set4 (q6q) (.int .i64 0) (.slice none 0 0) (.slice none 0 0) (.slice none 0 0)
                generalize ((((Wq.setCell ⟨w.heap.size + 1, 0, none⟩ (.int .i64 0)).setCell ⟨w.heap.size + 1, 1, none⟩ (.slice none 0 0)).setCell ⟨w.heap.size + 1, 2, none⟩ (.slice none 0 0)).setCell ⟨w.heap.size + 1, 3, none⟩ (.slice none 0 0)) = WW at QW G ⊢
                obtain ⟨z0, z1, z2, z3, -⟩ := QW.cells
                exact bodyPost_ret (v := .tuple #[.agg #[.int .i64 0, .slice none 0 0, .slice none 0 0, .slice none 0 0], .int .i64 14]) (by simp [results, Try.results11, go_sem, z0, z1, z2, z3]) rfl (by rw [HP.out]; exact GiveNewE.mk G)
            · obtain rfl : j = l.length := by omega
              have hkinds : ∀ A ∈ l, A.kind = k0 := fun A hA => by
                obtain ⟨i', hi, rfl⟩ := List.getElem_of_mem hA
                exact hall i' hi hi
              have hHP := HPO.out HR.out hkinds
              have hok := okay_join HR.out hkinds
              have hk13 : 1 ≤ k0 ∧ k0 ≤ 3 := by
                have := hkinds _ (List.getElem_mem hl0)
                rw [this] at hk12
                exact hk12
              obtain ⟨PA, er, hPA⟩ : ∃ PA er, asmS k0 fr (commonS l) l = (PA, er) := ⟨_, _, rfl⟩
              have HPA : Hid (joinA fr l B = (PA, er)) := hHP.trans hPA
              have h8 : ∀ A ∈ l, A.shape.length ≤ 1000 := fun A hA => by
                have := (right_def.1 (right_short (HR.out A hA))).1
                omega
              have hcl : (commonS l).length ≤ 1000 := by rw [commonS_len]; exact maxRank_bd h8
              have C1 := commonQ (some ⟨b, off, none⟩) c l wr b off hlc hc (fun _ => rfl) (ArrsAt.below hbw h) h8
              have HC := fun W a' c' (hB' : Below w.heap.size w W) (g : IntsAt W a' c' (commonS l)) => asmX fa fc fr a' c' (commonS l) (some ⟨b, off, none⟩) c l k0 W b off (hf.below hB') g ⟨by omega, hcl⟩ hlc hc hne hl6 (fun _ => hpf) rfl (ArrsAt.below hB' h) hk13 hok hR
              rw [hPA] at HC
              have q6j := q60.below hb
              clear hkinds hok hHP hPA HPK HPO HR hall h8 hk12 hk13 hcl hpf q60
              generalize commonS l = cs at *
              go_wp2_with (first
                | (go_at_call 39; refine C1.mono ?_; rintro e w3 ⟨a', c', rfl, hI, hb3⟩; (have HA := HC w3 a' c' (Below.then hbw hb3) hI.1))
                | (go_at_call 38; refine HA.mono ?_; intro e w5 hN; (obtain ⟨kr, sar, lsr, scr, nar, lnr, ncr, iar, lir, icr, rfl, hO, hb5⟩ := GiveNewE.formOn hN); (obtain ⟨y0, y1, y2, y3, y4, y5, y6, y7⟩ := ((q6j.below hb3).below hb5).cells)))
              have q6x := q6j.below hb3
              have hlq := q6x.lt
              have G := give_set4 (w := w) (Nat.le_succ w.heap.size) (q6x.below hb5) (hO.mono fun g hg => by have hg' := hg; omega) (Below.then (Below.then hbw hb3) hb5)
              obtain ⟨QW, -⟩ := set4 (q6x.below hb5) (.int .i64 kr) (.slice sar lsr scr) (.slice nar lnr ncr) (.slice iar lir icr)
              generalize ((((w5.setCell ⟨w.heap.size + 1, 0, none⟩ (.int .i64 kr)).setCell ⟨w.heap.size + 1, 1, none⟩ (.slice sar lsr scr)).setCell ⟨w.heap.size + 1, 2, none⟩ (.slice nar lnr ncr)).setCell ⟨w.heap.size + 1, 3, none⟩ (.slice iar lir icr)) = WW at QW G ⊢
              obtain ⟨z0, z1, z2, z3, -⟩ := QW.cells
              exact bodyPost_ret (v := .tuple #[.agg #[.int .i64 kr, .slice sar lsr scr, .slice nar lnr ncr, .slice iar lir icr], .int .i64 er]) (by simp [results, Try.results11, go_sem, z0, z1, z2, z3]) rfl (by rw [HPA.out]; exact GiveNewE.mk G)
  · have HP : Hid (joinA fr l B = (zeroA, 1)) := by unfold Hid; rw [joinA, if_neg (by rw [hsz]; exact hs)]
    have e1 : (sz != (l.length : Int)) = true := by simpa using hs
    clear hs
    go_enter Try.func11, Try.ntmps11
    go_wp2_with (go_at_call 35; refine (S _ hf1).mono ?_; rintro e w1 ⟨rfl, rfl⟩)
    have G := give_set4 (w := w) (Nat.le_succ w.heap.size) (q6) (zero_on _ _) (bw)
    obtain ⟨QW, -⟩ := set4 (q6) (.int .i64 0) (.slice none 0 0) (.slice none 0 0) (.slice none 0 0)
    generalize ((((W0.setCell ⟨w.heap.size + 1, 0, none⟩ (.int .i64 0)).setCell ⟨w.heap.size + 1, 1, none⟩ (.slice none 0 0)).setCell ⟨w.heap.size + 1, 2, none⟩ (.slice none 0 0)).setCell ⟨w.heap.size + 1, 3, none⟩ (.slice none 0 0)) = WW at QW G ⊢
    obtain ⟨z0, z1, z2, z3, -⟩ := QW.cells
    exact bodyPost_ret (v := .tuple #[.agg #[.int .i64 0, .slice none 0 0, .slice none 0 0, .slice none 0 0], .int .i64 1]) (by simp [results, Try.results11, go_sem, z0, z1, z2, z3]) rfl (by rw [HP.out]; exact GiveNewE.mk G)
end Go.Proofs.Ytppdibblkaepjaa.Shape

namespace Go.Proofs.Ytppdibblkaepjaa.Shape
open Go.RowKit
set_option linter.unusedVariables false

theorem joinA_cells {A B : Arr} {k : Int} (hx : rightE A = 0) (hnz : prN (A.shape.take (frN A k)) ≠ 0) : joinA (frameS A k) (cellsS A k) B = (A, 0) := by
  have hr := right_short hx
  have hNN := (right_def.1 hr).2.1
  rw [frameS, if_pos hx, cellsS, if_pos hx]
  generalize frN A k = r at *
  have hrt : rightB (A.shape.take r) = true := right_take hr
  have hT : NN (A.shape.take r) := fun y hy => hNN y (List.mem_of_mem_take hy)
  have hD : NN (A.shape.drop r) := fun y hy => hNN y (List.mem_of_mem_drop hy)
  obtain ⟨n, hn⟩ : ∃ n, prN (A.shape.take r) = n := ⟨_, rfl⟩
  have hpr : pr (A.shape.take r) = (n : Int) := by
    have := pr_nn hT
    rw [← hn]; unfold prN; omega
  have hac := asm_cells hx r
  rw [hn] at hnz hac ⊢
  have hlen : ((List.range n).map (cellA A r)).length = n := by simp
  have hmem : ∀ C ∈ (List.range n).map (cellA A r), rightE C = 0 ∧ C.kind = A.kind ∧ C.shape = A.shape.drop r := fun C hC => by
    obtain ⟨i, hi, rfl⟩ := List.mem_map.1 hC
    exact ⟨right_cell hx r i (by rw [hn]; exact List.mem_range.1 hi), rfl, rfl⟩
  have hne : (List.range n).map (cellA A r) ≠ [] := fun e => hnz (by rw [← hlen, e]; rfl)
  have hcom := commonS_same hne hD (fun C hC => (hmem C hC).2.2)
  have hhd : (((List.range n).map (cellA A r)).headD zeroA).kind = A.kind := by
    generalize (List.range n).map (cellA A r) = l at *
    cases l with
    | nil => exact absurd rfl hne
    | cons C s => exact (hmem C (by simp)).2.1
  generalize (List.range n).map (cellA A r) = l at *
  rw [joinA, if_pos (by rw [sizeS, if_pos hrt, hpr, hlen]), if_neg (by rw [hlen]; exact hnz), if_pos (List.all_eq_true.2 fun C hC => by simpa using (hmem C hC).1), if_pos (List.all_eq_true.2 fun C hC => by rw [hhd]; simpa using (hmem C hC).2.1), hhd, hcom, asmS, List.take_append_drop, if_pos hr]
  rw [List.take_append_drop] at hac
  rw [hac, outA_ok (right_wt hx)]
end Go.Proofs.Ytppdibblkaepjaa.Shape

namespace Go.Proofs.Ytppdibblkaepjaa.Shape
open Go.RowKit
set_option linter.unusedVariables false

theorem ArrsAt.dropC {w : World} : ∀ {l : List Arr} {b off : Nat} (k : Nat), ArrsAt w b off l → ArrsAt w b (off + k * 4) (l.drop k)
  | l, b, off, 0, h => by simpa using h
  | [], b, off, k + 1, h => by rw [List.drop_nil, ArrsAt]; trivial
  | A :: r, b, off, k + 1, h => by
    rw [ArrsAt] at h
    have := ArrsAt.dropC k h.2
    rw [show off + 4 + k * 4 = off + (k + 1) * 4 by omega] at this
    exact this
theorem ArrsAt.takeC {w : World} : ∀ {l : List Arr} {b off : Nat} (k : Nat), ArrsAt w b off l → ArrsAt w b off (l.take k)
  | l, b, off, 0, h => by rw [List.take_zero, ArrsAt]; trivial
  | [], b, off, k + 1, h => by rw [List.take_nil, ArrsAt]; trivial
  | A :: r, b, off, k + 1, h => by
    rw [ArrsAt] at h
    rw [List.take_succ_cons, ArrsAt]
    exact ⟨h.1, ArrsAt.takeC k h.2⟩
theorem partI_of {w : World} {na : Option Addr} {nc i s cnt : Nat} {nums : List Int} (h : IntsAt w na nc nums) (hl : nums = [] ∨ nums.length = cnt * s) (hi : i < cnt) (hc : cnt ≤ 65536) :
    ∃ a' c', (∀ W, Calls Try.prog 54 #[.slice na nums.length nc, .int .i64 (i : Int), .int .i64 (s : Int)] W fun e w' => e = .returned (.slice a' (blk nums i s).length c') ∧ W = w') ∧ IntsAt w a' c' (blk nums i s) := by
  by_cases h0 : nums = []
  · subst h0
    have e : blk ([] : List Int) i s = [] := by simp [blk]
    rw [e]
    exact ⟨none, 0, fun W => blockI_nil na nc i s W, ints_nil w⟩
  · have hn := hl.resolve_left h0
    have hb : (i + 1) * s ≤ nums.length := by rw [hn]; exact Nat.mul_le_mul_right _ hi
    have hbl := blk_len hb
    refine ⟨blkA na i s 1, s, fun W => ?_, h.blk hb⟩
    rw [hbl]
    exact blockI na nums.length nc i s W (fun e => h0 (List.eq_nil_of_length_eq_zero e)) h.1 h.2.1 hb (by omega)
theorem partA_of {w : World} {ia : Option Addr} {ic i s cnt b off : Nat} {l : List Arr} (hlc : l.length ≤ ic) (hic : ic ≤ 9223372036854775807) (ha : l ≠ [] → ia = some ⟨b, off, none⟩) (h : ArrsAt w b off l) (hl : l = [] ∨ l.length = cnt * s) (hi : i < cnt) (hc : cnt ≤ 65536) :
    ∃ a' c' off', (∀ W, Calls Try.prog 55 #[.slice ia l.length ic, .int .i64 (i : Int), .int .i64 (s : Int)] W fun e w' => e = .returned (.slice a' (blk l i s).length c') ∧ W = w') ∧
      (blk l i s).length ≤ c' ∧ c' ≤ 9223372036854775807 ∧ (blk l i s ≠ [] → a' = some ⟨b, off', none⟩) ∧ ArrsAt w b off' (blk l i s) := by
  by_cases h0 : l = []
  · subst h0
    have e : blk ([] : List Arr) i s = [] := by simp [blk]
    rw [e]
    exact ⟨none, 0, 0, fun W => blockA_nil ia ic i s W, Nat.le_refl _, by decide, fun g => absurd rfl g, by rw [ArrsAt]; trivial⟩
  · have hn := hl.resolve_left h0
    have hb : (i + 1) * s ≤ l.length := by rw [hn]; exact Nat.mul_le_mul_right _ hi
    have hbl := blk_len hb
    have hsl : s ≤ l.length := Nat.le_trans (by rw [Nat.succ_mul]; omega) hb
    refine ⟨blkA ia i s 4, s, off + i * s * 4, fun W => ?_, by omega, by omega, fun hne => ?_, (h.dropC (i * s)).takeC s⟩
    · rw [hbl]
      exact blockA ia l.length ic i s W (fun e => h0 (List.eq_nil_of_length_eq_zero e)) hlc hic hb (by omega)
    · rw [ha h0, blkA_some (fun e => hne (by subst e; exact List.eq_nil_of_length_eq_zero hbl))]
theorem reach_blk {l : List Arr} {i s : Nat} (h : ReachL l) : ReachL (blk l i s) := reachL_mem fun A hA => reach_mem h A (blk_mem hA)
theorem cellEndS {wr W : World} {X : Nat} {z0 z1 z2 z3 c0 c1 c2 c3 : Value} (q : Quad W X z0 z1 z2 z3) (hb : Below wr.heap.size wr W) (hX : wr.heap.size ≤ X) :
    ∃ X' : Nat, Value.pointer (some ⟨X, 0, none⟩) = .pointer (some ⟨X', 0, none⟩) ∧ Quad ((((W.setCell ⟨X, 0, none⟩ c0).setCell ⟨X, 1, none⟩ c1).setCell ⟨X, 2, none⟩ c2).setCell ⟨X, 3, none⟩ c3) X' c0 c1 c2 c3 ∧ Below wr.heap.size wr ((((W.setCell ⟨X, 0, none⟩ c0).setCell ⟨X, 1, none⟩ c1).setCell ⟨X, 2, none⟩ c2).setCell ⟨X, 3, none⟩ c3) :=
  ⟨X, rfl, (set4 q c0 c1 c2 c3).1, hb.trans (set4_below hX _ _ _ _)⟩
set_option maxRecDepth 100000 in
set_option maxHeartbeats 4000000 in
theorem cellsQ (v : Value) (A : Arr) (k : Int) (w : World) (h : ArrAt w v A) (hr : Reach A) (hk : -9223372036854775808 ≤ k ∧ k ≤ 9223372036854775807) :
    Calls Try.prog 34 #[v, .int .i64 k] w fun e w' => ∃ a' c' b', e = .returned (.slice a' (cellsS A k).length c') ∧ (cellsS A k).length ≤ c' ∧ c' ≤ 9223372036854775807 ∧ (cellsS A k ≠ [] → a' = some ⟨b', 0, none⟩) ∧ ArrsAt w' b' 0 (cellsS A k) ∧ Below w.heap.size w w' := by
  have h0 := h
  have hr0 := hr
  obtain ⟨kk, sh, nu, it⟩ := A
  rw [ArrAt] at h
  obtain ⟨sa, sc, na, nc, ia, ic, rfl, hkd, hs, hn, h1, h2, b, off, ha, hc⟩ := h
  rw [Reach] at hr
  obtain ⟨r1, r2, r3, r4⟩ := hr
  have bw := below_new w (.cells #[.int .i64 kk, .slice sa sh.length sc, .slice na nu.length nc, .slice ia it.length ic] 26)
  have q0 := Quad.new w (.int .i64 kk) (.slice sa sh.length sc) (.slice na nu.length nc) (.slice ia it.length ic)
  have hA := h0.below bw
  obtain ⟨x, hx⟩ : ∃ x, rightE (.mk kk sh nu it) = x := ⟨_, rfl⟩
  have R := fun v' w' (g : ArrAt w' v' (.mk kk sh nu it)) => rightQ v' (.mk kk sh nu it) w' g
  rw [hx] at R
  have R2 := fun v' w' (g : ArrAt w' v' (.mk kk sh nu it)) => frameRankQ v' (.mk kk sh nu it) k w' g hk
  by_cases hx0 : x = 0
  · subst hx0
    have hrs : rightB sh = true := right_short hx
    obtain ⟨L1, L2, -, -, -, -⟩ := right_lens hx
    have hF := frN_le (.mk kk sh nu it) k
    have hE : cellsS (.mk kk sh nu it) k = (List.range (prN (sh.take (frN (.mk kk sh nu it) k)))).map (cellA (.mk kk sh nu it) (frN (.mk kk sh nu it) k)) := by rw [cellsS, if_pos hx]; rfl
    rw [hE]
    clear hE
    generalize frN (.mk kk sh nu it) k = r at *
    have hF' : r ≤ sh.length := hF
    obtain ⟨cnt, hcnt⟩ : ∃ c, prN (sh.take r) = c := ⟨_, rfl⟩
    obtain ⟨s, hs'⟩ : ∃ s, prN (sh.drop r) = s := ⟨_, rfl⟩
    have hsp : prN sh = cnt * s := by
      have := prN_append (a := sh.take r) (b := sh.drop r) (right_def.1 (right_take hrs)).2.1 (right_def.1 (right_drop hrs)).2.1
      rw [List.take_append_drop] at this
      rw [this, hcnt, hs']
    have hb1 := part_bd (a := sh.take r) (b := sh.drop r) (by rw [List.take_append_drop]; exact hrs)
    have hp1 : pr (sh.take r) = (cnt : Int) := by rw [← hcnt]; unfold prN; omega
    have hp2 : pr (sh.drop r) = (s : Int) := by rw [← hs']; unfold prN; omega
    have hc6 : cnt ≤ 65536 := by omega
    have hs6 : s ≤ 65536 := by omega
    have HR := fun W (g : IntsAt W sa sc sh) => rowP sa sc sh (r : Int) W g
    rw [rowS_yes hrs hF'] at HR
    simp only [hp1, hp2] at HR
    rw [hcnt]
    obtain ⟨i2, s2⟩ := hs.from r hF'
    have L1' : nu = [] ∨ nu.length = cnt * s := by rw [← hsp]; exact L1
    have L2' : it = [] ∨ it.length = cnt * s := by rw [← hsp]; exact L2
    have hcell : ∀ i, cellA (.mk kk sh nu it) r i = .mk kk (sh.drop r) (blk nu i s) (blk it i s) := fun i => by rw [← hs']; rfl
    have hreach : ∀ i, Reach (cellA (.mk kk sh nu it) r i) := fun i => by
      rw [hcell, Reach]
      refine ⟨by rw [List.length_drop]; omega, ?_, ?_, reach_blk r4⟩
      · have : (blk nu i s).length ≤ nu.length := by simp only [blk, List.length_take, List.length_drop]; omega
        omega
      · have : (blk it i s).length ≤ it.length := by simp only [blk, List.length_take, List.length_drop]; omega
        omega
    clear L1 L2 hx hF hb1 hp1 hp2 hcnt hs' hsp hr0 h0
    obtain ⟨i0, hi0, hz0, hz1, hz2⟩ := info_parts infoArr
    go_enter Try.func34, Try.ntmps34
    go_wp2_with (first
      | (go_at_call 37; refine (R _ _ hA).mono ?_; rintro e w1 ⟨rfl, hb1⟩; (obtain ⟨x0, x1, x2, x3, -⟩ := (q0.below hb1).cells))
      | (go_at_call 52; refine (R2 _ _ (hA.below hb1)).mono ?_; rintro e w2 ⟨rfl, hb2⟩; (obtain ⟨y0, y1, y2, y3, -⟩ := ((q0.below hb1).below hb2).cells))
      | (go_at_call 53; refine (HR _ (((hs.below bw).below hb1).below hb2)).mono ?_; rintro e w3 ⟨rfl, nd, rfl⟩; (have hm := run_makeArrs0 (w2.drewN nd) cnt (by omega))))
    have hb3 := (Below.then (Below.then bw hb1) hb2).trans ((below_drewN (w := w2) nd).mono (Below.then (Below.then bw hb1) hb2).size)
    have hrow := row_made w (w2.drewN nd) cnt hc6 (show w.heap.size < w2.heap.size from ((q0.below hb1).below hb2).lt) hb3
    have q3 : Quad (w2.drewN nd) w.heap.size (.int .i64 kk) (.slice sa sh.length sc) (.slice na nu.length nc) (.slice ia it.length ic) := show Quad w2 _ _ _ _ _ from (q0.below hb1).below hb2
    have q4 := q3.below (below_new (w2.drewN nd) (.cells (madeCells #[.int .i64 0, .slice none 0 0, .slice none 0 0, .slice none 0 0] (cnt * 4)) 26))
    generalize (w2.drewN nd).alloc (.cells (madeCells #[.int .i64 0, .slice none 0 0, .slice none 0 0, .slice none 0 0] (cnt * 4)) 26) = W4 at *
    have eG : (w2.drewN nd).heap.size = w2.heap.size := rfl
    rw [eG] at hrow
    clear eG
    clear x0 x1 x2 x3 y0 y1 y2 y3 hm q3 hb1 hb2 R R2 HR hA
    have hq4 : Hid (Quad W4 w.heap.size (.int .i64 kk) (.slice sa sh.length sc) (.slice na nu.length nc) (.slice ia it.length ic)) := q4
    clear q4 q0
    go_loopw [8, 27] (fun v i wr => ∃ j : Nat, j ≤ cnt ∧ i = .int .i64 j ∧ RowI w wr v ((List.range j).map (cellA (.mk kk sh nu it) r)) ∧ Quad wr w.heap.size (.int .i64 kk) (.slice sa sh.length sc) (.slice na nu.length nc) (.slice ia it.length ic)) (fun _ i _ => cnt - (intOf i).toNat)
    case atStart => exact ⟨0, Nat.zero_le _, rfl, hrow, hq4.out⟩
    case round =>
      clear hrow hq4
      obtain ⟨j, hj, rfl, hI, hqw⟩ := hrel
      obtain ⟨p0, p1, p2, p3, -⟩ := hqw.cells
      by_cases hlt : j < cnt
      · obtain ⟨aN, cN, hBN, iN⟩ := partI_of hn L1' hlt hc6
        obtain ⟨aI, cI, oI, hBA, l1', l2', l3', l4'⟩ := partA_of h1 h2 ha hc L2' hlt hc6
        have hCell : ArrAt w (.agg #[.int .i64 kk, .slice (fromAt sa sc r) (sh.drop r).length (sc - r), .slice aN (blk nu j s).length cN, .slice aI (blk it j s).length cI]) (cellA (.mk kk sh nu it) r j) := by
          rw [hcell, ArrAt]
          exact ⟨_, _, _, _, _, _, rfl, hkd, i2, iN, l1', l2', b, oI, l3', l4'⟩
        have hRj := hreach j
        have hLen : ((List.range j).map (cellA (.mk kk sh nu it) r)).length = j := by simp
        have hSn : Hid ((List.range (j + 1)).map (cellA (.mk kk sh nu it) r) = (List.range j).map (cellA (.mk kk sh nu it) r) ++ [cellA (.mk kk sh nu it) r j]) := by unfold Hid; rw [List.range_succ, List.map_append]; rfl
        generalize (List.range j).map (cellA (.mk kk sh nu it) r) = LJ at *
        generalize cellA (.mk kk sh nu it) r j = CJ at *
        obtain ⟨l1, hl1⟩ : ∃ n, (sh.drop r).length = n := ⟨_, rfl⟩
        obtain ⟨l2n, hl2n⟩ : ∃ n, (blk nu j s).length = n := ⟨_, rfl⟩
        obtain ⟨l3, hl3⟩ : ∃ n, (blk it j s).length = n := ⟨_, rfl⟩
        rw [hl1] at hCell s2
        rw [hl2n] at hCell hBN
        rw [hl3] at hCell hBA
        clear hl1 hl2n hl3 l1' l2' l3' l4' iN i2 hcell
        have H0 : ∀ w', Below wr.heap.size wr w' → (w'.cell? ⟨w.heap.size, 0, none⟩ = some (.int .i64 kk) ∧ w'.cell? ⟨w.heap.size, 1, none⟩ = some (.slice sa sh.length sc) ∧ w'.cell? ⟨w.heap.size, 2, none⟩ = some (.slice na nu.length nc) ∧ w'.cell? ⟨w.heap.size, 3, none⟩ = some (.slice ia it.length ic)) ∧ Below wr.heap.size wr w' := by
          intro w' hb
          obtain ⟨a0, a1, a2, a3, -⟩ := (hqw.below hb).cells
          exact ⟨⟨a0, a1, a2, a3⟩, hb⟩
        obtain ⟨⟨qs, ho, hq⟩, hbel⟩ := hI
        rw [hLen] at ho
        go_wp2_with fail
        go_cut [10] (fun v10 wx => ∃ X : Nat, v10 = .pointer (some ⟨X, 0, none⟩) ∧ Quad wx X (.int .i64 kk) (.slice (fromAt sa sc r) l1 (sc - r)) (.slice aN l2n cN) (.slice aI l3 cI) ∧ Below wr.heap.size wr wx)
        case first =>
          go_region_held_law (fun w' => (w'.cell? ⟨w.heap.size, 0, none⟩ = some (.int .i64 kk) ∧ w'.cell? ⟨w.heap.size, 1, none⟩ = some (.slice sa sh.length sc) ∧ w'.cell? ⟨w.heap.size, 2, none⟩ = some (.slice na nu.length nc) ∧ w'.cell? ⟨w.heap.size, 3, none⟩ = some (.slice ia it.length ic)) ∧ Below wr.heap.size wr w')
            (first
              | exact H0 _ (by go_grown)
              | exact H0 _ (Below.setCell (Below.setCell (Below.setCell (Below.setCell (by go_grown) (by first | exact Nat.le_refl _ | assumption | omega) _) (by first | exact Nat.le_refl _ | assumption | omega) _) (by first | exact Nat.le_refl _ | assumption | omega) _) (by first | exact Nat.le_refl _ | assumption | omega) _))
            (((first
            | (go_simp; (first | (with_reducible refine (hBN _).mono ?_) | (with_reducible refine (hBA _).mono ?_)); rintro e w1 ⟨rfl, rfl⟩))))
          all_goals go_wp2_with fail
          all_goals go_meet
          all_goals first
            | exact ⟨_, rfl, Quad.new _ _ _ _ _, by go_grown⟩
            | exact cellEndS (Quad.new wr _ _ _ _) (by go_grown) (Nat.le_refl _)
        case rest =>
          obtain ⟨X, rfl, qX, hbx⟩ := hcut
          have hqx := hqw.below hbx
          have hBx := Below.then hbel hbx
          have K := cloneN _ _ wc (hCell.below hBx) hRj
          have ho' := own_belowC ho hbx
          obtain ⟨g0, g1, g2, g3, -⟩ := qX.cells
          have hlt0 := hqx.lt
          go_wp2_with (first
            | (go_at_call 56; refine K.mono ?_; rintro e w1 ⟨e0, e1, e2, e3, rfl, oc, hN, b1⟩)
            | (at_builtin; (refine wpList_append_lies _ rfl _ _ 23 rfl (w.heap.size + 1) 26 i0 _ 4 80 Try.underlying23 hi0 hz0 hz1 hz2 rfl (by decide) _ j qs rfl (own_alloc ho' b1 _) ⟨w1.heap.size, 0, none⟩ 1 1 [e0, e1, e2, e3] rfl rfl (World.news_of_block (cs := #[e0, e1, e2, e3]) (t := 26) (fr := (0, 0)) (heap_alloc_new w1 _)) oc (by decide) (by unfold maxLen; omega) (by omega) (by have := b1.size; simp; omega) (w1.heap.size + 1) (by simp) ?_; intro gg cap w2' hown hgrow hat hl2)))
          go_roundw
          case rel => exact ⟨j + 1, by omega, by go_num, by rw [hSn.out]; exact row_step1 (by rw [hLen]) hBx (by rw [hLen]; exact ho') (hq.keep fun g hg hl => ⟨hg, fun o => hbx.cell hl⟩) b1 hN hown hgrow hat, hqx.keep (row_old ho' b1 hgrow (Nat.le_refl _) hlt0)⟩
          case measure => simp [intOf]; omega
      · obtain rfl : j = cnt := by omega
        obtain ⟨ra, rc, rb, rfl, m1, m2, m3, m4⟩ := row_end hI
        have hLen : ((List.range j).map (cellA (.mk kk sh nu it) r)).length = j := by simp
        rw [hLen] at m1 ⊢
        have hbel := hI.bel
        clear hcell hreach
        go_wp2_with fail
        go_ret
        exact ⟨ra, rc, rb, by rw [hLen]; rfl, by rw [hLen]; exact m1, m2, m3, m4, hbel⟩
  · have e : cellsS (.mk kk sh nu it) k = [] := by rw [cellsS, if_neg (by rw [hx]; exact hx0)]
    rw [e]
    have e2 : (x != 0) = true := by simpa using hx0
    clear hx hx0 e
    go_enter Try.func34, Try.ntmps34
    go_wp2_with (go_at_call 37; refine (R _ _ hA).mono ?_; rintro e w1 ⟨rfl, hb1⟩)
    go_ret
    exact ⟨none, 0, 0, rfl, Nat.le_refl _, by decide, fun g => absurd rfl g, by rw [ArrsAt]; trivial, Below.then bw hb1⟩
end Go.Proofs.Ytppdibblkaepjaa.Shape

namespace Go.Proofs.Ytppdibblkaepjaa.Shape
open Go.RowKit
set_option linter.unusedVariables false

set_option maxRecDepth 100000 in
set_option maxHeartbeats 4000000 in
theorem putB_nil (k : Int) (sa : Option Addr) (ls sc : Nat) (na : Option Addr) (ln nc : Nat) (va : Option Addr) (vl vc : Nat) (v2 : Value) (A : Arr) (fa ta : Option Addr) (fl fc tc at' B n : Nat) (qs : List Value) (l : List Arr) (Pq : Nat → Prop) (w : World) (hk : A.kind = 3) (HA0 : ArrAt w v2 A) (hR : Reach A)
    (hB : B ≤ w.heap.size) (hn : n ≤ 10000000) (hat : at' < A.items.length) (hil : A.items.length ≤ 10000000) (own : w.ownsRow B 26 4 (.slice va vl vc) n qs) (hPq : ∀ g, w.heap.size ≤ g → Pq g) (hq : Quads (fun g => (Value.slice va vl vc).ownBlock ≠ some g ∧ Pq g) w qs l) :
    Calls Try.prog 44 #[.agg #[.int .i64 k, .slice sa ls sc, .slice na ln nc, .slice va vl vc], v2, .slice fa fl fc, .slice ta 0 tc, .int .i64 at'] w (GivePutB k sa ls sc na ln nc w B (.slice va vl vc) Pq (n + 1) (l ++ [A.items[at']])) := by
  obtain ⟨k2, s2, l2, c2, n2, m2, d2, ia2, li2, ic2, rfl, hkk⟩ : ∃ k2 s2 l2 c2 n2 m2 d2 ia2 li2 ic2, v2 = .agg #[.int .i64 k2, .slice s2 l2 c2, .slice n2 m2 d2, .slice ia2 li2 ic2] ∧ k2 = A.kind := by
    have h := HA0
    obtain ⟨kk, sh, nu, it⟩ := A
    rw [ArrAt] at h
    obtain ⟨sa, sc, na, nc, ia, ic, hv, -⟩ := h
    exact ⟨_, _, _, _, _, _, _, _, _, _, hv, rfl⟩
  have k3 : (k2 == 3) = true := by rw [hkk, hk]; rfl
  have bw := below_3 w (.cells #[.int .i64 k, .slice sa ls sc, .slice na ln nc, .slice va vl vc] 26) (.cells #[.int .i64 k2, .slice s2 l2 c2, .slice n2 m2 d2, .slice ia2 li2 ic2] 26) (.cells #[.int .i64 0, .slice none 0 0, .slice none 0 0, .slice none 0 0] 26)
  have q0 : Quad (((w.alloc (.cells #[.int .i64 k, .slice sa ls sc, .slice na ln nc, .slice va vl vc] 26)).alloc (.cells #[.int .i64 k2, .slice s2 l2 c2, .slice n2 m2 d2, .slice ia2 li2 ic2] 26)).alloc (.cells #[.int .i64 0, .slice none 0 0, .slice none 0 0, .slice none 0 0] 26)) w.heap.size (.int .i64 k) (.slice sa ls sc) (.slice na ln nc) (.slice va vl vc) := ((Quad.new w (.int .i64 k) (.slice sa ls sc) (.slice na ln nc) (.slice va vl vc)).below (below_new _ (.cells #[.int .i64 k2, .slice s2 l2 c2, .slice n2 m2 d2, .slice ia2 li2 ic2] 26))).below (below_new _ (.cells #[.int .i64 0, .slice none 0 0, .slice none 0 0, .slice none 0 0] 26))
  have q1 : Quad (((w.alloc (.cells #[.int .i64 k, .slice sa ls sc, .slice na ln nc, .slice va vl vc] 26)).alloc (.cells #[.int .i64 k2, .slice s2 l2 c2, .slice n2 m2 d2, .slice ia2 li2 ic2] 26)).alloc (.cells #[.int .i64 0, .slice none 0 0, .slice none 0 0, .slice none 0 0] 26)) (w.heap.size + 1) (.int .i64 k2) (.slice s2 l2 c2) (.slice n2 m2 d2) (.slice ia2 li2 ic2) := by
    simpa using (Quad.new (w.alloc (.cells #[.int .i64 k, .slice sa ls sc, .slice na ln nc, .slice va vl vc] 26)) (.int .i64 k2) (.slice s2 l2 c2) (.slice n2 m2 d2) (.slice ia2 li2 ic2)).below (below_new _ (.cells #[.int .i64 0, .slice none 0 0, .slice none 0 0, .slice none 0 0] 26))
  have qz : Quad (((w.alloc (.cells #[.int .i64 k, .slice sa ls sc, .slice na ln nc, .slice va vl vc] 26)).alloc (.cells #[.int .i64 k2, .slice s2 l2 c2, .slice n2 m2 d2, .slice ia2 li2 ic2] 26)).alloc (.cells #[.int .i64 0, .slice none 0 0, .slice none 0 0, .slice none 0 0] 26)) (w.heap.size + 2) (.int .i64 0) (.slice none 0 0) (.slice none 0 0) (.slice none 0 0) := by
    simpa using Quad.new ((w.alloc (.cells #[.int .i64 k, .slice sa ls sc, .slice na ln nc, .slice va vl vc] 26)).alloc (.cells #[.int .i64 k2, .slice s2 l2 c2, .slice n2 m2 d2, .slice ia2 li2 ic2] 26)) (.int .i64 0) (.slice none 0 0) (.slice none 0 0) (.slice none 0 0)
  have hA3 := HA0.below bw
  have hRi := reach_item hR hat
  have hIX := fun w (h : ArrAt w (.agg #[.int .i64 k2, .slice s2 l2 c2, .slice n2 m2 d2, .slice ia2 li2 ic2]) A) => items_ix h hat
  obtain ⟨IT, hIT⟩ : ∃ IT, A.items[at'] = IT := ⟨_, rfl⟩
  rw [hIT] at hRi ⊢
  simp only [hIT] at hIX
  clear hIT
  have hv := own.lt
  have P0 : PutS w.heap.size w _ B 26 4 (.slice va vl vc) (.slice va vl vc) n qs := (PutS.refl own).below bw hB
  have hq3 : Quads (fun g => (Value.slice va vl vc).ownBlock ≠ some g ∧ (Pq g ∧ g ≠ w.heap.size + 2) ∧ g ≠ w.heap.size) (((w.alloc (.cells #[.int .i64 k, .slice sa ls sc, .slice na ln nc, .slice va vl vc] 26)).alloc (.cells #[.int .i64 k2, .slice s2 l2 c2, .slice n2 m2 d2, .slice ia2 li2 ic2] 26)).alloc (.cells #[.int .i64 0, .slice none 0 0, .slice none 0 0, .slice none 0 0] 26)) qs l := hq.keep fun g hg hl => ⟨⟨hg.1, ⟨hg.2, by omega⟩, by omega⟩, fun o => bw.cell hl⟩
  have HF := fun v' w' (g : ArrAt w' v' A) => fillR_new v' A w' g
  have HFN : ∀ {w w' : World} {e : Ending}, GiveNew (fillA A.kind) w e w' → ∃ kf sf lf cf na ln nc ia ic, e = .returned (.agg #[.int .i64 kf, .slice sf lf cf, .slice na ln nc, .slice ia 1 ic]) ∧ ArrOn (fun g => w.heap.size ≤ g) w' (.agg #[.int .i64 kf, .slice sf lf cf, .slice na ln nc, .slice ia 1 ic]) (.mk 3 [] [] [fillI]) ∧ Below w.heap.size w w' := fun h => fill_box hk h
  obtain ⟨i0, hi0, hz0, hz1, hz2⟩ := info_parts infoArr
  have hs3 : Hid ((((w.alloc (.cells #[.int .i64 k, .slice sa ls sc, .slice na ln nc, .slice va vl vc] 26)).alloc (.cells #[.int .i64 k2, .slice s2 l2 c2, .slice n2 m2 d2, .slice ia2 li2 ic2] 26)).alloc (.cells #[.int .i64 0, .slice none 0 0, .slice none 0 0, .slice none 0 0] 26)).heap.size = w.heap.size + 3) := by unfold Hid; simp
  clear hkk hk HA0 hq
  go_enter Try.func44, Try.ntmps44
  go_wp2_with (go_at_call 66; refine (HF _ _ hA3).mono ?_; intro e w1 hN; (obtain ⟨kf, sf, lf, cf, fna, fln, fnc, fia, fic, rfl, hO, b1⟩ := HFN hN); (obtain ⟨p0, p1, p2, p3, -⟩ := ((q1.below b1).below (below_new w1 (.cells #[.int .i64 kf, .slice sf lf cf, .slice fna fln fnc, .slice fia 1 fic] 26))).cells))
  have bn := below_new w1 (.cells #[.int .i64 kf, .slice sf lf cf, .slice fna fln fnc, .slice fia 1 fic] 26)
  have Q0 := (q0.below b1).below bn
  have QZ := (qz.below b1).below bn
  have hAW := (hA3.below b1).below bn
  have HS := hs3.out
  have P1 := (P0.below b1 hB).below bn hB
  have hqW := (hq3.keep (w' := w1) (R := fun g => (Value.slice va vl vc).ownBlock ≠ some g ∧ (Pq g ∧ g ≠ w.heap.size + 2) ∧ g ≠ w.heap.size) fun g hg hl => ⟨hg, fun o => b1.cell hl⟩).keep (w' := (w1.alloc (.cells #[.int .i64 kf, .slice sf lf cf, .slice fna fln fnc, .slice fia 1 fic] 26))) (R := fun g => (Value.slice va vl vc).ownBlock ≠ some g ∧ (Pq g ∧ g ≠ w.heap.size + 2) ∧ g ≠ w.heap.size) fun g hg hl => ⟨hg, fun o => bn.cell hl⟩
  have S1 := b1.size
  have S2 : w.heap.size + 3 ≤ (w1.alloc (.cells #[.int .i64 kf, .slice sf lf cf, .slice fna fln fnc, .slice fia 1 fic] 26)).heap.size := by have := bn.size; omega
  clear q0 q1 qz P0 bn hO hA3 HF HFN bw hs3 HS S1 b1 hq3 hN
  generalize (w1.alloc (.cells #[.int .i64 kf, .slice sf lf cf, .slice fna fln fnc, .slice fia 1 fic] 26)) = W at *
  generalize w1.heap.size = RF at *
  obtain ⟨ib, io, y0, y1, y2, y3, hix, ⟨h0, h1, h2, h3⟩, hI⟩ := hIX _ hAW
  obtain ⟨r0, r1, r2, r3, r4, r5, r6, r7⟩ := Q0.cells
  have hv0 : (Value.slice va vl vc).ownBlock ≠ some w.heap.size := fun e => by have := (hv _ e).2; omega
  have hvz : (Value.slice va vl vc).ownBlock ≠ some (w.heap.size + 2) := fun e => by have := (hv _ e).2; omega
  have K := cloneR _ _ W.drew (hI.below (Below.refl _ _).drew) hRi
  have hPq2 : ∀ g, W.heap.size ≤ g → Pq g ∧ g ≠ w.heap.size + 2 := fun g hg => ⟨hPq g (by omega), by omega⟩
  have HX := fun (w2 : World) (A1 : Arr) (e0 e1 e2 e3 : Value) (b1 : Below W.heap.size W w2) (hN : ArrOn (fun g => W.heap.size ≤ g) w2 (.agg #[e0, e1, e2, e3]) A1) => appB P1 Q0 hv0 hB (Or.inl rfl) hB b1 hqW hPq2 hN
  have HZ : ∀ (w2 : World) (o : Obj) (g : Nat) (w5 : World), Below W.heap.size W w2 → (w2.alloc o).grownBy w5 (Value.slice va vl vc).ownBlock → ((Value.slice va vl vc).ownBlock = some g ∨ g = w2.heap.size + 1) → Quad w5 (w.heap.size + 2) (.int .i64 0) (.slice none 0 0) (.slice none 0 0) (.slice none 0 0) ∧ g ≠ w.heap.size + 2 := by
    intro w2 o g w5 b2 h2 h3
    have h3' : (Value.slice va vl vc).ownBlock = some g ∨ W.heap.size ≤ g := h3.imp id fun h => by have := b2.size; omega
    obtain ⟨y1, y2⟩ := grow_other (Below.then b2 (below_new w2 o)) h2 (b := w.heap.size + 2) (by omega) hvz h3'
    exact ⟨QZ.keep y1, y2⟩
  have ho := P1.own
  have hbase : B ≤ W.heap.size := by omega
  have HR0 := Q0
  clear P1 Q0 QZ own hv hv0 hvz hqW hI hAW
  go_region_law ((first
    | (refine step_append_lies _ (by rfl) _ _ _ (by rfl) B 26 i0 _ 4 80 Try.underlying23 hi0 hz0 hz1 hz2 rfl (by omega) (.slice va vl vc) n qs (by rfl) (own_alloc ho b2 _) ⟨w2.heap.size, 0, none⟩ 1 1 [e0, e1, e2, e3] (by rfl) (by rfl) (World.news_of_block (cs := #[e0, e1, e2, e3]) (t := 26) (fr := (0, 0)) (heap_alloc_new w2 _)) oc (by omega) (by unfold maxLen; omega) (by omega) (by have := b2.size; rw [alloc_sizeP]; omega) (w2.heap.size + 1) (by rw [alloc_sizeP]) ?_; intro gg cap w5 hown hgrow hat' hl5; (obtain ⟨P5, Q5, Q6, ne0, hq5⟩ := HX w2 _ e0 e1 e2 e3 b2 hN2 gg cap w5 hown hgrow hat'); (obtain ⟨Z5, nez⟩ := HZ w2 _ gg w5 b2 hgrow hat'); (obtain ⟨t0, t1, t2, t3, t4, t5, t6, t7⟩ := Q5.cells))
    | (go_simp; refine K.mono ?_; rintro e w2 ⟨e0, e1, e2, e3, rfl, oc, hN2, b1⟩; (have b2 : Below W.heap.size W w2 := Below.trans (Below.refl _ _).drew b1); (obtain ⟨u0, u1, u2, u3, u4, u5, u6, u7⟩ := (HR0.below b2).cells); (have u9 : (w2.alloc (.cells #[e0, e1, e2, e3] 26)).cell? ⟨w.heap.size, 3, none⟩ = some (.slice va vl vc) := by rw [World.cell?_alloc_past _ _ _ (cell_lt u3)]; exact u3))))
  all_goals
    have Z6 := Z5.keep (set_other w5 w.heap.size 3 (w.heap.size + 2) (.slice (some ⟨gg, 0, none⟩) (n + 1) cap) (by omega))
    obtain ⟨z0, z1, z2, z3, z4, z5, z6, z7⟩ := Z6.cells
    have P7 := P5.set4 (X := w.heap.size + 2) (Or.inr (by omega)) (by omega) (by simpa [Value.ownBlock] using nez) (.int .i64 k) (.slice sa ls sc) (.slice na ln nc) (.slice (some ⟨gg, 0, none⟩) (n + 1) cap)
    have hq7 := hq5.set4C (X := w.heap.size + 2) (fun g hg => hg.2.1.2) (.int .i64 k) (.slice sa ls sc) (.slice na ln nc) (.slice (some ⟨gg, 0, none⟩) (n + 1) cap)
    obtain ⟨QW, -⟩ := set4 Z6 (.int .i64 k) (.slice sa ls sc) (.slice na ln nc) (.slice (some ⟨gg, 0, none⟩) (n + 1) cap)
    go_wp2_with fail
    generalize (((((w5.setCell ⟨w.heap.size, 3, none⟩ (.slice (some ⟨gg, 0, none⟩) (n + 1) cap)).setCell ⟨w.heap.size + 2, 0, none⟩ (.int .i64 k)).setCell ⟨w.heap.size + 2, 1, none⟩ (.slice sa ls sc)).setCell ⟨w.heap.size + 2, 2, none⟩ (.slice na ln nc)).setCell ⟨w.heap.size + 2, 3, none⟩ (.slice (some ⟨gg, 0, none⟩) (n + 1) cap)) = WW at QW P7 hq7 ⊢
    obtain ⟨x0, x1, x2, x3, -⟩ := QW.cells
    exact bodyPost_ret (v := .agg #[.int .i64 k, .slice sa ls sc, .slice na ln nc, .slice (some ⟨gg, 0, none⟩) (n + 1) cap]) (by simp [results, Try.results44, go_sem, x0, x1, x2, x3]) rfl ⟨_, _, _, _, rfl, P7, Quads.keep (P := fun g => (Value.slice (some ⟨gg, 0, none⟩) (n + 1) cap).ownBlock ≠ some g ∧ (Pq g ∧ g ≠ w.heap.size + 2) ∧ g ≠ w.heap.size) (w := WW) (w' := WW) (fun g hg _ => ⟨⟨hg.1, hg.2.1.1⟩, fun _ => rfl⟩) hq7⟩
end Go.Proofs.Ytppdibblkaepjaa.Shape

namespace Go.Proofs.Ytppdibblkaepjaa.Shape
open Go.RowKit
set_option linter.unusedVariables false

set_option maxRecDepth 100000 in
set_option maxHeartbeats 8000000 in
theorem putB_step (t f : Int) (tt ff : List Int) (ih : PutBSpec tt ff) : PutBSpec (t :: tt) (f :: ff) := by
  intro w k sa ls sc na ln nc va vl vc v2 A fa fl fc ta tl tc at' B n qs l Pq hk hA hR hfl htl hf ht hrt hrf hlen hB hn hat hAl own hPq hq
  have hNt := (right_def.1 hrt).2.1
  have hNf := (right_def.1 hrf).2.1
  obtain ⟨T, rfl⟩ : ∃ T : Nat, t = T := ⟨t.toNat, by have := hNt.head; omega⟩
  obtain ⟨Fn, rfl⟩ : ∃ T : Nat, f = T := ⟨f.toNat, by have := hNf.head; omega⟩
  have hrt' := right_tailC hrt
  have hrf' := right_tailC hrf
  have hT := (dim_bd hrt (k := 0) (by simp)).2
  have hFn := (dim_bd hrf (k := 0) (by simp)).2
  simp only [List.getElem_cons_zero] at hT hFn
  rw [prN_cons hNt.head hNt.tail] at hn ⊢
  rw [prN_cons hNf.head hNf.tail] at hat ⊢
  rw [← pieces_end]
  simp only [Int.toNat_natCast] at *
  have hs6 := prN_le hrt'
  have hm6 := prN_le hrf'
  have hSZf := size_prN hrf'
  have hSZt := size_prN hrt'
  have hlen' : tt.length = ff.length := by simpa using hlen
  have SF := fun a c W (g : IntsAt W a c ff) => refSizeR a c ff W g
  have ST := fun a c W (g : IntsAt W a c tt) => refSizeR a c tt W g
  rw [hSZf] at SF
  rw [hSZt] at ST
  have HA0 := hA.at
  obtain ⟨k2, s2, l2, c2, n2, m2, d2, ia2, li2, ic2, rfl, hkk⟩ : ∃ k2 s2 l2 c2 n2 m2 d2 ia2 li2 ic2, v2 = .agg #[.int .i64 k2, .slice s2 l2 c2, .slice n2 m2 d2, .slice ia2 li2 ic2] ∧ k2 = A.kind := by
    have h := HA0
    obtain ⟨kk, sh, nu, it⟩ := A
    rw [ArrAt] at h
    obtain ⟨sa, sc, na, nc, ia, ic, hv, -⟩ := h
    exact ⟨_, _, _, _, _, _, _, _, _, _, hv, rfl⟩
  have k3 : (k2 == 3) = true := by rw [hkk, hk]; rfl
  have bw := below_3 w (.cells #[.int .i64 k, .slice sa ls sc, .slice na ln nc, .slice va vl vc] 26) (.cells #[.int .i64 k2, .slice s2 l2 c2, .slice n2 m2 d2, .slice ia2 li2 ic2] 26) (.cells #[.int .i64 0, .slice none 0 0, .slice none 0 0, .slice none 0 0] 26)
  have q0 : Quad (((w.alloc (.cells #[.int .i64 k, .slice sa ls sc, .slice na ln nc, .slice va vl vc] 26)).alloc (.cells #[.int .i64 k2, .slice s2 l2 c2, .slice n2 m2 d2, .slice ia2 li2 ic2] 26)).alloc (.cells #[.int .i64 0, .slice none 0 0, .slice none 0 0, .slice none 0 0] 26)) w.heap.size (.int .i64 k) (.slice sa ls sc) (.slice na ln nc) (.slice va vl vc) := ((Quad.new w (.int .i64 k) (.slice sa ls sc) (.slice na ln nc) (.slice va vl vc)).below (below_new _ (.cells #[.int .i64 k2, .slice s2 l2 c2, .slice n2 m2 d2, .slice ia2 li2 ic2] 26))).below (below_new _ (.cells #[.int .i64 0, .slice none 0 0, .slice none 0 0, .slice none 0 0] 26))
  have q1 : Quad (((w.alloc (.cells #[.int .i64 k, .slice sa ls sc, .slice na ln nc, .slice va vl vc] 26)).alloc (.cells #[.int .i64 k2, .slice s2 l2 c2, .slice n2 m2 d2, .slice ia2 li2 ic2] 26)).alloc (.cells #[.int .i64 0, .slice none 0 0, .slice none 0 0, .slice none 0 0] 26)) (w.heap.size + 1) (.int .i64 k2) (.slice s2 l2 c2) (.slice n2 m2 d2) (.slice ia2 li2 ic2) := by
    simpa using (Quad.new (w.alloc (.cells #[.int .i64 k, .slice sa ls sc, .slice na ln nc, .slice va vl vc] 26)) (.int .i64 k2) (.slice s2 l2 c2) (.slice n2 m2 d2) (.slice ia2 li2 ic2)).below (below_new _ (.cells #[.int .i64 0, .slice none 0 0, .slice none 0 0, .slice none 0 0] 26))
  have qz : Quad (((w.alloc (.cells #[.int .i64 k, .slice sa ls sc, .slice na ln nc, .slice va vl vc] 26)).alloc (.cells #[.int .i64 k2, .slice s2 l2 c2, .slice n2 m2 d2, .slice ia2 li2 ic2] 26)).alloc (.cells #[.int .i64 0, .slice none 0 0, .slice none 0 0, .slice none 0 0] 26)) (w.heap.size + 2) (.int .i64 0) (.slice none 0 0) (.slice none 0 0) (.slice none 0 0) := by
    simpa using Quad.new ((w.alloc (.cells #[.int .i64 k, .slice sa ls sc, .slice na ln nc, .slice va vl vc] 26)).alloc (.cells #[.int .i64 k2, .slice s2 l2 c2, .slice n2 m2 d2, .slice ia2 li2 ic2] 26)) (.int .i64 0) (.slice none 0 0) (.slice none 0 0) (.slice none 0 0)
  have e0 : ((tl : Int) == 0) = false := by rw [htl]; simp; omega
  obtain ⟨fa', fc', iF0, sF'⟩ := tailOn hf hfl rfl
  obtain ⟨ta', tc', iT0, sT'⟩ := tailOn ht htl rfl
  have hA3 := hA.below bw
  have hF3' := iF0.below bw
  have hT3' := iT0.below bw
  have hF3 := hf.below bw
  have hT3 := ht.below bw
  have hv := own.lt
  have P0 : PutS w.heap.size w _ B 26 4 (.slice va vl vc) (.slice va vl vc) n qs := (PutS.refl own).below bw hB
  have hq3 : Quads (fun g => (Value.slice va vl vc).ownBlock ≠ some g ∧ (Pq g ∧ g ≠ w.heap.size + 2) ∧ g ≠ w.heap.size) (((w.alloc (.cells #[.int .i64 k, .slice sa ls sc, .slice na ln nc, .slice va vl vc] 26)).alloc (.cells #[.int .i64 k2, .slice s2 l2 c2, .slice n2 m2 d2, .slice ia2 li2 ic2] 26)).alloc (.cells #[.int .i64 0, .slice none 0 0, .slice none 0 0, .slice none 0 0] 26)) qs l := hq.keep fun g hg hl => ⟨⟨hg.1, ⟨hg.2, by omega⟩, by omega⟩, fun o => bw.cell hl⟩
  have HF := fun v' w' (g : ArrAt w' v' A) => fillR_new v' A w' g
  have HFN : ∀ {w w' : World} {e : Ending}, GiveNew (fillA A.kind) w e w' → ∃ kf sf lf cf na ln nc ia ic, e = .returned (.agg #[.int .i64 kf, .slice sf lf cf, .slice na ln nc, .slice ia 1 ic]) ∧ ArrOn (fun g => w.heap.size ≤ g) w' (.agg #[.int .i64 kf, .slice sf lf cf, .slice na ln nc, .slice ia 1 ic]) (.mk 3 [] [] [fillI]) ∧ Below w.heap.size w w' := fun h => fill_box hk h
  have HK : Hid (A.kind = 3) := hk
  have HR : Hid (Reach A) := hR
  obtain ⟨i0, hi0, hz0, hz1, hz2⟩ := info_parts infoArr
  obtain ⟨s, hs⟩ : ∃ s, prN tt = s := ⟨_, rfl⟩
  obtain ⟨m, hm⟩ : ∃ m, prN ff = m := ⟨_, rfl⟩
  rw [hs] at hn hs6 ST ⊢
  rw [hm] at hat hm6 SF ⊢
  have HFL : Hid (fl = (((Fn : Int) :: ff).length)) := hfl
  have HTL : Hid (tl = (((T : Int) :: tt).length)) := htl
  have hs3 : Hid ((((w.alloc (.cells #[.int .i64 k, .slice sa ls sc, .slice na ln nc, .slice va vl vc] 26)).alloc (.cells #[.int .i64 k2, .slice s2 l2 c2, .slice n2 m2 d2, .slice ia2 li2 ic2] 26)).alloc (.cells #[.int .i64 0, .slice none 0 0, .slice none 0 0, .slice none 0 0] 26)).heap.size = w.heap.size + 3) := by unfold Hid; simp
  have HAt : Hid (at' + Fn * m ≤ A.items.length) := hat
  have HAl : Hid (A.items.length ≤ 10000000) := hAl
  have Hn : Hid (n + T * s ≤ 10000000) := hn
  have HRT : Hid (rightB tt = true ∧ rightB ff = true ∧ tt.length = ff.length ∧ prN tt = s ∧ prN ff = m) := ⟨hrt', hrf', hlen', hs, hm⟩
  clear hkk hk hfl htl hrt hrf hrt' hrf' hlen hlen' hNt hNf hSZf hSZt hs hm hFn hat hAl hn hA HA0 hf ht iF0 iT0 hR hq
  obtain ⟨EL, hEL⟩ : ∃ EL, (A.items.drop at').take (Fn * m) = EL := ⟨_, rfl⟩
  rw [hEL]
  have HEL : Hid ((A.items.drop at').take (Fn * m) = EL) := hEL
  clear hEL
  go_enter Try.func44, Try.ntmps44
  go_wp2_with (go_at_call 66; refine (HF _ _ hA3.at).mono ?_; intro e w1 hN; (obtain ⟨kf, sf, lf, cf, fna, fln, fnc, fia, fic, rfl, hO, b1⟩ := HFN hN))
  have bn := below_new w1 (.cells #[.int .i64 kf, .slice sf lf cf, .slice fna fln fnc, .slice fia 1 fic] 26)
  have Q0 := (q0.below b1).below bn
  have Q1 := (q1.below b1).below bn
  have QZ := (qz.below b1).below bn
  have QF := Quad.new w1 (.int .i64 kf) (.slice sf lf cf) (.slice fna fln fnc) (.slice fia 1 fic)
  have HS := hs3.out
  have S1 := b1.size
  have P1 := (P0.below b1 hB).below bn hB
  have hv0 : ∀ g, w.heap.size ≤ g → (Value.slice va vl vc).ownBlock ≠ some g := fun g hg e => by have := (hv _ e).2; omega
  have hAW := ((hA3.below b1).below bn).mono (R := fun g => (Value.slice va vl vc).ownBlock ≠ some g ∧ g ≠ w.heap.size) fun g hg => ⟨hg.1.1.1, by omega⟩
  have hFW := ((hF3.below b1).below bn).mono (R := fun g => (Value.slice va vl vc).ownBlock ≠ some g ∧ g ≠ w.heap.size) fun g hg => ⟨hg.1.1.1, by omega⟩
  have hTW := ((hT3.below b1).below bn).mono (R := fun g => (Value.slice va vl vc).ownBlock ≠ some g ∧ g ≠ w.heap.size) fun g hg => ⟨hg.1.1.1, by omega⟩
  have hFW' := ((hF3'.below b1).below bn).mono (R := fun g => (Value.slice va vl vc).ownBlock ≠ some g ∧ g ≠ w.heap.size) fun g hg => ⟨hg.1.1.1, by omega⟩
  have hTW' := ((hT3'.below b1).below bn).mono (R := fun g => (Value.slice va vl vc).ownBlock ≠ some g ∧ g ≠ w.heap.size) fun g hg => ⟨hg.1.1.1, by omega⟩
  have hOW := (hO.below bn).mono (R := fun g => (Value.slice va vl vc).ownBlock ≠ some g ∧ g ≠ w.heap.size) fun g hg => ⟨hv0 g (by omega), by omega⟩
  have hqW := (hq3.keep (w' := w1) (R := fun g => (Value.slice va vl vc).ownBlock ≠ some g ∧ (Pq g ∧ g ≠ w.heap.size + 2) ∧ g ≠ w.heap.size) fun g hg hl => ⟨hg, fun o => b1.cell hl⟩).keep (w' := (w1.alloc (.cells #[.int .i64 kf, .slice sf lf cf, .slice fna fln fnc, .slice fia 1 fic] 26))) (R := fun g => (Value.slice va vl vc).ownBlock ≠ some g ∧ (Pq g ∧ g ≠ w.heap.size + 2) ∧ g ≠ w.heap.size) fun g hg hl => ⟨hg, fun o => bn.cell hl⟩
  have hvR : ∀ g, w.heap.size ≤ g → Hid ((Value.slice va vl vc).ownBlock ≠ some g) := fun g hg => hv0 g hg
  have S2 : w.heap.size + 4 ≤ (w1.alloc (.cells #[.int .i64 kf, .slice sf lf cf, .slice fna fln fnc, .slice fia 1 fic] 26)).heap.size := by rw [alloc_sizeP]; omega
  have hRF : w.heap.size + 3 ≤ w1.heap.size := by omega
  clear q0 q1 qz P0 bn hO hA3 hF3 hT3 hF3' hT3' HF HFN hs3 HS S1 b1 hv hv0 hN bw hq3
  generalize (w1.alloc (.cells #[.int .i64 kf, .slice sf lf cf, .slice fna fln fnc, .slice fia 1 fic] 26)) = W at *
  generalize w1.heap.size = RF at *
  have hPq2 : ∀ g, W.heap.size ≤ g → Pq g ∧ g ≠ w.heap.size + 2 := fun g hg => ⟨hPq g (by omega), by omega⟩
  have K : ∀ {wr : World} {v' : Value} {n' : Nat} {q' : List Value}, PutS w.heap.size W wr B 26 4 (.slice va vl vc) v' n' q' → Quad wr (w.heap.size + 1) (.int .i64 k2) (.slice s2 l2 c2) (.slice n2 m2 d2) (.slice ia2 li2 ic2) ∧ Quad wr (w.heap.size + 2) (.int .i64 0) (.slice none 0 0) (.slice none 0 0) (.slice none 0 0) ∧ Quad wr RF (.int .i64 kf) (.slice sf lf cf) (.slice fna fln fnc) (.slice fia 1 fic) ∧
      ArrOn (fun g => v'.ownBlock ≠ some g ∧ g ≠ w.heap.size) wr (.agg #[.int .i64 kf, .slice sf lf cf, .slice fna fln fnc, .slice fia 1 fic]) (.mk 3 [] [] [fillI]) ∧ ArrOn (fun g => v'.ownBlock ≠ some g ∧ g ≠ w.heap.size) wr (.agg #[.int .i64 k2, .slice s2 l2 c2, .slice n2 m2 d2, .slice ia2 li2 ic2]) A ∧ IntsOn (fun g => v'.ownBlock ≠ some g ∧ g ≠ w.heap.size) wr fa fc ((Fn : Int) :: ff) ∧ IntsOn (fun g => v'.ownBlock ≠ some g ∧ g ≠ w.heap.size) wr ta tc ((T : Int) :: tt) ∧ IntsOn (fun g => v'.ownBlock ≠ some g ∧ g ≠ w.heap.size) wr fa' fc' ff ∧ IntsOn (fun g => v'.ownBlock ≠ some g ∧ g ≠ w.heap.size) wr ta' tc' tt :=
    fun h => ⟨h.quad Q1 (by omega) (hvR _ (by omega)).out, h.quad QZ (by omega) (hvR _ (by omega)).out, h.quad QF (by omega) (hvR _ (by omega)).out, h.arr hOW, h.arr hAW, h.ints hFW, h.ints hTW, h.ints hFW', h.ints hTW'⟩
  have PW := PutS.refl (R := w.heap.size) (show W.ownsRow B 26 4 (.slice va vl vc) n qs from P1.own)
  have SF1 := SF fa' fc' W hFW'.1
  have hvR0 := hvR w.heap.size (Nat.le_refl _)
  have PWh : Hid (PutS w.heap.size W W B 26 4 (.slice va vl vc) (.slice va vl vc) n qs) := PW
  have Q0h : Hid (Quad W w.heap.size (.int .i64 k) (.slice sa ls sc) (.slice na ln nc) (.slice va vl vc)) := Q0
  have P1h : Hid (PutS w.heap.size w W B 26 4 (.slice va vl vc) (.slice va vl vc) n qs) := P1
  have HQW : Hid (Quads (fun g => (Value.slice va vl vc).ownBlock ≠ some g ∧ (Pq g ∧ g ≠ w.heap.size + 2) ∧ g ≠ w.heap.size) W qs l) := hqW
  clear PW Q0 Q1 QZ QF hOW hAW hFW hTW hFW' hTW' P1 SF hqW
  go_wp2_with (go_at_call 41; refine SF1.mono ?_; rintro e w2 ⟨rfl, rfl⟩)
  go_loopw [13] (fun i wr => ∃ (j : Nat) (a' : Option Addr) (l' c' : Nat) (qs' : List Value), j ≤ T ∧ i = .int .i64 j ∧ PutS w.heap.size W wr B 26 4 (.slice va vl vc) (.slice a' l' c') (n + j * s) qs' ∧ Quads (fun g => (Value.slice a' l' c').ownBlock ≠ some g ∧ (Pq g ∧ g ≠ w.heap.size + 2) ∧ g ≠ w.heap.size) wr qs' (l ++ pieces fillI tt ff (Fn : Int) EL j) ∧ Quad wr w.heap.size (.int .i64 k) (.slice sa ls sc) (.slice na ln nc) (.slice a' l' c') ∧ (Value.slice a' l' c').ownBlock ≠ some w.heap.size) (fun i _ => T - (intOf i).toNat)
  case atStart => exact ⟨0, va, vl, vc, qs, Nat.zero_le _, rfl, by rw [Nat.zero_mul, Nat.add_zero]; exact PWh.out, by rw [pieces_zero, List.append_nil]; exact HQW.out, Q0h.out, hvR0.out⟩
  case round =>
    clear PWh Q0h SF1 HQW
    obtain ⟨j, a', l', c', qs', hj, rfl, hP, hqj, hQ, hne⟩ := hrel
    have hBW : B ≤ W.heap.size := by omega
    obtain ⟨K1, K2, K3, K4, K5, K6, K7, K8, K9⟩ := K hP
    obtain ⟨p0, p1, p2, p3, -⟩ := K1.cells
    obtain ⟨r0, r1, r2, r3, r4, r5, r6, r7⟩ := hQ.cells
    obtain ⟨f0, f1, f2, f3, -⟩ := K3.cells
    obtain ⟨tb, to', ti, tcell, -⟩ := firstAt K7 HTL.out
    obtain ⟨fb, fo, fi, fcell, -⟩ := firstAt K6 HFL.out
    by_cases hlt : j < T
    · by_cases c1 : j < Fn
      · by_cases hm0 : 0 < m
        · obtain ⟨q, hqe⟩ : ∃ q, j * m = q := ⟨_, rfl⟩
          have hq1 : q + m ≤ Fn * m := by rw [← hqe, ← Nat.succ_mul]; exact Nat.mul_le_mul_right _ c1
          obtain ⟨p, hp⟩ : ∃ p, at' + q = p := ⟨_, rfl⟩
          have hat2 := HAt.out
          have hal2 := HAl.out
          have e5 : (j : Int) * (m : Int) = (q : Int) := by rw [← hqe]; simp
          obtain ⟨e6, ew1, ew2, hpm⟩ := put_nums hp hq1 hat2 hal2
          have hE : padS fillI tt ff ((A.items.drop p).take (prN ff)) = piece fillI tt ff (Fn : Int) EL j := by
            rw [piece, HRT.out.2.2.2.2, if_pos ⟨by simpa using c1, hm0⟩, ← HEL.out, blk_take _ _ _ _ (by rw [Nat.succ_mul, hqe]; exact hq1), List.drop_drop, hqe, hp]
          have hnB : n + j * s + s ≤ 10000000 := by
            have h1 : (j + 1) * s ≤ T * s := Nat.mul_le_mul_right _ hlt
            have := Hn.out
            rw [Nat.succ_mul] at h1
            omega
          have hsz := hP.bel.size
          have hltR := hQ.lt
          have A1 : ArrOn (fun g => (Value.slice a' l' c').ownBlock ≠ some g) wr.drew (.agg #[.int .i64 k2, .slice s2 l2 c2, .slice n2 m2 d2, .slice ia2 li2 ic2]) A := ArrOn.keep (P := fun g => (Value.slice a' l' c').ownBlock ≠ some g ∧ g ≠ w.heap.size) (w := wr) (w' := wr.drew) (fun g hg _ => ⟨hg.1, fun _ => rfl⟩) K5
          have A2 : IntsOn (fun g => (Value.slice a' l' c').ownBlock ≠ some g) wr.drew fa' fc' ff := IntsOn.keep (P := fun g => (Value.slice a' l' c').ownBlock ≠ some g ∧ g ≠ w.heap.size) (w := wr) (w' := wr.drew) (fun g hg _ => ⟨hg.1, fun _ => rfl⟩) K8
          have A3 : IntsOn (fun g => (Value.slice a' l' c').ownBlock ≠ some g) wr.drew ta' tc' tt := IntsOn.keep (P := fun g => (Value.slice a' l' c').ownBlock ≠ some g ∧ g ≠ w.heap.size) (w := wr) (w' := wr.drew) (fun g hg _ => ⟨hg.1, fun _ => rfl⟩) K9
          have A4 : B ≤ wr.drew.heap.size := by show B ≤ wr.heap.size; omega
          have A5 : n + j * s + prN tt ≤ 10000000 := by rw [HRT.out.2.2.2.1]; exact hnB
          have A6 : p + prN ff ≤ A.items.length := by rw [HRT.out.2.2.2.2]; exact hpm
          have A8 : wr.drew.ownsRow B 26 4 (.slice a' l' c') (n + j * s) qs' := hP.own
          have A9 : Quads (fun g => (Value.slice a' l' c').ownBlock ≠ some g ∧ (fun g => (Pq g ∧ g ≠ w.heap.size + 2) ∧ g ≠ w.heap.size) g) wr.drew qs' (l ++ pieces fillI tt ff (Fn : Int) EL j) := Quads.keep (P := fun g => (Value.slice a' l' c').ownBlock ≠ some g ∧ (Pq g ∧ g ≠ w.heap.size + 2) ∧ g ≠ w.heap.size) (w := wr) (w' := wr.drew) (fun g hg _ => ⟨hg, fun _ => rfl⟩) hqj
          have A10 : ∀ g, wr.drew.heap.size ≤ g → (fun g => (Pq g ∧ g ≠ w.heap.size + 2) ∧ g ≠ w.heap.size) g := fun g hg => ⟨hPq2 g (Nat.le_trans hsz hg), Nat.ne_of_gt (Nat.lt_of_lt_of_le hltR hg)⟩
          have ih1 := ih wr.drew k sa ls sc na ln nc a' l' c' _ A fa' ff.length fc' ta' tt.length tc' p B (n + j * s) _ _ _ HK.out A1 HR.out rfl rfl A2 A3 HRT.out.1 HRT.out.2.1 HRT.out.2.2.1 A4 A5 A6 hal2 A8 A10 A9
          clear A1 A2 A3 A4 A5 A6 A8 A9 A10
          rw [hE, HRT.out.2.2.2.1] at ih1
          have hpc : Hid (pieces fillI tt ff (Fn : Int) EL (j + 1) = pieces fillI tt ff (Fn : Int) EL j ++ piece fillI tt ff (Fn : Int) EL j) := pieces_succ _ _ _ _ _ _
          generalize piece fillI tt ff (Fn : Int) EL j = PJ at *
          rw [show (p : Int) = wrap64 ((at' : Int) + wrap64 (q : Int)) by rw [ew1, e6, ew2]] at ih1
          clear hE hpm hq1 hat2 hal2 hqe hp ih
          go_wp2_with fail
          go_still_tail 11, (by kernel_rfl)
          go_wp2_with (go_at_call 44; (with_reducible refine ih1.mono ?_); rintro e w2 ⟨a2, l2', c2', qs2, rfl, hP2, hq2⟩; (obtain ⟨h1, hne2⟩ := hP2.far w.heap.size hQ.lt (Nat.ne_of_lt hQ.lt) hne); (have hQ2 := hQ.keep (w' := w2) h1); (obtain ⟨t0, t1, t2, t3, t4, t5, t6, t7⟩ := hQ2.cells))
          have hP3 := hP.drew.trans hP2 (Or.inl hsz)
          go_roundw
          case rel => exact ⟨j + 1, a2, l2', c2', qs2, by omega, by go_num, by
            rw [Nat.succ_mul, ← Nat.add_assoc]
            exact hP3.set4 (Or.inl rfl) hB hne2 _ _ _ _, by
            rw [hpc.out, ← List.append_assoc]
            exact hq2.set4C (fun g hg => hg.2.2) _ _ _ _, (set4 hQ2 _ _ _ _).1, hne2⟩
          case measure => simp [intOf]; omega
        · have c3 : ¬ (0 : Int) < (m : Int) := by omega
          have hpc : Hid (pieces fillI tt ff (Fn : Int) EL (j + 1) = pieces fillI tt ff (Fn : Int) EL j ++ List.replicate s fillI) := by
            unfold Hid
            rw [pieces_succ, piece, HRT.out.2.2.2.2, if_neg (by simp; omega), HRT.out.2.2.2.1]
          go_wp2_with fail
          go_loopw [14] (fun i wr2 => ∃ (j2 : Nat) (a' : Option Addr) (l' c' : Nat) (qs' : List Value), j2 ≤ s ∧ i = .int .i64 j2 ∧ PutS w.heap.size W wr2 B 26 4 (.slice va vl vc) (.slice a' l' c') (n + j * s + j2) qs' ∧ Quads (fun g => (Value.slice a' l' c').ownBlock ≠ some g ∧ (Pq g ∧ g ≠ w.heap.size + 2) ∧ g ≠ w.heap.size) wr2 qs' (l ++ (pieces fillI tt ff (Fn : Int) EL j ++ List.replicate j2 fillI)) ∧ Quad wr2 w.heap.size (.int .i64 k) (.slice sa ls sc) (.slice na ln nc) (.slice a' l' c') ∧ (Value.slice a' l' c').ownBlock ≠ some w.heap.size) (fun i _ => s - (intOf i).toNat)
          case atStart => exact ⟨0, a', l', c', qs', Nat.zero_le _, rfl, hP, by rw [List.replicate_zero, List.append_nil]; exact hqj, hQ, hne⟩
          case round =>
            clear p0 p1 p2 p3 r0 r1 r2 r3 r4 r5 r6 r7 f0 f1 f2 f3 ti tcell fi fcell hP hQ hne ih hqj
            obtain ⟨j2, b', m', d', qs2, hj2, rfl, hP2, hqj2, hQ2, hne2⟩ := hrel
            obtain ⟨K1, K2, K3, K4, K5, K6, K7, K8, K9⟩ := K hP2
            obtain ⟨p0, p1, p2, p3, -⟩ := K1.cells
            obtain ⟨r0, r1, r2, r3, r4, r5, r6, r7⟩ := hQ2.cells
            obtain ⟨f0, f1, f2, f3, -⟩ := K3.cells
            have ST1 := ST ta' tc' wr K9.1
            by_cases hlt2 : j2 < s
            · obtain ⟨ib, io, y0, y1, y2, y3, hix, ⟨h0, h1, h2, h3⟩, hI⟩ := items_ix K4.at (k := 0) (by show 0 < 1; decide)
              have hix0 : ∀ w', (Instr.indexAt 23 (.slice fia 1 fic) (.int .i64 0)).run Try.prog w' = .ok (.pointer (some ⟨ib, io, none⟩)) w' := fun w' => hix w'
              have hI' : ArrAt wr (.agg #[y0, y1, y2, y3]) fillI := hI
              have KC := cloneR _ _ wr.drew (hI'.below (Below.refl _ _).drew) reach_fillI
              have HX := fun (w2 : World) (A1 : Arr) (e0 e1 e2 e3 : Value) (b1 : Below wr.heap.size wr w2) (hN : ArrOn (fun g => wr.heap.size ≤ g) w2 (.agg #[e0, e1, e2, e3]) A1) => appB hP2 hQ2 hne2 hBW (Or.inl rfl) hB b1 hqj2 (fun g hg => hPq2 g (by have := hP2.bel.size; omega)) hN
              have ho := hP2.own
              have hRs : Hid (l ++ (pieces fillI tt ff (Fn : Int) EL j ++ List.replicate (j2 + 1) fillI) = l ++ (pieces fillI tt ff (Fn : Int) EL j ++ List.replicate j2 fillI) ++ [fillI]) := by
                unfold Hid
                rw [List.replicate_succ', ← List.append_assoc (pieces fillI tt ff (Fn : Int) EL j), ← List.append_assoc]
              have hnB : n + j * s + j2 + 1 ≤ 10000000 := by
                have h1 : (j + 1) * s ≤ T * s := Nat.mul_le_mul_right _ hlt
                have := Hn.out
                rw [Nat.succ_mul] at h1
                omega
              generalize l ++ (pieces fillI tt ff (Fn : Int) EL j ++ List.replicate j2 fillI) = LL at *
              obtain ⟨NN2, hNN⟩ : ∃ NN2, n + j * s + j2 = NN2 := ⟨_, rfl⟩
              have hNs : Hid (n + j * s + (j2 + 1) = NN2 + 1) := by unfold Hid; omega
              rw [hNN] at HX ho hnB
              have hbase : B ≤ wr.heap.size := by have := hP2.bel.size; omega
              have HR0 := hQ2
              clear hNN
              clear K1 K2 K3 K4 K5 K6 K7 K8 K9 hP2 hQ2 hpc hix hI hI' hqj2
              go_wp2_with (go_at_call 41; refine ST1.mono ?_; rintro e w2 ⟨rfl, rfl⟩)
              go_region_law ((first
                | (refine step_append_lies _ (by rfl) _ _ _ (by rfl) B 26 i0 _ 4 80 Try.underlying23 hi0 hz0 hz1 hz2 rfl (by omega) (.slice b' m' d') NN2 qs2 (by rfl) (own_alloc ho b2 _) ⟨w2.heap.size, 0, none⟩ 1 1 [e0, e1, e2, e3] (by rfl) (by rfl) (World.news_of_block (cs := #[e0, e1, e2, e3]) (t := 26) (fr := (0, 0)) (heap_alloc_new w2 _)) oc (by omega) (by unfold maxLen; omega) (by omega) (by have := b2.size; rw [alloc_sizeP]; omega) (w2.heap.size + 1) (by rw [alloc_sizeP]) ?_; intro gg cap w5 hown hgrow hat' hl5; (obtain ⟨P5, Q5, Q6, ne5, hq5⟩ := HX w2 _ e0 e1 e2 e3 b2 hN2 gg cap w5 hown hgrow hat'); (obtain ⟨t0, t1, t2, t3, t4, t5, t6, t7⟩ := Q5.cells))
                | (go_simp; refine KC.mono ?_; rintro e w2 ⟨e0, e1, e2, e3, rfl, oc, hN2, b1⟩; (have b2 : Below wr.heap.size wr w2 := Below.trans (Below.refl _ _).drew b1); (obtain ⟨u0, u1, u2, u3, u4, u5, u6, u7⟩ := (HR0.below b2).cells); (have u9 : (w2.alloc (.cells #[e0, e1, e2, e3] 26)).cell? ⟨w.heap.size, 3, none⟩ = some (.slice b' m' d') := by rw [World.cell?_alloc_past _ _ _ (cell_lt u3)]; exact u3))))
              all_goals go_wp2_with fail
              all_goals go_roundw
              all_goals first
                | (simp [intOf]; omega)
                | (refine ⟨j2 + 1, _, _, _, _, by omega, by go_num, by rw [hNs.out]; exact P5, ?_, Q6, ne5⟩; rw [hRs.out]; exact hq5)
            · obtain rfl : j2 = s := by omega
              go_wp2_with (go_at_call 41; refine ST1.mono ?_; rintro e w2 ⟨rfl, rfl⟩)
              go_roundw
              case rel => exact ⟨j + 1, b', m', d', qs2, by omega, by go_num, by rw [Nat.succ_mul, ← Nat.add_assoc]; exact hP2, by rw [hpc.out]; exact hqj2, hQ2, hne2⟩
              case measure => simp [intOf]; omega
      · have hpc : Hid (pieces fillI tt ff (Fn : Int) EL (j + 1) = pieces fillI tt ff (Fn : Int) EL j ++ List.replicate s fillI) := by
          unfold Hid
          rw [pieces_succ, piece, HRT.out.2.2.2.2, if_neg (by simp; omega), HRT.out.2.2.2.1]
        go_wp2_with fail
        go_loopw [14] (fun i wr2 => ∃ (j2 : Nat) (a' : Option Addr) (l' c' : Nat) (qs' : List Value), j2 ≤ s ∧ i = .int .i64 j2 ∧ PutS w.heap.size W wr2 B 26 4 (.slice va vl vc) (.slice a' l' c') (n + j * s + j2) qs' ∧ Quads (fun g => (Value.slice a' l' c').ownBlock ≠ some g ∧ (Pq g ∧ g ≠ w.heap.size + 2) ∧ g ≠ w.heap.size) wr2 qs' (l ++ (pieces fillI tt ff (Fn : Int) EL j ++ List.replicate j2 fillI)) ∧ Quad wr2 w.heap.size (.int .i64 k) (.slice sa ls sc) (.slice na ln nc) (.slice a' l' c') ∧ (Value.slice a' l' c').ownBlock ≠ some w.heap.size) (fun i _ => s - (intOf i).toNat)
        case atStart => exact ⟨0, a', l', c', qs', Nat.zero_le _, rfl, hP, by rw [List.replicate_zero, List.append_nil]; exact hqj, hQ, hne⟩
        case round =>
          clear p0 p1 p2 p3 r0 r1 r2 r3 r4 r5 r6 r7 f0 f1 f2 f3 ti tcell fi fcell hP hQ hne ih hqj
          obtain ⟨j2, b', m', d', qs2, hj2, rfl, hP2, hqj2, hQ2, hne2⟩ := hrel
          obtain ⟨K1, K2, K3, K4, K5, K6, K7, K8, K9⟩ := K hP2
          obtain ⟨p0, p1, p2, p3, -⟩ := K1.cells
          obtain ⟨r0, r1, r2, r3, r4, r5, r6, r7⟩ := hQ2.cells
          obtain ⟨f0, f1, f2, f3, -⟩ := K3.cells
          have ST1 := ST ta' tc' wr K9.1
          by_cases hlt2 : j2 < s
          · obtain ⟨ib, io, y0, y1, y2, y3, hix, ⟨h0, h1, h2, h3⟩, hI⟩ := items_ix K4.at (k := 0) (by show 0 < 1; decide)
            have hix0 : ∀ w', (Instr.indexAt 23 (.slice fia 1 fic) (.int .i64 0)).run Try.prog w' = .ok (.pointer (some ⟨ib, io, none⟩)) w' := fun w' => hix w'
            have hI' : ArrAt wr (.agg #[y0, y1, y2, y3]) fillI := hI
            have KC := cloneR _ _ wr.drew (hI'.below (Below.refl _ _).drew) reach_fillI
            have HX := fun (w2 : World) (A1 : Arr) (e0 e1 e2 e3 : Value) (b1 : Below wr.heap.size wr w2) (hN : ArrOn (fun g => wr.heap.size ≤ g) w2 (.agg #[e0, e1, e2, e3]) A1) => appB hP2 hQ2 hne2 hBW (Or.inl rfl) hB b1 hqj2 (fun g hg => hPq2 g (by have := hP2.bel.size; omega)) hN
            have ho := hP2.own
            have hRs : Hid (l ++ (pieces fillI tt ff (Fn : Int) EL j ++ List.replicate (j2 + 1) fillI) = l ++ (pieces fillI tt ff (Fn : Int) EL j ++ List.replicate j2 fillI) ++ [fillI]) := by
              unfold Hid
              rw [List.replicate_succ', ← List.append_assoc (pieces fillI tt ff (Fn : Int) EL j), ← List.append_assoc]
            have hnB : n + j * s + j2 + 1 ≤ 10000000 := by
              have h1 : (j + 1) * s ≤ T * s := Nat.mul_le_mul_right _ hlt
              have := Hn.out
              rw [Nat.succ_mul] at h1
              omega
            generalize l ++ (pieces fillI tt ff (Fn : Int) EL j ++ List.replicate j2 fillI) = LL at *
            obtain ⟨NN2, hNN⟩ : ∃ NN2, n + j * s + j2 = NN2 := ⟨_, rfl⟩
            have hNs : Hid (n + j * s + (j2 + 1) = NN2 + 1) := by unfold Hid; omega
            rw [hNN] at HX ho hnB
            have hbase : B ≤ wr.heap.size := by have := hP2.bel.size; omega
            have HR0 := hQ2
            clear hNN
            clear K1 K2 K3 K4 K5 K6 K7 K8 K9 hP2 hQ2 hpc hix hI hI' hqj2
            go_wp2_with (go_at_call 41; refine ST1.mono ?_; rintro e w2 ⟨rfl, rfl⟩)
            go_region_law ((first
              | (refine step_append_lies _ (by rfl) _ _ _ (by rfl) B 26 i0 _ 4 80 Try.underlying23 hi0 hz0 hz1 hz2 rfl (by omega) (.slice b' m' d') NN2 qs2 (by rfl) (own_alloc ho b2 _) ⟨w2.heap.size, 0, none⟩ 1 1 [e0, e1, e2, e3] (by rfl) (by rfl) (World.news_of_block (cs := #[e0, e1, e2, e3]) (t := 26) (fr := (0, 0)) (heap_alloc_new w2 _)) oc (by omega) (by unfold maxLen; omega) (by omega) (by have := b2.size; rw [alloc_sizeP]; omega) (w2.heap.size + 1) (by rw [alloc_sizeP]) ?_; intro gg cap w5 hown hgrow hat' hl5; (obtain ⟨P5, Q5, Q6, ne5, hq5⟩ := HX w2 _ e0 e1 e2 e3 b2 hN2 gg cap w5 hown hgrow hat'); (obtain ⟨t0, t1, t2, t3, t4, t5, t6, t7⟩ := Q5.cells))
              | (go_simp; refine KC.mono ?_; rintro e w2 ⟨e0, e1, e2, e3, rfl, oc, hN2, b1⟩; (have b2 : Below wr.heap.size wr w2 := Below.trans (Below.refl _ _).drew b1); (obtain ⟨u0, u1, u2, u3, u4, u5, u6, u7⟩ := (HR0.below b2).cells); (have u9 : (w2.alloc (.cells #[e0, e1, e2, e3] 26)).cell? ⟨w.heap.size, 3, none⟩ = some (.slice b' m' d') := by rw [World.cell?_alloc_past _ _ _ (cell_lt u3)]; exact u3))))
            all_goals go_wp2_with fail
            all_goals go_roundw
            all_goals first
              | (simp [intOf]; omega)
              | (refine ⟨j2 + 1, _, _, _, _, by omega, by go_num, by rw [hNs.out]; exact P5, ?_, Q6, ne5⟩; rw [hRs.out]; exact hq5)
          · obtain rfl : j2 = s := by omega
            go_wp2_with (go_at_call 41; refine ST1.mono ?_; rintro e w2 ⟨rfl, rfl⟩)
            go_roundw
            case rel => exact ⟨j + 1, b', m', d', qs2, by omega, by go_num, by rw [Nat.succ_mul, ← Nat.add_assoc]; exact hP2, by rw [hpc.out]; exact hqj2, hQ2, hne2⟩
            case measure => simp [intOf]; omega
    · obtain rfl : j = T := by omega
      have hne2 := (hP.far (w.heap.size + 2) (by omega) (by omega) (hvR _ (by omega)).out).2
      have hP3 := P1h.out.trans hP (Or.inl (Nat.le_refl _))
      have P7 := hP3.set4 (X := w.heap.size + 2) (Or.inr (by omega)) (by omega) hne2 (.int .i64 k) (.slice sa ls sc) (.slice na ln nc) (.slice a' l' c')
      have hq7 := hqj.set4C (X := w.heap.size + 2) (fun g hg => hg.2.1.2) (.int .i64 k) (.slice sa ls sc) (.slice na ln nc) (.slice a' l' c')
      obtain ⟨QW, -⟩ := set4 K2 (.int .i64 k) (.slice sa ls sc) (.slice na ln nc) (.slice a' l' c')
      obtain ⟨u0, u1, u2, u3, u4, u5, u6, u7⟩ := K2.cells
      clear hP3 hP P1h hqj
      go_wp2_with fail
      generalize ((((wr.setCell ⟨w.heap.size + 2, 0, none⟩ (.int .i64 k)).setCell ⟨w.heap.size + 2, 1, none⟩ (.slice sa ls sc)).setCell ⟨w.heap.size + 2, 2, none⟩ (.slice na ln nc)).setCell ⟨w.heap.size + 2, 3, none⟩ (.slice a' l' c')) = WW at QW P7 hq7 ⊢
      obtain ⟨e0, e1, e2, e3, -⟩ := QW.cells
      exact bodyPost_ret (v := .agg #[.int .i64 k, .slice sa ls sc, .slice na ln nc, .slice a' l' c']) (by simp [results, Try.results44, go_sem, e0, e1, e2, e3]) rfl ⟨_, _, _, _, rfl, P7, Quads.keep (P := fun g => (Value.slice a' l' c').ownBlock ≠ some g ∧ (Pq g ∧ g ≠ w.heap.size + 2) ∧ g ≠ w.heap.size) (w := WW) (w' := WW) (fun g hg _ => ⟨⟨hg.1, hg.2.1.1⟩, fun _ => rfl⟩) hq7⟩
end Go.Proofs.Ytppdibblkaepjaa.Shape

namespace Go.Proofs.Ytppdibblkaepjaa.Shape
open Go.RowKit
set_option linter.unusedVariables false

theorem putB : ∀ (tt fr : List Int), PutBSpec tt fr
  | [], [] => by
    intro w k sa ls sc na ln nc va vl vc v2 A fa fl fc ta tl tc at' B n qs l Pq hk hA hR hfl htl hf ht hrt hrf hlen hB hn hat hAl own hPq hq
    have hat' : at' < A.items.length := by rw [prN_nil] at hat; omega
    subst hfl; subst htl
    have h := putB_nil k sa ls sc na ln nc va vl vc v2 A fa ta 0 fc tc at' B n qs l Pq w hk hA.at hR hB (by rw [prN_nil] at hn; omega) hat' hAl own hPq hq
    rw [padS, prN_nil]
    have e : (A.items.drop at').take 1 = [A.items[at']] := by
      rw [List.drop_eq_getElem_cons hat']; rfl
    rw [e]
    exact h
  | t :: tt, f :: ff => putB_step t f tt ff (putB tt ff)
  | [], _ :: _ => by
    intro w k sa ls sc na ln nc va vl vc v2 A fa fl fc ta tl tc at' B n qs l Pq hk hA hR hfl htl hf ht hrt hrf hlen
    simp at hlen
  | _ :: _, [] => by
    intro w k sa ls sc na ln nc va vl vc v2 A fa fl fc ta tl tc at' B n qs l Pq hk hA hR hfl htl hf ht hrt hrf hlen
    simp at hlen
end Go.Proofs.Ytppdibblkaepjaa.Shape
