/-
  Layer 5: the program's Fill of a boxed array, in memory of its own that is no row of bytes. (Written by wip/gen/format-fill.py out of wip/array's texts.)
  Layer 5: the program's writeLiteral. (Written by wip/gen/format-p3.py.)
  Layer 5: the program's writeLiteral: its ways. (Written by wip/gen/format-p3.py.)
  Layer 5: the program's writeLiteral: its ways. (Written by wip/gen/format-p3.py.)
  Layer 5: the program's literal and Literal, at arrays of few elements.
-/
import Derived.Test.YtghmbmjikkdbnaaGreatDoorCd20
import Derived.Test.YtghmbmjikkdbnaaGreatDoorCd9
import Derived.Test.YtghmbmjikkdbnaaGreatDoorCd18
import Derived.Test.YtghmbmjikkdbnaaGreatDoorCd14
import Derived.Deep.RegionHeld3
import Derived.Deep.DeepCutAuto
import Derived.Test.YtghmbmjikkdbnaaGreatDoorCd13
import Derived.Test.YtghmbmjikkdbnaaGreatDoorCd12
namespace Go.Proofs.YtghmbmjikkdbnaaGreatDoor.Shape
open Go.RowKit Go.Proofs.YtghmbmjikkdbnaaGreatDoor.Num
set_option linter.unusedVariables false
set_option linter.unusedSimpArgs false
set_option maxRecDepth 100000 in
set_option maxHeartbeats 2000000 in
theorem validO (v : Value) (A : Arr) (w : World) (h : ArrAt w v A) (hr : Reach A) (hx0 : rightE A = 0) : Calls Tryz.prog 155 #[v] w (GiveOwn A w) := by
  have hA := h
  obtain ⟨k, sa, ls, sc, na, ln, nc, ia, li, ic, rfl⟩ : ∃ k sa ls sc na ln nc ia li ic, v = .agg #[.int .i64 k, .slice sa ls sc, .slice na ln nc, .slice ia li ic] := by
    obtain ⟨k, sh, nu, it⟩ := A
    rw [ArrAt] at h
    obtain ⟨sa, sc, na, nc, ia, ic, rfl, -⟩ := h
    exact ⟨_, _, _, _, _, _, _, _, _, _, rfl⟩
  have bw := below_two w (.cells #[.int .i64 k, .slice sa ls sc, .slice na ln nc, .slice ia li ic] 30) (.cells #[.int .i64 0, .slice none 0 0, .slice none 0 0, .slice none 0 0] 30)
  have hA1 := hA.below bw
  have q1 := (Quad.new w (.int .i64 k) (.slice sa ls sc) (.slice na ln nc) (.slice ia li ic)).below (below_new _ (.cells #[.int .i64 0, .slice none 0 0, .slice none 0 0, .slice none 0 0] 30))
  have q2 : Quad ((w.alloc (.cells #[.int .i64 k, .slice sa ls sc, .slice na ln nc, .slice ia li ic] 30)).alloc (.cells #[.int .i64 0, .slice none 0 0, .slice none 0 0, .slice none 0 0] 30)) (w.heap.size + 1) (.int .i64 0) (.slice none 0 0) (.slice none 0 0) (.slice none 0 0) := by
    simpa using Quad.new (w.alloc (.cells #[.int .i64 k, .slice sa ls sc, .slice na ln nc, .slice ia li ic] 30)) (.int .i64 0) (.slice none 0 0) (.slice none 0 0) (.slice none 0 0)
  have bz : ((w.alloc (.cells #[.int .i64 k, .slice sa ls sc, .slice na ln nc, .slice ia li ic] 30)).alloc (.cells #[.int .i64 0, .slice none 0 0, .slice none 0 0, .slice none 0 0] 30)).heap.size = w.heap.size + 2 := by simp
  obtain ⟨x, hx⟩ : ∃ x, rightE A = x := ⟨_, rfl⟩
  have R := fun v' w' (g : ArrAt w' v' A) => rightQ v' A w' g
  rw [hx] at R
  have B := bz
  clear bz
  obtain rfl : x = 0 := by rw [← hx, hx0]
  clear hx hx0
  have HB : Hid _ := B
  clear B
  go_enter Tryz.func155, Tryz.ntmps155
  go_wp2_with (first
    | (go_at_call 101; refine (R _ _ hA1).mono ?_; rintro e w1 ⟨rfl, hb1⟩; (obtain ⟨p0, p1, p2, p3, -⟩ := (q1.below hb1).cells))
    | (go_at_call 158; refine (cloneO _ _ _ (hA1.below hb1) hr).mono ?_; rintro e w2 ⟨k', sa', ls', sc', na', ln', nc', ia', li', ic', rfl, hO, hb2⟩; (obtain ⟨s0, s1, s2, s3, s4, s5, s6, s7⟩ := ((q2.below hb1).below hb2).cells)))
  have q3 := (q2.below hb1).below hb2
  have hb := HB.out
  have hs1 := hb1.size
  have G := own_set4 (w := w) (R := w.heap.size + 1) (by omega) (by omega) q3 hO (Below.then (Below.then bw hb1) hb2)
  obtain ⟨QW, -⟩ := set4 q3 (.int .i64 k') (.slice sa' ls' sc') (.slice na' ln' nc') (.slice ia' li' ic')
  generalize ((((w2.setCell ⟨w.heap.size + 1, 0, none⟩ (.int .i64 k')).setCell ⟨w.heap.size + 1, 1, none⟩ (.slice sa' ls' sc')).setCell ⟨w.heap.size + 1, 2, none⟩ (.slice na' ln' nc')).setCell ⟨w.heap.size + 1, 3, none⟩ (.slice ia' li' ic')) = WW at QW G ⊢
  obtain ⟨z0, z1, z2, z3, -⟩ := QW.cells
  exact bodyPost_ret (v := .agg #[.int .i64 k', .slice sa' ls' sc', .slice na' ln' nc', .slice ia' li' ic']) (by simp [results, Tryz.results155, go_sem, z0, z1, z2, z3]) rfl G
set_option maxRecDepth 100000 in
set_option maxHeartbeats 2000000 in
theorem boxO (v : Value) (A : Arr) (w : World) (h : ArrAt w v A) (hA : Reach A) (hx0 : rightE (.mk 3 [] [] [A]) = 0) : Calls Tryz.prog 149 #[v] w (GiveOwn (.mk 3 [] [] [A]) w) := by
  have h0 := h
  obtain ⟨c0, c1, c2, c3, rfl, hc0, hc1, hc2, hc3⟩ : ∃ c0 c1 c2 c3 : Value, v = .agg #[c0, c1, c2, c3] ∧ (∃ k, c0 = .int .i64 k) ∧ (∃ a n c, c1 = .slice a n c) ∧ (∃ a n c, c2 = .slice a n c) ∧ (∃ a n c, c3 = .slice a n c) := by
    obtain ⟨k, sh, nu, it⟩ := A
    rw [ArrAt] at h
    obtain ⟨sa, sc, na, nc, ia, ic, rfl, -⟩ := h
    exact ⟨_, _, _, _, rfl, ⟨_, rfl⟩, ⟨_, _, _, rfl⟩, ⟨_, _, _, rfl⟩, ⟨_, _, _, rfl⟩⟩
  clear h
  have bw := below_three w (.cells #[c0, c1, c2, c3] 30) (.cells #[.int .i64 0, .slice none 0 0, .slice none 0 0, .slice none 0 0] 30) (.cells #[c0, c1, c2, c3] 30)
  have hr : Reach (.mk 3 [] [] [A]) := by rw [Reach]; exact ⟨by simp, by simp, by simp, by rw [ReachL, ReachL]; exact ⟨hA, trivial⟩⟩
  have q9 : Quad (((w.alloc (.cells #[c0, c1, c2, c3] 30)).alloc (.cells #[.int .i64 0, .slice none 0 0, .slice none 0 0, .slice none 0 0] 30)).alloc (.cells #[c0, c1, c2, c3] 30)) (w.heap.size + 2) c0 c1 c2 c3 := by simpa using Quad.new ((w.alloc (.cells #[c0, c1, c2, c3] 30)).alloc (.cells #[.int .i64 0, .slice none 0 0, .slice none 0 0, .slice none 0 0] 30)) c0 c1 c2 c3
  obtain ⟨m0, m1, m2, m3, -⟩ := q9.cells
  have hA1 : ArrAt (((w.alloc (.cells #[c0, c1, c2, c3] 30)).alloc (.cells #[.int .i64 0, .slice none 0 0, .slice none 0 0, .slice none 0 0] 30)).alloc (.cells #[c0, c1, c2, c3] 30)) (.agg #[.int .i64 3, .slice none 0 0, .slice none 0 0, .slice (some ⟨w.heap.size + 1 + 1, 0, none⟩) 1 1]) (.mk 3 [] [] [A]) :=
    arr_boxed (c0 := c0) (c1 := c1) (c2 := c2) (c3 := c3) ⟨m0, m1, m2, m3⟩ (h0.below bw) (by decide) (by decide)
  clear q9 m0 m1 m2 m3
  have q2 : Quad (((w.alloc (.cells #[c0, c1, c2, c3] 30)).alloc (.cells #[.int .i64 0, .slice none 0 0, .slice none 0 0, .slice none 0 0] 30)).alloc (.cells #[c0, c1, c2, c3] 30)) (w.heap.size + 1) (.int .i64 0) (.slice none 0 0) (.slice none 0 0) (.slice none 0 0) := by simpa using (Quad.new (w.alloc (.cells #[c0, c1, c2, c3] 30)) (.int .i64 0) (.slice none 0 0) (.slice none 0 0) (.slice none 0 0)).below (below_new _ (.cells #[c0, c1, c2, c3] 30))
  have HB : Hid ((((w.alloc (.cells #[c0, c1, c2, c3] 30)).alloc (.cells #[.int .i64 0, .slice none 0 0, .slice none 0 0, .slice none 0 0] 30)).alloc (.cells #[c0, c1, c2, c3] 30)).heap.size = w.heap.size + 3) := by unfold Hid; simp
  obtain ⟨k, rfl⟩ := hc0
  obtain ⟨sa, ls, sc, rfl⟩ := hc1
  obtain ⟨na, ln, nc, rfl⟩ := hc2
  obtain ⟨ia, li, ic, rfl⟩ := hc3
  go_enter Tryz.func149, Tryz.ntmps149
  go_wp2_with (go_at_call 155; refine (validO _ _ _ hA1 hr hx0).mono ?_; rintro e w2 ⟨k', sa', ls', sc', na', ln', nc', ia', li', ic', rfl, hO, hb2⟩; (obtain ⟨s0, s1, s2, s3, s4, s5, s6, s7⟩ := (q2.below hb2).cells))
  have q3 := q2.below hb2
  have hb := HB.out
  have G := own_set4 (w := w) (R := w.heap.size + 1) (by omega) (by omega) q3 hO (Below.then bw hb2)
  obtain ⟨QW, -⟩ := set4 q3 (.int .i64 k') (.slice sa' ls' sc') (.slice na' ln' nc') (.slice ia' li' ic')
  generalize ((((w2.setCell ⟨w.heap.size + 1, 0, none⟩ (.int .i64 k')).setCell ⟨w.heap.size + 1, 1, none⟩ (.slice sa' ls' sc')).setCell ⟨w.heap.size + 1, 2, none⟩ (.slice na' ln' nc')).setCell ⟨w.heap.size + 1, 3, none⟩ (.slice ia' li' ic')) = WW at QW G ⊢
  obtain ⟨z0, z1, z2, z3, -⟩ := QW.cells
  exact bodyPost_ret (v := .agg #[.int .i64 k', .slice sa' ls' sc', .slice na' ln' nc', .slice ia' li' ic']) (by simp [results, Tryz.results149, go_sem, z0, z1, z2, z3]) rfl G
theorem right_b0 : rightE (.mk 3 [] [] [.mk 1 [0] [] []]) = 0 := by kernel_rfl
theorem box_O {v : Value} {w : World} (h : ArrAt w v (.mk 1 [0] [] [])) : Calls Tryz.prog 149 #[v] w (GiveOwn (.mk 3 [] [] [.mk 1 [0] [] []]) w) :=
  boxO v _ w h (reach_plain (by decide) (by decide)) right_b0
set_option maxRecDepth 100000 in
set_option maxHeartbeats 2000000 in
theorem fillO (v : Value) (A : Arr) (w : World) (h : ArrAt w v A) (k3 : A.kind = 3) : Calls Tryz.prog 139 #[v] w (GiveOwn (.mk 3 [] [] [.mk 1 [0] [] []]) w) := by
  obtain ⟨k, sh, nu, it⟩ := A
  simp only [Arr.kind] at k3
  rw [ArrAt] at h
  obtain ⟨sa, sc, na, nc, ia, ic, rfl, hk, -⟩ := h
  have bw := below_two w (.cells #[.int .i64 k, .slice sa sh.length sc, .slice na nu.length nc, .slice ia it.length ic] 30) (.cells #[.int .i64 0, .slice none 0 0, .slice none 0 0, .slice none 0 0] 30)
  have q2 : Quad ((w.alloc (.cells #[.int .i64 k, .slice sa sh.length sc, .slice na nu.length nc, .slice ia it.length ic] 30)).alloc (.cells #[.int .i64 0, .slice none 0 0, .slice none 0 0, .slice none 0 0] 30)) (w.heap.size + 1) (.int .i64 0) (.slice none 0 0) (.slice none 0 0) (.slice none 0 0) := by simpa using Quad.new (w.alloc (.cells #[.int .i64 k, .slice sa sh.length sc, .slice na nu.length nc, .slice ia it.length ic] 30)) (.int .i64 0) (.slice none 0 0) (.slice none 0 0) (.slice none 0 0)
  have bz : Hid (((w.alloc (.cells #[.int .i64 k, .slice sa sh.length sc, .slice na nu.length nc, .slice ia it.length ic] 30)).alloc (.cells #[.int .i64 0, .slice none 0 0, .slice none 0 0, .slice none 0 0] 30)).heap.size = w.heap.size + 2) := by unfold Hid; simp
  subst k3
  go_enter Tryz.func139, Tryz.ntmps139
  go_wp2_with (first
    | (go_at_call 150; refine (vector_0 _).mono ?_; intro e w1 hV; (obtain ⟨vk, va, vl, vc, vna, vnl, vnc, via, vil, vic, rfl, hVO, hb1⟩ := hV.form))
    | (go_at_call 149; refine (box_O hVO.at).mono ?_; rintro e w2 ⟨k', sa', ls', sc', na', ln', nc', ia', li', ic', rfl, hO, hb2⟩; (obtain ⟨s0, s1, s2, s3, s4, s5, s6, s7⟩ := ((q2.below hb1).below hb2).cells)))
  have q3 := (q2.below hb1).below hb2
  have hb := bz.out
  have hs1 := hb1.size
  have G := own_set4 (w := w) (R := w.heap.size + 1) (by omega) (by omega) q3 hO (Below.then (Below.then bw hb1) hb2)
  obtain ⟨QW, -⟩ := set4 q3 (.int .i64 k') (.slice sa' ls' sc') (.slice na' ln' nc') (.slice ia' li' ic')
  generalize ((((w2.setCell ⟨w.heap.size + 1, 0, none⟩ (.int .i64 k')).setCell ⟨w.heap.size + 1, 1, none⟩ (.slice sa' ls' sc')).setCell ⟨w.heap.size + 1, 2, none⟩ (.slice na' ln' nc')).setCell ⟨w.heap.size + 1, 3, none⟩ (.slice ia' li' ic')) = WW at QW G ⊢
  obtain ⟨z0, z1, z2, z3, -⟩ := QW.cells
  exact bodyPost_ret (v := .agg #[.int .i64 k', .slice sa' ls' sc', .slice na' ln' nc', .slice ia' li' ic']) (by simp [results, Tryz.results139, go_sem, z0, z1, z2, z3]) rfl G
/-- Such an array lies apart from a builder. -/
theorem own_aw {X : Nat} {w w' : World} (hX : X < w.heap.size) {v : Value} {A : Arr} (h : ArrOn (Own w w') w' v A) : AA X w' v A :=
  h.mono fun g ⟨h1, cs, t, h2⟩ => Or.inr ⟨by omega, _, h2, fun c fz e => by injection e with e1 e2 e3; exact t.2 e2⟩
end Go.Proofs.YtghmbmjikkdbnaaGreatDoor.Shape

namespace Go.Proofs.YtghmbmjikkdbnaaGreatDoor.Shape
open Go.RowKit Go.Proofs.YtghmbmjikkdbnaaGreatDoor.Num
set_option linter.unusedVariables false
set_option linter.unusedSimpArgs false
/-- What the walk of writeLiteral asks of an array. -/
structure LitP (A : Arr) : Prop where
  kind : 1 ≤ A.kind ∧ A.kind ≤ 3
  chars : A.kind = 2 → ∀ x ∈ A.nums, 0 ≤ x ∧ x ≤ 1114111
  nums : A.nums.length ≤ 6000
  items : A.items.length ≤ 6000
  rank : A.shape.length ≤ 8
  one : A.shape.length = 0 → aSize A = 1
  inner : A.kind = 3 → ∀ j (hj : j < A.items.length), WrA A.items[j]
  nil : A.kind = 3 → WrA (.mk 1 [0] [] [])
theorem one_0 (h : 0 < [(0 : Int)].length) : shL ([(0 : Int)][0]'h) = [48] := by
  show shL 0 = [48]
  decide +kernel
theorem lit_n0 : litS (.mk 1 [0] [] []) = [48, 32, 114, 101, 115, 104, 97, 112, 101, 32, 48] := by decide +kernel
theorem box_lit (h : 0 < [Arr.mk 1 [0] [] []].length) : (98 :: 111 :: 120 :: 32 :: litS ([Arr.mk 1 [0] [] []][0]'h)) = [98, 111, 120, 32, 48, 32, 114, 101, 115, 104, 97, 112, 101, 32, 48] := by
  show (98 :: 111 :: 120 :: 32 :: litS (Arr.mk 1 [0] [] [])) = _
  rw [lit_n0]
theorem writeVectorQ (A : Arr) (v : Value) (ok : LitP A) (w : World) (X : Nat) (l : List UInt8) (hl : l.length + (vecS A.kind A.nums (elsT A)).length ≤ 700000) (hT : Tok.TZ w) (hg : 5 < X) (h : Bld w X l) (hA : AA X w v A) :
    Calls Tryz.prog 137 #[.pointer (some ⟨X, 0, none⟩), v] w (Wrote w X (l ++ vecS A.kind A.nums (elsT A))) := by
  have hkk := ok.kind
  have hel := els_len hkk
  have hi := ok.items
  have hn := ok.nums
  have hin := ok.inner
  have hch := ok.chars
  obtain ⟨k, sh, nu, it⟩ := A
  simp only [Arr.kind, Arr.nums, Arr.items] at *
  rcases (by omega : k = 1 ∨ k = 2 ∨ k = 3) with rfl | rfl | rfl
  · have : aSize (.mk 1 sh nu it) = nu.length := size12 (A := .mk 1 sh nu it) (by simp [Arr.kind]) (by simp [Arr.kind])
    exact wv1 sh nu it v _ rfl (by rw [hel, this]; omega) w X l hl hT hg h hA
  · have e : vecS 2 nu (elsT (.mk 2 sh nu it)) = quoS nu := by rw [vecS, if_pos rfl]
    rw [e] at hl ⊢
    exact wv2 sh nu it v (by first | exact hch rfl | exact hch trivial) (by omega) w X l (by omega) hT hg h hA
  · have : aSize (.mk 3 sh nu it) = it.length := size3 (A := .mk 3 sh nu it) rfl
    exact wv3 sh nu it v _ rfl (by rw [hel, this]; omega) (by first | exact hin rfl | exact hin trivial) w X l hl hT hg h hA
theorem headD_at : ∀ {l : List (List UInt8)} (h : 0 < l.length), l.headD [] = l[0]
  | [], h => absurd h (by simp)
  | x :: r, _ => rfl
/-- writeScalar at the first element. -/
theorem writeFirstQ (A : Arr) (v : Value) (ok : LitP A) (h1 : 1 ≤ aSize A) (w : World) (X : Nat) (l : List UInt8) (hl : l.length + ((elsT A).headD []).length ≤ 700000) (hT : Tok.TZ w) (hg : 5 < X) (h : Bld w X l) (hA : AA X w v A) :
    Calls Tryz.prog 138 #[.pointer (some ⟨X, 0, none⟩), v, .int .i64 0] w (Wrote w X (l ++ (elsT A).headD [])) := by
  have hi : 0 < (elsT A).length := by rw [els_len ok.kind]; omega
  have e : (elsT A).headD [] = (elsT A)[0] := headD_at hi
  rw [e] at hl ⊢
  exact writeScalarQ A v 0 ok.kind ok.chars ok.inner hi w X l hl hT hg h hA
end Go.Proofs.YtghmbmjikkdbnaaGreatDoor.Shape

namespace Go.Proofs.YtghmbmjikkdbnaaGreatDoor.Shape
open Go.RowKit Go.Proofs.YtghmbmjikkdbnaaGreatDoor.Num
set_option linter.unusedVariables false
set_option linter.unusedSimpArgs false
set_option maxRecDepth 100000 in
set_option maxHeartbeats 8000000 in
theorem wlA (sh nu : List Int) (it : List Arr) (k : Int) (N : Nat) (hN : aSize (.mk k sh nu it) = N) (ok : LitP (.mk k sh nu it)) (v : Value) (w : World) (X : Nat) (l : List UInt8) (hT : Tok.TZ w) (hg : 5 < X) (h : Bld w X l) (hA : AA X w v (.mk k sh nu it)) (hr0 : Hid (sh.length = 0)) (h1 : 1 ≤ N) (h11 : Hid (N = 1)) (hl : l.length + ((elsT (.mk k sh nu it)).headD []).length ≤ 700000) :
    Calls Tryz.prog 124 #[.pointer (some ⟨X, 0, none⟩), v] w (Wrote w X (l ++ (elsT (.mk k sh nu it)).headD [])) := by
  have hA' := hA
  rw [AA, ArrOn] at hA'
  obtain ⟨sa, sc, na, nc, ia, ic, rfl, hk, hs, hn, h1, h2, b, off, ha, hc⟩ := hA'
  obtain ⟨r, hr⟩ : ∃ r, Hid (sh.length = r) := ⟨_, rfl⟩
  rw [hr.out] at hA ⊢
  have bw := below_new w (.cells #[.int .i64 k, .slice sa r sc, .slice na nu.length nc, .slice ia it.length ic] 30)
  have k0 : Kp X w (w.alloc (.cells #[.int .i64 k, .slice sa r sc, .slice na nu.length nc, .slice ia it.length ic] 30)) := (Kp.refl X w).below (Nat.le_of_lt h.lt) bw
  have hB := h.below bw
  have q0 := Quad.new w (.int .i64 k) (.slice sa r sc) (.slice na nu.length nc) (.slice ia it.length ic)
  have hlt := h.lt
  have hne : w.heap.size ≠ X := Nat.ne_of_gt hlt
  have hX1 : X ≤ (w.alloc (.cells #[.int .i64 k, .slice sa r sc, .slice na nu.length nc, .slice ia it.length ic] 30)).heap.size := by simp; omega
  have cZ : ∀ w', Kp X w w' → Calls Tryz.prog 116 #[(.agg #[.int .i64 k, .slice sa r sc, .slice na nu.length nc, .slice ia it.length ic])] w' fun e w2 => e = .returned (.int .i64 (N : Int)) ∧ Below w'.heap.size w' w2 := fun w' kp => by
    have := sizeQ _ (.mk k sh nu it) w' (AA.at (AA.keep hA kp))
    rw [hN] at this
    exact this
  have hS := fun w' (kp : Kp X w w') => (II.keep hs kp).at
  clear hn h1 h2 ha hc hk
  obtain ⟨W0, hW0⟩ : ∃ W0, w.alloc (.cells #[.int .i64 k, .slice sa r sc, .slice na nu.length nc, .slice ia it.length ic] 30) = W0 := ⟨_, rfl⟩
  have H0 : ∀ w', Below W0.heap.size W0 w' → (w'.cell? ⟨w.heap.size, 0, none⟩ = some (.int .i64 k) ∧ w'.cell? ⟨w.heap.size, 1, none⟩ = some (.slice sa r sc) ∧ w'.cell? ⟨w.heap.size, 2, none⟩ = some (.slice na nu.length nc) ∧ w'.cell? ⟨w.heap.size, 3, none⟩ = some (.slice ia it.length ic)) ∧ Below W0.heap.size W0 w' := fun w' hb => by
    rw [hW0] at q0
    obtain ⟨x0, x1, x2, x3, -⟩ := (Quad.below hb q0).cells
    exact ⟨⟨x0, x1, x2, x3⟩, hb⟩
  have B0 : Below W0.heap.size W0 W0 := Below.refl _ _
  go_enter Tryz.func124, Tryz.ntmps124
  go_upto_region 1 with fail
  try rw [hW0]
  rw [hW0] at k0 hB q0 bw hX1
  go_cut [4, 5] (fun s4 s5 wx => s4 = .int .i64 (r : Int) ∧ s5 = .int .i64 (N : Int) ∧ Below W0.heap.size W0 wx)
  case first =>
    go_region_held3 (fun w' => (w'.cell? ⟨w.heap.size, 0, none⟩ = some (.int .i64 k) ∧ w'.cell? ⟨w.heap.size, 1, none⟩ = some (.slice sa r sc) ∧ w'.cell? ⟨w.heap.size, 2, none⟩ = some (.slice na nu.length nc) ∧ w'.cell? ⟨w.heap.size, 3, none⟩ = some (.slice ia it.length ic)) ∧ Below W0.heap.size W0 w')
      (first | exact H0 _ (by go_grown) | go_keep)
      ((first | (go_at_call 116; (with_reducible refine (cZ _ (Kp.below k0 hX1 (by go_grown))).mono ?_); rintro e w2 ⟨rfl, b2⟩; (have E2 : Below W0.heap.size W0 w2 := Below.then (by go_grown) b2); (have S2 := E2.size))))
    all_goals (go_wp2_with fail; go_meet; exact ⟨rfl, rfl, by first | exact E2 | go_grown⟩)
  case rest =>
    obtain ⟨rfl, rfl, bx⟩ := hcut
    have hrl := hr.out
    have KX := k0.below hX1 bx
    have BX := hB.below bx
    have qx := Quad.below bx q0
    obtain ⟨y0, y1, y2, y3, -⟩ := qx.cells
    clear H0 B0 cZ bw k0 hB q0
    have hr0 := hr0.out
    have h11 := h11.out
    have cS := writeFirstQ (.mk k sh nu it) _ ok (by rw [hN]; exact h1) wc X l hl (tz_kp hT hg KX) hg BX (AA.keep hA KX)
    have e1 : ((r : Int) == 1) = false := by simp; omega
    have e2 : ¬ (0 : Int) < (r : Int) := by omega
    have e3 : ¬ (1 : Int) < (N : Int) := by omega
    have e4 : ((N : Int) == 1) = true := by simp; omega
    clear hr0 h1 h11 hN hS hrl
    go_wp2_with ((go_at_call 138; (with_reducible refine cS.mono ?_); rintro e5 w5 ⟨rfl, h5, k5⟩))
    refine bodyPost_ret (results_none rfl _ _ _) rfl ?_
    exact ⟨rfl, h5, KX.trans k5⟩
set_option maxRecDepth 100000 in
set_option maxHeartbeats 8000000 in
theorem wlB2 (sh nu : List Int) (it : List Arr) (k : Int) (N : Nat) (hN : aSize (.mk k sh nu it) = N) (ok : LitP (.mk k sh nu it)) (v : Value) (w : World) (X : Nat) (l : List UInt8) (hT : Tok.TZ w) (hg : 5 < X) (h : Bld w X l) (hA : AA X w v (.mk k sh nu it)) (hr1 : Hid (sh.length = 1)) (hk2 : Hid (k = 2)) (hNn : ¬ 2 ≤ N) (hl : l.length + (vecS k nu (elsT (.mk k sh nu it))).length ≤ 700000) :
    Calls Tryz.prog 124 #[.pointer (some ⟨X, 0, none⟩), v] w (Wrote w X (l ++ vecS k nu (elsT (.mk k sh nu it)))) := by
  have hA' := hA
  rw [AA, ArrOn] at hA'
  obtain ⟨sa, sc, na, nc, ia, ic, rfl, hk, hs, hn, h1, h2, b, off, ha, hc⟩ := hA'
  obtain ⟨r, hr⟩ : ∃ r, Hid (sh.length = r) := ⟨_, rfl⟩
  rw [hr.out] at hA ⊢
  have bw := below_new w (.cells #[.int .i64 k, .slice sa r sc, .slice na nu.length nc, .slice ia it.length ic] 30)
  have k0 : Kp X w (w.alloc (.cells #[.int .i64 k, .slice sa r sc, .slice na nu.length nc, .slice ia it.length ic] 30)) := (Kp.refl X w).below (Nat.le_of_lt h.lt) bw
  have hB := h.below bw
  have q0 := Quad.new w (.int .i64 k) (.slice sa r sc) (.slice na nu.length nc) (.slice ia it.length ic)
  have hlt := h.lt
  have hne : w.heap.size ≠ X := Nat.ne_of_gt hlt
  have hX1 : X ≤ (w.alloc (.cells #[.int .i64 k, .slice sa r sc, .slice na nu.length nc, .slice ia it.length ic] 30)).heap.size := by simp; omega
  have cZ : ∀ w', Kp X w w' → Calls Tryz.prog 116 #[(.agg #[.int .i64 k, .slice sa r sc, .slice na nu.length nc, .slice ia it.length ic])] w' fun e w2 => e = .returned (.int .i64 (N : Int)) ∧ Below w'.heap.size w' w2 := fun w' kp => by
    have := sizeQ _ (.mk k sh nu it) w' (AA.at (AA.keep hA kp))
    rw [hN] at this
    exact this
  have hS := fun w' (kp : Kp X w w') => (II.keep hs kp).at
  clear hn h1 h2 ha hc hk
  obtain ⟨W0, hW0⟩ : ∃ W0, w.alloc (.cells #[.int .i64 k, .slice sa r sc, .slice na nu.length nc, .slice ia it.length ic] 30) = W0 := ⟨_, rfl⟩
  have H0 : ∀ w', Below W0.heap.size W0 w' → (w'.cell? ⟨w.heap.size, 0, none⟩ = some (.int .i64 k) ∧ w'.cell? ⟨w.heap.size, 1, none⟩ = some (.slice sa r sc) ∧ w'.cell? ⟨w.heap.size, 2, none⟩ = some (.slice na nu.length nc) ∧ w'.cell? ⟨w.heap.size, 3, none⟩ = some (.slice ia it.length ic)) ∧ Below W0.heap.size W0 w' := fun w' hb => by
    rw [hW0] at q0
    obtain ⟨x0, x1, x2, x3, -⟩ := (Quad.below hb q0).cells
    exact ⟨⟨x0, x1, x2, x3⟩, hb⟩
  have B0 : Below W0.heap.size W0 W0 := Below.refl _ _
  go_enter Tryz.func124, Tryz.ntmps124
  go_upto_region 1 with fail
  try rw [hW0]
  rw [hW0] at k0 hB q0 bw hX1
  go_cut [4, 5] (fun s4 s5 wx => s4 = .int .i64 (r : Int) ∧ s5 = .int .i64 (N : Int) ∧ Below W0.heap.size W0 wx)
  case first =>
    go_region_held3 (fun w' => (w'.cell? ⟨w.heap.size, 0, none⟩ = some (.int .i64 k) ∧ w'.cell? ⟨w.heap.size, 1, none⟩ = some (.slice sa r sc) ∧ w'.cell? ⟨w.heap.size, 2, none⟩ = some (.slice na nu.length nc) ∧ w'.cell? ⟨w.heap.size, 3, none⟩ = some (.slice ia it.length ic)) ∧ Below W0.heap.size W0 w')
      (first | exact H0 _ (by go_grown) | go_keep)
      ((first | (go_at_call 116; (with_reducible refine (cZ _ (Kp.below k0 hX1 (by go_grown))).mono ?_); rintro e w2 ⟨rfl, b2⟩; (have E2 : Below W0.heap.size W0 w2 := Below.then (by go_grown) b2); (have S2 := E2.size))))
    all_goals (go_wp2_with fail; go_meet; exact ⟨rfl, rfl, by first | exact E2 | go_grown⟩)
  case rest =>
    obtain ⟨rfl, rfl, bx⟩ := hcut
    have hrl := hr.out
    have KX := k0.below hX1 bx
    have BX := hB.below bx
    have qx := Quad.below bx q0
    obtain ⟨y0, y1, y2, y3, -⟩ := qx.cells
    clear H0 B0 cZ bw k0 hB q0
    have hr1 := hr1.out
    have hk2 := hk2.out
    have cV := writeVectorQ (.mk k sh nu it) _ ok wc X l hl (tz_kp hT hg KX) hg BX (AA.keep hA KX)
    have e1 : ((r : Int) == 1) = true := by simp; omega
    have e2 : (0 : Int) < (r : Int) := by omega
    have e5 : (k == 2) = true := by simp; omega
    have e3 : ¬ (1 : Int) < (N : Int) := by omega
    clear hr1 hNn hN hS hrl
    clear hk2
    go_wp2_with ((go_at_call 137; (with_reducible refine cV.mono ?_); rintro e5 w5 ⟨rfl, h5, k5⟩))
    refine bodyPost_ret (results_none rfl _ _ _) rfl ?_
    exact ⟨rfl, h5, KX.trans k5⟩
set_option maxRecDepth 100000 in
set_option maxHeartbeats 8000000 in
theorem wlBn (sh nu : List Int) (it : List Arr) (k : Int) (N : Nat) (hN : aSize (.mk k sh nu it) = N) (ok : LitP (.mk k sh nu it)) (v : Value) (w : World) (X : Nat) (l : List UInt8) (hT : Tok.TZ w) (hg : 5 < X) (h : Bld w X l) (hA : AA X w v (.mk k sh nu it)) (hr1 : Hid (sh.length = 1)) (hNn : 2 ≤ N) (hl : l.length + (vecS k nu (elsT (.mk k sh nu it))).length ≤ 700000) :
    Calls Tryz.prog 124 #[.pointer (some ⟨X, 0, none⟩), v] w (Wrote w X (l ++ vecS k nu (elsT (.mk k sh nu it)))) := by
  have hA' := hA
  rw [AA, ArrOn] at hA'
  obtain ⟨sa, sc, na, nc, ia, ic, rfl, hk, hs, hn, h1, h2, b, off, ha, hc⟩ := hA'
  obtain ⟨r, hr⟩ : ∃ r, Hid (sh.length = r) := ⟨_, rfl⟩
  rw [hr.out] at hA ⊢
  have bw := below_new w (.cells #[.int .i64 k, .slice sa r sc, .slice na nu.length nc, .slice ia it.length ic] 30)
  have k0 : Kp X w (w.alloc (.cells #[.int .i64 k, .slice sa r sc, .slice na nu.length nc, .slice ia it.length ic] 30)) := (Kp.refl X w).below (Nat.le_of_lt h.lt) bw
  have hB := h.below bw
  have q0 := Quad.new w (.int .i64 k) (.slice sa r sc) (.slice na nu.length nc) (.slice ia it.length ic)
  have hlt := h.lt
  have hne : w.heap.size ≠ X := Nat.ne_of_gt hlt
  have hX1 : X ≤ (w.alloc (.cells #[.int .i64 k, .slice sa r sc, .slice na nu.length nc, .slice ia it.length ic] 30)).heap.size := by simp; omega
  have cZ : ∀ w', Kp X w w' → Calls Tryz.prog 116 #[(.agg #[.int .i64 k, .slice sa r sc, .slice na nu.length nc, .slice ia it.length ic])] w' fun e w2 => e = .returned (.int .i64 (N : Int)) ∧ Below w'.heap.size w' w2 := fun w' kp => by
    have := sizeQ _ (.mk k sh nu it) w' (AA.at (AA.keep hA kp))
    rw [hN] at this
    exact this
  have hS := fun w' (kp : Kp X w w') => (II.keep hs kp).at
  clear hn h1 h2 ha hc hk
  obtain ⟨W0, hW0⟩ : ∃ W0, w.alloc (.cells #[.int .i64 k, .slice sa r sc, .slice na nu.length nc, .slice ia it.length ic] 30) = W0 := ⟨_, rfl⟩
  have H0 : ∀ w', Below W0.heap.size W0 w' → (w'.cell? ⟨w.heap.size, 0, none⟩ = some (.int .i64 k) ∧ w'.cell? ⟨w.heap.size, 1, none⟩ = some (.slice sa r sc) ∧ w'.cell? ⟨w.heap.size, 2, none⟩ = some (.slice na nu.length nc) ∧ w'.cell? ⟨w.heap.size, 3, none⟩ = some (.slice ia it.length ic)) ∧ Below W0.heap.size W0 w' := fun w' hb => by
    rw [hW0] at q0
    obtain ⟨x0, x1, x2, x3, -⟩ := (Quad.below hb q0).cells
    exact ⟨⟨x0, x1, x2, x3⟩, hb⟩
  have B0 : Below W0.heap.size W0 W0 := Below.refl _ _
  go_enter Tryz.func124, Tryz.ntmps124
  go_upto_region 1 with fail
  try rw [hW0]
  rw [hW0] at k0 hB q0 bw hX1
  go_cut [4, 5] (fun s4 s5 wx => s4 = .int .i64 (r : Int) ∧ s5 = .int .i64 (N : Int) ∧ Below W0.heap.size W0 wx)
  case first =>
    go_region_held3 (fun w' => (w'.cell? ⟨w.heap.size, 0, none⟩ = some (.int .i64 k) ∧ w'.cell? ⟨w.heap.size, 1, none⟩ = some (.slice sa r sc) ∧ w'.cell? ⟨w.heap.size, 2, none⟩ = some (.slice na nu.length nc) ∧ w'.cell? ⟨w.heap.size, 3, none⟩ = some (.slice ia it.length ic)) ∧ Below W0.heap.size W0 w')
      (first | exact H0 _ (by go_grown) | go_keep)
      ((first | (go_at_call 116; (with_reducible refine (cZ _ (Kp.below k0 hX1 (by go_grown))).mono ?_); rintro e w2 ⟨rfl, b2⟩; (have E2 : Below W0.heap.size W0 w2 := Below.then (by go_grown) b2); (have S2 := E2.size))))
    all_goals (go_wp2_with fail; go_meet; exact ⟨rfl, rfl, by first | exact E2 | go_grown⟩)
  case rest =>
    obtain ⟨rfl, rfl, bx⟩ := hcut
    have hrl := hr.out
    have KX := k0.below hX1 bx
    have BX := hB.below bx
    have qx := Quad.below bx q0
    obtain ⟨y0, y1, y2, y3, -⟩ := qx.cells
    clear H0 B0 cZ bw k0 hB q0
    have hr1 := hr1.out
    have cV := writeVectorQ (.mk k sh nu it) _ ok wc X l hl (tz_kp hT hg KX) hg BX (AA.keep hA KX)
    have e1 : ((r : Int) == 1) = true := by simp; omega
    have e2 : (0 : Int) < (r : Int) := by omega
    have e3 : (1 : Int) < (N : Int) := by omega
    clear hr1 hNn hN hS hrl
    go_wp2_with ((go_at_call 137; (with_reducible refine cV.mono ?_); rintro e5 w5 ⟨rfl, h5, k5⟩))
    refine bodyPost_ret (results_none rfl _ _ _) rfl ?_
    exact ⟨rfl, h5, KX.trans k5⟩
set_option maxRecDepth 100000 in
set_option maxHeartbeats 8000000 in
theorem wlC1 (sh nu : List Int) (it : List Arr) (k : Int) (N : Nat) (hN : aSize (.mk k sh nu it) = N) (ok : LitP (.mk k sh nu it)) (v : Value) (w : World) (X : Nat) (l : List UInt8) (hT : Tok.TZ w) (hg : 5 < X) (h : Bld w X l) (hA : AA X w v (.mk k sh nu it)) (hr1 : 1 ≤ sh.length) (hv : ¬ sh.length = 1) (hNn : 2 ≤ N) (hl : (l ++ jn sh ++ reS).length + (vecS k nu (elsT (.mk k sh nu it))).length ≤ 700000) :
    Calls Tryz.prog 124 #[.pointer (some ⟨X, 0, none⟩), v] w (Wrote w X (l ++ (jn sh ++ reS ++ vecS k nu (elsT (.mk k sh nu it))))) := by
  have hA' := hA
  rw [AA, ArrOn] at hA'
  obtain ⟨sa, sc, na, nc, ia, ic, rfl, hk, hs, hn, h1, h2, b, off, ha, hc⟩ := hA'
  obtain ⟨r, hr⟩ : ∃ r, Hid (sh.length = r) := ⟨_, rfl⟩
  rw [hr.out] at hA ⊢
  have bw := below_new w (.cells #[.int .i64 k, .slice sa r sc, .slice na nu.length nc, .slice ia it.length ic] 30)
  have k0 : Kp X w (w.alloc (.cells #[.int .i64 k, .slice sa r sc, .slice na nu.length nc, .slice ia it.length ic] 30)) := (Kp.refl X w).below (Nat.le_of_lt h.lt) bw
  have hB := h.below bw
  have q0 := Quad.new w (.int .i64 k) (.slice sa r sc) (.slice na nu.length nc) (.slice ia it.length ic)
  have hlt := h.lt
  have hne : w.heap.size ≠ X := Nat.ne_of_gt hlt
  have hX1 : X ≤ (w.alloc (.cells #[.int .i64 k, .slice sa r sc, .slice na nu.length nc, .slice ia it.length ic] 30)).heap.size := by simp; omega
  have cZ : ∀ w', Kp X w w' → Calls Tryz.prog 116 #[(.agg #[.int .i64 k, .slice sa r sc, .slice na nu.length nc, .slice ia it.length ic])] w' fun e w2 => e = .returned (.int .i64 (N : Int)) ∧ Below w'.heap.size w' w2 := fun w' kp => by
    have := sizeQ _ (.mk k sh nu it) w' (AA.at (AA.keep hA kp))
    rw [hN] at this
    exact this
  have hS := fun w' (kp : Kp X w w') => (II.keep hs kp).at
  clear hn h1 h2 ha hc hk
  obtain ⟨W0, hW0⟩ : ∃ W0, w.alloc (.cells #[.int .i64 k, .slice sa r sc, .slice na nu.length nc, .slice ia it.length ic] 30) = W0 := ⟨_, rfl⟩
  have H0 : ∀ w', Below W0.heap.size W0 w' → (w'.cell? ⟨w.heap.size, 0, none⟩ = some (.int .i64 k) ∧ w'.cell? ⟨w.heap.size, 1, none⟩ = some (.slice sa r sc) ∧ w'.cell? ⟨w.heap.size, 2, none⟩ = some (.slice na nu.length nc) ∧ w'.cell? ⟨w.heap.size, 3, none⟩ = some (.slice ia it.length ic)) ∧ Below W0.heap.size W0 w' := fun w' hb => by
    rw [hW0] at q0
    obtain ⟨x0, x1, x2, x3, -⟩ := (Quad.below hb q0).cells
    exact ⟨⟨x0, x1, x2, x3⟩, hb⟩
  have B0 : Below W0.heap.size W0 W0 := Below.refl _ _
  go_enter Tryz.func124, Tryz.ntmps124
  go_upto_region 1 with fail
  try rw [hW0]
  rw [hW0] at k0 hB q0 bw hX1
  go_cut [4, 5] (fun s4 s5 wx => s4 = .int .i64 (r : Int) ∧ s5 = .int .i64 (N : Int) ∧ Below W0.heap.size W0 wx)
  case first =>
    go_region_held3 (fun w' => (w'.cell? ⟨w.heap.size, 0, none⟩ = some (.int .i64 k) ∧ w'.cell? ⟨w.heap.size, 1, none⟩ = some (.slice sa r sc) ∧ w'.cell? ⟨w.heap.size, 2, none⟩ = some (.slice na nu.length nc) ∧ w'.cell? ⟨w.heap.size, 3, none⟩ = some (.slice ia it.length ic)) ∧ Below W0.heap.size W0 w')
      (first | exact H0 _ (by go_grown) | go_keep)
      ((first | (go_at_call 116; (with_reducible refine (cZ _ (Kp.below k0 hX1 (by go_grown))).mono ?_); rintro e w2 ⟨rfl, b2⟩; (have E2 : Below W0.heap.size W0 w2 := Below.then (by go_grown) b2); (have S2 := E2.size))))
    all_goals (go_wp2_with fail; go_meet; exact ⟨rfl, rfl, by first | exact E2 | go_grown⟩)
  case rest =>
    obtain ⟨rfl, rfl, bx⟩ := hcut
    have hrl := hr.out
    have KX := k0.below hX1 bx
    have BX := hB.below bx
    have qx := Quad.below bx q0
    obtain ⟨y0, y1, y2, y3, -⟩ := qx.cells
    clear H0 B0 cZ bw k0 hB q0
    have cSh : Calls Tryz.prog 136 #[.slice sa r sc] wc fun e w' => e = .returned (.string ⟨(jn sh).toArray⟩) ∧ Below wc.heap.size wc w' := by
      have := shapeShowP sa sc sh wc (hS wc KX) (by have := ok.rank; simp only [Arr.shape] at this; omega)
      rw [hr.out] at this
      exact this
    have hj0 : l.length ≤ 1000000 := by simp only [List.length_append] at hl; omega
    have hj1 : (jn sh).length ≤ 1000000 := by simp only [List.length_append] at hl; omega
    have hj2 : (l ++ jn sh).length ≤ 1000000 := by simp only [List.length_append] at hl ⊢; omega
    have e2 : (0 : Int) < (r : Int) := by omega
    have e1 : ((r : Int) == 1) = false := by simp; omega
    have e3 : (1 : Int) < (N : Int) := by omega
    clear hv
    have hl3 : (l ++ jn sh ++ reS).length + (vecS k nu (elsT (.mk k sh nu it))).length ≤ 700000 := hl
    clear hr1 hNn hN hS hrl
    go_wp2_with (first
      | (go_at_call 136; (with_reducible refine cSh.mono ?_); rintro e1 w1 ⟨rfl, b1⟩; have B1 := Bld.below BX b1; have K1 := Kp.below KX (Nat.le_of_lt BX.lt) b1; have q1 := Quad.below b1 qx)
      | (go_at_call 68; (with_reducible refine (wrL _ X l (jn sh) hj1 hj0 B1).mono ?_); rintro e2 w2 ⟨⟨n2, rfl⟩, B2, k2⟩; have K2 := Kp.trans K1 k2; have q2 := Quad.kp q1 hne k2)
      | (go_at_call 68; (with_reducible refine (wrL _ X (l ++ jn sh) [32, 114, 101, 115, 104, 97, 112, 101, 32] (by decide) hj2 B2).mono ?_); rintro e3 w3 ⟨⟨n3, rfl⟩, B3, k3⟩; have K3 := Kp.trans K2 k3; have q3 := Quad.kp q2 hne k3; obtain ⟨z0, z1, z2, z3, -⟩ := Quad.cells q3; have cV := writeVectorQ (.mk k sh nu it) _ ok w3 X (l ++ jn sh ++ reS) hl3 (tz_kp hT hg K3) hg B3 (AA.keep hA K3))
      | (go_at_call 137; (with_reducible refine cV.mono ?_); rintro e5 w5 ⟨rfl, h5, k5⟩))
    refine bodyPost_ret (results_none rfl _ _ _) rfl ?_
    refine ⟨rfl, ?_, K3.trans k5⟩
    rw [show l ++ (jn sh ++ reS ++ vecS k nu (elsT (.mk k sh nu it))) = (l ++ jn sh ++ reS) ++ vecS k nu (elsT (.mk k sh nu it)) by simp]
    exact h5
end Go.Proofs.YtghmbmjikkdbnaaGreatDoor.Shape

namespace Go.Proofs.YtghmbmjikkdbnaaGreatDoor.Shape
open Go.RowKit Go.Proofs.YtghmbmjikkdbnaaGreatDoor.Num
set_option linter.unusedVariables false
set_option linter.unusedSimpArgs false
set_option maxRecDepth 100000 in
set_option maxHeartbeats 8000000 in
theorem wlC2r (sh nu : List Int) (it : List Arr) (k : Int) (N : Nat) (hN : aSize (.mk k sh nu it) = N) (ok : LitP (.mk k sh nu it)) (v : Value) (w : World) (X : Nat) (l : List UInt8) (hT : Tok.TZ w) (hg : 5 < X) (h : Bld w X l) (hA : AA X w v (.mk k sh nu it)) (hr1 : 1 ≤ sh.length) (hv : ¬ sh.length = 1) (h11 : Hid (N = 1)) (hl : (l ++ jn sh ++ reS).length + ((elsT (.mk k sh nu it)).headD []).length ≤ 700000) :
    Calls Tryz.prog 124 #[.pointer (some ⟨X, 0, none⟩), v] w (Wrote w X (l ++ (jn sh ++ reS ++ (elsT (.mk k sh nu it)).headD []))) := by
  have hA' := hA
  rw [AA, ArrOn] at hA'
  obtain ⟨sa, sc, na, nc, ia, ic, rfl, hk, hs, hn, h1, h2, b, off, ha, hc⟩ := hA'
  obtain ⟨r, hr⟩ : ∃ r, Hid (sh.length = r) := ⟨_, rfl⟩
  rw [hr.out] at hA ⊢
  have bw := below_new w (.cells #[.int .i64 k, .slice sa r sc, .slice na nu.length nc, .slice ia it.length ic] 30)
  have k0 : Kp X w (w.alloc (.cells #[.int .i64 k, .slice sa r sc, .slice na nu.length nc, .slice ia it.length ic] 30)) := (Kp.refl X w).below (Nat.le_of_lt h.lt) bw
  have hB := h.below bw
  have q0 := Quad.new w (.int .i64 k) (.slice sa r sc) (.slice na nu.length nc) (.slice ia it.length ic)
  have hlt := h.lt
  have hne : w.heap.size ≠ X := Nat.ne_of_gt hlt
  have hX1 : X ≤ (w.alloc (.cells #[.int .i64 k, .slice sa r sc, .slice na nu.length nc, .slice ia it.length ic] 30)).heap.size := by simp; omega
  have cZ : ∀ w', Kp X w w' → Calls Tryz.prog 116 #[(.agg #[.int .i64 k, .slice sa r sc, .slice na nu.length nc, .slice ia it.length ic])] w' fun e w2 => e = .returned (.int .i64 (N : Int)) ∧ Below w'.heap.size w' w2 := fun w' kp => by
    have := sizeQ _ (.mk k sh nu it) w' (AA.at (AA.keep hA kp))
    rw [hN] at this
    exact this
  have hS := fun w' (kp : Kp X w w') => (II.keep hs kp).at
  clear hn h1 h2 ha hc hk
  obtain ⟨W0, hW0⟩ : ∃ W0, w.alloc (.cells #[.int .i64 k, .slice sa r sc, .slice na nu.length nc, .slice ia it.length ic] 30) = W0 := ⟨_, rfl⟩
  have H0 : ∀ w', Below W0.heap.size W0 w' → (w'.cell? ⟨w.heap.size, 0, none⟩ = some (.int .i64 k) ∧ w'.cell? ⟨w.heap.size, 1, none⟩ = some (.slice sa r sc) ∧ w'.cell? ⟨w.heap.size, 2, none⟩ = some (.slice na nu.length nc) ∧ w'.cell? ⟨w.heap.size, 3, none⟩ = some (.slice ia it.length ic)) ∧ Below W0.heap.size W0 w' := fun w' hb => by
    rw [hW0] at q0
    obtain ⟨x0, x1, x2, x3, -⟩ := (Quad.below hb q0).cells
    exact ⟨⟨x0, x1, x2, x3⟩, hb⟩
  have B0 : Below W0.heap.size W0 W0 := Below.refl _ _
  go_enter Tryz.func124, Tryz.ntmps124
  go_upto_region 1 with fail
  try rw [hW0]
  rw [hW0] at k0 hB q0 bw hX1
  go_cut [4, 5] (fun s4 s5 wx => s4 = .int .i64 (r : Int) ∧ s5 = .int .i64 (N : Int) ∧ Below W0.heap.size W0 wx)
  case first =>
    go_region_held3 (fun w' => (w'.cell? ⟨w.heap.size, 0, none⟩ = some (.int .i64 k) ∧ w'.cell? ⟨w.heap.size, 1, none⟩ = some (.slice sa r sc) ∧ w'.cell? ⟨w.heap.size, 2, none⟩ = some (.slice na nu.length nc) ∧ w'.cell? ⟨w.heap.size, 3, none⟩ = some (.slice ia it.length ic)) ∧ Below W0.heap.size W0 w')
      (first | exact H0 _ (by go_grown) | go_keep)
      ((first | (go_at_call 116; (with_reducible refine (cZ _ (Kp.below k0 hX1 (by go_grown))).mono ?_); rintro e w2 ⟨rfl, b2⟩; (have E2 : Below W0.heap.size W0 w2 := Below.then (by go_grown) b2); (have S2 := E2.size))))
    all_goals (go_wp2_with fail; go_meet; exact ⟨rfl, rfl, by first | exact E2 | go_grown⟩)
  case rest =>
    obtain ⟨rfl, rfl, bx⟩ := hcut
    have hrl := hr.out
    have KX := k0.below hX1 bx
    have BX := hB.below bx
    have qx := Quad.below bx q0
    obtain ⟨y0, y1, y2, y3, -⟩ := qx.cells
    clear H0 B0 cZ bw k0 hB q0
    have h11 := h11.out
    have cSh : Calls Tryz.prog 136 #[.slice sa r sc] wc fun e w' => e = .returned (.string ⟨(jn sh).toArray⟩) ∧ Below wc.heap.size wc w' := by
      have := shapeShowP sa sc sh wc (hS wc KX) (by have := ok.rank; simp only [Arr.shape] at this; omega)
      rw [hr.out] at this
      exact this
    have hj0 : l.length ≤ 1000000 := by simp only [List.length_append] at hl; omega
    have hj1 : (jn sh).length ≤ 1000000 := by simp only [List.length_append] at hl; omega
    have hj2 : (l ++ jn sh).length ≤ 1000000 := by simp only [List.length_append] at hl ⊢; omega
    have e2 : (0 : Int) < (r : Int) := by omega
    have e1 : ((r : Int) == 1) = false := by simp; omega
    have e3 : ¬ (1 : Int) < (N : Int) := by omega
    have e4 : ((N : Int) == 1) = true := by simp; omega
    have h1N : 1 ≤ aSize (.mk k sh nu it) := by rw [hN]; omega
    have hl3 : (l ++ jn sh ++ reS).length + ((elsT (.mk k sh nu it)).headD []).length ≤ 700000 := hl
    clear hr1 hv h11 hN hS hrl
    go_wp2_with (first
      | (go_at_call 136; (with_reducible refine cSh.mono ?_); rintro e1 w1 ⟨rfl, b1⟩; have B1 := Bld.below BX b1; have K1 := Kp.below KX (Nat.le_of_lt BX.lt) b1; have q1 := Quad.below b1 qx)
      | (go_at_call 68; (with_reducible refine (wrL _ X l (jn sh) hj1 hj0 B1).mono ?_); rintro e2 w2 ⟨⟨n2, rfl⟩, B2, k2⟩; have K2 := Kp.trans K1 k2; have q2 := Quad.kp q1 hne k2)
      | (go_at_call 68; (with_reducible refine (wrL _ X (l ++ jn sh) [32, 114, 101, 115, 104, 97, 112, 101, 32] (by decide) hj2 B2).mono ?_); rintro e3 w3 ⟨⟨n3, rfl⟩, B3, k3⟩; have K3 := Kp.trans K2 k3; have q3 := Quad.kp q2 hne k3; obtain ⟨z0, z1, z2, z3, -⟩ := Quad.cells q3; have cS := writeFirstQ (.mk k sh nu it) _ ok h1N w3 X (l ++ jn sh ++ reS) hl3 (tz_kp hT hg K3) hg B3 (AA.keep hA K3))
      | (go_at_call 138; (with_reducible refine cS.mono ?_); rintro e5 w5 ⟨rfl, h5, k5⟩))
    refine bodyPost_ret (results_none rfl _ _ _) rfl ?_
    refine ⟨rfl, ?_, K3.trans k5⟩
    rw [show l ++ (jn sh ++ reS ++ (elsT (.mk k sh nu it)).headD []) = (l ++ jn sh ++ reS) ++ (elsT (.mk k sh nu it)).headD [] by simp]
    exact h5
set_option maxRecDepth 100000 in
set_option maxHeartbeats 8000000 in
theorem wlC3r1 (sh nu : List Int) (it : List Arr) (k : Int) (N : Nat) (hN : aSize (.mk k sh nu it) = N) (ok : LitP (.mk k sh nu it)) (v : Value) (w : World) (X : Nat) (l : List UInt8) (hT : Tok.TZ w) (hg : 5 < X) (h : Bld w X l) (hA : AA X w v (.mk k sh nu it)) (hr1 : 1 ≤ sh.length) (hv : ¬ sh.length = 1) (h11 : Hid (N = 0)) (hk1 : Hid (k = 1)) (hl : (l ++ jn sh ++ reS).length + ([48]).length ≤ 700000) :
    Calls Tryz.prog 124 #[.pointer (some ⟨X, 0, none⟩), v] w (Wrote w X (l ++ (jn sh ++ reS ++ [48]))) := by
  have hA' := hA
  rw [AA, ArrOn] at hA'
  obtain ⟨sa, sc, na, nc, ia, ic, rfl, hk, hs, hn, h1, h2, b, off, ha, hc⟩ := hA'
  obtain ⟨r, hr⟩ : ∃ r, Hid (sh.length = r) := ⟨_, rfl⟩
  rw [hr.out] at hA ⊢
  have bw := below_new w (.cells #[.int .i64 k, .slice sa r sc, .slice na nu.length nc, .slice ia it.length ic] 30)
  have k0 : Kp X w (w.alloc (.cells #[.int .i64 k, .slice sa r sc, .slice na nu.length nc, .slice ia it.length ic] 30)) := (Kp.refl X w).below (Nat.le_of_lt h.lt) bw
  have hB := h.below bw
  have q0 := Quad.new w (.int .i64 k) (.slice sa r sc) (.slice na nu.length nc) (.slice ia it.length ic)
  have hlt := h.lt
  have hne : w.heap.size ≠ X := Nat.ne_of_gt hlt
  have hX1 : X ≤ (w.alloc (.cells #[.int .i64 k, .slice sa r sc, .slice na nu.length nc, .slice ia it.length ic] 30)).heap.size := by simp; omega
  have cZ : ∀ w', Kp X w w' → Calls Tryz.prog 116 #[(.agg #[.int .i64 k, .slice sa r sc, .slice na nu.length nc, .slice ia it.length ic])] w' fun e w2 => e = .returned (.int .i64 (N : Int)) ∧ Below w'.heap.size w' w2 := fun w' kp => by
    have := sizeQ _ (.mk k sh nu it) w' (AA.at (AA.keep hA kp))
    rw [hN] at this
    exact this
  have hS := fun w' (kp : Kp X w w') => (II.keep hs kp).at
  clear hn h1 h2 ha hc hk
  obtain ⟨W0, hW0⟩ : ∃ W0, w.alloc (.cells #[.int .i64 k, .slice sa r sc, .slice na nu.length nc, .slice ia it.length ic] 30) = W0 := ⟨_, rfl⟩
  have H0 : ∀ w', Below W0.heap.size W0 w' → (w'.cell? ⟨w.heap.size, 0, none⟩ = some (.int .i64 k) ∧ w'.cell? ⟨w.heap.size, 1, none⟩ = some (.slice sa r sc) ∧ w'.cell? ⟨w.heap.size, 2, none⟩ = some (.slice na nu.length nc) ∧ w'.cell? ⟨w.heap.size, 3, none⟩ = some (.slice ia it.length ic)) ∧ Below W0.heap.size W0 w' := fun w' hb => by
    rw [hW0] at q0
    obtain ⟨x0, x1, x2, x3, -⟩ := (Quad.below hb q0).cells
    exact ⟨⟨x0, x1, x2, x3⟩, hb⟩
  have B0 : Below W0.heap.size W0 W0 := Below.refl _ _
  go_enter Tryz.func124, Tryz.ntmps124
  go_upto_region 1 with fail
  try rw [hW0]
  rw [hW0] at k0 hB q0 bw hX1
  go_cut [4, 5] (fun s4 s5 wx => s4 = .int .i64 (r : Int) ∧ s5 = .int .i64 (N : Int) ∧ Below W0.heap.size W0 wx)
  case first =>
    go_region_held3 (fun w' => (w'.cell? ⟨w.heap.size, 0, none⟩ = some (.int .i64 k) ∧ w'.cell? ⟨w.heap.size, 1, none⟩ = some (.slice sa r sc) ∧ w'.cell? ⟨w.heap.size, 2, none⟩ = some (.slice na nu.length nc) ∧ w'.cell? ⟨w.heap.size, 3, none⟩ = some (.slice ia it.length ic)) ∧ Below W0.heap.size W0 w')
      (first | exact H0 _ (by go_grown) | go_keep)
      ((first | (go_at_call 116; (with_reducible refine (cZ _ (Kp.below k0 hX1 (by go_grown))).mono ?_); rintro e w2 ⟨rfl, b2⟩; (have E2 : Below W0.heap.size W0 w2 := Below.then (by go_grown) b2); (have S2 := E2.size))))
    all_goals (go_wp2_with fail; go_meet; exact ⟨rfl, rfl, by first | exact E2 | go_grown⟩)
  case rest =>
    obtain ⟨rfl, rfl, bx⟩ := hcut
    have hrl := hr.out
    have KX := k0.below hX1 bx
    have BX := hB.below bx
    have qx := Quad.below bx q0
    obtain ⟨y0, y1, y2, y3, -⟩ := qx.cells
    clear H0 B0 cZ bw k0 hB q0
    have h11 := h11.out
    have hk1 := hk1.out
    have cSh : Calls Tryz.prog 136 #[.slice sa r sc] wc fun e w' => e = .returned (.string ⟨(jn sh).toArray⟩) ∧ Below wc.heap.size wc w' := by
      have := shapeShowP sa sc sh wc (hS wc KX) (by have := ok.rank; simp only [Arr.shape] at this; omega)
      rw [hr.out] at this
      exact this
    have hj0 : l.length ≤ 1000000 := by simp only [List.length_append] at hl; omega
    have hj1 : (jn sh).length ≤ 1000000 := by simp only [List.length_append] at hl; omega
    have hj2 : (l ++ jn sh).length ≤ 1000000 := by simp only [List.length_append] at hl ⊢; omega
    have e2 : (0 : Int) < (r : Int) := by omega
    have e1 : ((r : Int) == 1) = false := by simp; omega
    have e3 : ¬ (1 : Int) < (N : Int) := by omega
    subst hk1
    have e6 : ((N : Int) == 1) = false := by simp; omega
    have cS0 : ∀ v4 w4, Bld w4 X (l ++ jn sh ++ reS) → Kp X w w4 → ArrAt w4 v4 (.mk 1 [] [0] []) → Calls Tryz.prog 138 #[.pointer (some ⟨X, 0, none⟩), v4, .int .i64 0] w4 (Wrote w4 X ((l ++ jn sh ++ reS) ++ [48])) := fun v4 w4 hB4 hK4 hF => by
      have q := wsc1 [] [0] [] v4 0 (by decide) w4 X (l ++ jn sh ++ reS) (by omega) hB4 hF
      rw [one_0] at q
      exact q
    clear hr1 hv h11 hN hS hrl
    go_wp2_with (first
      | (go_at_call 136; (with_reducible refine cSh.mono ?_); rintro e1 w1 ⟨rfl, b1⟩; have B1 := Bld.below BX b1; have K1 := Kp.below KX (Nat.le_of_lt BX.lt) b1; have q1 := Quad.below b1 qx)
      | (go_at_call 68; (with_reducible refine (wrL _ X l (jn sh) hj1 hj0 B1).mono ?_); rintro e2 w2 ⟨⟨n2, rfl⟩, B2, k2⟩; have K2 := Kp.trans K1 k2; have q2 := Quad.kp q1 hne k2)
      | (go_at_call 68; (with_reducible refine (wrL _ X (l ++ jn sh) [32, 114, 101, 115, 104, 97, 112, 101, 32] (by decide) hj2 B2).mono ?_); rintro e3 w3 ⟨⟨n3, rfl⟩, B3, k3⟩; have K3 := Kp.trans K2 k3; have q3 := Quad.kp q2 hne k3; obtain ⟨z0, z1, z2, z3, -⟩ := Quad.cells q3; have cF := fillN _ (.mk 1 sh nu it) w3 (AA.at (AA.keep hA K3)))
      | (go_at_call 139; (with_reducible refine cF.mono ?_); intro e4 w4 hN4; obtain ⟨k', sa', ls', sc', na', ln', nc', ia', li', ic', rfl, hO, b4⟩ := hN4.form; have B4 := Bld.below B3 b4; have K4 := Kp.below K3 (Nat.le_of_lt B3.lt) b4; have cS := cS0 _ w4 B4 K4 hO.at)
      | (go_at_call 138; (with_reducible refine cS.mono ?_); rintro e5 w5 ⟨rfl, h5, k5⟩))
    refine bodyPost_ret (results_none rfl _ _ _) rfl ?_
    refine ⟨rfl, ?_, K4.trans k5⟩
    rw [show l ++ (jn sh ++ reS ++ [48]) = (l ++ jn sh ++ reS) ++ [48] by simp]
    exact h5
set_option maxRecDepth 100000 in
set_option maxHeartbeats 8000000 in
theorem wlC3r2 (sh nu : List Int) (it : List Arr) (k : Int) (N : Nat) (hN : aSize (.mk k sh nu it) = N) (ok : LitP (.mk k sh nu it)) (v : Value) (w : World) (X : Nat) (l : List UInt8) (hT : Tok.TZ w) (hg : 5 < X) (h : Bld w X l) (hA : AA X w v (.mk k sh nu it)) (hr1 : 1 ≤ sh.length) (hv : ¬ sh.length = 1) (h11 : Hid (N = 0)) (hk1 : Hid (k = 2)) (hl : (l ++ jn sh ++ reS).length + ([39, 32, 39]).length ≤ 700000) :
    Calls Tryz.prog 124 #[.pointer (some ⟨X, 0, none⟩), v] w (Wrote w X (l ++ (jn sh ++ reS ++ [39, 32, 39]))) := by
  have hA' := hA
  rw [AA, ArrOn] at hA'
  obtain ⟨sa, sc, na, nc, ia, ic, rfl, hk, hs, hn, h1, h2, b, off, ha, hc⟩ := hA'
  obtain ⟨r, hr⟩ : ∃ r, Hid (sh.length = r) := ⟨_, rfl⟩
  rw [hr.out] at hA ⊢
  have bw := below_new w (.cells #[.int .i64 k, .slice sa r sc, .slice na nu.length nc, .slice ia it.length ic] 30)
  have k0 : Kp X w (w.alloc (.cells #[.int .i64 k, .slice sa r sc, .slice na nu.length nc, .slice ia it.length ic] 30)) := (Kp.refl X w).below (Nat.le_of_lt h.lt) bw
  have hB := h.below bw
  have q0 := Quad.new w (.int .i64 k) (.slice sa r sc) (.slice na nu.length nc) (.slice ia it.length ic)
  have hlt := h.lt
  have hne : w.heap.size ≠ X := Nat.ne_of_gt hlt
  have hX1 : X ≤ (w.alloc (.cells #[.int .i64 k, .slice sa r sc, .slice na nu.length nc, .slice ia it.length ic] 30)).heap.size := by simp; omega
  have cZ : ∀ w', Kp X w w' → Calls Tryz.prog 116 #[(.agg #[.int .i64 k, .slice sa r sc, .slice na nu.length nc, .slice ia it.length ic])] w' fun e w2 => e = .returned (.int .i64 (N : Int)) ∧ Below w'.heap.size w' w2 := fun w' kp => by
    have := sizeQ _ (.mk k sh nu it) w' (AA.at (AA.keep hA kp))
    rw [hN] at this
    exact this
  have hS := fun w' (kp : Kp X w w') => (II.keep hs kp).at
  clear hn h1 h2 ha hc hk
  obtain ⟨W0, hW0⟩ : ∃ W0, w.alloc (.cells #[.int .i64 k, .slice sa r sc, .slice na nu.length nc, .slice ia it.length ic] 30) = W0 := ⟨_, rfl⟩
  have H0 : ∀ w', Below W0.heap.size W0 w' → (w'.cell? ⟨w.heap.size, 0, none⟩ = some (.int .i64 k) ∧ w'.cell? ⟨w.heap.size, 1, none⟩ = some (.slice sa r sc) ∧ w'.cell? ⟨w.heap.size, 2, none⟩ = some (.slice na nu.length nc) ∧ w'.cell? ⟨w.heap.size, 3, none⟩ = some (.slice ia it.length ic)) ∧ Below W0.heap.size W0 w' := fun w' hb => by
    rw [hW0] at q0
    obtain ⟨x0, x1, x2, x3, -⟩ := (Quad.below hb q0).cells
    exact ⟨⟨x0, x1, x2, x3⟩, hb⟩
  have B0 : Below W0.heap.size W0 W0 := Below.refl _ _
  go_enter Tryz.func124, Tryz.ntmps124
  go_upto_region 1 with fail
  try rw [hW0]
  rw [hW0] at k0 hB q0 bw hX1
  go_cut [4, 5] (fun s4 s5 wx => s4 = .int .i64 (r : Int) ∧ s5 = .int .i64 (N : Int) ∧ Below W0.heap.size W0 wx)
  case first =>
    go_region_held3 (fun w' => (w'.cell? ⟨w.heap.size, 0, none⟩ = some (.int .i64 k) ∧ w'.cell? ⟨w.heap.size, 1, none⟩ = some (.slice sa r sc) ∧ w'.cell? ⟨w.heap.size, 2, none⟩ = some (.slice na nu.length nc) ∧ w'.cell? ⟨w.heap.size, 3, none⟩ = some (.slice ia it.length ic)) ∧ Below W0.heap.size W0 w')
      (first | exact H0 _ (by go_grown) | go_keep)
      ((first | (go_at_call 116; (with_reducible refine (cZ _ (Kp.below k0 hX1 (by go_grown))).mono ?_); rintro e w2 ⟨rfl, b2⟩; (have E2 : Below W0.heap.size W0 w2 := Below.then (by go_grown) b2); (have S2 := E2.size))))
    all_goals (go_wp2_with fail; go_meet; exact ⟨rfl, rfl, by first | exact E2 | go_grown⟩)
  case rest =>
    obtain ⟨rfl, rfl, bx⟩ := hcut
    have hrl := hr.out
    have KX := k0.below hX1 bx
    have BX := hB.below bx
    have qx := Quad.below bx q0
    obtain ⟨y0, y1, y2, y3, -⟩ := qx.cells
    clear H0 B0 cZ bw k0 hB q0
    have h11 := h11.out
    have hk1 := hk1.out
    have cSh : Calls Tryz.prog 136 #[.slice sa r sc] wc fun e w' => e = .returned (.string ⟨(jn sh).toArray⟩) ∧ Below wc.heap.size wc w' := by
      have := shapeShowP sa sc sh wc (hS wc KX) (by have := ok.rank; simp only [Arr.shape] at this; omega)
      rw [hr.out] at this
      exact this
    have hj0 : l.length ≤ 1000000 := by simp only [List.length_append] at hl; omega
    have hj1 : (jn sh).length ≤ 1000000 := by simp only [List.length_append] at hl; omega
    have hj2 : (l ++ jn sh).length ≤ 1000000 := by simp only [List.length_append] at hl ⊢; omega
    have e2 : (0 : Int) < (r : Int) := by omega
    have e1 : ((r : Int) == 1) = false := by simp; omega
    have e3 : ¬ (1 : Int) < (N : Int) := by omega
    subst hk1
    have e6 : ((N : Int) == 1) = false := by simp; omega
    have cS0 : ∀ v4 w4, Bld w4 X (l ++ jn sh ++ reS) → Kp X w w4 → ArrAt w4 v4 (.mk 2 [] [32] []) → Calls Tryz.prog 138 #[.pointer (some ⟨X, 0, none⟩), v4, .int .i64 0] w4 (Wrote w4 X ((l ++ jn sh ++ reS) ++ [39, 32, 39])) := fun v4 w4 hB4 hK4 hF => by
      exact wsc2 [] [32] [] v4 0 (by decide) (by simp) w4 X (l ++ jn sh ++ reS) (by omega) (tz_kp hT hg hK4) hg hB4 hF
    clear hr1 hv h11 hN hS hrl
    go_wp2_with (first
      | (go_at_call 136; (with_reducible refine cSh.mono ?_); rintro e1 w1 ⟨rfl, b1⟩; have B1 := Bld.below BX b1; have K1 := Kp.below KX (Nat.le_of_lt BX.lt) b1; have q1 := Quad.below b1 qx)
      | (go_at_call 68; (with_reducible refine (wrL _ X l (jn sh) hj1 hj0 B1).mono ?_); rintro e2 w2 ⟨⟨n2, rfl⟩, B2, k2⟩; have K2 := Kp.trans K1 k2; have q2 := Quad.kp q1 hne k2)
      | (go_at_call 68; (with_reducible refine (wrL _ X (l ++ jn sh) [32, 114, 101, 115, 104, 97, 112, 101, 32] (by decide) hj2 B2).mono ?_); rintro e3 w3 ⟨⟨n3, rfl⟩, B3, k3⟩; have K3 := Kp.trans K2 k3; have q3 := Quad.kp q2 hne k3; obtain ⟨z0, z1, z2, z3, -⟩ := Quad.cells q3; have cF := fillN _ (.mk 2 sh nu it) w3 (AA.at (AA.keep hA K3)))
      | (go_at_call 139; (with_reducible refine cF.mono ?_); intro e4 w4 hN4; obtain ⟨k', sa', ls', sc', na', ln', nc', ia', li', ic', rfl, hO, b4⟩ := hN4.form; have B4 := Bld.below B3 b4; have K4 := Kp.below K3 (Nat.le_of_lt B3.lt) b4; have cS := cS0 _ w4 B4 K4 hO.at)
      | (go_at_call 138; (with_reducible refine cS.mono ?_); rintro e5 w5 ⟨rfl, h5, k5⟩))
    refine bodyPost_ret (results_none rfl _ _ _) rfl ?_
    refine ⟨rfl, ?_, K4.trans k5⟩
    rw [show l ++ (jn sh ++ reS ++ [39, 32, 39]) = (l ++ jn sh ++ reS) ++ [39, 32, 39] by simp]
    exact h5
set_option maxRecDepth 100000 in
set_option maxHeartbeats 8000000 in
theorem wlC3r3 (sh nu : List Int) (it : List Arr) (k : Int) (N : Nat) (hN : aSize (.mk k sh nu it) = N) (ok : LitP (.mk k sh nu it)) (v : Value) (w : World) (X : Nat) (l : List UInt8) (hT : Tok.TZ w) (hg : 5 < X) (h : Bld w X l) (hA : AA X w v (.mk k sh nu it)) (hr1 : 1 ≤ sh.length) (hv : ¬ sh.length = 1) (h11 : Hid (N = 0)) (hk1 : Hid (k = 3)) (hl : (l ++ jn sh ++ reS).length + ([98, 111, 120, 32, 48, 32, 114, 101, 115, 104, 97, 112, 101, 32, 48]).length ≤ 700000) :
    Calls Tryz.prog 124 #[.pointer (some ⟨X, 0, none⟩), v] w (Wrote w X (l ++ (jn sh ++ reS ++ [98, 111, 120, 32, 48, 32, 114, 101, 115, 104, 97, 112, 101, 32, 48]))) := by
  have hA' := hA
  rw [AA, ArrOn] at hA'
  obtain ⟨sa, sc, na, nc, ia, ic, rfl, hk, hs, hn, h1, h2, b, off, ha, hc⟩ := hA'
  obtain ⟨r, hr⟩ : ∃ r, Hid (sh.length = r) := ⟨_, rfl⟩
  rw [hr.out] at hA ⊢
  have bw := below_new w (.cells #[.int .i64 k, .slice sa r sc, .slice na nu.length nc, .slice ia it.length ic] 30)
  have k0 : Kp X w (w.alloc (.cells #[.int .i64 k, .slice sa r sc, .slice na nu.length nc, .slice ia it.length ic] 30)) := (Kp.refl X w).below (Nat.le_of_lt h.lt) bw
  have hB := h.below bw
  have q0 := Quad.new w (.int .i64 k) (.slice sa r sc) (.slice na nu.length nc) (.slice ia it.length ic)
  have hlt := h.lt
  have hne : w.heap.size ≠ X := Nat.ne_of_gt hlt
  have hX1 : X ≤ (w.alloc (.cells #[.int .i64 k, .slice sa r sc, .slice na nu.length nc, .slice ia it.length ic] 30)).heap.size := by simp; omega
  have cZ : ∀ w', Kp X w w' → Calls Tryz.prog 116 #[(.agg #[.int .i64 k, .slice sa r sc, .slice na nu.length nc, .slice ia it.length ic])] w' fun e w2 => e = .returned (.int .i64 (N : Int)) ∧ Below w'.heap.size w' w2 := fun w' kp => by
    have := sizeQ _ (.mk k sh nu it) w' (AA.at (AA.keep hA kp))
    rw [hN] at this
    exact this
  have hS := fun w' (kp : Kp X w w') => (II.keep hs kp).at
  clear hn h1 h2 ha hc hk
  obtain ⟨W0, hW0⟩ : ∃ W0, w.alloc (.cells #[.int .i64 k, .slice sa r sc, .slice na nu.length nc, .slice ia it.length ic] 30) = W0 := ⟨_, rfl⟩
  have H0 : ∀ w', Below W0.heap.size W0 w' → (w'.cell? ⟨w.heap.size, 0, none⟩ = some (.int .i64 k) ∧ w'.cell? ⟨w.heap.size, 1, none⟩ = some (.slice sa r sc) ∧ w'.cell? ⟨w.heap.size, 2, none⟩ = some (.slice na nu.length nc) ∧ w'.cell? ⟨w.heap.size, 3, none⟩ = some (.slice ia it.length ic)) ∧ Below W0.heap.size W0 w' := fun w' hb => by
    rw [hW0] at q0
    obtain ⟨x0, x1, x2, x3, -⟩ := (Quad.below hb q0).cells
    exact ⟨⟨x0, x1, x2, x3⟩, hb⟩
  have B0 : Below W0.heap.size W0 W0 := Below.refl _ _
  go_enter Tryz.func124, Tryz.ntmps124
  go_upto_region 1 with fail
  try rw [hW0]
  rw [hW0] at k0 hB q0 bw hX1
  go_cut [4, 5] (fun s4 s5 wx => s4 = .int .i64 (r : Int) ∧ s5 = .int .i64 (N : Int) ∧ Below W0.heap.size W0 wx)
  case first =>
    go_region_held3 (fun w' => (w'.cell? ⟨w.heap.size, 0, none⟩ = some (.int .i64 k) ∧ w'.cell? ⟨w.heap.size, 1, none⟩ = some (.slice sa r sc) ∧ w'.cell? ⟨w.heap.size, 2, none⟩ = some (.slice na nu.length nc) ∧ w'.cell? ⟨w.heap.size, 3, none⟩ = some (.slice ia it.length ic)) ∧ Below W0.heap.size W0 w')
      (first | exact H0 _ (by go_grown) | go_keep)
      ((first | (go_at_call 116; (with_reducible refine (cZ _ (Kp.below k0 hX1 (by go_grown))).mono ?_); rintro e w2 ⟨rfl, b2⟩; (have E2 : Below W0.heap.size W0 w2 := Below.then (by go_grown) b2); (have S2 := E2.size))))
    all_goals (go_wp2_with fail; go_meet; exact ⟨rfl, rfl, by first | exact E2 | go_grown⟩)
  case rest =>
    obtain ⟨rfl, rfl, bx⟩ := hcut
    have hrl := hr.out
    have KX := k0.below hX1 bx
    have BX := hB.below bx
    have qx := Quad.below bx q0
    obtain ⟨y0, y1, y2, y3, -⟩ := qx.cells
    clear H0 B0 cZ bw k0 hB q0
    have h11 := h11.out
    have hk1 := hk1.out
    have cSh : Calls Tryz.prog 136 #[.slice sa r sc] wc fun e w' => e = .returned (.string ⟨(jn sh).toArray⟩) ∧ Below wc.heap.size wc w' := by
      have := shapeShowP sa sc sh wc (hS wc KX) (by have := ok.rank; simp only [Arr.shape] at this; omega)
      rw [hr.out] at this
      exact this
    have hj0 : l.length ≤ 1000000 := by simp only [List.length_append] at hl; omega
    have hj1 : (jn sh).length ≤ 1000000 := by simp only [List.length_append] at hl; omega
    have hj2 : (l ++ jn sh).length ≤ 1000000 := by simp only [List.length_append] at hl ⊢; omega
    have e2 : (0 : Int) < (r : Int) := by omega
    have e1 : ((r : Int) == 1) = false := by simp; omega
    have e3 : ¬ (1 : Int) < (N : Int) := by omega
    subst hk1
    have e6 : ((N : Int) == 1) = false := by simp; omega
    have cS0 : ∀ v4 w4, Bld w4 X (l ++ jn sh ++ reS) → Kp X w w4 → AA X w4 v4 (.mk 3 [] [] [.mk 1 [0] [] []]) → Calls Tryz.prog 138 #[.pointer (some ⟨X, 0, none⟩), v4, .int .i64 0] w4 (Wrote w4 X ((l ++ jn sh ++ reS) ++ [98, 111, 120, 32, 48, 32, 114, 101, 115, 104, 97, 112, 101, 32, 48])) := fun v4 w4 hB4 hK4 hF => by
      have q := wsc3 [] [] [.mk 1 [0] [] []] v4 0 (by decide) (ok.nil rfl) w4 X (l ++ jn sh ++ reS) (by rw [show [Arr.mk 1 [0] [] []][0] = Arr.mk 1 [0] [] [] from rfl, lit_n0]; simp only [List.length_cons, List.length_nil] at hl ⊢; omega) (tz_kp hT hg hK4) hg hB4 hF
      rw [box_lit] at q
      exact q
    clear hr1 hv h11 hN hS hrl
    go_wp2_with (first
      | (go_at_call 136; (with_reducible refine cSh.mono ?_); rintro e1 w1 ⟨rfl, b1⟩; have B1 := Bld.below BX b1; have K1 := Kp.below KX (Nat.le_of_lt BX.lt) b1; have q1 := Quad.below b1 qx)
      | (go_at_call 68; (with_reducible refine (wrL _ X l (jn sh) hj1 hj0 B1).mono ?_); rintro e2 w2 ⟨⟨n2, rfl⟩, B2, k2⟩; have K2 := Kp.trans K1 k2; have q2 := Quad.kp q1 hne k2)
      | (go_at_call 68; (with_reducible refine (wrL _ X (l ++ jn sh) [32, 114, 101, 115, 104, 97, 112, 101, 32] (by decide) hj2 B2).mono ?_); rintro e3 w3 ⟨⟨n3, rfl⟩, B3, k3⟩; have K3 := Kp.trans K2 k3; have q3 := Quad.kp q2 hne k3; obtain ⟨z0, z1, z2, z3, -⟩ := Quad.cells q3; have cF := fillO _ (.mk 3 sh nu it) w3 (AA.at (AA.keep hA K3)) rfl)
      | (go_at_call 139; (with_reducible refine cF.mono ?_); rintro e4 w4 ⟨k', sa', ls', sc', na', ln', nc', ia', li', ic', rfl, hO, b4⟩; have B4 := Bld.below B3 b4; have K4 := Kp.below K3 (Nat.le_of_lt B3.lt) b4; have cS := cS0 _ w4 B4 K4 (own_aw B3.lt hO))
      | (go_at_call 138; (with_reducible refine cS.mono ?_); rintro e5 w5 ⟨rfl, h5, k5⟩))
    refine bodyPost_ret (results_none rfl _ _ _) rfl ?_
    refine ⟨rfl, ?_, K4.trans k5⟩
    rw [show l ++ (jn sh ++ reS ++ [98, 111, 120, 32, 48, 32, 114, 101, 115, 104, 97, 112, 101, 32, 48]) = (l ++ jn sh ++ reS) ++ [98, 111, 120, 32, 48, 32, 114, 101, 115, 104, 97, 112, 101, 32, 48] by simp]
    exact h5
set_option maxRecDepth 100000 in
set_option maxHeartbeats 8000000 in
theorem wlC2v (sh nu : List Int) (it : List Arr) (k : Int) (N : Nat) (hN : aSize (.mk k sh nu it) = N) (ok : LitP (.mk k sh nu it)) (v : Value) (w : World) (X : Nat) (l : List UInt8) (hT : Tok.TZ w) (hg : 5 < X) (h : Bld w X l) (hA : AA X w v (.mk k sh nu it)) (hr1 : 1 ≤ sh.length) (hv : Hid (sh.length = 1)) (hk2 : ¬ k = 2) (h11 : Hid (N = 1)) (hl : (l ++ jn sh ++ reS).length + ((elsT (.mk k sh nu it)).headD []).length ≤ 700000) :
    Calls Tryz.prog 124 #[.pointer (some ⟨X, 0, none⟩), v] w (Wrote w X (l ++ (jn sh ++ reS ++ (elsT (.mk k sh nu it)).headD []))) := by
  have hA' := hA
  rw [AA, ArrOn] at hA'
  obtain ⟨sa, sc, na, nc, ia, ic, rfl, hk, hs, hn, h1, h2, b, off, ha, hc⟩ := hA'
  obtain ⟨r, hr⟩ : ∃ r, Hid (sh.length = r) := ⟨_, rfl⟩
  rw [hr.out] at hA ⊢
  have bw := below_new w (.cells #[.int .i64 k, .slice sa r sc, .slice na nu.length nc, .slice ia it.length ic] 30)
  have k0 : Kp X w (w.alloc (.cells #[.int .i64 k, .slice sa r sc, .slice na nu.length nc, .slice ia it.length ic] 30)) := (Kp.refl X w).below (Nat.le_of_lt h.lt) bw
  have hB := h.below bw
  have q0 := Quad.new w (.int .i64 k) (.slice sa r sc) (.slice na nu.length nc) (.slice ia it.length ic)
  have hlt := h.lt
  have hne : w.heap.size ≠ X := Nat.ne_of_gt hlt
  have hX1 : X ≤ (w.alloc (.cells #[.int .i64 k, .slice sa r sc, .slice na nu.length nc, .slice ia it.length ic] 30)).heap.size := by simp; omega
  have cZ : ∀ w', Kp X w w' → Calls Tryz.prog 116 #[(.agg #[.int .i64 k, .slice sa r sc, .slice na nu.length nc, .slice ia it.length ic])] w' fun e w2 => e = .returned (.int .i64 (N : Int)) ∧ Below w'.heap.size w' w2 := fun w' kp => by
    have := sizeQ _ (.mk k sh nu it) w' (AA.at (AA.keep hA kp))
    rw [hN] at this
    exact this
  have hS := fun w' (kp : Kp X w w') => (II.keep hs kp).at
  clear hn h1 h2 ha hc hk
  obtain ⟨W0, hW0⟩ : ∃ W0, w.alloc (.cells #[.int .i64 k, .slice sa r sc, .slice na nu.length nc, .slice ia it.length ic] 30) = W0 := ⟨_, rfl⟩
  have H0 : ∀ w', Below W0.heap.size W0 w' → (w'.cell? ⟨w.heap.size, 0, none⟩ = some (.int .i64 k) ∧ w'.cell? ⟨w.heap.size, 1, none⟩ = some (.slice sa r sc) ∧ w'.cell? ⟨w.heap.size, 2, none⟩ = some (.slice na nu.length nc) ∧ w'.cell? ⟨w.heap.size, 3, none⟩ = some (.slice ia it.length ic)) ∧ Below W0.heap.size W0 w' := fun w' hb => by
    rw [hW0] at q0
    obtain ⟨x0, x1, x2, x3, -⟩ := (Quad.below hb q0).cells
    exact ⟨⟨x0, x1, x2, x3⟩, hb⟩
  have B0 : Below W0.heap.size W0 W0 := Below.refl _ _
  go_enter Tryz.func124, Tryz.ntmps124
  go_upto_region 1 with fail
  try rw [hW0]
  rw [hW0] at k0 hB q0 bw hX1
  go_cut [4, 5] (fun s4 s5 wx => s4 = .int .i64 (r : Int) ∧ s5 = .int .i64 (N : Int) ∧ Below W0.heap.size W0 wx)
  case first =>
    go_region_held3 (fun w' => (w'.cell? ⟨w.heap.size, 0, none⟩ = some (.int .i64 k) ∧ w'.cell? ⟨w.heap.size, 1, none⟩ = some (.slice sa r sc) ∧ w'.cell? ⟨w.heap.size, 2, none⟩ = some (.slice na nu.length nc) ∧ w'.cell? ⟨w.heap.size, 3, none⟩ = some (.slice ia it.length ic)) ∧ Below W0.heap.size W0 w')
      (first | exact H0 _ (by go_grown) | go_keep)
      ((first | (go_at_call 116; (with_reducible refine (cZ _ (Kp.below k0 hX1 (by go_grown))).mono ?_); rintro e w2 ⟨rfl, b2⟩; (have E2 : Below W0.heap.size W0 w2 := Below.then (by go_grown) b2); (have S2 := E2.size))))
    all_goals (go_wp2_with fail; go_meet; exact ⟨rfl, rfl, by first | exact E2 | go_grown⟩)
  case rest =>
    obtain ⟨rfl, rfl, bx⟩ := hcut
    have hrl := hr.out
    have KX := k0.below hX1 bx
    have BX := hB.below bx
    have qx := Quad.below bx q0
    obtain ⟨y0, y1, y2, y3, -⟩ := qx.cells
    clear H0 B0 cZ bw k0 hB q0
    have hv := hv.out
    have h11 := h11.out
    have cSh : Calls Tryz.prog 136 #[.slice sa r sc] wc fun e w' => e = .returned (.string ⟨(jn sh).toArray⟩) ∧ Below wc.heap.size wc w' := by
      have := shapeShowP sa sc sh wc (hS wc KX) (by have := ok.rank; simp only [Arr.shape] at this; omega)
      rw [hr.out] at this
      exact this
    have hj0 : l.length ≤ 1000000 := by simp only [List.length_append] at hl; omega
    have hj1 : (jn sh).length ≤ 1000000 := by simp only [List.length_append] at hl; omega
    have hj2 : (l ++ jn sh).length ≤ 1000000 := by simp only [List.length_append] at hl ⊢; omega
    have e2 : (0 : Int) < (r : Int) := by omega
    have e1 : ((r : Int) == 1) = true := by simp; omega
    have e5 : (k == 2) = false := by simpa using hk2
    have e3 : ¬ (1 : Int) < (N : Int) := by omega
    have e4 : ((N : Int) == 1) = true := by simp; omega
    have h1N : 1 ≤ aSize (.mk k sh nu it) := by rw [hN]; omega
    have hl3 : (l ++ jn sh ++ reS).length + ((elsT (.mk k sh nu it)).headD []).length ≤ 700000 := hl
    clear hr1 hv h11 hN hS hrl
    clear hk2
    go_wp2_with (first
      | (go_at_call 136; (with_reducible refine cSh.mono ?_); rintro e1 w1 ⟨rfl, b1⟩; have B1 := Bld.below BX b1; have K1 := Kp.below KX (Nat.le_of_lt BX.lt) b1; have q1 := Quad.below b1 qx)
      | (go_at_call 68; (with_reducible refine (wrL _ X l (jn sh) hj1 hj0 B1).mono ?_); rintro e2 w2 ⟨⟨n2, rfl⟩, B2, k2⟩; have K2 := Kp.trans K1 k2; have q2 := Quad.kp q1 hne k2)
      | (go_at_call 68; (with_reducible refine (wrL _ X (l ++ jn sh) [32, 114, 101, 115, 104, 97, 112, 101, 32] (by decide) hj2 B2).mono ?_); rintro e3 w3 ⟨⟨n3, rfl⟩, B3, k3⟩; have K3 := Kp.trans K2 k3; have q3 := Quad.kp q2 hne k3; obtain ⟨z0, z1, z2, z3, -⟩ := Quad.cells q3; have cS := writeFirstQ (.mk k sh nu it) _ ok h1N w3 X (l ++ jn sh ++ reS) hl3 (tz_kp hT hg K3) hg B3 (AA.keep hA K3))
      | (go_at_call 138; (with_reducible refine cS.mono ?_); rintro e5 w5 ⟨rfl, h5, k5⟩))
    refine bodyPost_ret (results_none rfl _ _ _) rfl ?_
    refine ⟨rfl, ?_, K3.trans k5⟩
    rw [show l ++ (jn sh ++ reS ++ (elsT (.mk k sh nu it)).headD []) = (l ++ jn sh ++ reS) ++ (elsT (.mk k sh nu it)).headD [] by simp]
    exact h5
set_option maxRecDepth 100000 in
set_option maxHeartbeats 8000000 in
theorem wlC3v1 (sh nu : List Int) (it : List Arr) (k : Int) (N : Nat) (hN : aSize (.mk k sh nu it) = N) (ok : LitP (.mk k sh nu it)) (v : Value) (w : World) (X : Nat) (l : List UInt8) (hT : Tok.TZ w) (hg : 5 < X) (h : Bld w X l) (hA : AA X w v (.mk k sh nu it)) (hr1 : 1 ≤ sh.length) (hv : Hid (sh.length = 1)) (hk2 : ¬ k = 2) (h11 : Hid (N = 0)) (hk1 : Hid (k = 1)) (hl : (l ++ jn sh ++ reS).length + ([48]).length ≤ 700000) :
    Calls Tryz.prog 124 #[.pointer (some ⟨X, 0, none⟩), v] w (Wrote w X (l ++ (jn sh ++ reS ++ [48]))) := by
  have hA' := hA
  rw [AA, ArrOn] at hA'
  obtain ⟨sa, sc, na, nc, ia, ic, rfl, hk, hs, hn, h1, h2, b, off, ha, hc⟩ := hA'
  obtain ⟨r, hr⟩ : ∃ r, Hid (sh.length = r) := ⟨_, rfl⟩
  rw [hr.out] at hA ⊢
  have bw := below_new w (.cells #[.int .i64 k, .slice sa r sc, .slice na nu.length nc, .slice ia it.length ic] 30)
  have k0 : Kp X w (w.alloc (.cells #[.int .i64 k, .slice sa r sc, .slice na nu.length nc, .slice ia it.length ic] 30)) := (Kp.refl X w).below (Nat.le_of_lt h.lt) bw
  have hB := h.below bw
  have q0 := Quad.new w (.int .i64 k) (.slice sa r sc) (.slice na nu.length nc) (.slice ia it.length ic)
  have hlt := h.lt
  have hne : w.heap.size ≠ X := Nat.ne_of_gt hlt
  have hX1 : X ≤ (w.alloc (.cells #[.int .i64 k, .slice sa r sc, .slice na nu.length nc, .slice ia it.length ic] 30)).heap.size := by simp; omega
  have cZ : ∀ w', Kp X w w' → Calls Tryz.prog 116 #[(.agg #[.int .i64 k, .slice sa r sc, .slice na nu.length nc, .slice ia it.length ic])] w' fun e w2 => e = .returned (.int .i64 (N : Int)) ∧ Below w'.heap.size w' w2 := fun w' kp => by
    have := sizeQ _ (.mk k sh nu it) w' (AA.at (AA.keep hA kp))
    rw [hN] at this
    exact this
  have hS := fun w' (kp : Kp X w w') => (II.keep hs kp).at
  clear hn h1 h2 ha hc hk
  obtain ⟨W0, hW0⟩ : ∃ W0, w.alloc (.cells #[.int .i64 k, .slice sa r sc, .slice na nu.length nc, .slice ia it.length ic] 30) = W0 := ⟨_, rfl⟩
  have H0 : ∀ w', Below W0.heap.size W0 w' → (w'.cell? ⟨w.heap.size, 0, none⟩ = some (.int .i64 k) ∧ w'.cell? ⟨w.heap.size, 1, none⟩ = some (.slice sa r sc) ∧ w'.cell? ⟨w.heap.size, 2, none⟩ = some (.slice na nu.length nc) ∧ w'.cell? ⟨w.heap.size, 3, none⟩ = some (.slice ia it.length ic)) ∧ Below W0.heap.size W0 w' := fun w' hb => by
    rw [hW0] at q0
    obtain ⟨x0, x1, x2, x3, -⟩ := (Quad.below hb q0).cells
    exact ⟨⟨x0, x1, x2, x3⟩, hb⟩
  have B0 : Below W0.heap.size W0 W0 := Below.refl _ _
  go_enter Tryz.func124, Tryz.ntmps124
  go_upto_region 1 with fail
  try rw [hW0]
  rw [hW0] at k0 hB q0 bw hX1
  go_cut [4, 5] (fun s4 s5 wx => s4 = .int .i64 (r : Int) ∧ s5 = .int .i64 (N : Int) ∧ Below W0.heap.size W0 wx)
  case first =>
    go_region_held3 (fun w' => (w'.cell? ⟨w.heap.size, 0, none⟩ = some (.int .i64 k) ∧ w'.cell? ⟨w.heap.size, 1, none⟩ = some (.slice sa r sc) ∧ w'.cell? ⟨w.heap.size, 2, none⟩ = some (.slice na nu.length nc) ∧ w'.cell? ⟨w.heap.size, 3, none⟩ = some (.slice ia it.length ic)) ∧ Below W0.heap.size W0 w')
      (first | exact H0 _ (by go_grown) | go_keep)
      ((first | (go_at_call 116; (with_reducible refine (cZ _ (Kp.below k0 hX1 (by go_grown))).mono ?_); rintro e w2 ⟨rfl, b2⟩; (have E2 : Below W0.heap.size W0 w2 := Below.then (by go_grown) b2); (have S2 := E2.size))))
    all_goals (go_wp2_with fail; go_meet; exact ⟨rfl, rfl, by first | exact E2 | go_grown⟩)
  case rest =>
    obtain ⟨rfl, rfl, bx⟩ := hcut
    have hrl := hr.out
    have KX := k0.below hX1 bx
    have BX := hB.below bx
    have qx := Quad.below bx q0
    obtain ⟨y0, y1, y2, y3, -⟩ := qx.cells
    clear H0 B0 cZ bw k0 hB q0
    have hv := hv.out
    have h11 := h11.out
    have hk1 := hk1.out
    have cSh : Calls Tryz.prog 136 #[.slice sa r sc] wc fun e w' => e = .returned (.string ⟨(jn sh).toArray⟩) ∧ Below wc.heap.size wc w' := by
      have := shapeShowP sa sc sh wc (hS wc KX) (by have := ok.rank; simp only [Arr.shape] at this; omega)
      rw [hr.out] at this
      exact this
    have hj0 : l.length ≤ 1000000 := by simp only [List.length_append] at hl; omega
    have hj1 : (jn sh).length ≤ 1000000 := by simp only [List.length_append] at hl; omega
    have hj2 : (l ++ jn sh).length ≤ 1000000 := by simp only [List.length_append] at hl ⊢; omega
    have e2 : (0 : Int) < (r : Int) := by omega
    have e1 : ((r : Int) == 1) = true := by simp; omega
    have e5 : (k == 2) = false := by simpa using hk2
    have e3 : ¬ (1 : Int) < (N : Int) := by omega
    subst hk1
    have e6 : ((N : Int) == 1) = false := by simp; omega
    have cS0 : ∀ v4 w4, Bld w4 X (l ++ jn sh ++ reS) → Kp X w w4 → ArrAt w4 v4 (.mk 1 [] [0] []) → Calls Tryz.prog 138 #[.pointer (some ⟨X, 0, none⟩), v4, .int .i64 0] w4 (Wrote w4 X ((l ++ jn sh ++ reS) ++ [48])) := fun v4 w4 hB4 hK4 hF => by
      have q := wsc1 [] [0] [] v4 0 (by decide) w4 X (l ++ jn sh ++ reS) (by omega) hB4 hF
      rw [one_0] at q
      exact q
    clear hr1 hv h11 hN hS hrl
    go_wp2_with (first
      | (go_at_call 136; (with_reducible refine cSh.mono ?_); rintro e1 w1 ⟨rfl, b1⟩; have B1 := Bld.below BX b1; have K1 := Kp.below KX (Nat.le_of_lt BX.lt) b1; have q1 := Quad.below b1 qx)
      | (go_at_call 68; (with_reducible refine (wrL _ X l (jn sh) hj1 hj0 B1).mono ?_); rintro e2 w2 ⟨⟨n2, rfl⟩, B2, k2⟩; have K2 := Kp.trans K1 k2; have q2 := Quad.kp q1 hne k2)
      | (go_at_call 68; (with_reducible refine (wrL _ X (l ++ jn sh) [32, 114, 101, 115, 104, 97, 112, 101, 32] (by decide) hj2 B2).mono ?_); rintro e3 w3 ⟨⟨n3, rfl⟩, B3, k3⟩; have K3 := Kp.trans K2 k3; have q3 := Quad.kp q2 hne k3; obtain ⟨z0, z1, z2, z3, -⟩ := Quad.cells q3; have cF := fillN _ (.mk 1 sh nu it) w3 (AA.at (AA.keep hA K3)))
      | (go_at_call 139; (with_reducible refine cF.mono ?_); intro e4 w4 hN4; obtain ⟨k', sa', ls', sc', na', ln', nc', ia', li', ic', rfl, hO, b4⟩ := hN4.form; have B4 := Bld.below B3 b4; have K4 := Kp.below K3 (Nat.le_of_lt B3.lt) b4; have cS := cS0 _ w4 B4 K4 hO.at)
      | (go_at_call 138; (with_reducible refine cS.mono ?_); rintro e5 w5 ⟨rfl, h5, k5⟩))
    refine bodyPost_ret (results_none rfl _ _ _) rfl ?_
    refine ⟨rfl, ?_, K4.trans k5⟩
    rw [show l ++ (jn sh ++ reS ++ [48]) = (l ++ jn sh ++ reS) ++ [48] by simp]
    exact h5
set_option maxRecDepth 100000 in
set_option maxHeartbeats 8000000 in
theorem wlC3v3 (sh nu : List Int) (it : List Arr) (k : Int) (N : Nat) (hN : aSize (.mk k sh nu it) = N) (ok : LitP (.mk k sh nu it)) (v : Value) (w : World) (X : Nat) (l : List UInt8) (hT : Tok.TZ w) (hg : 5 < X) (h : Bld w X l) (hA : AA X w v (.mk k sh nu it)) (hr1 : 1 ≤ sh.length) (hv : Hid (sh.length = 1)) (hk2 : ¬ k = 2) (h11 : Hid (N = 0)) (hk1 : Hid (k = 3)) (hl : (l ++ jn sh ++ reS).length + ([98, 111, 120, 32, 48, 32, 114, 101, 115, 104, 97, 112, 101, 32, 48]).length ≤ 700000) :
    Calls Tryz.prog 124 #[.pointer (some ⟨X, 0, none⟩), v] w (Wrote w X (l ++ (jn sh ++ reS ++ [98, 111, 120, 32, 48, 32, 114, 101, 115, 104, 97, 112, 101, 32, 48]))) := by
  have hA' := hA
  rw [AA, ArrOn] at hA'
  obtain ⟨sa, sc, na, nc, ia, ic, rfl, hk, hs, hn, h1, h2, b, off, ha, hc⟩ := hA'
  obtain ⟨r, hr⟩ : ∃ r, Hid (sh.length = r) := ⟨_, rfl⟩
  rw [hr.out] at hA ⊢
  have bw := below_new w (.cells #[.int .i64 k, .slice sa r sc, .slice na nu.length nc, .slice ia it.length ic] 30)
  have k0 : Kp X w (w.alloc (.cells #[.int .i64 k, .slice sa r sc, .slice na nu.length nc, .slice ia it.length ic] 30)) := (Kp.refl X w).below (Nat.le_of_lt h.lt) bw
  have hB := h.below bw
  have q0 := Quad.new w (.int .i64 k) (.slice sa r sc) (.slice na nu.length nc) (.slice ia it.length ic)
  have hlt := h.lt
  have hne : w.heap.size ≠ X := Nat.ne_of_gt hlt
  have hX1 : X ≤ (w.alloc (.cells #[.int .i64 k, .slice sa r sc, .slice na nu.length nc, .slice ia it.length ic] 30)).heap.size := by simp; omega
  have cZ : ∀ w', Kp X w w' → Calls Tryz.prog 116 #[(.agg #[.int .i64 k, .slice sa r sc, .slice na nu.length nc, .slice ia it.length ic])] w' fun e w2 => e = .returned (.int .i64 (N : Int)) ∧ Below w'.heap.size w' w2 := fun w' kp => by
    have := sizeQ _ (.mk k sh nu it) w' (AA.at (AA.keep hA kp))
    rw [hN] at this
    exact this
  have hS := fun w' (kp : Kp X w w') => (II.keep hs kp).at
  clear hn h1 h2 ha hc hk
  obtain ⟨W0, hW0⟩ : ∃ W0, w.alloc (.cells #[.int .i64 k, .slice sa r sc, .slice na nu.length nc, .slice ia it.length ic] 30) = W0 := ⟨_, rfl⟩
  have H0 : ∀ w', Below W0.heap.size W0 w' → (w'.cell? ⟨w.heap.size, 0, none⟩ = some (.int .i64 k) ∧ w'.cell? ⟨w.heap.size, 1, none⟩ = some (.slice sa r sc) ∧ w'.cell? ⟨w.heap.size, 2, none⟩ = some (.slice na nu.length nc) ∧ w'.cell? ⟨w.heap.size, 3, none⟩ = some (.slice ia it.length ic)) ∧ Below W0.heap.size W0 w' := fun w' hb => by
    rw [hW0] at q0
    obtain ⟨x0, x1, x2, x3, -⟩ := (Quad.below hb q0).cells
    exact ⟨⟨x0, x1, x2, x3⟩, hb⟩
  have B0 : Below W0.heap.size W0 W0 := Below.refl _ _
  go_enter Tryz.func124, Tryz.ntmps124
  go_upto_region 1 with fail
  try rw [hW0]
  rw [hW0] at k0 hB q0 bw hX1
  go_cut [4, 5] (fun s4 s5 wx => s4 = .int .i64 (r : Int) ∧ s5 = .int .i64 (N : Int) ∧ Below W0.heap.size W0 wx)
  case first =>
    go_region_held3 (fun w' => (w'.cell? ⟨w.heap.size, 0, none⟩ = some (.int .i64 k) ∧ w'.cell? ⟨w.heap.size, 1, none⟩ = some (.slice sa r sc) ∧ w'.cell? ⟨w.heap.size, 2, none⟩ = some (.slice na nu.length nc) ∧ w'.cell? ⟨w.heap.size, 3, none⟩ = some (.slice ia it.length ic)) ∧ Below W0.heap.size W0 w')
      (first | exact H0 _ (by go_grown) | go_keep)
      ((first | (go_at_call 116; (with_reducible refine (cZ _ (Kp.below k0 hX1 (by go_grown))).mono ?_); rintro e w2 ⟨rfl, b2⟩; (have E2 : Below W0.heap.size W0 w2 := Below.then (by go_grown) b2); (have S2 := E2.size))))
    all_goals (go_wp2_with fail; go_meet; exact ⟨rfl, rfl, by first | exact E2 | go_grown⟩)
  case rest =>
    obtain ⟨rfl, rfl, bx⟩ := hcut
    have hrl := hr.out
    have KX := k0.below hX1 bx
    have BX := hB.below bx
    have qx := Quad.below bx q0
    obtain ⟨y0, y1, y2, y3, -⟩ := qx.cells
    clear H0 B0 cZ bw k0 hB q0
    have hv := hv.out
    have h11 := h11.out
    have hk1 := hk1.out
    have cSh : Calls Tryz.prog 136 #[.slice sa r sc] wc fun e w' => e = .returned (.string ⟨(jn sh).toArray⟩) ∧ Below wc.heap.size wc w' := by
      have := shapeShowP sa sc sh wc (hS wc KX) (by have := ok.rank; simp only [Arr.shape] at this; omega)
      rw [hr.out] at this
      exact this
    have hj0 : l.length ≤ 1000000 := by simp only [List.length_append] at hl; omega
    have hj1 : (jn sh).length ≤ 1000000 := by simp only [List.length_append] at hl; omega
    have hj2 : (l ++ jn sh).length ≤ 1000000 := by simp only [List.length_append] at hl ⊢; omega
    have e2 : (0 : Int) < (r : Int) := by omega
    have e1 : ((r : Int) == 1) = true := by simp; omega
    have e5 : (k == 2) = false := by simpa using hk2
    have e3 : ¬ (1 : Int) < (N : Int) := by omega
    subst hk1
    have e6 : ((N : Int) == 1) = false := by simp; omega
    have cS0 : ∀ v4 w4, Bld w4 X (l ++ jn sh ++ reS) → Kp X w w4 → AA X w4 v4 (.mk 3 [] [] [.mk 1 [0] [] []]) → Calls Tryz.prog 138 #[.pointer (some ⟨X, 0, none⟩), v4, .int .i64 0] w4 (Wrote w4 X ((l ++ jn sh ++ reS) ++ [98, 111, 120, 32, 48, 32, 114, 101, 115, 104, 97, 112, 101, 32, 48])) := fun v4 w4 hB4 hK4 hF => by
      have q := wsc3 [] [] [.mk 1 [0] [] []] v4 0 (by decide) (ok.nil rfl) w4 X (l ++ jn sh ++ reS) (by rw [show [Arr.mk 1 [0] [] []][0] = Arr.mk 1 [0] [] [] from rfl, lit_n0]; simp only [List.length_cons, List.length_nil] at hl ⊢; omega) (tz_kp hT hg hK4) hg hB4 hF
      rw [box_lit] at q
      exact q
    clear hr1 hv h11 hN hS hrl
    go_wp2_with (first
      | (go_at_call 136; (with_reducible refine cSh.mono ?_); rintro e1 w1 ⟨rfl, b1⟩; have B1 := Bld.below BX b1; have K1 := Kp.below KX (Nat.le_of_lt BX.lt) b1; have q1 := Quad.below b1 qx)
      | (go_at_call 68; (with_reducible refine (wrL _ X l (jn sh) hj1 hj0 B1).mono ?_); rintro e2 w2 ⟨⟨n2, rfl⟩, B2, k2⟩; have K2 := Kp.trans K1 k2; have q2 := Quad.kp q1 hne k2)
      | (go_at_call 68; (with_reducible refine (wrL _ X (l ++ jn sh) [32, 114, 101, 115, 104, 97, 112, 101, 32] (by decide) hj2 B2).mono ?_); rintro e3 w3 ⟨⟨n3, rfl⟩, B3, k3⟩; have K3 := Kp.trans K2 k3; have q3 := Quad.kp q2 hne k3; obtain ⟨z0, z1, z2, z3, -⟩ := Quad.cells q3; have cF := fillO _ (.mk 3 sh nu it) w3 (AA.at (AA.keep hA K3)) rfl)
      | (go_at_call 139; (with_reducible refine cF.mono ?_); rintro e4 w4 ⟨k', sa', ls', sc', na', ln', nc', ia', li', ic', rfl, hO, b4⟩; have B4 := Bld.below B3 b4; have K4 := Kp.below K3 (Nat.le_of_lt B3.lt) b4; have cS := cS0 _ w4 B4 K4 (own_aw B3.lt hO))
      | (go_at_call 138; (with_reducible refine cS.mono ?_); rintro e5 w5 ⟨rfl, h5, k5⟩))
    refine bodyPost_ret (results_none rfl _ _ _) rfl ?_
    refine ⟨rfl, ?_, K4.trans k5⟩
    rw [show l ++ (jn sh ++ reS ++ [98, 111, 120, 32, 48, 32, 114, 101, 115, 104, 97, 112, 101, 32, 48]) = (l ++ jn sh ++ reS) ++ [98, 111, 120, 32, 48, 32, 114, 101, 115, 104, 97, 112, 101, 32, 48] by simp]
    exact h5
/-- writeLiteral writes the literal of an array. -/
theorem writeLiteralQ (A : Arr) (ok : LitP A) : WrA A := by
  intro w X l v hl hT hg h hA
  obtain ⟨N, hN⟩ : ∃ N, aSize A = N := ⟨_, rfl⟩
  have hel := els_len ok.kind
  have hkk := ok.kind
  have hone := ok.one
  rw [hN] at hel hone
  rw [litS_els] at hl ⊢
  obtain ⟨k, sh, nu, it⟩ := A
  simp only [Arr.kind, Arr.shape, Arr.nums] at hl hkk hone ⊢
  unfold litT at hl ⊢
  rw [hel] at hl ⊢
  by_cases hr0 : sh.length = 0
  · rw [if_pos hr0] at hl ⊢
    have := hone hr0
    exact wlA sh nu it k N hN ok v w X l hT hg h hA (Lib.hid hr0) (by omega) (Lib.hid this) hl
  rw [if_neg hr0] at hl ⊢
  by_cases hv : sh.length = 1 ∧ (k = 2 ∨ 2 ≤ N)
  · rw [if_pos hv] at hl ⊢
    by_cases hn : 2 ≤ N
    · exact wlBn sh nu it k N hN ok v w X l hT hg h hA (Lib.hid hv.1) hn hl
    · exact wlB2 sh nu it k N hN ok v w X l hT hg h hA (Lib.hid hv.1) (Lib.hid (by omega)) hn hl
  rw [if_neg hv] at hl ⊢
  by_cases hn0 : N = 0
  · rw [if_pos hn0] at hl ⊢
    by_cases hr1 : sh.length = 1
    · rcases (by omega : k = 1 ∨ k = 3) with hk | hk
      · have e : fillT k = [48] := by rw [hk]; rfl
        rw [e] at hl ⊢
        exact wlC3v1 sh nu it k N hN ok v w X l hT hg h hA (by omega) (Lib.hid hr1) (by omega) (Lib.hid hn0) (Lib.hid hk) (by simp only [List.length_append] at hl ⊢; omega)
      · have e : fillT k = [98, 111, 120, 32, 48, 32, 114, 101, 115, 104, 97, 112, 101, 32, 48] := by rw [hk]; rfl
        rw [e] at hl ⊢
        exact wlC3v3 sh nu it k N hN ok v w X l hT hg h hA (by omega) (Lib.hid hr1) (by omega) (Lib.hid hn0) (Lib.hid hk) (by simp only [List.length_append] at hl ⊢; omega)
    · rcases (by omega : k = 1 ∨ k = 2 ∨ k = 3) with hk | hk | hk
      · have e : fillT k = [48] := by rw [hk]; rfl
        rw [e] at hl ⊢
        exact wlC3r1 sh nu it k N hN ok v w X l hT hg h hA (by omega) hr1 (Lib.hid hn0) (Lib.hid hk) (by simp only [List.length_append] at hl ⊢; omega)
      · have e : fillT k = [39, 32, 39] := by rw [hk]; rfl
        rw [e] at hl ⊢
        exact wlC3r2 sh nu it k N hN ok v w X l hT hg h hA (by omega) hr1 (Lib.hid hn0) (Lib.hid hk) (by simp only [List.length_append] at hl ⊢; omega)
      · have e : fillT k = [98, 111, 120, 32, 48, 32, 114, 101, 115, 104, 97, 112, 101, 32, 48] := by rw [hk]; rfl
        rw [e] at hl ⊢
        exact wlC3r3 sh nu it k N hN ok v w X l hT hg h hA (by omega) hr1 (Lib.hid hn0) (Lib.hid hk) (by simp only [List.length_append] at hl ⊢; omega)
  rw [if_neg hn0] at hl ⊢
  by_cases hn1 : N = 1
  · rw [if_pos hn1] at hl ⊢
    by_cases hr1 : sh.length = 1
    · exact wlC2v sh nu it k N hN ok v w X l hT hg h hA (by omega) (Lib.hid hr1) (by omega) (Lib.hid hn1) (by simp only [List.length_append] at hl ⊢; omega)
    · exact wlC2r sh nu it k N hN ok v w X l hT hg h hA (by omega) hr1 (Lib.hid hn1) (by simp only [List.length_append] at hl ⊢; omega)
  · rw [if_neg hn1] at hl ⊢
    exact wlC1 sh nu it k N hN ok v w X l hT hg h hA (by omega) (by omega) (by omega) (by simp only [List.length_append] at hl ⊢; omega)
end Go.Proofs.YtghmbmjikkdbnaaGreatDoor.Shape

namespace Go.Proofs.YtghmbmjikkdbnaaGreatDoor.Shape
open Go.RowKit Go.Proofs.YtghmbmjikkdbnaaGreatDoor.Num
set_option linter.unusedVariables false
set_option linter.unusedSimpArgs false
theorem wr_nil : WrA (.mk 1 [0] [] []) := writeLiteralQ _ {
  kind := by simp [Arr.kind]
  chars := fun h => by simp [Arr.kind] at h
  nums := by simp [Arr.nums]
  items := by simp [Arr.items]
  rank := by simp [Arr.shape]
  one := fun h => by simp [Arr.shape] at h
  inner := fun h => by simp [Arr.kind] at h
  nil := fun h => by simp [Arr.kind] at h }
/-- writeLiteral at every valid array of few elements. -/
theorem wrA_of (n : Nat) : ∀ (A : Arr), rk A ≤ n → rightE A = 0 → wt A ≤ 400 → WrA A := by
  induction n with
  | zero => intro A h; exact absurd h (by obtain ⟨k, sh, nu, it⟩ := A; rw [rk]; omega)
  | succ n ih =>
    intro A hrk hx hw
    obtain ⟨k, sh, nu, it⟩ := A
    have V := val_of hx
    have hwp := wt_few hw
    have hsw := sumW_nn it
    have hk := V.kind
    obtain ⟨N, hN⟩ : ∃ N, aSize (.mk k sh nu it) = N := ⟨_, rfl⟩
    have hsz := V.size
    rw [hN] at hwp hsz
    have hN4 : N ≤ 400 := by split at hwp <;> omega
    have hnu : nu.length ≤ 400 := by
      by_cases h3 : k = 3
      · rw [V.boxed h3]; simp
      · have : N = nu.length := by rw [← hN]; exact size12 (A := .mk k sh nu it) h3 hk
        omega
    have hit : it.length ≤ 400 := by
      by_cases h3 : k = 3
      · have : N = it.length := by rw [← hN]; exact size3 (A := .mk k sh nu it) h3
        omega
      · rw [V.plain h3]; simp
    refine writeLiteralQ _ ⟨hk, fun h2 => ?_, by show nu.length ≤ 6000; omega, by show it.length ≤ 6000; omega, (dims_parts V.dims).1, fun h0 => ?_, fun h3 j hj => ?_, fun _ => wr_nil⟩
    · have h2' : k = 2 := h2
      subst h2'
      exact chars_bd V.elems
    · have h0' : sh = [] := List.eq_nil_of_length_eq_zero h0
      rw [hN]
      rw [h0', pr] at hsz
      omega
    · have h3' : k = 3 := h3
      have hj' : j < it.length := hj
      have hj2 := sumW_ge hj'
      rw [if_pos h3'] at hwp
      exact ih it[j] (by have := rk_item (k := k) (sh := sh) (nu := nu) hj'; omega) (V.items j hj') (by omega)
theorem aa_old {w w' : World} {v : Value} {A : Arr} {X : Nat} (h : ArrAt w v A) (hb : Below w.heap.size w w') (hX : w.heap.size ≤ X) : AA X w' v A :=
  (ArrAt.on h).keep fun g hg hl => ⟨Or.inl (by omega), fun o => hb.cell hg⟩
set_option maxRecDepth 100000 in
set_option maxHeartbeats 4000000 in
theorem literalP (v : Value) (A : Arr) (w : World) (h : ArrAt w v A) (hx : rightE A = 0) (hw : wt A ≤ 400) (hT : Tok.TZ w) (hg : 5 < w.heap.size) :
    Calls Tryz.prog 110 #[v] w fun e w' => e = .returned (.string ⟨(litS A).toArray⟩) ∧ Below w.heap.size w w' := by
  have hA := h
  have hlen := lit_len (rk A) A (Nat.le_refl _) hx hw
  have hW := wrA_of (rk A) A (Nat.le_refl _) hx hw
  obtain ⟨L, hL⟩ : ∃ L, Hid (litS A = L) := ⟨_, rfl⟩
  obtain ⟨c0, c1, c2, c3, rfl⟩ : ∃ c0 c1 c2 c3 : Value, v = .agg #[c0, c1, c2, c3] := by
    obtain ⟨k, sh, nu, it⟩ := A
    rw [ArrAt] at h
    obtain ⟨sa, sc, na, nc, ia, ic, rfl, -⟩ := h
    exact ⟨_, _, _, _, rfl⟩
  have b2 : Below w.heap.size w ((w.alloc (.cells #[c0, c1, c2, c3] 30)).alloc (.cells #[.pointer none, .slice none 0 0] 92)) := Below.then (below_new _ _) (below_new _ _)
  have D0 := Bld.new (w.alloc (.cells #[c0, c1, c2, c3] 30))
  have hz : (w.alloc (.cells #[c0, c1, c2, c3] 30)).heap.size = w.heap.size + 1 := by simp
  rw [hz] at D0
  have hT2 : Tok.TZ ((w.alloc (.cells #[c0, c1, c2, c3] 30)).alloc (.cells #[.pointer none, .slice none 0 0] 92)) := Tok.TZ.below hT b2
  have cW := hW _ (w.heap.size + 1) [] _ (by simp only [List.length_nil]; have := wt_nn A; omega) hT2 (by omega) D0 (aa_old hA b2 (by omega))
  rw [hL.out, List.nil_append] at cW
  rw [hL.out]
  have q0 := (Quad.new w c0 c1 c2 c3).below (below_new _ (.cells #[.pointer none, .slice none 0 0] 92))
  obtain ⟨p0, p1, p2, p3, -⟩ := q0.cells
  clear hz h hlen hW hx hw
  go_enter Tryz.func110, Tryz.ntmps110
  go_wp2_with (first
    | (go_at_call 124; (with_reducible refine cW.mono ?_); rintro e1 w1 ⟨rfl, h1, k1⟩; have B1 := b2.trans (k1.1.mono (Nat.le_succ _)))
    | (go_at_call 69; (with_reducible refine (bldString _ (w.heap.size + 1) L h1).mono ?_); rintro e2 w2 ⟨rfl, b3⟩))
  go_ret
  exact ⟨rfl, B1.trans (b3.mono (Nat.le_succ _))⟩
/-- What Literal gives. -/
def litA (A : Arr) : List UInt8 := if rightE A = 0 then litS A else []
set_option maxRecDepth 100000 in
set_option maxHeartbeats 4000000 in
theorem LiteralP (v : Value) (A : Arr) (w : World) (h : ArrAt w v A) (hw : wt A ≤ 400) (hT : Tok.TZ w) (hg : 5 < w.heap.size) :
    Calls Tryz.prog 95 #[v] w fun e w' => e = .returned (.string ⟨(litA A).toArray⟩) ∧ Below w.heap.size w w' := by
  have hA := h
  obtain ⟨x, hx⟩ : ∃ x, rightE A = x := ⟨_, rfl⟩
  have R := fun W (g : ArrAt W v A) => rightQ v A W g
  have LP := fun W (g : ArrAt W v A) (hx : rightE A = 0) hT hg => literalP v A W g hx hw hT hg
  obtain ⟨L, hL⟩ : ∃ L, Hid (litA A = L) := ⟨_, rfl⟩
  have hL2 := hL.out
  rw [litA, hx] at hL2
  rw [hx] at R LP
  rw [hL.out]
  obtain ⟨c0, c1, c2, c3, rfl⟩ : ∃ c0 c1 c2 c3 : Value, v = .agg #[c0, c1, c2, c3] := by
    obtain ⟨k, sh, nu, it⟩ := A
    rw [ArrAt] at h
    obtain ⟨sa, sc, na, nc, ia, ic, rfl, -⟩ := h
    exact ⟨_, _, _, _, rfl⟩
  have bw := below_new w (.cells #[c0, c1, c2, c3] 30)
  have q0 := Quad.new w c0 c1 c2 c3
  have hA1 := hA.below bw
  have hT1 := Tok.TZ.below hT bw
  have cR := R _ hA1
  by_cases h0 : x = 0
  · subst h0
    rw [if_pos rfl] at hL2
    rw [hL2] at LP
    obtain ⟨p0, p1, p2, p3, -⟩ := q0.cells
    clear hx hL hL2 R hA h
    have hs1 := bw.size
    go_enter Tryz.func95, Tryz.ntmps95
    go_wp2_with (first
      | (go_at_call 101; (with_reducible refine cR.mono ?_); rintro e1 w1 ⟨rfl, b1⟩; obtain ⟨y0, y1, y2, y3, -⟩ := (q0.below b1).cells; have cL := LP w1 (hA1.below b1) rfl (Tok.TZ.below hT1 b1) (Nat.lt_of_lt_of_le hg (Nat.le_trans hs1 b1.size)))
      | (go_at_call 110; (with_reducible refine cL.mono ?_); rintro e2 w2 ⟨rfl, b2⟩))
    go_ret
    exact ⟨rfl, Below.then (Below.then bw b1) b2⟩
  · have e1 : (x != 0) = true := by simpa using h0
    have e2 : (x == 0) = false := by simpa using h0
    rw [if_neg h0] at hL2
    subst hL2
    obtain ⟨p0, p1, p2, p3, -⟩ := q0.cells
    clear hx hL R hA h LP h0
    go_enter Tryz.func95, Tryz.ntmps95
    go_wp2_with (go_at_call 101; (with_reducible refine cR.mono ?_); rintro e1 w1 ⟨rfl, b1⟩)
    go_ret
    exact ⟨rfl, Below.then bw b1⟩
end Go.Proofs.YtghmbmjikkdbnaaGreatDoor.Shape
