/-
  Layer 5: the law that arrays with one literal are equal, walked. (Written by wip/gen/format-apart.py.)
-/
import Derived.Test.YtngcahaidlgkfaaDoorFmGE
import Derived.Test.YtngcahaidlgkfaaDoorFmGD
import Derived.Test.YtngcahaidlgkfaaDoorFmtCardg
import Derived.Deep.RegionHeld3
namespace Go.Proofs.YtngcahaidlgkfaaDoor.Shape
open Go.RowKit Go.Proofs.YtngcahaidlgkfaaDoor.Num
set_option linter.unusedVariables false
set_option linter.unusedSimpArgs false

theorem agg4 {v : Value} {A : Arr} {w : World} (h : ArrAt w v A) : ∃ c0 c1 c2 c3 : Value, v = .agg #[c0, c1, c2, c3] := by
  obtain ⟨k, sh, nu, it⟩ := A
  rw [ArrAt] at h
  obtain ⟨sa, sc, na, nc, ia, ic, rfl, -⟩ := h
  exact ⟨_, _, _, _, rfl⟩
theorem bytes_cmp {L M : List UInt8} {r : Bool} (h : decide (L = M) = r) : ((⟨L.toArray⟩ : ByteArray).toList == (⟨M.toArray⟩ : ByteArray).toList) = r := by
  rw [ByteArray.toList_eq, ByteArray.toList_eq, ← h]
  by_cases e : L = M
  · simp [e]
  · rw [decide_eq_false e]
    simp [e]
set_option maxRecDepth 100000 in
set_option maxHeartbeats 16000000 in
theorem apartW {v0 v1 : Value} {A B : Arr} {w : World} (b0 : ArrAt w v0 A) (b1 : ArrAt w v1 B) (hT1 : Tok.TZ w) (hT2 : 3 < w.heap.size) :
    Calls Tryd.prog 6 #[v0, v1] w fun e w' => e = .returned (.bool true) ∧ Below w.heap.size w w' := by
  obtain ⟨c0, c1, c2, c3, rfl⟩ := agg4 b0
  obtain ⟨d0, d1, d2, d3, rfl⟩ := agg4 b1
  have bw := below_new w (.cells #[c0, c1, c2, c3] 26)
  have bw2 := Below.then bw (below_new (w.alloc (.cells #[c0, c1, c2, c3] 26)) (.cells #[d0, d1, d2, d3] 26))
  have q0 := Quad.below (below_new (w.alloc (.cells #[c0, c1, c2, c3] 26)) (.cells #[d0, d1, d2, d3] 26)) (Quad.new w c0 c1 c2 c3)
  have q1 := Quad.new (w.alloc (.cells #[c0, c1, c2, c3] 26)) d0 d1 d2 d3
  have hsz : (w.alloc (.cells #[c0, c1, c2, c3] 26)).heap.size = w.heap.size + 1 := by simp
  rw [hsz] at q1
  have tz : ∀ W, Below w.heap.size w W → Tok.TZ W := fun W h => Tok.TZ.below hT1 h
  have gz : ∀ W, Below w.heap.size w W → 3 < W.heap.size := fun W h => Nat.lt_of_lt_of_le hT2 h.size
  have cFa := fun W (h : Below w.heap.size w W) => fewR5 (b0.below h)
  have cFb := fun W (h : Below w.heap.size w W) => fewR5 (b1.below h)
  have cRa := fun W (h : Below w.heap.size w W) => rightR3 _ _ W (b0.below h)
  have cRb := fun W (h : Below w.heap.size w W) => rightR3 _ _ W (b1.below h)
  have cK := fun W (h : Below w.heap.size w W) => knowsQ W (tz W h) (gz W h)
  have H0 : ∀ w', Below ((w.alloc (.cells #[c0, c1, c2, c3] 26)).alloc (.cells #[d0, d1, d2, d3] 26)).heap.size ((w.alloc (.cells #[c0, c1, c2, c3] 26)).alloc (.cells #[d0, d1, d2, d3] 26)) w' → (w'.cell? ⟨w.heap.size, 0, none⟩ = some c0 ∧ w'.cell? ⟨w.heap.size, 1, none⟩ = some c1 ∧ w'.cell? ⟨w.heap.size, 2, none⟩ = some c2 ∧ w'.cell? ⟨w.heap.size, 3, none⟩ = some c3) ∧ (w'.cell? ⟨w.heap.size + 1, 0, none⟩ = some d0 ∧ w'.cell? ⟨w.heap.size + 1, 1, none⟩ = some d1 ∧ w'.cell? ⟨w.heap.size + 1, 2, none⟩ = some d2 ∧ w'.cell? ⟨w.heap.size + 1, 3, none⟩ = some d3) ∧ Below w.heap.size w w' := fun w' h => by
    obtain ⟨y0, y1, y2, y3, -⟩ := (q0.below h).cells
    obtain ⟨z0, z1, z2, z3, -⟩ := (q1.below h).cells
    exact ⟨⟨y0, y1, y2, y3⟩, ⟨z0, z1, z2, z3⟩, bw2.trans (h.mono bw2.size)⟩
  obtain ⟨p00, p01, p02, p03⟩ := (H0 _ (Below.refl _ _)).1
  obtain ⟨r00, r01, r02, r03⟩ := (H0 _ (Below.refl _ _)).2.1
  by_cases hA : wt A ≤ 400
  case neg =>
    simp only [decide_eq_false hA] at cFa
    clear b0 b1 hT1 hT2 q0 q1
    go_enter Tryd.func6, Tryd.ntmps6
    go_wp2_with (first
      | (go_at_call 7; (with_reducible refine (cFa _ bw2).mono ?_); rintro e1 w1 ⟨rfl, b1'⟩; (have L1 := Below.then bw2 b1'); (have E1 : Below ((w.alloc (.cells #[c0, c1, c2, c3] 26)).alloc (.cells #[d0, d1, d2, d3] 26)).heap.size ((w.alloc (.cells #[c0, c1, c2, c3] 26)).alloc (.cells #[d0, d1, d2, d3] 26)) w1 := b1'); (obtain ⟨⟨y0, y1, y2, y3⟩, ⟨z0, z1, z2, z3⟩, -⟩ := H0 _ E1))
      | (go_at_call 7; (with_reducible refine (cFb _ L1).mono ?_); rintro e2 w2 ⟨rfl, b2'⟩; (have L2 := Below.then L1 b2'); (have E2 : Below ((w.alloc (.cells #[c0, c1, c2, c3] 26)).alloc (.cells #[d0, d1, d2, d3] 26)).heap.size ((w.alloc (.cells #[c0, c1, c2, c3] 26)).alloc (.cells #[d0, d1, d2, d3] 26)) w2 := Below.then E1 b2'); (obtain ⟨⟨x0, x1, x2, x3⟩, ⟨u0, u1, u2, u3⟩, -⟩ := H0 _ E2))
      | (go_at_call 15; (with_reducible refine (cRa _ L2).mono ?_); rintro e3 w3 ⟨rfl, b3'⟩; (have L3 := Below.then L2 b3'); (have E3 : Below ((w.alloc (.cells #[c0, c1, c2, c3] 26)).alloc (.cells #[d0, d1, d2, d3] 26)).heap.size ((w.alloc (.cells #[c0, c1, c2, c3] 26)).alloc (.cells #[d0, d1, d2, d3] 26)) w3 := Below.then E2 b3'); (obtain ⟨⟨s0, s1, s2, s3⟩, ⟨t0, t1, t2, t3⟩, -⟩ := H0 _ E3))
      | (go_at_call 15; (with_reducible refine (cRb _ L3).mono ?_); rintro e4 w4 ⟨rfl, b4'⟩; (have L4 := Below.then L3 b4'); (have E4 : Below ((w.alloc (.cells #[c0, c1, c2, c3] 26)).alloc (.cells #[d0, d1, d2, d3] 26)).heap.size ((w.alloc (.cells #[c0, c1, c2, c3] 26)).alloc (.cells #[d0, d1, d2, d3] 26)) w4 := Below.then E3 b4'); (obtain ⟨⟨s0, s1, s2, s3⟩, ⟨t0, t1, t2, t3⟩, -⟩ := H0 _ E4))
      | (go_at_call 8; (with_reducible refine (cK _ (by first | exact L4 | exact L3 | exact L2 | exact L1)).mono ?_); rintro e9 w9 ⟨rfl, b9⟩; (have L9 : Below w.heap.size w w9 := Below.then (by first | exact L4 | exact L3 | exact L2 | exact L1) b9)))
    go_ret
    exact ⟨rfl, L9⟩
  by_cases hB : wt B ≤ 400
  case neg =>
    simp only [decide_eq_true hA] at cFa
    simp only [decide_eq_false hB] at cFb
    clear b0 b1 hT1 hT2 q0 q1
    go_enter Tryd.func6, Tryd.ntmps6
    go_wp2_with (first
      | (go_at_call 7; (with_reducible refine (cFa _ bw2).mono ?_); rintro e1 w1 ⟨rfl, b1'⟩; (have L1 := Below.then bw2 b1'); (have E1 : Below ((w.alloc (.cells #[c0, c1, c2, c3] 26)).alloc (.cells #[d0, d1, d2, d3] 26)).heap.size ((w.alloc (.cells #[c0, c1, c2, c3] 26)).alloc (.cells #[d0, d1, d2, d3] 26)) w1 := b1'); (obtain ⟨⟨y0, y1, y2, y3⟩, ⟨z0, z1, z2, z3⟩, -⟩ := H0 _ E1))
      | (go_at_call 7; (with_reducible refine (cFb _ L1).mono ?_); rintro e2 w2 ⟨rfl, b2'⟩; (have L2 := Below.then L1 b2'); (have E2 : Below ((w.alloc (.cells #[c0, c1, c2, c3] 26)).alloc (.cells #[d0, d1, d2, d3] 26)).heap.size ((w.alloc (.cells #[c0, c1, c2, c3] 26)).alloc (.cells #[d0, d1, d2, d3] 26)) w2 := Below.then E1 b2'); (obtain ⟨⟨x0, x1, x2, x3⟩, ⟨u0, u1, u2, u3⟩, -⟩ := H0 _ E2))
      | (go_at_call 15; (with_reducible refine (cRa _ L2).mono ?_); rintro e3 w3 ⟨rfl, b3'⟩; (have L3 := Below.then L2 b3'); (have E3 : Below ((w.alloc (.cells #[c0, c1, c2, c3] 26)).alloc (.cells #[d0, d1, d2, d3] 26)).heap.size ((w.alloc (.cells #[c0, c1, c2, c3] 26)).alloc (.cells #[d0, d1, d2, d3] 26)) w3 := Below.then E2 b3'); (obtain ⟨⟨s0, s1, s2, s3⟩, ⟨t0, t1, t2, t3⟩, -⟩ := H0 _ E3))
      | (go_at_call 15; (with_reducible refine (cRb _ L3).mono ?_); rintro e4 w4 ⟨rfl, b4'⟩; (have L4 := Below.then L3 b4'); (have E4 : Below ((w.alloc (.cells #[c0, c1, c2, c3] 26)).alloc (.cells #[d0, d1, d2, d3] 26)).heap.size ((w.alloc (.cells #[c0, c1, c2, c3] 26)).alloc (.cells #[d0, d1, d2, d3] 26)) w4 := Below.then E3 b4'); (obtain ⟨⟨s0, s1, s2, s3⟩, ⟨t0, t1, t2, t3⟩, -⟩ := H0 _ E4))
      | (go_at_call 8; (with_reducible refine (cK _ (by first | exact L4 | exact L3 | exact L2 | exact L1)).mono ?_); rintro e9 w9 ⟨rfl, b9⟩; (have L9 : Below w.heap.size w w9 := Below.then (by first | exact L4 | exact L3 | exact L2 | exact L1) b9)))
    go_ret
    exact ⟨rfl, L9⟩
  have cLa := fun W (h : Below w.heap.size w W) => LiteralP _ _ W (b0.below h) hA (tz W h) (gz W h)
  have cLb := fun W (h : Below w.heap.size w W) => LiteralP _ _ W (b1.below h) hB (tz W h) (gz W h)
  have cS := fun W (h : Below w.heap.size w W) => sameR3 _ _ _ _ W (b0.below h) (b1.below h)
  simp only [decide_eq_true hA] at cFa
  simp only [decide_eq_true hB] at cFb
  by_cases rA : rightE A = 0
  case neg =>
    obtain ⟨x, hx⟩ : ∃ x, rightE A = x := ⟨_, rfl⟩
    simp only [hx] at cRa
    rw [hx] at rA
    have hne : (x != 0) = true := by simpa using rA
    clear b0 b1 hT1 hT2 q0 q1 hx
    go_enter Tryd.func6, Tryd.ntmps6
    go_wp2_with (first
      | (go_at_call 7; (with_reducible refine (cFa _ bw2).mono ?_); rintro e1 w1 ⟨rfl, b1'⟩; (have L1 := Below.then bw2 b1'); (have E1 : Below ((w.alloc (.cells #[c0, c1, c2, c3] 26)).alloc (.cells #[d0, d1, d2, d3] 26)).heap.size ((w.alloc (.cells #[c0, c1, c2, c3] 26)).alloc (.cells #[d0, d1, d2, d3] 26)) w1 := b1'); (obtain ⟨⟨y0, y1, y2, y3⟩, ⟨z0, z1, z2, z3⟩, -⟩ := H0 _ E1))
      | (go_at_call 7; (with_reducible refine (cFb _ L1).mono ?_); rintro e2 w2 ⟨rfl, b2'⟩; (have L2 := Below.then L1 b2'); (have E2 : Below ((w.alloc (.cells #[c0, c1, c2, c3] 26)).alloc (.cells #[d0, d1, d2, d3] 26)).heap.size ((w.alloc (.cells #[c0, c1, c2, c3] 26)).alloc (.cells #[d0, d1, d2, d3] 26)) w2 := Below.then E1 b2'); (obtain ⟨⟨x0, x1, x2, x3⟩, ⟨u0, u1, u2, u3⟩, -⟩ := H0 _ E2))
      | (go_at_call 15; (with_reducible refine (cRa _ L2).mono ?_); rintro e3 w3 ⟨rfl, b3'⟩; (have L3 := Below.then L2 b3'); (have E3 : Below ((w.alloc (.cells #[c0, c1, c2, c3] 26)).alloc (.cells #[d0, d1, d2, d3] 26)).heap.size ((w.alloc (.cells #[c0, c1, c2, c3] 26)).alloc (.cells #[d0, d1, d2, d3] 26)) w3 := Below.then E2 b3'); (obtain ⟨⟨s0, s1, s2, s3⟩, ⟨t0, t1, t2, t3⟩, -⟩ := H0 _ E3))
      | (go_at_call 15; (with_reducible refine (cRb _ L3).mono ?_); rintro e4 w4 ⟨rfl, b4'⟩; (have L4 := Below.then L3 b4'); (have E4 : Below ((w.alloc (.cells #[c0, c1, c2, c3] 26)).alloc (.cells #[d0, d1, d2, d3] 26)).heap.size ((w.alloc (.cells #[c0, c1, c2, c3] 26)).alloc (.cells #[d0, d1, d2, d3] 26)) w4 := Below.then E3 b4'); (obtain ⟨⟨s0, s1, s2, s3⟩, ⟨t0, t1, t2, t3⟩, -⟩ := H0 _ E4))
      | (go_at_call 8; (with_reducible refine (cK _ (by first | exact L4 | exact L3 | exact L2 | exact L1)).mono ?_); rintro e9 w9 ⟨rfl, b9⟩; (have L9 : Below w.heap.size w w9 := Below.then (by first | exact L4 | exact L3 | exact L2 | exact L1) b9)))
    go_ret
    exact ⟨rfl, L9⟩
  by_cases rB : rightE B = 0
  case neg =>
    obtain ⟨x, hx⟩ : ∃ x, rightE B = x := ⟨_, rfl⟩
    simp only [rA] at cRa
    simp only [hx] at cRb
    rw [hx] at rB
    have hne : (x != 0) = true := by simpa using rB
    clear b0 b1 hT1 hT2 q0 q1 hx
    go_enter Tryd.func6, Tryd.ntmps6
    go_wp2_with (first
      | (go_at_call 7; (with_reducible refine (cFa _ bw2).mono ?_); rintro e1 w1 ⟨rfl, b1'⟩; (have L1 := Below.then bw2 b1'); (have E1 : Below ((w.alloc (.cells #[c0, c1, c2, c3] 26)).alloc (.cells #[d0, d1, d2, d3] 26)).heap.size ((w.alloc (.cells #[c0, c1, c2, c3] 26)).alloc (.cells #[d0, d1, d2, d3] 26)) w1 := b1'); (obtain ⟨⟨y0, y1, y2, y3⟩, ⟨z0, z1, z2, z3⟩, -⟩ := H0 _ E1))
      | (go_at_call 7; (with_reducible refine (cFb _ L1).mono ?_); rintro e2 w2 ⟨rfl, b2'⟩; (have L2 := Below.then L1 b2'); (have E2 : Below ((w.alloc (.cells #[c0, c1, c2, c3] 26)).alloc (.cells #[d0, d1, d2, d3] 26)).heap.size ((w.alloc (.cells #[c0, c1, c2, c3] 26)).alloc (.cells #[d0, d1, d2, d3] 26)) w2 := Below.then E1 b2'); (obtain ⟨⟨x0, x1, x2, x3⟩, ⟨u0, u1, u2, u3⟩, -⟩ := H0 _ E2))
      | (go_at_call 15; (with_reducible refine (cRa _ L2).mono ?_); rintro e3 w3 ⟨rfl, b3'⟩; (have L3 := Below.then L2 b3'); (have E3 : Below ((w.alloc (.cells #[c0, c1, c2, c3] 26)).alloc (.cells #[d0, d1, d2, d3] 26)).heap.size ((w.alloc (.cells #[c0, c1, c2, c3] 26)).alloc (.cells #[d0, d1, d2, d3] 26)) w3 := Below.then E2 b3'); (obtain ⟨⟨s0, s1, s2, s3⟩, ⟨t0, t1, t2, t3⟩, -⟩ := H0 _ E3))
      | (go_at_call 15; (with_reducible refine (cRb _ L3).mono ?_); rintro e4 w4 ⟨rfl, b4'⟩; (have L4 := Below.then L3 b4'); (have E4 : Below ((w.alloc (.cells #[c0, c1, c2, c3] 26)).alloc (.cells #[d0, d1, d2, d3] 26)).heap.size ((w.alloc (.cells #[c0, c1, c2, c3] 26)).alloc (.cells #[d0, d1, d2, d3] 26)) w4 := Below.then E3 b4'); (obtain ⟨⟨s0, s1, s2, s3⟩, ⟨t0, t1, t2, t3⟩, -⟩ := H0 _ E4))
      | (go_at_call 8; (with_reducible refine (cK _ (by first | exact L4 | exact L3 | exact L2 | exact L1)).mono ?_); rintro e9 w9 ⟨rfl, b9⟩; (have L9 : Below w.heap.size w w9 := Below.then (by first | exact L4 | exact L3 | exact L2 | exact L1) b9)))
    go_ret
    exact ⟨rfl, L9⟩
  obtain ⟨r, hr⟩ : ∃ r, eqA A B = r := ⟨_, rfl⟩
  have hc := bytes_cmp ((apart_law rA rB).trans hr)
  simp only [hr] at cS
  simp only [rA] at cRa
  simp only [rB] at cRb
  clear rA rB hr
  generalize (⟨(litA A).toArray⟩ : ByteArray) = tA at cLa hc
  generalize (⟨(litA B).toArray⟩ : ByteArray) = tB at cLb hc
  clear b0 b1 hT1 hT2 q0 q1
  cases r
  all_goals
    go_enter Tryd.func6, Tryd.ntmps6
    go_wp2_with (first
      | (go_at_call 7; (with_reducible refine (cFa _ bw2).mono ?_); rintro e1 w1 ⟨rfl, b1'⟩; (have L1 := Below.then bw2 b1'); (have E1 : Below ((w.alloc (.cells #[c0, c1, c2, c3] 26)).alloc (.cells #[d0, d1, d2, d3] 26)).heap.size ((w.alloc (.cells #[c0, c1, c2, c3] 26)).alloc (.cells #[d0, d1, d2, d3] 26)) w1 := b1'); (obtain ⟨⟨y0, y1, y2, y3⟩, ⟨z0, z1, z2, z3⟩, -⟩ := H0 _ E1))
      | (go_at_call 7; (with_reducible refine (cFb _ L1).mono ?_); rintro e2 w2 ⟨rfl, b2'⟩; (have L2 := Below.then L1 b2'); (have E2 : Below ((w.alloc (.cells #[c0, c1, c2, c3] 26)).alloc (.cells #[d0, d1, d2, d3] 26)).heap.size ((w.alloc (.cells #[c0, c1, c2, c3] 26)).alloc (.cells #[d0, d1, d2, d3] 26)) w2 := Below.then E1 b2'); (obtain ⟨⟨x0, x1, x2, x3⟩, ⟨u0, u1, u2, u3⟩, -⟩ := H0 _ E2))
      | (go_at_call 15; (with_reducible refine (cRa _ L2).mono ?_); rintro e3 w3 ⟨rfl, b3'⟩; (have L3 := Below.then L2 b3'); (have E3 : Below ((w.alloc (.cells #[c0, c1, c2, c3] 26)).alloc (.cells #[d0, d1, d2, d3] 26)).heap.size ((w.alloc (.cells #[c0, c1, c2, c3] 26)).alloc (.cells #[d0, d1, d2, d3] 26)) w3 := Below.then E2 b3'); (obtain ⟨⟨s0, s1, s2, s3⟩, ⟨t0, t1, t2, t3⟩, -⟩ := H0 _ E3))
      | (go_at_call 15; (with_reducible refine (cRb _ L3).mono ?_); rintro e4 w4 ⟨rfl, b4'⟩; (have L4 := Below.then L3 b4'); (have E4 : Below ((w.alloc (.cells #[c0, c1, c2, c3] 26)).alloc (.cells #[d0, d1, d2, d3] 26)).heap.size ((w.alloc (.cells #[c0, c1, c2, c3] 26)).alloc (.cells #[d0, d1, d2, d3] 26)) w4 := Below.then E3 b4'); (obtain ⟨⟨s0, s1, s2, s3⟩, ⟨t0, t1, t2, t3⟩, -⟩ := H0 _ E4))
      | (go_at_call 8; (with_reducible refine (cK _ (by first | exact L4 | exact L3 | exact L2 | exact L1)).mono ?_); rintro e9 w9 ⟨rfl, b9⟩; (have L9 : Below w.heap.size w w9 := Below.then (by first | exact L4 | exact L3 | exact L2 | exact L1) b9)))
    have H4 : ∀ w', Below w4.heap.size w4 w' → (w'.cell? ⟨w.heap.size, 0, none⟩ = some c0 ∧ w'.cell? ⟨w.heap.size, 1, none⟩ = some c1 ∧ w'.cell? ⟨w.heap.size, 2, none⟩ = some c2 ∧ w'.cell? ⟨w.heap.size, 3, none⟩ = some c3) ∧ (w'.cell? ⟨w.heap.size + 1, 0, none⟩ = some d0 ∧ w'.cell? ⟨w.heap.size + 1, 1, none⟩ = some d1 ∧ w'.cell? ⟨w.heap.size + 1, 2, none⟩ = some d2 ∧ w'.cell? ⟨w.heap.size + 1, 3, none⟩ = some d3) ∧ Below w.heap.size w w' := fun w' h => H0 w' (Below.then E4 h)
    go_region_held3 (fun w' => (w'.cell? ⟨w.heap.size, 0, none⟩ = some c0 ∧ w'.cell? ⟨w.heap.size, 1, none⟩ = some c1 ∧ w'.cell? ⟨w.heap.size, 2, none⟩ = some c2 ∧ w'.cell? ⟨w.heap.size, 3, none⟩ = some c3) ∧ (w'.cell? ⟨w.heap.size + 1, 0, none⟩ = some d0 ∧ w'.cell? ⟨w.heap.size + 1, 1, none⟩ = some d1 ∧ w'.cell? ⟨w.heap.size + 1, 2, none⟩ = some d2 ∧ w'.cell? ⟨w.heap.size + 1, 3, none⟩ = some d3) ∧ Below w.heap.size w w')
      (first | exact H4 _ (by go_grown) | go_keep)
      ((first
      | (go_at_call 9; (with_reducible refine (cLa _ (L4.trans (Below.mono (by go_grown) L4.size))).mono ?_); rintro e5 w5 ⟨rfl, b5⟩; (have E5 : Below w4.heap.size w4 w5 := Below.then (by go_grown) b5); (have L5 : Below w.heap.size w w5 := Below.then L4 E5))
      | (go_at_call 9; (with_reducible refine (cLb _ (L5.trans (Below.mono (by go_grown) L5.size))).mono ?_); rintro e6 w6 ⟨rfl, b6⟩; (have E6 : Below w5.heap.size w5 w6 := Below.then (by go_grown) b6); (have L6 : Below w.heap.size w w6 := Below.then L5 E6); (have F6 : Below w4.heap.size w4 w6 := Below.then E5 E6))
      | (go_at_call 16; (with_reducible refine (cS _ (L6.trans (Below.mono (by go_grown) L6.size))).mono ?_); rintro e7 w7 ⟨rfl, b7⟩; (have E7 : Below w6.heap.size w6 w7 := Below.then (by go_grown) b7); (have L7 : Below w.heap.size w w7 := Below.then L6 E7); (have F7 : Below w4.heap.size w4 w7 := Below.then F6 E7))
      | (go_at_call 8; (with_reducible refine (cK _ (L7.trans (Below.mono (by go_grown) L7.size))).mono ?_); rintro e8 w8 ⟨rfl, b8⟩; (have E8 : Below w7.heap.size w7 w8 := Below.then (by go_grown) b8); (have L8 : Below w.heap.size w w8 := Below.then L7 E8); (have F8 : Below w4.heap.size w4 w8 := Below.then F7 E8))))
    all_goals go_wp2_with fail
    all_goals go_ret
    all_goals exact ⟨rfl, L8⟩
end Go.Proofs.YtngcahaidlgkfaaDoor.Shape
