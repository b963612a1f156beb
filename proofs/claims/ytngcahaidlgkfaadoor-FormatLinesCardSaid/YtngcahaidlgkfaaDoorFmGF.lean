/-
  Layer 5: the reference's literal of all other arrays.
  Layer 5: the reference's literal of arrays with one element.
  Layer 5: the reference's literal of arrays with more elements, and of all arrays.
  Layer 5: the reference's literal and Literal, at arrays of few elements.
  Layer 5: the reference's Literal.
-/
import Derived.Test.YtngcahaidlgkfaaDoorFmGA
import Derived.Test.YtngcahaidlgkfaaDoorArrAt
import Derived.Test.YtngcahaidlgkfaaDoorArrFillNew
import Derived.Test.YtngcahaidlgkfaaDoorArrOpen
import Derived.Test.YtngcahaidlgkfaaDoorFmGC
namespace Go.Proofs.YtngcahaidlgkfaaDoor.Shape
open Go.RowKit Go.Proofs.YtngcahaidlgkfaaDoor.Num
set_option linter.unusedVariables false

def reB : ByteArray := ⟨#[32, 114, 101, 115, 104, 97, 112, 101, 32]⟩
theorem reB_size : (ByteArray.mk #[32, 114, 101, 115, 104, 97, 112, 101, 32]).size = 9 := rfl
/-- What stands behind ' reshape '. -/
def restT (A : Arr) : List UInt8 := if (elsT A).length = 0 then fillT A.kind else if (elsT A).length = 1 then (elsT A).headD [] else vecS A.kind A.nums (elsT A)
theorem lit_rest {A : Arr} (h0 : ¬ A.shape.length = 0) (hv : ¬ (A.shape.length = 1 ∧ (A.kind = 2 ∨ 2 ≤ aSize A))) (hk : 1 ≤ A.kind ∧ A.kind ≤ 3) : litB A = jS A.shape ++ ⟨#[32, 114, 101, 115, 104, 97, 112, 101, 32]⟩ ++ ⟨(restT A).toArray⟩ := by
  have e := els_len hk
  unfold litB jS restT
  rw [litS_els, litT, if_neg h0, if_neg (by rw [e]; exact hv)]
  apply ByteArray.ext
  simp [reS]
theorem zero_text : shL 0 = [48] := by
  rw [shL_pos (by decide), dg_last (by decide)]; rfl
theorem fill_item : litS (.mk 1 [0] [] []) = [48, 32, 114, 101, 115, 104, 97, 112, 101, 32, 48] := by
  rw [litS, litT, if_neg (by simp), if_neg (by simp), jn_one, zero_text]
  rfl
theorem fill_head {k : Int} (hk : 1 ≤ k ∧ k ≤ 3) : (elsT (fillA k)).headD [] = fillT k := by
  rcases (by omega : k = 1 ∨ k = 2 ∨ k = 3) with rfl | rfl | rfl
  · show shL 0 = [48]; exact zero_text
  · rfl
  · show (98 :: 111 :: 120 :: 32 :: litS (.mk 1 [0] [] [])) = _
    rw [fill_item]; rfl
theorem fill_size {k : Int} (hk : 1 ≤ k ∧ k ≤ 3) : aSize (fillA k) = 1 := by
  rcases (by omega : k = 1 ∨ k = 2 ∨ k = 3) with rfl | rfl | rfl <;> rfl
theorem fill_ok {k : Int} (hk : 1 ≤ k ∧ k ≤ 3) (FX : k = 3 → ∀ v' w', ArrAt w' v' (.mk 1 [0] [] []) → Calls Tryd.prog 20 #[v'] w' fun e w2 => e = .returned (.string (litB (.mk 1 [0] [] []))) ∧ Below w'.heap.size w' w2) : LitOK (fillA k) := by
  rcases (by omega : k = 1 ∨ k = 2 ∨ k = 3) with rfl | rfl | rfl
  · exact ⟨by decide, fun h => absurd h (by decide), by decide, fun h => absurd h (by decide), fun _ => by decide, fun h => absurd h (by decide)⟩
  · exact ⟨by decide, fun _ x hx => by rw [List.mem_singleton.1 hx]; decide, by decide, fun h => absurd h (by decide), fun _ => by decide, fun h => absurd h (by decide)⟩
  · refine ⟨by decide, fun h => absurd h (by decide), by decide, fun _ => by decide, fun _ => by decide, fun _ j hj => ?_⟩
    have hj0 : j = 0 := by have : j < 1 := hj; omega
    subst hj0
    refine ⟨?_, FX rfl⟩
    show (litS (.mk 1 [0] [] [])).length ≤ 200000
    rw [fill_item]; decide

set_option maxRecDepth 100000 in
set_option maxHeartbeats 1000000 in
/-- An array without elements. -/
theorem litRz (v : Value) (A : Arr) (w : World) (h : ArrAt w v A) (hk : 1 ≤ A.kind ∧ A.kind ≤ 3) (h0 : ¬ A.shape.length = 0) (hv : ¬ (A.shape.length = 1 ∧ A.kind = 2)) (hn : aSize A = 0) (h8 : A.shape.length ≤ 8)
    (FX : A.kind = 3 → ∀ v' w', ArrAt w' v' (.mk 1 [0] [] []) → Calls Tryd.prog 20 #[v'] w' fun e w2 => e = .returned (.string (litB (.mk 1 [0] [] []))) ∧ Below w'.heap.size w' w2) :
    Calls Tryd.prog 20 #[v] w fun e w' => e = .returned (.string (litB A)) ∧ Below w.heap.size w w' := by
  have hE : restT A = fillT A.kind := by rw [restT, els_len hk, if_pos hn]
  have hlit := lit_rest h0 (by rw [hn]; intro g; exact hv ⟨g.1, g.2.resolve_right (by omega)⟩) hk
  rw [hE] at hlit
  rw [hlit]
  clear hE hlit
  have SZ := fun W (g : ArrAt W v A) => sizeR v A W g
  rw [hn] at SZ
  have FL := fun W (g : ArrAt W v A) => fillR_new v A W g
  have SC := fun v' W (g : ArrAt W v' (fillA A.kind)) => scalarLit v' (fillA A.kind) W g (fill_ok hk FX) (by rw [fill_size hk]; exact Nat.le_refl _)
  rw [fill_head hk] at SC
  have hTs : (ByteArray.mk (fillT A.kind).toArray).size ≤ 100 := by
    rcases (by omega : A.kind = 1 ∨ A.kind = 2 ∨ A.kind = 3) with g | g | g <;> rw [g] <;> decide
  generalize (ByteArray.mk (fillT A.kind).toArray) = T at *
  have hA := h
  obtain ⟨k, sh, nu, it⟩ := A
  simp only [Arr.shape, Arr.kind] at *
  rw [ArrAt] at h
  obtain ⟨sa, sc, na, nc, ia, ic, rfl, -, hs, -⟩ := h
  have D := fun W (g : IntsAt W sa sc sh) => fdimsR sa sc sh W g (by omega)
  have hjz := jS_size sh hs.2.2.1
  have a1 := fun w => run_string_add_sum (P := Tryd.prog) w (jS sh) ⟨#[32, 114, 101, 115, 104, 97, 112, 101, 32]⟩ (by rw [reB_size]; omega)
  have a2 := fun w => run_string_add_sum (P := Tryd.prog) w (jS sh ++ ⟨#[32, 114, 101, 115, 104, 97, 112, 101, 32]⟩) T (by rw [ByteArray.size_append, reB_size]; omega)
  generalize jS sh = J at *
  have bw := below_new w (.cells #[.int .i64 k, .slice sa sh.length sc, .slice na nu.length nc, .slice ia it.length ic] 26)
  have q0 := Quad.new w (.int .i64 k) (.slice sa sh.length sc) (.slice na nu.length nc) (.slice ia it.length ic)
  have hA1 := hA.below bw
  have hs1 := hs.below bw
  have e1 : sh.length = 1 → (k == 2) = false := fun g => by simpa using fun e => hv ⟨g, e⟩
  obtain ⟨p0, p1, p2, p3, -⟩ := q0.cells
  have e0 : ((sh.length : Int) == 0) = false := by simpa using h0
  clear hA hs FX hk hjz hTs
  by_cases h1 : sh.length = 1
  · have e3 := e1 h1
    rw [h1] at p0 p1 p2 p3 q0 hA1 D SZ FL bw hs1 ⊢
    go_enter Tryd.func20, Tryd.ntmps20
    go_wp2_with (first
      | (go_at_call 26; (with_reducible refine (SZ _ hA1).mono ?_); rintro e w1 ⟨rfl, hb1⟩; (obtain ⟨u0, u1, u2, u3, -⟩ := (q0.below hb1).cells))
      | (go_at_call 39; (with_reducible refine (D _ (hs1.below hb1)).mono ?_); rintro e w2 ⟨rfl, hb2⟩; (obtain ⟨t0, t1, t2, t3, -⟩ := ((q0.below hb1).below hb2).cells))
      | (go_at_call 40; (with_reducible refine (FL _ ((hA1.below hb1).below hb2)).mono ?_); intro e w3 hN; (obtain ⟨k3, s3, l3, d3, n3, m3, e3', i3, j3, f3, rfl, hO, hb3⟩ := hN.form))
      | (go_at_call 36; (with_reducible refine (SC _ _ hO.at).mono ?_); rintro e w4 ⟨rfl, hb4⟩))
    go_ret
    exact ⟨rfl, Below.then (Below.then (Below.then (Below.then bw hb1) hb2) hb3) hb4⟩
  · have e3 : ((sh.length : Int) == 1) = false := by simpa using fun e => h1 (by omega)
    generalize sh.length = N at *
    go_enter Tryd.func20, Tryd.ntmps20
    go_wp2_with (first
      | (go_at_call 26; (with_reducible refine (SZ _ hA1).mono ?_); rintro e w1 ⟨rfl, hb1⟩; (obtain ⟨u0, u1, u2, u3, -⟩ := (q0.below hb1).cells))
      | (go_at_call 39; (with_reducible refine (D _ (hs1.below hb1)).mono ?_); rintro e w2 ⟨rfl, hb2⟩; (obtain ⟨t0, t1, t2, t3, -⟩ := ((q0.below hb1).below hb2).cells))
      | (go_at_call 40; (with_reducible refine (FL _ ((hA1.below hb1).below hb2)).mono ?_); intro e w3 hN; (obtain ⟨k3, s3, l3, d3, n3, m3, e3', i3, j3, f3, rfl, hO, hb3⟩ := hN.form))
      | (go_at_call 36; (with_reducible refine (SC _ _ hO.at).mono ?_); rintro e w4 ⟨rfl, hb4⟩))
    go_ret
    exact ⟨rfl, Below.then (Below.then (Below.then (Below.then bw hb1) hb2) hb3) hb4⟩
end Go.Proofs.YtngcahaidlgkfaaDoor.Shape

namespace Go.Proofs.YtngcahaidlgkfaaDoor.Shape
open Go.RowKit Go.Proofs.YtngcahaidlgkfaaDoor.Num
set_option linter.unusedVariables false

theorem elsT_mk (k : Int) (sh nu : List Int) (it : List Arr) : elsT (.mk k sh nu it) = if k = 3 then litsS it else nu.map fun x => if k = 2 then 39 :: (chS x 39 ++ [39]) else shL x := rfl
theorem head_len {A : Arr} (ok : LitOK A) (hb : ∀ x ∈ A.nums, -9223372036854775808 ≤ x ∧ x ≤ 9223372036854775807) : ((elsT A).headD []).length ≤ 300000 := by
  have hc := ok.chars
  have hi := ok.items
  obtain ⟨k, sh, nu, it⟩ := A
  simp only [Arr.kind, Arr.nums, Arr.items] at *
  by_cases h3 : k = 3
  · subst h3
    rw [elsT_mk, if_pos rfl]
    cases it with
    | nil => rw [litsS]; simp
    | cons B r =>
      have := (hi rfl 0 (by simp)).1
      simp only [List.getElem_cons_zero] at this
      rw [litsS]
      simp only [List.headD_cons, List.length_cons]
      omega
  · rw [elsT_mk, if_neg h3]
    cases nu with
    | nil => simp
    | cons x r =>
      simp only [List.map_cons, List.headD_cons]
      by_cases h2 : k = 2
      · rw [if_pos h2]
        have := chS_len x 39 (hc h2 x (by simp)).2
        simp only [List.length_cons, List.length_append, List.length_nil]; omega
      · rw [if_neg h2]
        have := shL_len (hb x (by simp)).1 (hb x (by simp)).2
        omega
theorem at_ok {A : Arr} (ok : LitOK A) (hn : aSize A = 1) : LitOK (atA A 0) ∧ (elsT (atA A 0)).headD [] = (elsT A).headD [] ∧ 1 ≤ aSize (atA A 0) := by
  have hk := ok.kind
  have hc := ok.chars
  have hi := ok.items
  rw [atA, if_neg (by rw [hn]; omega)]
  by_cases h3 : A.kind = 3
  · rw [if_pos h3]
    obtain ⟨k, sh, nu, it⟩ := A
    simp only [Arr.kind, Arr.nums, Arr.items] at *
    subst h3
    have h1 : it.length = 1 := by rw [size3 rfl] at hn; exact hn
    cases it with
    | nil => simp at h1
    | cons B r =>
      have hB := hi rfl 0 (by simp)
      simp only [List.getElem_cons_zero] at hB
      show LitOK (.mk 3 [] [] [B]) ∧ (elsT (.mk 3 [] [] [B])).headD [] = (elsT (.mk 3 sh nu (B :: r))).headD [] ∧ 1 ≤ aSize (.mk 3 [] [] [B])
      have e32 : ¬ (3 : Int) = 2 := by decide
      refine ⟨⟨⟨by show (1 : Int) ≤ 3; decide, Int.le_refl _⟩, fun h => absurd h e32, Nat.zero_le _, fun _ => by show 1 ≤ 400; decide, fun _ => Nat.le_refl _, fun _ j hj => ?_⟩, ?_, Nat.le_refl _⟩
      · have hj0 : j = 0 := by have : j < 1 := hj; omega
        subst hj0
        exact hB
      · show (litsS [B]).headD [] = (litsS (B :: r)).headD []
        rw [litsS, litsS]; rfl
  · rw [if_neg h3]
    obtain ⟨k, sh, nu, it⟩ := A
    simp only [Arr.kind, Arr.nums, Arr.items] at *
    have h1 : nu.length = 1 := by rw [size12 (A := .mk k sh nu it) h3 hk] at hn; exact hn
    cases nu with
    | nil => simp at h1
    | cons x r =>
      have h12 : k = 1 ∨ k = 2 := by omega
      show LitOK (.mk k [] [x] []) ∧ (elsT (.mk k [] [x] [])).headD [] = (elsT (.mk k sh (x :: r) it)).headD [] ∧ 1 ≤ aSize (.mk k [] [x] [])
      refine ⟨⟨hk, fun h y hy => ?_, by show 1 ≤ 70000; decide, fun h => absurd h h3, fun _ => ?_, fun h => absurd h h3⟩, ?_, ?_⟩
      · rw [List.mem_singleton.1 hy]; exact hc h x (by simp)
      · rw [size12 (A := .mk k [] [x] []) h3 hk]; exact Nat.le_refl _
      · rw [elsT_mk, elsT_mk, if_neg h3, if_neg h3]; rfl
      · rw [size12 (A := .mk k [] [x] []) h3 hk]; exact Nat.le_refl _

set_option maxRecDepth 100000 in
set_option maxHeartbeats 1000000 in
/-- An array with one element and at least one axis. -/
theorem litRo (v : Value) (A : Arr) (w : World) (h : ArrAt w v A) (ok : LitOK A) (hR : Reach A) (h0 : ¬ A.shape.length = 0) (hv : ¬ (A.shape.length = 1 ∧ A.kind = 2)) (hn : aSize A = 1) (h8 : A.shape.length ≤ 8) :
    Calls Tryd.prog 20 #[v] w fun e w' => e = .returned (.string (litB A)) ∧ Below w.heap.size w w' := by
  obtain ⟨ok1, hd1, hn1⟩ := at_ok ok hn
  have hk := ok.kind
  have hE : restT A = (elsT A).headD [] := by rw [restT, els_len hk, if_neg (by omega), if_pos hn]
  have hlit := lit_rest h0 (by rw [hn]; intro g; exact hv ⟨g.1, g.2.resolve_right (by omega)⟩) hk
  rw [hE] at hlit
  rw [hlit]
  clear hE hlit
  have SZ := fun W (g : ArrAt W v A) => sizeR v A W g
  rw [hn] at SZ
  have FL := fun W (g : ArrAt W v A) => atR v A 0 W g hR (by decide)
  have SC := fun v' W (g : ArrAt W v' (atA A 0)) => scalarLit v' (atA A 0) W g ok1 hn1
  rw [hd1] at SC
  have hA := h
  have hTl := head_len ok (by
    obtain ⟨k, sh, nu, it⟩ := A
    rw [ArrAt] at h
    obtain ⟨sa, sc, na, nc, ia, ic, rfl, -, hs, hn', -⟩ := h
    exact hn'.2.2.1)
  have hTs : (ByteArray.mk ((elsT A).headD []).toArray).size ≤ 300000 := by simpa [ByteArray.size] using hTl
  generalize (ByteArray.mk ((elsT A).headD []).toArray) = T at *
  generalize atA A 0 = A1 at *
  clear ok hd1 hTl hR ok1 hn1
  obtain ⟨k, sh, nu, it⟩ := A
  simp only [Arr.shape, Arr.kind] at *
  rw [ArrAt] at h
  obtain ⟨sa, sc, na, nc, ia, ic, rfl, -, hs, -⟩ := h
  have D := fun W (g : IntsAt W sa sc sh) => fdimsR sa sc sh W g (by omega)
  have hjz := jS_size sh hs.2.2.1
  have a1 := fun w => run_string_add_sum (P := Tryd.prog) w (jS sh) ⟨#[32, 114, 101, 115, 104, 97, 112, 101, 32]⟩ (by rw [reB_size]; omega)
  have a2 := fun w => run_string_add_sum (P := Tryd.prog) w (jS sh ++ ⟨#[32, 114, 101, 115, 104, 97, 112, 101, 32]⟩) T (by rw [ByteArray.size_append, reB_size]; omega)
  generalize jS sh = J at *
  have bw := below_new w (.cells #[.int .i64 k, .slice sa sh.length sc, .slice na nu.length nc, .slice ia it.length ic] 26)
  have q0 := Quad.new w (.int .i64 k) (.slice sa sh.length sc) (.slice na nu.length nc) (.slice ia it.length ic)
  have hA1 := hA.below bw
  have hs1 := hs.below bw
  have e1 : sh.length = 1 → (k == 2) = false := fun g => by simpa using fun e => hv ⟨g, e⟩
  obtain ⟨p0, p1, p2, p3, -⟩ := q0.cells
  have e0 : ((sh.length : Int) == 0) = false := by simpa using h0
  clear hA hs hk hjz hTs
  by_cases h1 : sh.length = 1
  · have e3 := e1 h1
    rw [h1] at p0 p1 p2 p3 q0 hA1 D SZ FL bw hs1 ⊢
    go_enter Tryd.func20, Tryd.ntmps20
    go_wp2_with (first
      | (go_at_call 26; (with_reducible refine (SZ _ hA1).mono ?_); rintro e w1 ⟨rfl, hb1⟩; (obtain ⟨u0, u1, u2, u3, -⟩ := (q0.below hb1).cells))
      | (go_at_call 39; (with_reducible refine (D _ (hs1.below hb1)).mono ?_); rintro e w2 ⟨rfl, hb2⟩; (obtain ⟨t0, t1, t2, t3, -⟩ := ((q0.below hb1).below hb2).cells))
      | (go_at_call 41; (with_reducible refine (FL _ ((hA1.below hb1).below hb2)).mono ?_); intro e w3 hN; (obtain ⟨k3, s3, l3, d3, n3, m3, e3', i3, j3, f3, rfl, hO, hb3⟩ := hN.form))
      | (go_at_call 36; (with_reducible refine (SC _ _ hO.at).mono ?_); rintro e w4 ⟨rfl, hb4⟩))
    go_ret
    exact ⟨rfl, Below.then (Below.then (Below.then (Below.then bw hb1) hb2) hb3) hb4⟩
  · have e3 : ((sh.length : Int) == 1) = false := by simpa using fun e => h1 (by omega)
    generalize sh.length = N at *
    go_enter Tryd.func20, Tryd.ntmps20
    go_wp2_with (first
      | (go_at_call 26; (with_reducible refine (SZ _ hA1).mono ?_); rintro e w1 ⟨rfl, hb1⟩; (obtain ⟨u0, u1, u2, u3, -⟩ := (q0.below hb1).cells))
      | (go_at_call 39; (with_reducible refine (D _ (hs1.below hb1)).mono ?_); rintro e w2 ⟨rfl, hb2⟩; (obtain ⟨t0, t1, t2, t3, -⟩ := ((q0.below hb1).below hb2).cells))
      | (go_at_call 41; (with_reducible refine (FL _ ((hA1.below hb1).below hb2)).mono ?_); intro e w3 hN; (obtain ⟨k3, s3, l3, d3, n3, m3, e3', i3, j3, f3, rfl, hO, hb3⟩ := hN.form))
      | (go_at_call 36; (with_reducible refine (SC _ _ hO.at).mono ?_); rintro e w4 ⟨rfl, hb4⟩))
    go_ret
    exact ⟨rfl, Below.then (Below.then (Below.then (Below.then bw hb1) hb2) hb3) hb4⟩
end Go.Proofs.YtngcahaidlgkfaaDoor.Shape

namespace Go.Proofs.YtngcahaidlgkfaaDoor.Shape
open Go.RowKit Go.Proofs.YtngcahaidlgkfaaDoor.Num
set_option linter.unusedVariables false

theorem vec_len {A : Arr} (ok : LitOK A) (hb : ∀ x ∈ A.nums, -9223372036854775808 ≤ x ∧ x ≤ 9223372036854775807) : (vecS A.kind A.nums (elsT A)).length ≤ 90000000 := by
  have hc := ok.chars
  have hi := ok.items
  have hnl := ok.nums
  have hfe := ok.few
  have hk := ok.kind
  obtain ⟨k, sh, nu, it⟩ := A
  simp only [Arr.kind, Arr.nums, Arr.items] at *
  rcases (by omega : k = 1 ∨ k = 2 ∨ k = 3) with rfl | rfl | rfl
  · have e : elsT (.mk 1 sh nu it) = nu.map shL := rfl
    rw [e]
    show (blankS (nu.map shL)).length ≤ _
    have h1 := blank_len 20 (nu.map shL) (fun y hy => by
      obtain ⟨x, hx, rfl⟩ := List.mem_map.1 hy
      exact shL_len (hb x hx).1 (hb x hx).2)
    rw [List.length_map] at h1
    have h2 : (20 + 1) * nu.length ≤ (20 + 1) * 70000 := Nat.mul_le_mul_left _ hnl
    omega
  · show (quoS nu).length ≤ _
    have h1 := flat_len (fun c => chS c 34) 12 nu (fun x hx => chS_len x 34 (hc rfl x hx).2)
    have h2 : 12 * nu.length ≤ 12 * 70000 := Nat.mul_le_mul_left _ hnl
    simp only [quoS, List.length_cons, List.length_append, List.length_nil]
    omega
  · have e : elsT (.mk 3 sh nu it) = litsS it := rfl
    rw [e, vec_box]
    have h1 := blank_len 200006 (it.map bx) (fun x hx => by
      obtain ⟨A, hA, rfl⟩ := List.mem_map.1 hx
      obtain ⟨i, hi', rfl⟩ := List.getElem_of_mem hA
      have := (hi rfl i hi').1
      simp only [bx, List.length_cons, List.length_append, List.length_nil]; omega)
    rw [List.length_map] at h1
    have h3 : (200006 + 1) * it.length ≤ (200006 + 1) * 400 := Nat.mul_le_mul_left _ (hfe rfl)
    omega

set_option maxRecDepth 100000 in
set_option maxHeartbeats 1000000 in
/-- An array with two or more axes and elements. -/
theorem litRm (v : Value) (A : Arr) (w : World) (h : ArrAt w v A) (ok : LitOK A) (h0 : 2 ≤ A.shape.length) (hn : 2 ≤ aSize A) (h8 : A.shape.length ≤ 8) :
    Calls Tryd.prog 20 #[v] w fun e w' => e = .returned (.string (litB A)) ∧ Below w.heap.size w w' := by
  have hk := ok.kind
  have hE : restT A = vecS A.kind A.nums (elsT A) := by rw [restT, els_len hk, if_neg (by omega), if_neg (by omega)]
  have hlit := lit_rest (A := A) (by omega) (by omega) hk
  rw [hE] at hlit
  rw [hlit]
  clear hE hlit
  have SZ := fun W (g : ArrAt W v A) => sizeR v A W g
  have hA := h
  have hTl := vec_len ok (by
    obtain ⟨k, sh, nu, it⟩ := A
    rw [ArrAt] at h
    obtain ⟨sa, sc, na, nc, ia, ic, rfl, -, hs, hn', -⟩ := h
    exact hn'.2.2.1)
  have hTs : (ByteArray.mk (vecS A.kind A.nums (elsT A)).toArray).size ≤ 90000000 := by simpa [ByteArray.size] using hTl
  have hsm : aSize A ≤ 70000 := by
    have h1 := ok.nums
    have h2 := ok.few
    by_cases g : A.kind = 3
    · rw [size3 g]; have := h2 g; omega
    · rw [size12 g hk]; exact h1
  obtain ⟨N, hN⟩ : ∃ N, aSize A = N := ⟨_, rfl⟩
  rw [hN] at SZ hn hsm
  have LV : ∀ v' W, ArrAt W v' (.mk A.kind [(N : Int)] A.nums A.items) → Calls Tryd.prog 20 #[v'] W fun e w' => e = .returned (.string ⟨(vecS A.kind A.nums (elsT A)).toArray⟩) ∧ Below W.heap.size W w' := fun v' W g => by
    obtain ⟨k, sh, nu, it⟩ := A
    have ok2 : LitOK (.mk k [(N : Int)] nu it) := ⟨ok.kind, ok.chars, ok.nums, ok.few, fun h => absurd h (by simp [Arr.shape]), ok.items⟩
    have hs2 : aSize (.mk k [(N : Int)] nu it) = N := hN
    exact litRv v' (.mk k [(N : Int)] nu it) W g ok2 rfl (Or.inr (by omega))
  generalize (ByteArray.mk (vecS A.kind A.nums (elsT A)).toArray) = T at *
  clear ok hN hTl
  obtain ⟨k, sh, nu, it⟩ := A
  simp only [Arr.shape, Arr.kind, Arr.nums, Arr.items] at *
  rw [ArrAt] at h
  obtain ⟨sa, sc, na, nc, ia, ic, rfl, hkb, hs, hnu, hi1, hi2, b, off, ha, hc⟩ := h
  have D := fun W (g : IntsAt W sa sc sh) => fdimsR sa sc sh W g (by omega)
  have hjz := jS_size sh hs.2.2.1
  have a1 := fun w => run_string_add_sum (P := Tryd.prog) w (jS sh) ⟨#[32, 114, 101, 115, 104, 97, 112, 101, 32]⟩ (by rw [reB_size]; omega)
  have a2 := fun w => run_string_add_sum (P := Tryd.prog) w (jS sh ++ ⟨#[32, 114, 101, 115, 104, 97, 112, 101, 32]⟩) T (by rw [ByteArray.size_append, reB_size]; omega)
  generalize jS sh = J at *
  have bw := below_new w (.cells #[.int .i64 k, .slice sa sh.length sc, .slice na nu.length nc, .slice ia it.length ic] 26)
  have q0 := Quad.new w (.int .i64 k) (.slice sa sh.length sc) (.slice na nu.length nc) (.slice ia it.length ic)
  have hA1 := hA.below bw
  have hs1 := hs.below bw
  have hnu1 := hnu.below bw
  have hc1 := ArrsAt.below bw hc
  obtain ⟨p0, p1, p2, p3, -⟩ := q0.cells
  have LW : ∀ W, Below w.heap.size w W → Calls Tryd.prog 20 #[.agg #[.int .i64 k, .slice (some ⟨W.heap.size, 0, none⟩) 1 1, .slice na nu.length nc, .slice ia it.length ic]] (W.alloc (.cells #[.int .i64 (N : Int)] 3)) fun e w' => e = .returned (.string T) ∧ Below (W.alloc (.cells #[.int .i64 (N : Int)] 3)).heap.size (W.alloc (.cells #[.int .i64 (N : Int)] 3)) w' := fun W g => LV _ _ (by
    have g2 := Below.then g (below_new W (.cells #[.int .i64 (N : Int)] 3))
    rw [ArrAt]
    exact ⟨some ⟨W.heap.size, 0, none⟩, 1, na, nc, ia, ic, rfl, hkb, ints_one _ _ 1 _ (by omega) (by rw [World.cell?_alloc_new]; rfl) (Nat.le_refl _) (by decide), hnu.below g2, hi1, hi2, b, off, ha, ArrsAt.below g2 hc⟩)
  clear hA hs hk hjz hTs LV hnu hc hnu1 hc1 hi1 hi2 ha
  have e0 : ((sh.length : Int) == 0) = false := by simpa using (by omega : ¬ sh.length = 0)
  have e3 : ((sh.length : Int) == 1) = false := by simpa using (by omega : ¬ (sh.length : Int) = 1)
  have e4 : ((N : Int) == 0) = false := by simpa using (by omega : ¬ N = 0)
  have e5 : ((N : Int) == 1) = false := by simpa using (by omega : ¬ (N : Int) = 1)
  generalize sh.length = M at *
  go_enter Tryd.func20, Tryd.ntmps20
  go_wp2_with (first
    | (go_at_call 26; (with_reducible refine (SZ _ hA1).mono ?_); rintro e w1 ⟨rfl, hb1⟩; (obtain ⟨u0, u1, u2, u3, -⟩ := (q0.below hb1).cells))
    | (go_at_call 39; (with_reducible refine (D _ (hs1.below hb1)).mono ?_); rintro e w2 ⟨rfl, hb2⟩; (have B2 := Below.then (Below.then bw hb1) hb2); (obtain ⟨t0, t1, t2, t3, -⟩ := (((q0.below hb1).below hb2).below (below_new w2 (.cells #[.int .i64 (N : Int)] 3))).cells); (obtain ⟨s0, s1, s2, s3, -⟩ := ((q0.below hb1).below hb2).cells))
    | (go_at_call 20; (with_reducible refine (LW _ B2).mono ?_); rintro e w4 ⟨rfl, hb4⟩))
  go_ret
  exact ⟨rfl, Below.then (Below.then B2 (below_new _ _)) hb4⟩
end Go.Proofs.YtngcahaidlgkfaaDoor.Shape

namespace Go.Proofs.YtngcahaidlgkfaaDoor.Shape
open Go.RowKit Go.Proofs.YtngcahaidlgkfaaDoor.Num
set_option linter.unusedVariables false
set_option linter.unusedSimpArgs false

theorem reachL_at : ∀ {l : List Arr}, ReachL l → ∀ {j : Nat} (hj : j < l.length), Reach l[j]
  | [], _, j, hj => absurd hj (by simp)
  | A :: r, h, 0, _ => by rw [ReachL] at h; exact h.1
  | A :: r, h, j + 1, hj => by
    rw [ReachL] at h
    have := reachL_at h.2 (j := j) (by simpa using hj)
    simpa using this
theorem reach_items {k : Int} {sh nu : List Int} {it : List Arr} (h : Reach (.mk k sh nu it)) : ReachL it := by
  rw [Reach] at h
  exact h.2.2.2
theorem litR_nil (v : Value) (w : World) (h : ArrAt w v (.mk 1 [0] [] [])) :
    Calls Tryd.prog 20 #[v] w fun e w2 => e = .returned (.string (litB (.mk 1 [0] [] []))) ∧ Below w.heap.size w w2 :=
  litRz v _ w h (by simp [Arr.kind]) (by simp [Arr.shape]) (by simp [Arr.shape, Arr.kind]) (by simp [aSize, Arr.kind, Arr.nums]) (by simp [Arr.shape]) (fun e => by simp [Arr.kind] at e)
theorem litB_vec {k : Int} {sh nu : List Int} {it : List Arr} {N : Nat} (hel : (elsT (.mk k sh nu it)).length = N) (h0 : ¬ sh.length = 0) (hv : sh.length = 1 ∧ (k = 2 ∨ 2 ≤ N)) : litB (.mk k sh nu it) = ⟨(vecS k nu (elsT (.mk k sh nu it))).toArray⟩ := by
  unfold litB
  rw [litS_els]
  show (ByteArray.mk (litT k sh nu (elsT (.mk k sh nu it))).toArray) = _
  rw [litT, if_neg h0, if_pos (by rw [hel]; exact hv)]
/-- The reference's literal at every valid array of few elements. -/
theorem litR (n : Nat) : ∀ (A : Arr), rk A ≤ n → rightE A = 0 → wt A ≤ 400 → Reach A → ∀ (v : Value) (w : World), ArrAt w v A →
    Calls Tryd.prog 20 #[v] w fun e w' => e = .returned (.string (litB A)) ∧ Below w.heap.size w w' := by
  induction n with
  | zero => intro A h; exact absurd h (by obtain ⟨k, sh, nu, it⟩ := A; rw [rk]; omega)
  | succ n ih =>
    intro A hrk hx hw hR v w h
    obtain ⟨k, sh, nu, it⟩ := A
    have V := val_of hx
    have hwp := wt_few hw
    have hsw := sumW_nn it
    have hk := V.kind
    have hel := els_len (A := .mk k sh nu it) hk
    obtain ⟨N, hN⟩ : ∃ N, aSize (.mk k sh nu it) = N := ⟨_, rfl⟩
    have hsz := V.size
    rw [hN] at hwp hsz hel
    have hN4 : N ≤ 400 := by split at hwp <;> omega
    have hnu : nu.length ≤ 400 := by
      by_cases h3 : k = 3
      · rw [V.boxed h3]; simp
      · have : N = nu.length := by rw [← hN]; exact size12 (A := .mk k sh nu it) h3 hk
        omega
    have hit : it.length ≤ 400 := by
      by_cases h3 : k = 3
      · have : N = it.length := by rw [← hN]; exact size3 (A := .mk k sh nu it) h3
        omega
      · rw [V.plain h3]; simp
    have hone : sh.length = 0 → N = 1 := fun h0 => by
      have h0' : sh = [] := List.eq_nil_of_length_eq_zero h0
      rw [h0', pr] at hsz
      omega
    have ok : LitOK (.mk k sh nu it) := ⟨hk, fun h2 => by
        have h2' : k = 2 := h2
        subst h2'
        exact chars_bd V.elems, by show nu.length ≤ 70000; omega, fun _ => hit, fun h0 => by rw [hN, hone h0]; exact Nat.le_refl _, fun h3 j hj => by
        have h3' : k = 3 := h3
        have hj' : j < it.length := hj
        have hj2 := sumW_ge hj'
        rw [if_pos h3'] at hwp
        have hwj : wt it[j] ≤ 400 := by omega
        have hlen := lit_len (rk it[j]) it[j] (Nat.le_refl _) (V.items j hj') hwj
        have hnn := wt_nn it[j]
        exact ⟨by show (litS it[j]).length ≤ 200000; omega, ih it[j] (by have := rk_item (k := k) (sh := sh) (nu := nu) hj'; omega) (V.items j hj') hwj (reachL_at (reach_items hR) hj')⟩⟩
    by_cases h0 : sh.length = 0
    · exact litR0 v _ w h ok h0
    by_cases hv : sh.length = 1 ∧ (k = 2 ∨ 2 ≤ N)
    · rw [litB_vec hel h0 hv]
      exact litRv v _ w h ok hv.1 (by rw [hN]; exact hv.2)
    have h8 := (dims_parts V.dims).1
    by_cases hn0 : N = 0
    · exact litRz v _ w h hk h0 (fun q => hv ⟨q.1, Or.inl q.2⟩) (by rw [hN]; exact hn0) h8 (fun _ v' w' h' => litR_nil v' w' h')
    by_cases hn1 : N = 1
    · exact litRo v _ w h ok hR h0 (fun q => hv ⟨q.1, Or.inl q.2⟩) (by rw [hN]; exact hn1) h8
    · have h1 : ¬ sh.length = 1 := fun q => hv ⟨q, Or.inr (by omega)⟩
      exact litRm v _ w h ok (by show 2 ≤ sh.length; omega) (by rw [hN]; omega) h8
end Go.Proofs.YtngcahaidlgkfaaDoor.Shape

namespace Go.Proofs.YtngcahaidlgkfaaDoor.Shape
open Go.RowKit Go.Proofs.YtngcahaidlgkfaaDoor.Num
set_option linter.unusedVariables false
set_option linter.unusedSimpArgs false

set_option maxRecDepth 100000 in
set_option maxHeartbeats 4000000 in
theorem LiteralR (v : Value) (A : Arr) (w : World) (h : ArrAt w v A) (hw : wt A ≤ 400) (hR : Reach A) :
    Calls Tryd.prog 10 #[v] w fun e w' => e = .returned (.string ⟨(litA A).toArray⟩) ∧ Below w.heap.size w w' := by
  have hA := h
  obtain ⟨x, hx⟩ : ∃ x, rightE A = x := ⟨_, rfl⟩
  have R := fun W (g : ArrAt W v A) => rightR3 v A W g
  have LP := fun W (g : ArrAt W v A) (hx : rightE A = 0) => litR (rk A) A (Nat.le_refl _) hx hw hR v W g
  unfold litB at LP
  obtain ⟨L, hL⟩ : ∃ L, Hid (litA A = L) := ⟨_, rfl⟩
  have hL2 := hL.out
  rw [litA, hx] at hL2
  rw [hx] at R LP
  rw [hL.out]
  obtain ⟨c0, c1, c2, c3, rfl⟩ : ∃ c0 c1 c2 c3 : Value, v = .agg #[c0, c1, c2, c3] := by
    obtain ⟨k, sh, nu, it⟩ := A
    rw [ArrAt] at h
    obtain ⟨sa, sc, na, nc, ia, ic, rfl, -⟩ := h
    exact ⟨_, _, _, _, rfl⟩
  have bw := below_new w (.cells #[c0, c1, c2, c3] 26)
  have q0 := Quad.new w c0 c1 c2 c3
  have hA1 := hA.below bw
  have cR := R _ hA1
  by_cases h0 : x = 0
  · subst h0
    rw [if_pos rfl] at hL2
    rw [hL2] at LP
    obtain ⟨p0, p1, p2, p3, -⟩ := q0.cells
    clear hx hL hL2 R hA h
    have hs1 := bw.size
    go_enter Tryd.func10, Tryd.ntmps10
    go_wp2_with (first
      | (go_at_call 15; (with_reducible refine cR.mono ?_); rintro e1 w1 ⟨rfl, b1⟩; obtain ⟨y0, y1, y2, y3, -⟩ := (q0.below b1).cells; have cL := LP w1 (hA1.below b1) rfl)
      | (go_at_call 20; (with_reducible refine cL.mono ?_); rintro e2 w2 ⟨rfl, b2⟩))
    go_ret
    exact ⟨rfl, Below.then (Below.then bw b1) b2⟩
  · have e1 : (x != 0) = true := by simpa using h0
    have e2 : (x == 0) = false := by simpa using h0
    rw [if_neg h0] at hL2
    subst hL2
    obtain ⟨p0, p1, p2, p3, -⟩ := q0.cells
    clear hx hL R hA h LP h0
    go_enter Tryd.func10, Tryd.ntmps10
    go_wp2_with (go_at_call 15; (with_reducible refine cR.mono ?_); rintro e1 w1 ⟨rfl, b1⟩)
    go_ret
    exact ⟨rfl, Below.then bw b1⟩
end Go.Proofs.YtngcahaidlgkfaaDoor.Shape
