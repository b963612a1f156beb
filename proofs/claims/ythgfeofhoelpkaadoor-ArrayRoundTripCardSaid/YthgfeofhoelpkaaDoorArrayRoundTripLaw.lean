/-
  The law arraylanglaw03.ArrayRoundTrip holds for every input: it returns true, and each argument reads afterwards as it read before. No condition.
-/
import Derived.Test.YthgfeofhoelpkaaDoorArrLaw1
import Derived.Test.YthgfeofhoelpkaaDoorArrSelf
import Derived.Test.YthgfeofhoelpkaaDoorArrOf5
import Derived.Test.YthgfeofhoelpkaaDoorArrExample
import Derived.Test.YthgfeofhoelpkaaDoorArrCard
import Derived.Test.YthgfeofhoelpkaaDoorArrOpen
import Derived.SizedLaws
import Derived.Handy
import Derived.Deep.RegionHeld3
import Derived.ProofKit
import Derived.OpenShut
namespace Go.Proofs.YthgfeofhoelpkaaDoor.Shape
open Go.RowKit

theorem chkL_mono : ∀ (l : List Arr) (e d : Int), chkL e l = some d → e ≤ d
  | [], e, d, h => by rw [chkL] at h; simp only [Option.some.injEq] at h; omega
  | A :: r, e, d, h => by
    rw [chkL] at h
    split at h
    · cases h
    · have := chkL_mono r _ _ h; omega
theorem chkL_item : ∀ (l : List Arr) (e d : Int), chkL e l = some d → ∀ j (hj : j < l.length), (chk l[j]).1 = 0 ∧ (chk l[j]).2 + 1 ≤ d
  | [], _, _, _, j, hj => absurd hj (by simp)
  | A :: r, e, d, h, j, hj => by
    rw [chkL] at h
    split at h
    · cases h
    · rename_i hA
      cases j with
      | zero =>
        have := chkL_mono r _ _ h
        exact ⟨by simpa using hA, by simp only [List.getElem_cons_zero]; omega⟩
      | succ j =>
        have := chkL_item r _ _ h j (by simpa using hj)
        simpa using this
theorem valid_parts {k : Int} {sh nu : List Int} {it : List Arr} (h : rightE (.mk k sh nu it) = 0) : (k = 1 ∨ k = 2 ∨ k = 3) ∧ dimsE sh = 0 ∧ (aSize (.mk k sh nu it) : Int) = pr sh ∧ other k nu it = 0 ∧ nu.all (elemB k) = true ∧
    ∃ d, chkL 0 it = some d ∧ d ≤ 16 ∧ wt (.mk k sh nu it) ≤ 262144 := by
  have hk := kind_right h
  rw [rightE] at h
  have h1 : ¬ (k < 1 ∨ 3 < k) := by omega
  by_cases hd : dimsE sh = 0
  · by_cases hl : (aSize (.mk k sh nu it) : Int) ≠ pr sh ∨ 0 < other k nu it
    · rw [chk_len h1 hd hl] at h; cases h
    · by_cases he : nu.all (elemB k) = true
      · rw [chk_rest h1 hd hl he] at h
        refine ⟨hk, hd, by omega, by omega, he, ?_⟩
        cases hc : chkL 0 it with
        | none => rw [hc] at h; cases h
        | some d =>
          rw [hc] at h
          refine ⟨d, rfl, ?_⟩
          simp only [lastE] at h
          split at h
          · cases h
          · omega
      · rw [chk_elem h1 hd hl (by simpa using he)] at h; cases h
  · rw [chk_dims h1 hd] at h; exact absurd h hd
theorem cyc_self {α : Type} (l : List α) (z : α) : cyc l z l.length = l := by
  refine List.ext_getElem (by rw [cyc_len]) (fun i h1 h2 => ?_)
  simp only [cyc, List.getElem_map, List.getElem_range]
  rw [Nat.mod_eq_of_lt h2]
  simp [h2]
theorem ofA_items {sh : List Int} {F : Arr} {gs gn : List Int} {gi : List Arr} (hE : rightE F = 0) (hD : dimsE sh = 0) (hs : srcA F = .mk 3 gs gn gi) (hw : pr sh + sumW (cyc gi zeroA (pr sh).toNat) ≤ 262144) : ofA sh F = (.mk 3 sh [] (cyc gi zeroA (pr sh).toNat), 0) := by
  rw [ofA, if_pos hE, if_pos hD, hs, if_pos (show (Arr.mk 3 gs gn gi).kind = 3 from rfl)]
  exact if_pos hw
theorem of_self {k : Int} {sh nu : List Int} {it : List Arr} (h : rightE (.mk k sh nu it) = 0) : ofA sh (.mk k sh nu it) = (.mk k sh nu it, 0) := by
  obtain ⟨hk, hd, hs, ho, -, d, -, -, hw⟩ := valid_parts h
  have hn := hs
  rcases hk with rfl | rfl | rfl
  · have hit : it = [] := List.eq_nil_of_length_eq_zero (by simpa [other] using ho)
    subst hit
    have hz : aSize (.mk 1 sh nu []) = nu.length := by simp [aSize, Arr.kind, Arr.nums]
    rw [hz] at hs
    have hp : (pr sh).toNat = nu.length := by omega
    by_cases h0 : nu.length = 0
    · have e : nu = [] := List.eq_nil_of_length_eq_zero h0
      subst e
      rw [ofA_num h hd (k := 1) (gs := []) (gn := [0]) (gi := []) (by rw [srcA, if_pos (by rw [hz]; rfl)]; rfl) (by decide), hp]; rfl
    · rw [ofA_num h hd (k := 1) (gs := sh) (gn := nu) (gi := []) (by rw [srcA, if_neg (by rw [hz]; exact h0)]) (by decide), hp, cyc_self]
  · have hit : it = [] := List.eq_nil_of_length_eq_zero (by simpa [other] using ho)
    subst hit
    have hz : aSize (.mk 2 sh nu []) = nu.length := by simp [aSize, Arr.kind, Arr.nums]
    rw [hz] at hs
    have hp : (pr sh).toNat = nu.length := by omega
    by_cases h0 : nu.length = 0
    · have e : nu = [] := List.eq_nil_of_length_eq_zero h0
      subst e
      rw [ofA_num h hd (k := 2) (gs := []) (gn := [32]) (gi := []) (by rw [srcA, if_pos (by rw [hz]; rfl)]; rfl) (by decide), hp]; rfl
    · rw [ofA_num h hd (k := 2) (gs := sh) (gn := nu) (gi := []) (by rw [srcA, if_neg (by rw [hz]; exact h0)]) (by decide), hp, cyc_self]
  · have hnu : nu = [] := List.eq_nil_of_length_eq_zero (by simpa [other] using ho)
    subst hnu
    have hz : aSize (.mk 3 sh [] it) = it.length := by simp [aSize, Arr.kind, Arr.items]
    rw [wt, if_pos rfl, hz] at hw
    rw [hz] at hs
    have hp : (pr sh).toNat = it.length := by omega
    by_cases h0 : it.length = 0
    · have e : it = [] := List.eq_nil_of_length_eq_zero h0
      subst e
      have hp2 : pr sh = 0 := by rw [← hs]; rfl
      rw [ofA_items h hd (gs := []) (gn := []) (gi := [.mk 1 [0] [] []]) (by rw [srcA, if_pos (by rw [hz]; rfl)]; rfl) (by rw [hp2]; decide), hp]; rfl
    · rw [ofA_items h hd (gs := sh) (gn := []) (gi := it) (by rw [srcA, if_neg (by rw [hz]; exact h0)]) (by rw [hp, cyc_self]; omega), hp, cyc_self]
theorem chk_one {k x : Int} (hk : k = 1 ∨ k = 2) (hx : elemB k x = true) : rightE (.mk k [] [x] []) = 0 := by
  have hz : aSize (.mk k [] [x] []) = 1 := by rcases hk with rfl | rfl <;> rfl
  have hw : wt (.mk k [] [x] []) = 1 := by rw [wt, hz]; rcases hk with rfl | rfl <;> decide
  rw [rightE, chk_rest (by omega) (by decide) (by rw [hz]; rcases hk with rfl | rfl <;> simp [other, pr]) (by simp [hx]), hw]
  rfl
theorem chk_boxed {A : Arr} {d : Int} (h1 : (chk A).1 = 0) (h2 : (chk A).2 + 1 ≤ d) (hd : d ≤ 16) (hw : 1 + wt A ≤ 262144) : rightE (.mk 3 [] [] [A]) = 0 := by
  have hz : aSize (.mk 3 [] [] [A]) = 1 := by simp [aSize, Arr.kind, Arr.items]
  have hb := chk_bd A
  have hn := wt_nn A
  have hc : chkL 0 [A] = some ((chk A).2 + 1) := by
    rw [chkL, if_neg (by simpa using h1), chkL]; congr 1; omega
  have hW : wt (.mk 3 [] [] [A]) = 1 + wt A := by
    rw [wt, hz, if_pos rfl, sumW, sumW]; omega
  rw [rightE, chk_rest (by omega) (by decide) (by rw [hz]; simp [other, pr]) (by simp), hc, hW]
  show (lastE ((chk A).2 + 1) (1 + wt A)).1 = 0
  rw [lastE, if_neg (by omega)]
/-- An element of a valid array: a valid scalar of its kind. -/
theorem at_parts {A : Arr} (h : rightE A = 0) {i : Int} (h0 : 0 ≤ i) (h1 : i < (aSize A : Int)) : rightE (atA A i) = 0 ∧ (atA A i).kind = A.kind ∧ (atA A i).shape = [] := by
  obtain ⟨k, sh, nu, it⟩ := A
  obtain ⟨hk, hd, hs, ho, he, d, hc, hd16, hw⟩ := valid_parts h
  obtain ⟨j, rfl⟩ : ∃ j : Nat, i = j := ⟨i.toNat, by omega⟩
  rw [atA, if_neg (by omega)]
  by_cases k3 : k = 3
  · subst k3
    rw [if_pos (show (Arr.mk 3 sh nu it).kind = 3 from rfl)]
    have hz : aSize (.mk 3 sh nu it) = it.length := by simp [aSize, Arr.kind, Arr.items]
    rw [hz] at h1 hs
    have hj : j < it.length := by omega
    rw [wt, if_pos rfl, hz] at hw
    obtain ⟨c1, c2⟩ := chkL_item it 0 d hc j hj
    have hsw : wt it[j] ≤ sumW it := by
      have h2 := sumW_take it (j + 1)
      rw [sumW_step hj] at h2
      have := sumW_nn (it.take j)
      omega
    have e : (Arr.mk 3 sh nu it).items.getD (j : Int).toNat zeroA = it[j] := by simp [Arr.items, hj]
    rw [e]
    exact ⟨chk_boxed c1 c2 hd16 (by omega), rfl, rfl⟩
  · rw [if_neg (show ¬ (Arr.mk k sh nu it).kind = 3 from k3)]
    have hk' : k = 1 ∨ k = 2 := by omega
    have hz : aSize (.mk k sh nu it) = nu.length := by rcases hk' with rfl | rfl <;> simp [aSize, Arr.kind, Arr.nums]
    rw [hz] at h1
    have hj : j < nu.length := by omega
    have e : (Arr.mk k sh nu it).nums.getD (j : Int).toNat 0 = nu[j] := by simp [Arr.nums, hj]
    rw [e]
    exact ⟨chk_one hk' (List.all_eq_true.1 he _ (List.getElem_mem hj)), rfl, rfl⟩
theorem at_neg (A : Arr) : atA A (-1) = zeroA := by rw [atA, if_pos (Or.inl (by decide))]
theorem at_end (A : Arr) : atA A (aSize A : Int) = zeroA := by rw [atA, if_pos (Or.inr (Int.le_refl _))]
end Go.Proofs.YthgfeofhoelpkaaDoor.Shape

namespace Go.Proofs.YthgfeofhoelpkaaDoor.Shape
open Go.RowKit

theorem asize_le {A : Arr} (h : Reach A) : aSize A ≤ 9223372036854775807 := by
  obtain ⟨k, sh, nu, it⟩ := A
  rw [Reach] at h
  unfold aSize
  split
  · show nu.length ≤ _; omega
  · split
    · show it.length ≤ _; omega
    · omega
theorem samePX {v v2 : Value} {A : Arr} {w : World} (h : ArrAt w v A) (g : ArrAt w v2 A) : Calls Tryd.prog 21 #[v, v2] w fun e w' => e = .returned (.bool true) ∧ Below w.heap.size w w' := by
  have := sameQ v v2 A A w h g
  rw [eqA_refl] at this
  exact this
/-- A scalar of kind k as a result. -/
theorem GiveArr.scalar {A : Arr} {k : Int} {w w' : World} {e : Ending} (h : GiveArr A w e w') (hk : A.kind = k) (hs : A.shape = []) : ∃ sa sc na ln nc ia li ic, e = .returned (.agg #[.int .i64 k, .slice sa 0 sc, .slice na ln nc, .slice ia li ic]) ∧
    ArrAt w' (.agg #[.int .i64 k, .slice sa 0 sc, .slice na ln nc, .slice ia li ic]) A ∧ Below w.heap.size w w' := by
  obtain ⟨v, rfl, hA, hb⟩ := h
  have hA' := hA
  obtain ⟨k', sh, nu, it⟩ := A
  obtain rfl : k' = k := hk
  obtain rfl : sh = [] := hs
  rw [ArrAt] at hA
  obtain ⟨sa, sc, na, nc, ia, ic, rfl, -⟩ := hA
  exact ⟨sa, sc, na, _, nc, ia, _, ic, rfl, hA', hb⟩
end Go.Proofs.YthgfeofhoelpkaaDoor.Shape

namespace Go.Proofs.YthgfeofhoelpkaaDoor.arrayRoundTripProof
open Go.ChangeShapes Go.WideShapes Go.ChangeAt Go.RowKit Go.Proofs.YthgfeofhoelpkaaDoor.Shape
open Go.WideMaps Go.WideElems
open Go.ChangeMaps (open_string shut_string)
set_option linter.unusedVariables false

theorem own : ownKnob Tryd.prog.godebug = none := by kernel_rfl
theorem laidOut : laidOutB Tryd.prog = true := by kernel_rfl

set_option maxHeartbeats 1000000 in
theorem walk (v0 : Value) (x0 : Arr) (w : World) (hT : Tabs w) (b0 : ArrAt w v0 x0) (s0 : Shape.Reach x0) :
    Calls Tryd.prog 9 #[v0] w fun e w' => e = .returned (.bool true) ∧ Below w.heap.size w w' := by
  obtain ⟨k, sh, nu, it⟩ := x0
  obtain ⟨sa, sc, na, nc, ia, ic, rfl, hs⟩ : ∃ sa sc na nc ia ic, v0 = .agg #[.int .i64 k, .slice sa sh.length sc, .slice na nu.length nc, .slice ia it.length ic] ∧ IntsAt w sa sc sh := by
    have h := b0
    rw [ArrAt] at h
    obtain ⟨sa, sc, na, nc, ia, ic, rfl, -, hs, -⟩ := h
    exact ⟨_, _, _, _, _, _, rfl, hs⟩
  have bw := below_new w (.cells #[.int .i64 k, .slice sa sh.length sc, .slice na nu.length nc, .slice ia it.length ic] 26)
  have q0 := Quad.new w (.int .i64 k) (.slice sa sh.length sc) (.slice na nu.length nc) (.slice ia it.length ic)
  have hA := b0.below bw
  have hI := hs.below bw
  have hsl := hs.len
  clear hs
  have hOS : Hid (rightE (.mk k sh nu it) = 0 → ofA sh (.mk k sh nu it) = (.mk k sh nu it, 0)) := fun h => of_self h
  have hAT : Hid (rightE (.mk k sh nu it) = 0 → ∀ i : Int, 0 ≤ i → i < (aSize (.mk k sh nu it) : Int) → rightE (atA (.mk k sh nu it) i) = 0 ∧ (atA (.mk k sh nu it) i).kind = k ∧ (atA (.mk k sh nu it) i).shape = []) := fun h i h0 h1 => at_parts h h0 h1
  have PR := fun (v : Value) w' g => rightQ v (.mk k sh nu it) w' g
  have PO := fun a c (v : Value) w' g h => ofQ a c sh v (.mk k sh nu it) w' g h s0
  have PA := fun (v : Value) (i : Int) w' g h => atQ v (.mk k sh nu it) i w' g s0 h
  have PS := fun (v : Value) w' g => sizeQ v (.mk k sh nu it) w' g
  have hTL : aSize (.mk k sh nu it) ≤ 9223372036854775807 := asize_le s0
  have hE1 := at_neg (.mk k sh nu it)
  have hE2 := at_end (.mk k sh nu it)
  have PA1 := fun (v : Value) w' g => PA v (-1) w' g (by decide)
  have PA2 := fun (v : Value) w' g => PA v (aSize (.mk k sh nu it) : Int) w' g (by omega)
  rw [hE1] at PA1
  rw [hE2] at PA2
  clear hE1 hE2
  obtain ⟨x, hx⟩ : ∃ x, rightE (.mk k sh nu it) = x := ⟨_, rfl⟩
  rw [hx] at PR hOS hAT
  clear hx
  obtain ⟨W0, hW⟩ : ∃ W0, W0 = w.alloc (.cells #[.int .i64 k, .slice sa sh.length sc, .slice na nu.length nc, .slice ia it.length ic] 26) := ⟨_, rfl⟩
  go_enter Tryd.func9, Tryd.ntmps9
  go_wp2_with fail
  go_at_call 11
  refine (smallR _ _ _ hA).mono ?_
  rintro e w1 ⟨b, rfl, b1⟩
  rw [← hW] at bw q0 hA hI b1
  clear hW
  have B1 : Below w.heap.size w w1 := Below.then bw b1
  have TW := hT.below B1
  have hA1 := hA.below b1
  have hI1 := hI.below b1
  have q1 := q0.below b1
  obtain ⟨p0, p1, p2, p3, -⟩ := q1.cells
  clear hA hI bw q0 b1
  cases b with
  | false =>
    go_wp2_with (go_at_call 12; refine (exampleL _ TW).mono ?_; rintro e w2 ⟨rfl, b2⟩)
    go_ret
    exact ⟨rfl, Below.then B1 b2⟩
  | true =>
    by_cases hx : x = 0
    · have hOf := hOS.out hx
      have hAt := hAT.out hx
      rw [hOf] at PO
      subst hx
      clear hOS hAT hOf
      go_wp2_with (first
        | (go_at_call 13; refine (PR _ _ hA1).mono ?_; rintro e w2 ⟨rfl, b2⟩; (obtain ⟨r0, r1, r2, r3, -⟩ := (q1.below b2).cells))
        | (go_at_call 41; refine (PO _ _ _ _ (hI1.below b2) (hA1.below b2)).mono ?_; intro e w3 hN; (obtain ⟨k3, sa3, ls3, sc3, na3, ln3, nc3, ia3, li3, ic3, rfl, h3, b3⟩ := hN.form); (have b34 := Below.then b3 (below_new w3 (.cells #[.int .i64 k3, .slice sa3 ls3 sc3, .slice na3 ln3 nc3, .slice ia3 li3 ic3] 26))); (have h33 := h3.below (below_new w3 (.cells #[.int .i64 k3, .slice sa3 ls3 sc3, .slice na3 ln3 nc3, .slice ia3 li3 ic3] 26))); (have B24 := Below.then b2 b34); (obtain ⟨t0, t1, t2, t3, -⟩ := (q1.below B24).cells))
        | (go_at_call 21; refine (samePX (hA1.below B24) h33).mono ?_; rintro e w5 ⟨rfl, b5⟩))
      have B5 : Below w.heap.size w w5 := Below.then (Below.then B1 B24) b5
      have hA5 := (hA1.below B24).below b5
      have q5 := (q1.below B24).below b5
      clear hA1 hI1 q1 p0 p1 p2 p3 r0 r1 r2 r3 t0 t1 t2 t3 B1 B24 b2 b3 b34 b5 h3 h33 PR PO
      generalize aSize (.mk k sh nu it) = N at PS PA2 hTL hAt
      go_loopw [5] (fun i wr => ∃ j : Nat, j ≤ N ∧ i = .int .i64 j ∧ Below w5.heap.size w5 wr) (fun i _ => N - (intOf i).toNat)
      case atStart => exact ⟨0, Nat.zero_le _, rfl, Below.refl _ _⟩
      case round =>
        obtain ⟨j, hj, rfl, hb⟩ := hrel
        obtain ⟨p0, p1, p2, p3, -⟩ := (q5.below hb).cells
        have hAr := hA5.below hb
        by_cases hlt : j < N
        · obtain ⟨c1, c2, c3⟩ := hAt j (by omega) (by omega)
          have PAj := fun (v : Value) w' g => PA v (j : Int) w' g (by omega)
          generalize atA (.mk k sh nu it) (j : Int) = X at c1 c2 c3 PAj
          have PRX := fun (v : Value) w' g => rightQ v X w' g
          rw [c1] at PRX
          go_wp2_with (first
            | (go_at_call 15; refine (PS _ _ hAr).mono ?_; rintro e w6 ⟨rfl, b6⟩; (obtain ⟨r0, r1, r2, r3, -⟩ := ((q5.below hb).below b6).cells))
            | (go_at_call 37; refine (PAj _ _ (hAr.below b6)).mono ?_; intro e w7 hN; (obtain ⟨sa7, sc7, na7, ln7, nc7, ia7, li7, ic7, rfl, h7, b7⟩ := hN.scalar c2 c3); (have bn := below_new w7 (.cells #[.int .i64 k, .slice sa7 0 sc7, .slice na7 ln7 nc7, .slice ia7 li7 ic7] 26)); (have q7 := Quad.new w7 (.int .i64 k) (.slice sa7 0 sc7) (.slice na7 ln7 nc7) (.slice ia7 li7 ic7)); (have h77 := h7.below bn))
            | (go_at_call 13; refine (PRX _ _ h77).mono ?_; rintro e w8 ⟨rfl, b8⟩; (have B8 := Below.then (Below.then (Below.then b6 b7) bn) b8); (obtain ⟨t0, t1, t2, t3, -⟩ := ((q5.below hb).below B8).cells); (obtain ⟨u0, u1, u2, u3, -⟩ := (q7.below b8).cells)))
          refine ⟨⟨j + 1, by omega, by go_num, Below.then hb B8⟩, ?_⟩
          simp [intOf]; omega
        · go_wp2_with (go_at_call 15; refine (PS _ _ hAr).mono ?_; rintro e w6 ⟨rfl, b6⟩)
          have hA6 := hAr.below b6
          have q6 := (q5.below hb).below b6
          have B6 := Below.then (Below.then B5 hb) b6
          have T6 := hT.below B6
          clear hAr hb b6 hA5 q5 B5 p0 p1 p2 p3
          have H0 : ∀ w', Below w6.heap.size w6 w' → (w'.cell? ⟨w.heap.size, 0, none⟩ = some (.int .i64 k) ∧ w'.cell? ⟨w.heap.size, 1, none⟩ = some (.slice sa sh.length sc) ∧ w'.cell? ⟨w.heap.size, 2, none⟩ = some (.slice na nu.length nc) ∧ w'.cell? ⟨w.heap.size, 3, none⟩ = some (.slice ia it.length ic)) ∧ Below w6.heap.size w6 w' := by
            intro w' hb
            obtain ⟨x0', x1', x2', x3', -⟩ := (q6.below hb).cells
            exact ⟨⟨x0', x1', x2', x3'⟩, hb⟩
          go_region_held3 (fun w' => (w'.cell? ⟨w.heap.size, 0, none⟩ = some (.int .i64 k) ∧ w'.cell? ⟨w.heap.size, 1, none⟩ = some (.slice sa sh.length sc) ∧ w'.cell? ⟨w.heap.size, 2, none⟩ = some (.slice na nu.length nc) ∧ w'.cell? ⟨w.heap.size, 3, none⟩ = some (.slice ia it.length ic)) ∧ Below w6.heap.size w6 w')
            (first | exact H0 _ (by go_grown) | go_keep)
            ((first
            | (go_at_call 37; (with_reducible refine (PA1 _ _ (hA6.below (by go_grown))).mono ?_); intro e w7 hN; (obtain ⟨k7, sa7, ls7, sc7, na7, ln7, nc7, ia7, li7, ic7, rfl, h7, b7⟩ := hN.form); (have E7 : Below w6.heap.size w6 w7 := Below.then (by go_grown) b7); (have S7 := E7.size))
            | (go_at_call 21; (with_reducible refine (samePX (h7.below (by go_grown)) (zero_on (fun _ => True) _).at).mono ?_); rintro e w8 ⟨rfl, b8⟩; (have E8 : Below w6.heap.size w6 w8 := Below.then (by go_grown) b8); (have S8 := E8.size))
            | (go_at_call 15; (with_reducible refine (PS _ _ (hA6.below (by go_grown))).mono ?_); rintro e w9 ⟨rfl, b9⟩; (have E9 : Below w6.heap.size w6 w9 := Below.then (by go_grown) b9); (have S9 := E9.size))
            | (go_at_call 37; (with_reducible refine (PA2 _ _ (hA6.below (by go_grown))).mono ?_); intro e w10 hN; (obtain ⟨k10, sa10, ls10, sc10, na10, ln10, nc10, ia10, li10, ic10, rfl, h10, b10⟩ := hN.form); (have E10 : Below w6.heap.size w6 w10 := Below.then (by go_grown) b10); (have S10 := E10.size))
            | (go_at_call 21; (with_reducible refine (samePX (h10.below (by go_grown)) (zero_on (fun _ => True) _).at).mono ?_); rintro e w11 ⟨rfl, b11⟩; (have E11 : Below w6.heap.size w6 w11 := Below.then (by go_grown) b11); (have S11 := E11.size))
            | (go_at_call 12; (with_reducible refine (exampleL _ (T6.below (by go_grown))).mono ?_); rintro e w12 ⟨rfl, b12⟩; (have E12 : Below w6.heap.size w6 w12 := Below.then (by go_grown) b12); (have S12 := E12.size))))
          all_goals go_wp2_with fail
          all_goals go_ret
          all_goals exact ⟨rfl, B6.trans (E12.mono B6.size)⟩
    · have e1 : (x == 0) = false := by simpa using hx
      have e2 : (x != 0) = true := by simpa using hx
      clear hx hOS hAT
      go_wp2_with (first
        | (go_at_call 13; refine (PR _ _ hA1).mono ?_; rintro e w2 ⟨rfl, b2⟩)
        | (go_at_call 12; refine (exampleL _ (TW.below b2)).mono ?_; rintro e w3 ⟨rfl, b3⟩))
      go_ret
      exact ⟨rfl, Below.then (Below.then B1 b2) b3⟩

theorem witness_row (os : Os) {H : Type} (enc : TypeId × Value → H) :
    (OpenSpec.ofChange Rows.arrayRoundTripSpec).preRow enc Tryd.prog Tryd.f9 Rows.arrayRoundTripRow.domain false Rows.arrayRoundTripRow.laid ((laidWorld os).forCall (fun _ _ => 0) ⟨#[], #[.agg #[.int .i64 0, .slice none 0 0, .slice none 0 0, .slice none 0 0]], []⟩).memory #[.agg #[.int .i64 0, .slice none 0 0, .slice none 0 0, .slice none 0 0]] := by
  have hw : (DataW.whole enc Tryd.prog ((laidWorld os).forCall (fun _ _ => 0) ⟨#[], #[.agg #[.int .i64 0, .slice none 0 0, .slice none 0 0, .slice none 0 0]], []⟩).memory Tryd.f9.params.toList (OpenSpec.ofChange Rows.arrayRoundTripSpec).vars false (#[.agg #[.int .i64 0, .slice none 0 0, .slice none 0 0, .slice none 0 0]] : Array Value).toList 8).map (fun x => (x.1, x.2.1)) = some ([.agg [.lit (.int .i64 0), .nil, .nil, .nil]], []) := by kernel_rfl
  obtain ⟨⟨x1, x2, x3⟩, hx, hx1⟩ := Option.map_eq_some_iff.1 hw
  simp only [Prod.mk.injEq] at hx1
  obtain ⟨rfl, rfl⟩ := hx1
  exact OpenSpec.preRow_of_cond 8 hx (by kernel_rfl) (fun k hk => by cases hk) (by kernel_rfl) (laid_met os _)

set_option maxRecDepth 100000 in
set_option maxHeartbeats 2000000 in
theorem lifted (os : Os) (started : os.Started) (H : Type) (enc : TypeId × Value → H) (F0 : Stop.Interp) :
    ReturnsInHanded {} Tryd.checked os 9 .any ((OpenSpec.ofChange Rows.arrayRoundTripSpec).preRow enc Tryd.prog Tryd.f9 Rows.arrayRoundTripRow.domain false Rows.arrayRoundTripRow.laid) (((OpenSpec.ofChange Rows.arrayRoundTripSpec).at F0).post enc Tryd.prog Tryd.f9 false true false false) := by
  refine returnsInHanded_of_row (C := Tryd.checked) (s := (OpenSpec.ofChange Rows.arrayRoundTripSpec)) own started (by kernel_rfl) Tryd.func9
    (witness_row_atRef (enc := enc) (C := Tryd.checked) false (laidWorld os) #[.agg #[.int .i64 0, .slice none 0 0, .slice none 0 0, .slice none 0 0]] rfl (by kernel_rfl) (by kernel_rfl) (by kernel_rfl) (witness_row os enc)) ?_
  intro W base args ds gs before hval0 hW _ _ hsz0 hL _ _
  have hT : Tabs W := tabs_of hL
  have hsz : (DataW.weightsEach Tryd.prog (Tryd.f9.params.toList ++ (OpenSpec.ofChange Rows.arrayRoundTripSpec).bare.plain.varTypes Tryd.prog) (ds ++ gs)).all (· ≤ reachBytes) = true := hsz0
  have hval : ∀ (j : Nat) t v, Tryd.f9.params[j]? = some t → args[j]? = some v → Value.okWide Tryd.prog W .any base t v := hval0
  have hW' := hW
  obtain ⟨p, q, hA0, hV, rfl, hfz, hnd⟩ := hW
  have hA : DataW.TrodAll enc Tryd.prog W 0 (fun _ => true) true Tryd.f9.params.toList args.toList ds p := hA0
  rw [Tryd.params9] at hA hval hsz
  obtain ⟨v0, vs0, d0, ds0, p0, q0, hargs, rfl, rfl, h0, r0⟩ := trodAll_cons hA
  obtain ⟨rfl, rfl, rfl⟩ := trodAll_nil r0
  obtain rfl : args = #[v0] := by cases args; simp_all
  obtain ⟨rfl, rfl⟩ := trodVars_none hV
  have k0 := h0
  have lt0 : ∀ x ∈ p0, x.block < W.heap.size := by obtain ⟨m, hm⟩ := k0; exact DataW.trod_lt m _ _ _ hm
  obtain ⟨x0, b0, z0⟩ := arr_open (hval 0 26 v0 rfl rfl) h0
  have s0 : Shape.Reach x0 := z0 (Sized.each hsz (j := 0) rfl rfl)
  clear hA0 hval0
  refine (walk v0 x0 W hT b0 s0).mono fun e W' ⟨he, bel⟩ => ?_
  subst he
  exact ⟨_, rfl, _, _, _, [], _, [], hW', trodAll_mk1 (shut_bool Tryd.underlying4 _), (trodAll_cons_mk (Below.trod laidOut (by kernel_rfl) (of_decide_eq_true (by kernel_rfl)) k0 bel lt0) trodAll_mk0), rfl, bel.frame _, fun h => by cases h⟩

theorem over : Rows.arrayRoundTripRow.holds Tryd.pinned (OpenSpec.ofChange Rows.arrayRoundTripSpec) :=
  OpenClaim.holds_of_cond 9 Tryd.f9 rfl rfl rfl rfl rfl rfl rfl ⟨rfl, rfl, rfl, rfl, rfl⟩ rfl rfl rfl rfl rfl (by kernel_rfl) Tryd.func9 (by kernel_rfl)
    (of_decide_eq_true (by kernel_rfl)) (by unfold Func.isWrapper; first | (rw [if_pos (by decide +kernel)]; kernel_rfl) | (rw [if_neg (by decide +kernel)]; exact ⟨rfl, rfl⟩))
    (fun os started H enc _ F0 => by rw [OpenClaim.pre_eq_preRow]; exact lifted os started H enc F0)

set_option maxRecDepth 100000 in
theorem plainParams : ∀ (f : FuncId) (fn : Func), Tryd.prog.funcNamed Rows.arrayRoundTripRow.func = some f → Tryd.prog.funcs[f]? = some fn → false = Tryd.prog.looks [] ∧ ∀ (j : Nat) t, fn.params[j]? = some t → Tryd.prog.wantsStandIn t = false := by
  intro f fn hf hfn
  obtain rfl : f = 9 := Option.some.inj ((show Tryd.prog.funcNamed Rows.arrayRoundTripRow.func = some 9 by kernel_rfl).symm.trans hf) |>.symm
  obtain rfl : fn = Tryd.f9 := (Option.some.inj (Tryd.func9.symm.trans hfn)).symm
  refine ⟨by kernel_rfl, fun j t ht => ?_⟩
  have hall : (Tryd.f9.params.toList.all fun t => !Tryd.prog.wantsStandIn t) = true := by kernel_rfl
  have hm : t ∈ Tryd.f9.params.toList := by
    rw [← Array.getElem?_toList] at ht
    exact List.mem_of_getElem? ht
  simpa using List.all_eq_true.1 hall t hm

theorem proved : Rows.ArrayRoundTripCardSaid :=
  Claim7.holds_tied_plain_at .later [] [.data, .pinned] true _ false over (fun _ h => by cases h) (by kernel_rfl) (fun _ h => by cases h) arrayRoundTrip_row_tie rfl ⟨rfl, rfl⟩ (by kernel_rfl) rfl plainParams (by kernel_rfl)
end Go.Proofs.YthgfeofhoelpkaaDoor.arrayRoundTripProof
