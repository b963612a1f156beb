/-
  The law arraylanglaw03.ArrayLimits holds for every input: it returns true, and each argument reads afterwards as it read before. No condition.
-/
import Derived.Test.YthgfeofhoelpkaaDoorArrLaw1
import Derived.Test.YthgfeofhoelpkaaDoorArrSelf
import Derived.Test.YthgfeofhoelpkaaDoorArrExample
import Derived.Test.YthgfeofhoelpkaaDoorArrCard
import Derived.Test.YthgfeofhoelpkaaDoorArrOpen
import Derived.SizedLaws
import Derived.Handy
import Derived.ProofKit
import Derived.OpenShut
namespace Go.Proofs.YthgfeofhoelpkaaDoor.Shape
open Go.RowKit
set_option linter.unusedVariables false

theorem num_valid (nu : List Int) (n : Nat) (hn : nu.length = n) (h : n ≤ 65536) (ha : ∀ x ∈ nu, numB x = true) : rightE (.mk 1 [(n : Int)] nu []) = 0 := by
  have hp : partsE (.mk 1 [(n : Int)] nu []) = 0 := by
    refine parts_ok (by omega) ((text_dims n).1 h) ?_ ?_
    · show ¬ ((nu.length : Int) ≠ pr [(n : Int)] ∨ 0 < ([] : List Arr).length)
      rw [pr, pr, hn]; simp
    · rw [List.all_eq_true]
      intro x hx
      simp [elemB, ha x hx]
  have hc := chk_split hp
  rw [show chkL 0 [] = some 0 from rfl] at hc
  simp only at hc
  have hw2 : wt (.mk 1 [(n : Int)] nu []) = min (nu.length : Int) 262145 := by rw [wt, if_neg (by decide), Int.add_zero]; rfl
  have hl : lastE 0 (wt (.mk 1 [(n : Int)] nu [])) = (0, 0) := by rw [lastE, if_neg (by rw [hw2, hn]; omega)]
  rw [rightE, hc, hl]
theorem num_long (nu : List Int) (n : Nat) (h : 65536 < n) : rightE (.mk 1 [(n : Int)] nu []) = 21 := by
  have hp := parts_dims (k := 1) (sh := [(n : Int)]) (nu := nu) (it := []) (by omega) (by rw [(text_dims _).2 h]; decide)
  rw [rightE, chk_parts (by rw [hp, (text_dims _).2 h]; decide), hp, (text_dims _).2 h]
theorem zero_dims (n : Nat) : (n ≤ 65536 → dimsE [0, (n : Int)] = 0) ∧ (65536 < n → dimsE [0, (n : Int)] = 21) := by
  have hn : NN [0, (n : Int)] := fun x hx => by
    simp only [List.mem_cons, List.not_mem_nil, or_false] at hx
    rcases hx with rfl | rfl <;> omega
  have hz : nz [0, (n : Int)] = if n = 0 then 1 else (n : Int) := by
    rw [nz, nz, nz, if_pos rfl, Int.one_mul]; split <;> split <;> omega
  refine ⟨fun h => dimsE_ok (by simp) hn (by rw [hz]; split <;> omega), fun h => dimsE_big (by simp) hn (by rw [hz]; split <;> omega)⟩
theorem zero_right (n : Nat) (h : n ≤ 65536) : rightE (.mk 1 [0, (n : Int)] [] []) = 0 := by
  have hp : partsE (.mk 1 [0, (n : Int)] [] []) = 0 := by
    refine parts_ok (by omega) ((zero_dims n).1 h) ?_ rfl
    show ¬ ((([] : List Int).length : Int) ≠ pr [0, (n : Int)] ∨ 0 < ([] : List Arr).length)
    rw [pr]; simp
  have hc := chk_split hp
  rw [show chkL 0 [] = some 0 from rfl] at hc
  simp only at hc
  have hw2 : wt (.mk 1 [0, (n : Int)] [] []) = 0 := by rw [wt, if_neg (by decide), Int.add_zero]; rfl
  rw [rightE, hc, lastE, if_neg (by rw [hw2]; decide)]
theorem zero_long (n : Nat) (h : 65536 < n) : rightE (.mk 1 [0, (n : Int)] [] []) = 21 := by
  have hp := parts_dims (k := 1) (sh := [0, (n : Int)]) (nu := []) (it := []) (by omega) (by rw [(zero_dims _).2 h]; decide)
  rw [rightE, chk_parts (by rw [hp, (zero_dims _).2 h]; decide), hp, (zero_dims _).2 h]
theorem reach_seven : Reach (.mk 1 [] [7] []) := reach_plain (by decide) (by decide)
theorem seven_valid : validA (.mk 1 [] [7] []) = .mk 1 [] [7] [] := by kernel_rfl
theorem seven_right : rightE (.mk 1 [] [7] []) = 0 := by kernel_rfl
theorem of_seven (n : Nat) (h : n ≤ 65536) : ofA [(n : Int)] (.mk 1 [] [7] []) = (.mk 1 [(n : Int)] (cyc [7] 0 n) [], 0) := by
  rw [ofA_num seven_right ((text_dims n).1 h) (show srcA (.mk 1 [] [7] []) = .mk 1 [] [7] [] from rfl) (by decide)]
  rw [show pr [(n : Int)] = (n : Int) by rw [pr, pr]; omega, Int.toNat_natCast]
theorem of_seven_long (n : Nat) (h : 65536 < n) : ofA [(n : Int)] (.mk 1 [] [7] []) = (zeroA, 21) := by
  rw [ofA, if_pos seven_right, if_neg (by rw [(text_dims n).2 h]; decide), (text_dims n).2 h]
theorem cyc_seven (n : Nat) : ∀ x ∈ cyc [7] (0 : Int) n, numB x = true := by
  intro x hx
  unfold cyc at hx
  obtain ⟨i, -, rfl⟩ := List.mem_map.1 hx
  simp [Nat.mod_one, numB]
theorem made_ints (W : World) (n : Nat) (hn : n ≤ 1000000) (b : Nat) (hb : b = W.heap.size) : IntsAt (W.alloc (.cells (madeCells #[.int .i64 0] n) 3)) (some ⟨b, 0, none⟩) n (List.replicate n 0) := by
  subst hb
  refine ⟨by rw [List.length_replicate]; exact Nat.le_refl _, by omega, fun x hx => by rw [List.eq_of_mem_replicate hx]; decide, W.heap.size, 0, fun _ => rfl, fun i hi => ?_⟩
  rw [World.cell?_alloc_new]
  rw [List.length_replicate] at hi
  simp [madeCells, hi, Nat.mod_one]
theorem vector_zeros (W : World) (n : Nat) (hn : n ≤ 1000000) (b : Nat) (hb : b = W.heap.size) :
    Calls Tryd.prog 29 #[.slice (some ⟨b, 0, none⟩) n n] (W.alloc (.cells (madeCells #[.int .i64 0] n) 3)) (GiveArr (if n ≤ 65536 then .mk 1 [(n : Int)] (List.replicate n 0) [] else zeroA) (W.alloc (.cells (madeCells #[.int .i64 0] n) 3))) := by
  have h := vectorQ (some ⟨b, 0, none⟩) n (List.replicate n 0) _ (made_ints W n hn b hb) (by rw [List.length_replicate]; omega)
  rw [List.length_replicate] at h
  have e : validA (.mk 1 [(n : Int)] (List.replicate n 0) []) = if n ≤ 65536 then .mk 1 [(n : Int)] (List.replicate n 0) [] else zeroA := by
    rw [validA]
    by_cases hl : n ≤ 65536
    · rw [num_valid _ n (by rw [List.length_replicate]) hl (fun x hx => by rw [List.eq_of_mem_replicate hx]; decide), if_pos rfl, if_pos hl]
    · rw [num_long _ n (by omega), if_neg (by decide), if_neg hl]
  rw [e] at h
  exact h
theorem right_zn {W : World} {b n : Nat} (hb : b = W.heap.size) (hn : n ≤ 1000000) : Calls Tryd.prog 13 #[.agg #[.int .i64 1, .slice (some ⟨b, 0, none⟩) 2 2, .slice none 0 0, .slice none 0 0]] (W.alloc (.cells #[.int .i64 0, .int .i64 (n : Int)] 3)) fun e w' => e = .returned (.int .i64 (if n ≤ 65536 then 0 else 21)) ∧ Below (W.alloc (.cells #[.int .i64 0, .int .i64 (n : Int)] 3)).heap.size (W.alloc (.cells #[.int .i64 0, .int .i64 (n : Int)] 3)) w' := by
  subst hb
  have h : ArrAt (W.alloc (.cells #[.int .i64 0, .int .i64 (n : Int)] 3)) (.agg #[.int .i64 1, .slice (some ⟨W.heap.size, 0, none⟩) 2 2, .slice none 0 0, .slice none 0 0]) (.mk 1 [0, (n : Int)] [] []) :=
    arr_plain (sh := [0, (n : Int)]) (nu := []) (by decide) rfl rfl (lit_ints W [0, (n : Int)] _ _ _ _ rfl rfl rfl (by intro x hx; simp only [List.mem_cons, List.not_mem_nil, or_false] at hx; rcases hx with rfl | rfl <;> omega) (by simp)) (ints_nil _)
  have := rightQ _ _ _ h
  by_cases hl : n ≤ 65536
  · rw [zero_right n hl] at this; rw [if_pos hl]; exact this
  · rw [zero_long n (by omega)] at this; rw [if_neg hl]; exact this
end Go.Proofs.YthgfeofhoelpkaaDoor.Shape

namespace Go.Proofs.YthgfeofhoelpkaaDoor.arrayLimitsProof
open Go.ChangeShapes Go.WideShapes Go.ChangeAt Go.RowKit Go.Proofs.YthgfeofhoelpkaaDoor.Shape
open Go.WideMaps Go.WideElems
open Go.ChangeMaps (open_string shut_string)
set_option linter.unusedVariables false

theorem own : ownKnob Tryd.prog.godebug = none := by kernel_rfl
theorem laidOut : laidOutB Tryd.prog = true := by kernel_rfl

set_option maxHeartbeats 1000000 in
theorem walk (a0 : Int) (w : World) (hT : Tabs w) (b0 : 0 ≤ a0 ∧ a0 ≤ 255) :
    Calls Tryd.prog 10 #[.int .u8 a0] w fun e w' => e = .returned (.bool true) ∧ Below w.heap.size w w' := by
  obtain ⟨m, hm⟩ : ∃ m : Nat, a0 = (m : Int) := ⟨a0.toNat, by omega⟩
  subst hm
  obtain ⟨N, hN⟩ : ∃ N : Nat, 65534 + m % 5 = N := ⟨_, rfl⟩
  have hN1 : N ≤ 65538 := by omega
  have t1 : Int.tmod (m : Int) 5 = ((m % 5 : Nat) : Int) := by rw [Int.tmod_eq_emod_of_nonneg (by omega)]; omega
  have t2 : IntKind.u8.wrap ((m % 5 : Nat) : Int) = ((m % 5 : Nat) : Int) := by
    rw [IntKind.wrap_u8]; omega
  have t3 : IntKind.i64.wrap ((m % 5 : Nat) : Int) = ((m % 5 : Nat) : Int) := by rw [IntKind.wrap_i64]; omega
  have t4 : IntKind.i64.wrap (65534 + ((m % 5 : Nat) : Int)) = (N : Int) := by rw [IntKind.wrap_i64]; omega
  have HBD : ∀ x ∈ [(N : Int)], -9223372036854775808 ≤ x ∧ x ≤ 9223372036854775807 := fun x hx => by rw [List.mem_singleton.1 hx]; omega
  have SC : ∀ W, Calls Tryd.prog 25 #[.int .i64 7] W (GiveArr (.mk 1 [] [7] []) W) := fun W => seven_valid ▸ scalarQ 7 W (by decide)
  have hmk := fun W => run_makeInts W N (by omega)
  generalize m % 5 = r at hN t1 t2 t3 t4
  clear hN b0
  by_cases hl : N ≤ 65536
  · have OF : ∀ (a : Option Addr) (v : Value) W, IntsAt W a 1 [(N : Int)] → ArrAt W v (.mk 1 [] [7] []) → Calls Tryd.prog 41 #[.slice a 1 1, v] W (GiveArrE (.mk 1 [(N : Int)] (cyc [7] 0 N) []) 0 W) := by
      intro a v W g h
      have := ofQ a 1 [(N : Int)] v _ W g h reach_seven
      rw [of_seven N hl] at this
      exact this
    have VZ : ∀ (W : World) (b : Nat), b = W.heap.size → Calls Tryd.prog 29 #[.slice (some ⟨b, 0, none⟩) N N] (W.alloc (.cells (madeCells #[.int .i64 0] N) 3)) (GiveArr (.mk 1 [(N : Int)] (List.replicate N 0) []) (W.alloc (.cells (madeCells #[.int .i64 0] N) 3))) := by
      intro W b hb
      have := vector_zeros W N (by omega) b hb
      rw [if_pos hl] at this
      exact this
    have RZ := fun (W : World) (b : Nat) (hb : b = W.heap.size) => right_zn (W := W) (b := b) (n := N) hb (by omega)
    simp only [if_pos hl] at RZ
    have SA : ∀ (v : Value) (W : World), ArrAt W v (.mk 1 [(N : Int)] (cyc [7] 0 N) []) → Calls Tryd.prog 15 #[v] W fun e w' => e = .returned (.int .i64 (N : Int)) ∧ Below W.heap.size W w' := by
      intro v W h
      have := sizeQ v _ W h
      rw [show aSize (.mk 1 [(N : Int)] (cyc [7] 0 N) []) = N from cyc_len [7] (0 : Int) N] at this
      exact this
    have SV : ∀ (v : Value) (W : World), ArrAt W v (.mk 1 [(N : Int)] (List.replicate N 0) []) → Calls Tryd.prog 15 #[v] W fun e w' => e = .returned (.int .i64 (N : Int)) ∧ Below W.heap.size W w' := by
      intro v W h
      have := sizeQ v _ W h
      rw [show aSize (.mk 1 [(N : Int)] (List.replicate N 0) []) = N from List.length_replicate] at this
      exact this
    have RA : ∀ (v : Value) (W : World), ArrAt W v (.mk 1 [(N : Int)] (cyc [7] 0 N) []) → Calls Tryd.prog 13 #[v] W fun e w' => e = .returned (.int .i64 0) ∧ Below W.heap.size W w' := by
      intro v W h
      have := rightQ v _ W h
      rw [num_valid _ N (cyc_len [7] (0 : Int) N) hl (cyc_seven N)] at this
      exact this
    have hl' : ¬ (65536 : Int) < (N : Int) := by omega
    generalize cyc [7] (0 : Int) N = LA at OF SA RA
    generalize List.replicate N (0 : Int) = LV at VZ SV
    clear hl
    go_enter Tryd.func10, Tryd.ntmps10
    go_wp2_with (first
    | (go_at_call 25; (with_reducible refine (SC _).mono ?_); intro e w1 hN; (obtain ⟨k1, sa1, ls1, sc1, na1, ln1, nc1, ia1, li1, ic1, rfl, h1, b1⟩ := hN.form))
    | (go_at_call 41; (with_reducible refine (OF _ _ _ ((lit_ints w [(N : Int)] 3 #[.int .i64 (N : Int)] w.heap.size 1 rfl rfl rfl HBD (by simp)).below b1) h1).mono ?_); intro e w2 hN; (obtain ⟨k2, sa2, ls2, sc2, na2, ln2, nc2, ia2, li2, ic2, rfl, h2, b2⟩ := hN.form); (have q4 := (Quad.new w2 (.int .i64 k2) (.slice sa2 ls2 sc2) (.slice na2 ln2 nc2) (.slice ia2 li2 ic2)).below (below_new _ (.cells (madeCells #[.int .i64 0] N) 3))); (have b2a := below_new w2 (.cells #[.int .i64 k2, .slice sa2 ls2 sc2, .slice na2 ln2 nc2, .slice ia2 li2 ic2] 26)); (have h2a := (h2.below b2a).below (below_new _ (.cells (madeCells #[.int .i64 0] N) 3))))
    | (go_at_call 29; (with_reducible refine (VZ _ _ (by simp)).mono ?_); intro e w3 hN; (obtain ⟨k3, sa3, ls3, sc3, na3, ln3, nc3, ia3, li3, ic3, rfl, h3, b3⟩ := hN.form); (have q4b := (q4.below b3).below (below_new w3 (.cells #[.int .i64 k3, .slice sa3 ls3 sc3, .slice na3 ln3 nc3, .slice ia3 li3 ic3] 26))); (have q6 := Quad.new w3 (.int .i64 k3) (.slice sa3 ls3 sc3) (.slice na3 ln3 nc3) (.slice ia3 li3 ic3)); (have h23 := (h2a.below b3).below (below_new w3 (.cells #[.int .i64 k3, .slice sa3 ls3 sc3, .slice na3 ln3 nc3, .slice ia3 li3 ic3] 26))); (have h33 := h3.below (below_new w3 (.cells #[.int .i64 k3, .slice sa3 ls3 sc3, .slice na3 ln3 nc3, .slice ia3 li3 ic3] 26))); (have B3 : Below w.heap.size w (w3.alloc (.cells #[.int .i64 k3, .slice sa3 ls3 sc3, .slice na3 ln3 nc3, .slice ia3 li3 ic3] 26)) := Below.then (Below.then (Below.then (Below.then (Below.then (Below.then (below_new w _) b1) b2) b2a) (below_new _ _)) b3) (below_new w3 _)); (obtain ⟨c0, c1, c2, c3, -⟩ := q4b.cells))
    | (go_at_call 15; (with_reducible refine (SA _ _ h23).mono ?_); rintro e w4 ⟨rfl, b4⟩; (obtain ⟨d0, d1, d2, d3, -⟩ := (q6.below b4).cells); (have h34 := h33.below b4))
    | (go_at_call 15; (with_reducible refine (SV _ _ h34).mono ?_); rintro e w5 ⟨rfl, b5⟩; (have b45 := Below.then b4 b5); (obtain ⟨e0, e1, e2, e3, -⟩ := (q4b.below b45).cells))
    | (go_at_call 13; (with_reducible refine (RA _ _ (h23.below b45)).mono ?_); rintro e w6 ⟨rfl, b6⟩)
    | (go_at_call 13; (with_reducible refine (RZ _ _ rfl).mono ?_); rintro e w7 ⟨rfl, b7⟩; (have B7 := Below.then (Below.then (Below.then (Below.then B3 b45) b6) (below_new _ _)) b7))
    | (go_at_call 12; (with_reducible refine (exampleL _ (hT.below B7)).mono ?_); rintro e w8 ⟨rfl, b8⟩))
    go_ret
    exact ⟨rfl, Below.then B7 b8⟩
  · have OF : ∀ (a : Option Addr) (v : Value) W, IntsAt W a 1 [(N : Int)] → ArrAt W v (.mk 1 [] [7] []) → Calls Tryd.prog 41 #[.slice a 1 1, v] W (GiveArrE zeroA 21 W) := by
      intro a v W g h
      have := ofQ a 1 [(N : Int)] v _ W g h reach_seven
      rw [of_seven_long N (by omega)] at this
      exact this
    have VZ : ∀ (W : World) (b : Nat), b = W.heap.size → Calls Tryd.prog 29 #[.slice (some ⟨b, 0, none⟩) N N] (W.alloc (.cells (madeCells #[.int .i64 0] N) 3)) (GiveArr zeroA (W.alloc (.cells (madeCells #[.int .i64 0] N) 3))) := by
      intro W b hb
      have := vector_zeros W N (by omega) b hb
      rw [if_neg hl] at this
      exact this
    have RZ := fun (W : World) (b : Nat) (hb : b = W.heap.size) => right_zn (W := W) (b := b) (n := N) hb (by omega)
    simp only [if_neg hl] at RZ
    have hl' : (65536 : Int) < (N : Int) := by omega
    clear hl
    go_enter Tryd.func10, Tryd.ntmps10
    go_wp2_with (first
    | (go_at_call 25; (with_reducible refine (SC _).mono ?_); intro e w1 hN; (obtain ⟨k1, sa1, ls1, sc1, na1, ln1, nc1, ia1, li1, ic1, rfl, h1, b1⟩ := hN.form))
    | (go_at_call 41; (with_reducible refine (OF _ _ _ ((lit_ints w [(N : Int)] 3 #[.int .i64 (N : Int)] w.heap.size 1 rfl rfl rfl HBD (by simp)).below b1) h1).mono ?_); intro e w2 hN; (obtain ⟨k2, sa2, ls2, sc2, na2, ln2, nc2, ia2, li2, ic2, rfl, h2, b2⟩ := hN.form); (have q4 := (Quad.new w2 (.int .i64 k2) (.slice sa2 ls2 sc2) (.slice na2 ln2 nc2) (.slice ia2 li2 ic2)).below (below_new _ (.cells (madeCells #[.int .i64 0] N) 3))); (have b2a := below_new w2 (.cells #[.int .i64 k2, .slice sa2 ls2 sc2, .slice na2 ln2 nc2, .slice ia2 li2 ic2] 26)); (have h2a := (h2.below b2a).below (below_new _ (.cells (madeCells #[.int .i64 0] N) 3))))
    | (go_at_call 29; (with_reducible refine (VZ _ _ (by simp)).mono ?_); intro e w3 hN; (obtain ⟨k3, sa3, ls3, sc3, na3, ln3, nc3, ia3, li3, ic3, rfl, h3, b3⟩ := hN.form); (have q4b := (q4.below b3).below (below_new w3 (.cells #[.int .i64 k3, .slice sa3 ls3 sc3, .slice na3 ln3 nc3, .slice ia3 li3 ic3] 26))); (have q6 := Quad.new w3 (.int .i64 k3) (.slice sa3 ls3 sc3) (.slice na3 ln3 nc3) (.slice ia3 li3 ic3)); (have h23 := (h2a.below b3).below (below_new w3 (.cells #[.int .i64 k3, .slice sa3 ls3 sc3, .slice na3 ln3 nc3, .slice ia3 li3 ic3] 26))); (have h33 := h3.below (below_new w3 (.cells #[.int .i64 k3, .slice sa3 ls3 sc3, .slice na3 ln3 nc3, .slice ia3 li3 ic3] 26))); (have B3 : Below w.heap.size w (w3.alloc (.cells #[.int .i64 k3, .slice sa3 ls3 sc3, .slice na3 ln3 nc3, .slice ia3 li3 ic3] 26)) := Below.then (Below.then (Below.then (Below.then (Below.then (Below.then (below_new w _) b1) b2) b2a) (below_new _ _)) b3) (below_new w3 _)); (obtain ⟨c0, c1, c2, c3, -⟩ := q4b.cells))
    | (go_at_call 22; (with_reducible refine (sameRX h23 (zero_on (fun _ => True) _).at).mono ?_); rintro e w4 ⟨rfl, b4⟩; (obtain ⟨d0, d1, d2, d3, -⟩ := (q6.below b4).cells); (have h34 := h33.below b4))
    | (go_at_call 22; (with_reducible refine (sameRX h34 (zero_on (fun _ => True) _).at).mono ?_); rintro e w5 ⟨rfl, b5⟩; (have b45 := Below.then b4 b5))
    | (go_at_call 13; (with_reducible refine (RZ _ _ rfl).mono ?_); rintro e w7 ⟨rfl, b7⟩; (have B7 := Below.then (Below.then (Below.then B3 b45) (below_new _ _)) b7))
    | (go_at_call 12; (with_reducible refine (exampleL _ (hT.below B7)).mono ?_); rintro e w8 ⟨rfl, b8⟩))
    go_ret
    exact ⟨rfl, Below.then B7 b8⟩

theorem witness_row (os : Os) {H : Type} (enc : TypeId × Value → H) :
    (OpenSpec.ofChange Rows.arrayLimitsSpec).preRow enc Tryd.prog Tryd.f10 Rows.arrayLimitsRow.domain false Rows.arrayLimitsRow.laid ((laidWorld os).forCall (fun _ _ => 0) ⟨#[], #[.int .u8 0], []⟩).memory #[.int .u8 0] := by
  have hw : (DataW.whole enc Tryd.prog ((laidWorld os).forCall (fun _ _ => 0) ⟨#[], #[.int .u8 0], []⟩).memory Tryd.f10.params.toList (OpenSpec.ofChange Rows.arrayLimitsSpec).vars false (#[.int .u8 0] : Array Value).toList 8).map (fun x => (x.1, x.2.1)) = some ([.lit (.int .u8 0)], []) := by kernel_rfl
  obtain ⟨⟨x1, x2, x3⟩, hx, hx1⟩ := Option.map_eq_some_iff.1 hw
  simp only [Prod.mk.injEq] at hx1
  obtain ⟨rfl, rfl⟩ := hx1
  exact OpenSpec.preRow_of_cond 8 hx (by kernel_rfl) (fun k hk => by cases hk) (by kernel_rfl) (laid_met os _)

set_option maxRecDepth 100000 in
set_option maxHeartbeats 2000000 in
theorem lifted (os : Os) (started : os.Started) (H : Type) (enc : TypeId × Value → H) (F0 : Stop.Interp) :
    ReturnsInHanded {} Tryd.checked os 10 .any ((OpenSpec.ofChange Rows.arrayLimitsSpec).preRow enc Tryd.prog Tryd.f10 Rows.arrayLimitsRow.domain false Rows.arrayLimitsRow.laid) (((OpenSpec.ofChange Rows.arrayLimitsSpec).at F0).post enc Tryd.prog Tryd.f10 false true false false) := by
  refine returnsInHanded_of_row (C := Tryd.checked) (s := (OpenSpec.ofChange Rows.arrayLimitsSpec)) own started (by kernel_rfl) Tryd.func10
    (witness_row_atRef (enc := enc) (C := Tryd.checked) false (laidWorld os) #[.int .u8 0] rfl (by kernel_rfl) (by kernel_rfl) (by kernel_rfl) (witness_row os enc)) ?_
  intro W base args ds gs before hval0 hW _ _ hsz0 hL _ _
  have hT : Tabs W := tabs_of hL
  have hsz : (DataW.weightsEach Tryd.prog (Tryd.f10.params.toList ++ (OpenSpec.ofChange Rows.arrayLimitsSpec).bare.plain.varTypes Tryd.prog) (ds ++ gs)).all (· ≤ reachBytes) = true := hsz0
  have hval : ∀ (j : Nat) t v, Tryd.f10.params[j]? = some t → args[j]? = some v → Value.okWide Tryd.prog W .any base t v := hval0
  have hW' := hW
  obtain ⟨p, q, hA0, hV, rfl, hfz, hnd⟩ := hW
  have hA : DataW.TrodAll enc Tryd.prog W 0 (fun _ => true) true Tryd.f10.params.toList args.toList ds p := hA0
  rw [Tryd.params10] at hA hval hsz
  obtain ⟨v0, vs0, d0, ds0, p0, q0, hargs, rfl, rfl, h0, r0⟩ := trodAll_cons hA
  obtain ⟨rfl, rfl, rfl⟩ := trodAll_nil r0
  obtain rfl : args = #[v0] := by cases args; simp_all
  obtain ⟨rfl, rfl⟩ := trodVars_none hV
  obtain ⟨a0, rfl, rfl, rfl, w0⟩ := open_int Tryd.underlying5 (hval 0 5 v0 rfl rfl) h0
  have b0 : 0 ≤ a0 ∧ a0 ≤ 255 := by simpa [Lit.wf, IntKind.min, IntKind.max, IntKind.signed, IntKind.bits] using w0
  clear hA0 hval0
  refine (walk a0 W hT b0).mono fun e W' ⟨he, bel⟩ => ?_
  subst he
  exact ⟨_, rfl, _, _, _, [], _, [], hW', trodAll_mk1 (shut_bool Tryd.underlying4 _), (trodAll_cons_mk (shut_int Tryd.underlying5 w0) trodAll_mk0), rfl, bel.frame _, fun h => by cases h⟩

theorem over : Rows.arrayLimitsRow.holds Tryd.pinned (OpenSpec.ofChange Rows.arrayLimitsSpec) :=
  OpenClaim.holds_of_cond 10 Tryd.f10 rfl rfl rfl rfl rfl rfl rfl ⟨rfl, rfl, rfl, rfl, rfl⟩ rfl rfl rfl rfl rfl (by kernel_rfl) Tryd.func10 (by kernel_rfl)
    (of_decide_eq_true (by kernel_rfl)) (by unfold Func.isWrapper; first | (rw [if_pos (by decide +kernel)]; kernel_rfl) | (rw [if_neg (by decide +kernel)]; exact ⟨rfl, rfl⟩))
    (fun os started H enc _ F0 => by rw [OpenClaim.pre_eq_preRow]; exact lifted os started H enc F0)

set_option maxRecDepth 100000 in
theorem plainParams : ∀ (f : FuncId) (fn : Func), Tryd.prog.funcNamed Rows.arrayLimitsRow.func = some f → Tryd.prog.funcs[f]? = some fn → false = Tryd.prog.looks [] ∧ ∀ (j : Nat) t, fn.params[j]? = some t → Tryd.prog.wantsStandIn t = false := by
  intro f fn hf hfn
  obtain rfl : f = 10 := Option.some.inj ((show Tryd.prog.funcNamed Rows.arrayLimitsRow.func = some 10 by kernel_rfl).symm.trans hf) |>.symm
  obtain rfl : fn = Tryd.f10 := (Option.some.inj (Tryd.func10.symm.trans hfn)).symm
  refine ⟨by kernel_rfl, fun j t ht => ?_⟩
  have hall : (Tryd.f10.params.toList.all fun t => !Tryd.prog.wantsStandIn t) = true := by kernel_rfl
  have hm : t ∈ Tryd.f10.params.toList := by
    rw [← Array.getElem?_toList] at ht
    exact List.mem_of_getElem? ht
  simpa using List.all_eq_true.1 hall t hm

theorem proved : Rows.ArrayLimitsCardSaid :=
  Claim7.holds_tied_plain_at .later [] [.data, .pinned] true _ false over (fun _ h => by cases h) (by kernel_rfl) (fun _ h => by cases h) arrayLimits_row_tie rfl ⟨rfl, rfl⟩ (by kernel_rfl) rfl plainParams (by kernel_rfl)
end Go.Proofs.YthgfeofhoelpkaaDoor.arrayLimitsProof
