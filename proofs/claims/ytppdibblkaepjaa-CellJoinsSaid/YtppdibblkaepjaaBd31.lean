/-
  Layer 4: the laws' own examples (awake). (Written by wip/gen/cell-awake-facts.py.)
-/
import Derived.Test.YtppdibblkaepjaaBd13
import Derived.Test.YtppdibblkaepjaaBd28
import Derived.Test.YtppdibblkaepjaaBd18
import Derived.Handy
import Derived.Deep.RegionHeld3
import Derived.Test.YtppdibblkaepjaaBd30
namespace Go.Proofs.Ytppdibblkaepjaa.Shape
open Go.RowKit Go.Proofs.Ytppdibblkaepjaa.Draw
set_option linter.unusedVariables false

/-- A slice that a literal has laid. -/
theorem litC (w : World) (L : List Int) (t : TypeId) (C : Array Value) (n m : Nat) (hC : C = (L.map (Value.int .i64)).toArray) (hn : n = w.heap.size) (hm : m = L.length) (hb : ∀ x ∈ L, -9223372036854775808 ≤ x ∧ x ≤ 9223372036854775807) (hl : L.length ≤ 1000000) :
    IntsAt (w.alloc (.cells C t)) (some ⟨n, 0, none⟩) m L := by
  subst hC; subst hn; subst hm
  refine ⟨Nat.le_refl _, by omega, hb, w.heap.size, 0, fun _ => rfl, fun i hi => ?_⟩
  rw [Nat.zero_add, World.cell?_alloc_new]
  simp [hi]
theorem IntsAt.drewL {w : World} {a : Option Addr} {c : Nat} {xs : List Int} (h : IntsAt w a c xs) : IntsAt w.drew a c xs := h
/-- A result that is an array: its four cells, typed. -/
theorem GiveArr.form {A : Arr} {w w' : World} {e : Ending} (h : GiveArr A w e w') : ∃ k sa ls sc na ln nc ia li ic, e = .returned (.agg #[.int .i64 k, .slice sa ls sc, .slice na ln nc, .slice ia li ic]) ∧
    ArrAt w' (.agg #[.int .i64 k, .slice sa ls sc, .slice na ln nc, .slice ia li ic]) A ∧ Below w.heap.size w w' := by
  obtain ⟨v, rfl, hA, hb⟩ := h
  have hA' := hA
  obtain ⟨k, sh, nu, it⟩ := A
  rw [ArrAt] at hA
  obtain ⟨sa, sc, na, nc, ia, ic, rfl, -⟩ := hA
  exact ⟨k, sa, _, sc, na, _, nc, ia, _, ic, rfl, hA', hb⟩
/-- Two arrays that a literal has laid one behind the other. -/
theorem twoC {w : World} {c0 c1 c2 c3 d0 d1 d2 d3 : Value} {A B : Arr} (hA : ArrAt w (.agg #[c0, c1, c2, c3]) A) (hB : ArrAt w (.agg #[d0, d1, d2, d3]) B) :
    ArrsAt (w.alloc (.cells #[c0, c1, c2, c3, d0, d1, d2, d3] 26)) w.heap.size 0 [A, B] := by
  have bn := below_new w (.cells #[c0, c1, c2, c3, d0, d1, d2, d3] 26)
  rw [ArrsAt, ArrsAt, ArrsAt]
  refine ⟨⟨c0, c1, c2, c3, ⟨?_, ?_, ?_, ?_⟩, hA.below bn⟩, ⟨d0, d1, d2, d3, ⟨?_, ?_, ?_, ?_⟩, hB.below bn⟩, trivial⟩
  all_goals (rw [World.cell?_alloc_new]; rfl)
def awM : Arr := .mk 1 [2, 3] [1, 2, 3, 4, 5, 6] []
def awA : Arr := .mk 1 [2, 3] [1, 2, 3, 4, 0, 0] []
def awB : Arr := .mk 1 [2, 3] [7, 8, 0, 0, 0, 0] []
def awV : Arr := .mk 1 [3] [1, 2, 3] []
def awW : Arr := .mk 1 [3] [4, 5, 6] []
def awP : Arr := .mk 1 [2] [7, 8] []
def awN (n : Int) : Arr := .mk 1 [] [n] []
theorem aw_join : joinA [2] [awV, awN 4] (awN 0) = (awA, 0) := by kernel_rfl
theorem aw_pad : padA awP [2, 3] = (awB, 0) := by kernel_rfl
theorem aw_frame : frameS awM 1 = [2] := by kernel_rfl
theorem aw_cells : cellsS awM 1 = [awV, awW] := by kernel_rfl
theorem aw_rank : rankS (-1) 2 = 1 := by decide
theorem reach_awV : Reach awV := by rw [awV, Reach, ReachL]; exact ⟨by decide, by decide, by decide, trivial⟩
theorem reach_awP : Reach awP := by rw [awP, Reach, ReachL]; exact ⟨by decide, by decide, by decide, trivial⟩
theorem reach_awM : Reach awM := by rw [awM, Reach, ReachL]; exact ⟨by decide, by decide, by decide, trivial⟩
theorem reach_awN (n : Int) : Reach (awN n) := by rw [awN, Reach, ReachL]; exact ⟨by decide, by show 1 * 8 ≤ _; decide, by decide, trivial⟩
theorem rankX (w : World) : Calls Try.prog 30 #[.int .i64 (-1), .int .i64 2] w fun e w' => e = .returned (.int .i64 1) ∧ w = w' := by
  have := rankP (-1) 2 w (by decide) (by decide); rw [aw_rank] at this; exact this
theorem frameX {v : Value} {w : World} (h : ArrAt w v awM) : Calls Try.prog 32 #[v, .int .i64 1] w fun e w' => ∃ a' c', e = .returned (.slice a' 1 c') ∧ IntsAt w' a' c' [2] ∧ Below w.heap.size w w' := by
  have := frameQ v awM 1 w h (by decide)
  rw [aw_frame] at this
  exact this.mono fun e w' ⟨a', c', h1, h2, h3⟩ => ⟨a', c', h1, h2.1, h3⟩
theorem cellsX {v : Value} {w : World} (h : ArrAt w v awM) : Calls Try.prog 34 #[v, .int .i64 1] w fun e w' => ∃ a' c' b', e = .returned (.slice a' 2 c') ∧ Hid (2 ≤ c' ∧ c' ≤ 9223372036854775807) ∧ a' = some ⟨b', 0, none⟩ ∧ ArrsAt w' b' 0 [awV, awW] ∧ Below w.heap.size w w' := by
  have := cellsQ v awM 1 w h reach_awM (by decide)
  rw [aw_cells] at this
  exact this.mono fun e w' ⟨a', c', b', h1, h2, h3, h4, h5, h6⟩ => ⟨a', c', b', h1, ⟨h2, h3⟩, h4 (by simp), h5, h6⟩
theorem intsX {a a2 : Option Addr} {c c2 : Nat} {w : World} (h : IntsAt w a c [2]) (g : IntsAt w a2 c2 [2]) : Calls Try.prog 31 #[.slice a 1 c, .slice a2 1 c2] w fun e w' => e = .returned (.bool true) ∧ Below w.heap.size w w' :=
  (intsLX a c [2] a2 c2 w h g).mono fun e w' ⟨h1, n, h2⟩ => ⟨h1, by rw [h2]; exact below_drewN n⟩
theorem arraysX {b c b2 c2 : Nat} {w : World} (hc : Hid (2 ≤ c ∧ c ≤ 9223372036854775807)) (hc2 : Hid (2 ≤ c2 ∧ c2 ≤ 9223372036854775807)) (h : ArrsAt w b 0 [awV, awW]) (g : ArrsAt w b2 0 [awV, awW]) : Calls Try.prog 33 #[.slice (some ⟨b, 0, none⟩) 2 c, .slice (some ⟨b2, 0, none⟩) 2 c2] w fun e w' => e = .returned (.bool true) ∧ Below w.heap.size w w' :=
  arraysLX (some ⟨b, 0, none⟩) c (some ⟨b2, 0, none⟩) c2 [awV, awW] w b 0 b2 0 hc.out.1 hc.out.2 hc2.out.1 hc2.out.2 (fun _ => rfl) (fun _ => rfl) h g
theorem padX {v : Value} {a : Option Addr} {c : Nat} {w : World} (h : ArrAt w v awP) (g : IntsAt w a c [2, 3]) : Calls Try.prog 29 #[v, .slice a 2 c] w (GiveNewE awB 0 w) := by
  have := padQ v awP a c [2, 3] w h g reach_awP
  rw [aw_pad] at this; exact this
theorem joinX {v : Value} {a : Option Addr} {c b : Nat} {w : World} (g : IntsAt w a c [2]) (h : ArrsAt w b 0 [awV, awN 4]) (hv : ArrAt w v (awN 0)) : Calls Try.prog 11 #[.slice a 1 c, .slice (some ⟨b, 0, none⟩) 2 2, v] w (GiveNewE awA 0 w) := by
  have := joinQ a c [2] (some ⟨b, 0, none⟩) 2 [awV, awN 4] v (awN 0) w b 0 g (by decide) (by decide) (fun _ => rfl) h (fun A hA => by
    simp only [List.mem_cons, List.not_mem_nil, or_false] at hA
    rcases hA with rfl | rfl
    · exact reach_awV
    · exact reach_awN 4) hv
  rw [aw_join] at this; exact this
theorem numX (n : Int) (w : World) (hn : -100 ≤ n ∧ n ≤ 100) : Calls Try.prog 28 #[.int .i64 n] w (GiveArr (awN n) w) := numL n w (by omega)
theorem vecV {a : Option Addr} {c : Nat} {w : World} (h : IntsAt w a c [1, 2, 3]) : Calls Try.prog 27 #[.slice a 3 c] w (GiveArr awV w) := vecL a c [1, 2, 3] w h
theorem vecW {a : Option Addr} {c : Nat} {w : World} (h : IntsAt w a c [4, 5, 6]) : Calls Try.prog 27 #[.slice a 3 c] w (GiveArr awW w) := vecL a c [4, 5, 6] w h
theorem vecP {a : Option Addr} {c : Nat} {w : World} (h : IntsAt w a c [7, 8]) : Calls Try.prog 27 #[.slice a 2 c] w (GiveArr awP w) := vecL a c [7, 8] w h
theorem matM {a : Option Addr} {c : Nat} {w : World} (h : IntsAt w a c [1, 2, 3, 4, 5, 6]) : Calls Try.prog 26 #[.int .i64 2, .int .i64 3, .slice a 6 c] w (GiveArr awM w) := matL 2 3 a c [1, 2, 3, 4, 5, 6] w h (by decide) (by decide)
theorem matA {a : Option Addr} {c : Nat} {w : World} (h : IntsAt w a c [1, 2, 3, 4, 0, 0]) : Calls Try.prog 26 #[.int .i64 2, .int .i64 3, .slice a 6 c] w (GiveArr awA w) := matL 2 3 a c [1, 2, 3, 4, 0, 0] w h (by decide) (by decide)
theorem matB {a : Option Addr} {c : Nat} {w : World} (h : IntsAt w a c [7, 8, 0, 0, 0, 0]) : Calls Try.prog 26 #[.int .i64 2, .int .i64 3, .slice a 6 c] w (GiveArr awB w) := matL 2 3 a c [7, 8, 0, 0, 0, 0] w h (by decide) (by decide)
/-- What the temporaries of the last region hold. -/
def awT (n1 n5 n7 : Nat) : List Fact :=
  [.val (.bool true), .val (.pointer (some ⟨n1, 0, none⟩)), .val (.pointer (some ⟨n5, 0, none⟩)), .val (.int .i64 0), .val (.pointer (some ⟨n7, 0, none⟩)), .val (.int .i64 0), .any, .any, .any, .any, .any, .any, .any, .any, .any, .any, .any, .any, .any, .any, .any, .any, .any, .any, .any, .val (.int .i64 1), .val (.bool true), .val (.bool true), .arr awM, .ints [2], .ints [2], .val (.bool true), .val (.bool true), .val (.bool true), .arr awM, .arrs [awV, awW], .ints [1, 2, 3], .arr awV, .ints [4, 5, 6], .arr awW, .arrs [awV, awW], .val (.bool true), .val (.bool true), .val (.bool true), .val (.int .i64 0), .val (.bool true), .val (.bool true), .val (.bool true), .val (.int .i64 0), .val (.bool true), .val (.bool true), .val (.bool true), .arr awA, .ints [1, 2, 3, 4, 0, 0], .arr awA, .val (.bool true), .val (.bool true), .val (.bool true), .arr awB, .ints [7, 8, 0, 0, 0, 0], .arr awB, .val (.bool true), .val (.bool true)]
set_option maxRecDepth 100000 in
set_option maxHeartbeats 64000000 in
theorem awakeL (w : World) : Calls Try.prog 10 #[] w fun e w' => e = .returned (.bool true) ∧ Below w.heap.size w w' := by
  go_enter Try.func10, Try.ntmps10
  go_wp2_with fail
  go_at_call 26
  (with_reducible refine (matM (litC w [1, 2, 3, 4, 5, 6] 3 #[.int .i64 1, .int .i64 2, .int .i64 3, .int .i64 4, .int .i64 5, .int .i64 6] _ 6 rfl (by simp) rfl (by decide) (by decide))).mono ?_)
  intro e w1 hN1
  (obtain ⟨k1, sa1, ls1, sc1, na1, ln1, nc1, ia1, li1, ic1, rfl, h1, b1⟩ := hN1.form)
  (have B1 : Below w.heap.size w w1 := Below.then (below_new w _) b1)
  (have q1 := Quad.new w1 (.int .i64 k1) (.slice sa1 ls1 sc1) (.slice na1 ln1 nc1) (.slice ia1 li1 ic1))
  (have m1 := h1.below (below_new w1 (.cells #[.int .i64 k1, .slice sa1 ls1 sc1, .slice na1 ln1 nc1, .slice ia1 li1 ic1] 26)))
  (have bn1 := below_new w1 (.cells #[.int .i64 k1, .slice sa1 ls1 sc1, .slice na1 ln1 nc1, .slice ia1 li1 ic1] 26))
  (have l2 := (litC (w1.alloc (.cells #[.int .i64 k1, .slice sa1 ls1 sc1, .slice na1 ln1 nc1, .slice ia1 li1 ic1] 26)) [2] 3 #[.int .i64 2] (w1.heap.size + 1) 1 rfl (by simp) rfl (by decide) (by decide)))
  go_wp2_with fail
  go_at_call 27
  (with_reducible refine (vecV (litC ((w1.alloc (.cells #[.int .i64 k1, .slice sa1 ls1 sc1, .slice na1 ln1 nc1, .slice ia1 li1 ic1] 26)).alloc (.cells #[.int .i64 2] 3)) [1, 2, 3] 3 #[.int .i64 1, .int .i64 2, .int .i64 3] _ 3 rfl (by simp) rfl (by decide) (by decide))).mono ?_)
  intro e w2 hN2
  (obtain ⟨k2, sa2, ls2, sc2, na2, ln2, nc2, ia2, li2, ic2, rfl, h2, b2⟩ := hN2.form)
  (have g2 := (l2.below (below_new _ (.cells #[.int .i64 1, .int .i64 2, .int .i64 3] 3))).below b2)
  (have B12 : Below (w1.alloc (.cells #[.int .i64 k1, .slice sa1 ls1 sc1, .slice na1 ln1 nc1, .slice ia1 li1 ic1] 26)).heap.size (w1.alloc (.cells #[.int .i64 k1, .slice sa1 ls1 sc1, .slice na1 ln1 nc1, .slice ia1 li1 ic1] 26)) w2 := Below.then (Below.then (below_new _ _) (below_new _ _)) b2)
  go_wp2_with fail
  go_at_call 28
  (with_reducible refine (numX 4 w2 (by decide)).mono ?_)
  intro e w3 hN3
  (obtain ⟨k3, sa3, ls3, sc3, na3, ln3, nc3, ia3, li3, ic3, rfl, h3, b3⟩ := hN3.form)
  go_wp2_with fail
  go_at_call 28
  (with_reducible refine (numX 0 _ (by decide)).mono ?_)
  intro e w4 hN4
  (obtain ⟨k4, sa4, ls4, sc4, na4, ln4, nc4, ia4, li4, ic4, rfl, h4, b4⟩ := hN4.form)
  (have g4 := ((g2.below b3).below (below_new w3 (.cells #[.int .i64 k2, .slice sa2 ls2 sc2, .slice na2 ln2 nc2, .slice ia2 li2 ic2, .int .i64 k3, .slice sa3 ls3 sc3, .slice na3 ln3 nc3, .slice ia3 li3 ic3] 26))).below b4)
  (have t4 := (twoC (h2.below b3) h3).below b4)
  (have B14 : Below (w1.alloc (.cells #[.int .i64 k1, .slice sa1 ls1 sc1, .slice na1 ln1 nc1, .slice ia1 li1 ic1] 26)).heap.size (w1.alloc (.cells #[.int .i64 k1, .slice sa1 ls1 sc1, .slice na1 ln1 nc1, .slice ia1 li1 ic1] 26)) w4 := Below.then (Below.then (Below.then B12 b3) (below_new w3 _)) b4)
  go_wp2_with fail
  go_at_call 11
  (with_reducible refine (joinX g4 t4 h4).mono ?_)
  intro e w5 hN5
  (obtain ⟨k5, sa5, ls5, sc5, na5, ln5, nc5, ia5, li5, ic5, rfl, h5, b5⟩ := hN5.form)
  (have B15 := Below.then B14 b5)
  (have q5 := Quad.new w5 (.int .i64 k5) (.slice sa5 ls5 sc5) (.slice na5 ln5 nc5) (.slice ia5 li5 ic5))
  (have m5 := h5.below (below_new w5 (.cells #[.int .i64 k5, .slice sa5 ls5 sc5, .slice na5 ln5 nc5, .slice ia5 li5 ic5] 26)))
  (have bn5 := below_new w5 (.cells #[.int .i64 k5, .slice sa5 ls5 sc5, .slice na5 ln5 nc5, .slice ia5 li5 ic5] 26))
  go_wp2_with fail
  go_at_call 27
  (with_reducible refine (vecP (litC (w5.alloc (.cells #[.int .i64 k5, .slice sa5 ls5 sc5, .slice na5 ln5 nc5, .slice ia5 li5 ic5] 26)) [7, 8] 3 #[.int .i64 7, .int .i64 8] _ 2 rfl (by simp) rfl (by decide) (by decide))).mono ?_)
  intro e w6 hN6
  (obtain ⟨k6, sa6, ls6, sc6, na6, ln6, nc6, ia6, li6, ic6, rfl, h6, b6⟩ := hN6.form)
  go_wp2_with fail
  go_at_call 29
  (with_reducible refine (padX (h6.below (below_new w6 _)) (litC w6 [2, 3] 3 #[.int .i64 2, .int .i64 3] _ 2 rfl (by simp) rfl (by decide) (by decide))).mono ?_)
  intro e w7 hN7
  (obtain ⟨k7, sa7, ls7, sc7, na7, ln7, nc7, ia7, li7, ic7, rfl, h7, b7⟩ := hN7.form)
  (have q7 := Quad.new w7 (.int .i64 k7) (.slice sa7 ls7 sc7) (.slice na7 ln7 nc7) (.slice ia7 li7 ic7))
  (have bn7 := below_new w7 (.cells #[.int .i64 k7, .slice sa7 ls7 sc7, .slice na7 ln7 nc7, .slice ia7 li7 ic7] 26))
  go_wp2_with fail
  have B57 : Below (w5.alloc (.cells #[.int .i64 k5, .slice sa5 ls5 sc5, .slice na5 ln5 nc5, .slice ia5 li5 ic5] 26)).heap.size (w5.alloc (.cells #[.int .i64 k5, .slice sa5 ls5 sc5, .slice na5 ln5 nc5, .slice ia5 li5 ic5] 26)) w7 := Below.then (Below.then (Below.then (below_new _ _) b6) (below_new _ _)) b7
  have BW : Below w.heap.size w (w7.alloc (.cells #[.int .i64 k7, .slice sa7 ls7 sc7, .slice na7 ln7 nc7, .slice ia7 li7 ic7] 26)) := Below.then (Below.then (Below.then (Below.then B1 bn1) B15) bn5) (Below.then B57 bn7)
  have x1 : Quad (w7.alloc (.cells #[.int .i64 k7, .slice sa7 ls7 sc7, .slice na7 ln7 nc7, .slice ia7 li7 ic7] 26)) w1.heap.size (.int .i64 k1) (.slice sa1 ls1 sc1) (.slice na1 ln1 nc1) (.slice ia1 li1 ic1) := (((q1.below B15).below bn5).below B57).below bn7
  have x5 : Quad (w7.alloc (.cells #[.int .i64 k7, .slice sa7 ls7 sc7, .slice na7 ln7 nc7, .slice ia7 li7 ic7] 26)) w5.heap.size (.int .i64 k5) (.slice sa5 ls5 sc5) (.slice na5 ln5 nc5) (.slice ia5 li5 ic5) := (q5.below B57).below bn7
  have x7 : Quad (w7.alloc (.cells #[.int .i64 k7, .slice sa7 ls7 sc7, .slice na7 ln7 nc7, .slice ia7 li7 ic7] 26)) w7.heap.size (.int .i64 k7) (.slice sa7 ls7 sc7) (.slice na7 ln7 nc7) (.slice ia7 li7 ic7) := q7
  have y1 := (((m1.below B15).below bn5).below B57).below bn7
  have y5 := (m5.below B57).below bn7
  have y7 := h7.below bn7
  clear q1 q5 q7 m1 m5 h1 h2 h3 h4 h5 h6 h7 l2 g2 g4 t4 B1 B12 B14 B15 B57 bn1 bn5 bn7 b1 b2 b3 b4 b5 b6 b7
  generalize hW : (w7.alloc (.cells #[.int .i64 k7, .slice sa7 ls7 sc7, .slice na7 ln7 nc7, .slice ia7 li7 ic7] 26)) = W5 at *
  generalize w7.heap.size = n7 at *
  generalize w5.heap.size = n5 at *
  generalize w1.heap.size = n1 at *
  clear hW
  refine wp_region_tab (by kernel_rfl) (fun g => g + 25) (awT n1 n5 n7) [1, 2, 3, 4, 5] (by kernel_rfl) (by kernel_rfl) ⟨rfl, rfl, rfl, rfl, rfl, trivial⟩ ?_ ?_
  rotate_left
  · rintro ⟨tm, ds⟩ w' hsz hds hle H
    obtain rfl : ds = [] := hds
    have hres : tm[0]?.getD undef = .bool true := H 0
    clear H x1 x5 x7 y1 y5 y7
    go_wp2_with fail
    go_ret; exact ⟨by simpa using hres, Below.then BW (Below.then (below_drew W5) hle)⟩
  refine AllSteps.cons (fun a w hle H => ?_) ?_
  · as_aux_lemma =>
    have E : Below W5.heap.size W5 w := Below.then (below_drew W5) hle
    refine ⟨trivial, fun K Q hK => ?_⟩
    go_simp
    go_at_call 30
    with_reducible refine (rankX _).mono ?_
    rintro e w' ⟨rfl, rfl⟩
    exact hK.out _ _ (grew.refl _) rfl
  refine AllSteps.cons (fun a w hle H => ?_) ?_
  · as_aux_lemma =>
    have E : Below W5.heap.size W5 w := Below.then (below_drew W5) hle
    have h25 : a.tmps[25]?.getD undef = (.int .i64 1) := H 25 rfl
    refine ⟨trivial, fun K Q hK => ?_⟩
    go_simp
    exact hK.out _ _ (grew.refl _) rfl
  refine AllSteps.cons (fun a w hle H => ?_) ?_
  · as_aux_lemma =>
    have E : Below W5.heap.size W5 w := Below.then (below_drew W5) hle
    have h26 : a.tmps[26]?.getD undef = (.bool true) := H 26 rfl
    refine ⟨trivial, fun K Q hK => ?_⟩
    go_simp
    exact hK.out _ _ (grew.refl _) rfl
  refine AllSteps.cons (fun a w hle H => ?_) ?_
  · as_aux_lemma =>
    have E : Below W5.heap.size W5 w := Below.then (below_drew W5) hle
    have h1 : a.tmps[1]?.getD undef = (.pointer (some ⟨n1, 0, none⟩)) := H 1 rfl
    refine ⟨H 27 rfl, fun K Q hK => ?_⟩
    obtain ⟨q0, q1, q2, q3, -⟩ := (x1.below E).cells
    go_simp
    exact hK.out _ _ (grew.refl _) (tab_out (f := .arr awM) (by kernel_rfl) ⟨_, _, _, _, _, _, _, _, _, _, rfl, y1.below E⟩)
  refine AllSteps.cons (fun a w hle H => ?_) ?_
  · as_aux_lemma =>
    have E : Below W5.heap.size W5 w := Below.then (below_drew W5) hle
    obtain ⟨k28, sa28, ls28, sc28, na28, ln28, nc28, ia28, li28, ic28, h28, i28⟩ : Fact.holds (.arr awM) (a.tmps[28]?.getD undef) w := H 28 rfl
    refine ⟨H 27 rfl, fun K Q hK => ?_⟩
    go_simp
    go_at_call 32
    with_reducible refine (frameX i28).mono ?_
    rintro e w' ⟨a', c', rfl, i', b'⟩
    exact hK.out _ _ b' (tab_out (f := .ints [2]) (by kernel_rfl) ⟨_, _, rfl, i'⟩)
  refine AllSteps.cons (fun a w hle H => ?_) ?_
  · skip
    have E : Below W5.heap.size W5 w := Below.then (below_drew W5) hle
    refine ⟨H 27 rfl, fun K Q hK => ?_⟩
    have hl := litC w [2] 3 #[.int .i64 2] _ 1 rfl rfl rfl (by decide) (by decide)
    have hf : Fact.holds (.ints [2]) _ _ := ⟨_, _, rfl, hl⟩
    clear hl
    go_simp
    exact hK.out _ _ (below_new w _) (tab_out (by kernel_rfl) hf)
  refine AllSteps.cons (fun a w hle H => ?_) ?_
  · as_aux_lemma =>
    have E : Below W5.heap.size W5 w := Below.then (below_drew W5) hle
    obtain ⟨a29, c29, h29, i29⟩ : Fact.holds (.ints [2]) (a.tmps[29]?.getD undef) w := H 29 rfl
    obtain ⟨a30, c30, h30, i30⟩ : Fact.holds (.ints [2]) (a.tmps[30]?.getD undef) w := H 30 rfl
    refine ⟨H 27 rfl, fun K Q hK => ?_⟩
    go_simp
    go_at_call 31
    with_reducible refine (intsX i29 i30).mono ?_
    rintro e w' ⟨rfl, b'⟩
    exact hK.out _ _ b' rfl
  refine AllSteps.cons (fun a w hle H => ?_) ?_
  · as_aux_lemma =>
    have E : Below W5.heap.size W5 w := Below.then (below_drew W5) hle
    have h27 : a.tmps[27]?.getD undef = (.bool true) := H 27 rfl
    have h31 : a.tmps[31]?.getD undef = (.bool true) := H 31 rfl
    refine ⟨trivial, fun K Q hK => ?_⟩
    go_simp
    exact hK.out _ _ (grew.refl _) rfl
  refine AllSteps.cons (fun a w hle H => ?_) ?_
  · as_aux_lemma =>
    have E : Below W5.heap.size W5 w := Below.then (below_drew W5) hle
    have h32 : a.tmps[32]?.getD undef = (.bool true) := H 32 rfl
    refine ⟨trivial, fun K Q hK => ?_⟩
    go_simp
    exact hK.out _ _ (grew.refl _) rfl
  refine AllSteps.cons (fun a w hle H => ?_) ?_
  · as_aux_lemma =>
    have E : Below W5.heap.size W5 w := Below.then (below_drew W5) hle
    have h1 : a.tmps[1]?.getD undef = (.pointer (some ⟨n1, 0, none⟩)) := H 1 rfl
    refine ⟨H 33 rfl, fun K Q hK => ?_⟩
    obtain ⟨q0, q1, q2, q3, -⟩ := (x1.below E).cells
    go_simp
    exact hK.out _ _ (grew.refl _) (tab_out (f := .arr awM) (by kernel_rfl) ⟨_, _, _, _, _, _, _, _, _, _, rfl, y1.below E⟩)
  refine AllSteps.cons (fun a w hle H => ?_) ?_
  · as_aux_lemma =>
    have E : Below W5.heap.size W5 w := Below.then (below_drew W5) hle
    obtain ⟨k34, sa34, ls34, sc34, na34, ln34, nc34, ia34, li34, ic34, h34, i34⟩ : Fact.holds (.arr awM) (a.tmps[34]?.getD undef) w := H 34 rfl
    refine ⟨H 33 rfl, fun K Q hK => ?_⟩
    go_simp
    go_at_call 34
    with_reducible refine (cellsX i34).mono ?_
    rintro e w' ⟨a', c', b', rfl, hc', rfl, i', b'⟩
    exact hK.out _ _ b' (tab_out (f := .arrs [awV, awW]) (by kernel_rfl) ⟨_, _, rfl, hc', i'⟩)
  refine AllSteps.cons (fun a w hle H => ?_) ?_
  · skip
    have E : Below W5.heap.size W5 w := Below.then (below_drew W5) hle
    refine ⟨H 33 rfl, fun K Q hK => ?_⟩
    have hl := litC w [1, 2, 3] 3 #[.int .i64 1, .int .i64 2, .int .i64 3] _ 3 rfl rfl rfl (by decide) (by decide)
    have hf : Fact.holds (.ints [1, 2, 3]) _ _ := ⟨_, _, rfl, hl⟩
    clear hl
    go_simp
    exact hK.out _ _ (below_new w _) (tab_out (by kernel_rfl) hf)
  refine AllSteps.cons (fun a w hle H => ?_) ?_
  · as_aux_lemma =>
    have E : Below W5.heap.size W5 w := Below.then (below_drew W5) hle
    obtain ⟨a36, c36, h36, i36⟩ : Fact.holds (.ints [1, 2, 3]) (a.tmps[36]?.getD undef) w := H 36 rfl
    refine ⟨H 33 rfl, fun K Q hK => ?_⟩
    go_simp
    go_at_call 27
    with_reducible refine (vecV i36).mono ?_
    intro e w' hN; obtain ⟨k', sa', ls', sc', na', ln', nc', ia', li', ic', rfl, h', b'⟩ := hN.form
    exact hK.out _ _ b' (tab_out (f := .arr awV) (by kernel_rfl) ⟨_, _, _, _, _, _, _, _, _, _, rfl, h'⟩)
  refine AllSteps.cons (fun a w hle H => ?_) ?_
  · skip
    have E : Below W5.heap.size W5 w := Below.then (below_drew W5) hle
    refine ⟨H 33 rfl, fun K Q hK => ?_⟩
    have hl := litC w [4, 5, 6] 3 #[.int .i64 4, .int .i64 5, .int .i64 6] _ 3 rfl rfl rfl (by decide) (by decide)
    have hf : Fact.holds (.ints [4, 5, 6]) _ _ := ⟨_, _, rfl, hl⟩
    clear hl
    go_simp
    exact hK.out _ _ (below_new w _) (tab_out (by kernel_rfl) hf)
  refine AllSteps.cons (fun a w hle H => ?_) ?_
  · as_aux_lemma =>
    have E : Below W5.heap.size W5 w := Below.then (below_drew W5) hle
    obtain ⟨a38, c38, h38, i38⟩ : Fact.holds (.ints [4, 5, 6]) (a.tmps[38]?.getD undef) w := H 38 rfl
    refine ⟨H 33 rfl, fun K Q hK => ?_⟩
    go_simp
    go_at_call 27
    with_reducible refine (vecW i38).mono ?_
    intro e w' hN; obtain ⟨k', sa', ls', sc', na', ln', nc', ia', li', ic', rfl, h', b'⟩ := hN.form
    exact hK.out _ _ b' (tab_out (f := .arr awW) (by kernel_rfl) ⟨_, _, _, _, _, _, _, _, _, _, rfl, h'⟩)
  refine AllSteps.cons (fun a w hle H => ?_) ?_
  · skip
    have E : Below W5.heap.size W5 w := Below.then (below_drew W5) hle
    obtain ⟨k37, sa37, ls37, sc37, na37, ln37, nc37, ia37, li37, ic37, h37, i37⟩ : Fact.holds (.arr awV) (a.tmps[37]?.getD undef) w := H 37 rfl
    obtain ⟨k39, sa39, ls39, sc39, na39, ln39, nc39, ia39, li39, ic39, h39, i39⟩ : Fact.holds (.arr awW) (a.tmps[39]?.getD undef) w := H 39 rfl
    refine ⟨H 33 rfl, fun K Q hK => ?_⟩
    have hf : Fact.holds (.arrs [awV, awW]) _ _ := ⟨_, 2, rfl, ⟨by decide, by decide⟩, twoC i37 i39⟩
    go_simp
    exact hK.out _ _ (below_new w _) (tab_out (by kernel_rfl) hf)
  refine AllSteps.cons (fun a w hle H => ?_) ?_
  · as_aux_lemma =>
    have E : Below W5.heap.size W5 w := Below.then (below_drew W5) hle
    obtain ⟨b35, c35, h35, hc35, i35⟩ : Fact.holds (.arrs [awV, awW]) (a.tmps[35]?.getD undef) w := H 35 rfl
    obtain ⟨b40, c40, h40, hc40, i40⟩ : Fact.holds (.arrs [awV, awW]) (a.tmps[40]?.getD undef) w := H 40 rfl
    refine ⟨H 33 rfl, fun K Q hK => ?_⟩
    go_simp
    go_at_call 33
    with_reducible refine (arraysX hc35 hc40 i35 i40).mono ?_
    rintro e w' ⟨rfl, b'⟩
    exact hK.out _ _ b' rfl
  refine AllSteps.cons (fun a w hle H => ?_) ?_
  · as_aux_lemma =>
    have E : Below W5.heap.size W5 w := Below.then (below_drew W5) hle
    have h33 : a.tmps[33]?.getD undef = (.bool true) := H 33 rfl
    have h41 : a.tmps[41]?.getD undef = (.bool true) := H 41 rfl
    refine ⟨trivial, fun K Q hK => ?_⟩
    go_simp
    exact hK.out _ _ (grew.refl _) rfl
  refine AllSteps.cons (fun a w hle H => ?_) ?_
  · as_aux_lemma =>
    have E : Below W5.heap.size W5 w := Below.then (below_drew W5) hle
    have h42 : a.tmps[42]?.getD undef = (.bool true) := H 42 rfl
    refine ⟨trivial, fun K Q hK => ?_⟩
    go_simp
    exact hK.out _ _ (grew.refl _) rfl
  refine AllSteps.cons (fun a w hle H => ?_) ?_
  · as_aux_lemma =>
    have E : Below W5.heap.size W5 w := Below.then (below_drew W5) hle
    have h3 : a.tmps[3]?.getD undef = (.int .i64 0) := H 3 rfl
    refine ⟨H 43 rfl, fun K Q hK => ?_⟩
    go_simp
    exact hK.out _ _ (grew.refl _) rfl
  refine AllSteps.cons (fun a w hle H => ?_) ?_
  · as_aux_lemma =>
    have E : Below W5.heap.size W5 w := Below.then (below_drew W5) hle
    have h44 : a.tmps[44]?.getD undef = (.int .i64 0) := H 44 rfl
    refine ⟨H 43 rfl, fun K Q hK => ?_⟩
    go_simp
    exact hK.out _ _ (grew.refl _) rfl
  refine AllSteps.cons (fun a w hle H => ?_) ?_
  · as_aux_lemma =>
    have E : Below W5.heap.size W5 w := Below.then (below_drew W5) hle
    have h43 : a.tmps[43]?.getD undef = (.bool true) := H 43 rfl
    have h45 : a.tmps[45]?.getD undef = (.bool true) := H 45 rfl
    refine ⟨trivial, fun K Q hK => ?_⟩
    go_simp
    exact hK.out _ _ (grew.refl _) rfl
  refine AllSteps.cons (fun a w hle H => ?_) ?_
  · as_aux_lemma =>
    have E : Below W5.heap.size W5 w := Below.then (below_drew W5) hle
    have h46 : a.tmps[46]?.getD undef = (.bool true) := H 46 rfl
    refine ⟨trivial, fun K Q hK => ?_⟩
    go_simp
    exact hK.out _ _ (grew.refl _) rfl
  refine AllSteps.cons (fun a w hle H => ?_) ?_
  · as_aux_lemma =>
    have E : Below W5.heap.size W5 w := Below.then (below_drew W5) hle
    have h5 : a.tmps[5]?.getD undef = (.int .i64 0) := H 5 rfl
    refine ⟨H 47 rfl, fun K Q hK => ?_⟩
    go_simp
    exact hK.out _ _ (grew.refl _) rfl
  refine AllSteps.cons (fun a w hle H => ?_) ?_
  · as_aux_lemma =>
    have E : Below W5.heap.size W5 w := Below.then (below_drew W5) hle
    have h48 : a.tmps[48]?.getD undef = (.int .i64 0) := H 48 rfl
    refine ⟨H 47 rfl, fun K Q hK => ?_⟩
    go_simp
    exact hK.out _ _ (grew.refl _) rfl
  refine AllSteps.cons (fun a w hle H => ?_) ?_
  · as_aux_lemma =>
    have E : Below W5.heap.size W5 w := Below.then (below_drew W5) hle
    have h47 : a.tmps[47]?.getD undef = (.bool true) := H 47 rfl
    have h49 : a.tmps[49]?.getD undef = (.bool true) := H 49 rfl
    refine ⟨trivial, fun K Q hK => ?_⟩
    go_simp
    exact hK.out _ _ (grew.refl _) rfl
  refine AllSteps.cons (fun a w hle H => ?_) ?_
  · as_aux_lemma =>
    have E : Below W5.heap.size W5 w := Below.then (below_drew W5) hle
    have h50 : a.tmps[50]?.getD undef = (.bool true) := H 50 rfl
    refine ⟨trivial, fun K Q hK => ?_⟩
    go_simp
    exact hK.out _ _ (grew.refl _) rfl
  refine AllSteps.cons (fun a w hle H => ?_) ?_
  · as_aux_lemma =>
    have E : Below W5.heap.size W5 w := Below.then (below_drew W5) hle
    have h2 : a.tmps[2]?.getD undef = (.pointer (some ⟨n5, 0, none⟩)) := H 2 rfl
    refine ⟨H 51 rfl, fun K Q hK => ?_⟩
    obtain ⟨q0, q1, q2, q3, -⟩ := (x5.below E).cells
    go_simp
    exact hK.out _ _ (grew.refl _) (tab_out (f := .arr awA) (by kernel_rfl) ⟨_, _, _, _, _, _, _, _, _, _, rfl, y5.below E⟩)
  refine AllSteps.cons (fun a w hle H => ?_) ?_
  · skip
    have E : Below W5.heap.size W5 w := Below.then (below_drew W5) hle
    refine ⟨H 51 rfl, fun K Q hK => ?_⟩
    have hl := litC w [1, 2, 3, 4, 0, 0] 3 #[.int .i64 1, .int .i64 2, .int .i64 3, .int .i64 4, .int .i64 0, .int .i64 0] _ 6 rfl rfl rfl (by decide) (by decide)
    have hf : Fact.holds (.ints [1, 2, 3, 4, 0, 0]) _ _ := ⟨_, _, rfl, hl⟩
    clear hl
    go_simp
    exact hK.out _ _ (below_new w _) (tab_out (by kernel_rfl) hf)
  refine AllSteps.cons (fun a w hle H => ?_) ?_
  · as_aux_lemma =>
    have E : Below W5.heap.size W5 w := Below.then (below_drew W5) hle
    obtain ⟨a53, c53, h53, i53⟩ : Fact.holds (.ints [1, 2, 3, 4, 0, 0]) (a.tmps[53]?.getD undef) w := H 53 rfl
    refine ⟨H 51 rfl, fun K Q hK => ?_⟩
    go_simp
    go_at_call 26
    with_reducible refine (matA i53).mono ?_
    intro e w' hN; obtain ⟨k', sa', ls', sc', na', ln', nc', ia', li', ic', rfl, h', b'⟩ := hN.form
    exact hK.out _ _ b' (tab_out (f := .arr awA) (by kernel_rfl) ⟨_, _, _, _, _, _, _, _, _, _, rfl, h'⟩)
  refine AllSteps.cons (fun a w hle H => ?_) ?_
  · as_aux_lemma =>
    have E : Below W5.heap.size W5 w := Below.then (below_drew W5) hle
    obtain ⟨k52, sa52, ls52, sc52, na52, ln52, nc52, ia52, li52, ic52, h52, i52⟩ : Fact.holds (.arr awA) (a.tmps[52]?.getD undef) w := H 52 rfl
    obtain ⟨k54, sa54, ls54, sc54, na54, ln54, nc54, ia54, li54, ic54, h54, i54⟩ : Fact.holds (.arr awA) (a.tmps[54]?.getD undef) w := H 54 rfl
    refine ⟨H 51 rfl, fun K Q hK => ?_⟩
    go_simp
    go_at_call 13
    with_reducible refine (sameRX i52 i54).mono ?_
    rintro e w' ⟨rfl, b'⟩
    exact hK.out _ _ b' rfl
  refine AllSteps.cons (fun a w hle H => ?_) ?_
  · as_aux_lemma =>
    have E : Below W5.heap.size W5 w := Below.then (below_drew W5) hle
    have h51 : a.tmps[51]?.getD undef = (.bool true) := H 51 rfl
    have h55 : a.tmps[55]?.getD undef = (.bool true) := H 55 rfl
    refine ⟨trivial, fun K Q hK => ?_⟩
    go_simp
    exact hK.out _ _ (grew.refl _) rfl
  refine AllSteps.cons (fun a w hle H => ?_) ?_
  · as_aux_lemma =>
    have E : Below W5.heap.size W5 w := Below.then (below_drew W5) hle
    have h56 : a.tmps[56]?.getD undef = (.bool true) := H 56 rfl
    refine ⟨trivial, fun K Q hK => ?_⟩
    go_simp
    exact hK.out _ _ (grew.refl _) rfl
  refine AllSteps.cons (fun a w hle H => ?_) ?_
  · as_aux_lemma =>
    have E : Below W5.heap.size W5 w := Below.then (below_drew W5) hle
    have h4 : a.tmps[4]?.getD undef = (.pointer (some ⟨n7, 0, none⟩)) := H 4 rfl
    refine ⟨H 57 rfl, fun K Q hK => ?_⟩
    obtain ⟨q0, q1, q2, q3, -⟩ := (x7.below E).cells
    go_simp
    exact hK.out _ _ (grew.refl _) (tab_out (f := .arr awB) (by kernel_rfl) ⟨_, _, _, _, _, _, _, _, _, _, rfl, y7.below E⟩)
  refine AllSteps.cons (fun a w hle H => ?_) ?_
  · skip
    have E : Below W5.heap.size W5 w := Below.then (below_drew W5) hle
    refine ⟨H 57 rfl, fun K Q hK => ?_⟩
    have hl := litC w [7, 8, 0, 0, 0, 0] 3 #[.int .i64 7, .int .i64 8, .int .i64 0, .int .i64 0, .int .i64 0, .int .i64 0] _ 6 rfl rfl rfl (by decide) (by decide)
    have hf : Fact.holds (.ints [7, 8, 0, 0, 0, 0]) _ _ := ⟨_, _, rfl, hl⟩
    clear hl
    go_simp
    exact hK.out _ _ (below_new w _) (tab_out (by kernel_rfl) hf)
  refine AllSteps.cons (fun a w hle H => ?_) ?_
  · as_aux_lemma =>
    have E : Below W5.heap.size W5 w := Below.then (below_drew W5) hle
    obtain ⟨a59, c59, h59, i59⟩ : Fact.holds (.ints [7, 8, 0, 0, 0, 0]) (a.tmps[59]?.getD undef) w := H 59 rfl
    refine ⟨H 57 rfl, fun K Q hK => ?_⟩
    go_simp
    go_at_call 26
    with_reducible refine (matB i59).mono ?_
    intro e w' hN; obtain ⟨k', sa', ls', sc', na', ln', nc', ia', li', ic', rfl, h', b'⟩ := hN.form
    exact hK.out _ _ b' (tab_out (f := .arr awB) (by kernel_rfl) ⟨_, _, _, _, _, _, _, _, _, _, rfl, h'⟩)
  refine AllSteps.cons (fun a w hle H => ?_) ?_
  · as_aux_lemma =>
    have E : Below W5.heap.size W5 w := Below.then (below_drew W5) hle
    obtain ⟨k58, sa58, ls58, sc58, na58, ln58, nc58, ia58, li58, ic58, h58, i58⟩ : Fact.holds (.arr awB) (a.tmps[58]?.getD undef) w := H 58 rfl
    obtain ⟨k60, sa60, ls60, sc60, na60, ln60, nc60, ia60, li60, ic60, h60, i60⟩ : Fact.holds (.arr awB) (a.tmps[60]?.getD undef) w := H 60 rfl
    refine ⟨H 57 rfl, fun K Q hK => ?_⟩
    go_simp
    go_at_call 13
    with_reducible refine (sameRX i58 i60).mono ?_
    rintro e w' ⟨rfl, b'⟩
    exact hK.out _ _ b' rfl
  refine AllSteps.cons (fun a w hle H => ?_) ?_
  · as_aux_lemma =>
    have E : Below W5.heap.size W5 w := Below.then (below_drew W5) hle
    have h57 : a.tmps[57]?.getD undef = (.bool true) := H 57 rfl
    have h61 : a.tmps[61]?.getD undef = (.bool true) := H 61 rfl
    refine ⟨trivial, fun K Q hK => ?_⟩
    go_simp
    exact hK.out _ _ (grew.refl _) rfl
  refine AllSteps.cons (fun a w hle H => ?_) ?_
  · as_aux_lemma =>
    have E : Below W5.heap.size W5 w := Below.then (below_drew W5) hle
    have h62 : a.tmps[62]?.getD undef = (.bool true) := H 62 rfl
    refine ⟨trivial, fun K Q hK => ?_⟩
    go_simp
    exact hK.out _ _ (grew.refl _) rfl
  exact AllSteps.nil
end Go.Proofs.Ytppdibblkaepjaa.Shape
