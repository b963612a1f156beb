/-
  Layer 3: the walk of the law of Same and Clone.
-/
import Derived.Test.YtphcpolgeceljaaDoorArrChg
import Derived.Test.YtphcpolgeceljaaDoorArrWeight
import Derived.Test.YtphcpolgeceljaaDoorArrLaw1
import Derived.Test.YtphcpolgeceljaaDoorArrOf5
import Derived.Test.YtphcpolgeceljaaDoorArrExample
import Derived.Deep.RegionHeld3
import Derived.Handy
import Derived.Deep.RegionHeldLaw
import Derived.Deep.DeepCutAuto
namespace Go.Proofs.YtphcpolgeceljaaDoor.Shape
open Go.RowKit

mutual
theorem eqA_refl : ∀ A, eqA A A = true
  | .mk k sh nu it => by
    have h := eqL_refl it
    rw [eqA, h]; simp [sameB]
theorem eqL_refl : ∀ l, eqL l l = true
  | [] => by rw [eqL]
  | A :: r => by rw [eqL, eqA_refl A, eqL_refl r]; rfl
end
theorem sameRX {v v2 : Value} {A : Arr} {w : World} (h : ArrAt w v A) (g : ArrAt w v2 A) : Calls Tryd.prog 22 #[v, v2] w fun e w' => e = .returned (.bool true) ∧ Below w.heap.size w w' := by
  have := sameR3 v v2 A A w h g
  rw [eqA_refl] at this
  exact this
theorem GiveNewE.form {A : Arr} {er : Int} {w w' : World} {e : Ending} (h : GiveNewE A er w e w') : ∃ k sa ls sc na ln nc ia li ic, e = .returned (.tuple #[.agg #[.int .i64 k, .slice sa ls sc, .slice na ln nc, .slice ia li ic], .int .i64 er]) ∧
    ArrAt w' (.agg #[.int .i64 k, .slice sa ls sc, .slice na ln nc, .slice ia li ic]) A ∧ Below w.heap.size w w' := by
  obtain ⟨c0, c1, c2, c3, rfl, hg⟩ := h
  obtain ⟨k, sa, ls, sc, na, ln, nc, ia, li, ic, hv, hO, hb⟩ := hg.form
  simp only [Ending.returned.injEq] at hv
  exact ⟨k, sa, ls, sc, na, ln, nc, ia, li, ic, by rw [hv], hO.at, hb⟩
end Go.Proofs.YtphcpolgeceljaaDoor.Shape

namespace Go.Proofs.YtphcpolgeceljaaDoor.Shape
open Go.RowKit

theorem asize_le {A : Arr} (h : Reach A) : aSize A ≤ 9223372036854775807 := by
  obtain ⟨k, sh, nu, it⟩ := A
  rw [Reach] at h
  unfold aSize
  split
  · show nu.length ≤ _; omega
  · split
    · show it.length ≤ _; omega
    · omega
theorem samePX {v v2 : Value} {A : Arr} {w : World} (h : ArrAt w v A) (g : ArrAt w v2 A) : Calls Tryd.prog 21 #[v, v2] w fun e w' => e = .returned (.bool true) ∧ Below w.heap.size w w' := by
  have := sameQ v v2 A A w h g
  rw [eqA_refl] at this
  exact this
/-- A scalar of kind k as a result. -/
theorem GiveArr.scalar {A : Arr} {k : Int} {w w' : World} {e : Ending} (h : GiveArr A w e w') (hk : A.kind = k) (hs : A.shape = []) : ∃ sa sc na ln nc ia li ic, e = .returned (.agg #[.int .i64 k, .slice sa 0 sc, .slice na ln nc, .slice ia li ic]) ∧
    ArrAt w' (.agg #[.int .i64 k, .slice sa 0 sc, .slice na ln nc, .slice ia li ic]) A ∧ Below w.heap.size w w' := by
  obtain ⟨v, rfl, hA, hb⟩ := h
  have hA' := hA
  obtain ⟨k', sh, nu, it⟩ := A
  obtain rfl : k' = k := hk
  obtain rfl : sh = [] := hs
  rw [ArrAt] at hA
  obtain ⟨sa, sc, na, nc, ia, ic, rfl, -⟩ := hA
  exact ⟨sa, sc, na, _, nc, ia, _, ic, rfl, hA', hb⟩
end Go.Proofs.YtphcpolgeceljaaDoor.Shape

namespace Go.Proofs.YtphcpolgeceljaaDoor.Shape
open Go.RowKit

theorem IntsOn.spot {P : Nat → Prop} {w : World} {a : Option Addr} {cap : Nat} {xs : List Int} (h : IntsOn P w a cap xs) {k n : Nat} (hn : n = xs.length) (hk : k < n) :
    ∃ (b o : Nat) (x : Int), (∀ w' : World, (Instr.indexAt 23 (.slice a n cap) (.int .i64 k)).run Tryd.prog w' = .ok (.pointer (some ⟨b, o, none⟩)) w') ∧ w.cell? ⟨b, o, none⟩ = some (.int .i64 x) ∧ P b := by
  subst hn
  have hne : xs ≠ [] := by intro e; subst e; simp at hk
  obtain ⟨⟨h1, h2, h3, b, off, ha, hc⟩, hp⟩ := h
  have e := ha hne
  subst e
  refine ⟨b, off + k, xs[k], fun w' => ?_, hc k hk, hp hne _ rfl⟩
  rw [run_indexAt_slice w' _ _ _ _ .i64 k elemInts, if_pos (by omega), sizeInts]
  show Result.ok _ w' = _
  rw [show ((k : Int).toNat * 1) = k by omega, add_plain]
theorem ArrsOn.spot {P : Nat → Prop} {w : World} : ∀ {l : List Arr} {b off : Nat}, ArrsOn P w b off l → ∀ {k : Nat} (hk : k < l.length), ∃ c0 c1 c2 c3 : Value,
    (w.cell? ⟨b, off + k * 4, none⟩ = some c0 ∧ w.cell? ⟨b, off + k * 4 + 1, none⟩ = some c1 ∧ w.cell? ⟨b, off + k * 4 + 2, none⟩ = some c2 ∧ w.cell? ⟨b, off + k * 4 + 3, none⟩ = some c3) ∧ ArrOn P w (.agg #[c0, c1, c2, c3]) l[k]
  | [], _, _, _, k, hk => absurd hk (by simp)
  | A :: r, b, off, h, k, hk => by
    rw [ArrsOn] at h
    cases k with
    | zero => simpa using h.1
    | succ k =>
      have := ArrsOn.spot h.2 (k := k) (by simpa using hk)
      have e : off + 4 + k * 4 = off + (k + 1) * 4 := by omega
      rw [e] at this
      simpa using this
theorem Upd.int {P : Nat → Prop} {B : Nat} {w w' : World} (h : Upd P B w w') {g o : Nat} {x : Int} (hx : w.cell? ⟨g, o, none⟩ = some (.int .i64 x)) : ∃ y, w'.cell? ⟨g, o, none⟩ = some (.int .i64 y) := by
  rcases h.cell _ _ _ hx with h4 | ⟨_, y, _, h4, _⟩
  · exact ⟨_, h4⟩
  · exact ⟨_, h4⟩
theorem wrap_bd (n : Int) : -9223372036854775808 ≤ IntKind.i64.wrap n ∧ IntKind.i64.wrap n ≤ 9223372036854775807 := by
  simp [IntKind.wrap, IntKind.signed, IntKind.bits]
  split <;> omega

set_option maxRecDepth 100000 in
set_option maxHeartbeats 4000000 in
theorem changed_any (P : Nat → Prop) (B S0 : Nat) (hP : ∀ g, P g → B ≤ g ∧ g < S0) (n : Nat) : ∀ (v : Value) (A : Arr) (w : World), rk A ≤ n → ArrOn P w v A → (∀ g, P g → Thaw w g) → S0 ≤ w.heap.size → B ≤ w.heap.size →
    Calls Tryd.prog 23 #[v] w fun e w' => e = .returned (.tuple #[]) ∧ Upd P B w w' := by
  induction n with
  | zero =>
    intro v A w hn
    obtain ⟨k, sh, nu, it⟩ := A
    rw [rk] at hn; omega
  | succ n ih =>
    intro v A w hn hA hT hS hB
    obtain ⟨k, sh, nu, it⟩ := A
    rw [ArrOn] at hA
    obtain ⟨sa, sc, na, nc, ia, ic, rfl, hk, hs, hnn, h1, h2, b, off, ha, hc⟩ := hA
    have U0 := Upd.of_below (P := P) (B := B) (below_new w (.cells #[.int .i64 k, .slice sa sh.length sc, .slice na nu.length nc, .slice ia it.length ic] 26)) hB
    have q0 := Quad.new w (.int .i64 k) (.slice sa sh.length sc) (.slice na nu.length nc) (.slice ia it.length ic)
    have hnP : ¬ P w.heap.size := fun h => by have := (hP _ h).2; omega
    have hls := hs.1.len
    have hln := hnn.1.len
    have H : ∀ wr, Upd P B (w.alloc (.cells #[.int .i64 k, .slice sa sh.length sc, .slice na nu.length nc, .slice ia it.length ic] 26)) wr → Quad wr w.heap.size (.int .i64 k) (.slice sa sh.length sc) (.slice na nu.length nc) (.slice ia it.length ic) ∧ Upd P B w wr ∧ (∀ g, P g → Thaw wr g) :=
      fun wr hu => ⟨q0.keep (hu.blk _ hnP (by simp)), U0.trans hu, fun g hg => (U0.trans hu).thaw g (hT g hg)⟩
    obtain ⟨W1, hW⟩ : ∃ W1, W1 = (w.alloc (.cells #[.int .i64 k, .slice sa sh.length sc, .slice na nu.length nc, .slice ia it.length ic] 26)) := ⟨_, rfl⟩
    go_enter Tryd.func23, Tryd.ntmps23
    go_wp2_with fail
    rw [← hW] at H ⊢
    clear hW U0 q0
    go_loopw [2] (fun i wr => ∃ j : Nat, j ≤ sh.length ∧ i = .int .i64 j ∧ Upd P B W1 wr) (fun i _ => sh.length - (intOf i).toNat)
    case atStart => exact ⟨0, Nat.zero_le _, rfl, Upd.refl _⟩
    case round =>
      obtain ⟨j, hj, rfl, hu⟩ := hrel
      obtain ⟨q, hwu, hth⟩ := H _ hu
      obtain ⟨p0, p1, p2, p3, -⟩ := q.cells
      by_cases hlt : j < sh.length
      · obtain ⟨ys, el, hys⟩ := upd_ints hwu hs
        obtain ⟨xb, xo, x, hix, hcell, hPb⟩ := hys.spot (k := j) el.symm hlt
        have hfr := (hth xb hPb).free xo
        obtain ⟨z, hz⟩ : ∃ z, IntKind.i64.wrap (x + 1) = z := ⟨_, rfl⟩
        have hzb := wrap_bd (x + 1)
        rw [hz] at hzb
        have US := Upd.set (P := P) (B := B) (y := z) hcell hPb (hP xb hPb).1 hzb
        go_wp2_with fail
        refine ⟨⟨j + 1, by omega, by go_num, hu.trans US⟩, ?_⟩
        simp [intOf]; omega
      · go_wp2_with fail
        go_loopw [3] (fun i wr => ∃ j : Nat, j ≤ nu.length ∧ i = .int .i64 j ∧ Upd P B W1 wr) (fun i _ => nu.length - (intOf i).toNat)
        case atStart => exact ⟨0, Nat.zero_le _, rfl, hu⟩
        case round =>
          clear hu q hwu hth p0 p1 p2 p3 hlt
          obtain ⟨j2, hj2, rfl, hu⟩ := hrel
          obtain ⟨q, hwu, hth⟩ := H _ hu
          obtain ⟨p0, p1, p2, p3, -⟩ := q.cells
          by_cases hlt : j2 < nu.length
          · obtain ⟨ys, el, hys⟩ := upd_ints hwu hnn
            obtain ⟨xb, xo, x, hix, hcell, hPb⟩ := hys.spot (k := j2) el.symm hlt
            have hfr := (hth xb hPb).free xo
            obtain ⟨z, hz⟩ : ∃ z, IntKind.i64.wrap (x + 1) = z := ⟨_, rfl⟩
            have hzb := wrap_bd (x + 1)
            rw [hz] at hzb
            have US := Upd.set (P := P) (B := B) (y := z) hcell hPb (hP xb hPb).1 hzb
            go_wp2_with fail
            refine ⟨⟨j2 + 1, by omega, by go_num, hu.trans US⟩, ?_⟩
            simp [intOf]; omega
          · go_wp2_with fail
            go_loopw [4] (fun i wr => ∃ j : Nat, j ≤ it.length ∧ i = .int .i64 j ∧ Upd P B W1 wr) (fun i _ => it.length - (intOf i).toNat)
            case atStart => exact ⟨0, Nat.zero_le _, rfl, hu⟩
            case round =>
              clear hu q hwu hth p0 p1 p2 p3 hlt
              obtain ⟨j3, hj3, rfl, hu⟩ := hrel
              obtain ⟨q, hwu, hth⟩ := H _ hu
              obtain ⟨p0, p1, p2, p3, -⟩ := q.cells
              by_cases hlt : j3 < it.length
              · obtain ⟨it', el, er, hc'⟩ := upd_arrs hwu hc
                have hlt' : j3 < it'.length := by omega
                have hPb : P b := (ha (fun e => by subst e; simp at hlt)).2
                have hix := items_at (l := it') (ic := ic) el.symm (fun e => (ha (fun e' => by subst e'; exact e (List.eq_nil_of_length_eq_zero el))).1) hlt'
                obtain ⟨c0, c1, c2, c3, ⟨m0, m1, m2, m3⟩, hI⟩ := hc'.spot hlt'
                have hrk : rk it'[j3] ≤ n := by
                  have h3 := rkL_at hlt'
                  rw [rk] at hn; omega
                obtain ⟨x0, hx0⟩ : ∃ x0, c0 = .int .i64 x0 := by
                  generalize it'[j3] = A3 at hI
                  obtain ⟨k3, sh3, nu3, it3⟩ := A3
                  rw [ArrOn] at hI
                  obtain ⟨_, _, _, _, _, _, hv, -⟩ := hI
                  simp only [Value.agg.injEq, Array.mk.injEq, List.cons.injEq, and_true] at hv
                  exact ⟨_, hv.1⟩
                subst hx0
                have IH := ih _ _ wr hrk hI hth (Nat.le_trans hS hwu.bel.size) (Nat.le_trans hB hwu.bel.size)
                have HN : Hid (j3 < it.length) := hlt
                clear IH
                go_wp2_with (go_at_call 23; refine (ih _ _ wr hrk hI hth (Nat.le_trans hS hwu.bel.size) (Nat.le_trans hB hwu.bel.size)).mono ?_; rintro e w3 ⟨rfl, U3⟩; (obtain ⟨q3, hwu3, hth3⟩ := H _ (hu.trans U3)); (obtain ⟨r0, r1, r2, r3, -⟩ := q3.cells); (obtain ⟨x1, hx1⟩ := U3.int m0); (have hfr := (hth3 b hPb).free (off + j3 * 4)); (obtain ⟨z, hz⟩ : ∃ z, IntKind.i64.wrap (x1 + 1) = z := ⟨_, rfl⟩))
                have hzb := wrap_bd (x1 + 1)
                rw [hz] at hzb
                have US := Upd.set (P := P) (B := B) (y := z) hx1 hPb (hP b hPb).1 hzb
                refine ⟨⟨j3 + 1, by omega, by go_num, (hu.trans U3).trans US⟩, ?_⟩
                simp [intOf]; omega
              · go_wp2_with fail
                go_end0
                exact ⟨rfl, hwu⟩
/-- An array that lies in new, unfrozen memory: changed turns nothing else. -/
theorem changedL (v : Value) (A : Arr) (w : World) (B : Nat) (hB : B ≤ w.heap.size) (h : ArrOn (fun g => (B ≤ g ∧ g < w.heap.size) ∧ Thaw w g) w v A) :
    Calls Tryd.prog 23 #[v] w fun e w' => e = .returned (.tuple #[]) ∧ Below B w w' :=
  (changed_any (fun g => (B ≤ g ∧ g < w.heap.size) ∧ Thaw w g) B w.heap.size (fun _ hg => hg.1) (rk A) v A w (Nat.le_refl _) h (fun _ hg => hg.2) (Nat.le_refl _) hB).mono fun _ _ ⟨he, hu⟩ => ⟨he, hu.bel⟩
end Go.Proofs.YtphcpolgeceljaaDoor.Shape

namespace Go.Proofs.YtphcpolgeceljaaDoor.Shape
open Go.RowKit
set_option linter.unusedVariables false

theorem Quad.drew {w : World} {b : Nat} {c0 c1 c2 c3 : Value} (h : Quad w b c0 c1 c2 c3) : Quad w.drew b c0 c1 c2 c3 := h
/-- What the region leaves: the two results in two blocks of their own, neither of which lies among the blocks of the other result. -/
theorem eqEnd {w2 wa w5 wb w6 W : World} {x0 : Arr} {X5 X6 : Nat} {k5 : Int} {sa5 na5 ia5 : Option Addr} {ls5 sc5 ln5 nc5 li5 ic5 : Nat} {k6 : Int} {sa6 na6 ia6 : Option Addr} {ls6 sc6 ln6 nc6 li6 ic6 : Nat}
    (h5 : ArrOn (fun g => wa.heap.size ≤ g) w5 (.agg #[.int .i64 k5, .slice sa5 ls5 sc5, .slice na5 ln5 nc5, .slice ia5 li5 ic5]) x0) (b5 : Below wa.heap.size wa w5) (ha : w2.heap.size ≤ wa.heap.size) (hb : Below w5.heap.size w5 wb) (h6 : ArrOn (Own wb w6) w6 (.agg #[.int .i64 k6, .slice sa6 ls6 sc6, .slice na6 ln6 nc6, .slice ia6 li6 ic6]) x0) (b6 : Below wb.heap.size wb w6)
    (q5 : Quad W X5 (.int .i64 k5) (.slice sa5 ls5 sc5) (.slice na5 ln5 nc5) (.slice ia5 li5 ic5)) (q6 : Quad W X6 (.int .i64 k6) (.slice sa6 ls6 sc6) (.slice na6 ln6 nc6) (.slice ia6 li6 ic6)) (hB : Below w2.heap.size w2 W)
    (hW : ∀ g, g < w6.heap.size → g ≠ X5 → g ≠ X6 → W.heap[g]? = w6.heap[g]?) (hs : w6.heap.size ≤ W.heap.size)
    (d5 : X5 < wa.heap.size ∨ (w5.heap.size ≤ X5 ∧ X5 < wb.heap.size) ∨ w6.heap.size ≤ X5) (d6 : X6 < wa.heap.size ∨ (w5.heap.size ≤ X6 ∧ X6 < wb.heap.size) ∨ w6.heap.size ≤ X6) :
    ∃ (X5' X6' B S0 : Nat) (k5' : Int) (sa5' : Option Addr) (ls5' sc5' : Nat) (na5' : Option Addr) (ln5' nc5' : Nat) (ia5' : Option Addr) (li5' ic5' : Nat) (k6' : Int) (sa6' : Option Addr) (ls6' sc6' : Nat) (na6' : Option Addr) (ln6' nc6' : Nat) (ia6' : Option Addr) (li6' ic6' : Nat), Value.pointer (some ⟨X5, 0, none⟩) = .pointer (some ⟨X5', 0, none⟩) ∧ Value.pointer (some ⟨X6, 0, none⟩) = .pointer (some ⟨X6', 0, none⟩) ∧ Quad W X5' (.int .i64 k5') (.slice sa5' ls5' sc5') (.slice na5' ln5' nc5') (.slice ia5' li5' ic5') ∧ Quad W X6' (.int .i64 k6') (.slice sa6' ls6' sc6') (.slice na6' ln6' nc6') (.slice ia6' li6' ic6') ∧ (X5' < B ∨ S0 ≤ X5') ∧ (X6' < B ∨ S0 ≤ X6') ∧ (w2.heap.size ≤ B ∧ B ≤ S0) ∧ S0 ≤ W.heap.size ∧ ArrOn (fun g => g < B ∨ S0 ≤ g) W (.agg #[.int .i64 k5', .slice sa5' ls5' sc5', .slice na5' ln5' nc5', .slice ia5' li5' ic5']) x0 ∧ ArrOn (fun g => (B ≤ g ∧ g < S0) ∧ Thaw W g) W (.agg #[.int .i64 k6', .slice sa6' ls6' sc6', .slice na6' ln6' nc6', .slice ia6' li6' ic6']) x0 ∧ Below w2.heap.size w2 W := by
  have s5 := b5.size
  have sb := hb.size
  have s6 := b6.size
  refine ⟨X5, X6, wb.heap.size, w6.heap.size, k5, sa5, ls5, sc5, na5, ln5, nc5, ia5, li5, ic5, k6, sa6, ls6, sc6, na6, ln6, nc6, ia6, li6, ic6, rfl, rfl, q5, q6, by omega, by omega, ⟨by omega, by omega⟩, hs, ?_, ?_, hB⟩
  · refine h5.keep fun g hp hg => ⟨Or.inl (by omega), fun o => World.cell?_of_block ?_⟩
    exact (hW g (by omega) (by omega) (by omega)).trans ((b6.block g (by omega)).trans (hb.block g hg))
  · refine h6.keep fun g hp hg => ?_
    obtain ⟨hp1, cs, t, hc⟩ := hp
    have e := hW g hg (by omega) (by omega)
    exact ⟨⟨⟨hp1, hg⟩, cs, t, e.trans hc⟩, fun o => World.cell?_of_block e⟩
theorem drew_size (w : World) : w.drew.heap.size = w.heap.size := rfl
theorem set4_size (w : World) (R : Nat) (c0 c1 c2 c3 : Value) : ((((w.setCell ⟨R, 0, none⟩ c0).setCell ⟨R, 1, none⟩ c1).setCell ⟨R, 2, none⟩ c2).setCell ⟨R, 3, none⟩ c3).heap.size = w.heap.size := by
  simp [World.setCell]
theorem alloc_size (w : World) (o : Obj) : (w.alloc o).heap.size = w.heap.size + 1 := by simp
theorem alloc_keep (w : World) (o : Obj) {g : Nat} (h : g < w.heap.size) : (w.alloc o).heap[g]? = w.heap[g]? := (below_new w o).block g h
theorem endAA {w2 wa w5 wb w6 : World} {x0 : Arr} {k5 : Int} {sa5 na5 ia5 : Option Addr} {ls5 sc5 ln5 nc5 li5 ic5 : Nat} {k6 : Int} {sa6 na6 ia6 : Option Addr} {ls6 sc6 ln6 nc6 li6 ic6 : Nat}
    (h5 : ArrOn (fun g => wa.heap.size ≤ g) w5 (.agg #[.int .i64 k5, .slice sa5 ls5 sc5, .slice na5 ln5 nc5, .slice ia5 li5 ic5]) x0) (b5 : Below wa.heap.size wa w5) (ha : w2.heap.size ≤ wa.heap.size) (hb : Below w5.heap.size w5 wb) (h6 : ArrOn (Own wb w6) w6 (.agg #[.int .i64 k6, .slice sa6 ls6 sc6, .slice na6 ln6 nc6, .slice ia6 li6 ic6]) x0) (b6 : Below wb.heap.size wb w6) (E6 : Below w2.heap.size w2 w6) : ∃ (X5' X6' B S0 : Nat) (k5' : Int) (sa5' : Option Addr) (ls5' sc5' : Nat) (na5' : Option Addr) (ln5' nc5' : Nat) (ia5' : Option Addr) (li5' ic5' : Nat) (k6' : Int) (sa6' : Option Addr) (ls6' sc6' : Nat) (na6' : Option Addr) (ln6' nc6' : Nat) (ia6' : Option Addr) (li6' ic6' : Nat), Value.pointer (some ⟨w6.heap.size, 0, none⟩) = .pointer (some ⟨X5', 0, none⟩) ∧ Value.pointer (some ⟨w6.heap.size + 1, 0, none⟩) = .pointer (some ⟨X6', 0, none⟩) ∧ Quad ((w6.alloc (.cells #[.int .i64 k5, .slice sa5 ls5 sc5, .slice na5 ln5 nc5, .slice ia5 li5 ic5] 26)).alloc (.cells #[.int .i64 k6, .slice sa6 ls6 sc6, .slice na6 ln6 nc6, .slice ia6 li6 ic6] 26)) X5' (.int .i64 k5') (.slice sa5' ls5' sc5') (.slice na5' ln5' nc5') (.slice ia5' li5' ic5') ∧ Quad ((w6.alloc (.cells #[.int .i64 k5, .slice sa5 ls5 sc5, .slice na5 ln5 nc5, .slice ia5 li5 ic5] 26)).alloc (.cells #[.int .i64 k6, .slice sa6 ls6 sc6, .slice na6 ln6 nc6, .slice ia6 li6 ic6] 26)) X6' (.int .i64 k6') (.slice sa6' ls6' sc6') (.slice na6' ln6' nc6') (.slice ia6' li6' ic6') ∧ (X5' < B ∨ S0 ≤ X5') ∧ (X6' < B ∨ S0 ≤ X6') ∧ (w2.heap.size ≤ B ∧ B ≤ S0) ∧ S0 ≤ ((w6.alloc (.cells #[.int .i64 k5, .slice sa5 ls5 sc5, .slice na5 ln5 nc5, .slice ia5 li5 ic5] 26)).alloc (.cells #[.int .i64 k6, .slice sa6 ls6 sc6, .slice na6 ln6 nc6, .slice ia6 li6 ic6] 26)).heap.size ∧ ArrOn (fun g => g < B ∨ S0 ≤ g) ((w6.alloc (.cells #[.int .i64 k5, .slice sa5 ls5 sc5, .slice na5 ln5 nc5, .slice ia5 li5 ic5] 26)).alloc (.cells #[.int .i64 k6, .slice sa6 ls6 sc6, .slice na6 ln6 nc6, .slice ia6 li6 ic6] 26)) (.agg #[.int .i64 k5', .slice sa5' ls5' sc5', .slice na5' ln5' nc5', .slice ia5' li5' ic5']) x0 ∧ ArrOn (fun g => (B ≤ g ∧ g < S0) ∧ Thaw ((w6.alloc (.cells #[.int .i64 k5, .slice sa5 ls5 sc5, .slice na5 ln5 nc5, .slice ia5 li5 ic5] 26)).alloc (.cells #[.int .i64 k6, .slice sa6 ls6 sc6, .slice na6 ln6 nc6, .slice ia6 li6 ic6] 26)) g) ((w6.alloc (.cells #[.int .i64 k5, .slice sa5 ls5 sc5, .slice na5 ln5 nc5, .slice ia5 li5 ic5] 26)).alloc (.cells #[.int .i64 k6, .slice sa6 ls6 sc6, .slice na6 ln6 nc6, .slice ia6 li6 ic6] 26)) (.agg #[.int .i64 k6', .slice sa6' ls6' sc6', .slice na6' ln6' nc6', .slice ia6' li6' ic6']) x0 ∧ Below w2.heap.size w2 ((w6.alloc (.cells #[.int .i64 k5, .slice sa5 ls5 sc5, .slice na5 ln5 nc5, .slice ia5 li5 ic5] 26)).alloc (.cells #[.int .i64 k6, .slice sa6 ls6 sc6, .slice na6 ln6 nc6, .slice ia6 li6 ic6] 26)) := by
  have q5 := (Quad.new w6 (.int .i64 k5) (.slice sa5 ls5 sc5) (.slice na5 ln5 nc5) (.slice ia5 li5 ic5)).below (below_new _ (.cells #[.int .i64 k6, .slice sa6 ls6 sc6, .slice na6 ln6 nc6, .slice ia6 li6 ic6] 26))
  have q6 := Quad.new (w6.alloc (.cells #[.int .i64 k5, .slice sa5 ls5 sc5, .slice na5 ln5 nc5, .slice ia5 li5 ic5] 26)) (.int .i64 k6) (.slice sa6 ls6 sc6) (.slice na6 ln6 nc6) (.slice ia6 li6 ic6)
  refine eqEnd h5 b5 ha hb h6 b6 q5 (by simpa using q6) (Below.then E6 (Below.then (below_new _ _) (below_new _ _))) (fun g h _ _ => ?_) (by rw [alloc_size, alloc_size]; omega) (Or.inr (Or.inr (Nat.le_refl _))) (Or.inr (Or.inr (by omega)))
  rw [alloc_keep _ _ (by rw [alloc_size]; omega), alloc_keep _ _ h]
theorem endBB {w2 wa w5 wb w6 : World} {x0 : Arr} {k5 : Int} {sa5 na5 ia5 : Option Addr} {ls5 sc5 ln5 nc5 li5 ic5 : Nat} {k6 : Int} {sa6 na6 ia6 : Option Addr} {ls6 sc6 ln6 nc6 li6 ic6 : Nat}
    (h5 : ArrOn (fun g => wa.heap.size ≤ g) w5 (.agg #[.int .i64 k5, .slice sa5 ls5 sc5, .slice na5 ln5 nc5, .slice ia5 li5 ic5]) x0) (b5 : Below wa.heap.size wa w5) (ha : w2.heap.size ≤ wa.heap.size) (hb : Below w5.heap.size w5 wb) (h6 : ArrOn (Own wb w6) w6 (.agg #[.int .i64 k6, .slice sa6 ls6 sc6, .slice na6 ln6 nc6, .slice ia6 li6 ic6]) x0) (b6 : Below wb.heap.size wb w6) (E6 : Below w2.heap.size w2 w6) : ∃ (X5' X6' B S0 : Nat) (k5' : Int) (sa5' : Option Addr) (ls5' sc5' : Nat) (na5' : Option Addr) (ln5' nc5' : Nat) (ia5' : Option Addr) (li5' ic5' : Nat) (k6' : Int) (sa6' : Option Addr) (ls6' sc6' : Nat) (na6' : Option Addr) (ln6' nc6' : Nat) (ia6' : Option Addr) (li6' ic6' : Nat), Value.pointer (some ⟨w6.heap.size + 1, 0, none⟩) = .pointer (some ⟨X5', 0, none⟩) ∧ Value.pointer (some ⟨w6.heap.size, 0, none⟩) = .pointer (some ⟨X6', 0, none⟩) ∧ Quad ((w6.alloc (.cells #[.int .i64 k6, .slice sa6 ls6 sc6, .slice na6 ln6 nc6, .slice ia6 li6 ic6] 26)).alloc (.cells #[.int .i64 k5, .slice sa5 ls5 sc5, .slice na5 ln5 nc5, .slice ia5 li5 ic5] 26)) X5' (.int .i64 k5') (.slice sa5' ls5' sc5') (.slice na5' ln5' nc5') (.slice ia5' li5' ic5') ∧ Quad ((w6.alloc (.cells #[.int .i64 k6, .slice sa6 ls6 sc6, .slice na6 ln6 nc6, .slice ia6 li6 ic6] 26)).alloc (.cells #[.int .i64 k5, .slice sa5 ls5 sc5, .slice na5 ln5 nc5, .slice ia5 li5 ic5] 26)) X6' (.int .i64 k6') (.slice sa6' ls6' sc6') (.slice na6' ln6' nc6') (.slice ia6' li6' ic6') ∧ (X5' < B ∨ S0 ≤ X5') ∧ (X6' < B ∨ S0 ≤ X6') ∧ (w2.heap.size ≤ B ∧ B ≤ S0) ∧ S0 ≤ ((w6.alloc (.cells #[.int .i64 k6, .slice sa6 ls6 sc6, .slice na6 ln6 nc6, .slice ia6 li6 ic6] 26)).alloc (.cells #[.int .i64 k5, .slice sa5 ls5 sc5, .slice na5 ln5 nc5, .slice ia5 li5 ic5] 26)).heap.size ∧ ArrOn (fun g => g < B ∨ S0 ≤ g) ((w6.alloc (.cells #[.int .i64 k6, .slice sa6 ls6 sc6, .slice na6 ln6 nc6, .slice ia6 li6 ic6] 26)).alloc (.cells #[.int .i64 k5, .slice sa5 ls5 sc5, .slice na5 ln5 nc5, .slice ia5 li5 ic5] 26)) (.agg #[.int .i64 k5', .slice sa5' ls5' sc5', .slice na5' ln5' nc5', .slice ia5' li5' ic5']) x0 ∧ ArrOn (fun g => (B ≤ g ∧ g < S0) ∧ Thaw ((w6.alloc (.cells #[.int .i64 k6, .slice sa6 ls6 sc6, .slice na6 ln6 nc6, .slice ia6 li6 ic6] 26)).alloc (.cells #[.int .i64 k5, .slice sa5 ls5 sc5, .slice na5 ln5 nc5, .slice ia5 li5 ic5] 26)) g) ((w6.alloc (.cells #[.int .i64 k6, .slice sa6 ls6 sc6, .slice na6 ln6 nc6, .slice ia6 li6 ic6] 26)).alloc (.cells #[.int .i64 k5, .slice sa5 ls5 sc5, .slice na5 ln5 nc5, .slice ia5 li5 ic5] 26)) (.agg #[.int .i64 k6', .slice sa6' ls6' sc6', .slice na6' ln6' nc6', .slice ia6' li6' ic6']) x0 ∧ Below w2.heap.size w2 ((w6.alloc (.cells #[.int .i64 k6, .slice sa6 ls6 sc6, .slice na6 ln6 nc6, .slice ia6 li6 ic6] 26)).alloc (.cells #[.int .i64 k5, .slice sa5 ls5 sc5, .slice na5 ln5 nc5, .slice ia5 li5 ic5] 26)) := by
  have q6 := (Quad.new w6 (.int .i64 k6) (.slice sa6 ls6 sc6) (.slice na6 ln6 nc6) (.slice ia6 li6 ic6)).below (below_new _ (.cells #[.int .i64 k5, .slice sa5 ls5 sc5, .slice na5 ln5 nc5, .slice ia5 li5 ic5] 26))
  have q5 := Quad.new (w6.alloc (.cells #[.int .i64 k6, .slice sa6 ls6 sc6, .slice na6 ln6 nc6, .slice ia6 li6 ic6] 26)) (.int .i64 k5) (.slice sa5 ls5 sc5) (.slice na5 ln5 nc5) (.slice ia5 li5 ic5)
  refine eqEnd h5 b5 ha hb h6 b6 (by simpa using q5) q6 (Below.then E6 (Below.then (below_new _ _) (below_new _ _))) (fun g h _ _ => ?_) (by rw [alloc_size, alloc_size]; omega) (Or.inr (Or.inr (by omega))) (Or.inr (Or.inr (Nat.le_refl _)))
  rw [alloc_keep _ _ (by rw [alloc_size]; omega), alloc_keep _ _ h]
theorem endSA {w2 wa w5 wb w6 : World} {x0 : Arr} {R : Nat} {z0 z1 z2 z3 : Value} {k5 : Int} {sa5 na5 ia5 : Option Addr} {ls5 sc5 ln5 nc5 li5 ic5 : Nat} {k6 : Int} {sa6 na6 ia6 : Option Addr} {ls6 sc6 ln6 nc6 li6 ic6 : Nat}
    (h5 : ArrOn (fun g => wa.heap.size ≤ g) w5 (.agg #[.int .i64 k5, .slice sa5 ls5 sc5, .slice na5 ln5 nc5, .slice ia5 li5 ic5]) x0) (b5 : Below wa.heap.size wa w5) (ha : w2.heap.size ≤ wa.heap.size) (hb : Below w5.heap.size w5 wb) (h6 : ArrOn (Own wb w6) w6 (.agg #[.int .i64 k6, .slice sa6 ls6 sc6, .slice na6 ln6 nc6, .slice ia6 li6 ic6]) x0) (b6 : Below wb.heap.size wb w6) (E6 : Below w2.heap.size w2 w6) (q : Quad w6 R z0 z1 z2 z3) (hR : w2.heap.size ≤ R) (d5 : R < wa.heap.size ∨ (w5.heap.size ≤ R ∧ R < wb.heap.size)) : ∃ (X5' X6' B S0 : Nat) (k5' : Int) (sa5' : Option Addr) (ls5' sc5' : Nat) (na5' : Option Addr) (ln5' nc5' : Nat) (ia5' : Option Addr) (li5' ic5' : Nat) (k6' : Int) (sa6' : Option Addr) (ls6' sc6' : Nat) (na6' : Option Addr) (ln6' nc6' : Nat) (ia6' : Option Addr) (li6' ic6' : Nat), Value.pointer (some ⟨R, 0, none⟩) = .pointer (some ⟨X5', 0, none⟩) ∧ Value.pointer (some ⟨w6.heap.size, 0, none⟩) = .pointer (some ⟨X6', 0, none⟩) ∧ Quad (((((w6.setCell ⟨R, 0, none⟩ (.int .i64 k5)).setCell ⟨R, 1, none⟩ (.slice sa5 ls5 sc5)).setCell ⟨R, 2, none⟩ (.slice na5 ln5 nc5)).setCell ⟨R, 3, none⟩ (.slice ia5 li5 ic5)).alloc (.cells #[.int .i64 k6, .slice sa6 ls6 sc6, .slice na6 ln6 nc6, .slice ia6 li6 ic6] 26)) X5' (.int .i64 k5') (.slice sa5' ls5' sc5') (.slice na5' ln5' nc5') (.slice ia5' li5' ic5') ∧ Quad (((((w6.setCell ⟨R, 0, none⟩ (.int .i64 k5)).setCell ⟨R, 1, none⟩ (.slice sa5 ls5 sc5)).setCell ⟨R, 2, none⟩ (.slice na5 ln5 nc5)).setCell ⟨R, 3, none⟩ (.slice ia5 li5 ic5)).alloc (.cells #[.int .i64 k6, .slice sa6 ls6 sc6, .slice na6 ln6 nc6, .slice ia6 li6 ic6] 26)) X6' (.int .i64 k6') (.slice sa6' ls6' sc6') (.slice na6' ln6' nc6') (.slice ia6' li6' ic6') ∧ (X5' < B ∨ S0 ≤ X5') ∧ (X6' < B ∨ S0 ≤ X6') ∧ (w2.heap.size ≤ B ∧ B ≤ S0) ∧ S0 ≤ (((((w6.setCell ⟨R, 0, none⟩ (.int .i64 k5)).setCell ⟨R, 1, none⟩ (.slice sa5 ls5 sc5)).setCell ⟨R, 2, none⟩ (.slice na5 ln5 nc5)).setCell ⟨R, 3, none⟩ (.slice ia5 li5 ic5)).alloc (.cells #[.int .i64 k6, .slice sa6 ls6 sc6, .slice na6 ln6 nc6, .slice ia6 li6 ic6] 26)).heap.size ∧ ArrOn (fun g => g < B ∨ S0 ≤ g) (((((w6.setCell ⟨R, 0, none⟩ (.int .i64 k5)).setCell ⟨R, 1, none⟩ (.slice sa5 ls5 sc5)).setCell ⟨R, 2, none⟩ (.slice na5 ln5 nc5)).setCell ⟨R, 3, none⟩ (.slice ia5 li5 ic5)).alloc (.cells #[.int .i64 k6, .slice sa6 ls6 sc6, .slice na6 ln6 nc6, .slice ia6 li6 ic6] 26)) (.agg #[.int .i64 k5', .slice sa5' ls5' sc5', .slice na5' ln5' nc5', .slice ia5' li5' ic5']) x0 ∧ ArrOn (fun g => (B ≤ g ∧ g < S0) ∧ Thaw (((((w6.setCell ⟨R, 0, none⟩ (.int .i64 k5)).setCell ⟨R, 1, none⟩ (.slice sa5 ls5 sc5)).setCell ⟨R, 2, none⟩ (.slice na5 ln5 nc5)).setCell ⟨R, 3, none⟩ (.slice ia5 li5 ic5)).alloc (.cells #[.int .i64 k6, .slice sa6 ls6 sc6, .slice na6 ln6 nc6, .slice ia6 li6 ic6] 26)) g) (((((w6.setCell ⟨R, 0, none⟩ (.int .i64 k5)).setCell ⟨R, 1, none⟩ (.slice sa5 ls5 sc5)).setCell ⟨R, 2, none⟩ (.slice na5 ln5 nc5)).setCell ⟨R, 3, none⟩ (.slice ia5 li5 ic5)).alloc (.cells #[.int .i64 k6, .slice sa6 ls6 sc6, .slice na6 ln6 nc6, .slice ia6 li6 ic6] 26)) (.agg #[.int .i64 k6', .slice sa6' ls6' sc6', .slice na6' ln6' nc6', .slice ia6' li6' ic6']) x0 ∧ Below w2.heap.size w2 (((((w6.setCell ⟨R, 0, none⟩ (.int .i64 k5)).setCell ⟨R, 1, none⟩ (.slice sa5 ls5 sc5)).setCell ⟨R, 2, none⟩ (.slice na5 ln5 nc5)).setCell ⟨R, 3, none⟩ (.slice ia5 li5 ic5)).alloc (.cells #[.int .i64 k6, .slice sa6 ls6 sc6, .slice na6 ln6 nc6, .slice ia6 li6 ic6] 26)) := by
  obtain ⟨p1, p2⟩ := set4 q (.int .i64 k5) (.slice sa5 ls5 sc5) (.slice na5 ln5 nc5) (.slice ia5 li5 ic5)
  have hs := set4_size w6 R (.int .i64 k5) (.slice sa5 ls5 sc5) (.slice na5 ln5 nc5) (.slice ia5 li5 ic5)
  have hb4 := set4_below (w := w6) hR (.int .i64 k5) (.slice sa5 ls5 sc5) (.slice na5 ln5 nc5) (.slice ia5 li5 ic5)
  generalize ((((w6.setCell ⟨R, 0, none⟩ (.int .i64 k5)).setCell ⟨R, 1, none⟩ (.slice sa5 ls5 sc5)).setCell ⟨R, 2, none⟩ (.slice na5 ln5 nc5)).setCell ⟨R, 3, none⟩ (.slice ia5 li5 ic5)) = V at p1 p2 hs hb4 ⊢
  have q6 := Quad.new V (.int .i64 k6) (.slice sa6 ls6 sc6) (.slice na6 ln6 nc6) (.slice ia6 li6 ic6)
  rw [hs] at q6
  refine eqEnd h5 b5 ha hb h6 b6 (p1.below (below_new _ _)) q6 (Below.then (E6.trans hb4) (below_new _ _)) (fun g h n5 _ => ?_) (by rw [alloc_size]; omega) (d5.elim Or.inl fun h => Or.inr (Or.inl h)) (Or.inr (Or.inr (Nat.le_refl _)))
  rw [alloc_keep _ _ (by omega), p2 g n5]
theorem endSB {w2 wa w5 wb w6 : World} {x0 : Arr} {R : Nat} {z0 z1 z2 z3 : Value} {k5 : Int} {sa5 na5 ia5 : Option Addr} {ls5 sc5 ln5 nc5 li5 ic5 : Nat} {k6 : Int} {sa6 na6 ia6 : Option Addr} {ls6 sc6 ln6 nc6 li6 ic6 : Nat}
    (h5 : ArrOn (fun g => wa.heap.size ≤ g) w5 (.agg #[.int .i64 k5, .slice sa5 ls5 sc5, .slice na5 ln5 nc5, .slice ia5 li5 ic5]) x0) (b5 : Below wa.heap.size wa w5) (ha : w2.heap.size ≤ wa.heap.size) (hb : Below w5.heap.size w5 wb) (h6 : ArrOn (Own wb w6) w6 (.agg #[.int .i64 k6, .slice sa6 ls6 sc6, .slice na6 ln6 nc6, .slice ia6 li6 ic6]) x0) (b6 : Below wb.heap.size wb w6) (E6 : Below w2.heap.size w2 w6) (q : Quad w6 R z0 z1 z2 z3) (hR : w2.heap.size ≤ R) (d6 : R < wa.heap.size ∨ (w5.heap.size ≤ R ∧ R < wb.heap.size)) : ∃ (X5' X6' B S0 : Nat) (k5' : Int) (sa5' : Option Addr) (ls5' sc5' : Nat) (na5' : Option Addr) (ln5' nc5' : Nat) (ia5' : Option Addr) (li5' ic5' : Nat) (k6' : Int) (sa6' : Option Addr) (ls6' sc6' : Nat) (na6' : Option Addr) (ln6' nc6' : Nat) (ia6' : Option Addr) (li6' ic6' : Nat), Value.pointer (some ⟨w6.heap.size, 0, none⟩) = .pointer (some ⟨X5', 0, none⟩) ∧ Value.pointer (some ⟨R, 0, none⟩) = .pointer (some ⟨X6', 0, none⟩) ∧ Quad (((((w6.setCell ⟨R, 0, none⟩ (.int .i64 k6)).setCell ⟨R, 1, none⟩ (.slice sa6 ls6 sc6)).setCell ⟨R, 2, none⟩ (.slice na6 ln6 nc6)).setCell ⟨R, 3, none⟩ (.slice ia6 li6 ic6)).alloc (.cells #[.int .i64 k5, .slice sa5 ls5 sc5, .slice na5 ln5 nc5, .slice ia5 li5 ic5] 26)) X5' (.int .i64 k5') (.slice sa5' ls5' sc5') (.slice na5' ln5' nc5') (.slice ia5' li5' ic5') ∧ Quad (((((w6.setCell ⟨R, 0, none⟩ (.int .i64 k6)).setCell ⟨R, 1, none⟩ (.slice sa6 ls6 sc6)).setCell ⟨R, 2, none⟩ (.slice na6 ln6 nc6)).setCell ⟨R, 3, none⟩ (.slice ia6 li6 ic6)).alloc (.cells #[.int .i64 k5, .slice sa5 ls5 sc5, .slice na5 ln5 nc5, .slice ia5 li5 ic5] 26)) X6' (.int .i64 k6') (.slice sa6' ls6' sc6') (.slice na6' ln6' nc6') (.slice ia6' li6' ic6') ∧ (X5' < B ∨ S0 ≤ X5') ∧ (X6' < B ∨ S0 ≤ X6') ∧ (w2.heap.size ≤ B ∧ B ≤ S0) ∧ S0 ≤ (((((w6.setCell ⟨R, 0, none⟩ (.int .i64 k6)).setCell ⟨R, 1, none⟩ (.slice sa6 ls6 sc6)).setCell ⟨R, 2, none⟩ (.slice na6 ln6 nc6)).setCell ⟨R, 3, none⟩ (.slice ia6 li6 ic6)).alloc (.cells #[.int .i64 k5, .slice sa5 ls5 sc5, .slice na5 ln5 nc5, .slice ia5 li5 ic5] 26)).heap.size ∧ ArrOn (fun g => g < B ∨ S0 ≤ g) (((((w6.setCell ⟨R, 0, none⟩ (.int .i64 k6)).setCell ⟨R, 1, none⟩ (.slice sa6 ls6 sc6)).setCell ⟨R, 2, none⟩ (.slice na6 ln6 nc6)).setCell ⟨R, 3, none⟩ (.slice ia6 li6 ic6)).alloc (.cells #[.int .i64 k5, .slice sa5 ls5 sc5, .slice na5 ln5 nc5, .slice ia5 li5 ic5] 26)) (.agg #[.int .i64 k5', .slice sa5' ls5' sc5', .slice na5' ln5' nc5', .slice ia5' li5' ic5']) x0 ∧ ArrOn (fun g => (B ≤ g ∧ g < S0) ∧ Thaw (((((w6.setCell ⟨R, 0, none⟩ (.int .i64 k6)).setCell ⟨R, 1, none⟩ (.slice sa6 ls6 sc6)).setCell ⟨R, 2, none⟩ (.slice na6 ln6 nc6)).setCell ⟨R, 3, none⟩ (.slice ia6 li6 ic6)).alloc (.cells #[.int .i64 k5, .slice sa5 ls5 sc5, .slice na5 ln5 nc5, .slice ia5 li5 ic5] 26)) g) (((((w6.setCell ⟨R, 0, none⟩ (.int .i64 k6)).setCell ⟨R, 1, none⟩ (.slice sa6 ls6 sc6)).setCell ⟨R, 2, none⟩ (.slice na6 ln6 nc6)).setCell ⟨R, 3, none⟩ (.slice ia6 li6 ic6)).alloc (.cells #[.int .i64 k5, .slice sa5 ls5 sc5, .slice na5 ln5 nc5, .slice ia5 li5 ic5] 26)) (.agg #[.int .i64 k6', .slice sa6' ls6' sc6', .slice na6' ln6' nc6', .slice ia6' li6' ic6']) x0 ∧ Below w2.heap.size w2 (((((w6.setCell ⟨R, 0, none⟩ (.int .i64 k6)).setCell ⟨R, 1, none⟩ (.slice sa6 ls6 sc6)).setCell ⟨R, 2, none⟩ (.slice na6 ln6 nc6)).setCell ⟨R, 3, none⟩ (.slice ia6 li6 ic6)).alloc (.cells #[.int .i64 k5, .slice sa5 ls5 sc5, .slice na5 ln5 nc5, .slice ia5 li5 ic5] 26)) := by
  obtain ⟨p1, p2⟩ := set4 q (.int .i64 k6) (.slice sa6 ls6 sc6) (.slice na6 ln6 nc6) (.slice ia6 li6 ic6)
  have hs := set4_size w6 R (.int .i64 k6) (.slice sa6 ls6 sc6) (.slice na6 ln6 nc6) (.slice ia6 li6 ic6)
  have hb4 := set4_below (w := w6) hR (.int .i64 k6) (.slice sa6 ls6 sc6) (.slice na6 ln6 nc6) (.slice ia6 li6 ic6)
  generalize ((((w6.setCell ⟨R, 0, none⟩ (.int .i64 k6)).setCell ⟨R, 1, none⟩ (.slice sa6 ls6 sc6)).setCell ⟨R, 2, none⟩ (.slice na6 ln6 nc6)).setCell ⟨R, 3, none⟩ (.slice ia6 li6 ic6)) = V at p1 p2 hs hb4 ⊢
  have q5 := Quad.new V (.int .i64 k5) (.slice sa5 ls5 sc5) (.slice na5 ln5 nc5) (.slice ia5 li5 ic5)
  rw [hs] at q5
  refine eqEnd h5 b5 ha hb h6 b6 q5 (p1.below (below_new _ _)) (Below.then (E6.trans hb4) (below_new _ _)) (fun g h _ n6 => ?_) (by rw [alloc_size]; omega) (Or.inr (Or.inr (Nat.le_refl _))) (d6.elim Or.inl fun h => Or.inr (Or.inl h))
  rw [alloc_keep _ _ (by omega), p2 g n6]
theorem endSS {w2 wa w5 wb w6 : World} {x0 : Arr} {R R' : Nat} {z0 z1 z2 z3 y0 y1 y2 y3 : Value} {k5 : Int} {sa5 na5 ia5 : Option Addr} {ls5 sc5 ln5 nc5 li5 ic5 : Nat} {k6 : Int} {sa6 na6 ia6 : Option Addr} {ls6 sc6 ln6 nc6 li6 ic6 : Nat}
    (h5 : ArrOn (fun g => wa.heap.size ≤ g) w5 (.agg #[.int .i64 k5, .slice sa5 ls5 sc5, .slice na5 ln5 nc5, .slice ia5 li5 ic5]) x0) (b5 : Below wa.heap.size wa w5) (ha : w2.heap.size ≤ wa.heap.size) (hb : Below w5.heap.size w5 wb) (h6 : ArrOn (Own wb w6) w6 (.agg #[.int .i64 k6, .slice sa6 ls6 sc6, .slice na6 ln6 nc6, .slice ia6 li6 ic6]) x0) (b6 : Below wb.heap.size wb w6) (E6 : Below w2.heap.size w2 w6) (q : Quad w6 R z0 z1 z2 z3) (q' : Quad w6 R' y0 y1 y2 y3) (hR : w2.heap.size ≤ R) (hR' : w2.heap.size ≤ R') (hne : R ≠ R') (d5 : R < wa.heap.size ∨ (w5.heap.size ≤ R ∧ R < wb.heap.size)) (d6 : R' < wa.heap.size ∨ (w5.heap.size ≤ R' ∧ R' < wb.heap.size)) : ∃ (X5' X6' B S0 : Nat) (k5' : Int) (sa5' : Option Addr) (ls5' sc5' : Nat) (na5' : Option Addr) (ln5' nc5' : Nat) (ia5' : Option Addr) (li5' ic5' : Nat) (k6' : Int) (sa6' : Option Addr) (ls6' sc6' : Nat) (na6' : Option Addr) (ln6' nc6' : Nat) (ia6' : Option Addr) (li6' ic6' : Nat), Value.pointer (some ⟨R, 0, none⟩) = .pointer (some ⟨X5', 0, none⟩) ∧ Value.pointer (some ⟨R', 0, none⟩) = .pointer (some ⟨X6', 0, none⟩) ∧ Quad (((((((((w6.setCell ⟨R, 0, none⟩ (.int .i64 k5)).setCell ⟨R, 1, none⟩ (.slice sa5 ls5 sc5)).setCell ⟨R, 2, none⟩ (.slice na5 ln5 nc5)).setCell ⟨R, 3, none⟩ (.slice ia5 li5 ic5)).setCell ⟨R', 0, none⟩ (.int .i64 k6)).setCell ⟨R', 1, none⟩ (.slice sa6 ls6 sc6)).setCell ⟨R', 2, none⟩ (.slice na6 ln6 nc6)).setCell ⟨R', 3, none⟩ (.slice ia6 li6 ic6))) X5' (.int .i64 k5') (.slice sa5' ls5' sc5') (.slice na5' ln5' nc5') (.slice ia5' li5' ic5') ∧ Quad (((((((((w6.setCell ⟨R, 0, none⟩ (.int .i64 k5)).setCell ⟨R, 1, none⟩ (.slice sa5 ls5 sc5)).setCell ⟨R, 2, none⟩ (.slice na5 ln5 nc5)).setCell ⟨R, 3, none⟩ (.slice ia5 li5 ic5)).setCell ⟨R', 0, none⟩ (.int .i64 k6)).setCell ⟨R', 1, none⟩ (.slice sa6 ls6 sc6)).setCell ⟨R', 2, none⟩ (.slice na6 ln6 nc6)).setCell ⟨R', 3, none⟩ (.slice ia6 li6 ic6))) X6' (.int .i64 k6') (.slice sa6' ls6' sc6') (.slice na6' ln6' nc6') (.slice ia6' li6' ic6') ∧ (X5' < B ∨ S0 ≤ X5') ∧ (X6' < B ∨ S0 ≤ X6') ∧ (w2.heap.size ≤ B ∧ B ≤ S0) ∧ S0 ≤ (((((((((w6.setCell ⟨R, 0, none⟩ (.int .i64 k5)).setCell ⟨R, 1, none⟩ (.slice sa5 ls5 sc5)).setCell ⟨R, 2, none⟩ (.slice na5 ln5 nc5)).setCell ⟨R, 3, none⟩ (.slice ia5 li5 ic5)).setCell ⟨R', 0, none⟩ (.int .i64 k6)).setCell ⟨R', 1, none⟩ (.slice sa6 ls6 sc6)).setCell ⟨R', 2, none⟩ (.slice na6 ln6 nc6)).setCell ⟨R', 3, none⟩ (.slice ia6 li6 ic6))).heap.size ∧ ArrOn (fun g => g < B ∨ S0 ≤ g) (((((((((w6.setCell ⟨R, 0, none⟩ (.int .i64 k5)).setCell ⟨R, 1, none⟩ (.slice sa5 ls5 sc5)).setCell ⟨R, 2, none⟩ (.slice na5 ln5 nc5)).setCell ⟨R, 3, none⟩ (.slice ia5 li5 ic5)).setCell ⟨R', 0, none⟩ (.int .i64 k6)).setCell ⟨R', 1, none⟩ (.slice sa6 ls6 sc6)).setCell ⟨R', 2, none⟩ (.slice na6 ln6 nc6)).setCell ⟨R', 3, none⟩ (.slice ia6 li6 ic6))) (.agg #[.int .i64 k5', .slice sa5' ls5' sc5', .slice na5' ln5' nc5', .slice ia5' li5' ic5']) x0 ∧ ArrOn (fun g => (B ≤ g ∧ g < S0) ∧ Thaw (((((((((w6.setCell ⟨R, 0, none⟩ (.int .i64 k5)).setCell ⟨R, 1, none⟩ (.slice sa5 ls5 sc5)).setCell ⟨R, 2, none⟩ (.slice na5 ln5 nc5)).setCell ⟨R, 3, none⟩ (.slice ia5 li5 ic5)).setCell ⟨R', 0, none⟩ (.int .i64 k6)).setCell ⟨R', 1, none⟩ (.slice sa6 ls6 sc6)).setCell ⟨R', 2, none⟩ (.slice na6 ln6 nc6)).setCell ⟨R', 3, none⟩ (.slice ia6 li6 ic6))) g) (((((((((w6.setCell ⟨R, 0, none⟩ (.int .i64 k5)).setCell ⟨R, 1, none⟩ (.slice sa5 ls5 sc5)).setCell ⟨R, 2, none⟩ (.slice na5 ln5 nc5)).setCell ⟨R, 3, none⟩ (.slice ia5 li5 ic5)).setCell ⟨R', 0, none⟩ (.int .i64 k6)).setCell ⟨R', 1, none⟩ (.slice sa6 ls6 sc6)).setCell ⟨R', 2, none⟩ (.slice na6 ln6 nc6)).setCell ⟨R', 3, none⟩ (.slice ia6 li6 ic6))) (.agg #[.int .i64 k6', .slice sa6' ls6' sc6', .slice na6' ln6' nc6', .slice ia6' li6' ic6']) x0 ∧ Below w2.heap.size w2 (((((((((w6.setCell ⟨R, 0, none⟩ (.int .i64 k5)).setCell ⟨R, 1, none⟩ (.slice sa5 ls5 sc5)).setCell ⟨R, 2, none⟩ (.slice na5 ln5 nc5)).setCell ⟨R, 3, none⟩ (.slice ia5 li5 ic5)).setCell ⟨R', 0, none⟩ (.int .i64 k6)).setCell ⟨R', 1, none⟩ (.slice sa6 ls6 sc6)).setCell ⟨R', 2, none⟩ (.slice na6 ln6 nc6)).setCell ⟨R', 3, none⟩ (.slice ia6 li6 ic6))) := by
  obtain ⟨p1, p2⟩ := set4 q (.int .i64 k5) (.slice sa5 ls5 sc5) (.slice na5 ln5 nc5) (.slice ia5 li5 ic5)
  have hs := set4_size w6 R (.int .i64 k5) (.slice sa5 ls5 sc5) (.slice na5 ln5 nc5) (.slice ia5 li5 ic5)
  have hb4 := set4_below (w := w6) hR (.int .i64 k5) (.slice sa5 ls5 sc5) (.slice na5 ln5 nc5) (.slice ia5 li5 ic5)
  generalize ((((w6.setCell ⟨R, 0, none⟩ (.int .i64 k5)).setCell ⟨R, 1, none⟩ (.slice sa5 ls5 sc5)).setCell ⟨R, 2, none⟩ (.slice na5 ln5 nc5)).setCell ⟨R, 3, none⟩ (.slice ia5 li5 ic5)) = V at p1 p2 hs hb4 ⊢
  have q2 := q'.keep (p2 R' (Ne.symm hne))
  obtain ⟨p3, p4⟩ := set4 q2 (.int .i64 k6) (.slice sa6 ls6 sc6) (.slice na6 ln6 nc6) (.slice ia6 li6 ic6)
  have hs2 := set4_size V R' (.int .i64 k6) (.slice sa6 ls6 sc6) (.slice na6 ln6 nc6) (.slice ia6 li6 ic6)
  have hb5 := set4_below (w := V) hR' (.int .i64 k6) (.slice sa6 ls6 sc6) (.slice na6 ln6 nc6) (.slice ia6 li6 ic6)
  generalize ((((V.setCell ⟨R', 0, none⟩ (.int .i64 k6)).setCell ⟨R', 1, none⟩ (.slice sa6 ls6 sc6)).setCell ⟨R', 2, none⟩ (.slice na6 ln6 nc6)).setCell ⟨R', 3, none⟩ (.slice ia6 li6 ic6)) = V2 at p3 p4 hs2 hb5 ⊢
  refine eqEnd h5 b5 ha hb h6 b6 (p1.keep (p4 R hne)) p3 ((E6.trans hb4).trans hb5) (fun g h n5 n6 => ?_) (by omega) (d5.elim Or.inl fun h => Or.inr (Or.inl h)) (d6.elim Or.inl fun h => Or.inr (Or.inl h))
  rw [p4 g n6, p2 g n5]
/-- Behind the law's own helper: the first copy and the block that holds it are as they were. -/
theorem eqTail {w2 wc wd we : World} {x0 : Arr} {X5 B S0 : Nat} {k5 : Int} {sa5 na5 ia5 : Option Addr} {ls5 sc5 ln5 nc5 li5 ic5 : Nat} (BX : Below w2.heap.size w2 wc) (E : Below wc.heap.size wc wd) (U : Upd (fun g => (B ≤ g ∧ g < S0) ∧ Thaw wc g) B wd we) (q5 : Quad wc X5 (.int .i64 k5) (.slice sa5 ls5 sc5) (.slice na5 ln5 nc5) (.slice ia5 li5 ic5)) (d5 : X5 < B ∨ S0 ≤ X5)
    (h5 : ArrOn (fun g => g < B ∨ S0 ≤ g) wc (.agg #[.int .i64 k5, .slice sa5 ls5 sc5, .slice na5 ln5 nc5, .slice ia5 li5 ic5]) x0) (hB : w2.heap.size ≤ B) : Quad we X5 (.int .i64 k5) (.slice sa5 ls5 sc5) (.slice na5 ln5 nc5) (.slice ia5 li5 ic5) ∧ ArrAt we (.agg #[.int .i64 k5, .slice sa5 ls5 sc5, .slice na5 ln5 nc5, .slice ia5 li5 ic5]) x0 ∧ Below w2.heap.size w2 we := by
  have sE := E.size
  refine ⟨(q5.below E).keep (U.blk _ (fun h => by omega) (q5.below E).lt), (h5.keep (R := fun _ => True) fun g hp hg => ⟨trivial, fun o => ?_⟩).at, (Below.then BX E).trans (U.bel.mono hB)⟩
  exact (World.cell?_of_block (U.blk g (fun h => by omega) (by omega))).trans (E.cell hg)
set_option maxRecDepth 100000 in
set_option maxHeartbeats 16000000 in
theorem equalW (v0 : Value) (x0 : Arr) (v1 : Value) (x1 : Arr) (w : World) (hT : Tabs w) (b0 : ArrAt w v0 x0) (s0 : Reach x0) (b1 : ArrAt w v1 x1) (s1 : Reach x1) :
    Calls Tryd.prog 5 #[v0, v1] w fun e w' => e = .returned (.bool true) ∧ Below w.heap.size w w' := by
  obtain ⟨k0, sa0, ls0, sc0, na0, ln0, nc0, ia0, li0, ic0, rfl⟩ : ∃ k sa ls sc na ln nc ia li ic, v0 = .agg #[.int .i64 k, .slice sa ls sc, .slice na ln nc, .slice ia li ic] := by
    have h := b0
    obtain ⟨k, sh, nu, it⟩ := x0
    rw [ArrAt] at h
    obtain ⟨sa, sc, na, nc, ia, ic, rfl, -⟩ := h
    exact ⟨_, _, _, _, _, _, _, _, _, _, rfl⟩
  obtain ⟨k1, sa1, ls1, sc1, na1, ln1, nc1, ia1, li1, ic1, rfl⟩ : ∃ k sa ls sc na ln nc ia li ic, v1 = .agg #[.int .i64 k, .slice sa ls sc, .slice na ln nc, .slice ia li ic] := by
    have h := b1
    obtain ⟨k, sh, nu, it⟩ := x1
    rw [ArrAt] at h
    obtain ⟨sa, sc, na, nc, ia, ic, rfl, -⟩ := h
    exact ⟨_, _, _, _, _, _, _, _, _, _, rfl⟩
  have bw := below2 w (.cells #[.int .i64 k0, .slice sa0 ls0 sc0, .slice na0 ln0 nc0, .slice ia0 li0 ic0] 26) (.cells #[.int .i64 k1, .slice sa1 ls1 sc1, .slice na1 ln1 nc1, .slice ia1 li1 ic1] 26)
  have q0 := (Quad.new w (.int .i64 k0) (.slice sa0 ls0 sc0) (.slice na0 ln0 nc0) (.slice ia0 li0 ic0)).below (below_new _ (.cells #[.int .i64 k1, .slice sa1 ls1 sc1, .slice na1 ln1 nc1, .slice ia1 li1 ic1] 26))
  have q1 : Quad ((w.alloc (.cells #[.int .i64 k0, .slice sa0 ls0 sc0, .slice na0 ln0 nc0, .slice ia0 li0 ic0] 26)).alloc (.cells #[.int .i64 k1, .slice sa1 ls1 sc1, .slice na1 ln1 nc1, .slice ia1 li1 ic1] 26)) (w.heap.size + 1) (.int .i64 k1) (.slice sa1 ls1 sc1) (.slice na1 ln1 nc1) (.slice ia1 li1 ic1) := by simpa using Quad.new (w.alloc (.cells #[.int .i64 k0, .slice sa0 ls0 sc0, .slice na0 ln0 nc0, .slice ia0 li0 ic0] 26)) (.int .i64 k1) (.slice sa1 ls1 sc1) (.slice na1 ln1 nc1) (.slice ia1 li1 ic1)
  have hA := b0.below bw
  have hB := b1.below bw
  obtain ⟨W0, hW⟩ : ∃ W0, W0 = (w.alloc (.cells #[.int .i64 k0, .slice sa0 ls0 sc0, .slice na0 ln0 nc0, .slice ia0 li0 ic0] 26)).alloc (.cells #[.int .i64 k1, .slice sa1 ls1 sc1, .slice na1 ln1 nc1, .slice ia1 li1 ic1] 26) := ⟨_, rfl⟩
  go_enter Tryd.func5, Tryd.ntmps5
  go_wp2_with fail
  go_at_call 11
  refine (smallR _ _ _ hA).mono ?_
  rintro e w1 ⟨ba, rfl, c1⟩
  rw [← hW] at bw q0 q1 hA hB c1
  clear hW
  have B1 : Below w.heap.size w w1 := Below.then bw c1
  have q01 := q0.below c1
  have q11 := q1.below c1
  obtain ⟨p0, p1, p2, p3, -⟩ := q11.cells
  cases ba with
  | false =>
    go_wp2_with (go_at_call 12; refine (exampleL _ (hT.below B1)).mono ?_; rintro e wX ⟨rfl, bX⟩)
    go_ret
    exact ⟨rfl, Below.then B1 bX⟩
  | true =>
    go_wp2_with fail
    go_at_call 11
    refine (smallR _ _ _ (hB.below c1)).mono ?_
    rintro e w2 ⟨bb, rfl, c2⟩
    have B2 : Below w.heap.size w w2 := Below.then B1 c2
    have q0 := q01.below c2
    have q1 := q11.below c2
    have hA := (hA.below c1).below c2
    have hB := (hB.below c1).below c2
    have hz2 : w.heap.size + 1 < w2.heap.size := q1.lt
    clear q01 q11 p0 p1 p2 p3 c1 c2 bw B1
    cases bb with
    | false =>
      go_wp2_with (go_at_call 12; refine (exampleL _ (hT.below B2)).mono ?_; rintro e wX ⟨rfl, bX⟩)
      go_ret
      exact ⟨rfl, Below.then B2 bX⟩
    | true =>
      go_upto_region 3 with fail
      have H0 : ∀ w', Below w2.heap.size w2 w' → (w'.cell? ⟨w.heap.size, 0, none⟩ = some (.int .i64 k0) ∧ w'.cell? ⟨w.heap.size, 1, none⟩ = some (.slice sa0 ls0 sc0) ∧ w'.cell? ⟨w.heap.size, 2, none⟩ = some (.slice na0 ln0 nc0) ∧ w'.cell? ⟨w.heap.size, 3, none⟩ = some (.slice ia0 li0 ic0)) ∧ Below w2.heap.size w2 w' := by
        intro w' hb
        obtain ⟨y0, y1, y2, y3, -⟩ := (q0.below hb).cells
        exact ⟨⟨y0, y1, y2, y3⟩, hb⟩
      go_cut [5, 6] (fun v5 v6 wx => ∃ (X5 X6 B S0 : Nat) (k5 : Int) (sa5 : Option Addr) (ls5 sc5 : Nat) (na5 : Option Addr) (ln5 nc5 : Nat) (ia5 : Option Addr) (li5 ic5 : Nat) (k6 : Int) (sa6 : Option Addr) (ls6 sc6 : Nat) (na6 : Option Addr) (ln6 nc6 : Nat) (ia6 : Option Addr) (li6 ic6 : Nat), v5 = .pointer (some ⟨X5, 0, none⟩) ∧ v6 = .pointer (some ⟨X6, 0, none⟩) ∧ Quad wx X5 (.int .i64 k5) (.slice sa5 ls5 sc5) (.slice na5 ln5 nc5) (.slice ia5 li5 ic5) ∧ Quad wx X6 (.int .i64 k6) (.slice sa6 ls6 sc6) (.slice na6 ln6 nc6) (.slice ia6 li6 ic6) ∧ (X5 < B ∨ S0 ≤ X5) ∧ (X6 < B ∨ S0 ≤ X6) ∧ (w2.heap.size ≤ B ∧ B ≤ S0) ∧ S0 ≤ wx.heap.size ∧ ArrOn (fun g => g < B ∨ S0 ≤ g) wx (.agg #[.int .i64 k5, .slice sa5 ls5 sc5, .slice na5 ln5 nc5, .slice ia5 li5 ic5]) x0 ∧ ArrOn (fun g => (B ≤ g ∧ g < S0) ∧ Thaw wx g) wx (.agg #[.int .i64 k6, .slice sa6 ls6 sc6, .slice na6 ln6 nc6, .slice ia6 li6 ic6]) x0 ∧ Below w2.heap.size w2 wx)
      case first =>
        go_region_held_law (fun w' => (w'.cell? ⟨w.heap.size, 0, none⟩ = some (.int .i64 k0) ∧ w'.cell? ⟨w.heap.size, 1, none⟩ = some (.slice sa0 ls0 sc0) ∧ w'.cell? ⟨w.heap.size, 2, none⟩ = some (.slice na0 ln0 nc0) ∧ w'.cell? ⟨w.heap.size, 3, none⟩ = some (.slice ia0 li0 ic0)) ∧ Below w2.heap.size w2 w')
          (first
            | exact H0 _ (by go_grown)
            | exact H0 _ (Below.setCell (Below.setCell (Below.setCell (Below.setCell (by go_grown) (by first | exact Nat.le_refl _ | assumption | omega) _) (by first | exact Nat.le_refl _ | assumption | omega) _) (by first | exact Nat.le_refl _ | assumption | omega) _) (by first | exact Nat.le_refl _ | assumption | omega) _)
            | exact H0 _ (Below.then (Below.setCell (Below.setCell (Below.setCell (Below.setCell (by go_grown) (by first | exact Nat.le_refl _ | assumption | omega) _) (by first | exact Nat.le_refl _ | assumption | omega) _) (by first | exact Nat.le_refl _ | assumption | omega) _) (by first | exact Nat.le_refl _ | assumption | omega) _) (below_new _ _)))
          (((first
          | (go_simp; (with_reducible refine (cloneR _ _ _ (hA.below (by go_grown)) s0).mono ?_); intro e w5 hN; (obtain ⟨k5, sa5, ls5, sc5, na5, ln5, nc5, ia5, li5, ic5, rfl, hO5, b5⟩ := hN.form); (have E5 : Below w2.heap.size w2 w5 := Below.then (by go_grown) b5); (have S5 := E5.size); (first | (have qA := Quad.below b5 (Quad.drew (Quad.below (below_new _ _) (Quad.new _ _ _ _ _))); have qB := Quad.below b5 (Quad.new _ _ _ _ _); (try simp at qB); obtain ⟨i0, i1, i2, i3, i4, i5, i6, i7⟩ := qA.cells; obtain ⟨j0, j1, j2, j3, j4, j5, j6, j7⟩ := qB.cells) | (have qA := Quad.below b5 (Quad.below (below_new _ _) (Quad.new _ _ _ _ _)); have qB := Quad.below b5 (Quad.new _ _ _ _ _); (try simp at qB); obtain ⟨i0, i1, i2, i3, i4, i5, i6, i7⟩ := qA.cells; obtain ⟨j0, j1, j2, j3, j4, j5, j6, j7⟩ := qB.cells) | (have qA := Quad.below b5 (Quad.new _ _ _ _ _); obtain ⟨i0, i1, i2, i3, i4, i5, i6, i7⟩ := qA.cells; have ltq := qA.lt) | skip))
          | (go_simp; (with_reducible refine (cloneO _ _ _ (hA.below (by go_grown)) s0).mono ?_); rintro e w6 ⟨k6, sa6, ls6, sc6, na6, ln6, nc6, ia6, li6, ic6, rfl, hO6, b6⟩; (have E6 : Below w2.heap.size w2 w6 := Below.then (by go_grown) b6); (have S6 := E6.size); (first | (have rA := Quad.below b6 (Quad.below (below_new _ _) (Quad.new _ _ _ _ _)); have rB := Quad.below b6 (Quad.new _ _ _ _ _); (try simp at rB); obtain ⟨l0, l1, l2, l3, l4, l5, l6, l7⟩ := rA.cells; obtain ⟨n0, n1, n2, n3, n4, n5, n6, n7⟩ := rB.cells) | (have rB := Quad.below b6 (Quad.new _ _ _ _ _); obtain ⟨n0, n1, n2, n3, n4, n5, n6, n7⟩ := rB.cells; (have ltB := rB.lt); first | (have rA := Quad.below b6 (Quad.below (below_new _ _) qA); obtain ⟨l0, l1, l2, l3, l4, l5, l6, l7⟩ := rA.cells) | skip) | (have rA := Quad.below b6 qA; have rB := Quad.below b6 qB; obtain ⟨l0, l1, l2, l3, l4, l5, l6, l7⟩ := rA.cells; obtain ⟨n0, n1, n2, n3, n4, n5, n6, n7⟩ := rB.cells) | (have rA := Quad.below b6 qA; obtain ⟨l0, l1, l2, l3, l4, l5, l6, l7⟩ := rA.cells; (have ltA := rA.lt)) | skip)))))
        all_goals (go_wp2_with fail; go_meet; (have z5 := b5.size); (have z6 := b6.size); (try simp only [drew_size, alloc_size] at z5 z6); first | (with_reducible refine endAA hO5 b5 ?_ ?_ hO6 b6 E6) | (with_reducible refine endBB hO5 b5 ?_ ?_ hO6 b6 E6) | (with_reducible refine endSA hO5 b5 ?_ ?_ hO6 b6 E6 (by assumption) ?_ ?_) | (with_reducible refine endSB hO5 b5 ?_ ?_ hO6 b6 E6 (by assumption) ?_ ?_) | (with_reducible refine endSS hO5 b5 ?_ ?_ hO6 b6 E6 (by assumption) (by assumption) ?_ ?_ ?_ ?_ ?_))
        all_goals first | exact Nat.le_refl _ | exact Below.refl _ _ | omega | (simp only [drew_size, alloc_size]; omega) | go_grown
      case rest =>
        obtain ⟨X5, X6, B, S0, k5, sa5, ls5, sc5, na5, ln5, nc5, ia5, li5, ic5, k6, sa6, ls6, sc6, na6, ln6, nc6, ia6, li6, ic6, rfl, rfl, q5, q6, d5, d6, ⟨hBS, hBB⟩, hS, h5, h6, BX⟩ := hcut
        have qa := q0.below BX
        have qb := q1.below BX
        have hAX := hA.below BX
        have hBX := hB.below BX
        obtain ⟨y, hy⟩ : ∃ y, eqA x0 x1 = y := ⟨_, rfl⟩
        have PS := fun (v v2 : Value) w' g h => sameQ v v2 x0 x1 w' g h
        have RS := fun (v v2 : Value) w' g h => sameR3 v v2 x0 x1 w' g h
        rw [hy] at PS RS
        clear hy
        have HP : Hid (∀ wd, Below wc.heap.size wc wd → Calls Tryd.prog 23 #[.agg #[.int .i64 k6, .slice sa6 ls6 sc6, .slice na6 ln6 nc6, .slice ia6 li6 ic6]] wd fun e we => e = .returned (.tuple #[]) ∧ Quad we X5 (.int .i64 k5) (.slice sa5 ls5 sc5) (.slice na5 ln5 nc5) (.slice ia5 li5 ic5) ∧ ArrAt we (.agg #[.int .i64 k5, .slice sa5 ls5 sc5, .slice na5 ln5 nc5, .slice ia5 li5 ic5]) x0 ∧ Below w2.heap.size w2 we) := by
          intro wd E
          have sE := E.size
          have sX := BX.size
          refine (changed_any (fun g => (B ≤ g ∧ g < S0) ∧ Thaw wc g) B S0 (fun _ h => h.1) (rk x0) _ x0 wd (Nat.le_refl _) (h6.keep fun g hp hg => ⟨hp, fun o => E.cell hg⟩) ?_ (by omega) ?_).mono ?_
          · rintro g ⟨hp, cs, t, hc⟩
            exact ⟨cs, t, (E.block g (by omega)).trans hc⟩
          · omega
          · rintro e we ⟨he, hu⟩
            exact ⟨he, eqTail BX E hu q5 d5 h5 hBS⟩
        have h6a := h6.at
        clear h5 h6 d5 d6 hBS hBB hS q5
        have H4 : ∀ w', Below wc.heap.size wc w' → ((w'.cell? ⟨w.heap.size, 0, none⟩ = some (.int .i64 k0) ∧ w'.cell? ⟨w.heap.size, 1, none⟩ = some (.slice sa0 ls0 sc0) ∧ w'.cell? ⟨w.heap.size, 2, none⟩ = some (.slice na0 ln0 nc0) ∧ w'.cell? ⟨w.heap.size, 3, none⟩ = some (.slice ia0 li0 ic0)) ∧ (w'.cell? ⟨w.heap.size + 1, 0, none⟩ = some (.int .i64 k1) ∧ w'.cell? ⟨w.heap.size + 1, 1, none⟩ = some (.slice sa1 ls1 sc1) ∧ w'.cell? ⟨w.heap.size + 1, 2, none⟩ = some (.slice na1 ln1 nc1) ∧ w'.cell? ⟨w.heap.size + 1, 3, none⟩ = some (.slice ia1 li1 ic1)) ∧ (w'.cell? ⟨X6, 0, none⟩ = some (.int .i64 k6) ∧ w'.cell? ⟨X6, 1, none⟩ = some (.slice sa6 ls6 sc6) ∧ w'.cell? ⟨X6, 2, none⟩ = some (.slice na6 ln6 nc6) ∧ w'.cell? ⟨X6, 3, none⟩ = some (.slice ia6 li6 ic6))) ∧ Below wc.heap.size wc w' := by
          intro w' hb
          obtain ⟨y0, y1, y2, y3, -⟩ := (qa.below hb).cells
          obtain ⟨z0, z1, z2, z3, -⟩ := (qb.below hb).cells
          obtain ⟨t0, t1, t2, t3, -⟩ := (q6.below hb).cells
          exact ⟨⟨⟨y0, y1, y2, y3⟩, ⟨z0, z1, z2, z3⟩, ⟨t0, t1, t2, t3⟩⟩, hb⟩
        go_wp2_with fail
        cases y
        all_goals go_region_held3 (fun w' => ((w'.cell? ⟨w.heap.size, 0, none⟩ = some (.int .i64 k0) ∧ w'.cell? ⟨w.heap.size, 1, none⟩ = some (.slice sa0 ls0 sc0) ∧ w'.cell? ⟨w.heap.size, 2, none⟩ = some (.slice na0 ln0 nc0) ∧ w'.cell? ⟨w.heap.size, 3, none⟩ = some (.slice ia0 li0 ic0)) ∧ (w'.cell? ⟨w.heap.size + 1, 0, none⟩ = some (.int .i64 k1) ∧ w'.cell? ⟨w.heap.size + 1, 1, none⟩ = some (.slice sa1 ls1 sc1) ∧ w'.cell? ⟨w.heap.size + 1, 2, none⟩ = some (.slice na1 ln1 nc1) ∧ w'.cell? ⟨w.heap.size + 1, 3, none⟩ = some (.slice ia1 li1 ic1)) ∧ (w'.cell? ⟨X6, 0, none⟩ = some (.int .i64 k6) ∧ w'.cell? ⟨X6, 1, none⟩ = some (.slice sa6 ls6 sc6) ∧ w'.cell? ⟨X6, 2, none⟩ = some (.slice na6 ln6 nc6) ∧ w'.cell? ⟨X6, 3, none⟩ = some (.slice ia6 li6 ic6))) ∧ Below wc.heap.size wc w')
          (first | exact H4 _ (by go_grown) | go_keep)
          ((first
          | (go_at_call 21; (with_reducible refine (PS _ _ _ (hAX.below (by go_grown)) (hBX.below (by go_grown))).mono ?_); rintro e w7 ⟨rfl, b7⟩; (have E7 : Below wc.heap.size wc w7 := Below.then (by go_grown) b7); (have S7 := E7.size))
          | (go_at_call 22; (with_reducible refine (RS _ _ _ (hAX.below (by go_grown)) (hBX.below (by go_grown))).mono ?_); rintro e w8 ⟨rfl, b8⟩; (have E8 : Below wc.heap.size wc w8 := Below.then (by go_grown) b8); (have S8 := E8.size))
          | (go_at_call 21; (with_reducible refine (samePX (hAX.below (by go_grown)) (h6a.below (by go_grown))).mono ?_); rintro e w9 ⟨rfl, b9⟩; (have E9 : Below wc.heap.size wc w9 := Below.then (by go_grown) b9); (have S9 := E9.size))
          | (go_at_call 22; (with_reducible refine (sameRX (hAX.below (by go_grown)) (h6a.below (by go_grown))).mono ?_); rintro e w10 ⟨rfl, b10⟩; (have E10 : Below wc.heap.size wc w10 := Below.then (by go_grown) b10); (have S10 := E10.size))))
        all_goals have HQ := HP.out w10 E10
        all_goals obtain ⟨y0, y1, y2, y3, -⟩ := (q6.below E10).cells
        all_goals clear HP H4 PS RS
        all_goals go_wp2_with (first
          | (go_at_call 23; refine HQ.mono ?_; rintro e we ⟨rfl, qe, hK, BE⟩; (obtain ⟨t0, t1, t2, t3, -⟩ := qe.cells); (obtain ⟨z0, z1, z2, z3, -⟩ := (q0.below BE).cells))
          | (go_at_call 22; refine (sameRX (hA.below BE) hK).mono ?_; rintro e wf ⟨rfl, bf⟩)
          | (go_at_call 12; refine (exampleL _ (hT.below (Below.then (Below.then B2 BE) bf))).mono ?_; rintro e wg ⟨rfl, bg⟩))
        all_goals go_ret
        all_goals exact ⟨rfl, Below.then (Below.then (Below.then B2 BE) bf) bg⟩
end Go.Proofs.YtphcpolgeceljaaDoor.Shape
