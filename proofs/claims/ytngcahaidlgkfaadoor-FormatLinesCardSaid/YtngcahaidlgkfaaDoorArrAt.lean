/-
  Layer 3: the reference's At.
-/
import Derived.Test.YtngcahaidlgkfaaDoorArrMakers
import Derived.Deep.RegionHeldLaw
namespace Go.Proofs.YtngcahaidlgkfaaDoor.Shape
open Go.RowKit

theorem GiveNew.drew {A : Arr} {w w' : World} {e : Ending} (h : GiveNew A w e w') : GiveNew A w e w'.drew := by
  obtain ⟨c0, c1, c2, c3, he, hc, hO, hb⟩ := h
  exact ⟨c0, c1, c2, c3, he, hc, ArrOn.keep (w := w') (w' := w'.drew) (fun g hp _ => ⟨hp, fun _ => rfl⟩) hO, hb.drew⟩
/-- One array in a block of its own, as the only item. -/
theorem boxed_on {P : Nat → Prop} {w : World} {b ic : Nat} {c0 c1 c2 c3 : Value} {A : Arr} (h : Quad w b c0 c1 c2 c3) (hb : P b) (hA : ArrOn P w (.agg #[c0, c1, c2, c3]) A) (hc : 1 ≤ ic) (hc2 : ic ≤ 1000000) :
    ArrOn P w (.agg #[.int .i64 3, .slice none 0 0, .slice none 0 0, .slice (some ⟨b, 0, none⟩) 1 ic]) (.mk 3 [] [] [A]) := by
  obtain ⟨m0, m1, m2, m3, -⟩ := h.cells
  rw [ArrOn]
  refine ⟨none, 0, none, 0, some ⟨b, 0, none⟩, ic, rfl, by decide, ⟨ints_nil w, fun g => absurd rfl g⟩, ⟨ints_nil w, fun g => absurd rfl g⟩, by simpa using hc, by omega, b, 0, fun _ => ⟨rfl, hb⟩, ?_⟩
  rw [ArrsOn, ArrsOn]
  exact ⟨⟨c0, c1, c2, c3, ⟨m0, m1, m2, m3⟩, hA⟩, trivial⟩
theorem one_on {P : Nat → Prop} {w : World} {b : Nat} {k n : Int} (hk : -9223372036854775808 ≤ k ∧ k ≤ 9223372036854775807) (hn : -9223372036854775808 ≤ n ∧ n ≤ 9223372036854775807) (h : w.cell? ⟨b, 0, none⟩ = some (.int .i64 n)) (hb : P b) :
    ArrOn P w (.agg #[.int .i64 k, .slice none 0 0, .slice (some ⟨b, 0, none⟩) 1 1, .slice none 0 0]) (.mk k [] [n] []) := by
  rw [ArrOn]
  exact ⟨none, 0, some ⟨b, 0, none⟩, 1, none, 0, rfl, hk, ⟨ints_nil w, fun g => absurd rfl g⟩, ⟨ints_one w b 1 n hn h (by decide) (by decide), fun _ ad e => by cases e; exact hb⟩, Nat.le_refl _, by decide, 0, 0, fun g => absurd rfl g, by rw [ArrsOn]; trivial⟩

set_option maxRecDepth 100000 in
set_option maxHeartbeats 2000000 in
/-- Beyond the elements. -/
theorem atR_out (v : Value) (A : Arr) (i : Int) (w : World) (h : ArrAt w v A) (hi : -9223372036854775808 ≤ i ∧ i ≤ 9223372036854775807) (ho : i < 0 ∨ (aSize A : Int) ≤ i) :
    Calls Tryd.prog 41 #[v, .int .i64 i] w (GiveNew zeroA w) := by
  have hA := h
  obtain ⟨k, sa, ls, sc, na, ln, nc, ia, li, ic, rfl⟩ : ∃ k sa ls sc na ln nc ia li ic, v = .agg #[.int .i64 k, .slice sa ls sc, .slice na ln nc, .slice ia li ic] := by
    obtain ⟨k, sh, nu, it⟩ := A
    rw [ArrAt] at h
    obtain ⟨sa, sc, na, nc, ia, ic, rfl, -⟩ := h
    exact ⟨_, _, _, _, _, _, _, _, _, _, rfl⟩
  clear h
  by_cases neg : i < 0
  · go_enter Tryd.func41, Tryd.ntmps41
    go_wp2_with fail
    exact bodyPost_ret (v := .agg #[.int .i64 0, .slice none 0 0, .slice none 0 0, .slice none 0 0]) (by simp [results, Tryd.results41, go_sem]) rfl (GiveNew.mk (zero_on _ _) (below_two _ _ _))
  · have big : (aSize A : Int) ≤ i := by omega
    have bw := below_two w (.cells #[.int .i64 k, .slice sa ls sc, .slice na ln nc, .slice ia li ic] 26) (.cells #[.int .i64 0, .slice none 0 0, .slice none 0 0, .slice none 0 0] 26)
    have hA1 := hA.below bw
    have q2 : Quad ((w.alloc (.cells #[.int .i64 k, .slice sa ls sc, .slice na ln nc, .slice ia li ic] 26)).alloc (.cells #[.int .i64 0, .slice none 0 0, .slice none 0 0, .slice none 0 0] 26)) (w.heap.size + 1) (.int .i64 0) (.slice none 0 0) (.slice none 0 0) (.slice none 0 0) := by
      simpa using Quad.new (w.alloc (.cells #[.int .i64 k, .slice sa ls sc, .slice na ln nc, .slice ia li ic] 26)) (.int .i64 0) (.slice none 0 0) (.slice none 0 0) (.slice none 0 0)
    obtain ⟨x, hx⟩ : ∃ x : Nat, aSize A = x := ⟨_, rfl⟩
    have S := fun v' w' (g : ArrAt w' v' A) => sizeR v' A w' g
    rw [hx] at S big
    clear ho hx hA
    go_enter Tryd.func41, Tryd.ntmps41
    go_wp2_with (go_at_call 26; refine (S _ _ hA1).mono ?_; rintro e w1 ⟨rfl, hb1⟩; (obtain ⟨s0, s1, s2, s3, s4, s5, s6, s7⟩ := (q2.below hb1).cells))
    have q3 := q2.below hb1
    have G := give_set4 (Nat.le_succ w.heap.size) q3 (zero_on _ _) (Below.then bw hb1)
    obtain ⟨QW, -⟩ := set4 q3 (.int .i64 0) (.slice none 0 0) (.slice none 0 0) (.slice none 0 0)
    generalize ((((w1.setCell ⟨w.heap.size + 1, 0, none⟩ (.int .i64 0)).setCell ⟨w.heap.size + 1, 1, none⟩ (.slice none 0 0)).setCell ⟨w.heap.size + 1, 2, none⟩ (.slice none 0 0)).setCell ⟨w.heap.size + 1, 3, none⟩ (.slice none 0 0)) = WW at QW G ⊢
    obtain ⟨z0, z1, z2, z3, -⟩ := QW.cells
    exact bodyPost_ret (v := .agg #[.int .i64 0, .slice none 0 0, .slice none 0 0, .slice none 0 0]) (by simp [results, Tryd.results41, go_sem, z0, z1, z2, z3]) rfl G

set_option maxRecDepth 100000 in
set_option maxHeartbeats 4000000 in
/-- An item. -/
theorem atR_box (v : Value) (sh nu : List Int) (it : List Arr) (j : Nat) (w : World) (h : ArrAt w v (.mk 3 sh nu it)) (hr : ReachL it) (hj : j < it.length) :
    Calls Tryd.prog 41 #[v, .int .i64 j] w (GiveNew (.mk 3 [] [] [it[j]]) w) := by
  have hA := h
  rw [ArrAt] at h
  obtain ⟨sa, sc, na, nc, ia, ic, rfl, hk, hs, hn, h1, h2, b, off, ha, hc⟩ := h
  have bw := below_two w (.cells #[.int .i64 3, .slice sa sh.length sc, .slice na nu.length nc, .slice ia it.length ic] 26) (.cells #[.int .i64 0, .slice none 0 0, .slice none 0 0, .slice none 0 0] 26)
  have hA1 := hA.below bw
  have q1 := (Quad.new w (.int .i64 3) (.slice sa sh.length sc) (.slice na nu.length nc) (.slice ia it.length ic)).below (below_new _ (.cells #[.int .i64 0, .slice none 0 0, .slice none 0 0, .slice none 0 0] 26))
  have q2 : Quad ((w.alloc (.cells #[.int .i64 3, .slice sa sh.length sc, .slice na nu.length nc, .slice ia it.length ic] 26)).alloc (.cells #[.int .i64 0, .slice none 0 0, .slice none 0 0, .slice none 0 0] 26)) (w.heap.size + 1) (.int .i64 0) (.slice none 0 0) (.slice none 0 0) (.slice none 0 0) := by
    simpa using Quad.new (w.alloc (.cells #[.int .i64 3, .slice sa sh.length sc, .slice na nu.length nc, .slice ia it.length ic] 26)) (.int .i64 0) (.slice none 0 0) (.slice none 0 0) (.slice none 0 0)
  have HB : Hid (((w.alloc (.cells #[.int .i64 3, .slice sa sh.length sc, .slice na nu.length nc, .slice ia it.length ic] 26)).alloc (.cells #[.int .i64 0, .slice none 0 0, .slice none 0 0, .slice none 0 0] 26)).heap.size = w.heap.size + 2) := by unfold Hid; simp
  have S := fun v' w' (g : ArrAt w' v' (.mk 3 sh nu it)) => sizeR v' _ w' g
  rw [show aSize (.mk 3 sh nu it) = it.length by simp [aSize, Arr.kind, Arr.items]] at S
  have hix := items_at (ic := ic) rfl ha hj
  go_enter Tryd.func41, Tryd.ntmps41
  go_wp2_with (first
    | (go_at_call 26; refine (S _ _ hA1).mono ?_; rintro e w1 ⟨rfl, hb1⟩; (obtain ⟨p0, p1, p2, p3, -⟩ := (q1.below hb1).cells); (obtain ⟨c0, c1, c2, c3, ⟨g0, g1, g2, g3⟩, hB⟩ := (ArrsAt.below (Below.then bw hb1) hc).at hj))
    | (go_at_call 61; refine (cloneR _ _ _ hB (hr.at hj)).mono ?_; intro e w2 hN; (obtain ⟨k', sa', ls', sc', na', ln', nc', ia', li', ic', rfl, hO, hb2⟩ := hN.form); (have q4 := ((q2.below hb1).below hb2).below (below_new w2 (.cells #[.int .i64 k', .slice sa' ls' sc', .slice na' ln' nc', .slice ia' li' ic'] 26))); (obtain ⟨s0, s1, s2, s3, s4, s5, s6, s7⟩ := q4.cells)))
  have hb := HB.out
  have l1 := hb1.size
  have l2 := hb2.size
  have bn := below_new w2 (.cells #[.int .i64 k', .slice sa' ls' sc', .slice na' ln' nc', .slice ia' li' ic'] 26)
  have hO2 := (hO.below bn).mono (R := fun g => w.heap.size + 1 < g) fun g hg => by omega
  have hX := boxed_on (ic := 1) (Quad.new w2 (.int .i64 k') (.slice sa' ls' sc') (.slice na' ln' nc') (.slice ia' li' ic')) (by omega) hO2 (by decide) (by decide)
  have G := give_set4 (Nat.le_succ w.heap.size) q4 hX (Below.then (Below.then (Below.then bw hb1) hb2) bn)
  obtain ⟨QW, -⟩ := set4 q4 (.int .i64 3) (.slice none 0 0) (.slice none 0 0) (.slice (some ⟨w2.heap.size, 0, none⟩) 1 1)
  generalize (((((w2.alloc (.cells #[.int .i64 k', .slice sa' ls' sc', .slice na' ln' nc', .slice ia' li' ic'] 26)).setCell ⟨w.heap.size + 1, 0, none⟩ (.int .i64 3)).setCell ⟨w.heap.size + 1, 1, none⟩ (.slice none 0 0)).setCell ⟨w.heap.size + 1, 2, none⟩ (.slice none 0 0)).setCell ⟨w.heap.size + 1, 3, none⟩ (.slice (some ⟨w2.heap.size, 0, none⟩) 1 1)) = WW at QW G ⊢
  obtain ⟨z0, z1, z2, z3, -⟩ := QW.cells
  exact bodyPost_ret (v := .agg #[.int .i64 3, .slice none 0 0, .slice none 0 0, .slice (some ⟨w2.heap.size, 0, none⟩) 1 1]) (by simp [results, Tryd.results41, go_sem, z0, z1, z2, z3]) rfl G
set_option maxRecDepth 100000 in
set_option maxHeartbeats 4000000 in
/-- A number. -/
theorem atR_num (v : Value) (k : Int) (sh nu : List Int) (it : List Arr) (j : Nat) (w : World) (h : ArrAt w v (.mk k sh nu it)) (hk : k = 1 ∨ k = 2) (hj : j < nu.length) :
    Calls Tryd.prog 41 #[v, .int .i64 j] w (GiveNew (.mk k [] [nu[j]] []) w) := by
  have hA := h
  rw [ArrAt] at h
  obtain ⟨sa, sc, na, nc, ia, ic, rfl, hkb, hs, hn, h1, h2, b, off, ha, hc⟩ := h
  have bw := below_two w (.cells #[.int .i64 k, .slice sa sh.length sc, .slice na nu.length nc, .slice ia it.length ic] 26) (.cells #[.int .i64 0, .slice none 0 0, .slice none 0 0, .slice none 0 0] 26)
  have hA1 := hA.below bw
  have q1 := (Quad.new w (.int .i64 k) (.slice sa sh.length sc) (.slice na nu.length nc) (.slice ia it.length ic)).below (below_new _ (.cells #[.int .i64 0, .slice none 0 0, .slice none 0 0, .slice none 0 0] 26))
  have q2 : Quad ((w.alloc (.cells #[.int .i64 k, .slice sa sh.length sc, .slice na nu.length nc, .slice ia it.length ic] 26)).alloc (.cells #[.int .i64 0, .slice none 0 0, .slice none 0 0, .slice none 0 0] 26)) (w.heap.size + 1) (.int .i64 0) (.slice none 0 0) (.slice none 0 0) (.slice none 0 0) := by
    simpa using Quad.new (w.alloc (.cells #[.int .i64 k, .slice sa sh.length sc, .slice na nu.length nc, .slice ia it.length ic] 26)) (.int .i64 0) (.slice none 0 0) (.slice none 0 0) (.slice none 0 0)
  have HB : Hid (((w.alloc (.cells #[.int .i64 k, .slice sa sh.length sc, .slice na nu.length nc, .slice ia it.length ic] 26)).alloc (.cells #[.int .i64 0, .slice none 0 0, .slice none 0 0, .slice none 0 0] 26)).heap.size = w.heap.size + 2) := by unfold Hid; simp
  have S := fun v' w' (g : ArrAt w' v' (.mk k sh nu it)) => sizeR v' _ w' g
  rw [show aSize (.mk k sh nu it) = nu.length by rcases hk with rfl | rfl <;> simp [aSize, Arr.kind, Arr.nums]] at S
  have hnl := hn.len
  have hxb := hn.bd hj
  have e3 : (k == 3) = false := by rcases hk with rfl | rfl <;> rfl
  clear hk
  obtain ⟨y, hy⟩ : ∃ y, nu[j] = y := ⟨_, rfl⟩
  obtain ⟨nb, no, hix, hcell⟩ := hn.at hj
  rw [hy] at hcell hxb
  have HY : Hid (nu[j] = y) := hy
  clear hy
  go_enter Tryd.func41, Tryd.ntmps41
  go_wp2_with (first
    | (go_at_call 26; refine (S _ _ hA1).mono ?_; rintro e w1 ⟨rfl, hb1⟩; (obtain ⟨p0, p1, p2, p3, -⟩ := (q1.below hb1).cells); (have hcell1 : w1.cell? ⟨nb, no + j, none⟩ = some (.int .i64 y) := ((Below.then bw hb1).cell (cell_lt hcell)).trans hcell); (obtain ⟨s0, s1, s2, s3, s4, s5, s6, s7⟩ := (q2.below hb1).cells)))
  have bn := below_new w1 (.cells #[.int .i64 y] 3)
  have q4 := (q2.below hb1).below bn
  obtain ⟨s10, s11, s12, s13, s14, s15, s16, s17⟩ := q4.cells
  obtain ⟨p10, p11, p12, p13, -⟩ := ((q1.below hb1).below bn).cells
  go_region
  all_goals go_wp2_with fail
  have hb := HB.out
  have l1 := hb1.size
  have hX : ArrOn (fun g => w.heap.size + 1 < g) (w1.alloc (.cells #[.int .i64 y] 3)) (.agg #[.int .i64 k, .slice none 0 0, .slice (some ⟨w1.heap.size, 0, none⟩) 1 1, .slice none 0 0]) (.mk k [] [y] []) :=
    one_on hkb hxb (by rw [World.cell?_alloc_at _ _ _ _ rfl]; rfl) (by omega)
  have G := give_set4 (Nat.le_succ w.heap.size) q4 hX (Below.then (Below.then bw hb1) bn)
  obtain ⟨QW, -⟩ := set4 q4 (.int .i64 k) (.slice none 0 0) (.slice (some ⟨w1.heap.size, 0, none⟩) 1 1) (.slice none 0 0)
  generalize (((((w1.alloc (.cells #[.int .i64 y] 3)).setCell ⟨w.heap.size + 1, 0, none⟩ (.int .i64 k)).setCell ⟨w.heap.size + 1, 1, none⟩ (.slice none 0 0)).setCell ⟨w.heap.size + 1, 2, none⟩ (.slice (some ⟨w1.heap.size, 0, none⟩) 1 1)).setCell ⟨w.heap.size + 1, 3, none⟩ (.slice none 0 0)) = WW at QW G ⊢
  obtain ⟨z0, z1, z2, z3, -⟩ := QW.cells
  rw [HY.out]
  exact bodyPost_ret (v := .agg #[.int .i64 k, .slice none 0 0, .slice (some ⟨w1.heap.size, 0, none⟩) 1 1, .slice none 0 0]) (by simp [results, Tryd.results41, go_sem, z0, z1, z2, z3]) rfl G.drew

/-- The element of an array, as a scalar. -/
def atA (A : Arr) (i : Int) : Arr := if i < 0 ∨ (aSize A : Int) ≤ i then zeroA else if A.kind = 3 then .mk 3 [] [] [A.items.getD i.toNat zeroA] else .mk A.kind [] [A.nums.getD i.toNat 0] []
theorem atR (v : Value) (A : Arr) (i : Int) (w : World) (h : ArrAt w v A) (hr : Reach A) (hi : -9223372036854775808 ≤ i ∧ i ≤ 9223372036854775807) : Calls Tryd.prog 41 #[v, .int .i64 i] w (GiveNew (atA A i) w) := by
  by_cases ho : i < 0 ∨ (aSize A : Int) ≤ i
  · rw [atA, if_pos ho]
    exact atR_out v A i w h hi ho
  · rw [atA, if_neg ho]
    obtain ⟨j, rfl⟩ : ∃ j : Nat, i = j := ⟨i.toNat, by omega⟩
    obtain ⟨k, sh, nu, it⟩ := A
    rw [Reach] at hr
    by_cases k3 : k = 3
    · subst k3
      have hj : j < it.length := by simp [aSize, Arr.kind, Arr.items] at ho; omega
      rw [if_pos (show (Arr.mk 3 sh nu it).kind = 3 from rfl)]
      have := atR_box v sh nu it j w h hr.2.2.2 hj
      simpa [Arr.items, hj] using this
    · by_cases k1 : k = 1 ∨ k = 2
      · have hj : j < nu.length := by rcases k1 with rfl | rfl <;> (simp [aSize, Arr.kind, Arr.nums] at ho; omega)
        rw [if_neg (show ¬ (Arr.mk k sh nu it).kind = 3 from k3)]
        have := atR_num v k sh nu it j w h k1 hj
        simpa [Arr.nums, Arr.kind, hj] using this
      · have hz : aSize (.mk k sh nu it) = 0 := by simp [aSize, Arr.kind, k1, k3]
        rw [hz] at ho
        omega
end Go.Proofs.YtngcahaidlgkfaaDoor.Shape
