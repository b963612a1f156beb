/-
  Layer 4: plain mathematics: Join of an array's cells by its frame is the array.
  Layer 4: the reference's put, of an array of numbers: a scalar's element.
  Layer 4: the reference's put, of an array of numbers: axis by axis.
  Layer 4: the reference's put, of an array of numbers: the walk at an axis.
  Layer 4: the reference's put, of an array of numbers.
  Layer 4: the reference's put, of a boxed array: what it gives; an item appended.
  Layer 4: the reference's put, of a boxed array: a scalar's item. (Written by wip/gen/cell-putb.py.)
  Layer 4: the reference's put, of a boxed array: the walk at an axis. (Written by wip/gen/cell-putb.py.)
  Layer 4: the reference's put, of a boxed array: at every list of dimensions. (Written by wip/gen/cell-putb.py.)
  Layer 4: plain mathematics: what is assembled of valid cells is valid unless it weighs too much.
  Layer 4: plain mathematics: how many elements the cells of an array have together; a 0 in the frame.
-/
import Derived.Test.YtblgpnijiefopaaBd20
import Derived.Test.YtblgpnijiefopaaBd18
import Derived.Test.YtblgpnijiefopaaBd11
import Derived.StillTailTactics
import Derived.Deep.RegionLaw
import Derived.Deep.AppendLies
namespace Go.Proofs.Ytblgpnijiefopaa.Shape
open Go.RowKit
set_option linter.unusedVariables false

theorem joinA_cells {A B : Arr} {k : Int} (hx : rightE A = 0) (hnz : prN (A.shape.take (frN A k)) ≠ 0) : joinA (frameS A k) (cellsS A k) B = (A, 0) := by
  have hr := right_short hx
  have hNN := (right_def.1 hr).2.1
  rw [frameS, if_pos hx, cellsS, if_pos hx]
  generalize frN A k = r at *
  have hrt : rightB (A.shape.take r) = true := right_take hr
  have hT : NN (A.shape.take r) := fun y hy => hNN y (List.mem_of_mem_take hy)
  have hD : NN (A.shape.drop r) := fun y hy => hNN y (List.mem_of_mem_drop hy)
  obtain ⟨n, hn⟩ : ∃ n, prN (A.shape.take r) = n := ⟨_, rfl⟩
  have hpr : pr (A.shape.take r) = (n : Int) := by
    have := pr_nn hT
    rw [← hn]; unfold prN; omega
  have hac := asm_cells hx r
  rw [hn] at hnz hac ⊢
  have hlen : ((List.range n).map (cellA A r)).length = n := by simp
  have hmem : ∀ C ∈ (List.range n).map (cellA A r), rightE C = 0 ∧ C.kind = A.kind ∧ C.shape = A.shape.drop r := fun C hC => by
    obtain ⟨i, hi, rfl⟩ := List.mem_map.1 hC
    exact ⟨right_cell hx r i (by rw [hn]; exact List.mem_range.1 hi), rfl, rfl⟩
  have hne : (List.range n).map (cellA A r) ≠ [] := fun e => hnz (by rw [← hlen, e]; rfl)
  have hcom := commonS_same hne hD (fun C hC => (hmem C hC).2.2)
  have hhd : (((List.range n).map (cellA A r)).headD zeroA).kind = A.kind := by
    generalize (List.range n).map (cellA A r) = l at *
    cases l with
    | nil => exact absurd rfl hne
    | cons C s => exact (hmem C (by simp)).2.1
  generalize (List.range n).map (cellA A r) = l at *
  rw [joinA, if_pos (by rw [sizeS, if_pos hrt, hpr, hlen]), if_neg (by rw [hlen]; exact hnz), if_pos (List.all_eq_true.2 fun C hC => by simpa using (hmem C hC).1), if_pos (List.all_eq_true.2 fun C hC => by rw [hhd]; simpa using (hmem C hC).2.1), hhd, hcom, asmS, List.take_append_drop, if_pos hr]
  rw [List.take_append_drop] at hac
  rw [hac, outA_ok (right_wt hx)]
end Go.Proofs.Ytblgpnijiefopaa.Shape

namespace Go.Proofs.Ytblgpnijiefopaa.Shape
open Go.RowKit
set_option linter.unusedVariables false

/-- What put gives: the row of numbers has grown. -/
def GivePut (k : Int) (sa : Option Addr) (ls sc : Nat) (ia : Option Addr) (li ic : Nat) (w : World) (B : Nat) (V : Value) (n' : Nat) (qs' : List Value) (e : Ending) (w' : World) : Prop :=
  ∃ va vl vc, e = .returned (.agg #[.int .i64 k, .slice sa ls sc, .slice va vl vc, .slice ia li ic]) ∧ PutS w.heap.size w w' B 3 1 V (.slice va vl vc) n' qs'
/-- Fill's result for numbers. -/
theorem fill_num {A : Arr} {w w' : World} {e : Ending} (hk : A.kind = 1 ∨ A.kind = 2) (h : GiveNew (fillA A.kind) w e w') : ∃ kf sf lf cf na nc ia li ic, e = .returned (.agg #[.int .i64 kf, .slice sf lf cf, .slice na 1 nc, .slice ia li ic]) ∧ IntsOn (fun g => w.heap.size ≤ g) w' na nc [fillZ A.kind] ∧ Below w.heap.size w w' := by
  have hf : fillA A.kind = .mk A.kind [] [fillZ A.kind] [] := by rcases hk with h | h <;> rw [h] <;> rfl
  rw [hf] at h
  obtain ⟨sa, sc, na, nc, ia, ic, rfl, hO, hb⟩ := h.typed
  rw [ArrOn] at hO
  obtain ⟨sa', sc', na', nc', ia', ic', hv, -, -, hn, -⟩ := hO
  simp only [Value.agg.injEq, Array.mk.injEq, List.cons.injEq, Value.slice.injEq, and_true, true_and] at hv
  obtain ⟨-, ⟨rfl, rfl⟩, -⟩ := hv
  exact ⟨_, _, _, _, _, _, _, _, _, rfl, hn, hb⟩
theorem below_3 (w : World) (o o' o'' : Obj) : Below w.heap.size w (((w.alloc o).alloc o').alloc o'') := below_three w o o' o''

set_option maxRecDepth 100000 in
set_option maxHeartbeats 4000000 in
theorem putN_nil (k : Int) (sa : Option Addr) (ls sc : Nat) (va : Option Addr) (vl vc : Nat) (ia : Option Addr) (li ic : Nat) (v2 : Value) (A : Arr) (fa ta : Option Addr) (fl fc tc at' B n : Nat) (qs : List Value) (w : World) (hk : A.kind = 1 ∨ A.kind = 2) (hA : ArrAt w v2 A)
    (hB : B ≤ w.heap.size) (hn : n ≤ 10000000) (hat : at' < A.nums.length) (own : w.ownsRow B 3 1 (.slice va vl vc) n qs) :
    Calls Try.prog 57 #[.agg #[.int .i64 k, .slice sa ls sc, .slice va vl vc, .slice ia li ic], v2, .slice fa fl fc, .slice ta 0 tc, .int .i64 at'] w (GivePut k sa ls sc ia li ic w B (.slice va vl vc) (n + 1) (qs ++ [.int .i64 A.nums[at']])) := by
  obtain ⟨k2, s2, l2, c2, na, nc, ia2, li2, ic2, rfl, hnn, hkk⟩ : ∃ k2 s2 l2 c2 na nc ia2 li2 ic2, v2 = .agg #[.int .i64 k2, .slice s2 l2 c2, .slice na A.nums.length nc, .slice ia2 li2 ic2] ∧ IntsAt w na nc A.nums ∧ k2 = A.kind := by
    have h := hA
    obtain ⟨kk, sh, nu, it⟩ := A
    rw [ArrAt] at h
    obtain ⟨sa, sc, na, nc, ia, ic, hv, -, -, hn, -⟩ := h
    exact ⟨_, _, _, _, _, _, _, _, _, hv, hn, rfl⟩
  have k3 : (k2 == 3) = false := by rw [hkk]; rcases hk with h | h <;> rw [h] <;> rfl
  have bw := below_3 w (.cells #[.int .i64 k, .slice sa ls sc, .slice va vl vc, .slice ia li ic] 26) (.cells #[.int .i64 k2, .slice s2 l2 c2, .slice na A.nums.length nc, .slice ia2 li2 ic2] 26) (.cells #[.int .i64 0, .slice none 0 0, .slice none 0 0, .slice none 0 0] 26)
  have q0 : Quad (((w.alloc (.cells #[.int .i64 k, .slice sa ls sc, .slice va vl vc, .slice ia li ic] 26)).alloc (.cells #[.int .i64 k2, .slice s2 l2 c2, .slice na A.nums.length nc, .slice ia2 li2 ic2] 26)).alloc (.cells #[.int .i64 0, .slice none 0 0, .slice none 0 0, .slice none 0 0] 26)) w.heap.size (.int .i64 k) (.slice sa ls sc) (.slice va vl vc) (.slice ia li ic) :=
    ((Quad.new w (.int .i64 k) (.slice sa ls sc) (.slice va vl vc) (.slice ia li ic)).below (below_new _ (.cells #[.int .i64 k2, .slice s2 l2 c2, .slice na A.nums.length nc, .slice ia2 li2 ic2] 26))).below (below_new _ (.cells #[.int .i64 0, .slice none 0 0, .slice none 0 0, .slice none 0 0] 26))
  have q1 : Quad (((w.alloc (.cells #[.int .i64 k, .slice sa ls sc, .slice va vl vc, .slice ia li ic] 26)).alloc (.cells #[.int .i64 k2, .slice s2 l2 c2, .slice na A.nums.length nc, .slice ia2 li2 ic2] 26)).alloc (.cells #[.int .i64 0, .slice none 0 0, .slice none 0 0, .slice none 0 0] 26)) (w.heap.size + 1) (.int .i64 k2) (.slice s2 l2 c2) (.slice na A.nums.length nc) (.slice ia2 li2 ic2) := by
    simpa using (Quad.new (w.alloc (.cells #[.int .i64 k, .slice sa ls sc, .slice va vl vc, .slice ia li ic] 26)) (.int .i64 k2) (.slice s2 l2 c2) (.slice na A.nums.length nc) (.slice ia2 li2 ic2)).below (below_new _ (.cells #[.int .i64 0, .slice none 0 0, .slice none 0 0, .slice none 0 0] 26))
  have qz : Quad (((w.alloc (.cells #[.int .i64 k, .slice sa ls sc, .slice va vl vc, .slice ia li ic] 26)).alloc (.cells #[.int .i64 k2, .slice s2 l2 c2, .slice na A.nums.length nc, .slice ia2 li2 ic2] 26)).alloc (.cells #[.int .i64 0, .slice none 0 0, .slice none 0 0, .slice none 0 0] 26)) (w.heap.size + 2) (.int .i64 0) (.slice none 0 0) (.slice none 0 0) (.slice none 0 0) := by
    simpa using Quad.new ((w.alloc (.cells #[.int .i64 k, .slice sa ls sc, .slice va vl vc, .slice ia li ic] 26)).alloc (.cells #[.int .i64 k2, .slice s2 l2 c2, .slice na A.nums.length nc, .slice ia2 li2 ic2] 26)) (.int .i64 0) (.slice none 0 0) (.slice none 0 0) (.slice none 0 0)
  have hA3 := hA.below bw
  have hxb := hnn.bd hat
  obtain ⟨nb, no, hix, hcell⟩ := hnn.at hat
  obtain ⟨y, hy⟩ : ∃ y, A.nums[at'] = y := ⟨_, rfl⟩
  rw [hy] at hcell hxb ⊢
  have hnl := hnn.len
  have hv := own.lt
  have P0 : PutS w.heap.size w _ B 3 1 (.slice va vl vc) (.slice va vl vc) n qs := (PutS.refl own).below bw hB
  have HF := fun v' w' (g : ArrAt w' v' A) => fillR_new v' A w' g
  have HK : Hid (A.kind = 1 ∨ A.kind = 2) := hk
  obtain ⟨i0, hi0, hz0, hz1, hz2⟩ := info_parts infoInt
  clear hA hkk hy hk
  generalize A.nums.length = nl at *
  have hs3 : (((w.alloc (.cells #[.int .i64 k, .slice sa ls sc, .slice va vl vc, .slice ia li ic] 26)).alloc (.cells #[.int .i64 k2, .slice s2 l2 c2, .slice na nl nc, .slice ia2 li2 ic2] 26)).alloc (.cells #[.int .i64 0, .slice none 0 0, .slice none 0 0, .slice none 0 0] 26)).heap.size = w.heap.size + 3 := by simp
  have HS3 : Hid ((((w.alloc (.cells #[.int .i64 k, .slice sa ls sc, .slice va vl vc, .slice ia li ic] 26)).alloc (.cells #[.int .i64 k2, .slice s2 l2 c2, .slice na nl nc, .slice ia2 li2 ic2] 26)).alloc (.cells #[.int .i64 0, .slice none 0 0, .slice none 0 0, .slice none 0 0] 26)).heap.size = w.heap.size + 3) := hs3
  clear hs3
  go_enter Try.func57, Try.ntmps57
  go_wp2_with (go_at_call 29; refine (HF _ _ hA3).mono ?_; intro e w1 hN; (obtain ⟨kf, sf, lf, cf, fna, fnc, fia, fli, fic, rfl, hO, b1⟩ := fill_num HK.out hN); (obtain ⟨p0, p1, p2, p3, -⟩ := ((q1.below b1).below (below_new w1 (.cells #[.int .i64 kf, .slice sf lf cf, .slice fna 1 fnc, .slice fia fli fic] 26))).cells))
  have bn := below_new w1 (.cells #[.int .i64 kf, .slice sf lf cf, .slice fna 1 fnc, .slice fia fli fic] 26)
  have Q0 := (q0.below b1).below bn
  have QZ := (qz.below b1).below bn
  have HS := HS3.out
  have P1 := (P0.below b1 hB).below bn hB
  have hcell1 : (w1.alloc (.cells #[.int .i64 kf, .slice sf lf cf, .slice fna 1 fnc, .slice fia fli fic] 26)).cell? ⟨nb, no + at', none⟩ = some (.int .i64 y) := ((Below.then (Below.then bw b1) bn).cell (cell_lt hcell)).trans hcell
  have S1 := b1.size
  have S2 : w.heap.size + 3 ≤ (w1.alloc (.cells #[.int .i64 kf, .slice sf lf cf, .slice fna 1 fnc, .slice fia fli fic] 26)).heap.size := by have := bn.size; omega
  clear q0 q1 qz P0 bn hO hcell hA3 HF bw HS3 HS S1 b1
  generalize (w1.alloc (.cells #[.int .i64 kf, .slice sf lf cf, .slice fna 1 fnc, .slice fia fli fic] 26)) = W at *
  generalize w1.heap.size = RF at *
  obtain ⟨r0, r1, r2, r3, r4, r5, r6, r7⟩ := Q0.cells
  have bl := below_new W (.cells #[.int .i64 y] 3)
  obtain ⟨m0, m1, m2, m3, m4, m5, m6, m7⟩ := (Q0.below bl).cells
  obtain ⟨n0, n1, n2, n3, -⟩ : W.cell? ⟨w.heap.size + 1, 0, none⟩ = _ ∧ W.cell? ⟨w.heap.size + 1, 1, none⟩ = _ ∧ W.cell? ⟨w.heap.size + 1, 2, none⟩ = _ ∧ W.cell? ⟨w.heap.size + 1, 3, none⟩ = _ ∧ True := ⟨p0, p1, p2, p3, trivial⟩
  have p2' : (W.alloc (.cells #[.int .i64 y] 3)).cell? ⟨w.heap.size + 1, 2, none⟩ = some (.slice na nl nc) := (bl.cell (cell_lt p2)).trans p2
  have hv0 : (Value.slice va vl vc).ownBlock ≠ some w.heap.size := fun e => by have := (hv _ e).2; omega
  have hvz : (Value.slice va vl vc).ownBlock ≠ some (w.heap.size + 2) := fun e => by have := (hv _ e).2; omega
  have hsW : (W.alloc (.cells #[.int .i64 y] 3)).heap.size = W.heap.size + 1 := by simp
  have HX : ∀ (g cap : Nat) (w5 : World), w5.ownsRow B 3 1 (.slice (some ⟨g, 0, none⟩) (n + 1) cap) (n + 1) (qs ++ [.int .i64 y]) → (W.alloc (.cells #[.int .i64 y] 3)).drew.grownBy w5 (Value.slice va vl vc).ownBlock → ((Value.slice va vl vc).ownBlock = some g ∨ g = W.heap.size + 1) →
      PutS w.heap.size w w5 B 3 1 (.slice va vl vc) (.slice (some ⟨g, 0, none⟩) (n + 1) cap) (n + 1) (qs ++ [.int .i64 y]) ∧ Quad w5 w.heap.size (.int .i64 k) (.slice sa ls sc) (.slice va vl vc) (.slice ia li ic) ∧ Quad w5 (w.heap.size + 2) (.int .i64 0) (.slice none 0 0) (.slice none 0 0) (.slice none 0 0) ∧ g ≠ w.heap.size ∧ g ≠ w.heap.size + 2 := by
    intro g cap w5 h1 h2d h3
    have h2 : (W.alloc (.cells #[.int .i64 y] 3)).grownBy w5 (Value.slice va vl vc).ownBlock := ⟨h2d.os, h2d.tape, h2d.output, h2d.size, h2d.block⟩
    have h3' : (Value.slice va vl vc).ownBlock = some g ∨ W.heap.size ≤ g := h3.imp id fun h => by omega
    obtain ⟨x1, x2⟩ := grow_other bl h2 (b := w.heap.size) (by omega) hv0 h3'
    obtain ⟨y1, y2⟩ := grow_other bl h2 (b := w.heap.size + 2) (by omega) hvz h3'
    exact ⟨P1.grow bl hB h1 h2 h3', Q0.keep x1, QZ.keep y1, x2, y2⟩
  have own1 := own_alloc P1.own (Below.refl W.heap.size W) (.cells #[.int .i64 y] 3)
  have hnews : ∀ j u, [Value.int .i64 y][j]? = some u → (W.alloc (.cells #[.int .i64 y] 3)).cell? ((⟨W.heap.size, 0, none⟩ : Addr).add j) = some u := World.news_of_block (cs := #[.int .i64 y]) (t := 3) (fr := (0, 0)) (heap_alloc_new W _)
  have hbase : B ≤ (W.alloc (.cells #[.int .i64 y] 3)).heap.size := by omega
  clear P1 Q0 QZ own hv hv0 hvz n0 n1 n2 n3
  go_region_law ((first
    | (refine step_append_lies _ (by rfl) _ _ _ (by rfl) B 3 i0 _ 1 8 Try.underlying23 hi0 hz0 hz1 hz2 rfl (by omega) (.slice va vl vc) n qs (by rfl) own1 ⟨W.heap.size, 0, none⟩ 1 1 [.int .i64 y] (by rfl) (by rfl) hnews (by intro u hu; simp at hu; subst hu; rfl) (by omega) (by unfold maxLen; omega) (by omega) hbase (W.heap.size + 1) hsW ?_; intro gg cap w5 hown hgrow hat' hl5; (obtain ⟨P5, Q5, Z5, ne0, nez⟩ := HX gg cap w5 hown hgrow hat'); (obtain ⟨t0, t1, t2, t3, t4, t5, t6, t7⟩ := Q5.cells); (obtain ⟨z0, z1, z2, z3, z4, z5, z6, z7⟩ := Z5.cells))))
  all_goals
    have Z6 := Z5.keep (set_other w5 w.heap.size 2 (w.heap.size + 2) (.slice (some ⟨gg, 0, none⟩) (n + 1) cap) (by omega))
    obtain ⟨u0, u1, u2, u3, u4, u5, u6, u7⟩ := Z6.cells
    have P6 := P5.set (X := w.heap.size) (o := 2) (Or.inl rfl) hB (by simpa [Value.ownBlock] using ne0) (.slice (some ⟨gg, 0, none⟩) (n + 1) cap)
    have P7 := P6.set4 (X := w.heap.size + 2) (Or.inr (by omega)) (by omega) (by simpa [Value.ownBlock] using nez) (.int .i64 k) (.slice sa ls sc) (.slice (some ⟨gg, 0, none⟩) (n + 1) cap) (.slice ia li ic)
    obtain ⟨QW, -⟩ := set4 Z6 (.int .i64 k) (.slice sa ls sc) (.slice (some ⟨gg, 0, none⟩) (n + 1) cap) (.slice ia li ic)
    clear z0 z1 z2 z3 z4 z5 z6 z7
    go_wp2_with fail
    generalize (((((w5.setCell ⟨w.heap.size, 2, none⟩ (.slice (some ⟨gg, 0, none⟩) (n + 1) cap)).setCell ⟨w.heap.size + 2, 0, none⟩ (.int .i64 k)).setCell ⟨w.heap.size + 2, 1, none⟩ (.slice sa ls sc)).setCell ⟨w.heap.size + 2, 2, none⟩ (.slice (some ⟨gg, 0, none⟩) (n + 1) cap)).setCell ⟨w.heap.size + 2, 3, none⟩ (.slice ia li ic)) = WW at QW P7 ⊢
    obtain ⟨e0, e1, e2, e3, -⟩ := QW.cells
    exact bodyPost_ret (v := .agg #[.int .i64 k, .slice sa ls sc, .slice (some ⟨gg, 0, none⟩) (n + 1) cap, .slice ia li ic]) (by simp [results, Try.results57, go_sem, e0, e1, e2, e3]) rfl ⟨_, _, _, rfl, P7⟩
end Go.Proofs.Ytblgpnijiefopaa.Shape

namespace Go.Proofs.Ytblgpnijiefopaa.Shape
open Go.RowKit
set_option linter.unusedVariables false

/-- put of numbers, at two lists of dimensions. -/
def PutNSpec (tt fr : List Int) : Prop := ∀ (w : World) (k : Int) (sa : Option Addr) (ls sc : Nat) (va : Option Addr) (vl vc : Nat) (ia : Option Addr) (li ic : Nat) (v2 : Value) (A : Arr) (fa : Option Addr) (fl fc : Nat) (ta : Option Addr) (tl tc : Nat) (at' B n : Nat) (qs : List Value),
  (A.kind = 1 ∨ A.kind = 2) → ArrOn (fun g => (Value.slice va vl vc).ownBlock ≠ some g) w v2 A → fl = fr.length → tl = tt.length → IntsOn (fun g => (Value.slice va vl vc).ownBlock ≠ some g) w fa fc fr → IntsOn (fun g => (Value.slice va vl vc).ownBlock ≠ some g) w ta tc tt →
  rightB tt = true → rightB fr = true → tt.length = fr.length → B ≤ w.heap.size → n + prN tt ≤ 10000000 → at' + prN fr ≤ A.nums.length → A.nums.length ≤ 10000000 → w.ownsRow B 3 1 (.slice va vl vc) n qs →
  Calls Try.prog 57 #[.agg #[.int .i64 k, .slice sa ls sc, .slice va vl vc, .slice ia li ic], v2, .slice fa fl fc, .slice ta tl tc, .int .i64 at'] w (GivePut k sa ls sc ia li ic w B (.slice va vl vc) (n + prN tt) (qs ++ (padS (fillZ A.kind) tt fr ((A.nums.drop at').take (prN fr))).map (Value.int .i64)))

/-- The list without its first element: where it lies. -/
theorem tailOn {P : Nat → Prop} {w : World} {a : Option Addr} {c : Nat} {x : Int} {r : List Int} {L M : Nat} (h : IntsOn P w a c (x :: r)) (hL : L = (x :: r).length) (hM : M = r.length) : ∃ a' c', IntsOn P w a' c' r ∧ ∀ w', (Instr.slice 23 (.slice a L c) (some (.int .i64 1)) none none).run Try.prog w' = .ok (.slice a' M c') w' := by
  subst hL; subst hM
  obtain ⟨h1, h2⟩ := h
  obtain ⟨g1, g2⟩ := h1.from 1 (by simp)
  refine ⟨_, _, ⟨g1, fun hne ad e => ?_⟩, fun w' => g2 w'⟩
  rw [fromAt] at e
  split at e
  · exact h2 (by simp) ad e
  · cases a with
    | none => cases e
    | some ad0 =>
      have := h2 (by simp) ad0 rfl
      simp only [Option.map_some, Option.some.injEq] at e
      subst e
      unfold Addr.add
      split <;> exact this
theorem firstAt {P : Nat → Prop} {w : World} {a : Option Addr} {c : Nat} {x : Int} {r : List Int} {L : Nat} (h : IntsOn P w a c (x :: r)) (hL : L = (x :: r).length) : ∃ b off, (∀ w' : World, (Instr.indexAt 23 (.slice a L c) (.int .i64 0)).run Try.prog w' = .ok (.pointer (some ⟨b, off, none⟩)) w') ∧ w.cell? ⟨b, off, none⟩ = some (.int .i64 x) ∧ P b := by
  subst hL
  obtain ⟨h1, h2⟩ := h
  have h1' := h1
  obtain ⟨-, -, -, b0, off0, ha, hc⟩ := h1'
  have e := ha (by simp)
  subst e
  refine ⟨b0, off0, fun w' => ?_, hc 0 (by simp), h2 (by simp) _ rfl⟩
  rw [run_indexAt_slice w' _ _ _ _ .i64 0 elemInts, if_pos (by simp), sizeInts]
  show Result.ok _ w' = _
  rw [show ((0 : Int).toNat * 1) = 0 by rfl, add_plain, Nat.add_zero]
end Go.Proofs.Ytblgpnijiefopaa.Shape

namespace Go.Proofs.Ytblgpnijiefopaa.Shape
open Go.RowKit
set_option linter.unusedVariables false

theorem put_nums {x q m F nl p : Nat} (hp : x + q = p) (h1 : q + m ≤ F) (h2 : x + F ≤ nl) (h3 : nl ≤ 10000000) : (x : Int) + (q : Int) = (p : Int) ∧ wrap64 (q : Int) = (q : Int) ∧ wrap64 (p : Int) = (p : Int) ∧ p + m ≤ nl :=
  ⟨by omega, IntWalk.wrap64_in _ (by omega), IntWalk.wrap64_in _ (by omega), by omega⟩
theorem alloc_sizeP (w : World) (o : Obj) : (w.alloc o).heap.size = w.heap.size + 1 := by simp
/-- A number appended to the row in the third cell of the block R0. -/
theorem app1 {R : Nat} {w0 W : World} {B n R0 : Nat} {V v : Value} {qs : List Value} {x c0 c1 c3 : Value} (P : PutS R w0 W B 3 1 V v n qs) (Q0 : Quad W R0 c0 c1 v c3) (hv : v.ownBlock ≠ some R0) (hB : B ≤ w0.heap.size) (hX : R0 = R ∨ w0.heap.size ≤ R0) (hBR : B ≤ R0) :
    ∀ (g cap : Nat) (w5 : World), w5.ownsRow B 3 1 (.slice (some ⟨g, 0, none⟩) (n + 1) cap) (n + 1) (qs ++ [x]) → (W.alloc (.cells #[x] 3)).drew.grownBy w5 v.ownBlock → (v.ownBlock = some g ∨ g = W.heap.size + 1) →
      PutS R w0 (w5.setCell ⟨R0, 2, none⟩ (.slice (some ⟨g, 0, none⟩) (n + 1) cap)) B 3 1 V (.slice (some ⟨g, 0, none⟩) (n + 1) cap) (n + 1) (qs ++ [x]) ∧ Quad w5 R0 c0 c1 v c3 ∧ Quad (w5.setCell ⟨R0, 2, none⟩ (.slice (some ⟨g, 0, none⟩) (n + 1) cap)) R0 c0 c1 (.slice (some ⟨g, 0, none⟩) (n + 1) cap) c3 ∧ (Value.slice (some ⟨g, 0, none⟩) (n + 1) cap).ownBlock ≠ some R0 := by
  intro g cap w5 h1 h2d h3
  have bl := below_new W (.cells #[x] 3)
  have h2 : (W.alloc (.cells #[x] 3)).grownBy w5 v.ownBlock := ⟨h2d.os, h2d.tape, h2d.output, h2d.size, h2d.block⟩
  have h3' : v.ownBlock = some g ∨ W.heap.size ≤ g := h3.imp id fun h => by omega
  obtain ⟨x1, x2⟩ := grow_other bl h2 (b := R0) Q0.lt hv h3'
  have hne : (Value.slice (some ⟨g, 0, none⟩) (n + 1) cap).ownBlock ≠ some R0 := by simpa [Value.ownBlock] using x2
  exact ⟨(P.grow bl hB h1 h2 h3').set hX hBR hne _, Q0.keep x1, ((Q0.keep x1).set _).2.2.1, hne⟩

set_option maxRecDepth 100000 in
set_option maxHeartbeats 3000000 in
theorem putN_step (t f : Int) (tt ff : List Int) (ih : PutNSpec tt ff) : PutNSpec (t :: tt) (f :: ff) := by
  intro w k sa ls sc va vl vc ia li ic v2 A fa fl fc ta tl tc at' B n qs hk hA hfl htl hf ht hrt hrf hlen hB hn hat hAl own
  have hNt := (right_def.1 hrt).2.1
  have hNf := (right_def.1 hrf).2.1
  obtain ⟨T, rfl⟩ : ∃ T : Nat, t = T := ⟨t.toNat, by have := hNt.head; omega⟩
  obtain ⟨Fn, rfl⟩ : ∃ T : Nat, f = T := ⟨f.toNat, by have := hNf.head; omega⟩
  have hrt' := right_tailC hrt
  have hrf' := right_tailC hrf
  have hT := (dim_bd hrt (k := 0) (by simp)).2
  have hFn := (dim_bd hrf (k := 0) (by simp)).2
  simp only [List.getElem_cons_zero] at hT hFn
  rw [prN_cons hNt.head hNt.tail] at hn ⊢
  rw [prN_cons hNf.head hNf.tail] at hat ⊢
  rw [← pieces_end]
  simp only [Int.toNat_natCast] at *
  have hs6 := prN_le hrt'
  have hm6 := prN_le hrf'
  have hSZf := size_prN hrf'
  have hSZt := size_prN hrt'
  have hlen' : tt.length = ff.length := by simpa using hlen
  have SF := fun a c W (g : IntsAt W a c ff) => refSizeR a c ff W g
  have ST := fun a c W (g : IntsAt W a c tt) => refSizeR a c tt W g
  rw [hSZf] at SF
  rw [hSZt] at ST
  obtain ⟨k2, s2, l2, c2, na, nc, ia2, li2, ic2, rfl, hnn, hkk⟩ : ∃ k2 s2 l2 c2 na nc ia2 li2 ic2, v2 = .agg #[.int .i64 k2, .slice s2 l2 c2, .slice na A.nums.length nc, .slice ia2 li2 ic2] ∧ IntsAt w na nc A.nums ∧ k2 = A.kind := by
    have h := hA.at
    obtain ⟨kk, sh, nu, it⟩ := A
    rw [ArrAt] at h
    obtain ⟨sa, sc, na, nc, ia, ic, hv, -, -, hn, -⟩ := h
    exact ⟨_, _, _, _, _, _, _, _, _, hv, hn, rfl⟩
  clear hnn
  have k3 : (k2 == 3) = false := by rw [hkk]; rcases hk with h | h <;> rw [h] <;> rfl
  have e0 : ((tl : Int) == 0) = false := by rw [htl]; simp; omega
  have bw := below_3 w (.cells #[.int .i64 k, .slice sa ls sc, .slice va vl vc, .slice ia li ic] 26) (.cells #[.int .i64 k2, .slice s2 l2 c2, .slice na A.nums.length nc, .slice ia2 li2 ic2] 26) (.cells #[.int .i64 0, .slice none 0 0, .slice none 0 0, .slice none 0 0] 26)
  have q0 : Quad (((w.alloc (.cells #[.int .i64 k, .slice sa ls sc, .slice va vl vc, .slice ia li ic] 26)).alloc (.cells #[.int .i64 k2, .slice s2 l2 c2, .slice na A.nums.length nc, .slice ia2 li2 ic2] 26)).alloc (.cells #[.int .i64 0, .slice none 0 0, .slice none 0 0, .slice none 0 0] 26)) w.heap.size (.int .i64 k) (.slice sa ls sc) (.slice va vl vc) (.slice ia li ic) :=
    ((Quad.new w (.int .i64 k) (.slice sa ls sc) (.slice va vl vc) (.slice ia li ic)).below (below_new _ (.cells #[.int .i64 k2, .slice s2 l2 c2, .slice na A.nums.length nc, .slice ia2 li2 ic2] 26))).below (below_new _ (.cells #[.int .i64 0, .slice none 0 0, .slice none 0 0, .slice none 0 0] 26))
  have q1 : Quad (((w.alloc (.cells #[.int .i64 k, .slice sa ls sc, .slice va vl vc, .slice ia li ic] 26)).alloc (.cells #[.int .i64 k2, .slice s2 l2 c2, .slice na A.nums.length nc, .slice ia2 li2 ic2] 26)).alloc (.cells #[.int .i64 0, .slice none 0 0, .slice none 0 0, .slice none 0 0] 26)) (w.heap.size + 1) (.int .i64 k2) (.slice s2 l2 c2) (.slice na A.nums.length nc) (.slice ia2 li2 ic2) := by
    simpa using (Quad.new (w.alloc (.cells #[.int .i64 k, .slice sa ls sc, .slice va vl vc, .slice ia li ic] 26)) (.int .i64 k2) (.slice s2 l2 c2) (.slice na A.nums.length nc) (.slice ia2 li2 ic2)).below (below_new _ (.cells #[.int .i64 0, .slice none 0 0, .slice none 0 0, .slice none 0 0] 26))
  have qz : Quad (((w.alloc (.cells #[.int .i64 k, .slice sa ls sc, .slice va vl vc, .slice ia li ic] 26)).alloc (.cells #[.int .i64 k2, .slice s2 l2 c2, .slice na A.nums.length nc, .slice ia2 li2 ic2] 26)).alloc (.cells #[.int .i64 0, .slice none 0 0, .slice none 0 0, .slice none 0 0] 26)) (w.heap.size + 2) (.int .i64 0) (.slice none 0 0) (.slice none 0 0) (.slice none 0 0) := by
    simpa using Quad.new ((w.alloc (.cells #[.int .i64 k, .slice sa ls sc, .slice va vl vc, .slice ia li ic] 26)).alloc (.cells #[.int .i64 k2, .slice s2 l2 c2, .slice na A.nums.length nc, .slice ia2 li2 ic2] 26)) (.int .i64 0) (.slice none 0 0) (.slice none 0 0) (.slice none 0 0)
  obtain ⟨fa', fc', iF0, sF'⟩ := tailOn hf hfl rfl
  obtain ⟨ta', tc', iT0, sT'⟩ := tailOn ht htl rfl
  have hA3 := hA.below bw
  have hF3' := iF0.below bw
  have hT3' := iT0.below bw
  have hF3 := hf.below bw
  have hT3 := ht.below bw
  have hv := own.lt
  have P0 : PutS w.heap.size w _ B 3 1 (.slice va vl vc) (.slice va vl vc) n qs := (PutS.refl own).below bw hB
  have HF := fun v' w' (g : ArrAt w' v' A) => fillR_new v' A w' g
  have HK : Hid (A.kind = 1 ∨ A.kind = 2) := hk
  obtain ⟨i0, hi0, hz0, hz1, hz2⟩ := info_parts infoInt
  obtain ⟨s, hs⟩ : ∃ s, prN tt = s := ⟨_, rfl⟩
  obtain ⟨m, hm⟩ : ∃ m, prN ff = m := ⟨_, rfl⟩
  rw [hs] at hn hs6 ST ⊢
  rw [hm] at hat hm6 SF ⊢
  obtain ⟨z, hz⟩ : ∃ z, fillZ A.kind = z := ⟨_, rfl⟩
  rw [hz]
  have HFN : ∀ {w w' : World} {e : Ending}, GiveNew (fillA A.kind) w e w' → ∃ kf sf lf cf na nc ia li ic, e = .returned (.agg #[.int .i64 kf, .slice sf lf cf, .slice na 1 nc, .slice ia li ic]) ∧ IntsOn (fun g => w.heap.size ≤ g) w' na nc [z] ∧ Below w.heap.size w w' := fun h => by rw [← hz]; exact fill_num hk h
  have HFL : Hid (fl = (((Fn : Int) :: ff).length)) := hfl
  have HTL : Hid (tl = (((T : Int) :: tt).length)) := htl
  have hs3 : (((w.alloc (.cells #[.int .i64 k, .slice sa ls sc, .slice va vl vc, .slice ia li ic] 26)).alloc (.cells #[.int .i64 k2, .slice s2 l2 c2, .slice na A.nums.length nc, .slice ia2 li2 ic2] 26)).alloc (.cells #[.int .i64 0, .slice none 0 0, .slice none 0 0, .slice none 0 0] 26)).heap.size = w.heap.size + 3 := by simp
  have HS3 : Hid ((((w.alloc (.cells #[.int .i64 k, .slice sa ls sc, .slice va vl vc, .slice ia li ic] 26)).alloc (.cells #[.int .i64 k2, .slice s2 l2 c2, .slice na A.nums.length nc, .slice ia2 li2 ic2] 26)).alloc (.cells #[.int .i64 0, .slice none 0 0, .slice none 0 0, .slice none 0 0] 26)).heap.size = w.heap.size + 3) := hs3
  have HFn : Hid ((Fn : Int) ≤ 65536) := hFn
  have HAt : Hid (at' + Fn * m ≤ A.nums.length) := hat
  have HAl : Hid (A.nums.length ≤ 10000000) := hAl
  have Hn : Hid (n + T * s ≤ 10000000) := hn
  have HRT : Hid (rightB tt = true ∧ rightB ff = true ∧ tt.length = ff.length ∧ prN tt = s ∧ prN ff = m ∧ fillZ A.kind = z) := ⟨hrt', hrf', hlen', hs, hm, hz⟩
  clear hs3 hk hkk hfl htl hrt hrf hrt' hrf' hlen hlen' hNt hNf hSZf hSZt hs hm hz hFn hat hAl hn hA hf ht iF0 iT0
  obtain ⟨EL, hEL⟩ : ∃ EL, (A.nums.drop at').take (Fn * m) = EL := ⟨_, rfl⟩
  rw [hEL]
  have HEL : Hid ((A.nums.drop at').take (Fn * m) = EL) := hEL
  clear hEL
  generalize hLN : A.nums.length = nl at *
  have HLN : Hid (A.nums.length = nl) := hLN
  clear hLN
  go_enter Try.func57, Try.ntmps57
  go_wp2_with (go_at_call 29; refine (HF _ _ hA3.at).mono ?_; intro e w1 hN; (obtain ⟨kf, sf, lf, cf, fna, fnc, fia, fli, fic, rfl, hO, b1⟩ := HFN hN))
  have bn := below_new w1 (.cells #[.int .i64 kf, .slice sf lf cf, .slice fna 1 fnc, .slice fia fli fic] 26)
  have Q0 := (q0.below b1).below bn
  have Q1 := (q1.below b1).below bn
  have QZ := (qz.below b1).below bn
  have QF := Quad.new w1 (.int .i64 kf) (.slice sf lf cf) (.slice fna 1 fnc) (.slice fia fli fic)
  have HS := HS3.out
  have S1 := b1.size
  have P1 := (P0.below b1 hB).below bn hB
  have hv0 : ∀ g, w.heap.size ≤ g → (Value.slice va vl vc).ownBlock ≠ some g := fun g hg e => by have := (hv _ e).2; omega
  have hAW := ((hA3.below b1).below bn).mono (R := fun g => (Value.slice va vl vc).ownBlock ≠ some g ∧ g ≠ w.heap.size) fun g hg => ⟨hg.1.1.1, by omega⟩
  have hFW := ((hF3.below b1).below bn).mono (R := fun g => (Value.slice va vl vc).ownBlock ≠ some g ∧ g ≠ w.heap.size) fun g hg => ⟨hg.1.1.1, by omega⟩
  have hTW := ((hT3.below b1).below bn).mono (R := fun g => (Value.slice va vl vc).ownBlock ≠ some g ∧ g ≠ w.heap.size) fun g hg => ⟨hg.1.1.1, by omega⟩
  have hFW' := ((hF3'.below b1).below bn).mono (R := fun g => (Value.slice va vl vc).ownBlock ≠ some g ∧ g ≠ w.heap.size) fun g hg => ⟨hg.1.1.1, by omega⟩
  have hTW' := ((hT3'.below b1).below bn).mono (R := fun g => (Value.slice va vl vc).ownBlock ≠ some g ∧ g ≠ w.heap.size) fun g hg => ⟨hg.1.1.1, by omega⟩
  have hOW := (hO.below bn).mono (R := fun g => (Value.slice va vl vc).ownBlock ≠ some g ∧ g ≠ w.heap.size) fun g hg => ⟨hv0 g (by omega), by omega⟩
  have hvR : ∀ g, w.heap.size ≤ g → Hid ((Value.slice va vl vc).ownBlock ≠ some g) := fun g hg => hv0 g hg
  have S2 : w.heap.size + 4 ≤ (w1.alloc (.cells #[.int .i64 kf, .slice sf lf cf, .slice fna 1 fnc, .slice fia fli fic] 26)).heap.size := by rw [alloc_sizeP]; omega
  have hRF : w.heap.size + 3 ≤ w1.heap.size := by omega
  clear q0 q1 qz P0 bn hO hA3 hF3 hT3 hF3' hT3' HF HFN HS3 HS S1 b1 hv hv0 hN bw
  generalize (w1.alloc (.cells #[.int .i64 kf, .slice sf lf cf, .slice fna 1 fnc, .slice fia fli fic] 26)) = W at *
  generalize w1.heap.size = RF at *
  have K : ∀ {wr : World} {v' : Value} {n' : Nat} {q' : List Value}, PutS w.heap.size W wr B 3 1 (.slice va vl vc) v' n' q' → Quad wr (w.heap.size + 1) (.int .i64 k2) (.slice s2 l2 c2) (.slice na nl nc) (.slice ia2 li2 ic2) ∧ Quad wr (w.heap.size + 2) (.int .i64 0) (.slice none 0 0) (.slice none 0 0) (.slice none 0 0) ∧ Quad wr RF (.int .i64 kf) (.slice sf lf cf) (.slice fna 1 fnc) (.slice fia fli fic) ∧
      IntsOn (fun g => v'.ownBlock ≠ some g ∧ g ≠ w.heap.size) wr fna fnc [z] ∧ ArrOn (fun g => v'.ownBlock ≠ some g ∧ g ≠ w.heap.size) wr (.agg #[.int .i64 k2, .slice s2 l2 c2, .slice na nl nc, .slice ia2 li2 ic2]) A ∧ IntsOn (fun g => v'.ownBlock ≠ some g ∧ g ≠ w.heap.size) wr fa fc ((Fn : Int) :: ff) ∧ IntsOn (fun g => v'.ownBlock ≠ some g ∧ g ≠ w.heap.size) wr ta tc ((T : Int) :: tt) ∧ IntsOn (fun g => v'.ownBlock ≠ some g ∧ g ≠ w.heap.size) wr fa' fc' ff ∧ IntsOn (fun g => v'.ownBlock ≠ some g ∧ g ≠ w.heap.size) wr ta' tc' tt :=
    fun h => ⟨h.quad Q1 (by omega) (hvR _ (by omega)).out, h.quad QZ (by omega) (hvR _ (by omega)).out, h.quad QF (by omega) (hvR _ (by omega)).out, h.ints hOW, h.arr hAW, h.ints hFW, h.ints hTW, h.ints hFW', h.ints hTW'⟩
  have PW := PutS.refl (R := w.heap.size) (show W.ownsRow B 3 1 (.slice va vl vc) n qs from P1.own)
  have SF1 := SF fa' fc' W hFW'.1
  have hvR0 := hvR w.heap.size (Nat.le_refl _)
  have PWh : Hid (PutS w.heap.size W W B 3 1 (.slice va vl vc) (.slice va vl vc) n qs) := PW
  have Q0h : Hid (Quad W w.heap.size (.int .i64 k) (.slice sa ls sc) (.slice va vl vc) (.slice ia li ic)) := Q0
  have P1h : Hid (PutS w.heap.size w W B 3 1 (.slice va vl vc) (.slice va vl vc) n qs) := P1
  clear PW Q0 Q1 QZ QF hOW hAW hFW hTW hFW' hTW' P1 SF
  go_wp2_with (go_at_call 50; refine SF1.mono ?_; rintro e w2 ⟨rfl, rfl⟩)
  go_loopw [13] (fun i wr => ∃ (j : Nat) (a' : Option Addr) (l' c' : Nat), j ≤ T ∧ i = .int .i64 j ∧ PutS w.heap.size W wr B 3 1 (.slice va vl vc) (.slice a' l' c') (n + j * s) (qs ++ (pieces z tt ff (Fn : Int) EL j).map (Value.int .i64)) ∧ Quad wr w.heap.size (.int .i64 k) (.slice sa ls sc) (.slice a' l' c') (.slice ia li ic) ∧ (Value.slice a' l' c').ownBlock ≠ some w.heap.size) (fun i _ => T - (intOf i).toNat)
  case atStart => exact ⟨0, va, vl, vc, Nat.zero_le _, rfl, by rw [Nat.zero_mul, Nat.add_zero, pieces_zero, List.map_nil, List.append_nil]; exact PWh.out, Q0h.out, hvR0.out⟩
  case round =>
    clear PWh Q0h SF1
    obtain ⟨j, a', l', c', hj, rfl, hP, hQ, hne⟩ := hrel
    have hBW : B ≤ W.heap.size := by omega
    obtain ⟨K1, K2, K3, K4, K5, K6, K7, K8, K9⟩ := K hP
    obtain ⟨p0, p1, p2, p3, -⟩ := K1.cells
    obtain ⟨r0, r1, r2, r3, r4, r5, r6, r7⟩ := hQ.cells
    obtain ⟨f0, f1, f2, f3, -⟩ := K3.cells
    obtain ⟨tb, to', ti, tcell, -⟩ := firstAt K7 HTL.out
    obtain ⟨fb, fo, fi, fcell, -⟩ := firstAt K6 HFL.out
    by_cases hlt : j < T
    · by_cases c1 : j < Fn
      · by_cases hm0 : 0 < m
        · obtain ⟨q, hq⟩ : ∃ q, j * m = q := ⟨_, rfl⟩
          have hq1 : q + m ≤ Fn * m := by rw [← hq, ← Nat.succ_mul]; exact Nat.mul_le_mul_right _ c1
          obtain ⟨p, hp⟩ : ∃ p, at' + q = p := ⟨_, rfl⟩
          have hat2 := HAt.out
          have hal2 := HAl.out
          have hln2 := HLN.out
          have e5 : (j : Int) * (m : Int) = (q : Int) := by rw [← hq]; simp
          obtain ⟨e6, ew1, ew2, hpm⟩ := put_nums hp hq1 hat2 hal2
          have hE : padS (fillZ A.kind) tt ff ((A.nums.drop p).take (prN ff)) = piece z tt ff (Fn : Int) EL j := by
            rw [piece, HRT.out.2.2.2.2.1, if_pos ⟨by simpa using c1, hm0⟩, HRT.out.2.2.2.2.2, ← HEL.out, blk_take _ _ _ _ (by rw [Nat.succ_mul, hq]; exact hq1), List.drop_drop, hq, hp]
          have hnB : n + j * s + s ≤ 10000000 := by
            have h1 : (j + 1) * s ≤ T * s := Nat.mul_le_mul_right _ hlt
            have := Hn.out
            rw [Nat.succ_mul] at h1
            omega
          have hsz := hP.bel.size
          have A1 : ArrOn (fun g => (Value.slice a' l' c').ownBlock ≠ some g) wr.drew (.agg #[.int .i64 k2, .slice s2 l2 c2, .slice na nl nc, .slice ia2 li2 ic2]) A := ArrOn.keep (P := fun g => (Value.slice a' l' c').ownBlock ≠ some g ∧ g ≠ w.heap.size) (w := wr) (w' := wr.drew) (fun g hg _ => ⟨hg.1, fun _ => rfl⟩) K5
          have A2 : IntsOn (fun g => (Value.slice a' l' c').ownBlock ≠ some g) wr.drew fa' fc' ff := IntsOn.keep (P := fun g => (Value.slice a' l' c').ownBlock ≠ some g ∧ g ≠ w.heap.size) (w := wr) (w' := wr.drew) (fun g hg _ => ⟨hg.1, fun _ => rfl⟩) K8
          have A3 : IntsOn (fun g => (Value.slice a' l' c').ownBlock ≠ some g) wr.drew ta' tc' tt := IntsOn.keep (P := fun g => (Value.slice a' l' c').ownBlock ≠ some g ∧ g ≠ w.heap.size) (w := wr) (w' := wr.drew) (fun g hg _ => ⟨hg.1, fun _ => rfl⟩) K9
          have A4 : B ≤ wr.drew.heap.size := by show B ≤ wr.heap.size; omega
          have A5 : n + j * s + prN tt ≤ 10000000 := by rw [HRT.out.2.2.2.1]; exact hnB
          have A6 : p + prN ff ≤ A.nums.length := by rw [HRT.out.2.2.2.2.1, hln2]; exact hpm
          have A7 : A.nums.length ≤ 10000000 := by rw [hln2]; exact hal2
          have A8 : wr.drew.ownsRow B 3 1 (.slice a' l' c') (n + j * s) (qs ++ (pieces z tt ff (Fn : Int) EL j).map (Value.int .i64)) := hP.own
          have ih1 := ih wr.drew k sa ls sc a' l' c' ia li ic _ A fa' ff.length fc' ta' tt.length tc' p B (n + j * s) _ HK.out A1 rfl rfl A2 A3 HRT.out.1 HRT.out.2.1 HRT.out.2.2.1 A4 A5 A6 A7 A8
          clear A1 A2 A3 A4 A5 A6 A7 A8
          rw [hE, HRT.out.2.2.2.1] at ih1
          have hpc : Hid (pieces z tt ff (Fn : Int) EL (j + 1) = pieces z tt ff (Fn : Int) EL j ++ piece z tt ff (Fn : Int) EL j) := pieces_succ _ _ _ _ _ _
          generalize piece z tt ff (Fn : Int) EL j = PJ at *
          rw [show (p : Int) = wrap64 ((at' : Int) + wrap64 (q : Int)) by rw [ew1, e6, ew2]] at ih1
          clear hE hpm hq1 hat2 hal2 hln2 hq hp ih
          go_wp2_with fail
          go_still_tail 11, (by kernel_rfl)
          go_wp2_with (go_at_call 57; (with_reducible refine ih1.mono ?_); rintro e w2 ⟨a2, l2', c2', rfl, hP2⟩; (obtain ⟨h1, hne2⟩ := hP2.far w.heap.size hQ.lt (Nat.ne_of_lt hQ.lt) hne); (have hQ2 := hQ.keep (w' := w2) h1); (obtain ⟨t0, t1, t2, t3, t4, t5, t6, t7⟩ := hQ2.cells))
          have hP3 := hP.drew.trans hP2 (Or.inl hsz)
          go_roundw
          case rel => exact ⟨j + 1, a2, l2', c2', by omega, by go_num, by
            rw [hpc.out, Nat.succ_mul, ← Nat.add_assoc, List.map_append, ← List.append_assoc]
            exact hP3.set4 (Or.inl rfl) hB hne2 _ _ _ _, (set4 hQ2 _ _ _ _).1, hne2⟩
          case measure => simp [intOf]; omega
        · have c3 : ¬ (0 : Int) < (m : Int) := by omega
          have hpc : Hid (pieces z tt ff (Fn : Int) EL (j + 1) = pieces z tt ff (Fn : Int) EL j ++ List.replicate s z) := by
            unfold Hid
            rw [pieces_succ, piece, HRT.out.2.2.2.2.1, if_neg (by simp; omega), HRT.out.2.2.2.1]
          go_wp2_with fail
          go_loopw [14] (fun i wr2 => ∃ (j2 : Nat) (a' : Option Addr) (l' c' : Nat), j2 ≤ s ∧ i = .int .i64 j2 ∧ PutS w.heap.size W wr2 B 3 1 (.slice va vl vc) (.slice a' l' c') (n + j * s + j2) (qs ++ (pieces z tt ff (Fn : Int) EL j ++ List.replicate j2 z).map (Value.int .i64)) ∧ Quad wr2 w.heap.size (.int .i64 k) (.slice sa ls sc) (.slice a' l' c') (.slice ia li ic) ∧ (Value.slice a' l' c').ownBlock ≠ some w.heap.size) (fun i _ => s - (intOf i).toNat)
          case atStart => exact ⟨0, a', l', c', Nat.zero_le _, rfl, by rw [List.replicate_zero, List.append_nil, Nat.add_zero]; exact hP, hQ, hne⟩
          case round =>
            clear p0 p1 p2 p3 r0 r1 r2 r3 r4 r5 r6 r7 f0 f1 f2 f3 ti tcell fi fcell hP hQ hne ih
            obtain ⟨j2, b', m', d', hj2, rfl, hP2, hQ2, hne2⟩ := hrel
            obtain ⟨K1, K2, K3, K4, K5, K6, K7, K8, K9⟩ := K hP2
            obtain ⟨p0, p1, p2, p3, -⟩ := K1.cells
            obtain ⟨r0, r1, r2, r3, r4, r5, r6, r7⟩ := hQ2.cells
            obtain ⟨f0, f1, f2, f3, -⟩ := K3.cells
            have ST1 := ST ta' tc' wr K9.1
            by_cases hlt2 : j2 < s
            · obtain ⟨zb, zo, zi, zcell, -⟩ := firstAt (L := 1) K4 rfl
              have bl := below_new wr (.cells #[.int .i64 z] 3)
              obtain ⟨m0, m1, m2, m3, m4, m5, m6, m7⟩ := (hQ2.below bl).cells
              obtain ⟨g0, g1, g2, g3, -⟩ := (K3.below bl).cells
              have HX := app1 (x := .int .i64 z) hP2 hQ2 hne2 hBW (Or.inl rfl) hB
              have own1 := own_alloc hP2.own (Below.refl wr.heap.size wr) (.cells #[.int .i64 z] 3)
              have hnews : ∀ j u, [Value.int .i64 z][j]? = some u → (wr.alloc (.cells #[.int .i64 z] 3)).cell? ((⟨wr.heap.size, 0, none⟩ : Addr).add j) = some u := World.news_of_block (cs := #[.int .i64 z]) (t := 3) (fr := (0, 0)) (heap_alloc_new wr _)
              have hsW : (wr.alloc (.cells #[.int .i64 z] 3)).heap.size = wr.heap.size + 1 := by simp
              have hbase : B ≤ (wr.alloc (.cells #[.int .i64 z] 3)).heap.size := by have := hP2.bel.size; omega
              have hRs : Hid (qs ++ (pieces z tt ff (Fn : Int) EL j ++ List.replicate (j2 + 1) z).map (Value.int .i64) = qs ++ (pieces z tt ff (Fn : Int) EL j ++ List.replicate j2 z).map (Value.int .i64) ++ [.int .i64 z]) := by
                unfold Hid
                rw [List.replicate_succ', ← List.append_assoc, List.map_append (l₂ := [z]), ← List.append_assoc]; rfl
              have hnB : n + j * s + j2 + 1 ≤ 10000000 := by
                have h1 : (j + 1) * s ≤ T * s := Nat.mul_le_mul_right _ hlt
                have := Hn.out
                rw [Nat.succ_mul] at h1
                omega
              generalize qs ++ (pieces z tt ff (Fn : Int) EL j ++ List.replicate j2 z).map (Value.int .i64) = QL at *
              obtain ⟨NN2, hNN⟩ : ∃ NN2, n + j * s + j2 = NN2 := ⟨_, rfl⟩
              have hNs : Hid (n + j * s + (j2 + 1) = NN2 + 1) := by unfold Hid; omega
              rw [hNN] at HX own1 hnB
              clear hNN
              clear K1 K2 K3 K4 K5 K6 K7 K8 K9 hP2 hQ2 hpc
              go_wp2_with (go_at_call 50; refine ST1.mono ?_; rintro e w2 ⟨rfl, rfl⟩)
              go_region_law ((first
                | (refine step_append_lies _ (by rfl) _ _ _ (by rfl) B 3 i0 _ 1 8 Try.underlying23 hi0 hz0 hz1 hz2 rfl (by omega) (.slice b' m' d') NN2 QL (by rfl) own1 ⟨wr.heap.size, 0, none⟩ 1 1 [.int .i64 z] (by rfl) (by rfl) hnews (by intro u hu; simp at hu; subst hu; rfl) (by omega) (by unfold maxLen; omega) (by omega) hbase (wr.heap.size + 1) hsW ?_; intro gg cap w5 hown hgrow hat' hl5; (obtain ⟨P5, Q5, Q6, ne5⟩ := HX gg cap w5 hown hgrow hat'); (obtain ⟨t0, t1, t2, t3, t4, t5, t6, t7⟩ := Q5.cells))))
              all_goals go_wp2_with fail
              all_goals go_roundw
              all_goals first
                | (simp [intOf]; omega)
                | (refine ⟨j2 + 1, _, _, _, by omega, by go_num, ?_, Q6, ne5⟩; rw [hRs.out, hNs.out]; exact P5)
            · obtain rfl : j2 = s := by omega
              go_wp2_with (go_at_call 50; refine ST1.mono ?_; rintro e w2 ⟨rfl, rfl⟩)
              go_roundw
              case rel => exact ⟨j + 1, b', m', d', by omega, by go_num, by rw [hpc.out, Nat.succ_mul, ← Nat.add_assoc]; exact hP2, hQ2, hne2⟩
              case measure => simp [intOf]; omega
      · have hpc : Hid (pieces z tt ff (Fn : Int) EL (j + 1) = pieces z tt ff (Fn : Int) EL j ++ List.replicate s z) := by
          unfold Hid
          rw [pieces_succ, piece, HRT.out.2.2.2.2.1, if_neg (by simp; omega), HRT.out.2.2.2.1]
        go_wp2_with fail
        go_loopw [14] (fun i wr2 => ∃ (j2 : Nat) (a' : Option Addr) (l' c' : Nat), j2 ≤ s ∧ i = .int .i64 j2 ∧ PutS w.heap.size W wr2 B 3 1 (.slice va vl vc) (.slice a' l' c') (n + j * s + j2) (qs ++ (pieces z tt ff (Fn : Int) EL j ++ List.replicate j2 z).map (Value.int .i64)) ∧ Quad wr2 w.heap.size (.int .i64 k) (.slice sa ls sc) (.slice a' l' c') (.slice ia li ic) ∧ (Value.slice a' l' c').ownBlock ≠ some w.heap.size) (fun i _ => s - (intOf i).toNat)
        case atStart => exact ⟨0, a', l', c', Nat.zero_le _, rfl, by rw [List.replicate_zero, List.append_nil, Nat.add_zero]; exact hP, hQ, hne⟩
        case round =>
          clear p0 p1 p2 p3 r0 r1 r2 r3 r4 r5 r6 r7 f0 f1 f2 f3 ti tcell fi fcell hP hQ hne ih
          obtain ⟨j2, b', m', d', hj2, rfl, hP2, hQ2, hne2⟩ := hrel
          obtain ⟨K1, K2, K3, K4, K5, K6, K7, K8, K9⟩ := K hP2
          obtain ⟨p0, p1, p2, p3, -⟩ := K1.cells
          obtain ⟨r0, r1, r2, r3, r4, r5, r6, r7⟩ := hQ2.cells
          obtain ⟨f0, f1, f2, f3, -⟩ := K3.cells
          have ST1 := ST ta' tc' wr K9.1
          by_cases hlt2 : j2 < s
          · obtain ⟨zb, zo, zi, zcell, -⟩ := firstAt (L := 1) K4 rfl
            have bl := below_new wr (.cells #[.int .i64 z] 3)
            obtain ⟨m0, m1, m2, m3, m4, m5, m6, m7⟩ := (hQ2.below bl).cells
            obtain ⟨g0, g1, g2, g3, -⟩ := (K3.below bl).cells
            have HX := app1 (x := .int .i64 z) hP2 hQ2 hne2 hBW (Or.inl rfl) hB
            have own1 := own_alloc hP2.own (Below.refl wr.heap.size wr) (.cells #[.int .i64 z] 3)
            have hnews : ∀ j u, [Value.int .i64 z][j]? = some u → (wr.alloc (.cells #[.int .i64 z] 3)).cell? ((⟨wr.heap.size, 0, none⟩ : Addr).add j) = some u := World.news_of_block (cs := #[.int .i64 z]) (t := 3) (fr := (0, 0)) (heap_alloc_new wr _)
            have hsW : (wr.alloc (.cells #[.int .i64 z] 3)).heap.size = wr.heap.size + 1 := by simp
            have hbase : B ≤ (wr.alloc (.cells #[.int .i64 z] 3)).heap.size := by have := hP2.bel.size; omega
            have hRs : Hid (qs ++ (pieces z tt ff (Fn : Int) EL j ++ List.replicate (j2 + 1) z).map (Value.int .i64) = qs ++ (pieces z tt ff (Fn : Int) EL j ++ List.replicate j2 z).map (Value.int .i64) ++ [.int .i64 z]) := by
              unfold Hid
              rw [List.replicate_succ', ← List.append_assoc, List.map_append (l₂ := [z]), ← List.append_assoc]; rfl
            have hnB : n + j * s + j2 + 1 ≤ 10000000 := by
              have h1 : (j + 1) * s ≤ T * s := Nat.mul_le_mul_right _ hlt
              have := Hn.out
              rw [Nat.succ_mul] at h1
              omega
            generalize qs ++ (pieces z tt ff (Fn : Int) EL j ++ List.replicate j2 z).map (Value.int .i64) = QL at *
            obtain ⟨NN2, hNN⟩ : ∃ NN2, n + j * s + j2 = NN2 := ⟨_, rfl⟩
            have hNs : Hid (n + j * s + (j2 + 1) = NN2 + 1) := by unfold Hid; omega
            rw [hNN] at HX own1 hnB
            clear hNN
            clear K1 K2 K3 K4 K5 K6 K7 K8 K9 hP2 hQ2 hpc
            go_wp2_with (go_at_call 50; refine ST1.mono ?_; rintro e w2 ⟨rfl, rfl⟩)
            go_region_law ((first
              | (refine step_append_lies _ (by rfl) _ _ _ (by rfl) B 3 i0 _ 1 8 Try.underlying23 hi0 hz0 hz1 hz2 rfl (by omega) (.slice b' m' d') NN2 QL (by rfl) own1 ⟨wr.heap.size, 0, none⟩ 1 1 [.int .i64 z] (by rfl) (by rfl) hnews (by intro u hu; simp at hu; subst hu; rfl) (by omega) (by unfold maxLen; omega) (by omega) hbase (wr.heap.size + 1) hsW ?_; intro gg cap w5 hown hgrow hat' hl5; (obtain ⟨P5, Q5, Q6, ne5⟩ := HX gg cap w5 hown hgrow hat'); (obtain ⟨t0, t1, t2, t3, t4, t5, t6, t7⟩ := Q5.cells))))
            all_goals go_wp2_with fail
            all_goals go_roundw
            all_goals first
              | (simp [intOf]; omega)
              | (refine ⟨j2 + 1, _, _, _, by omega, by go_num, ?_, Q6, ne5⟩; rw [hRs.out, hNs.out]; exact P5)
          · obtain rfl : j2 = s := by omega
            go_wp2_with (go_at_call 50; refine ST1.mono ?_; rintro e w2 ⟨rfl, rfl⟩)
            go_roundw
            case rel => exact ⟨j + 1, b', m', d', by omega, by go_num, by rw [hpc.out, Nat.succ_mul, ← Nat.add_assoc]; exact hP2, hQ2, hne2⟩
            case measure => simp [intOf]; omega
    · obtain rfl : j = T := by omega
      have hne2 := (hP.far (w.heap.size + 2) (by omega) (by omega) (hvR _ (by omega)).out).2
      have hP3 := P1h.out.trans hP (Or.inl (Nat.le_refl _))
      have P7 := hP3.set4 (X := w.heap.size + 2) (Or.inr (by omega)) (by omega) hne2 (.int .i64 k) (.slice sa ls sc) (.slice a' l' c') (.slice ia li ic)
      obtain ⟨QW, -⟩ := set4 K2 (.int .i64 k) (.slice sa ls sc) (.slice a' l' c') (.slice ia li ic)
      obtain ⟨u0, u1, u2, u3, u4, u5, u6, u7⟩ := K2.cells
      clear hP3 hP P1h
      go_wp2_with fail
      generalize ((((wr.setCell ⟨w.heap.size + 2, 0, none⟩ (.int .i64 k)).setCell ⟨w.heap.size + 2, 1, none⟩ (.slice sa ls sc)).setCell ⟨w.heap.size + 2, 2, none⟩ (.slice a' l' c')).setCell ⟨w.heap.size + 2, 3, none⟩ (.slice ia li ic)) = WW at QW P7 ⊢
      obtain ⟨e0, e1, e2, e3, -⟩ := QW.cells
      exact bodyPost_ret (v := .agg #[.int .i64 k, .slice sa ls sc, .slice a' l' c', .slice ia li ic]) (by simp [results, Try.results57, go_sem, e0, e1, e2, e3]) rfl ⟨_, _, _, rfl, P7⟩
end Go.Proofs.Ytblgpnijiefopaa.Shape

namespace Go.Proofs.Ytblgpnijiefopaa.Shape
open Go.RowKit
set_option linter.unusedVariables false

theorem putN : ∀ (tt fr : List Int), PutNSpec tt fr
  | [], [] => by
    intro w k sa ls sc va vl vc ia li ic v2 A fa fl fc ta tl tc at' B n qs hk hA hfl htl hf ht hrt hrf hlen hB hn hat hAl own
    have hat' : at' < A.nums.length := by rw [prN_nil] at hat; omega
    subst hfl; subst htl
    have h := putN_nil k sa ls sc va vl vc ia li ic v2 A fa ta 0 fc tc at' B n qs w hk hA.at hB (by rw [prN_nil] at hn; omega) hat' own
    rw [padS, prN_nil]
    have e : (A.nums.drop at').take 1 = [A.nums[at']] := by
      rw [List.drop_eq_getElem_cons hat']; rfl
    rw [e]
    exact h
  | t :: tt, f :: ff => putN_step t f tt ff (putN tt ff)
  | [], _ :: _ => by
    intro w k sa ls sc va vl vc ia li ic v2 A fa fl fc ta tl tc at' B n qs hk hA hfl htl hf ht hrt hrf hlen
    simp at hlen
  | _ :: _, [] => by
    intro w k sa ls sc va vl vc ia li ic v2 A fa fl fc ta tl tc at' B n qs hk hA hfl htl hf ht hrt hrf hlen
    simp at hlen
end Go.Proofs.Ytblgpnijiefopaa.Shape

namespace Go.Proofs.Ytblgpnijiefopaa.Shape
open Go.RowKit
set_option linter.unusedVariables false

/-- What put gives: the row of items has grown. -/
def GivePutB (k : Int) (sa : Option Addr) (ls sc : Nat) (na : Option Addr) (ln nc : Nat) (w : World) (B : Nat) (V : Value) (Pq : Nat → Prop) (n' : Nat) (l' : List Arr) (e : Ending) (w' : World) : Prop :=
  ∃ va vl vc qs', e = .returned (.agg #[.int .i64 k, .slice sa ls sc, .slice na ln nc, .slice va vl vc]) ∧ PutS w.heap.size w w' B 26 4 V (.slice va vl vc) n' qs' ∧ Quads (fun g => (Value.slice va vl vc).ownBlock ≠ some g ∧ Pq g) w' qs' l'
def PutBSpec (tt fr : List Int) : Prop := ∀ (w : World) (k : Int) (sa : Option Addr) (ls sc : Nat) (na : Option Addr) (ln nc : Nat) (va : Option Addr) (vl vc : Nat) (v2 : Value) (A : Arr) (fa : Option Addr) (fl fc : Nat) (ta : Option Addr) (tl tc : Nat) (at' B n : Nat) (qs : List Value) (l : List Arr) (Pq : Nat → Prop),
  A.kind = 3 → ArrOn (fun g => (Value.slice va vl vc).ownBlock ≠ some g) w v2 A → Reach A → fl = fr.length → tl = tt.length → IntsOn (fun g => (Value.slice va vl vc).ownBlock ≠ some g) w fa fc fr → IntsOn (fun g => (Value.slice va vl vc).ownBlock ≠ some g) w ta tc tt →
  rightB tt = true → rightB fr = true → tt.length = fr.length → B ≤ w.heap.size → n + prN tt ≤ 10000000 → at' + prN fr ≤ A.items.length → A.items.length ≤ 10000000 → w.ownsRow B 26 4 (.slice va vl vc) n qs →
  (∀ g, w.heap.size ≤ g → Pq g) → Quads (fun g => (Value.slice va vl vc).ownBlock ≠ some g ∧ Pq g) w qs l →
  Calls Try.prog 57 #[.agg #[.int .i64 k, .slice sa ls sc, .slice na ln nc, .slice va vl vc], v2, .slice fa fl fc, .slice ta tl tc, .int .i64 at'] w (GivePutB k sa ls sc na ln nc w B (.slice va vl vc) Pq (n + prN tt) (l ++ padS fillI tt fr ((A.items.drop at').take (prN fr))))

theorem items_ix {w : World} {c0 c1 c2 : Value} {ia : Option Addr} {li ic : Nat} {A : Arr} (h : ArrAt w (.agg #[c0, c1, c2, .slice ia li ic]) A) {k : Nat} (hk : k < A.items.length) :
    ∃ b off d0 d1 d2 d3, (∀ w', (Instr.indexAt 24 (.slice ia li ic) (.int .i64 k)).run Try.prog w' = .ok (.pointer (some ⟨b, off, none⟩)) w') ∧ (w.cell? ⟨b, off, none⟩ = some d0 ∧ w.cell? ⟨b, off + 1, none⟩ = some d1 ∧ w.cell? ⟨b, off + 2, none⟩ = some d2 ∧ w.cell? ⟨b, off + 3, none⟩ = some d3) ∧ ArrAt w (.agg #[d0, d1, d2, d3]) A.items[k] := by
  obtain ⟨kk, sh, nu, it⟩ := A
  rw [ArrAt] at h
  obtain ⟨sa, sc, na, nc, ia', ic', hv, -, -, -, -, -, b, off, ha, hc⟩ := h
  simp only [Value.agg.injEq, Array.mk.injEq, List.cons.injEq, Value.slice.injEq, and_true] at hv
  obtain ⟨-, -, -, rfl, rfl, rfl⟩ := hv
  obtain ⟨d0, d1, d2, d3, hd, hA⟩ := ArrsAt.at hc hk
  exact ⟨b, off + k * 4, d0, d1, d2, d3, fun w' => items_at rfl ha hk w', hd, hA⟩
/-- Fill's result for boxes. -/
theorem fill_box {A : Arr} {w w' : World} {e : Ending} (hk : A.kind = 3) (h : GiveNew (fillA A.kind) w e w') : ∃ kf sf lf cf na ln nc ia ic, e = .returned (.agg #[.int .i64 kf, .slice sf lf cf, .slice na ln nc, .slice ia 1 ic]) ∧ ArrOn (fun g => w.heap.size ≤ g) w' (.agg #[.int .i64 kf, .slice sf lf cf, .slice na ln nc, .slice ia 1 ic]) (.mk 3 [] [] [fillI]) ∧ Below w.heap.size w w' := by
  have hf : fillA A.kind = .mk 3 [] [] [fillI] := by rw [hk]; rfl
  rw [hf] at h
  obtain ⟨sa, sc, na, nc, ia, ic, rfl, hO, hb⟩ := h.typed
  exact ⟨_, _, _, _, _, _, _, _, _, rfl, hO, hb⟩
theorem reach_fillB : Reach (.mk 3 [] [] [fillI]) := by
  rw [Reach, ReachL, ReachL, fillI, Reach, ReachL]
  exact ⟨by decide, by decide, by decide, ⟨by decide, by decide, by decide, trivial⟩, trivial⟩
theorem reach_fillI : Reach fillI := by
  rw [fillI, Reach, ReachL]; exact ⟨by decide, by decide, by decide, trivial⟩
theorem reach_item {A : Arr} (h : Reach A) {k : Nat} (hk : k < A.items.length) : Reach A.items[k] := by
  obtain ⟨kk, sh, nu, it⟩ := A
  rw [Reach] at h
  exact h.2.2.2.at hk
theorem Quads.setC {P : Nat → Prop} {w : World} {X o : Nat} {qs : List Value} {l : List Arr} (h : Quads P w qs l) (hX : ∀ g, P g → g ≠ X) (u : Value) : Quads P (w.setCell ⟨X, o, none⟩ u) qs l :=
  h.keep fun g hg _ => ⟨hg, fun o => World.cell?_of_block (set_other _ _ _ _ _ (hX g hg))⟩
theorem Quads.set4C {P : Nat → Prop} {w : World} {X : Nat} {qs : List Value} {l : List Arr} (h : Quads P w qs l) (hX : ∀ g, P g → g ≠ X) (c0 c1 c2 c3 : Value) : Quads P ((((w.setCell ⟨X, 0, none⟩ c0).setCell ⟨X, 1, none⟩ c1).setCell ⟨X, 2, none⟩ c2).setCell ⟨X, 3, none⟩ c3) qs l :=
  (((h.setC hX c0).setC hX c1).setC hX c2).setC hX c3
/-- An array appended to the row in the fourth cell of the block R0. -/
theorem appB {R : Nat} {w0 W w1 : World} {B n R0 : Nat} {V v : Value} {qs : List Value} {l : List Arr} {Pq : Nat → Prop} {A1 : Arr} {e0 e1 e2 e3 c0 c1 c2 : Value} (P : PutS R w0 W B 26 4 V v n qs) (Q0 : Quad W R0 c0 c1 c2 v) (hv : v.ownBlock ≠ some R0) (hB : B ≤ w0.heap.size) (hX : R0 = R ∨ w0.heap.size ≤ R0) (hBR : B ≤ R0)
    (b1 : Below W.heap.size W w1) (hq : Quads (fun g => v.ownBlock ≠ some g ∧ Pq g ∧ g ≠ R0) W qs l) (hPq : ∀ g, W.heap.size ≤ g → Pq g) (hN : ArrOn (fun g => W.heap.size ≤ g) w1 (.agg #[e0, e1, e2, e3]) A1) :
    ∀ (g cap : Nat) (w5 : World), w5.ownsRow B 26 4 (.slice (some ⟨g, 0, none⟩) (n + 1) cap) (n + 1) (qs ++ [e0, e1, e2, e3]) → (w1.alloc (.cells #[e0, e1, e2, e3] 26)).grownBy w5 v.ownBlock → (v.ownBlock = some g ∨ g = w1.heap.size + 1) →
      PutS R w0 (w5.setCell ⟨R0, 3, none⟩ (.slice (some ⟨g, 0, none⟩) (n + 1) cap)) B 26 4 V (.slice (some ⟨g, 0, none⟩) (n + 1) cap) (n + 1) (qs ++ [e0, e1, e2, e3]) ∧ Quad w5 R0 c0 c1 c2 v ∧ Quad (w5.setCell ⟨R0, 3, none⟩ (.slice (some ⟨g, 0, none⟩) (n + 1) cap)) R0 c0 c1 c2 (.slice (some ⟨g, 0, none⟩) (n + 1) cap) ∧ (Value.slice (some ⟨g, 0, none⟩) (n + 1) cap).ownBlock ≠ some R0 ∧
      Quads (fun g' => (Value.slice (some ⟨g, 0, none⟩) (n + 1) cap).ownBlock ≠ some g' ∧ Pq g' ∧ g' ≠ R0) (w5.setCell ⟨R0, 3, none⟩ (.slice (some ⟨g, 0, none⟩) (n + 1) cap)) (qs ++ [e0, e1, e2, e3]) (l ++ [A1]) := by
  intro g cap w5 h1 h2 h3
  have bl := Below.then b1 (below_new w1 (.cells #[e0, e1, e2, e3] 26))
  have s1 := b1.size
  have h3' : v.ownBlock = some g ∨ W.heap.size ≤ g := h3.imp id fun h => by omega
  obtain ⟨x1, x2⟩ := grow_other bl h2 (b := R0) Q0.lt hv h3'
  have hne : (Value.slice (some ⟨g, 0, none⟩) (n + 1) cap).ownBlock ≠ some R0 := by simpa [Value.ownBlock] using x2
  refine ⟨(P.grow bl hB h1 h2 h3').set hX hBR hne _, Q0.keep x1, ((Q0.keep x1).set _).2.2.2, hne, Quads.setC ?_ (fun g hg => hg.2.2) _⟩
  have hR0 := Q0.lt
  have lt1 := P.own.lt
  refine Quads.snoc (ArrOn.keep (P := fun g => W.heap.size ≤ g) (w := w1) (fun b hb hl => ?_) hN) (hq.keep fun b hb hl => ?_)
  · have hnb : v.ownBlock ≠ some b := fun e => by have := (lt1 b e).2; omega
    have hk : w5.heap[b]? = w1.heap[b]? := (h2.block b (by rw [alloc_sizeP]; omega) (Ne.symm hnb)).trans (Below.heap_alloc _ _ _ hl)
    refine ⟨⟨fun e => ?_, hPq b hb, by omega⟩, fun o => World.cell?_of_block hk⟩
    have e' : g = b := by simpa [Value.ownBlock] using e
    subst e'
    rcases h3 with h4 | h4
    · exact hnb h4
    · omega
  · obtain ⟨y1, y2⟩ := grow_other bl h2 (b := b) hl hb.1 h3'
    exact ⟨⟨by simpa [Value.ownBlock] using y2, hb.2⟩, fun o => World.cell?_of_block y1⟩
end Go.Proofs.Ytblgpnijiefopaa.Shape

namespace Go.Proofs.Ytblgpnijiefopaa.Shape
open Go.RowKit
set_option linter.unusedVariables false

set_option maxRecDepth 100000 in
set_option maxHeartbeats 4000000 in
theorem putB_nil (k : Int) (sa : Option Addr) (ls sc : Nat) (na : Option Addr) (ln nc : Nat) (va : Option Addr) (vl vc : Nat) (v2 : Value) (A : Arr) (fa ta : Option Addr) (fl fc tc at' B n : Nat) (qs : List Value) (l : List Arr) (Pq : Nat → Prop) (w : World) (hk : A.kind = 3) (HA0 : ArrAt w v2 A) (hR : Reach A)
    (hB : B ≤ w.heap.size) (hn : n ≤ 10000000) (hat : at' < A.items.length) (hil : A.items.length ≤ 10000000) (own : w.ownsRow B 26 4 (.slice va vl vc) n qs) (hPq : ∀ g, w.heap.size ≤ g → Pq g) (hq : Quads (fun g => (Value.slice va vl vc).ownBlock ≠ some g ∧ Pq g) w qs l) :
    Calls Try.prog 57 #[.agg #[.int .i64 k, .slice sa ls sc, .slice na ln nc, .slice va vl vc], v2, .slice fa fl fc, .slice ta 0 tc, .int .i64 at'] w (GivePutB k sa ls sc na ln nc w B (.slice va vl vc) Pq (n + 1) (l ++ [A.items[at']])) := by
  obtain ⟨k2, s2, l2, c2, n2, m2, d2, ia2, li2, ic2, rfl, hkk⟩ : ∃ k2 s2 l2 c2 n2 m2 d2 ia2 li2 ic2, v2 = .agg #[.int .i64 k2, .slice s2 l2 c2, .slice n2 m2 d2, .slice ia2 li2 ic2] ∧ k2 = A.kind := by
    have h := HA0
    obtain ⟨kk, sh, nu, it⟩ := A
    rw [ArrAt] at h
    obtain ⟨sa, sc, na, nc, ia, ic, hv, -⟩ := h
    exact ⟨_, _, _, _, _, _, _, _, _, _, hv, rfl⟩
  have k3 : (k2 == 3) = true := by rw [hkk, hk]; rfl
  have bw := below_3 w (.cells #[.int .i64 k, .slice sa ls sc, .slice na ln nc, .slice va vl vc] 26) (.cells #[.int .i64 k2, .slice s2 l2 c2, .slice n2 m2 d2, .slice ia2 li2 ic2] 26) (.cells #[.int .i64 0, .slice none 0 0, .slice none 0 0, .slice none 0 0] 26)
  have q0 : Quad (((w.alloc (.cells #[.int .i64 k, .slice sa ls sc, .slice na ln nc, .slice va vl vc] 26)).alloc (.cells #[.int .i64 k2, .slice s2 l2 c2, .slice n2 m2 d2, .slice ia2 li2 ic2] 26)).alloc (.cells #[.int .i64 0, .slice none 0 0, .slice none 0 0, .slice none 0 0] 26)) w.heap.size (.int .i64 k) (.slice sa ls sc) (.slice na ln nc) (.slice va vl vc) := ((Quad.new w (.int .i64 k) (.slice sa ls sc) (.slice na ln nc) (.slice va vl vc)).below (below_new _ (.cells #[.int .i64 k2, .slice s2 l2 c2, .slice n2 m2 d2, .slice ia2 li2 ic2] 26))).below (below_new _ (.cells #[.int .i64 0, .slice none 0 0, .slice none 0 0, .slice none 0 0] 26))
  have q1 : Quad (((w.alloc (.cells #[.int .i64 k, .slice sa ls sc, .slice na ln nc, .slice va vl vc] 26)).alloc (.cells #[.int .i64 k2, .slice s2 l2 c2, .slice n2 m2 d2, .slice ia2 li2 ic2] 26)).alloc (.cells #[.int .i64 0, .slice none 0 0, .slice none 0 0, .slice none 0 0] 26)) (w.heap.size + 1) (.int .i64 k2) (.slice s2 l2 c2) (.slice n2 m2 d2) (.slice ia2 li2 ic2) := by
    simpa using (Quad.new (w.alloc (.cells #[.int .i64 k, .slice sa ls sc, .slice na ln nc, .slice va vl vc] 26)) (.int .i64 k2) (.slice s2 l2 c2) (.slice n2 m2 d2) (.slice ia2 li2 ic2)).below (below_new _ (.cells #[.int .i64 0, .slice none 0 0, .slice none 0 0, .slice none 0 0] 26))
  have qz : Quad (((w.alloc (.cells #[.int .i64 k, .slice sa ls sc, .slice na ln nc, .slice va vl vc] 26)).alloc (.cells #[.int .i64 k2, .slice s2 l2 c2, .slice n2 m2 d2, .slice ia2 li2 ic2] 26)).alloc (.cells #[.int .i64 0, .slice none 0 0, .slice none 0 0, .slice none 0 0] 26)) (w.heap.size + 2) (.int .i64 0) (.slice none 0 0) (.slice none 0 0) (.slice none 0 0) := by
    simpa using Quad.new ((w.alloc (.cells #[.int .i64 k, .slice sa ls sc, .slice na ln nc, .slice va vl vc] 26)).alloc (.cells #[.int .i64 k2, .slice s2 l2 c2, .slice n2 m2 d2, .slice ia2 li2 ic2] 26)) (.int .i64 0) (.slice none 0 0) (.slice none 0 0) (.slice none 0 0)
  have hA3 := HA0.below bw
  have hRi := reach_item hR hat
  have hIX := fun w (h : ArrAt w (.agg #[.int .i64 k2, .slice s2 l2 c2, .slice n2 m2 d2, .slice ia2 li2 ic2]) A) => items_ix h hat
  obtain ⟨IT, hIT⟩ : ∃ IT, A.items[at'] = IT := ⟨_, rfl⟩
  rw [hIT] at hRi ⊢
  simp only [hIT] at hIX
  clear hIT
  have hv := own.lt
  have P0 : PutS w.heap.size w _ B 26 4 (.slice va vl vc) (.slice va vl vc) n qs := (PutS.refl own).below bw hB
  have hq3 : Quads (fun g => (Value.slice va vl vc).ownBlock ≠ some g ∧ (Pq g ∧ g ≠ w.heap.size + 2) ∧ g ≠ w.heap.size) (((w.alloc (.cells #[.int .i64 k, .slice sa ls sc, .slice na ln nc, .slice va vl vc] 26)).alloc (.cells #[.int .i64 k2, .slice s2 l2 c2, .slice n2 m2 d2, .slice ia2 li2 ic2] 26)).alloc (.cells #[.int .i64 0, .slice none 0 0, .slice none 0 0, .slice none 0 0] 26)) qs l := hq.keep fun g hg hl => ⟨⟨hg.1, ⟨hg.2, by omega⟩, by omega⟩, fun o => bw.cell hl⟩
  have HF := fun v' w' (g : ArrAt w' v' A) => fillR_new v' A w' g
  have HFN : ∀ {w w' : World} {e : Ending}, GiveNew (fillA A.kind) w e w' → ∃ kf sf lf cf na ln nc ia ic, e = .returned (.agg #[.int .i64 kf, .slice sf lf cf, .slice na ln nc, .slice ia 1 ic]) ∧ ArrOn (fun g => w.heap.size ≤ g) w' (.agg #[.int .i64 kf, .slice sf lf cf, .slice na ln nc, .slice ia 1 ic]) (.mk 3 [] [] [fillI]) ∧ Below w.heap.size w w' := fun h => fill_box hk h
  obtain ⟨i0, hi0, hz0, hz1, hz2⟩ := info_parts infoArr
  have hs3 : Hid ((((w.alloc (.cells #[.int .i64 k, .slice sa ls sc, .slice na ln nc, .slice va vl vc] 26)).alloc (.cells #[.int .i64 k2, .slice s2 l2 c2, .slice n2 m2 d2, .slice ia2 li2 ic2] 26)).alloc (.cells #[.int .i64 0, .slice none 0 0, .slice none 0 0, .slice none 0 0] 26)).heap.size = w.heap.size + 3) := by unfold Hid; simp
  clear hkk hk HA0 hq
  go_enter Try.func57, Try.ntmps57
  go_wp2_with (go_at_call 29; refine (HF _ _ hA3).mono ?_; intro e w1 hN; (obtain ⟨kf, sf, lf, cf, fna, fln, fnc, fia, fic, rfl, hO, b1⟩ := HFN hN); (obtain ⟨p0, p1, p2, p3, -⟩ := ((q1.below b1).below (below_new w1 (.cells #[.int .i64 kf, .slice sf lf cf, .slice fna fln fnc, .slice fia 1 fic] 26))).cells))
  have bn := below_new w1 (.cells #[.int .i64 kf, .slice sf lf cf, .slice fna fln fnc, .slice fia 1 fic] 26)
  have Q0 := (q0.below b1).below bn
  have QZ := (qz.below b1).below bn
  have hAW := (hA3.below b1).below bn
  have HS := hs3.out
  have P1 := (P0.below b1 hB).below bn hB
  have hqW := (hq3.keep (w' := w1) (R := fun g => (Value.slice va vl vc).ownBlock ≠ some g ∧ (Pq g ∧ g ≠ w.heap.size + 2) ∧ g ≠ w.heap.size) fun g hg hl => ⟨hg, fun o => b1.cell hl⟩).keep (w' := (w1.alloc (.cells #[.int .i64 kf, .slice sf lf cf, .slice fna fln fnc, .slice fia 1 fic] 26))) (R := fun g => (Value.slice va vl vc).ownBlock ≠ some g ∧ (Pq g ∧ g ≠ w.heap.size + 2) ∧ g ≠ w.heap.size) fun g hg hl => ⟨hg, fun o => bn.cell hl⟩
  have S1 := b1.size
  have S2 : w.heap.size + 3 ≤ (w1.alloc (.cells #[.int .i64 kf, .slice sf lf cf, .slice fna fln fnc, .slice fia 1 fic] 26)).heap.size := by have := bn.size; omega
  clear q0 q1 qz P0 bn hO hA3 HF HFN bw hs3 HS S1 b1 hq3 hN
  generalize (w1.alloc (.cells #[.int .i64 kf, .slice sf lf cf, .slice fna fln fnc, .slice fia 1 fic] 26)) = W at *
  generalize w1.heap.size = RF at *
  obtain ⟨ib, io, y0, y1, y2, y3, hix, ⟨h0, h1, h2, h3⟩, hI⟩ := hIX _ hAW
  obtain ⟨r0, r1, r2, r3, r4, r5, r6, r7⟩ := Q0.cells
  have hv0 : (Value.slice va vl vc).ownBlock ≠ some w.heap.size := fun e => by have := (hv _ e).2; omega
  have hvz : (Value.slice va vl vc).ownBlock ≠ some (w.heap.size + 2) := fun e => by have := (hv _ e).2; omega
  have K := cloneR _ _ W.drew (hI.below (Below.refl _ _).drew) hRi
  have hPq2 : ∀ g, W.heap.size ≤ g → Pq g ∧ g ≠ w.heap.size + 2 := fun g hg => ⟨hPq g (by omega), by omega⟩
  have HX := fun (w2 : World) (A1 : Arr) (e0 e1 e2 e3 : Value) (b1 : Below W.heap.size W w2) (hN : ArrOn (fun g => W.heap.size ≤ g) w2 (.agg #[e0, e1, e2, e3]) A1) => appB P1 Q0 hv0 hB (Or.inl rfl) hB b1 hqW hPq2 hN
  have HZ : ∀ (w2 : World) (o : Obj) (g : Nat) (w5 : World), Below W.heap.size W w2 → (w2.alloc o).grownBy w5 (Value.slice va vl vc).ownBlock → ((Value.slice va vl vc).ownBlock = some g ∨ g = w2.heap.size + 1) → Quad w5 (w.heap.size + 2) (.int .i64 0) (.slice none 0 0) (.slice none 0 0) (.slice none 0 0) ∧ g ≠ w.heap.size + 2 := by
    intro w2 o g w5 b2 h2 h3
    have h3' : (Value.slice va vl vc).ownBlock = some g ∨ W.heap.size ≤ g := h3.imp id fun h => by have := b2.size; omega
    obtain ⟨y1, y2⟩ := grow_other (Below.then b2 (below_new w2 o)) h2 (b := w.heap.size + 2) (by omega) hvz h3'
    exact ⟨QZ.keep y1, y2⟩
  have ho := P1.own
  have hbase : B ≤ W.heap.size := by omega
  have HR0 := Q0
  clear P1 Q0 QZ own hv hv0 hvz hqW hI hAW
  go_region_law ((first
    | (refine step_append_lies _ (by rfl) _ _ _ (by rfl) B 26 i0 _ 4 80 Try.underlying24 hi0 hz0 hz1 hz2 rfl (by omega) (.slice va vl vc) n qs (by rfl) (own_alloc ho b2 _) ⟨w2.heap.size, 0, none⟩ 1 1 [e0, e1, e2, e3] (by rfl) (by rfl) (World.news_of_block (cs := #[e0, e1, e2, e3]) (t := 26) (fr := (0, 0)) (heap_alloc_new w2 _)) oc (by omega) (by unfold maxLen; omega) (by omega) (by have := b2.size; rw [alloc_sizeP]; omega) (w2.heap.size + 1) (by rw [alloc_sizeP]) ?_; intro gg cap w5 hown hgrow hat' hl5; (obtain ⟨P5, Q5, Q6, ne0, hq5⟩ := HX w2 _ e0 e1 e2 e3 b2 hN2 gg cap w5 hown hgrow hat'); (obtain ⟨Z5, nez⟩ := HZ w2 _ gg w5 b2 hgrow hat'); (obtain ⟨t0, t1, t2, t3, t4, t5, t6, t7⟩ := Q5.cells))
    | (go_simp; refine K.mono ?_; rintro e w2 ⟨e0, e1, e2, e3, rfl, oc, hN2, b1⟩; (have b2 : Below W.heap.size W w2 := Below.trans (Below.refl _ _).drew b1); (obtain ⟨u0, u1, u2, u3, u4, u5, u6, u7⟩ := (HR0.below b2).cells); (have u9 : (w2.alloc (.cells #[e0, e1, e2, e3] 26)).cell? ⟨w.heap.size, 3, none⟩ = some (.slice va vl vc) := by rw [World.cell?_alloc_past _ _ _ (cell_lt u3)]; exact u3))))
  all_goals
    have Z6 := Z5.keep (set_other w5 w.heap.size 3 (w.heap.size + 2) (.slice (some ⟨gg, 0, none⟩) (n + 1) cap) (by omega))
    obtain ⟨z0, z1, z2, z3, z4, z5, z6, z7⟩ := Z6.cells
    have P7 := P5.set4 (X := w.heap.size + 2) (Or.inr (by omega)) (by omega) (by simpa [Value.ownBlock] using nez) (.int .i64 k) (.slice sa ls sc) (.slice na ln nc) (.slice (some ⟨gg, 0, none⟩) (n + 1) cap)
    have hq7 := hq5.set4C (X := w.heap.size + 2) (fun g hg => hg.2.1.2) (.int .i64 k) (.slice sa ls sc) (.slice na ln nc) (.slice (some ⟨gg, 0, none⟩) (n + 1) cap)
    obtain ⟨QW, -⟩ := set4 Z6 (.int .i64 k) (.slice sa ls sc) (.slice na ln nc) (.slice (some ⟨gg, 0, none⟩) (n + 1) cap)
    go_wp2_with fail
    generalize (((((w5.setCell ⟨w.heap.size, 3, none⟩ (.slice (some ⟨gg, 0, none⟩) (n + 1) cap)).setCell ⟨w.heap.size + 2, 0, none⟩ (.int .i64 k)).setCell ⟨w.heap.size + 2, 1, none⟩ (.slice sa ls sc)).setCell ⟨w.heap.size + 2, 2, none⟩ (.slice na ln nc)).setCell ⟨w.heap.size + 2, 3, none⟩ (.slice (some ⟨gg, 0, none⟩) (n + 1) cap)) = WW at QW P7 hq7 ⊢
    obtain ⟨x0, x1, x2, x3, -⟩ := QW.cells
    exact bodyPost_ret (v := .agg #[.int .i64 k, .slice sa ls sc, .slice na ln nc, .slice (some ⟨gg, 0, none⟩) (n + 1) cap]) (by simp [results, Try.results57, go_sem, x0, x1, x2, x3]) rfl ⟨_, _, _, _, rfl, P7, Quads.keep (P := fun g => (Value.slice (some ⟨gg, 0, none⟩) (n + 1) cap).ownBlock ≠ some g ∧ (Pq g ∧ g ≠ w.heap.size + 2) ∧ g ≠ w.heap.size) (w := WW) (w' := WW) (fun g hg _ => ⟨⟨hg.1, hg.2.1.1⟩, fun _ => rfl⟩) hq7⟩
end Go.Proofs.Ytblgpnijiefopaa.Shape

namespace Go.Proofs.Ytblgpnijiefopaa.Shape
open Go.RowKit
set_option linter.unusedVariables false

set_option maxRecDepth 100000 in
set_option maxHeartbeats 8000000 in
theorem putB_step (t f : Int) (tt ff : List Int) (ih : PutBSpec tt ff) : PutBSpec (t :: tt) (f :: ff) := by
  intro w k sa ls sc na ln nc va vl vc v2 A fa fl fc ta tl tc at' B n qs l Pq hk hA hR hfl htl hf ht hrt hrf hlen hB hn hat hAl own hPq hq
  have hNt := (right_def.1 hrt).2.1
  have hNf := (right_def.1 hrf).2.1
  obtain ⟨T, rfl⟩ : ∃ T : Nat, t = T := ⟨t.toNat, by have := hNt.head; omega⟩
  obtain ⟨Fn, rfl⟩ : ∃ T : Nat, f = T := ⟨f.toNat, by have := hNf.head; omega⟩
  have hrt' := right_tailC hrt
  have hrf' := right_tailC hrf
  have hT := (dim_bd hrt (k := 0) (by simp)).2
  have hFn := (dim_bd hrf (k := 0) (by simp)).2
  simp only [List.getElem_cons_zero] at hT hFn
  rw [prN_cons hNt.head hNt.tail] at hn ⊢
  rw [prN_cons hNf.head hNf.tail] at hat ⊢
  rw [← pieces_end]
  simp only [Int.toNat_natCast] at *
  have hs6 := prN_le hrt'
  have hm6 := prN_le hrf'
  have hSZf := size_prN hrf'
  have hSZt := size_prN hrt'
  have hlen' : tt.length = ff.length := by simpa using hlen
  have SF := fun a c W (g : IntsAt W a c ff) => refSizeR a c ff W g
  have ST := fun a c W (g : IntsAt W a c tt) => refSizeR a c tt W g
  rw [hSZf] at SF
  rw [hSZt] at ST
  have HA0 := hA.at
  obtain ⟨k2, s2, l2, c2, n2, m2, d2, ia2, li2, ic2, rfl, hkk⟩ : ∃ k2 s2 l2 c2 n2 m2 d2 ia2 li2 ic2, v2 = .agg #[.int .i64 k2, .slice s2 l2 c2, .slice n2 m2 d2, .slice ia2 li2 ic2] ∧ k2 = A.kind := by
    have h := HA0
    obtain ⟨kk, sh, nu, it⟩ := A
    rw [ArrAt] at h
    obtain ⟨sa, sc, na, nc, ia, ic, hv, -⟩ := h
    exact ⟨_, _, _, _, _, _, _, _, _, _, hv, rfl⟩
  have k3 : (k2 == 3) = true := by rw [hkk, hk]; rfl
  have bw := below_3 w (.cells #[.int .i64 k, .slice sa ls sc, .slice na ln nc, .slice va vl vc] 26) (.cells #[.int .i64 k2, .slice s2 l2 c2, .slice n2 m2 d2, .slice ia2 li2 ic2] 26) (.cells #[.int .i64 0, .slice none 0 0, .slice none 0 0, .slice none 0 0] 26)
  have q0 : Quad (((w.alloc (.cells #[.int .i64 k, .slice sa ls sc, .slice na ln nc, .slice va vl vc] 26)).alloc (.cells #[.int .i64 k2, .slice s2 l2 c2, .slice n2 m2 d2, .slice ia2 li2 ic2] 26)).alloc (.cells #[.int .i64 0, .slice none 0 0, .slice none 0 0, .slice none 0 0] 26)) w.heap.size (.int .i64 k) (.slice sa ls sc) (.slice na ln nc) (.slice va vl vc) := ((Quad.new w (.int .i64 k) (.slice sa ls sc) (.slice na ln nc) (.slice va vl vc)).below (below_new _ (.cells #[.int .i64 k2, .slice s2 l2 c2, .slice n2 m2 d2, .slice ia2 li2 ic2] 26))).below (below_new _ (.cells #[.int .i64 0, .slice none 0 0, .slice none 0 0, .slice none 0 0] 26))
  have q1 : Quad (((w.alloc (.cells #[.int .i64 k, .slice sa ls sc, .slice na ln nc, .slice va vl vc] 26)).alloc (.cells #[.int .i64 k2, .slice s2 l2 c2, .slice n2 m2 d2, .slice ia2 li2 ic2] 26)).alloc (.cells #[.int .i64 0, .slice none 0 0, .slice none 0 0, .slice none 0 0] 26)) (w.heap.size + 1) (.int .i64 k2) (.slice s2 l2 c2) (.slice n2 m2 d2) (.slice ia2 li2 ic2) := by
    simpa using (Quad.new (w.alloc (.cells #[.int .i64 k, .slice sa ls sc, .slice na ln nc, .slice va vl vc] 26)) (.int .i64 k2) (.slice s2 l2 c2) (.slice n2 m2 d2) (.slice ia2 li2 ic2)).below (below_new _ (.cells #[.int .i64 0, .slice none 0 0, .slice none 0 0, .slice none 0 0] 26))
  have qz : Quad (((w.alloc (.cells #[.int .i64 k, .slice sa ls sc, .slice na ln nc, .slice va vl vc] 26)).alloc (.cells #[.int .i64 k2, .slice s2 l2 c2, .slice n2 m2 d2, .slice ia2 li2 ic2] 26)).alloc (.cells #[.int .i64 0, .slice none 0 0, .slice none 0 0, .slice none 0 0] 26)) (w.heap.size + 2) (.int .i64 0) (.slice none 0 0) (.slice none 0 0) (.slice none 0 0) := by
    simpa using Quad.new ((w.alloc (.cells #[.int .i64 k, .slice sa ls sc, .slice na ln nc, .slice va vl vc] 26)).alloc (.cells #[.int .i64 k2, .slice s2 l2 c2, .slice n2 m2 d2, .slice ia2 li2 ic2] 26)) (.int .i64 0) (.slice none 0 0) (.slice none 0 0) (.slice none 0 0)
  have e0 : ((tl : Int) == 0) = false := by rw [htl]; simp; omega
  obtain ⟨fa', fc', iF0, sF'⟩ := tailOn hf hfl rfl
  obtain ⟨ta', tc', iT0, sT'⟩ := tailOn ht htl rfl
  have hA3 := hA.below bw
  have hF3' := iF0.below bw
  have hT3' := iT0.below bw
  have hF3 := hf.below bw
  have hT3 := ht.below bw
  have hv := own.lt
  have P0 : PutS w.heap.size w _ B 26 4 (.slice va vl vc) (.slice va vl vc) n qs := (PutS.refl own).below bw hB
  have hq3 : Quads (fun g => (Value.slice va vl vc).ownBlock ≠ some g ∧ (Pq g ∧ g ≠ w.heap.size + 2) ∧ g ≠ w.heap.size) (((w.alloc (.cells #[.int .i64 k, .slice sa ls sc, .slice na ln nc, .slice va vl vc] 26)).alloc (.cells #[.int .i64 k2, .slice s2 l2 c2, .slice n2 m2 d2, .slice ia2 li2 ic2] 26)).alloc (.cells #[.int .i64 0, .slice none 0 0, .slice none 0 0, .slice none 0 0] 26)) qs l := hq.keep fun g hg hl => ⟨⟨hg.1, ⟨hg.2, by omega⟩, by omega⟩, fun o => bw.cell hl⟩
  have HF := fun v' w' (g : ArrAt w' v' A) => fillR_new v' A w' g
  have HFN : ∀ {w w' : World} {e : Ending}, GiveNew (fillA A.kind) w e w' → ∃ kf sf lf cf na ln nc ia ic, e = .returned (.agg #[.int .i64 kf, .slice sf lf cf, .slice na ln nc, .slice ia 1 ic]) ∧ ArrOn (fun g => w.heap.size ≤ g) w' (.agg #[.int .i64 kf, .slice sf lf cf, .slice na ln nc, .slice ia 1 ic]) (.mk 3 [] [] [fillI]) ∧ Below w.heap.size w w' := fun h => fill_box hk h
  have HK : Hid (A.kind = 3) := hk
  have HR : Hid (Reach A) := hR
  obtain ⟨i0, hi0, hz0, hz1, hz2⟩ := info_parts infoArr
  obtain ⟨s, hs⟩ : ∃ s, prN tt = s := ⟨_, rfl⟩
  obtain ⟨m, hm⟩ : ∃ m, prN ff = m := ⟨_, rfl⟩
  rw [hs] at hn hs6 ST ⊢
  rw [hm] at hat hm6 SF ⊢
  have HFL : Hid (fl = (((Fn : Int) :: ff).length)) := hfl
  have HTL : Hid (tl = (((T : Int) :: tt).length)) := htl
  have hs3 : Hid ((((w.alloc (.cells #[.int .i64 k, .slice sa ls sc, .slice na ln nc, .slice va vl vc] 26)).alloc (.cells #[.int .i64 k2, .slice s2 l2 c2, .slice n2 m2 d2, .slice ia2 li2 ic2] 26)).alloc (.cells #[.int .i64 0, .slice none 0 0, .slice none 0 0, .slice none 0 0] 26)).heap.size = w.heap.size + 3) := by unfold Hid; simp
  have HAt : Hid (at' + Fn * m ≤ A.items.length) := hat
  have HAl : Hid (A.items.length ≤ 10000000) := hAl
  have Hn : Hid (n + T * s ≤ 10000000) := hn
  have HRT : Hid (rightB tt = true ∧ rightB ff = true ∧ tt.length = ff.length ∧ prN tt = s ∧ prN ff = m) := ⟨hrt', hrf', hlen', hs, hm⟩
  clear hkk hk hfl htl hrt hrf hrt' hrf' hlen hlen' hNt hNf hSZf hSZt hs hm hFn hat hAl hn hA HA0 hf ht iF0 iT0 hR hq
  obtain ⟨EL, hEL⟩ : ∃ EL, (A.items.drop at').take (Fn * m) = EL := ⟨_, rfl⟩
  rw [hEL]
  have HEL : Hid ((A.items.drop at').take (Fn * m) = EL) := hEL
  clear hEL
  go_enter Try.func57, Try.ntmps57
  go_wp2_with (go_at_call 29; refine (HF _ _ hA3.at).mono ?_; intro e w1 hN; (obtain ⟨kf, sf, lf, cf, fna, fln, fnc, fia, fic, rfl, hO, b1⟩ := HFN hN))
  have bn := below_new w1 (.cells #[.int .i64 kf, .slice sf lf cf, .slice fna fln fnc, .slice fia 1 fic] 26)
  have Q0 := (q0.below b1).below bn
  have Q1 := (q1.below b1).below bn
  have QZ := (qz.below b1).below bn
  have QF := Quad.new w1 (.int .i64 kf) (.slice sf lf cf) (.slice fna fln fnc) (.slice fia 1 fic)
  have HS := hs3.out
  have S1 := b1.size
  have P1 := (P0.below b1 hB).below bn hB
  have hv0 : ∀ g, w.heap.size ≤ g → (Value.slice va vl vc).ownBlock ≠ some g := fun g hg e => by have := (hv _ e).2; omega
  have hAW := ((hA3.below b1).below bn).mono (R := fun g => (Value.slice va vl vc).ownBlock ≠ some g ∧ g ≠ w.heap.size) fun g hg => ⟨hg.1.1.1, by omega⟩
  have hFW := ((hF3.below b1).below bn).mono (R := fun g => (Value.slice va vl vc).ownBlock ≠ some g ∧ g ≠ w.heap.size) fun g hg => ⟨hg.1.1.1, by omega⟩
  have hTW := ((hT3.below b1).below bn).mono (R := fun g => (Value.slice va vl vc).ownBlock ≠ some g ∧ g ≠ w.heap.size) fun g hg => ⟨hg.1.1.1, by omega⟩
  have hFW' := ((hF3'.below b1).below bn).mono (R := fun g => (Value.slice va vl vc).ownBlock ≠ some g ∧ g ≠ w.heap.size) fun g hg => ⟨hg.1.1.1, by omega⟩
  have hTW' := ((hT3'.below b1).below bn).mono (R := fun g => (Value.slice va vl vc).ownBlock ≠ some g ∧ g ≠ w.heap.size) fun g hg => ⟨hg.1.1.1, by omega⟩
  have hOW := (hO.below bn).mono (R := fun g => (Value.slice va vl vc).ownBlock ≠ some g ∧ g ≠ w.heap.size) fun g hg => ⟨hv0 g (by omega), by omega⟩
  have hqW := (hq3.keep (w' := w1) (R := fun g => (Value.slice va vl vc).ownBlock ≠ some g ∧ (Pq g ∧ g ≠ w.heap.size + 2) ∧ g ≠ w.heap.size) fun g hg hl => ⟨hg, fun o => b1.cell hl⟩).keep (w' := (w1.alloc (.cells #[.int .i64 kf, .slice sf lf cf, .slice fna fln fnc, .slice fia 1 fic] 26))) (R := fun g => (Value.slice va vl vc).ownBlock ≠ some g ∧ (Pq g ∧ g ≠ w.heap.size + 2) ∧ g ≠ w.heap.size) fun g hg hl => ⟨hg, fun o => bn.cell hl⟩
  have hvR : ∀ g, w.heap.size ≤ g → Hid ((Value.slice va vl vc).ownBlock ≠ some g) := fun g hg => hv0 g hg
  have S2 : w.heap.size + 4 ≤ (w1.alloc (.cells #[.int .i64 kf, .slice sf lf cf, .slice fna fln fnc, .slice fia 1 fic] 26)).heap.size := by rw [alloc_sizeP]; omega
  have hRF : w.heap.size + 3 ≤ w1.heap.size := by omega
  clear q0 q1 qz P0 bn hO hA3 hF3 hT3 hF3' hT3' HF HFN hs3 HS S1 b1 hv hv0 hN bw hq3
  generalize (w1.alloc (.cells #[.int .i64 kf, .slice sf lf cf, .slice fna fln fnc, .slice fia 1 fic] 26)) = W at *
  generalize w1.heap.size = RF at *
  have hPq2 : ∀ g, W.heap.size ≤ g → Pq g ∧ g ≠ w.heap.size + 2 := fun g hg => ⟨hPq g (by omega), by omega⟩
  have K : ∀ {wr : World} {v' : Value} {n' : Nat} {q' : List Value}, PutS w.heap.size W wr B 26 4 (.slice va vl vc) v' n' q' → Quad wr (w.heap.size + 1) (.int .i64 k2) (.slice s2 l2 c2) (.slice n2 m2 d2) (.slice ia2 li2 ic2) ∧ Quad wr (w.heap.size + 2) (.int .i64 0) (.slice none 0 0) (.slice none 0 0) (.slice none 0 0) ∧ Quad wr RF (.int .i64 kf) (.slice sf lf cf) (.slice fna fln fnc) (.slice fia 1 fic) ∧
      ArrOn (fun g => v'.ownBlock ≠ some g ∧ g ≠ w.heap.size) wr (.agg #[.int .i64 kf, .slice sf lf cf, .slice fna fln fnc, .slice fia 1 fic]) (.mk 3 [] [] [fillI]) ∧ ArrOn (fun g => v'.ownBlock ≠ some g ∧ g ≠ w.heap.size) wr (.agg #[.int .i64 k2, .slice s2 l2 c2, .slice n2 m2 d2, .slice ia2 li2 ic2]) A ∧ IntsOn (fun g => v'.ownBlock ≠ some g ∧ g ≠ w.heap.size) wr fa fc ((Fn : Int) :: ff) ∧ IntsOn (fun g => v'.ownBlock ≠ some g ∧ g ≠ w.heap.size) wr ta tc ((T : Int) :: tt) ∧ IntsOn (fun g => v'.ownBlock ≠ some g ∧ g ≠ w.heap.size) wr fa' fc' ff ∧ IntsOn (fun g => v'.ownBlock ≠ some g ∧ g ≠ w.heap.size) wr ta' tc' tt :=
    fun h => ⟨h.quad Q1 (by omega) (hvR _ (by omega)).out, h.quad QZ (by omega) (hvR _ (by omega)).out, h.quad QF (by omega) (hvR _ (by omega)).out, h.arr hOW, h.arr hAW, h.ints hFW, h.ints hTW, h.ints hFW', h.ints hTW'⟩
  have PW := PutS.refl (R := w.heap.size) (show W.ownsRow B 26 4 (.slice va vl vc) n qs from P1.own)
  have SF1 := SF fa' fc' W hFW'.1
  have hvR0 := hvR w.heap.size (Nat.le_refl _)
  have PWh : Hid (PutS w.heap.size W W B 26 4 (.slice va vl vc) (.slice va vl vc) n qs) := PW
  have Q0h : Hid (Quad W w.heap.size (.int .i64 k) (.slice sa ls sc) (.slice na ln nc) (.slice va vl vc)) := Q0
  have P1h : Hid (PutS w.heap.size w W B 26 4 (.slice va vl vc) (.slice va vl vc) n qs) := P1
  have HQW : Hid (Quads (fun g => (Value.slice va vl vc).ownBlock ≠ some g ∧ (Pq g ∧ g ≠ w.heap.size + 2) ∧ g ≠ w.heap.size) W qs l) := hqW
  clear PW Q0 Q1 QZ QF hOW hAW hFW hTW hFW' hTW' P1 SF hqW
  go_wp2_with (go_at_call 50; refine SF1.mono ?_; rintro e w2 ⟨rfl, rfl⟩)
  go_loopw [13] (fun i wr => ∃ (j : Nat) (a' : Option Addr) (l' c' : Nat) (qs' : List Value), j ≤ T ∧ i = .int .i64 j ∧ PutS w.heap.size W wr B 26 4 (.slice va vl vc) (.slice a' l' c') (n + j * s) qs' ∧ Quads (fun g => (Value.slice a' l' c').ownBlock ≠ some g ∧ (Pq g ∧ g ≠ w.heap.size + 2) ∧ g ≠ w.heap.size) wr qs' (l ++ pieces fillI tt ff (Fn : Int) EL j) ∧ Quad wr w.heap.size (.int .i64 k) (.slice sa ls sc) (.slice na ln nc) (.slice a' l' c') ∧ (Value.slice a' l' c').ownBlock ≠ some w.heap.size) (fun i _ => T - (intOf i).toNat)
  case atStart => exact ⟨0, va, vl, vc, qs, Nat.zero_le _, rfl, by rw [Nat.zero_mul, Nat.add_zero]; exact PWh.out, by rw [pieces_zero, List.append_nil]; exact HQW.out, Q0h.out, hvR0.out⟩
  case round =>
    clear PWh Q0h SF1 HQW
    obtain ⟨j, a', l', c', qs', hj, rfl, hP, hqj, hQ, hne⟩ := hrel
    have hBW : B ≤ W.heap.size := by omega
    obtain ⟨K1, K2, K3, K4, K5, K6, K7, K8, K9⟩ := K hP
    obtain ⟨p0, p1, p2, p3, -⟩ := K1.cells
    obtain ⟨r0, r1, r2, r3, r4, r5, r6, r7⟩ := hQ.cells
    obtain ⟨f0, f1, f2, f3, -⟩ := K3.cells
    obtain ⟨tb, to', ti, tcell, -⟩ := firstAt K7 HTL.out
    obtain ⟨fb, fo, fi, fcell, -⟩ := firstAt K6 HFL.out
    by_cases hlt : j < T
    · by_cases c1 : j < Fn
      · by_cases hm0 : 0 < m
        · obtain ⟨q, hqe⟩ : ∃ q, j * m = q := ⟨_, rfl⟩
          have hq1 : q + m ≤ Fn * m := by rw [← hqe, ← Nat.succ_mul]; exact Nat.mul_le_mul_right _ c1
          obtain ⟨p, hp⟩ : ∃ p, at' + q = p := ⟨_, rfl⟩
          have hat2 := HAt.out
          have hal2 := HAl.out
          have e5 : (j : Int) * (m : Int) = (q : Int) := by rw [← hqe]; simp
          obtain ⟨e6, ew1, ew2, hpm⟩ := put_nums hp hq1 hat2 hal2
          have hE : padS fillI tt ff ((A.items.drop p).take (prN ff)) = piece fillI tt ff (Fn : Int) EL j := by
            rw [piece, HRT.out.2.2.2.2, if_pos ⟨by simpa using c1, hm0⟩, ← HEL.out, blk_take _ _ _ _ (by rw [Nat.succ_mul, hqe]; exact hq1), List.drop_drop, hqe, hp]
          have hnB : n + j * s + s ≤ 10000000 := by
            have h1 : (j + 1) * s ≤ T * s := Nat.mul_le_mul_right _ hlt
            have := Hn.out
            rw [Nat.succ_mul] at h1
            omega
          have hsz := hP.bel.size
          have hltR := hQ.lt
          have A1 : ArrOn (fun g => (Value.slice a' l' c').ownBlock ≠ some g) wr.drew (.agg #[.int .i64 k2, .slice s2 l2 c2, .slice n2 m2 d2, .slice ia2 li2 ic2]) A := ArrOn.keep (P := fun g => (Value.slice a' l' c').ownBlock ≠ some g ∧ g ≠ w.heap.size) (w := wr) (w' := wr.drew) (fun g hg _ => ⟨hg.1, fun _ => rfl⟩) K5
          have A2 : IntsOn (fun g => (Value.slice a' l' c').ownBlock ≠ some g) wr.drew fa' fc' ff := IntsOn.keep (P := fun g => (Value.slice a' l' c').ownBlock ≠ some g ∧ g ≠ w.heap.size) (w := wr) (w' := wr.drew) (fun g hg _ => ⟨hg.1, fun _ => rfl⟩) K8
          have A3 : IntsOn (fun g => (Value.slice a' l' c').ownBlock ≠ some g) wr.drew ta' tc' tt := IntsOn.keep (P := fun g => (Value.slice a' l' c').ownBlock ≠ some g ∧ g ≠ w.heap.size) (w := wr) (w' := wr.drew) (fun g hg _ => ⟨hg.1, fun _ => rfl⟩) K9
          have A4 : B ≤ wr.drew.heap.size := by show B ≤ wr.heap.size; omega
          have A5 : n + j * s + prN tt ≤ 10000000 := by rw [HRT.out.2.2.2.1]; exact hnB
          have A6 : p + prN ff ≤ A.items.length := by rw [HRT.out.2.2.2.2]; exact hpm
          have A8 : wr.drew.ownsRow B 26 4 (.slice a' l' c') (n + j * s) qs' := hP.own
          have A9 : Quads (fun g => (Value.slice a' l' c').ownBlock ≠ some g ∧ (fun g => (Pq g ∧ g ≠ w.heap.size + 2) ∧ g ≠ w.heap.size) g) wr.drew qs' (l ++ pieces fillI tt ff (Fn : Int) EL j) := Quads.keep (P := fun g => (Value.slice a' l' c').ownBlock ≠ some g ∧ (Pq g ∧ g ≠ w.heap.size + 2) ∧ g ≠ w.heap.size) (w := wr) (w' := wr.drew) (fun g hg _ => ⟨hg, fun _ => rfl⟩) hqj
          have A10 : ∀ g, wr.drew.heap.size ≤ g → (fun g => (Pq g ∧ g ≠ w.heap.size + 2) ∧ g ≠ w.heap.size) g := fun g hg => ⟨hPq2 g (Nat.le_trans hsz hg), Nat.ne_of_gt (Nat.lt_of_lt_of_le hltR hg)⟩
          have ih1 := ih wr.drew k sa ls sc na ln nc a' l' c' _ A fa' ff.length fc' ta' tt.length tc' p B (n + j * s) _ _ _ HK.out A1 HR.out rfl rfl A2 A3 HRT.out.1 HRT.out.2.1 HRT.out.2.2.1 A4 A5 A6 hal2 A8 A10 A9
          clear A1 A2 A3 A4 A5 A6 A8 A9 A10
          rw [hE, HRT.out.2.2.2.1] at ih1
          have hpc : Hid (pieces fillI tt ff (Fn : Int) EL (j + 1) = pieces fillI tt ff (Fn : Int) EL j ++ piece fillI tt ff (Fn : Int) EL j) := pieces_succ _ _ _ _ _ _
          generalize piece fillI tt ff (Fn : Int) EL j = PJ at *
          rw [show (p : Int) = wrap64 ((at' : Int) + wrap64 (q : Int)) by rw [ew1, e6, ew2]] at ih1
          clear hE hpm hq1 hat2 hal2 hqe hp ih
          go_wp2_with fail
          go_still_tail 11, (by kernel_rfl)
          go_wp2_with (go_at_call 57; (with_reducible refine ih1.mono ?_); rintro e w2 ⟨a2, l2', c2', qs2, rfl, hP2, hq2⟩; (obtain ⟨h1, hne2⟩ := hP2.far w.heap.size hQ.lt (Nat.ne_of_lt hQ.lt) hne); (have hQ2 := hQ.keep (w' := w2) h1); (obtain ⟨t0, t1, t2, t3, t4, t5, t6, t7⟩ := hQ2.cells))
          have hP3 := hP.drew.trans hP2 (Or.inl hsz)
          go_roundw
          case rel => exact ⟨j + 1, a2, l2', c2', qs2, by omega, by go_num, by
            rw [Nat.succ_mul, ← Nat.add_assoc]
            exact hP3.set4 (Or.inl rfl) hB hne2 _ _ _ _, by
            rw [hpc.out, ← List.append_assoc]
            exact hq2.set4C (fun g hg => hg.2.2) _ _ _ _, (set4 hQ2 _ _ _ _).1, hne2⟩
          case measure => simp [intOf]; omega
        · have c3 : ¬ (0 : Int) < (m : Int) := by omega
          have hpc : Hid (pieces fillI tt ff (Fn : Int) EL (j + 1) = pieces fillI tt ff (Fn : Int) EL j ++ List.replicate s fillI) := by
            unfold Hid
            rw [pieces_succ, piece, HRT.out.2.2.2.2, if_neg (by simp; omega), HRT.out.2.2.2.1]
          go_wp2_with fail
          go_loopw [14] (fun i wr2 => ∃ (j2 : Nat) (a' : Option Addr) (l' c' : Nat) (qs' : List Value), j2 ≤ s ∧ i = .int .i64 j2 ∧ PutS w.heap.size W wr2 B 26 4 (.slice va vl vc) (.slice a' l' c') (n + j * s + j2) qs' ∧ Quads (fun g => (Value.slice a' l' c').ownBlock ≠ some g ∧ (Pq g ∧ g ≠ w.heap.size + 2) ∧ g ≠ w.heap.size) wr2 qs' (l ++ (pieces fillI tt ff (Fn : Int) EL j ++ List.replicate j2 fillI)) ∧ Quad wr2 w.heap.size (.int .i64 k) (.slice sa ls sc) (.slice na ln nc) (.slice a' l' c') ∧ (Value.slice a' l' c').ownBlock ≠ some w.heap.size) (fun i _ => s - (intOf i).toNat)
          case atStart => exact ⟨0, a', l', c', qs', Nat.zero_le _, rfl, hP, by rw [List.replicate_zero, List.append_nil]; exact hqj, hQ, hne⟩
          case round =>
            clear p0 p1 p2 p3 r0 r1 r2 r3 r4 r5 r6 r7 f0 f1 f2 f3 ti tcell fi fcell hP hQ hne ih hqj
            obtain ⟨j2, b', m', d', qs2, hj2, rfl, hP2, hqj2, hQ2, hne2⟩ := hrel
            obtain ⟨K1, K2, K3, K4, K5, K6, K7, K8, K9⟩ := K hP2
            obtain ⟨p0, p1, p2, p3, -⟩ := K1.cells
            obtain ⟨r0, r1, r2, r3, r4, r5, r6, r7⟩ := hQ2.cells
            obtain ⟨f0, f1, f2, f3, -⟩ := K3.cells
            have ST1 := ST ta' tc' wr K9.1
            by_cases hlt2 : j2 < s
            · obtain ⟨ib, io, y0, y1, y2, y3, hix, ⟨h0, h1, h2, h3⟩, hI⟩ := items_ix K4.at (k := 0) (by show 0 < 1; decide)
              have hix0 : ∀ w', (Instr.indexAt 24 (.slice fia 1 fic) (.int .i64 0)).run Try.prog w' = .ok (.pointer (some ⟨ib, io, none⟩)) w' := fun w' => hix w'
              have hI' : ArrAt wr (.agg #[y0, y1, y2, y3]) fillI := hI
              have KC := cloneR _ _ wr.drew (hI'.below (Below.refl _ _).drew) reach_fillI
              have HX := fun (w2 : World) (A1 : Arr) (e0 e1 e2 e3 : Value) (b1 : Below wr.heap.size wr w2) (hN : ArrOn (fun g => wr.heap.size ≤ g) w2 (.agg #[e0, e1, e2, e3]) A1) => appB hP2 hQ2 hne2 hBW (Or.inl rfl) hB b1 hqj2 (fun g hg => hPq2 g (by have := hP2.bel.size; omega)) hN
              have ho := hP2.own
              have hRs : Hid (l ++ (pieces fillI tt ff (Fn : Int) EL j ++ List.replicate (j2 + 1) fillI) = l ++ (pieces fillI tt ff (Fn : Int) EL j ++ List.replicate j2 fillI) ++ [fillI]) := by
                unfold Hid
                rw [List.replicate_succ', ← List.append_assoc (pieces fillI tt ff (Fn : Int) EL j), ← List.append_assoc]
              have hnB : n + j * s + j2 + 1 ≤ 10000000 := by
                have h1 : (j + 1) * s ≤ T * s := Nat.mul_le_mul_right _ hlt
                have := Hn.out
                rw [Nat.succ_mul] at h1
                omega
              generalize l ++ (pieces fillI tt ff (Fn : Int) EL j ++ List.replicate j2 fillI) = LL at *
              obtain ⟨NN2, hNN⟩ : ∃ NN2, n + j * s + j2 = NN2 := ⟨_, rfl⟩
              have hNs : Hid (n + j * s + (j2 + 1) = NN2 + 1) := by unfold Hid; omega
              rw [hNN] at HX ho hnB
              have hbase : B ≤ wr.heap.size := by have := hP2.bel.size; omega
              have HR0 := hQ2
              clear hNN
              clear K1 K2 K3 K4 K5 K6 K7 K8 K9 hP2 hQ2 hpc hix hI hI' hqj2
              go_wp2_with (go_at_call 50; refine ST1.mono ?_; rintro e w2 ⟨rfl, rfl⟩)
              go_region_law ((first
                | (refine step_append_lies _ (by rfl) _ _ _ (by rfl) B 26 i0 _ 4 80 Try.underlying24 hi0 hz0 hz1 hz2 rfl (by omega) (.slice b' m' d') NN2 qs2 (by rfl) (own_alloc ho b2 _) ⟨w2.heap.size, 0, none⟩ 1 1 [e0, e1, e2, e3] (by rfl) (by rfl) (World.news_of_block (cs := #[e0, e1, e2, e3]) (t := 26) (fr := (0, 0)) (heap_alloc_new w2 _)) oc (by omega) (by unfold maxLen; omega) (by omega) (by have := b2.size; rw [alloc_sizeP]; omega) (w2.heap.size + 1) (by rw [alloc_sizeP]) ?_; intro gg cap w5 hown hgrow hat' hl5; (obtain ⟨P5, Q5, Q6, ne5, hq5⟩ := HX w2 _ e0 e1 e2 e3 b2 hN2 gg cap w5 hown hgrow hat'); (obtain ⟨t0, t1, t2, t3, t4, t5, t6, t7⟩ := Q5.cells))
                | (go_simp; refine KC.mono ?_; rintro e w2 ⟨e0, e1, e2, e3, rfl, oc, hN2, b1⟩; (have b2 : Below wr.heap.size wr w2 := Below.trans (Below.refl _ _).drew b1); (obtain ⟨u0, u1, u2, u3, u4, u5, u6, u7⟩ := (HR0.below b2).cells); (have u9 : (w2.alloc (.cells #[e0, e1, e2, e3] 26)).cell? ⟨w.heap.size, 3, none⟩ = some (.slice b' m' d') := by rw [World.cell?_alloc_past _ _ _ (cell_lt u3)]; exact u3))))
              all_goals go_wp2_with fail
              all_goals go_roundw
              all_goals first
                | (simp [intOf]; omega)
                | (refine ⟨j2 + 1, _, _, _, _, by omega, by go_num, by rw [hNs.out]; exact P5, ?_, Q6, ne5⟩; rw [hRs.out]; exact hq5)
            · obtain rfl : j2 = s := by omega
              go_wp2_with (go_at_call 50; refine ST1.mono ?_; rintro e w2 ⟨rfl, rfl⟩)
              go_roundw
              case rel => exact ⟨j + 1, b', m', d', qs2, by omega, by go_num, by rw [Nat.succ_mul, ← Nat.add_assoc]; exact hP2, by rw [hpc.out]; exact hqj2, hQ2, hne2⟩
              case measure => simp [intOf]; omega
      · have hpc : Hid (pieces fillI tt ff (Fn : Int) EL (j + 1) = pieces fillI tt ff (Fn : Int) EL j ++ List.replicate s fillI) := by
          unfold Hid
          rw [pieces_succ, piece, HRT.out.2.2.2.2, if_neg (by simp; omega), HRT.out.2.2.2.1]
        go_wp2_with fail
        go_loopw [14] (fun i wr2 => ∃ (j2 : Nat) (a' : Option Addr) (l' c' : Nat) (qs' : List Value), j2 ≤ s ∧ i = .int .i64 j2 ∧ PutS w.heap.size W wr2 B 26 4 (.slice va vl vc) (.slice a' l' c') (n + j * s + j2) qs' ∧ Quads (fun g => (Value.slice a' l' c').ownBlock ≠ some g ∧ (Pq g ∧ g ≠ w.heap.size + 2) ∧ g ≠ w.heap.size) wr2 qs' (l ++ (pieces fillI tt ff (Fn : Int) EL j ++ List.replicate j2 fillI)) ∧ Quad wr2 w.heap.size (.int .i64 k) (.slice sa ls sc) (.slice na ln nc) (.slice a' l' c') ∧ (Value.slice a' l' c').ownBlock ≠ some w.heap.size) (fun i _ => s - (intOf i).toNat)
        case atStart => exact ⟨0, a', l', c', qs', Nat.zero_le _, rfl, hP, by rw [List.replicate_zero, List.append_nil]; exact hqj, hQ, hne⟩
        case round =>
          clear p0 p1 p2 p3 r0 r1 r2 r3 r4 r5 r6 r7 f0 f1 f2 f3 ti tcell fi fcell hP hQ hne ih hqj
          obtain ⟨j2, b', m', d', qs2, hj2, rfl, hP2, hqj2, hQ2, hne2⟩ := hrel
          obtain ⟨K1, K2, K3, K4, K5, K6, K7, K8, K9⟩ := K hP2
          obtain ⟨p0, p1, p2, p3, -⟩ := K1.cells
          obtain ⟨r0, r1, r2, r3, r4, r5, r6, r7⟩ := hQ2.cells
          obtain ⟨f0, f1, f2, f3, -⟩ := K3.cells
          have ST1 := ST ta' tc' wr K9.1
          by_cases hlt2 : j2 < s
          · obtain ⟨ib, io, y0, y1, y2, y3, hix, ⟨h0, h1, h2, h3⟩, hI⟩ := items_ix K4.at (k := 0) (by show 0 < 1; decide)
            have hix0 : ∀ w', (Instr.indexAt 24 (.slice fia 1 fic) (.int .i64 0)).run Try.prog w' = .ok (.pointer (some ⟨ib, io, none⟩)) w' := fun w' => hix w'
            have hI' : ArrAt wr (.agg #[y0, y1, y2, y3]) fillI := hI
            have KC := cloneR _ _ wr.drew (hI'.below (Below.refl _ _).drew) reach_fillI
            have HX := fun (w2 : World) (A1 : Arr) (e0 e1 e2 e3 : Value) (b1 : Below wr.heap.size wr w2) (hN : ArrOn (fun g => wr.heap.size ≤ g) w2 (.agg #[e0, e1, e2, e3]) A1) => appB hP2 hQ2 hne2 hBW (Or.inl rfl) hB b1 hqj2 (fun g hg => hPq2 g (by have := hP2.bel.size; omega)) hN
            have ho := hP2.own
            have hRs : Hid (l ++ (pieces fillI tt ff (Fn : Int) EL j ++ List.replicate (j2 + 1) fillI) = l ++ (pieces fillI tt ff (Fn : Int) EL j ++ List.replicate j2 fillI) ++ [fillI]) := by
              unfold Hid
              rw [List.replicate_succ', ← List.append_assoc (pieces fillI tt ff (Fn : Int) EL j), ← List.append_assoc]
            have hnB : n + j * s + j2 + 1 ≤ 10000000 := by
              have h1 : (j + 1) * s ≤ T * s := Nat.mul_le_mul_right _ hlt
              have := Hn.out
              rw [Nat.succ_mul] at h1
              omega
            generalize l ++ (pieces fillI tt ff (Fn : Int) EL j ++ List.replicate j2 fillI) = LL at *
            obtain ⟨NN2, hNN⟩ : ∃ NN2, n + j * s + j2 = NN2 := ⟨_, rfl⟩
            have hNs : Hid (n + j * s + (j2 + 1) = NN2 + 1) := by unfold Hid; omega
            rw [hNN] at HX ho hnB
            have hbase : B ≤ wr.heap.size := by have := hP2.bel.size; omega
            have HR0 := hQ2
            clear hNN
            clear K1 K2 K3 K4 K5 K6 K7 K8 K9 hP2 hQ2 hpc hix hI hI' hqj2
            go_wp2_with (go_at_call 50; refine ST1.mono ?_; rintro e w2 ⟨rfl, rfl⟩)
            go_region_law ((first
              | (refine step_append_lies _ (by rfl) _ _ _ (by rfl) B 26 i0 _ 4 80 Try.underlying24 hi0 hz0 hz1 hz2 rfl (by omega) (.slice b' m' d') NN2 qs2 (by rfl) (own_alloc ho b2 _) ⟨w2.heap.size, 0, none⟩ 1 1 [e0, e1, e2, e3] (by rfl) (by rfl) (World.news_of_block (cs := #[e0, e1, e2, e3]) (t := 26) (fr := (0, 0)) (heap_alloc_new w2 _)) oc (by omega) (by unfold maxLen; omega) (by omega) (by have := b2.size; rw [alloc_sizeP]; omega) (w2.heap.size + 1) (by rw [alloc_sizeP]) ?_; intro gg cap w5 hown hgrow hat' hl5; (obtain ⟨P5, Q5, Q6, ne5, hq5⟩ := HX w2 _ e0 e1 e2 e3 b2 hN2 gg cap w5 hown hgrow hat'); (obtain ⟨t0, t1, t2, t3, t4, t5, t6, t7⟩ := Q5.cells))
              | (go_simp; refine KC.mono ?_; rintro e w2 ⟨e0, e1, e2, e3, rfl, oc, hN2, b1⟩; (have b2 : Below wr.heap.size wr w2 := Below.trans (Below.refl _ _).drew b1); (obtain ⟨u0, u1, u2, u3, u4, u5, u6, u7⟩ := (HR0.below b2).cells); (have u9 : (w2.alloc (.cells #[e0, e1, e2, e3] 26)).cell? ⟨w.heap.size, 3, none⟩ = some (.slice b' m' d') := by rw [World.cell?_alloc_past _ _ _ (cell_lt u3)]; exact u3))))
            all_goals go_wp2_with fail
            all_goals go_roundw
            all_goals first
              | (simp [intOf]; omega)
              | (refine ⟨j2 + 1, _, _, _, _, by omega, by go_num, by rw [hNs.out]; exact P5, ?_, Q6, ne5⟩; rw [hRs.out]; exact hq5)
          · obtain rfl : j2 = s := by omega
            go_wp2_with (go_at_call 50; refine ST1.mono ?_; rintro e w2 ⟨rfl, rfl⟩)
            go_roundw
            case rel => exact ⟨j + 1, b', m', d', qs2, by omega, by go_num, by rw [Nat.succ_mul, ← Nat.add_assoc]; exact hP2, by rw [hpc.out]; exact hqj2, hQ2, hne2⟩
            case measure => simp [intOf]; omega
    · obtain rfl : j = T := by omega
      have hne2 := (hP.far (w.heap.size + 2) (by omega) (by omega) (hvR _ (by omega)).out).2
      have hP3 := P1h.out.trans hP (Or.inl (Nat.le_refl _))
      have P7 := hP3.set4 (X := w.heap.size + 2) (Or.inr (by omega)) (by omega) hne2 (.int .i64 k) (.slice sa ls sc) (.slice na ln nc) (.slice a' l' c')
      have hq7 := hqj.set4C (X := w.heap.size + 2) (fun g hg => hg.2.1.2) (.int .i64 k) (.slice sa ls sc) (.slice na ln nc) (.slice a' l' c')
      obtain ⟨QW, -⟩ := set4 K2 (.int .i64 k) (.slice sa ls sc) (.slice na ln nc) (.slice a' l' c')
      obtain ⟨u0, u1, u2, u3, u4, u5, u6, u7⟩ := K2.cells
      clear hP3 hP P1h hqj
      go_wp2_with fail
      generalize ((((wr.setCell ⟨w.heap.size + 2, 0, none⟩ (.int .i64 k)).setCell ⟨w.heap.size + 2, 1, none⟩ (.slice sa ls sc)).setCell ⟨w.heap.size + 2, 2, none⟩ (.slice na ln nc)).setCell ⟨w.heap.size + 2, 3, none⟩ (.slice a' l' c')) = WW at QW P7 hq7 ⊢
      obtain ⟨e0, e1, e2, e3, -⟩ := QW.cells
      exact bodyPost_ret (v := .agg #[.int .i64 k, .slice sa ls sc, .slice na ln nc, .slice a' l' c']) (by simp [results, Try.results57, go_sem, e0, e1, e2, e3]) rfl ⟨_, _, _, _, rfl, P7, Quads.keep (P := fun g => (Value.slice a' l' c').ownBlock ≠ some g ∧ (Pq g ∧ g ≠ w.heap.size + 2) ∧ g ≠ w.heap.size) (w := WW) (w' := WW) (fun g hg _ => ⟨⟨hg.1, hg.2.1.1⟩, fun _ => rfl⟩) hq7⟩
end Go.Proofs.Ytblgpnijiefopaa.Shape

namespace Go.Proofs.Ytblgpnijiefopaa.Shape
open Go.RowKit
set_option linter.unusedVariables false

theorem putB : ∀ (tt fr : List Int), PutBSpec tt fr
  | [], [] => by
    intro w k sa ls sc na ln nc va vl vc v2 A fa fl fc ta tl tc at' B n qs l Pq hk hA hR hfl htl hf ht hrt hrf hlen hB hn hat hAl own hPq hq
    have hat' : at' < A.items.length := by rw [prN_nil] at hat; omega
    subst hfl; subst htl
    have h := putB_nil k sa ls sc na ln nc va vl vc v2 A fa ta 0 fc tc at' B n qs l Pq w hk hA.at hR hB (by rw [prN_nil] at hn; omega) hat' hAl own hPq hq
    rw [padS, prN_nil]
    have e : (A.items.drop at').take 1 = [A.items[at']] := by
      rw [List.drop_eq_getElem_cons hat']; rfl
    rw [e]
    exact h
  | t :: tt, f :: ff => putB_step t f tt ff (putB tt ff)
  | [], _ :: _ => by
    intro w k sa ls sc na ln nc va vl vc v2 A fa fl fc ta tl tc at' B n qs l Pq hk hA hR hfl htl hf ht hrt hrf hlen
    simp at hlen
  | _ :: _, [] => by
    intro w k sa ls sc na ln nc va vl vc v2 A fa fl fc ta tl tc at' B n qs l Pq hk hA hR hfl htl hf ht hrt hrf hlen
    simp at hlen
end Go.Proofs.Ytblgpnijiefopaa.Shape

namespace Go.Proofs.Ytblgpnijiefopaa.Shape
open Go.RowKit
set_option linter.unusedVariables false

theorem right_more {A : Arr} (hx : rightE A = 0) : (∀ x ∈ A.nums, elemB A.kind x = true) ∧ (∀ B ∈ A.items, (chk B).1 = 0 ∧ (chk B).2 + 1 ≤ 16) := by
  obtain ⟨k, sh, nu, it⟩ := A
  rw [rightE, chk] at hx
  simp only [Arr.kind, Arr.nums, Arr.items]
  split at hx
  · simp at hx
  · split at hx
    · rename_i h; exact absurd hx h
    · split at hx
      · simp at hx
      · split at hx
        · simp at hx
        · rename_i hel
          split at hx
          · simp at hx
          · rename_i d hd
            unfold lastE at hx
            split at hx
            · simp at hx
            · rename_i hlast
              obtain ⟨g1, g2⟩ := chkL_all it 0 d hd
              refine ⟨fun x h => ?_, fun B hB => ?_⟩
              · have h' : nu.all (elemB k) = true := by simpa using hel
                exact List.all_eq_true.1 h' x h
              · have := g2 B hB
                exact ⟨this.1, by omega⟩
theorem fillZ_elem {k : Int} (hk : 1 ≤ k ∧ k ≤ 3) : elemB k (fillZ k) = true := by
  have : k = 1 ∨ k = 2 ∨ k = 3 := by omega
  rcases this with rfl | rfl | rfl <;> decide
theorem fillI_chk : (chk fillI).1 = 0 ∧ (chk fillI).2 + 1 ≤ 16 := by
  have h : chk fillI = (0, 0) := by kernel_rfl
  rw [h]; decide
theorem asm_chk {k : Int} {sh cm : List Int} {l : List Arr} (hl : ∀ A ∈ l, rightE A = 0) (hok : ∀ A ∈ l, Okay k cm A) (hk : 1 ≤ k ∧ k ≤ 3) (hrs : rightB sh = true) (hrc : rightB cm = true) (hp : prN sh = l.length * prN cm) :
    rightE (asmA k sh cm l) = if 262144 < wt (asmA k sh cm l) then 21 else 0 := by
  have hNN := (right_def.1 hrc).2.1
  have hNs := (right_def.1 hrs).2.1
  have hps : pr sh = (prN sh : Int) := by have := pr_nn hNs; unfold prN; omega
  have hk' : ¬ (k < 1 ∨ 3 < k) := by omega
  have hd : dimsE sh = 0 := (dimsE_right _).2 hrs
  have fin : ∀ (nu : List Int) (it : List Arr), (k = 3 → nu = [] ∧ it.length = prN sh) → (k ≠ 3 → it = [] ∧ nu.length = prN sh) → (∀ x ∈ nu, elemB k x = true) → (∀ B ∈ it, (chk B).1 = 0 ∧ (chk B).2 + 1 ≤ 16) → rightE (.mk k sh nu it) = if 262144 < wt (.mk k sh nu it) then 21 else 0 := by
    intro nu it h3 h4 hnu hit
    have hlen : ¬ ((aSize (.mk k sh nu it) : Int) ≠ pr sh ∨ 0 < other k nu it) := by
      by_cases hk3 : k = 3
      · obtain ⟨q1, q2⟩ := h3 hk3
        subst hk3; subst q1
        rw [aSize_box, hps, other, if_pos rfl, q2]
        simp
      · obtain ⟨q1, q2⟩ := h4 hk3
        subst q1
        rw [aSize_num hk3 hk.1 hk.2, hps, other, if_neg hk3, q2]
        simp
    obtain ⟨e, he, hed⟩ := chkL_of 16 it 0 (by decide) hit
    rw [rightE, chk_rest hk' hd hlen (List.all_eq_true.2 hnu), he]
    show (lastE e _).1 = _
    unfold lastE
    by_cases hw : 262144 < wt (.mk k sh nu it)
    · rw [if_pos (Or.inr hw), if_pos hw]
    · rw [if_neg (by omega), if_neg hw]
  rw [asmA]
  refine fin _ _ (fun hk3 => ?_) (fun hk3 => ?_) (fun x hx => ?_) (fun B hB => ?_)
  · rw [if_pos hk3, if_pos hk3]
    refine ⟨rfl, ?_⟩
    rw [hp]
    exact done_len (partI cm) (prN cm) l (fun A hA => by
      have o := hok A hA
      rw [partI, padS_len _ _ _ _ (by rw [leadS_len o.len]) hNN (leadS_NN o.nn) (by rw [leadS_prN o.nn]; exact (o.items hk3).1)])
  · rw [if_neg hk3, if_neg hk3]
    refine ⟨rfl, ?_⟩
    rw [hp]
    exact done_len (partN k cm) (prN cm) l (fun A hA => by
      have o := hok A hA
      rw [partN, padS_len _ _ _ _ (by rw [leadS_len o.len]) hNN (leadS_NN o.nn) (by rw [leadS_prN o.nn]; exact (o.nums hk3).1)])
  · by_cases hk3 : k = 3
    · rw [if_pos hk3] at hx; cases hx
    · rw [if_neg hk3] at hx
      obtain ⟨p, hp', hxp⟩ := List.mem_flatten.1 hx
      obtain ⟨A, hA, rfl⟩ := List.mem_map.1 hp'
      rcases padS_mem _ _ _ _ x hxp with h1 | h1
      · rw [h1]; exact fillZ_elem hk
      · have := (right_more (hl A hA)).1 x h1
        rw [(hok A hA).kind] at this
        exact this
  · by_cases hk3 : k = 3
    · rw [if_pos hk3] at hB
      obtain ⟨p, hp', hxp⟩ := List.mem_flatten.1 hB
      obtain ⟨A, hA, rfl⟩ := List.mem_map.1 hp'
      rcases padS_mem _ _ _ _ B hxp with h1 | h1
      · rw [h1]; exact fillI_chk
      · exact (right_more (hl A hA)).2 B h1
    · rw [if_neg hk3] at hB; cases hB
/-- What checked gives. -/
def outR (A : Arr) : Arr × Int := if rightE A = 0 then (A, 0) else (zeroA, 21)
theorem outR_asm {k : Int} {sh cm : List Int} {l : List Arr} (hl : ∀ A ∈ l, rightE A = 0) (hok : ∀ A ∈ l, Okay k cm A) (hk : 1 ≤ k ∧ k ≤ 3) (hrs : rightB sh = true) (hrc : rightB cm = true) (hp : prN sh = l.length * prN cm) : outR (asmA k sh cm l) = outA (asmA k sh cm l) := by
  have h := asm_chk hl hok hk hrs hrc hp
  rw [outR, outA, h]
  by_cases hw : 262144 < wt (asmA k sh cm l)
  · rw [if_pos hw, if_pos hw, if_neg (by decide)]
  · rw [if_neg hw, if_neg hw, if_pos rfl]
end Go.Proofs.Ytblgpnijiefopaa.Shape

namespace Go.Proofs.Ytblgpnijiefopaa.Shape
open Go.RowKit
set_option linter.unusedVariables false

theorem prN_of_zero : ∀ {xs : List Int}, NN xs → (0 : Int) ∈ xs → prN xs = 0
  | [], _, h => by cases h
  | x :: r, hn, h => by
    rw [prN_cons hn.head hn.tail]
    rcases List.mem_cons.1 h with h | h
    · rw [← h]; simp
    · rw [prN_of_zero hn.tail h, Nat.mul_zero]
theorem prN_ne : ∀ {xs : List Int}, NN xs → (∀ x ∈ xs, x ≠ 0) → prN xs ≠ 0
  | [], _, _ => by decide
  | x :: r, hn, h => by
    rw [prN_cons hn.head hn.tail]
    have h1 := h x (by simp)
    have h2 := hn.head
    have h3 := prN_ne hn.tail (fun y hy => h y (by simp [hy]))
    exact Nat.mul_ne_zero (by omega) h3
/-- The cells of a valid array: how many, and how many elements each has. -/
theorem cells_count {A : Arr} {k : Int} (hx : rightE A = 0) : ∃ s : Nat, (∀ C ∈ cellsS A k, C.nums.length + C.items.length = s) ∧ (cellsS A k).length * s = A.nums.length + A.items.length ∧ (cellsS A k).length ≤ 65536 ∧ A.nums.length + A.items.length ≤ 65536 ∧ (cellsS A k).length = prN (frameS A k) := by
  have hr := right_short hx
  have hNN := (right_def.1 hr).2.1
  obtain ⟨-, -, h3, h4, h5, h6⟩ := right_lens hx
  rw [cellsS, if_pos hx, frameS, if_pos hx]
  generalize frN A k = r
  have hT : NN (A.shape.take r) := fun y hy => hNN y (List.mem_of_mem_take hy)
  have hD : NN (A.shape.drop r) := fun y hy => hNN y (List.mem_of_mem_drop hy)
  have hp : prN A.shape = prN (A.shape.take r) * prN (A.shape.drop r) := by rw [← prN_append hT hD, List.take_append_drop]
  have hb1 := part_bd (a := A.shape.take r) (b := A.shape.drop r) (by rw [List.take_append_drop]; exact hr)
  have hb2 := part_bd (a := A.shape) (b := []) (by rw [List.append_nil]; exact hr)
  have hcnt : prN (A.shape.take r) ≤ 65536 := by unfold prN; omega
  have htot : prN A.shape ≤ 65536 := by unfold prN; omega
  obtain ⟨kk, sh, nu, it⟩ := A
  simp only [Arr.kind, Arr.shape, Arr.nums, Arr.items] at *
  refine ⟨prN (sh.drop r), fun C hC => ?_, ?_, by simpa using hcnt, ?_, by simp⟩
  · obtain ⟨i, hi, rfl⟩ := List.mem_map.1 hC
    have hi' := List.mem_range.1 hi
    have hle : (i + 1) * prN (sh.drop r) ≤ prN (sh.take r) * prN (sh.drop r) := Nat.mul_le_mul_right _ hi'
    show (blk nu i (prN (sh.drop r))).length + (blk it i (prN (sh.drop r))).length = _
    by_cases hk : kk = 3
    · obtain ⟨g1, g2⟩ := h4 hk
      subst g2
      rw [blk_len (l := it) (by rw [g1, hp]; exact hle)]
      simp [blk]
    · obtain ⟨g1, g2⟩ := h3 hk
      subst g2
      rw [blk_len (l := nu) (by rw [g1, hp]; exact hle)]
      simp [blk]
  · rw [List.length_map, List.length_range, ← hp]
    by_cases hk : kk = 3
    · obtain ⟨g1, g2⟩ := h4 hk
      subst g2; simp [g1]
    · obtain ⟨g1, g2⟩ := h3 hk
      subst g2; simp [g1]
  · by_cases hk : kk = 3
    · obtain ⟨g1, g2⟩ := h4 hk
      subst g2; simp [g1]; exact htot
    · obtain ⟨g1, g2⟩ := h3 hk
      subst g2; simp [g1]; exact htot
theorem frame_NN {A : Arr} {k : Int} (hx : rightE A = 0) : NN (frameS A k) := by
  have hNN := (right_def.1 (right_short hx)).2.1
  rw [frameS, if_pos hx]
  exact fun y hy => hNN y (List.mem_of_mem_take hy)
theorem frame_len {A : Arr} {k : Int} (hx : rightE A = 0) : (frameS A k).length = frN A k := by
  rw [frameS, if_pos hx, List.length_take]
  exact Nat.min_eq_left (frN_le A k)
theorem reach_cells {A : Arr} {k : Int} (hr : Reach A) : ∀ C ∈ cellsS A k, Reach C := by
  intro C hC
  rw [cellsS] at hC
  split at hC
  · obtain ⟨i, -, rfl⟩ := List.mem_map.1 hC
    generalize frN A k = r
    obtain ⟨kk, sh, nu, it⟩ := A
    rw [Reach] at hr
    obtain ⟨r1, r2, r3, r4⟩ := hr
    show Reach (.mk kk (sh.drop r) (blk nu i (prN (sh.drop r))) (blk it i (prN (sh.drop r))))
    rw [Reach]
    have g1 := blk_le nu i (prN (sh.drop r))
    have g2 := blk_le it i (prN (sh.drop r))
    exact ⟨by rw [List.length_drop]; omega, by omega, by omega, reach_blk r4⟩
  · cases hC
end Go.Proofs.Ytblgpnijiefopaa.Shape
