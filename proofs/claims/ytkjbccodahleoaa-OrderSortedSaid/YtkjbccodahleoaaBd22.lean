/-
  Layer 4: plain mathematics of assembling; a new array's parts over any kind of blocks.
  Layer 4: the reference's put, of an array of numbers: a scalar's element.
  Layer 4: the reference's put, of an array of numbers: axis by axis.
  Layer 4: the reference's put, of an array of numbers: the walk at an axis.
  Layer 4: the reference's put, of an array of numbers.
  Layer 4: the reference's put, of a boxed array: what it gives; an item appended.
  Layer 4: what assemble's loop keeps of its data: of no elements, of numbers, of items.
  Layer 4: what assemble's loop keeps of its data: of items; the three together.
-/
import Derived.Test.YtkjbccodahleoaaBd21
import Derived.Test.YtkjbccodahleoaaBd19
import Derived.Test.YtkjbccodahleoaaBd20
import Derived.Test.YtkjbccodahleoaaBd17
import Derived.Test.YtkjbccodahleoaaBd15
import Derived.StillTailTactics
namespace Go.Proofs.Ytkjbccodahleoaa.Shape
open Go.RowKit
set_option linter.unusedVariables false

def fillZ (k : Int) : Int := if k = 2 then 32 else 0
def fillI : Arr := .mk 1 [0] [] []
theorem allF_num {k : Int} (hk : k = 1 ∨ k = 2) (sh : List Int) : allF k sh = .mk k sh (List.replicate (prN sh) (fillZ k)) [] := by
  rcases hk with rfl | rfl
  · show Arr.mk 1 sh (cyc0 [0] 0 (prN sh)) (cyc0 [] zeroA (prN sh)) = _
    rw [cyc0, if_neg (by simp), cyc0, if_pos rfl, cyc_const]; rfl
  · show Arr.mk 2 sh (cyc0 [32] 0 (prN sh)) (cyc0 [] zeroA (prN sh)) = _
    rw [cyc0, if_neg (by simp), cyc0, if_pos rfl, cyc_const]; rfl
theorem allF_box (sh : List Int) : allF 3 sh = .mk 3 sh [] (List.replicate (prN sh) fillI) := by
  show Arr.mk 3 sh (cyc0 [] 0 (prN sh)) (cyc0 [.mk 1 [0] [] []] zeroA (prN sh)) = _
  rw [cyc0, if_pos rfl, cyc0, if_neg (by simp), cyc_const]; rfl
/-- One cell, padded: its numbers, its items. -/
def partN (k : Int) (cm : List Int) (A : Arr) : List Int := padS (fillZ k) cm (leadS A.shape cm.length) A.nums
def partI (cm : List Int) (A : Arr) : List Arr := padS fillI cm (leadS A.shape cm.length) A.items
def asmA (k : Int) (sh cm : List Int) (l : List Arr) : Arr := .mk k sh (if k = 3 then [] else (l.map (partN k cm)).flatten) (if k = 3 then (l.map (partI cm)).flatten else [])
/-- What assemble gives. -/
def asmS (k : Int) (fr cm : List Int) (l : List Arr) : Arr × Int := if rightB (fr ++ cm) = true then outA (asmA k (fr ++ cm) cm l) else (zeroA, 21)
/-- A cell that may be assembled: valid in its parts, and no longer than the common shape. -/
structure Okay (k : Int) (cm : List Int) (A : Arr) : Prop where
  kind : A.kind = k
  nn : NN A.shape
  len : A.shape.length ≤ cm.length
  fit : prN cm ≠ 0 → fits cm (leadS A.shape cm.length)
  nums : k ≠ 3 → A.nums.length = prN A.shape ∧ A.items = []
  items : k = 3 → A.items.length = prN A.shape ∧ A.nums = []
/-- The first i cells done, the others still fill. -/
def curS {α : Type} (z : α) (f : Arr → List α) (l : List Arr) (i m : Nat) : List α := ((l.take i).map f).flatten ++ List.replicate ((l.length - i) * m) z
theorem curS_zero {α : Type} (z : α) (f : Arr → List α) (l : List Arr) (m : Nat) : curS z f l 0 m = List.replicate (l.length * m) z := by simp [curS]
theorem curS_end {α : Type} (z : α) (f : Arr → List α) (l : List Arr) (m : Nat) : curS z f l l.length m = (l.map f).flatten := by simp [curS]
theorem done_len {α : Type} (f : Arr → List α) (m : Nat) : ∀ (l : List Arr), (∀ A ∈ l, (f A).length = m) → (l.map f).flatten.length = l.length * m
  | [], _ => by simp
  | A :: r, h => by
    rw [List.map_cons, List.flatten_cons, List.length_append, done_len f m r (fun B hB => h B (by simp [hB])), h A (by simp), List.length_cons, Nat.succ_mul, Nat.add_comm]
theorem curS_split {α : Type} (z : α) (f : Arr → List α) (l : List Arr) (i m : Nat) (hi : i < l.length) : curS z f l i m = ((l.take i).map f).flatten ++ (List.replicate m z ++ List.replicate ((l.length - (i + 1)) * m) z) := by
  rw [curS, List.replicate_append_replicate, show (l.length - i) * m = m + (l.length - (i + 1)) * m by rw [show l.length - i = (l.length - (i + 1)) + 1 by omega, Nat.succ_mul, Nat.add_comm]]
theorem curS_step {α : Type} (z : α) (f : Arr → List α) (l : List Arr) (i m : Nat) (hi : i < l.length) : curS z f l (i + 1) m = ((l.take i).map f).flatten ++ (f l[i] ++ List.replicate ((l.length - (i + 1)) * m) z) := by
  rw [curS, take_snocA hi, List.map_append, List.flatten_append]
  simp

/-- A new array's parts, over blocks of a kind. -/
def SplitOn (P : Nat → Prop) (w : World) (v : Value) (A : Arr) : Prop :=
  ∃ (M G : Nat) (a1 : Option Addr) (c1 : Nat) (a2 : Option Addr) (c2 : Nat) (a3 : Option Addr) (c3 : Nat), v = .agg #[.int .i64 A.kind, .slice a1 A.shape.length c1, .slice a2 A.nums.length c2, .slice a3 A.items.length c3] ∧
    (-9223372036854775808 ≤ A.kind ∧ A.kind ≤ 9223372036854775807) ∧ IntsOn (fun g => (P g ∧ Thaw w g ∧ g ≠ G) ∧ g < M) w a1 c1 A.shape ∧ IntsOn (fun g => (P g ∧ Thaw w g ∧ g ≠ G) ∧ M ≤ g) w a2 c2 A.nums ∧ A.items.length ≤ c3 ∧ c3 ≤ 9223372036854775807 ∧
    (A.items ≠ [] → a3 = some ⟨G, 0, none⟩ ∧ P G ∧ ∃ qs : List Value, w.heap[G]? = some (.cells qs.toArray 26 (0, 0)) ∧ (∀ u ∈ qs, u.oneCell' = true) ∧ Quads (fun g => P g ∧ Thaw w g ∧ g ≠ G) w qs A.items)
theorem SplitAt.on {B : Nat} {R : Nat → Prop} {w w' : World} {v : Value} {A : Arr} (h : SplitAt B w v A) (hk : ∀ g, B ≤ g → g < w.heap.size → R g ∧ w'.heap[g]? = w.heap[g]?) : SplitOn R w' v A := by
  obtain ⟨M, G, a1, c1, a2, c2, a3, c3, hv, hkd, i1, i2, h1, h2, row⟩ := h
  have kp : ∀ g, Apart B G w g → g < w.heap.size → (R g ∧ Thaw w' g ∧ g ≠ G) ∧ ∀ o, w'.cell? ⟨g, o, none⟩ = w.cell? ⟨g, o, none⟩ := fun g hg hl =>
    ⟨⟨(hk g hg.1 hl).1, thaw_of hg.2.1 (hk g hg.1 hl).2, hg.2.2⟩, fun o => World.cell?_of_block (hk g hg.1 hl).2⟩
  refine ⟨M, G, a1, c1, a2, c2, a3, c3, hv, hkd, i1.keep fun g hg hl => ⟨⟨(kp g hg.1 hl).1, hg.2⟩, (kp g hg.1 hl).2⟩, i2.keep fun g hg hl => ⟨⟨(kp g hg.1 hl).1, hg.2⟩, (kp g hg.1 hl).2⟩, h1, h2, fun hne => ?_⟩
  obtain ⟨e, hB, qs, q1, q2, q3⟩ := row hne
  have hG := hk G hB (lt_of_heap q1)
  exact ⟨e, hG.1, qs, hG.2.trans q1, q2, q3.keep kp⟩
end Go.Proofs.Ytkjbccodahleoaa.Shape

namespace Go.Proofs.Ytkjbccodahleoaa.Shape
open Go.RowKit
set_option linter.unusedVariables false

/-- What put gives: the row of numbers has grown. -/
def GivePut (k : Int) (sa : Option Addr) (ls sc : Nat) (ia : Option Addr) (li ic : Nat) (w : World) (B : Nat) (V : Value) (n' : Nat) (qs' : List Value) (e : Ending) (w' : World) : Prop :=
  ∃ va vl vc, e = .returned (.agg #[.int .i64 k, .slice sa ls sc, .slice va vl vc, .slice ia li ic]) ∧ PutS w.heap.size w w' B 3 1 V (.slice va vl vc) n' qs'
/-- Fill's result for numbers. -/
theorem fill_num {A : Arr} {w w' : World} {e : Ending} (hk : A.kind = 1 ∨ A.kind = 2) (h : GiveNew (fillA A.kind) w e w') : ∃ kf sf lf cf na nc ia li ic, e = .returned (.agg #[.int .i64 kf, .slice sf lf cf, .slice na 1 nc, .slice ia li ic]) ∧ IntsOn (fun g => w.heap.size ≤ g) w' na nc [fillZ A.kind] ∧ Below w.heap.size w w' := by
  have hf : fillA A.kind = .mk A.kind [] [fillZ A.kind] [] := by rcases hk with h | h <;> rw [h] <;> rfl
  rw [hf] at h
  obtain ⟨sa, sc, na, nc, ia, ic, rfl, hO, hb⟩ := h.typed
  rw [ArrOn] at hO
  obtain ⟨sa', sc', na', nc', ia', ic', hv, -, -, hn, -⟩ := hO
  simp only [Value.agg.injEq, Array.mk.injEq, List.cons.injEq, Value.slice.injEq, and_true, true_and] at hv
  obtain ⟨-, ⟨rfl, rfl⟩, -⟩ := hv
  exact ⟨_, _, _, _, _, _, _, _, _, rfl, hn, hb⟩
theorem below_3 (w : World) (o o' o'' : Obj) : Below w.heap.size w (((w.alloc o).alloc o').alloc o'') := below_three w o o' o''

set_option maxRecDepth 100000 in
set_option maxHeartbeats 4000000 in
theorem putN_nil (k : Int) (sa : Option Addr) (ls sc : Nat) (va : Option Addr) (vl vc : Nat) (ia : Option Addr) (li ic : Nat) (v2 : Value) (A : Arr) (fa ta : Option Addr) (fl fc tc at' B n : Nat) (qs : List Value) (w : World) (hk : A.kind = 1 ∨ A.kind = 2) (hA : ArrAt w v2 A)
    (hB : B ≤ w.heap.size) (hn : n ≤ 10000000) (hat : at' < A.nums.length) (own : w.ownsRow B 3 1 (.slice va vl vc) n qs) :
    Calls Try.prog 47 #[.agg #[.int .i64 k, .slice sa ls sc, .slice va vl vc, .slice ia li ic], v2, .slice fa fl fc, .slice ta 0 tc, .int .i64 at'] w (GivePut k sa ls sc ia li ic w B (.slice va vl vc) (n + 1) (qs ++ [.int .i64 A.nums[at']])) := by
  obtain ⟨k2, s2, l2, c2, na, nc, ia2, li2, ic2, rfl, hnn, hkk⟩ : ∃ k2 s2 l2 c2 na nc ia2 li2 ic2, v2 = .agg #[.int .i64 k2, .slice s2 l2 c2, .slice na A.nums.length nc, .slice ia2 li2 ic2] ∧ IntsAt w na nc A.nums ∧ k2 = A.kind := by
    have h := hA
    obtain ⟨kk, sh, nu, it⟩ := A
    rw [ArrAt] at h
    obtain ⟨sa, sc, na, nc, ia, ic, hv, -, -, hn, -⟩ := h
    exact ⟨_, _, _, _, _, _, _, _, _, hv, hn, rfl⟩
  have k3 : (k2 == 3) = false := by rw [hkk]; rcases hk with h | h <;> rw [h] <;> rfl
  have bw := below_3 w (.cells #[.int .i64 k, .slice sa ls sc, .slice va vl vc, .slice ia li ic] 26) (.cells #[.int .i64 k2, .slice s2 l2 c2, .slice na A.nums.length nc, .slice ia2 li2 ic2] 26) (.cells #[.int .i64 0, .slice none 0 0, .slice none 0 0, .slice none 0 0] 26)
  have q0 : Quad (((w.alloc (.cells #[.int .i64 k, .slice sa ls sc, .slice va vl vc, .slice ia li ic] 26)).alloc (.cells #[.int .i64 k2, .slice s2 l2 c2, .slice na A.nums.length nc, .slice ia2 li2 ic2] 26)).alloc (.cells #[.int .i64 0, .slice none 0 0, .slice none 0 0, .slice none 0 0] 26)) w.heap.size (.int .i64 k) (.slice sa ls sc) (.slice va vl vc) (.slice ia li ic) :=
    ((Quad.new w (.int .i64 k) (.slice sa ls sc) (.slice va vl vc) (.slice ia li ic)).below (below_new _ (.cells #[.int .i64 k2, .slice s2 l2 c2, .slice na A.nums.length nc, .slice ia2 li2 ic2] 26))).below (below_new _ (.cells #[.int .i64 0, .slice none 0 0, .slice none 0 0, .slice none 0 0] 26))
  have q1 : Quad (((w.alloc (.cells #[.int .i64 k, .slice sa ls sc, .slice va vl vc, .slice ia li ic] 26)).alloc (.cells #[.int .i64 k2, .slice s2 l2 c2, .slice na A.nums.length nc, .slice ia2 li2 ic2] 26)).alloc (.cells #[.int .i64 0, .slice none 0 0, .slice none 0 0, .slice none 0 0] 26)) (w.heap.size + 1) (.int .i64 k2) (.slice s2 l2 c2) (.slice na A.nums.length nc) (.slice ia2 li2 ic2) := by
    simpa using (Quad.new (w.alloc (.cells #[.int .i64 k, .slice sa ls sc, .slice va vl vc, .slice ia li ic] 26)) (.int .i64 k2) (.slice s2 l2 c2) (.slice na A.nums.length nc) (.slice ia2 li2 ic2)).below (below_new _ (.cells #[.int .i64 0, .slice none 0 0, .slice none 0 0, .slice none 0 0] 26))
  have qz : Quad (((w.alloc (.cells #[.int .i64 k, .slice sa ls sc, .slice va vl vc, .slice ia li ic] 26)).alloc (.cells #[.int .i64 k2, .slice s2 l2 c2, .slice na A.nums.length nc, .slice ia2 li2 ic2] 26)).alloc (.cells #[.int .i64 0, .slice none 0 0, .slice none 0 0, .slice none 0 0] 26)) (w.heap.size + 2) (.int .i64 0) (.slice none 0 0) (.slice none 0 0) (.slice none 0 0) := by
    simpa using Quad.new ((w.alloc (.cells #[.int .i64 k, .slice sa ls sc, .slice va vl vc, .slice ia li ic] 26)).alloc (.cells #[.int .i64 k2, .slice s2 l2 c2, .slice na A.nums.length nc, .slice ia2 li2 ic2] 26)) (.int .i64 0) (.slice none 0 0) (.slice none 0 0) (.slice none 0 0)
  have hA3 := hA.below bw
  have hxb := hnn.bd hat
  obtain ⟨nb, no, hix, hcell⟩ := hnn.at hat
  obtain ⟨y, hy⟩ : ∃ y, A.nums[at'] = y := ⟨_, rfl⟩
  rw [hy] at hcell hxb ⊢
  have hnl := hnn.len
  have hv := own.lt
  have P0 : PutS w.heap.size w _ B 3 1 (.slice va vl vc) (.slice va vl vc) n qs := (PutS.refl own).below bw hB
  have HF := fun v' w' (g : ArrAt w' v' A) => fillR_new v' A w' g
  have HK : Hid (A.kind = 1 ∨ A.kind = 2) := hk
  obtain ⟨i0, hi0, hz0, hz1, hz2⟩ := info_parts infoInt
  clear hA hkk hy hk
  generalize A.nums.length = nl at *
  have hs3 : (((w.alloc (.cells #[.int .i64 k, .slice sa ls sc, .slice va vl vc, .slice ia li ic] 26)).alloc (.cells #[.int .i64 k2, .slice s2 l2 c2, .slice na nl nc, .slice ia2 li2 ic2] 26)).alloc (.cells #[.int .i64 0, .slice none 0 0, .slice none 0 0, .slice none 0 0] 26)).heap.size = w.heap.size + 3 := by simp
  have HS3 : Hid ((((w.alloc (.cells #[.int .i64 k, .slice sa ls sc, .slice va vl vc, .slice ia li ic] 26)).alloc (.cells #[.int .i64 k2, .slice s2 l2 c2, .slice na nl nc, .slice ia2 li2 ic2] 26)).alloc (.cells #[.int .i64 0, .slice none 0 0, .slice none 0 0, .slice none 0 0] 26)).heap.size = w.heap.size + 3) := hs3
  clear hs3
  go_enter Try.func47, Try.ntmps47
  go_wp2_with (go_at_call 25; refine (HF _ _ hA3).mono ?_; intro e w1 hN; (obtain ⟨kf, sf, lf, cf, fna, fnc, fia, fli, fic, rfl, hO, b1⟩ := fill_num HK.out hN); (obtain ⟨p0, p1, p2, p3, -⟩ := ((q1.below b1).below (below_new w1 (.cells #[.int .i64 kf, .slice sf lf cf, .slice fna 1 fnc, .slice fia fli fic] 26))).cells))
  have bn := below_new w1 (.cells #[.int .i64 kf, .slice sf lf cf, .slice fna 1 fnc, .slice fia fli fic] 26)
  have Q0 := (q0.below b1).below bn
  have QZ := (qz.below b1).below bn
  have HS := HS3.out
  have P1 := (P0.below b1 hB).below bn hB
  have hcell1 : (w1.alloc (.cells #[.int .i64 kf, .slice sf lf cf, .slice fna 1 fnc, .slice fia fli fic] 26)).cell? ⟨nb, no + at', none⟩ = some (.int .i64 y) := ((Below.then (Below.then bw b1) bn).cell (cell_lt hcell)).trans hcell
  have S1 := b1.size
  have S2 : w.heap.size + 3 ≤ (w1.alloc (.cells #[.int .i64 kf, .slice sf lf cf, .slice fna 1 fnc, .slice fia fli fic] 26)).heap.size := by have := bn.size; omega
  clear q0 q1 qz P0 bn hO hcell hA3 HF bw HS3 HS S1 b1
  generalize (w1.alloc (.cells #[.int .i64 kf, .slice sf lf cf, .slice fna 1 fnc, .slice fia fli fic] 26)) = W at *
  generalize w1.heap.size = RF at *
  obtain ⟨r0, r1, r2, r3, r4, r5, r6, r7⟩ := Q0.cells
  have bl := below_new W (.cells #[.int .i64 y] 3)
  obtain ⟨m0, m1, m2, m3, m4, m5, m6, m7⟩ := (Q0.below bl).cells
  obtain ⟨n0, n1, n2, n3, -⟩ : W.cell? ⟨w.heap.size + 1, 0, none⟩ = _ ∧ W.cell? ⟨w.heap.size + 1, 1, none⟩ = _ ∧ W.cell? ⟨w.heap.size + 1, 2, none⟩ = _ ∧ W.cell? ⟨w.heap.size + 1, 3, none⟩ = _ ∧ True := ⟨p0, p1, p2, p3, trivial⟩
  have p2' : (W.alloc (.cells #[.int .i64 y] 3)).cell? ⟨w.heap.size + 1, 2, none⟩ = some (.slice na nl nc) := (bl.cell (cell_lt p2)).trans p2
  have hv0 : (Value.slice va vl vc).ownBlock ≠ some w.heap.size := fun e => by have := (hv _ e).2; omega
  have hvz : (Value.slice va vl vc).ownBlock ≠ some (w.heap.size + 2) := fun e => by have := (hv _ e).2; omega
  have hsW : (W.alloc (.cells #[.int .i64 y] 3)).heap.size = W.heap.size + 1 := by simp
  have HX : ∀ (g cap : Nat) (w5 : World), w5.ownsRow B 3 1 (.slice (some ⟨g, 0, none⟩) (n + 1) cap) (n + 1) (qs ++ [.int .i64 y]) → (W.alloc (.cells #[.int .i64 y] 3)).drew.grownBy w5 (Value.slice va vl vc).ownBlock → ((Value.slice va vl vc).ownBlock = some g ∨ g = W.heap.size + 1) →
      PutS w.heap.size w w5 B 3 1 (.slice va vl vc) (.slice (some ⟨g, 0, none⟩) (n + 1) cap) (n + 1) (qs ++ [.int .i64 y]) ∧ Quad w5 w.heap.size (.int .i64 k) (.slice sa ls sc) (.slice va vl vc) (.slice ia li ic) ∧ Quad w5 (w.heap.size + 2) (.int .i64 0) (.slice none 0 0) (.slice none 0 0) (.slice none 0 0) ∧ g ≠ w.heap.size ∧ g ≠ w.heap.size + 2 := by
    intro g cap w5 h1 h2d h3
    have h2 : (W.alloc (.cells #[.int .i64 y] 3)).grownBy w5 (Value.slice va vl vc).ownBlock := ⟨h2d.os, h2d.tape, h2d.output, h2d.size, h2d.block⟩
    have h3' : (Value.slice va vl vc).ownBlock = some g ∨ W.heap.size ≤ g := h3.imp id fun h => by omega
    obtain ⟨x1, x2⟩ := grow_other bl h2 (b := w.heap.size) (by omega) hv0 h3'
    obtain ⟨y1, y2⟩ := grow_other bl h2 (b := w.heap.size + 2) (by omega) hvz h3'
    exact ⟨P1.grow bl hB h1 h2 h3', Q0.keep x1, QZ.keep y1, x2, y2⟩
  have own1 := own_alloc P1.own (Below.refl W.heap.size W) (.cells #[.int .i64 y] 3)
  have hnews : ∀ j u, [Value.int .i64 y][j]? = some u → (W.alloc (.cells #[.int .i64 y] 3)).cell? ((⟨W.heap.size, 0, none⟩ : Addr).add j) = some u := World.news_of_block (cs := #[.int .i64 y]) (t := 3) (fr := (0, 0)) (heap_alloc_new W _)
  have hbase : B ≤ (W.alloc (.cells #[.int .i64 y] 3)).heap.size := by omega
  clear P1 Q0 QZ own hv hv0 hvz n0 n1 n2 n3
  go_region_law ((first
    | (refine step_append_lies _ (by rfl) _ _ _ (by rfl) B 3 i0 _ 1 8 Try.underlying23 hi0 hz0 hz1 hz2 rfl (by omega) (.slice va vl vc) n qs (by rfl) own1 ⟨W.heap.size, 0, none⟩ 1 1 [.int .i64 y] (by rfl) (by rfl) hnews (by intro u hu; simp at hu; subst hu; rfl) (by omega) (by unfold maxLen; omega) (by omega) hbase (W.heap.size + 1) hsW ?_; intro gg cap w5 hown hgrow hat' hl5; (obtain ⟨P5, Q5, Z5, ne0, nez⟩ := HX gg cap w5 hown hgrow hat'); (obtain ⟨t0, t1, t2, t3, t4, t5, t6, t7⟩ := Q5.cells); (obtain ⟨z0, z1, z2, z3, z4, z5, z6, z7⟩ := Z5.cells))))
  all_goals
    have Z6 := Z5.keep (set_other w5 w.heap.size 2 (w.heap.size + 2) (.slice (some ⟨gg, 0, none⟩) (n + 1) cap) (by omega))
    obtain ⟨u0, u1, u2, u3, u4, u5, u6, u7⟩ := Z6.cells
    have P6 := P5.set (X := w.heap.size) (o := 2) (Or.inl rfl) hB (by simpa [Value.ownBlock] using ne0) (.slice (some ⟨gg, 0, none⟩) (n + 1) cap)
    have P7 := P6.set4 (X := w.heap.size + 2) (Or.inr (by omega)) (by omega) (by simpa [Value.ownBlock] using nez) (.int .i64 k) (.slice sa ls sc) (.slice (some ⟨gg, 0, none⟩) (n + 1) cap) (.slice ia li ic)
    obtain ⟨QW, -⟩ := set4 Z6 (.int .i64 k) (.slice sa ls sc) (.slice (some ⟨gg, 0, none⟩) (n + 1) cap) (.slice ia li ic)
    clear z0 z1 z2 z3 z4 z5 z6 z7
    go_wp2_with fail
    generalize (((((w5.setCell ⟨w.heap.size, 2, none⟩ (.slice (some ⟨gg, 0, none⟩) (n + 1) cap)).setCell ⟨w.heap.size + 2, 0, none⟩ (.int .i64 k)).setCell ⟨w.heap.size + 2, 1, none⟩ (.slice sa ls sc)).setCell ⟨w.heap.size + 2, 2, none⟩ (.slice (some ⟨gg, 0, none⟩) (n + 1) cap)).setCell ⟨w.heap.size + 2, 3, none⟩ (.slice ia li ic)) = WW at QW P7 ⊢
    obtain ⟨e0, e1, e2, e3, -⟩ := QW.cells
    exact bodyPost_ret (v := .agg #[.int .i64 k, .slice sa ls sc, .slice (some ⟨gg, 0, none⟩) (n + 1) cap, .slice ia li ic]) (by simp [results, Try.results47, go_sem, e0, e1, e2, e3]) rfl ⟨_, _, _, rfl, P7⟩
end Go.Proofs.Ytkjbccodahleoaa.Shape

namespace Go.Proofs.Ytkjbccodahleoaa.Shape
open Go.RowKit
set_option linter.unusedVariables false

/-- put of numbers, at two lists of dimensions. -/
def PutNSpec (tt fr : List Int) : Prop := ∀ (w : World) (k : Int) (sa : Option Addr) (ls sc : Nat) (va : Option Addr) (vl vc : Nat) (ia : Option Addr) (li ic : Nat) (v2 : Value) (A : Arr) (fa : Option Addr) (fl fc : Nat) (ta : Option Addr) (tl tc : Nat) (at' B n : Nat) (qs : List Value),
  (A.kind = 1 ∨ A.kind = 2) → ArrOn (fun g => (Value.slice va vl vc).ownBlock ≠ some g) w v2 A → fl = fr.length → tl = tt.length → IntsOn (fun g => (Value.slice va vl vc).ownBlock ≠ some g) w fa fc fr → IntsOn (fun g => (Value.slice va vl vc).ownBlock ≠ some g) w ta tc tt →
  rightB tt = true → rightB fr = true → tt.length = fr.length → B ≤ w.heap.size → n + prN tt ≤ 10000000 → at' + prN fr ≤ A.nums.length → A.nums.length ≤ 10000000 → w.ownsRow B 3 1 (.slice va vl vc) n qs →
  Calls Try.prog 47 #[.agg #[.int .i64 k, .slice sa ls sc, .slice va vl vc, .slice ia li ic], v2, .slice fa fl fc, .slice ta tl tc, .int .i64 at'] w (GivePut k sa ls sc ia li ic w B (.slice va vl vc) (n + prN tt) (qs ++ (padS (fillZ A.kind) tt fr ((A.nums.drop at').take (prN fr))).map (Value.int .i64)))

/-- The list without its first element: where it lies. -/
theorem tailOn {P : Nat → Prop} {w : World} {a : Option Addr} {c : Nat} {x : Int} {r : List Int} {L M : Nat} (h : IntsOn P w a c (x :: r)) (hL : L = (x :: r).length) (hM : M = r.length) : ∃ a' c', IntsOn P w a' c' r ∧ ∀ w', (Instr.slice 23 (.slice a L c) (some (.int .i64 1)) none none).run Try.prog w' = .ok (.slice a' M c') w' := by
  subst hL; subst hM
  obtain ⟨h1, h2⟩ := h
  obtain ⟨g1, g2⟩ := h1.from 1 (by simp)
  refine ⟨_, _, ⟨g1, fun hne ad e => ?_⟩, fun w' => g2 w'⟩
  rw [fromAt] at e
  split at e
  · exact h2 (by simp) ad e
  · cases a with
    | none => cases e
    | some ad0 =>
      have := h2 (by simp) ad0 rfl
      simp only [Option.map_some, Option.some.injEq] at e
      subst e
      unfold Addr.add
      split <;> exact this
theorem firstAt {P : Nat → Prop} {w : World} {a : Option Addr} {c : Nat} {x : Int} {r : List Int} {L : Nat} (h : IntsOn P w a c (x :: r)) (hL : L = (x :: r).length) : ∃ b off, (∀ w' : World, (Instr.indexAt 23 (.slice a L c) (.int .i64 0)).run Try.prog w' = .ok (.pointer (some ⟨b, off, none⟩)) w') ∧ w.cell? ⟨b, off, none⟩ = some (.int .i64 x) ∧ P b := by
  subst hL
  obtain ⟨h1, h2⟩ := h
  have h1' := h1
  obtain ⟨-, -, -, b0, off0, ha, hc⟩ := h1'
  have e := ha (by simp)
  subst e
  refine ⟨b0, off0, fun w' => ?_, hc 0 (by simp), h2 (by simp) _ rfl⟩
  rw [run_indexAt_slice w' _ _ _ _ .i64 0 elemInts, if_pos (by simp), sizeInts]
  show Result.ok _ w' = _
  rw [show ((0 : Int).toNat * 1) = 0 by rfl, add_plain, Nat.add_zero]
end Go.Proofs.Ytkjbccodahleoaa.Shape

namespace Go.Proofs.Ytkjbccodahleoaa.Shape
open Go.RowKit
set_option linter.unusedVariables false

theorem put_nums {x q m F nl p : Nat} (hp : x + q = p) (h1 : q + m ≤ F) (h2 : x + F ≤ nl) (h3 : nl ≤ 10000000) : (x : Int) + (q : Int) = (p : Int) ∧ wrap64 (q : Int) = (q : Int) ∧ wrap64 (p : Int) = (p : Int) ∧ p + m ≤ nl :=
  ⟨by omega, IntWalk.wrap64_in _ (by omega), IntWalk.wrap64_in _ (by omega), by omega⟩
theorem alloc_sizeP (w : World) (o : Obj) : (w.alloc o).heap.size = w.heap.size + 1 := by simp
/-- A number appended to the row in the third cell of the block R0. -/
theorem app1 {R : Nat} {w0 W : World} {B n R0 : Nat} {V v : Value} {qs : List Value} {x c0 c1 c3 : Value} (P : PutS R w0 W B 3 1 V v n qs) (Q0 : Quad W R0 c0 c1 v c3) (hv : v.ownBlock ≠ some R0) (hB : B ≤ w0.heap.size) (hX : R0 = R ∨ w0.heap.size ≤ R0) (hBR : B ≤ R0) :
    ∀ (g cap : Nat) (w5 : World), w5.ownsRow B 3 1 (.slice (some ⟨g, 0, none⟩) (n + 1) cap) (n + 1) (qs ++ [x]) → (W.alloc (.cells #[x] 3)).drew.grownBy w5 v.ownBlock → (v.ownBlock = some g ∨ g = W.heap.size + 1) →
      PutS R w0 (w5.setCell ⟨R0, 2, none⟩ (.slice (some ⟨g, 0, none⟩) (n + 1) cap)) B 3 1 V (.slice (some ⟨g, 0, none⟩) (n + 1) cap) (n + 1) (qs ++ [x]) ∧ Quad w5 R0 c0 c1 v c3 ∧ Quad (w5.setCell ⟨R0, 2, none⟩ (.slice (some ⟨g, 0, none⟩) (n + 1) cap)) R0 c0 c1 (.slice (some ⟨g, 0, none⟩) (n + 1) cap) c3 ∧ (Value.slice (some ⟨g, 0, none⟩) (n + 1) cap).ownBlock ≠ some R0 := by
  intro g cap w5 h1 h2d h3
  have bl := below_new W (.cells #[x] 3)
  have h2 : (W.alloc (.cells #[x] 3)).grownBy w5 v.ownBlock := ⟨h2d.os, h2d.tape, h2d.output, h2d.size, h2d.block⟩
  have h3' : v.ownBlock = some g ∨ W.heap.size ≤ g := h3.imp id fun h => by omega
  obtain ⟨x1, x2⟩ := grow_other bl h2 (b := R0) Q0.lt hv h3'
  have hne : (Value.slice (some ⟨g, 0, none⟩) (n + 1) cap).ownBlock ≠ some R0 := by simpa [Value.ownBlock] using x2
  exact ⟨(P.grow bl hB h1 h2 h3').set hX hBR hne _, Q0.keep x1, ((Q0.keep x1).set _).2.2.1, hne⟩

set_option maxRecDepth 100000 in
set_option maxHeartbeats 3000000 in
theorem putN_step (t f : Int) (tt ff : List Int) (ih : PutNSpec tt ff) : PutNSpec (t :: tt) (f :: ff) := by
  intro w k sa ls sc va vl vc ia li ic v2 A fa fl fc ta tl tc at' B n qs hk hA hfl htl hf ht hrt hrf hlen hB hn hat hAl own
  have hNt := (right_def.1 hrt).2.1
  have hNf := (right_def.1 hrf).2.1
  obtain ⟨T, rfl⟩ : ∃ T : Nat, t = T := ⟨t.toNat, by have := hNt.head; omega⟩
  obtain ⟨Fn, rfl⟩ : ∃ T : Nat, f = T := ⟨f.toNat, by have := hNf.head; omega⟩
  have hrt' := right_tailC hrt
  have hrf' := right_tailC hrf
  have hT := (dim_bd hrt (k := 0) (by simp)).2
  have hFn := (dim_bd hrf (k := 0) (by simp)).2
  simp only [List.getElem_cons_zero] at hT hFn
  rw [prN_cons hNt.head hNt.tail] at hn ⊢
  rw [prN_cons hNf.head hNf.tail] at hat ⊢
  rw [← pieces_end]
  simp only [Int.toNat_natCast] at *
  have hs6 := prN_le hrt'
  have hm6 := prN_le hrf'
  have hSZf := size_prN hrf'
  have hSZt := size_prN hrt'
  have hlen' : tt.length = ff.length := by simpa using hlen
  have SF := fun a c W (g : IntsAt W a c ff) => refSizeR a c ff W g
  have ST := fun a c W (g : IntsAt W a c tt) => refSizeR a c tt W g
  rw [hSZf] at SF
  rw [hSZt] at ST
  obtain ⟨k2, s2, l2, c2, na, nc, ia2, li2, ic2, rfl, hnn, hkk⟩ : ∃ k2 s2 l2 c2 na nc ia2 li2 ic2, v2 = .agg #[.int .i64 k2, .slice s2 l2 c2, .slice na A.nums.length nc, .slice ia2 li2 ic2] ∧ IntsAt w na nc A.nums ∧ k2 = A.kind := by
    have h := hA.at
    obtain ⟨kk, sh, nu, it⟩ := A
    rw [ArrAt] at h
    obtain ⟨sa, sc, na, nc, ia, ic, hv, -, -, hn, -⟩ := h
    exact ⟨_, _, _, _, _, _, _, _, _, hv, hn, rfl⟩
  clear hnn
  have k3 : (k2 == 3) = false := by rw [hkk]; rcases hk with h | h <;> rw [h] <;> rfl
  have e0 : ((tl : Int) == 0) = false := by rw [htl]; simp; omega
  have bw := below_3 w (.cells #[.int .i64 k, .slice sa ls sc, .slice va vl vc, .slice ia li ic] 26) (.cells #[.int .i64 k2, .slice s2 l2 c2, .slice na A.nums.length nc, .slice ia2 li2 ic2] 26) (.cells #[.int .i64 0, .slice none 0 0, .slice none 0 0, .slice none 0 0] 26)
  have q0 : Quad (((w.alloc (.cells #[.int .i64 k, .slice sa ls sc, .slice va vl vc, .slice ia li ic] 26)).alloc (.cells #[.int .i64 k2, .slice s2 l2 c2, .slice na A.nums.length nc, .slice ia2 li2 ic2] 26)).alloc (.cells #[.int .i64 0, .slice none 0 0, .slice none 0 0, .slice none 0 0] 26)) w.heap.size (.int .i64 k) (.slice sa ls sc) (.slice va vl vc) (.slice ia li ic) :=
    ((Quad.new w (.int .i64 k) (.slice sa ls sc) (.slice va vl vc) (.slice ia li ic)).below (below_new _ (.cells #[.int .i64 k2, .slice s2 l2 c2, .slice na A.nums.length nc, .slice ia2 li2 ic2] 26))).below (below_new _ (.cells #[.int .i64 0, .slice none 0 0, .slice none 0 0, .slice none 0 0] 26))
  have q1 : Quad (((w.alloc (.cells #[.int .i64 k, .slice sa ls sc, .slice va vl vc, .slice ia li ic] 26)).alloc (.cells #[.int .i64 k2, .slice s2 l2 c2, .slice na A.nums.length nc, .slice ia2 li2 ic2] 26)).alloc (.cells #[.int .i64 0, .slice none 0 0, .slice none 0 0, .slice none 0 0] 26)) (w.heap.size + 1) (.int .i64 k2) (.slice s2 l2 c2) (.slice na A.nums.length nc) (.slice ia2 li2 ic2) := by
    simpa using (Quad.new (w.alloc (.cells #[.int .i64 k, .slice sa ls sc, .slice va vl vc, .slice ia li ic] 26)) (.int .i64 k2) (.slice s2 l2 c2) (.slice na A.nums.length nc) (.slice ia2 li2 ic2)).below (below_new _ (.cells #[.int .i64 0, .slice none 0 0, .slice none 0 0, .slice none 0 0] 26))
  have qz : Quad (((w.alloc (.cells #[.int .i64 k, .slice sa ls sc, .slice va vl vc, .slice ia li ic] 26)).alloc (.cells #[.int .i64 k2, .slice s2 l2 c2, .slice na A.nums.length nc, .slice ia2 li2 ic2] 26)).alloc (.cells #[.int .i64 0, .slice none 0 0, .slice none 0 0, .slice none 0 0] 26)) (w.heap.size + 2) (.int .i64 0) (.slice none 0 0) (.slice none 0 0) (.slice none 0 0) := by
    simpa using Quad.new ((w.alloc (.cells #[.int .i64 k, .slice sa ls sc, .slice va vl vc, .slice ia li ic] 26)).alloc (.cells #[.int .i64 k2, .slice s2 l2 c2, .slice na A.nums.length nc, .slice ia2 li2 ic2] 26)) (.int .i64 0) (.slice none 0 0) (.slice none 0 0) (.slice none 0 0)
  obtain ⟨fa', fc', iF0, sF'⟩ := tailOn hf hfl rfl
  obtain ⟨ta', tc', iT0, sT'⟩ := tailOn ht htl rfl
  have hA3 := hA.below bw
  have hF3' := iF0.below bw
  have hT3' := iT0.below bw
  have hF3 := hf.below bw
  have hT3 := ht.below bw
  have hv := own.lt
  have P0 : PutS w.heap.size w _ B 3 1 (.slice va vl vc) (.slice va vl vc) n qs := (PutS.refl own).below bw hB
  have HF := fun v' w' (g : ArrAt w' v' A) => fillR_new v' A w' g
  have HK : Hid (A.kind = 1 ∨ A.kind = 2) := hk
  obtain ⟨i0, hi0, hz0, hz1, hz2⟩ := info_parts infoInt
  obtain ⟨s, hs⟩ : ∃ s, prN tt = s := ⟨_, rfl⟩
  obtain ⟨m, hm⟩ : ∃ m, prN ff = m := ⟨_, rfl⟩
  rw [hs] at hn hs6 ST ⊢
  rw [hm] at hat hm6 SF ⊢
  obtain ⟨z, hz⟩ : ∃ z, fillZ A.kind = z := ⟨_, rfl⟩
  rw [hz]
  have HFN : ∀ {w w' : World} {e : Ending}, GiveNew (fillA A.kind) w e w' → ∃ kf sf lf cf na nc ia li ic, e = .returned (.agg #[.int .i64 kf, .slice sf lf cf, .slice na 1 nc, .slice ia li ic]) ∧ IntsOn (fun g => w.heap.size ≤ g) w' na nc [z] ∧ Below w.heap.size w w' := fun h => by rw [← hz]; exact fill_num hk h
  have HFL : Hid (fl = (((Fn : Int) :: ff).length)) := hfl
  have HTL : Hid (tl = (((T : Int) :: tt).length)) := htl
  have hs3 : (((w.alloc (.cells #[.int .i64 k, .slice sa ls sc, .slice va vl vc, .slice ia li ic] 26)).alloc (.cells #[.int .i64 k2, .slice s2 l2 c2, .slice na A.nums.length nc, .slice ia2 li2 ic2] 26)).alloc (.cells #[.int .i64 0, .slice none 0 0, .slice none 0 0, .slice none 0 0] 26)).heap.size = w.heap.size + 3 := by simp
  have HS3 : Hid ((((w.alloc (.cells #[.int .i64 k, .slice sa ls sc, .slice va vl vc, .slice ia li ic] 26)).alloc (.cells #[.int .i64 k2, .slice s2 l2 c2, .slice na A.nums.length nc, .slice ia2 li2 ic2] 26)).alloc (.cells #[.int .i64 0, .slice none 0 0, .slice none 0 0, .slice none 0 0] 26)).heap.size = w.heap.size + 3) := hs3
  have HFn : Hid ((Fn : Int) ≤ 65536) := hFn
  have HAt : Hid (at' + Fn * m ≤ A.nums.length) := hat
  have HAl : Hid (A.nums.length ≤ 10000000) := hAl
  have Hn : Hid (n + T * s ≤ 10000000) := hn
  have HRT : Hid (rightB tt = true ∧ rightB ff = true ∧ tt.length = ff.length ∧ prN tt = s ∧ prN ff = m ∧ fillZ A.kind = z) := ⟨hrt', hrf', hlen', hs, hm, hz⟩
  clear hs3 hk hkk hfl htl hrt hrf hrt' hrf' hlen hlen' hNt hNf hSZf hSZt hs hm hz hFn hat hAl hn hA hf ht iF0 iT0
  obtain ⟨EL, hEL⟩ : ∃ EL, (A.nums.drop at').take (Fn * m) = EL := ⟨_, rfl⟩
  rw [hEL]
  have HEL : Hid ((A.nums.drop at').take (Fn * m) = EL) := hEL
  clear hEL
  generalize hLN : A.nums.length = nl at *
  have HLN : Hid (A.nums.length = nl) := hLN
  clear hLN
  go_enter Try.func47, Try.ntmps47
  go_wp2_with (go_at_call 25; refine (HF _ _ hA3.at).mono ?_; intro e w1 hN; (obtain ⟨kf, sf, lf, cf, fna, fnc, fia, fli, fic, rfl, hO, b1⟩ := HFN hN))
  have bn := below_new w1 (.cells #[.int .i64 kf, .slice sf lf cf, .slice fna 1 fnc, .slice fia fli fic] 26)
  have Q0 := (q0.below b1).below bn
  have Q1 := (q1.below b1).below bn
  have QZ := (qz.below b1).below bn
  have QF := Quad.new w1 (.int .i64 kf) (.slice sf lf cf) (.slice fna 1 fnc) (.slice fia fli fic)
  have HS := HS3.out
  have S1 := b1.size
  have P1 := (P0.below b1 hB).below bn hB
  have hv0 : ∀ g, w.heap.size ≤ g → (Value.slice va vl vc).ownBlock ≠ some g := fun g hg e => by have := (hv _ e).2; omega
  have hAW := ((hA3.below b1).below bn).mono (R := fun g => (Value.slice va vl vc).ownBlock ≠ some g ∧ g ≠ w.heap.size) fun g hg => ⟨hg.1.1.1, by omega⟩
  have hFW := ((hF3.below b1).below bn).mono (R := fun g => (Value.slice va vl vc).ownBlock ≠ some g ∧ g ≠ w.heap.size) fun g hg => ⟨hg.1.1.1, by omega⟩
  have hTW := ((hT3.below b1).below bn).mono (R := fun g => (Value.slice va vl vc).ownBlock ≠ some g ∧ g ≠ w.heap.size) fun g hg => ⟨hg.1.1.1, by omega⟩
  have hFW' := ((hF3'.below b1).below bn).mono (R := fun g => (Value.slice va vl vc).ownBlock ≠ some g ∧ g ≠ w.heap.size) fun g hg => ⟨hg.1.1.1, by omega⟩
  have hTW' := ((hT3'.below b1).below bn).mono (R := fun g => (Value.slice va vl vc).ownBlock ≠ some g ∧ g ≠ w.heap.size) fun g hg => ⟨hg.1.1.1, by omega⟩
  have hOW := (hO.below bn).mono (R := fun g => (Value.slice va vl vc).ownBlock ≠ some g ∧ g ≠ w.heap.size) fun g hg => ⟨hv0 g (by omega), by omega⟩
  have hvR : ∀ g, w.heap.size ≤ g → Hid ((Value.slice va vl vc).ownBlock ≠ some g) := fun g hg => hv0 g hg
  have S2 : w.heap.size + 4 ≤ (w1.alloc (.cells #[.int .i64 kf, .slice sf lf cf, .slice fna 1 fnc, .slice fia fli fic] 26)).heap.size := by rw [alloc_sizeP]; omega
  have hRF : w.heap.size + 3 ≤ w1.heap.size := by omega
  clear q0 q1 qz P0 bn hO hA3 hF3 hT3 hF3' hT3' HF HFN HS3 HS S1 b1 hv hv0 hN bw
  generalize (w1.alloc (.cells #[.int .i64 kf, .slice sf lf cf, .slice fna 1 fnc, .slice fia fli fic] 26)) = W at *
  generalize w1.heap.size = RF at *
  have K : ∀ {wr : World} {v' : Value} {n' : Nat} {q' : List Value}, PutS w.heap.size W wr B 3 1 (.slice va vl vc) v' n' q' → Quad wr (w.heap.size + 1) (.int .i64 k2) (.slice s2 l2 c2) (.slice na nl nc) (.slice ia2 li2 ic2) ∧ Quad wr (w.heap.size + 2) (.int .i64 0) (.slice none 0 0) (.slice none 0 0) (.slice none 0 0) ∧ Quad wr RF (.int .i64 kf) (.slice sf lf cf) (.slice fna 1 fnc) (.slice fia fli fic) ∧
      IntsOn (fun g => v'.ownBlock ≠ some g ∧ g ≠ w.heap.size) wr fna fnc [z] ∧ ArrOn (fun g => v'.ownBlock ≠ some g ∧ g ≠ w.heap.size) wr (.agg #[.int .i64 k2, .slice s2 l2 c2, .slice na nl nc, .slice ia2 li2 ic2]) A ∧ IntsOn (fun g => v'.ownBlock ≠ some g ∧ g ≠ w.heap.size) wr fa fc ((Fn : Int) :: ff) ∧ IntsOn (fun g => v'.ownBlock ≠ some g ∧ g ≠ w.heap.size) wr ta tc ((T : Int) :: tt) ∧ IntsOn (fun g => v'.ownBlock ≠ some g ∧ g ≠ w.heap.size) wr fa' fc' ff ∧ IntsOn (fun g => v'.ownBlock ≠ some g ∧ g ≠ w.heap.size) wr ta' tc' tt :=
    fun h => ⟨h.quad Q1 (by omega) (hvR _ (by omega)).out, h.quad QZ (by omega) (hvR _ (by omega)).out, h.quad QF (by omega) (hvR _ (by omega)).out, h.ints hOW, h.arr hAW, h.ints hFW, h.ints hTW, h.ints hFW', h.ints hTW'⟩
  have PW := PutS.refl (R := w.heap.size) (show W.ownsRow B 3 1 (.slice va vl vc) n qs from P1.own)
  have SF1 := SF fa' fc' W hFW'.1
  have hvR0 := hvR w.heap.size (Nat.le_refl _)
  have PWh : Hid (PutS w.heap.size W W B 3 1 (.slice va vl vc) (.slice va vl vc) n qs) := PW
  have Q0h : Hid (Quad W w.heap.size (.int .i64 k) (.slice sa ls sc) (.slice va vl vc) (.slice ia li ic)) := Q0
  have P1h : Hid (PutS w.heap.size w W B 3 1 (.slice va vl vc) (.slice va vl vc) n qs) := P1
  clear PW Q0 Q1 QZ QF hOW hAW hFW hTW hFW' hTW' P1 SF
  go_wp2_with (go_at_call 40; refine SF1.mono ?_; rintro e w2 ⟨rfl, rfl⟩)
  go_loopw [13] (fun i wr => ∃ (j : Nat) (a' : Option Addr) (l' c' : Nat), j ≤ T ∧ i = .int .i64 j ∧ PutS w.heap.size W wr B 3 1 (.slice va vl vc) (.slice a' l' c') (n + j * s) (qs ++ (pieces z tt ff (Fn : Int) EL j).map (Value.int .i64)) ∧ Quad wr w.heap.size (.int .i64 k) (.slice sa ls sc) (.slice a' l' c') (.slice ia li ic) ∧ (Value.slice a' l' c').ownBlock ≠ some w.heap.size) (fun i _ => T - (intOf i).toNat)
  case atStart => exact ⟨0, va, vl, vc, Nat.zero_le _, rfl, by rw [Nat.zero_mul, Nat.add_zero, pieces_zero, List.map_nil, List.append_nil]; exact PWh.out, Q0h.out, hvR0.out⟩
  case round =>
    clear PWh Q0h SF1
    obtain ⟨j, a', l', c', hj, rfl, hP, hQ, hne⟩ := hrel
    have hBW : B ≤ W.heap.size := by omega
    obtain ⟨K1, K2, K3, K4, K5, K6, K7, K8, K9⟩ := K hP
    obtain ⟨p0, p1, p2, p3, -⟩ := K1.cells
    obtain ⟨r0, r1, r2, r3, r4, r5, r6, r7⟩ := hQ.cells
    obtain ⟨f0, f1, f2, f3, -⟩ := K3.cells
    obtain ⟨tb, to', ti, tcell, -⟩ := firstAt K7 HTL.out
    obtain ⟨fb, fo, fi, fcell, -⟩ := firstAt K6 HFL.out
    by_cases hlt : j < T
    · by_cases c1 : j < Fn
      · by_cases hm0 : 0 < m
        · obtain ⟨q, hq⟩ : ∃ q, j * m = q := ⟨_, rfl⟩
          have hq1 : q + m ≤ Fn * m := by rw [← hq, ← Nat.succ_mul]; exact Nat.mul_le_mul_right _ c1
          obtain ⟨p, hp⟩ : ∃ p, at' + q = p := ⟨_, rfl⟩
          have hat2 := HAt.out
          have hal2 := HAl.out
          have hln2 := HLN.out
          have e5 : (j : Int) * (m : Int) = (q : Int) := by rw [← hq]; simp
          obtain ⟨e6, ew1, ew2, hpm⟩ := put_nums hp hq1 hat2 hal2
          have hE : padS (fillZ A.kind) tt ff ((A.nums.drop p).take (prN ff)) = piece z tt ff (Fn : Int) EL j := by
            rw [piece, HRT.out.2.2.2.2.1, if_pos ⟨by simpa using c1, hm0⟩, HRT.out.2.2.2.2.2, ← HEL.out, blk_take _ _ _ _ (by rw [Nat.succ_mul, hq]; exact hq1), List.drop_drop, hq, hp]
          have hnB : n + j * s + s ≤ 10000000 := by
            have h1 : (j + 1) * s ≤ T * s := Nat.mul_le_mul_right _ hlt
            have := Hn.out
            rw [Nat.succ_mul] at h1
            omega
          have hsz := hP.bel.size
          have A1 : ArrOn (fun g => (Value.slice a' l' c').ownBlock ≠ some g) wr.drew (.agg #[.int .i64 k2, .slice s2 l2 c2, .slice na nl nc, .slice ia2 li2 ic2]) A := ArrOn.keep (P := fun g => (Value.slice a' l' c').ownBlock ≠ some g ∧ g ≠ w.heap.size) (w := wr) (w' := wr.drew) (fun g hg _ => ⟨hg.1, fun _ => rfl⟩) K5
          have A2 : IntsOn (fun g => (Value.slice a' l' c').ownBlock ≠ some g) wr.drew fa' fc' ff := IntsOn.keep (P := fun g => (Value.slice a' l' c').ownBlock ≠ some g ∧ g ≠ w.heap.size) (w := wr) (w' := wr.drew) (fun g hg _ => ⟨hg.1, fun _ => rfl⟩) K8
          have A3 : IntsOn (fun g => (Value.slice a' l' c').ownBlock ≠ some g) wr.drew ta' tc' tt := IntsOn.keep (P := fun g => (Value.slice a' l' c').ownBlock ≠ some g ∧ g ≠ w.heap.size) (w := wr) (w' := wr.drew) (fun g hg _ => ⟨hg.1, fun _ => rfl⟩) K9
          have A4 : B ≤ wr.drew.heap.size := by show B ≤ wr.heap.size; omega
          have A5 : n + j * s + prN tt ≤ 10000000 := by rw [HRT.out.2.2.2.1]; exact hnB
          have A6 : p + prN ff ≤ A.nums.length := by rw [HRT.out.2.2.2.2.1, hln2]; exact hpm
          have A7 : A.nums.length ≤ 10000000 := by rw [hln2]; exact hal2
          have A8 : wr.drew.ownsRow B 3 1 (.slice a' l' c') (n + j * s) (qs ++ (pieces z tt ff (Fn : Int) EL j).map (Value.int .i64)) := hP.own
          have ih1 := ih wr.drew k sa ls sc a' l' c' ia li ic _ A fa' ff.length fc' ta' tt.length tc' p B (n + j * s) _ HK.out A1 rfl rfl A2 A3 HRT.out.1 HRT.out.2.1 HRT.out.2.2.1 A4 A5 A6 A7 A8
          clear A1 A2 A3 A4 A5 A6 A7 A8
          rw [hE, HRT.out.2.2.2.1] at ih1
          have hpc : Hid (pieces z tt ff (Fn : Int) EL (j + 1) = pieces z tt ff (Fn : Int) EL j ++ piece z tt ff (Fn : Int) EL j) := pieces_succ _ _ _ _ _ _
          generalize piece z tt ff (Fn : Int) EL j = PJ at *
          rw [show (p : Int) = wrap64 ((at' : Int) + wrap64 (q : Int)) by rw [ew1, e6, ew2]] at ih1
          clear hE hpm hq1 hat2 hal2 hln2 hq hp ih
          go_wp2_with fail
          go_still_tail 11, (by kernel_rfl)
          go_wp2_with (go_at_call 47; (with_reducible refine ih1.mono ?_); rintro e w2 ⟨a2, l2', c2', rfl, hP2⟩; (obtain ⟨h1, hne2⟩ := hP2.far w.heap.size hQ.lt (Nat.ne_of_lt hQ.lt) hne); (have hQ2 := hQ.keep (w' := w2) h1); (obtain ⟨t0, t1, t2, t3, t4, t5, t6, t7⟩ := hQ2.cells))
          have hP3 := hP.drew.trans hP2 (Or.inl hsz)
          go_roundw
          case rel => exact ⟨j + 1, a2, l2', c2', by omega, by go_num, by
            rw [hpc.out, Nat.succ_mul, ← Nat.add_assoc, List.map_append, ← List.append_assoc]
            exact hP3.set4 (Or.inl rfl) hB hne2 _ _ _ _, (set4 hQ2 _ _ _ _).1, hne2⟩
          case measure => simp [intOf]; omega
        · have c3 : ¬ (0 : Int) < (m : Int) := by omega
          have hpc : Hid (pieces z tt ff (Fn : Int) EL (j + 1) = pieces z tt ff (Fn : Int) EL j ++ List.replicate s z) := by
            unfold Hid
            rw [pieces_succ, piece, HRT.out.2.2.2.2.1, if_neg (by simp; omega), HRT.out.2.2.2.1]
          go_wp2_with fail
          go_loopw [14] (fun i wr2 => ∃ (j2 : Nat) (a' : Option Addr) (l' c' : Nat), j2 ≤ s ∧ i = .int .i64 j2 ∧ PutS w.heap.size W wr2 B 3 1 (.slice va vl vc) (.slice a' l' c') (n + j * s + j2) (qs ++ (pieces z tt ff (Fn : Int) EL j ++ List.replicate j2 z).map (Value.int .i64)) ∧ Quad wr2 w.heap.size (.int .i64 k) (.slice sa ls sc) (.slice a' l' c') (.slice ia li ic) ∧ (Value.slice a' l' c').ownBlock ≠ some w.heap.size) (fun i _ => s - (intOf i).toNat)
          case atStart => exact ⟨0, a', l', c', Nat.zero_le _, rfl, by rw [List.replicate_zero, List.append_nil, Nat.add_zero]; exact hP, hQ, hne⟩
          case round =>
            clear p0 p1 p2 p3 r0 r1 r2 r3 r4 r5 r6 r7 f0 f1 f2 f3 ti tcell fi fcell hP hQ hne ih
            obtain ⟨j2, b', m', d', hj2, rfl, hP2, hQ2, hne2⟩ := hrel
            obtain ⟨K1, K2, K3, K4, K5, K6, K7, K8, K9⟩ := K hP2
            obtain ⟨p0, p1, p2, p3, -⟩ := K1.cells
            obtain ⟨r0, r1, r2, r3, r4, r5, r6, r7⟩ := hQ2.cells
            obtain ⟨f0, f1, f2, f3, -⟩ := K3.cells
            have ST1 := ST ta' tc' wr K9.1
            by_cases hlt2 : j2 < s
            · obtain ⟨zb, zo, zi, zcell, -⟩ := firstAt (L := 1) K4 rfl
              have bl := below_new wr (.cells #[.int .i64 z] 3)
              obtain ⟨m0, m1, m2, m3, m4, m5, m6, m7⟩ := (hQ2.below bl).cells
              obtain ⟨g0, g1, g2, g3, -⟩ := (K3.below bl).cells
              have HX := app1 (x := .int .i64 z) hP2 hQ2 hne2 hBW (Or.inl rfl) hB
              have own1 := own_alloc hP2.own (Below.refl wr.heap.size wr) (.cells #[.int .i64 z] 3)
              have hnews : ∀ j u, [Value.int .i64 z][j]? = some u → (wr.alloc (.cells #[.int .i64 z] 3)).cell? ((⟨wr.heap.size, 0, none⟩ : Addr).add j) = some u := World.news_of_block (cs := #[.int .i64 z]) (t := 3) (fr := (0, 0)) (heap_alloc_new wr _)
              have hsW : (wr.alloc (.cells #[.int .i64 z] 3)).heap.size = wr.heap.size + 1 := by simp
              have hbase : B ≤ (wr.alloc (.cells #[.int .i64 z] 3)).heap.size := by have := hP2.bel.size; omega
              have hRs : Hid (qs ++ (pieces z tt ff (Fn : Int) EL j ++ List.replicate (j2 + 1) z).map (Value.int .i64) = qs ++ (pieces z tt ff (Fn : Int) EL j ++ List.replicate j2 z).map (Value.int .i64) ++ [.int .i64 z]) := by
                unfold Hid
                rw [List.replicate_succ', ← List.append_assoc, List.map_append (l₂ := [z]), ← List.append_assoc]; rfl
              have hnB : n + j * s + j2 + 1 ≤ 10000000 := by
                have h1 : (j + 1) * s ≤ T * s := Nat.mul_le_mul_right _ hlt
                have := Hn.out
                rw [Nat.succ_mul] at h1
                omega
              generalize qs ++ (pieces z tt ff (Fn : Int) EL j ++ List.replicate j2 z).map (Value.int .i64) = QL at *
              obtain ⟨NN2, hNN⟩ : ∃ NN2, n + j * s + j2 = NN2 := ⟨_, rfl⟩
              have hNs : Hid (n + j * s + (j2 + 1) = NN2 + 1) := by unfold Hid; omega
              rw [hNN] at HX own1 hnB
              clear hNN
              clear K1 K2 K3 K4 K5 K6 K7 K8 K9 hP2 hQ2 hpc
              go_wp2_with (go_at_call 40; refine ST1.mono ?_; rintro e w2 ⟨rfl, rfl⟩)
              go_region_law ((first
                | (refine step_append_lies _ (by rfl) _ _ _ (by rfl) B 3 i0 _ 1 8 Try.underlying23 hi0 hz0 hz1 hz2 rfl (by omega) (.slice b' m' d') NN2 QL (by rfl) own1 ⟨wr.heap.size, 0, none⟩ 1 1 [.int .i64 z] (by rfl) (by rfl) hnews (by intro u hu; simp at hu; subst hu; rfl) (by omega) (by unfold maxLen; omega) (by omega) hbase (wr.heap.size + 1) hsW ?_; intro gg cap w5 hown hgrow hat' hl5; (obtain ⟨P5, Q5, Q6, ne5⟩ := HX gg cap w5 hown hgrow hat'); (obtain ⟨t0, t1, t2, t3, t4, t5, t6, t7⟩ := Q5.cells))))
              all_goals go_wp2_with fail
              all_goals go_roundw
              all_goals first
                | (simp [intOf]; omega)
                | (refine ⟨j2 + 1, _, _, _, by omega, by go_num, ?_, Q6, ne5⟩; rw [hRs.out, hNs.out]; exact P5)
            · obtain rfl : j2 = s := by omega
              go_wp2_with (go_at_call 40; refine ST1.mono ?_; rintro e w2 ⟨rfl, rfl⟩)
              go_roundw
              case rel => exact ⟨j + 1, b', m', d', by omega, by go_num, by rw [hpc.out, Nat.succ_mul, ← Nat.add_assoc]; exact hP2, hQ2, hne2⟩
              case measure => simp [intOf]; omega
      · have hpc : Hid (pieces z tt ff (Fn : Int) EL (j + 1) = pieces z tt ff (Fn : Int) EL j ++ List.replicate s z) := by
          unfold Hid
          rw [pieces_succ, piece, HRT.out.2.2.2.2.1, if_neg (by simp; omega), HRT.out.2.2.2.1]
        go_wp2_with fail
        go_loopw [14] (fun i wr2 => ∃ (j2 : Nat) (a' : Option Addr) (l' c' : Nat), j2 ≤ s ∧ i = .int .i64 j2 ∧ PutS w.heap.size W wr2 B 3 1 (.slice va vl vc) (.slice a' l' c') (n + j * s + j2) (qs ++ (pieces z tt ff (Fn : Int) EL j ++ List.replicate j2 z).map (Value.int .i64)) ∧ Quad wr2 w.heap.size (.int .i64 k) (.slice sa ls sc) (.slice a' l' c') (.slice ia li ic) ∧ (Value.slice a' l' c').ownBlock ≠ some w.heap.size) (fun i _ => s - (intOf i).toNat)
        case atStart => exact ⟨0, a', l', c', Nat.zero_le _, rfl, by rw [List.replicate_zero, List.append_nil, Nat.add_zero]; exact hP, hQ, hne⟩
        case round =>
          clear p0 p1 p2 p3 r0 r1 r2 r3 r4 r5 r6 r7 f0 f1 f2 f3 ti tcell fi fcell hP hQ hne ih
          obtain ⟨j2, b', m', d', hj2, rfl, hP2, hQ2, hne2⟩ := hrel
          obtain ⟨K1, K2, K3, K4, K5, K6, K7, K8, K9⟩ := K hP2
          obtain ⟨p0, p1, p2, p3, -⟩ := K1.cells
          obtain ⟨r0, r1, r2, r3, r4, r5, r6, r7⟩ := hQ2.cells
          obtain ⟨f0, f1, f2, f3, -⟩ := K3.cells
          have ST1 := ST ta' tc' wr K9.1
          by_cases hlt2 : j2 < s
          · obtain ⟨zb, zo, zi, zcell, -⟩ := firstAt (L := 1) K4 rfl
            have bl := below_new wr (.cells #[.int .i64 z] 3)
            obtain ⟨m0, m1, m2, m3, m4, m5, m6, m7⟩ := (hQ2.below bl).cells
            obtain ⟨g0, g1, g2, g3, -⟩ := (K3.below bl).cells
            have HX := app1 (x := .int .i64 z) hP2 hQ2 hne2 hBW (Or.inl rfl) hB
            have own1 := own_alloc hP2.own (Below.refl wr.heap.size wr) (.cells #[.int .i64 z] 3)
            have hnews : ∀ j u, [Value.int .i64 z][j]? = some u → (wr.alloc (.cells #[.int .i64 z] 3)).cell? ((⟨wr.heap.size, 0, none⟩ : Addr).add j) = some u := World.news_of_block (cs := #[.int .i64 z]) (t := 3) (fr := (0, 0)) (heap_alloc_new wr _)
            have hsW : (wr.alloc (.cells #[.int .i64 z] 3)).heap.size = wr.heap.size + 1 := by simp
            have hbase : B ≤ (wr.alloc (.cells #[.int .i64 z] 3)).heap.size := by have := hP2.bel.size; omega
            have hRs : Hid (qs ++ (pieces z tt ff (Fn : Int) EL j ++ List.replicate (j2 + 1) z).map (Value.int .i64) = qs ++ (pieces z tt ff (Fn : Int) EL j ++ List.replicate j2 z).map (Value.int .i64) ++ [.int .i64 z]) := by
              unfold Hid
              rw [List.replicate_succ', ← List.append_assoc, List.map_append (l₂ := [z]), ← List.append_assoc]; rfl
            have hnB : n + j * s + j2 + 1 ≤ 10000000 := by
              have h1 : (j + 1) * s ≤ T * s := Nat.mul_le_mul_right _ hlt
              have := Hn.out
              rw [Nat.succ_mul] at h1
              omega
            generalize qs ++ (pieces z tt ff (Fn : Int) EL j ++ List.replicate j2 z).map (Value.int .i64) = QL at *
            obtain ⟨NN2, hNN⟩ : ∃ NN2, n + j * s + j2 = NN2 := ⟨_, rfl⟩
            have hNs : Hid (n + j * s + (j2 + 1) = NN2 + 1) := by unfold Hid; omega
            rw [hNN] at HX own1 hnB
            clear hNN
            clear K1 K2 K3 K4 K5 K6 K7 K8 K9 hP2 hQ2 hpc
            go_wp2_with (go_at_call 40; refine ST1.mono ?_; rintro e w2 ⟨rfl, rfl⟩)
            go_region_law ((first
              | (refine step_append_lies _ (by rfl) _ _ _ (by rfl) B 3 i0 _ 1 8 Try.underlying23 hi0 hz0 hz1 hz2 rfl (by omega) (.slice b' m' d') NN2 QL (by rfl) own1 ⟨wr.heap.size, 0, none⟩ 1 1 [.int .i64 z] (by rfl) (by rfl) hnews (by intro u hu; simp at hu; subst hu; rfl) (by omega) (by unfold maxLen; omega) (by omega) hbase (wr.heap.size + 1) hsW ?_; intro gg cap w5 hown hgrow hat' hl5; (obtain ⟨P5, Q5, Q6, ne5⟩ := HX gg cap w5 hown hgrow hat'); (obtain ⟨t0, t1, t2, t3, t4, t5, t6, t7⟩ := Q5.cells))))
            all_goals go_wp2_with fail
            all_goals go_roundw
            all_goals first
              | (simp [intOf]; omega)
              | (refine ⟨j2 + 1, _, _, _, by omega, by go_num, ?_, Q6, ne5⟩; rw [hRs.out, hNs.out]; exact P5)
          · obtain rfl : j2 = s := by omega
            go_wp2_with (go_at_call 40; refine ST1.mono ?_; rintro e w2 ⟨rfl, rfl⟩)
            go_roundw
            case rel => exact ⟨j + 1, b', m', d', by omega, by go_num, by rw [hpc.out, Nat.succ_mul, ← Nat.add_assoc]; exact hP2, hQ2, hne2⟩
            case measure => simp [intOf]; omega
    · obtain rfl : j = T := by omega
      have hne2 := (hP.far (w.heap.size + 2) (by omega) (by omega) (hvR _ (by omega)).out).2
      have hP3 := P1h.out.trans hP (Or.inl (Nat.le_refl _))
      have P7 := hP3.set4 (X := w.heap.size + 2) (Or.inr (by omega)) (by omega) hne2 (.int .i64 k) (.slice sa ls sc) (.slice a' l' c') (.slice ia li ic)
      obtain ⟨QW, -⟩ := set4 K2 (.int .i64 k) (.slice sa ls sc) (.slice a' l' c') (.slice ia li ic)
      obtain ⟨u0, u1, u2, u3, u4, u5, u6, u7⟩ := K2.cells
      clear hP3 hP P1h
      go_wp2_with fail
      generalize ((((wr.setCell ⟨w.heap.size + 2, 0, none⟩ (.int .i64 k)).setCell ⟨w.heap.size + 2, 1, none⟩ (.slice sa ls sc)).setCell ⟨w.heap.size + 2, 2, none⟩ (.slice a' l' c')).setCell ⟨w.heap.size + 2, 3, none⟩ (.slice ia li ic)) = WW at QW P7 ⊢
      obtain ⟨e0, e1, e2, e3, -⟩ := QW.cells
      exact bodyPost_ret (v := .agg #[.int .i64 k, .slice sa ls sc, .slice a' l' c', .slice ia li ic]) (by simp [results, Try.results47, go_sem, e0, e1, e2, e3]) rfl ⟨_, _, _, rfl, P7⟩
end Go.Proofs.Ytkjbccodahleoaa.Shape

namespace Go.Proofs.Ytkjbccodahleoaa.Shape
open Go.RowKit
set_option linter.unusedVariables false

theorem putN : ∀ (tt fr : List Int), PutNSpec tt fr
  | [], [] => by
    intro w k sa ls sc va vl vc ia li ic v2 A fa fl fc ta tl tc at' B n qs hk hA hfl htl hf ht hrt hrf hlen hB hn hat hAl own
    have hat' : at' < A.nums.length := by rw [prN_nil] at hat; omega
    subst hfl; subst htl
    have h := putN_nil k sa ls sc va vl vc ia li ic v2 A fa ta 0 fc tc at' B n qs w hk hA.at hB (by rw [prN_nil] at hn; omega) hat' own
    rw [padS, prN_nil]
    have e : (A.nums.drop at').take 1 = [A.nums[at']] := by
      rw [List.drop_eq_getElem_cons hat']; rfl
    rw [e]
    exact h
  | t :: tt, f :: ff => putN_step t f tt ff (putN tt ff)
  | [], _ :: _ => by
    intro w k sa ls sc va vl vc ia li ic v2 A fa fl fc ta tl tc at' B n qs hk hA hfl htl hf ht hrt hrf hlen
    simp at hlen
  | _ :: _, [] => by
    intro w k sa ls sc va vl vc ia li ic v2 A fa fl fc ta tl tc at' B n qs hk hA hfl htl hf ht hrt hrf hlen
    simp at hlen
end Go.Proofs.Ytkjbccodahleoaa.Shape

namespace Go.Proofs.Ytkjbccodahleoaa.Shape
open Go.RowKit
set_option linter.unusedVariables false

/-- What put gives: the row of items has grown. -/
def GivePutB (k : Int) (sa : Option Addr) (ls sc : Nat) (na : Option Addr) (ln nc : Nat) (w : World) (B : Nat) (V : Value) (Pq : Nat → Prop) (n' : Nat) (l' : List Arr) (e : Ending) (w' : World) : Prop :=
  ∃ va vl vc qs', e = .returned (.agg #[.int .i64 k, .slice sa ls sc, .slice na ln nc, .slice va vl vc]) ∧ PutS w.heap.size w w' B 26 4 V (.slice va vl vc) n' qs' ∧ Quads (fun g => (Value.slice va vl vc).ownBlock ≠ some g ∧ Pq g) w' qs' l'
def PutBSpec (tt fr : List Int) : Prop := ∀ (w : World) (k : Int) (sa : Option Addr) (ls sc : Nat) (na : Option Addr) (ln nc : Nat) (va : Option Addr) (vl vc : Nat) (v2 : Value) (A : Arr) (fa : Option Addr) (fl fc : Nat) (ta : Option Addr) (tl tc : Nat) (at' B n : Nat) (qs : List Value) (l : List Arr) (Pq : Nat → Prop),
  A.kind = 3 → ArrOn (fun g => (Value.slice va vl vc).ownBlock ≠ some g) w v2 A → Reach A → fl = fr.length → tl = tt.length → IntsOn (fun g => (Value.slice va vl vc).ownBlock ≠ some g) w fa fc fr → IntsOn (fun g => (Value.slice va vl vc).ownBlock ≠ some g) w ta tc tt →
  rightB tt = true → rightB fr = true → tt.length = fr.length → B ≤ w.heap.size → n + prN tt ≤ 10000000 → at' + prN fr ≤ A.items.length → A.items.length ≤ 10000000 → w.ownsRow B 26 4 (.slice va vl vc) n qs →
  (∀ g, w.heap.size ≤ g → Pq g) → Quads (fun g => (Value.slice va vl vc).ownBlock ≠ some g ∧ Pq g) w qs l →
  Calls Try.prog 47 #[.agg #[.int .i64 k, .slice sa ls sc, .slice na ln nc, .slice va vl vc], v2, .slice fa fl fc, .slice ta tl tc, .int .i64 at'] w (GivePutB k sa ls sc na ln nc w B (.slice va vl vc) Pq (n + prN tt) (l ++ padS fillI tt fr ((A.items.drop at').take (prN fr))))

theorem items_ix {w : World} {c0 c1 c2 : Value} {ia : Option Addr} {li ic : Nat} {A : Arr} (h : ArrAt w (.agg #[c0, c1, c2, .slice ia li ic]) A) {k : Nat} (hk : k < A.items.length) :
    ∃ b off d0 d1 d2 d3, (∀ w', (Instr.indexAt 24 (.slice ia li ic) (.int .i64 k)).run Try.prog w' = .ok (.pointer (some ⟨b, off, none⟩)) w') ∧ (w.cell? ⟨b, off, none⟩ = some d0 ∧ w.cell? ⟨b, off + 1, none⟩ = some d1 ∧ w.cell? ⟨b, off + 2, none⟩ = some d2 ∧ w.cell? ⟨b, off + 3, none⟩ = some d3) ∧ ArrAt w (.agg #[d0, d1, d2, d3]) A.items[k] := by
  obtain ⟨kk, sh, nu, it⟩ := A
  rw [ArrAt] at h
  obtain ⟨sa, sc, na, nc, ia', ic', hv, -, -, -, -, -, b, off, ha, hc⟩ := h
  simp only [Value.agg.injEq, Array.mk.injEq, List.cons.injEq, Value.slice.injEq, and_true] at hv
  obtain ⟨-, -, -, rfl, rfl, rfl⟩ := hv
  obtain ⟨d0, d1, d2, d3, hd, hA⟩ := ArrsAt.at hc hk
  exact ⟨b, off + k * 4, d0, d1, d2, d3, fun w' => items_at rfl ha hk w', hd, hA⟩
/-- Fill's result for boxes. -/
theorem fill_box {A : Arr} {w w' : World} {e : Ending} (hk : A.kind = 3) (h : GiveNew (fillA A.kind) w e w') : ∃ kf sf lf cf na ln nc ia ic, e = .returned (.agg #[.int .i64 kf, .slice sf lf cf, .slice na ln nc, .slice ia 1 ic]) ∧ ArrOn (fun g => w.heap.size ≤ g) w' (.agg #[.int .i64 kf, .slice sf lf cf, .slice na ln nc, .slice ia 1 ic]) (.mk 3 [] [] [fillI]) ∧ Below w.heap.size w w' := by
  have hf : fillA A.kind = .mk 3 [] [] [fillI] := by rw [hk]; rfl
  rw [hf] at h
  obtain ⟨sa, sc, na, nc, ia, ic, rfl, hO, hb⟩ := h.typed
  exact ⟨_, _, _, _, _, _, _, _, _, rfl, hO, hb⟩
theorem reach_fillB : Reach (.mk 3 [] [] [fillI]) := by
  rw [Reach, ReachL, ReachL, fillI, Reach, ReachL]
  exact ⟨by decide, by decide, by decide, ⟨by decide, by decide, by decide, trivial⟩, trivial⟩
theorem reach_fillI : Reach fillI := by
  rw [fillI, Reach, ReachL]; exact ⟨by decide, by decide, by decide, trivial⟩
theorem reach_item {A : Arr} (h : Reach A) {k : Nat} (hk : k < A.items.length) : Reach A.items[k] := by
  obtain ⟨kk, sh, nu, it⟩ := A
  rw [Reach] at h
  exact h.2.2.2.at hk
theorem Quads.setC {P : Nat → Prop} {w : World} {X o : Nat} {qs : List Value} {l : List Arr} (h : Quads P w qs l) (hX : ∀ g, P g → g ≠ X) (u : Value) : Quads P (w.setCell ⟨X, o, none⟩ u) qs l :=
  h.keep fun g hg _ => ⟨hg, fun o => World.cell?_of_block (set_other _ _ _ _ _ (hX g hg))⟩
theorem Quads.set4C {P : Nat → Prop} {w : World} {X : Nat} {qs : List Value} {l : List Arr} (h : Quads P w qs l) (hX : ∀ g, P g → g ≠ X) (c0 c1 c2 c3 : Value) : Quads P ((((w.setCell ⟨X, 0, none⟩ c0).setCell ⟨X, 1, none⟩ c1).setCell ⟨X, 2, none⟩ c2).setCell ⟨X, 3, none⟩ c3) qs l :=
  (((h.setC hX c0).setC hX c1).setC hX c2).setC hX c3
/-- An array appended to the row in the fourth cell of the block R0. -/
theorem appB {R : Nat} {w0 W w1 : World} {B n R0 : Nat} {V v : Value} {qs : List Value} {l : List Arr} {Pq : Nat → Prop} {A1 : Arr} {e0 e1 e2 e3 c0 c1 c2 : Value} (P : PutS R w0 W B 26 4 V v n qs) (Q0 : Quad W R0 c0 c1 c2 v) (hv : v.ownBlock ≠ some R0) (hB : B ≤ w0.heap.size) (hX : R0 = R ∨ w0.heap.size ≤ R0) (hBR : B ≤ R0)
    (b1 : Below W.heap.size W w1) (hq : Quads (fun g => v.ownBlock ≠ some g ∧ Pq g ∧ g ≠ R0) W qs l) (hPq : ∀ g, W.heap.size ≤ g → Pq g) (hN : ArrOn (fun g => W.heap.size ≤ g) w1 (.agg #[e0, e1, e2, e3]) A1) :
    ∀ (g cap : Nat) (w5 : World), w5.ownsRow B 26 4 (.slice (some ⟨g, 0, none⟩) (n + 1) cap) (n + 1) (qs ++ [e0, e1, e2, e3]) → (w1.alloc (.cells #[e0, e1, e2, e3] 26)).grownBy w5 v.ownBlock → (v.ownBlock = some g ∨ g = w1.heap.size + 1) →
      PutS R w0 (w5.setCell ⟨R0, 3, none⟩ (.slice (some ⟨g, 0, none⟩) (n + 1) cap)) B 26 4 V (.slice (some ⟨g, 0, none⟩) (n + 1) cap) (n + 1) (qs ++ [e0, e1, e2, e3]) ∧ Quad w5 R0 c0 c1 c2 v ∧ Quad (w5.setCell ⟨R0, 3, none⟩ (.slice (some ⟨g, 0, none⟩) (n + 1) cap)) R0 c0 c1 c2 (.slice (some ⟨g, 0, none⟩) (n + 1) cap) ∧ (Value.slice (some ⟨g, 0, none⟩) (n + 1) cap).ownBlock ≠ some R0 ∧
      Quads (fun g' => (Value.slice (some ⟨g, 0, none⟩) (n + 1) cap).ownBlock ≠ some g' ∧ Pq g' ∧ g' ≠ R0) (w5.setCell ⟨R0, 3, none⟩ (.slice (some ⟨g, 0, none⟩) (n + 1) cap)) (qs ++ [e0, e1, e2, e3]) (l ++ [A1]) := by
  intro g cap w5 h1 h2 h3
  have bl := Below.then b1 (below_new w1 (.cells #[e0, e1, e2, e3] 26))
  have s1 := b1.size
  have h3' : v.ownBlock = some g ∨ W.heap.size ≤ g := h3.imp id fun h => by omega
  obtain ⟨x1, x2⟩ := grow_other bl h2 (b := R0) Q0.lt hv h3'
  have hne : (Value.slice (some ⟨g, 0, none⟩) (n + 1) cap).ownBlock ≠ some R0 := by simpa [Value.ownBlock] using x2
  refine ⟨(P.grow bl hB h1 h2 h3').set hX hBR hne _, Q0.keep x1, ((Q0.keep x1).set _).2.2.2, hne, Quads.setC ?_ (fun g hg => hg.2.2) _⟩
  have hR0 := Q0.lt
  have lt1 := P.own.lt
  refine Quads.snoc (ArrOn.keep (P := fun g => W.heap.size ≤ g) (w := w1) (fun b hb hl => ?_) hN) (hq.keep fun b hb hl => ?_)
  · have hnb : v.ownBlock ≠ some b := fun e => by have := (lt1 b e).2; omega
    have hk : w5.heap[b]? = w1.heap[b]? := (h2.block b (by rw [alloc_sizeP]; omega) (Ne.symm hnb)).trans (Below.heap_alloc _ _ _ hl)
    refine ⟨⟨fun e => ?_, hPq b hb, by omega⟩, fun o => World.cell?_of_block hk⟩
    have e' : g = b := by simpa [Value.ownBlock] using e
    subst e'
    rcases h3 with h4 | h4
    · exact hnb h4
    · omega
  · obtain ⟨y1, y2⟩ := grow_other bl h2 (b := b) hl hb.1 h3'
    exact ⟨⟨by simpa [Value.ownBlock] using y2, hb.2⟩, fun o => World.cell?_of_block y1⟩
end Go.Proofs.Ytkjbccodahleoaa.Shape

namespace Go.Proofs.Ytkjbccodahleoaa.Shape
open Go.RowKit
set_option linter.unusedVariables false

structure AsmC (w : World) (S0 R8 : Nat) (c0 c1 c2 c3 : Value) (W : World) : Prop where
  siz : S0 ≤ W.heap.size
  bel : Below w.heap.size w W
  q8 : Quad W R8 c0 c1 c2 c3
  q6 : Quad W w.heap.size (.int .i64 0) (.slice none 0 0) (.slice none 0 0) (.slice none 0 0)
theorem AsmC.below {w W W' : World} {S0 R8 : Nat} {c0 c1 c2 c3 : Value} (h : AsmC w S0 R8 c0 c1 c2 c3 W) (hb : Below W.heap.size W W') : AsmC w S0 R8 c0 c1 c2 c3 W' := ⟨Nat.le_trans h.siz hb.size, Below.then h.bel hb, h.q8.below hb, h.q6.below hb⟩
theorem AsmC.but {w W W' : World} {S0 R8 b : Nat} {c0 c1 c2 c3 : Value} (h : AsmC w S0 R8 c0 c1 c2 c3 W) (hb : But b W W') (h1 : w.heap.size < b) (h2 : b ≠ R8) : AsmC w S0 R8 c0 c1 c2 c3 W' :=
  ⟨Nat.le_trans h.siz hb.size, h.bel.trans (hb.below (by omega) h.bel.size), h.q8.keep (hb.block _ (Ne.symm h2) h.q8.lt), h.q6.keep (hb.block _ (by omega) h.q6.lt)⟩

/-- What the loop goes by: D i ahead of round i, D' i behind its numbers. -/
structure AsmD (w : World) (S0 R8 : Nat) (k8 : Int) (s8 : Option Addr) (l8 d8 : Nat) (n8 : Option Addr) (m8 e8 : Nat) (i8 : Option Addr) (j8 f8 : Nat) (m : Nat) (ca : Option Addr) (cc : Nat) (cm : List Int) (l : List Arr) (R : Arr) (D D' : Nat → World → Prop) (vI vA : Nat → Value) : Prop where
  keepC : ∀ i W, D i W → AsmC w S0 R8 (.int .i64 k8) (.slice s8 l8 d8) (.slice n8 m8 e8) (.slice i8 j8 f8) W
  keepC' : ∀ i W, D' i W → AsmC w S0 R8 (.int .i64 k8) (.slice s8 l8 d8) (.slice n8 m8 e8) (.slice i8 j8 f8) W
  bel : ∀ i W W', D i W → Below W.heap.size W W' → D i W'
  bel' : ∀ i W W', D' i W → Below W.heap.size W W' → D' i W'
  bI : ∀ i, i < l.length → ∀ W, Calls Try.prog 37 #[.slice n8 m8 e8, .int .i64 (i : Int), .int .i64 (m : Int)] W fun e w' => e = .returned (vI i) ∧ W = w'
  bA : ∀ i, i < l.length → ∀ W, Calls Try.prog 38 #[.slice i8 j8 f8, .int .i64 (i : Int), .int .i64 (m : Int)] W fun e w' => e = .returned (vA i) ∧ W = w'
  pI : ∀ i (hi : i < l.length) W (k' : Int) (sa : Option Addr) (ls sc : Nat) (na : Option Addr) (ln nc : Nat) (ia : Option Addr) (li ic : Nat), ArrAt w (.agg #[.int .i64 k', .slice sa ls sc, .slice na ln nc, .slice ia li ic]) l[i] → D i W →
    Calls Try.prog 68 #[vI i, .slice ca cm.length cc, .slice na ln nc, .slice sa ls sc] W fun e w' => e = .returned (.tuple #[]) ∧ D' i w' ∧ ∃ t, t < S0 ∧ But t W w'
  pA : ∀ i (hi : i < l.length) W (k' : Int) (sa : Option Addr) (ls sc : Nat) (na : Option Addr) (ln nc : Nat) (ia : Option Addr) (li ic : Nat), ArrAt w (.agg #[.int .i64 k', .slice sa ls sc, .slice na ln nc, .slice ia li ic]) l[i] → D' i W →
    Calls Try.prog 69 #[vA i, .slice ca cm.length cc, .slice ia li ic, .slice sa ls sc] W fun e w' => e = .returned (.tuple #[]) ∧ D (i + 1) w' ∧ ∃ t, t < S0 ∧ But t W w'
  fin : ∀ W, D l.length W → ArrAt W (.agg #[.int .i64 k8, .slice s8 l8 d8, .slice n8 m8 e8, .slice i8 j8 f8]) R

theorem placeI_zero (pa ta ea fa : Option Addr) (pc K tc M ec KF fc : Nat) (w : World) :
    Calls Try.prog 68 #[.slice pa 0 pc, .slice ta K tc, .slice ea M ec, .slice fa KF fc] w fun e w' => e = .returned (.tuple #[]) ∧ w = w' := by
  obtain ⟨N, hN⟩ : ∃ N : Nat, 0 = N := ⟨_, rfl⟩
  rw [hN]
  have e1 : ((N : Int) == 0) = true := by simp [← hN]
  clear hN
  go_enter Try.func68, Try.ntmps68
  go_wp2_with fail
  first | go_end0 | refine bodyPost_ret (results_none rfl _ _ _) rfl ?_
  exact ⟨rfl, rfl⟩
theorem placeA_zero (pa ta ea fa : Option Addr) (pc K tc M ec KF fc : Nat) (w : World) :
    Calls Try.prog 69 #[.slice pa 0 pc, .slice ta K tc, .slice ea M ec, .slice fa KF fc] w fun e w' => e = .returned (.tuple #[]) ∧ w = w' := by
  obtain ⟨N, hN⟩ : ∃ N : Nat, 0 = N := ⟨_, rfl⟩
  rw [hN]
  have e1 : ((N : Int) == 0) = true := by simp [← hN]
  clear hN
  go_enter Try.func69, Try.ntmps69
  go_wp2_with fail
  first | go_end0 | refine bodyPost_ret (results_none rfl _ _ _) rfl ?_
  exact ⟨rfl, rfl⟩
theorem IntsAt.onNe {w W : World} {b : Nat} {a : Option Addr} {c : Nat} {xs : List Int} (h : IntsAt w a c xs) (hb : w.heap.size ≤ b) (hW : Below w.heap.size w W) : IntsOn (fun g => g ≠ b) W a c xs := by
  have hB := h.below hW
  refine ⟨hB, fun hne ad e => ?_⟩
  obtain ⟨-, -, -, b', o', ha, hc⟩ := h
  rw [ha hne] at e
  cases e
  have := cell_lt (hc 0 (List.length_pos_iff.2 hne))
  show b' ≠ b
  omega
/-- No elements at all. -/
theorem asm_zero {w wc : World} {R8 m : Nat} {k : Int} {s8 n8 i8 : Option Addr} {d8 e8 f8 : Nat} {ca : Option Addr} {cc : Nat} {cm sh : List Int} {l : List Arr} {R : Arr} (hC : AsmC w wc.heap.size R8 (.int .i64 k) (.slice s8 sh.length d8) (.slice n8 0 e8) (.slice i8 0 f8) wc) (hs : IntsAt wc s8 d8 sh)
    (hk : -9223372036854775808 ≤ k ∧ k ≤ 9223372036854775807) (he : e8 ≤ 9223372036854775807) (hf : f8 ≤ 9223372036854775807) (hR : R = .mk k sh [] []) :
    ∃ D D' vI vA, AsmD w wc.heap.size R8 k s8 sh.length d8 n8 0 e8 i8 0 f8 m ca cc cm l R D D' vI vA ∧ D 0 wc := by
  refine ⟨fun _ W => AsmC w wc.heap.size R8 (.int .i64 k) (.slice s8 sh.length d8) (.slice n8 0 e8) (.slice i8 0 f8) W ∧ IntsAt W s8 d8 sh, fun _ W => AsmC w wc.heap.size R8 (.int .i64 k) (.slice s8 sh.length d8) (.slice n8 0 e8) (.slice i8 0 f8) W ∧ IntsAt W s8 d8 sh,
    fun _ => .slice none 0 0, fun _ => .slice none 0 0, ⟨fun _ _ h => h.1, fun _ _ h => h.1, fun _ _ _ h hb => ⟨h.1.below hb, h.2.below hb⟩, fun _ _ _ h hb => ⟨h.1.below hb, h.2.below hb⟩, ?_, ?_, ?_, ?_, ?_⟩, hC, hs⟩
  · exact fun i _ W => blockI_nil n8 e8 i m W
  · exact fun i _ W => blockA_nil i8 f8 i m W
  · intro i hi W k' sa ls sc na ln nc ia li ic _ hD
    refine (placeI_zero _ _ _ _ _ _ _ _ _ _ _ W).mono ?_
    rintro e w' ⟨rfl, rfl⟩
    exact ⟨rfl, hD, w.heap.size, hC.q6.lt, But.refl _ _⟩
  · intro i hi W k' sa ls sc na ln nc ia li ic _ hD
    refine (placeA_zero _ _ _ _ _ _ _ _ _ _ _ W).mono ?_
    rintro e w' ⟨rfl, rfl⟩
    exact ⟨rfl, hD, w.heap.size, hC.q6.lt, But.refl _ _⟩
  · rintro W ⟨-, hi⟩
    rw [hR, ArrAt]
    exact ⟨s8, d8, n8, e8, i8, f8, rfl, hk, hi, ⟨Nat.zero_le _, he, fun x hx => absurd hx (by simp), 0, 0, fun hn => absurd rfl hn, fun i hi => absurd hi (by simp)⟩, Nat.zero_le _, hf, 0, 0, fun h => absurd rfl h, by rw [ArrsAt]; trivial⟩

theorem area_of_cells {w : World} {b o : Nat} {cs : Array Value} {T : TypeId} {xs : List Value} (hg : w.heap[b]? = some (.cells cs T (0, 0))) (hne : xs ≠ []) (hc : ∀ i (h : i < xs.length), w.cell? ⟨b, o + i, none⟩ = some xs[i]) :
    AreaAt w b T (cs.toList.take o) xs (cs.toList.drop (o + xs.length)) ∧ (cs.toList.take o).length = o := by
  have hcs : ∀ i (h : i < xs.length), cs.toList[o + i]? = some xs[i] := by
    intro i hi
    have := hc i hi
    simp only [World.cell?, hg] at this
    rw [Array.getElem?_toList]
    simpa using this
  have hlen : o + xs.length ≤ cs.toList.length := by
    have h0 : 0 < xs.length := List.length_pos_iff.2 hne
    have := (List.getElem?_eq_some_iff.1 (hcs (xs.length - 1) (by omega))).1
    omega
  have hmid : (cs.toList.drop o).take xs.length = xs := by
    apply List.ext_getElem
    · simp only [List.length_take, List.length_drop]; omega
    · intro i h1 h2
      rw [List.getElem_take, List.getElem_drop]
      have := hcs i h2
      rw [List.getElem?_eq_getElem (by omega)] at this
      exact Option.some.inj this
  refine ⟨?_, by rw [List.length_take]; omega⟩
  unfold AreaAt
  rw [hg]
  congr 2
  have : cs.toList = cs.toList.take o ++ (xs ++ cs.toList.drop (o + xs.length)) := by
    conv => lhs; rw [← List.take_append_drop o cs.toList]
    congr 1
    conv => lhs; rw [← List.take_append_drop xs.length (cs.toList.drop o)]
    rw [hmid, List.drop_drop]
  rw [← this]
def unit1 (x : Int) : List Value := [.int .i64 x]
theorem unit1_flat (xs : List Int) : (xs.map unit1).flatten = xs.map (Value.int .i64) := by
  induction xs with
  | nil => rfl
  | cons x r ih => rw [List.map_cons, List.flatten_cons, ih]; rfl
theorem unit1_units (xs : List Int) : Units 1 (xs.map unit1) := fun e he => by
  obtain ⟨x, -, rfl⟩ := List.mem_map.1 he
  exact ⟨rfl, fun v hv => by simp [unit1] at hv; subst hv; rfl⟩
theorem padS_units {z : Int} (cm fs nums : List Int) (h : cm.length = fs.length) (hn : NN cm) : padT cm fs (nums.map unit1) ((List.replicate (prN cm) z).map unit1) = (padS z cm fs nums).map unit1 := by
  rw [padT_map, padT_rep z cm fs nums h hn]
theorem ints_src {w W : World} {b : Nat} {a : Option Addr} {c : Nat} {xs : List Int} (h : IntsAt w a c xs) (hb : w.heap.size ≤ b) (hW : Below w.heap.size w W) : ElsAt W b a ((xs.map unit1).flatten) := by
  intro hne
  rw [unit1_flat] at hne ⊢
  have hx : xs ≠ [] := fun e => hne (by rw [e]; rfl)
  obtain ⟨-, -, -, be, oe, ha, hc⟩ := h
  have h0 := cell_lt (hc 0 (List.length_pos_iff.2 hx))
  refine ⟨be, oe, ha hx, by omega, fun j v hj => ?_⟩
  have hjl : j < xs.length := by
    have := (List.getElem?_eq_some_iff.1 hj).1
    simpa using this
  rw [hW.cell h0, hc j hjl, ← hj, List.getElem?_map, List.getElem?_eq_getElem hjl]
  rfl
/-- Numbers. -/
theorem asm_nums {w wc : World} {R8 m bN oN : Nat} {k z : Int} {s8 i8 : Option Addr} {d8 e8 f8 : Nat} {ca : Option Addr} {cc : Nat} {cm sh : List Int} {l : List Arr} {cs : Array Value} {T : TypeId} (hz : z = fillZ k)
    (hC : AsmC w wc.heap.size R8 (.int .i64 k) (.slice s8 sh.length d8) (.slice (some ⟨bN, oN, none⟩) (l.length * m) e8) (.slice i8 0 f8) wc) (hs : IntsOn (fun g => g ≠ bN) wc s8 d8 sh)
    (hk : k = 1 ∨ k = 2) (hb1 : w.heap.size < bN) (hb2 : bN ≠ R8) (hcell : ∀ i, i < l.length * m → wc.cell? ⟨bN, oN + i, none⟩ = some (.int .i64 z)) (hh : wc.heap[bN]? = some (.cells cs T (0, 0)))
    (he : l.length * m ≤ e8) (he2 : e8 ≤ 9223372036854775807) (hf : f8 ≤ 9223372036854775807) (hN : l.length * m ≠ 0) (hL : l.length ≤ 65536) (hm : m = prN cm) (hr : rightB cm = true) (hcm : IntsAt w ca cc cm) (hok : ∀ A ∈ l, Okay k cm A) (hnb : ∀ A ∈ l, ∀ x ∈ A.nums, -9223372036854775808 ≤ x ∧ x ≤ 9223372036854775807) :
    ∃ D D' vI vA, AsmD w wc.heap.size R8 k s8 sh.length d8 (some ⟨bN, oN, none⟩) (l.length * m) e8 i8 0 f8 m ca cc cm l (asmA k sh cm l) D D' vI vA ∧ D 0 wc := by
  have hk3 : k ≠ 3 := by omega
  have hNN := (right_def.1 hr).2.1
  have hm0 : m ≠ 0 := fun e => hN (by rw [e, Nat.mul_zero])
  have hfl : ∀ A ∈ l, (partN k cm A).length = m := fun A hA => by
    have o := hok A hA
    rw [partN, hm, padS_len _ _ _ _ (by rw [leadS_len o.len]) hNN (leadS_NN o.nn) (by rw [leadS_prN o.nn]; exact (o.nums hk3).1)]
  have hxne : ((List.replicate (l.length * m) z).map (Value.int .i64)) ≠ [] := by simp; omega
  obtain ⟨hA0, hL1⟩ := area_of_cells (o := oN) (xs := (List.replicate (l.length * m) z).map (Value.int .i64)) hh hxne (fun i hi => by
    simp only [List.length_map, List.length_replicate] at hi
    rw [hcell i hi]; simp)
  generalize cs.toList.take oN = L1 at hA0 hL1
  generalize cs.toList.drop (oN + ((List.replicate (l.length * m) z).map (Value.int .i64)).length) = L2 at hA0
  subst hL1
  refine ⟨fun i W => (AsmC w wc.heap.size R8 (.int .i64 k) (.slice s8 sh.length d8) (.slice (some ⟨bN, L1.length, none⟩) (l.length * m) e8) (.slice i8 0 f8) W ∧ IntsOn (fun g => g ≠ bN) W s8 d8 sh) ∧ AreaAt W bN T L1 ((curS z (partN k cm) l i m).map unit1).flatten L2,
    fun i W => (AsmC w wc.heap.size R8 (.int .i64 k) (.slice s8 sh.length d8) (.slice (some ⟨bN, L1.length, none⟩) (l.length * m) e8) (.slice i8 0 f8) W ∧ IntsOn (fun g => g ≠ bN) W s8 d8 sh) ∧ AreaAt W bN T L1 ((curS z (partN k cm) l (i + 1) m).map unit1).flatten L2,
    fun i => .slice (some ⟨bN, L1.length + i * m * 1, none⟩) m m, fun _ => .slice none 0 0, ⟨fun _ _ h => h.1.1, fun _ _ h => h.1.1, ?_, ?_, ?_, ?_, ?_, ?_, ?_⟩, ⟨hC, hs⟩, by rw [curS_zero, unit1_flat]; exact hA0⟩
  · exact fun i W W' h hb => ⟨⟨h.1.1.below hb, h.1.2.keep fun g hg hl => ⟨hg, fun o => hb.cell hl⟩⟩, (hb.block bN (lt_of_heap h.2)).trans h.2⟩
  · exact fun i W W' h hb => ⟨⟨h.1.1.below hb, h.1.2.keep fun g hg hl => ⟨hg, fun o => hb.cell hl⟩⟩, (hb.block bN (lt_of_heap h.2)).trans h.2⟩
  · intro i hi W
    have := blockI (some ⟨bN, L1.length, none⟩) (l.length * m) e8 i m W hN he he2 (Nat.mul_le_mul_right _ hi) (by omega)
    rw [blkA_some hm0] at this
    exact this
  · exact fun i _ W => blockA_nil i8 f8 i m W
  · intro i hi W k' sa ls sc na ln nc ia li ic hA hD
    obtain ⟨⟨dC, dS⟩, dA⟩ := hD
    have o := hok _ (List.getElem_mem hi)
    have hl2 : ∀ A ∈ l.take i, (partN k cm A).length = m := fun A hA => hfl A (List.mem_of_mem_take hA)
    have hdl := done_len (partN k cm) m (l.take i) hl2
    rw [List.length_take, Nat.min_eq_left (by omega)] at hdl
    have hst : ((curS z (partN k cm) l (i + 1) m).map unit1).flatten = ((((l.take i).map (partN k cm)).flatten).map unit1).flatten ++ (((partN k cm l[i]).map unit1).flatten ++ ((List.replicate ((l.length - (i + 1)) * m) z).map unit1).flatten) := by
      rw [curS_step z _ l i m hi, List.map_append, List.map_append, List.flatten_append, List.flatten_append]
    rw [hst]
    rw [curS_split z _ l i m hi, List.map_append, List.map_append, List.flatten_append, List.flatten_append] at dA
    rw [area_mid] at dA
    have hpt : partN k cm l[i] = padS z cm (leadS l[i].shape cm.length) l[i].nums := by rw [partN, hz]
    rw [hpt]
    generalize l[i] = A at hA o hpt
    obtain ⟨ak, ash, anu, ait⟩ := A
    rw [ArrAt] at hA
    obtain ⟨sa', sc', na', nc', ia', ic', hv, -, hsh, hnu, -⟩ := hA
    simp only [Value.agg.injEq, Array.mk.injEq, List.cons.injEq, and_true, Value.slice.injEq] at hv
    obtain ⟨-, ⟨rfl, rfl, rfl⟩, ⟨rfl, rfl, rfl⟩, -⟩ := hv
    have hln : (anu.map unit1).length = anu.length := List.length_map _
    have hP : PlI W cm ash T (anu.map unit1) ((List.replicate m z).map unit1) (L1 ++ ((((l.take i).map (partN k cm)).flatten).map unit1).flatten) (((List.replicate ((l.length - (i + 1)) * m) z).map unit1).flatten ++ L2) bN m m cc nc sc (some ⟨bN, L1.length + i * m * 1, none⟩) ca na sa := by
      refine ⟨hr, o.nn, o.len, (fun h9 => o.fit (by rw [← hm]; exact h9)), by rw [hln]; exact (o.nums hk3).1, unit1_units _, by simp, unit1_units _, hm, Nat.le_refl _, by have := Nat.le_mul_of_pos_left m (show 0 < l.length by omega); omega, fun _ => ?_, by rw [hln]; exact hnu.1, hnu.2.1, ints_src hnu (by omega) dC.bel, dA, hcm.onNe (by omega) dC.bel, hsh.onNe (by omega) dC.bel⟩
      rw [List.length_append, (unit1_units _).len, List.length_map, hdl]
    have := placeI W cm ash T _ _ _ _ bN m m cc nc sc _ ca na sa hP
    rw [hln] at this
    refine this.mono ?_
    rintro e w' ⟨he', hA', hB'⟩
    refine ⟨he', ⟨⟨dC.but hB' hb1 hb2, dS.but hB'⟩, ?_⟩, bN, lt_of_heap hh, hB'⟩
    rw [area_mid]
    have hcl : cm.length = (leadS ash cm.length).length := (leadS_len o.len).symm
    rw [hm, padS_units cm _ anu hcl hNN] at hA'
    rw [hm]
    exact hA'
  · intro i hi W k' sa ls sc na ln nc ia li ic _ hD
    refine (placeA_zero _ _ _ _ _ _ _ _ _ _ _ W).mono ?_
    rintro e w' ⟨rfl, rfl⟩
    exact ⟨rfl, hD, w.heap.size, hC.q6.lt, But.refl _ _⟩
  · rintro W ⟨⟨-, hS⟩, hA⟩
    rw [curS_end, unit1_flat] at hA
    have hcl := done_len (partN k cm) m l hfl
    have hbd : ∀ x ∈ (l.map (partN k cm)).flatten, -9223372036854775808 ≤ x ∧ x ≤ 9223372036854775807 := by
      intro x hx
      obtain ⟨p, hp, hx⟩ := List.mem_flatten.1 hx
      obtain ⟨A, hA, rfl⟩ := List.mem_map.1 hp
      rcases padS_mem _ _ _ _ x hx with h1 | h1
      · rw [h1, fillZ]; split <;> decide
      · exact hnb A hA x h1
    rw [asmA, if_neg hk3, if_neg hk3, ArrAt]
    refine ⟨s8, d8, _, e8, i8, f8, by rw [hcl]; rfl, by omega, hS.1, ⟨by rw [hcl]; exact he, he2, hbd, bN, L1.length, fun _ => rfl, fun i hi => ?_⟩, Nat.zero_le _, hf, 0, 0, fun h => absurd rfl h, by rw [ArrsAt]; trivial⟩
    generalize (l.map (partN k cm)).flatten = X at hA hi ⊢
    unfold AreaAt at hA
    simp only [World.cell?, hA]
    show (L1 ++ (X.map (Value.int .i64) ++ L2)).toArray[L1.length + i]? = _
    rw [List.getElem?_toArray, List.getElem?_append_right (by omega), Nat.add_sub_cancel_left, List.getElem?_append_left (by simpa using hi)]
    simp [hi]
end Go.Proofs.Ytkjbccodahleoaa.Shape

namespace Go.Proofs.Ytkjbccodahleoaa.Shape
open Go.RowKit
set_option linter.unusedVariables false

/-- Four cells that hold an array, none of whose blocks is the row. -/
def ItemAt (G : Nat) (W : World) (p : List Value × Arr) : Prop := ∃ c0 c1 c2 c3, p.1 = [c0, c1, c2, c3] ∧ (∀ v ∈ p.1, v.oneCell' = true) ∧ ArrOn (fun g => g ≠ G) W (.agg #[c0, c1, c2, c3]) p.2
theorem ItemAt.but {G : Nat} {W W' : World} {p : List Value × Arr} (h : ItemAt G W p) (hb : But G W W') : ItemAt G W' p := by
  obtain ⟨c0, c1, c2, c3, h1, h2, h3⟩ := h
  exact ⟨c0, c1, c2, c3, h1, h2, hb.on h3⟩
theorem ItemAt.below {G : Nat} {W W' : World} {p : List Value × Arr} (h : ItemAt G W p) (hb : Below W.heap.size W W') : ItemAt G W' p := by
  obtain ⟨c0, c1, c2, c3, h1, h2, h3⟩ := h
  exact ⟨c0, c1, c2, c3, h1, h2, h3.keep fun g hg hl => ⟨hg, fun o => hb.cell hl⟩⟩
theorem quads_pairs {P : Nat → Prop} {w W : World} {G : Nat} (hP : ∀ g, P g → g < w.heap.size → g ≠ G ∧ ∀ o, W.cell? ⟨g, o, none⟩ = w.cell? ⟨g, o, none⟩) : ∀ {l : List Arr} {qs : List Value}, Quads P w qs l → (∀ u ∈ qs, u.oneCell' = true) → ∃ ps : List (List Value × Arr), ps.map Prod.snd = l ∧ (ps.map Prod.fst).flatten = qs ∧ ∀ p ∈ ps, ItemAt G W p
  | [], qs, h, _ => by
    rw [quads_nil h]
    exact ⟨[], rfl, rfl, fun p hp => by cases hp⟩
  | A :: r, qs, h, ho => by
    obtain ⟨c0, c1, c2, c3, q, rfl, hA, hq⟩ := quads_cons h
    obtain ⟨ps, h1, h2, h3⟩ := quads_pairs hP hq (fun u hu => ho u (by simp [hu]))
    refine ⟨([c0, c1, c2, c3], A) :: ps, by rw [List.map_cons, h1], by rw [List.map_cons, List.flatten_cons, h2]; rfl, fun p hp => ?_⟩
    rcases List.mem_cons.1 hp with rfl | hp
    · exact ⟨c0, c1, c2, c3, rfl, fun v hv => ho v (List.mem_append_left q hv), hA.keep hP⟩
    · exact h3 p hp
theorem pairs_quads {W : World} {G : Nat} : ∀ {ps : List (List Value × Arr)}, (∀ p ∈ ps, ItemAt G W p) → Quads (fun g => g ≠ G) W (ps.map Prod.fst).flatten (ps.map Prod.snd)
  | [], _ => by
    show Quads _ W [] []
    rw [Quads]; trivial
  | p :: ps, h => by
    obtain ⟨c0, c1, c2, c3, h1, h2, h3⟩ := h p (by simp)
    rw [List.map_cons, List.map_cons, List.flatten_cons, h1]
    show Quads _ W (c0 :: c1 :: c2 :: c3 :: (ps.map Prod.fst).flatten) (p.2 :: ps.map Prod.snd)
    rw [Quads]
    exact ⟨h3, pairs_quads fun q hq => h q (by simp [hq])⟩
theorem items_units {W : World} {G : Nat} {ps : List (List Value × Arr)} (h : ∀ p ∈ ps, ItemAt G W p) : Units 4 (ps.map Prod.fst) := fun e he => by
  obtain ⟨p, hp, rfl⟩ := List.mem_map.1 he
  obtain ⟨c0, c1, c2, c3, h1, h2, -⟩ := h p hp
  exact ⟨by rw [h1]; rfl, h2⟩
theorem cut_append {α β : Type} {f : α → β} {l : List α} {X Y : List β} (h : l.map f = X ++ Y) : ∃ l1 l2, l = l1 ++ l2 ∧ l1.map f = X ∧ l2.map f = Y := List.map_eq_append_iff.1 h

/-- Items. -/
theorem asm_items {w wc : World} {R8 m G : Nat} {s8 n8 : Option Addr} {d8 e8 f8 : Nat} {ca : Option Addr} {cc : Nat} {cm sh : List Int} {l : List Arr} {qs : List Value}
    (hC : AsmC w wc.heap.size R8 (.int .i64 3) (.slice s8 sh.length d8) (.slice n8 0 e8) (.slice (some ⟨G, 0, none⟩) (l.length * m) f8) wc) (hs : IntsOn (fun g => g ≠ G) wc s8 d8 sh)
    (hb1 : w.heap.size < G) (hb2 : G ≠ R8) (hh : wc.heap[G]? = some (.cells qs.toArray 26 (0, 0))) (hone : ∀ u ∈ qs, u.oneCell' = true) (hq : Quads (fun g => g ≠ G) wc qs (List.replicate (l.length * m) fillI))
    (he : e8 ≤ 9223372036854775807) (hf : l.length * m ≤ f8) (hf2 : f8 ≤ 9223372036854775807) (hN : l.length * m ≠ 0) (hL : l.length ≤ 65536) (hm : m = prN cm) (hr : rightB cm = true) (hcm : IntsAt w ca cc cm) (hok : ∀ A ∈ l, Okay 3 cm A) :
    ∃ D D' vI vA, AsmD w wc.heap.size R8 3 s8 sh.length d8 n8 0 e8 (some ⟨G, 0, none⟩) (l.length * m) f8 m ca cc cm l (asmA 3 sh cm l) D D' vI vA ∧ D 0 wc := by
  have hNN := (right_def.1 hr).2.1
  have hm0 : m ≠ 0 := fun e => hN (by rw [e, Nat.mul_zero])
  have hfl : ∀ A ∈ l, (partI cm A).length = m := fun A hA => by
    have o := hok A hA
    rw [partI, hm, padS_len _ _ _ _ (by rw [leadS_len o.len]) hNN (leadS_NN o.nn) (by rw [leadS_prN o.nn]; exact (o.items rfl).1)]
  have hml := Nat.le_mul_of_pos_left m (show 0 < l.length from Nat.pos_of_ne_zero fun e => hN (by rw [e, Nat.zero_mul]))
  refine ⟨fun i W => (AsmC w wc.heap.size R8 (.int .i64 3) (.slice s8 sh.length d8) (.slice n8 0 e8) (.slice (some ⟨G, 0, none⟩) (l.length * m) f8) W ∧ IntsOn (fun g => g ≠ G) W s8 d8 sh) ∧ ∃ ps : List (List Value × Arr), ps.map Prod.snd = curS fillI (partI cm) l i m ∧ (∀ p ∈ ps, ItemAt G W p) ∧ AreaAt W G 26 [] (ps.map Prod.fst).flatten [],
    fun i W => (AsmC w wc.heap.size R8 (.int .i64 3) (.slice s8 sh.length d8) (.slice n8 0 e8) (.slice (some ⟨G, 0, none⟩) (l.length * m) f8) W ∧ IntsOn (fun g => g ≠ G) W s8 d8 sh) ∧ ∃ ps : List (List Value × Arr), ps.map Prod.snd = curS fillI (partI cm) l i m ∧ (∀ p ∈ ps, ItemAt G W p) ∧ AreaAt W G 26 [] (ps.map Prod.fst).flatten [],
    fun _ => .slice none 0 0, fun i => .slice (some ⟨G, 0 + i * m * 4, none⟩) m m, ⟨fun _ _ h => h.1.1, fun _ _ h => h.1.1, ?_, ?_, ?_, ?_, ?_, ?_, ?_⟩, ⟨hC, hs⟩, ?_⟩
  · rintro i W W' ⟨⟨h1, h2⟩, ps, h3, h4, h5⟩ hb
    exact ⟨⟨h1.below hb, h2.keep fun g hg hl => ⟨hg, fun o => hb.cell hl⟩⟩, ps, h3, fun p hp => (h4 p hp).below hb, (hb.block G (lt_of_heap h5)).trans h5⟩
  · rintro i W W' ⟨⟨h1, h2⟩, ps, h3, h4, h5⟩ hb
    exact ⟨⟨h1.below hb, h2.keep fun g hg hl => ⟨hg, fun o => hb.cell hl⟩⟩, ps, h3, fun p hp => (h4 p hp).below hb, (hb.block G (lt_of_heap h5)).trans h5⟩
  · exact fun i _ W => blockI_nil n8 e8 i m W
  · intro i hi W
    have := blockA (some ⟨G, 0, none⟩) (l.length * m) f8 i m W hN hf hf2 (Nat.mul_le_mul_right _ hi) (by omega)
    rw [blkA_some hm0] at this
    exact this
  · intro i hi W k' sa ls sc na ln nc ia li ic _ hD
    refine (placeI_zero _ _ _ _ _ _ _ _ _ _ _ W).mono ?_
    rintro e w' ⟨rfl, rfl⟩
    exact ⟨rfl, hD, w.heap.size, hC.q6.lt, But.refl _ _⟩
  · intro i hi W k' sa ls sc na ln nc ia li ic hA hD
    obtain ⟨⟨dC, dS⟩, ps, p1, p2, p3⟩ := hD
    have o := hok _ (List.getElem_mem hi)
    have hl2 : ∀ A ∈ l.take i, (partI cm A).length = m := fun A hA => hfl A (List.mem_of_mem_take hA)
    have hdl := done_len (partI cm) m (l.take i) hl2
    rw [List.length_take, Nat.min_eq_left (by omega)] at hdl
    have hst := curS_step fillI (partI cm) l i m hi
    rw [hst]
    rw [curS_split fillI _ l i m hi] at p1
    obtain ⟨pa, pr, rfl, hpa, hpr⟩ := cut_append p1
    obtain ⟨pb, pc, rfl, hpb, hpc⟩ := cut_append hpr
    have hpal : pa.length = i * m := by rw [← hdl, ← hpa, List.length_map]
    have hpbl : pb.length = m := by rw [← List.length_map (f := Prod.snd), hpb, List.length_replicate]
    rw [List.map_append, List.map_append, List.flatten_append, List.flatten_append] at p3
    have p4 : AreaAt W G 26 ([] ++ (pa.map Prod.fst).flatten) (pb.map Prod.fst).flatten ((pc.map Prod.fst).flatten ++ []) := area_mid.1 p3
    have hpt : partI cm l[i] = padS fillI cm (leadS l[i].shape cm.length) l[i].items := rfl
    rw [hpt]
    generalize l[i] = A at hA o hpt
    obtain ⟨ak, ash, anu, ait⟩ := A
    have hAon := hA.on
    rw [ArrAt] at hA
    rw [ArrOn] at hAon
    obtain ⟨sa', sc', na', nc', ia', ic', hv, -, hsh, hnu, hic, hic2, b', off', hia, his⟩ := hAon
    simp only [Value.agg.injEq, Array.mk.injEq, List.cons.injEq, and_true, Value.slice.injEq] at hv
    obtain ⟨-, ⟨rfl, rfl, rfl⟩, -, ⟨rfl, rfl, rfl⟩⟩ := hv
    obtain ⟨qs', q1, q2, q3, q4⟩ := arrs_quads his
    have hbW := dC.bel
    obtain ⟨es, e1, e2, e3⟩ := quads_pairs (W := W) (G := G) (fun g hg hl => ⟨by omega, fun o => hbW.cell hl⟩) q3 q4
    have hesl : (es.map Prod.fst).length = ait.length := by rw [List.length_map, ← List.length_map (f := Prod.snd), e1]
    have hpbu : Units 4 (pb.map Prod.fst) := items_units fun p hp => p2 p (by simp [hp])
    have hpau : Units 4 (pa.map Prod.fst) := items_units fun p hp => p2 p (by simp [hp])
    have hP : PlA W cm ash 26 (es.map Prod.fst) (pb.map Prod.fst) ([] ++ (pa.map Prod.fst).flatten) ((pc.map Prod.fst).flatten ++ []) G m m cc ic sc (some ⟨G, 0 + i * m * 4, none⟩) ca ia sa := by
      refine ⟨hr, o.nn, o.len, (fun h9 => o.fit (by rw [← hm]; exact h9)), by rw [hesl]; exact (o.items rfl).1, hpbu, by rw [List.length_map]; exact hpbl, items_units e3, hm, Nat.le_refl _, by omega, fun _ => ?_, by rw [hesl]; exact hic, hic2, ?_, p4, hcm.onNe (by omega) dC.bel, hsh.1.onNe (by omega) dC.bel⟩
      · rw [List.nil_append, hpau.len, List.length_map, hpal, Nat.zero_add]
      · rw [e2]
        intro hne
        have hit : ait ≠ [] := by intro e; subst e; simp at q1; exact hne q1
        obtain ⟨h1, h2⟩ := hia hit
        refine ⟨b', off', h1, by omega, fun j v hj => ?_⟩
        have hjl := (List.getElem?_eq_some_iff.1 hj).1
        rw [hbW.cell h2, q2 j hjl, ← hj, List.getElem?_eq_getElem hjl]
    have := placeA W cm ash 26 _ _ _ _ G m m cc ic sc _ ca ia sa hP
    rw [hesl] at this
    refine this.mono ?_
    rintro e w' ⟨he', hA', hB'⟩
    rw [padT_map] at hA'
    refine ⟨he', ⟨⟨dC.but hB' hb1 hb2, dS.but hB'⟩, pa ++ (padT cm (leadS ash cm.length) es pb ++ pc), ?_, ?_, ?_⟩, G, lt_of_heap hh, hB'⟩
    · rw [List.map_append, List.map_append, hpa, hpc, ← padT_map, e1, hpb, hm, padT_rep _ _ _ _ (show cm.length = (leadS ash cm.length).length from (leadS_len o.len).symm) hNN]
      rfl
    · intro p hp
      rcases List.mem_append.1 hp with h | h
      · exact (p2 p (by simp [h])).but hB'
      · rcases List.mem_append.1 h with h | h
        · rcases padT_mem _ _ _ _ p h with h | h
          · exact (p2 p (by simp [h])).but hB'
          · exact (e3 p h).but hB'
        · exact (p2 p (by simp [h])).but hB'
    · rw [List.map_append, List.map_append, List.flatten_append, List.flatten_append]
      exact area_mid.2 hA'
  · rintro W ⟨⟨-, hS⟩, ps, p1, p2, p3⟩
    rw [curS_end] at p1
    have hcl := done_len (partI cm) m l hfl
    rw [asmA, if_pos rfl, if_pos rfl, ArrAt]
    refine ⟨s8, d8, n8, e8, _, f8, by rw [hcl]; rfl, by decide, hS.1, ⟨Nat.zero_le _, he, fun x hx => absurd hx (by simp), 0, 0, fun hn => absurd rfl hn, fun i hi => absurd hi (by simp)⟩, by rw [hcl]; exact hf, hf2, G, 0, fun _ => rfl, ?_⟩
    have hq := pairs_quads p2
    rw [p1] at hq
    refine ArrsOn.at (P := fun g => g ≠ G) (hq.arrs fun i hi => ?_)
    unfold AreaAt at p3
    simp only [World.cell?, p3, List.nil_append, List.append_nil, Nat.zero_add]
    show (((ps.map Prod.fst).flatten).toArray)[i]? = _
    simp
  · obtain ⟨ps, h1, h2, h3⟩ := quads_pairs (W := wc) (G := G) (fun g hg _ => ⟨hg, fun _ => rfl⟩) hq hone
    refine ⟨ps, by rw [curS_zero]; exact h1, h3, ?_⟩
    unfold AreaAt
    rw [h2, List.nil_append, List.append_nil]
    exact hh
theorem nums_bd {w : World} {b off : Nat} {l : List Arr} (h : ArrsAt w b off l) : ∀ A ∈ l, ∀ x ∈ A.nums, -9223372036854775808 ≤ x ∧ x ≤ 9223372036854775807 := by
  intro A hA x hx
  obtain ⟨j, hj, rfl⟩ := List.getElem_of_mem hA
  obtain ⟨c0, c1, c2, c3, -, hI⟩ := h.at hj
  generalize l[j] = B at hI hx
  obtain ⟨k, sh, nu, it⟩ := B
  rw [ArrAt] at hI
  obtain ⟨sa, sc, na, nc, ia, ic, -, -, -, hn, -⟩ := hI
  exact hn.2.2.1 x hx
/-- The three together. -/
theorem asm_data {w wc : World} {R8 m : Nat} {k k8 : Int} {s8 n8 i8 : Option Addr} {l8 d8 m8 e8 j8 f8 : Nat} {ca : Option Addr} {cc : Nat} {cm sh : List Int} {l : List Arr}
    (hC : AsmC w wc.heap.size R8 (.int .i64 k8) (.slice s8 l8 d8) (.slice n8 m8 e8) (.slice i8 j8 f8) wc) (hS : SplitOn (fun g => w.heap.size < g ∧ g ≠ R8) wc (.agg #[.int .i64 k8, .slice s8 l8 d8, .slice n8 m8 e8, .slice i8 j8 f8]) (allF k sh)) (hk : 1 ≤ k ∧ k ≤ 3)
    (hL : l.length * m = prN sh) (hL0 : l ≠ []) (hL2 : l.length ≤ 65536) (hm : m = prN cm) (hr : rightB cm = true) (hcm : IntsAt w ca cc cm) (hok : ∀ A ∈ l, Okay k cm A) (hnb : ∀ A ∈ l, ∀ x ∈ A.nums, -9223372036854775808 ≤ x ∧ x ≤ 9223372036854775807) :
    ∃ D D' vI vA, AsmD w wc.heap.size R8 k8 s8 l8 d8 n8 m8 e8 i8 j8 f8 m ca cc cm l (asmA k sh cm l) D D' vI vA ∧ D 0 wc := by
  have hNN := (right_def.1 hr).2.1
  have hpN : ∀ A ∈ l, k ≠ 3 → (partN k cm A).length = m := fun A hA hk3 => by
    have o := hok A hA
    rw [partN, hm, padS_len _ _ _ _ (by rw [leadS_len o.len]) hNN (leadS_NN o.nn) (by rw [leadS_prN o.nn]; exact (o.nums hk3).1)]
  have hpI : ∀ A ∈ l, k = 3 → (partI cm A).length = m := fun A hA hk3 => by
    have o := hok A hA
    rw [partI, hm, padS_len _ _ _ _ (by rw [leadS_len o.len]) hNN (leadS_NN o.nn) (by rw [leadS_prN o.nn]; exact (o.items hk3).1)]
  by_cases hk3 : k = 3
  · subst hk3
    rw [allF_box, ← hL] at hS
    obtain ⟨M, G, a1, c1, a2, c2, a3, c3, hv, hkd, i1, i2, h1, h2, row⟩ := hS
    simp only [Value.agg.injEq, Array.mk.injEq, List.cons.injEq, and_true, Value.slice.injEq, Value.int.injEq, true_and, Arr.kind, Arr.shape, Arr.nums, Arr.items, List.length_nil, List.length_replicate] at hv i1 i2 h1 row
    obtain ⟨rfl, ⟨rfl, rfl, rfl⟩, ⟨rfl, rfl, rfl⟩, ⟨rfl, rfl, rfl⟩⟩ := hv
    by_cases hN : l.length * m = 0
    · have hR : asmA 3 sh cm l = .mk 3 sh [] [] := by
        rw [asmA, if_pos rfl, if_pos rfl]
        congr 1
        exact List.eq_nil_of_length_eq_zero (by rw [done_len _ m l (fun A hA => hpI A hA rfl), hN])
      rw [hN] at hC ⊢
      exact asm_zero hC i1.1 (by decide) i2.1.2.1 h2 hR
    · obtain ⟨rfl, hG, qs, q1, q2, q3⟩ := row (fun e => hN (by have := congrArg List.length e; simpa using this))
      exact asm_items hC (i1.mono fun g hg => hg.1.2.2) hG.1 hG.2 q1 q2 (q3.keep fun g hg _ => ⟨hg.2.2, fun _ => rfl⟩) i2.1.2.1 h1 h2 hN hL2 hm hr hcm hok
  · have hk12 : k = 1 ∨ k = 2 := by omega
    rw [allF_num hk12, ← hL] at hS
    obtain ⟨M, G, a1, c1, a2, c2, a3, c3, hv, hkd, i1, i2, h1, h2, row⟩ := hS
    simp only [Value.agg.injEq, Array.mk.injEq, List.cons.injEq, and_true, Value.slice.injEq, Value.int.injEq, true_and, Arr.kind, Arr.shape, Arr.nums, Arr.items, List.length_nil, List.length_replicate] at hv i1 i2 h1 row hkd
    obtain ⟨rfl, ⟨rfl, rfl, rfl⟩, ⟨rfl, rfl, rfl⟩, ⟨rfl, rfl, rfl⟩⟩ := hv
    by_cases hN : l.length * m = 0
    · have hR : asmA k8 sh cm l = .mk k8 sh [] [] := by
        rw [asmA, if_neg hk3, if_neg hk3]
        congr 1
        exact List.eq_nil_of_length_eq_zero (by rw [done_len _ m l (fun A hA => hpN A hA hk3), hN])
      rw [hN] at hC ⊢
      exact asm_zero hC i1.1 hkd i2.1.2.1 h2 hR
    · have hne : List.replicate (l.length * m) (fillZ k8) ≠ [] := fun e => hN (by have := congrArg List.length e; simpa using this)
      obtain ⟨⟨n1, n2, n3, bN, oN, ha, hcl⟩, hp⟩ := i2
      have ha' := ha hne
      subst ha'
      obtain ⟨⟨⟨hb1, hb2⟩, ⟨cs, T, hh⟩, -⟩, hM⟩ := hp hne _ rfl
      simp only [List.length_replicate] at n1 hcl
      exact asm_nums (z := fillZ k8) rfl hC (i1.mono fun g hg => by have := hg.2; have hM' : M ≤ bN := hM; omega) hk12 hb1 hb2 (fun i hi => by rw [hcl i hi]; simp) hh n1 n2 h2 hN hL2 hm hr hcm hok hnb
end Go.Proofs.Ytkjbccodahleoaa.Shape
